/- The contract of the law's own call at what any right program answers: it returns true. No condition. -/
import Derived.Test.YtglggigndhbpcaaZLawm
import Derived.Test.YtglggigndhbpcaaZLrows
import Derived.Test.YtglggigndhbpcaaZLn
import Derived.Test.YtglggigndhbpcaaZLg
import Derived.Test.YtglggigndhbpcaaZLfol
import Derived.Deep.RegionLaw
import Derived.Deep.DeepCutAuto
namespace Go.Proofs.Ytglggigndhbpcaa
open Go.RowKit

theorem ints_three (W : World) (x y z : Int) : IntsIn (W.alloc (.cells #[.int .i64 x, .int .i64 y, .int .i64 z] 3)) (· < W.heap.size + 1) [x, y, z] (some ⟨W.heap.size, 0, none⟩) 3 :=
  .mk (Nat.le_refl _) (by omega) (by omega) (fun i hi => by
    have h := heap_new W (.cells #[.int .i64 x, .int .i64 y, .int .i64 z] 3)
    match i, hi with
    | 0, _ => exact cell_at h 0
    | 1, _ => exact cell_at h 1
    | 2, _ => exact cell_at h 2)
/-- The store that awake makes lies in its variable. -/
def AwS (w : World) (X : Nat) (x : Option Addr) (c : Nat) (xm : Option Addr) (cm : Nat) (W : World) : Prop :=
  W.heap[X]? = some (.cells #[.int .i64 3, .slice x 2 c, .slice xm 3 cm] 25 (0, 0)) ∧ ClsIn W (· < W.heap.size) awC x c ∧ IntsIn W (· < W.heap.size) [0, 1, 1] xm cm ∧ w.heap.size ≤ X ∧ Below w.heap.size w W
theorem AwS.next {w W W' : World} {X c cm : Nat} {x xm : Option Addr} (h : AwS w X x c xm cm W) (hb : Below W.heap.size W W') : AwS w X x c xm cm W' := by
  obtain ⟨h1, h2, h3, h4, h5⟩ := h
  exact ⟨(hb.block _ (lt_of_block h1)).trans h1, (h2.below hb).mono hb.size, (h3.below hb).mono hb.size, h4, Below.step h5 hb (Nat.le_refl _)⟩
theorem AwS.cells {w W : World} {X c cm : Nat} {x xm : Option Addr} (h : AwS w X x c xm cm W) : W.cell? ⟨X, 0, none⟩ = some (.int .i64 3) ∧ W.cell? ⟨X, 1, none⟩ = some (.slice x 2 c) ∧ W.cell? ⟨X, 2, none⟩ = some (.slice xm 3 cm) :=
  ⟨cell_at h.1 0, cell_at h.1 1, cell_at h.1 2⟩
theorem aw_New (w : World) : Calls Try.prog 8 #[.int .i64 3] w (fun e w' => ∃ x c, e = .returned (.tuple #[.agg #[.int .i64 3, .slice none 0 0, .slice x 3 c], .int .i64 0]) ∧ IntsIn w' (· < w'.heap.size) (zerosJ (3 : Int).toNat) x c ∧ Below w.heap.size w w') := by
  refine (sNew_any 3 w).mono ?_
  rintro e w' ⟨x, c, rfl, h, hb⟩
  exact ⟨x, c, rfl, h.ints, hb⟩
/-- The new store in its variable. -/
def AwZ (w : World) (X : Nat) (xm : Option Addr) (cm : Nat) (W : World) : Prop :=
  W.heap[X]? = some (.cells #[.int .i64 3, .slice none 0 0, .slice xm 3 cm] 25 (0, 0)) ∧ IntsIn W (fun b => b < W.heap.size ∧ b ≠ X) (zerosJ (3 : Int).toNat) xm cm ∧ w.heap.size ≤ X ∧ Below w.heap.size w W
theorem AwZ.next {w W W' : World} {X cm : Nat} {xm : Option Addr} (h : AwZ w X xm cm W) (hb : Below W.heap.size W W') : AwZ w X xm cm W' := by
  obtain ⟨h1, h3, h4, h5⟩ := h
  exact ⟨(hb.block _ (lt_of_block h1)).trans h1, (h3.keep (fun b h => hb.block b h.1)).weak (fun b h => ⟨Nat.lt_of_lt_of_le h.1 hb.size, h.2⟩), h4, Below.step h5 hb (Nat.le_refl _)⟩
theorem AwZ.cells {w W : World} {X cm : Nat} {xm : Option Addr} (h : AwZ w X xm cm W) : W.cell? ⟨X, 0, none⟩ = some (.int .i64 3) ∧ W.cell? ⟨X, 1, none⟩ = some (.slice none 0 0) ∧ W.cell? ⟨X, 2, none⟩ = some (.slice xm 3 cm) :=
  ⟨cell_at h.1 0, cell_at h.1 1, cell_at h.1 2⟩
/-- What the first Add answers, in the order in which it is laid into the variable. -/
def AwP (w : World) (X : Nat) (xm : Option Addr) (cm : Nat) (e : Ending) (w' : World) : Prop :=
  ∃ y d ym dm xp n cp, e = .returned (.tuple #[.agg #[.int .i64 3, .slice y 2 d, .slice ym 3 dm], .slice xp n cp, .int .i64 0]) ∧
    w'.cell? ⟨X, 0, none⟩ = some (.int .i64 3) ∧ w'.cell? ⟨X, 1, none⟩ = some (.slice none 0 0) ∧ w'.cell? ⟨X, 2, none⟩ = some (.slice xm 3 cm) ∧ (∀ o, w'.frozen? ⟨X, o, none⟩ = false) ∧
    Hid (AwS w X y d ym dm (((w'.setCell ⟨X, 0, none⟩ (.int .i64 3)).setCell ⟨X, 1, none⟩ (.slice y 2 d)).setCell ⟨X, 2, none⟩ (.slice ym 3 dm)))
theorem aw_Add {w W : World} {X cm : Nat} {xm : Option Addr} (h : AwZ w X xm cm W) {x : Option Addr} (hk : ClsIn W (fun b => b < W.heap.size ∧ b ≠ X) awC x 2) :
    Calls Try.prog 19 #[.agg #[.int .i64 3, .slice none 0 0, .slice xm 3 cm], .slice x 2 2] W (AwP w X xm cm) := by
  have := sAdd_off (· = X) 3 [] awC (zerosJ (3 : Int).toNat) none xm x 0 cm 2 W (fun b hb => by rw [hb]; exact lt_of_block h.1) (.none _ _) h.2.1 hk (by decide) (by decide) (by decide) (by decide)
  rw [aw_add.1, aw_add.2.1, aw_add.2.2] at this
  refine this.mono ?_
  rintro e w' ⟨y, d, ym, dm, xp, cp, rfl, h1, h2, _, b⟩
  obtain ⟨q, _, hX, hB⟩ := h.next b
  exact ⟨y, d, ym, dm, xp, _, cp, rfl, cell_at q 0, cell_at q 1, cell_at q 2, free_of q, Lib.hid ⟨set3 q, (h1.keep (fun b hb => set3_oldT _ _ _ _ _ hb.2)).weak (fun b hb => by simpa using hb.1), (h2.keep (fun b hb => set3_oldT _ _ _ _ _ hb.2)).weak (fun b hb => by simpa using hb.1), hX, ((hB.setCell (p := ⟨_, 0, none⟩) hX _).setCell (p := ⟨_, 1, none⟩) hX _).setCell (p := ⟨_, 2, none⟩) hX _⟩⟩
/-- The two clauses are made, in either order, and added. -/
theorem aw_AddTwo {w W1 WB : World} {X cm gA gB : Nat} {xm : Option Addr} (h : AwZ w X xm cm W1) (b2 : Below W1.heap.size W1 WB)
    (hA : AtsIn WB (fun b => W1.heap.size ≤ b ∧ b < WB.heap.size) [(0, 0)] (some ⟨gA, 0, none⟩) 1) (hB : AtsIn WB (fun b => W1.heap.size ≤ b ∧ b < WB.heap.size) [(1, 0)] (some ⟨gB, 0, none⟩) 1) :
    Calls Try.prog 19 #[.agg #[.int .i64 3, .slice none 0 0, .slice xm 3 cm], .slice (some ⟨WB.heap.size, 0, none⟩) 2 2] (WB.alloc (.cells #[.slice (some ⟨gA, 0, none⟩) 1 1, .int .i64 1, .int .i64 1, .slice (some ⟨gB, 0, none⟩) 1 1, .int .i64 2, .int .i64 0] 35)) (AwP w X xm cm) := by
  have hX := lt_of_block h.1
  have hz := b2.size
  refine aw_Add ((h.next b2).next ((Below.refl _ _).alloc (Nat.le_refl _) _)) ((row_two hA hB (fun b hb => hb.2)).weak fun b hb => ?_)
  rcases hb with rfl | hb
  · exact ⟨by simp, by omega⟩
  · exact ⟨by simp; omega, by omega⟩
theorem ar_keep {W W' : World} {B : Nat} {a : Int} {g : Nat} (h : AtsIn W (fun b => B ≤ b ∧ b < W.heap.size) [(a, 0)] (some ⟨g, 0, none⟩) 1) (hb : Below W.heap.size W W') : AtsIn W' (fun x => B ≤ x ∧ x < W'.heap.size) [(a, 0)] (some ⟨g, 0, none⟩) 1 :=
  (h.keep (fun b hb2 => hb.block b hb2.2)).weak (fun _ hb2 => ⟨hb2.1, Nat.lt_of_lt_of_le hb2.2 hb.size⟩)
theorem at_new (W : World) (a b : Int) : AtsIn (W.alloc (.cells #[.int .i64 a, .int .i64 b] 27)) (· < W.heap.size + 1) [(a, b)] (some ⟨W.heap.size, 0, none⟩) 1 := one_at (heap_new W _) (Nat.lt_succ_self _)
theorem aw_Fol {w W : World} {X d dm : Nat} {y ym : Option Addr} (h : AwS w X y d ym dm W) {av aw : Int} {R : Bool} (hR : folB 3 awC [0, 1, 1] (av, aw) [(0, 0)] = R) (hE : folE 3 awC [0, 1, 1] (av, aw) [(0, 0)] = 0) :
    Calls Try.prog 20 #[.agg #[.int .i64 3, .slice y 2 d, .slice ym 3 dm], .agg #[.int .i64 av, .int .i64 aw], .slice (some ⟨W.heap.size, 0, none⟩) 1 1] (W.alloc (.cells #[.int .i64 0, .int .i64 0] 27)) fun e w' => e = .returned (.tuple #[.bool R, .int .i64 0]) ∧ Below W.heap.size W w' := by
  have hb : Below W.heap.size W (W.alloc (.cells #[.int .i64 0, .int .i64 0] 27)) := (Below.refl _ _).alloc (Nat.le_refl _) _
  have := sFollows_any 3 av aw awC [(0, 0)] [0, 1, 1] y ym _ d dm 1 (W.heap.size + 1) _ ((h.2.1.below hb).mono (by omega)) ((h.2.2.1.below hb).mono (by omega)) (at_new W 0 0) (by simp) (by decide) (by decide)
  rw [hR, hE] at this
  refine this.mono ?_
  rintro e w' ⟨rfl, b⟩
  exact ⟨rfl, hb.trans (b.mono (by simp))⟩
/-- A store's variable that holds nothing yet. -/
def BzS (Y : Nat) (W : World) : Prop := W.heap[Y]? = some (.cells #[.int .i64 0, .slice none 0 0, .slice none 0 0] 25 (0, 0))
theorem BzS.facts {Y : Nat} {W : World} (h : BzS Y W) : W.cell? ⟨Y, 0, none⟩ = some (.int .i64 0) ∧ W.cell? ⟨Y, 1, none⟩ = some (.slice none 0 0) ∧ W.cell? ⟨Y, 2, none⟩ = some (.slice none 0 0) ∧ (∀ o, W.frozen? ⟨Y, o, none⟩ = false) :=
  ⟨cell_at h 0, cell_at h 1, cell_at h 2, free_of h⟩
/-- Three numbers don't lie in such a variable. -/
theorem ints_off {W : World} {P : Nat → Prop} {Y : Nat} {p q r : Int} {x : Option Addr} {c : Nat} (h : BzS Y W) (hi : IntsIn W P [p, q, r] x c) : IntsIn W (fun b => P b ∧ b ≠ Y) [p, q, r] x c := by
  obtain ⟨h1, h2, h3, h4⟩ := hi
  refine ⟨h1, h2, h3, fun hx => ?_⟩
  obtain ⟨b, o, e, hb, hf⟩ := h4 hx
  refine ⟨b, o, e, ⟨hb, fun hY => ?_⟩, hf⟩
  subst hY
  have f1 := hf 1 (by simp)
  have f2 := hf 2 (by simp)
  rw [cell_at h] at f1 f2
  match o with
  | 0 => simp at f1
  | 1 => simp at f1
  | o + 2 => simp at f1
theorem aw_early {w W WC : World} {X Y d dm : Nat} {y ym xp : Option Addr} {cp : Nat} (hS : AwS w X y d ym dm W) (hb : Below W.heap.size W WC) (hY : W.heap.size ≤ Y) (h : BzS Y WC) (hi : IntsIn WC (· < WC.heap.size) [0, 1, 2] xp cp) (u v z : Value) :
    Hid (AwS w X y d ym dm (((WC.setCell ⟨Y, 0, none⟩ u).setCell ⟨Y, 1, none⟩ v).setCell ⟨Y, 2, none⟩ z)) ∧ Hid (IntsIn (((WC.setCell ⟨Y, 0, none⟩ u).setCell ⟨Y, 1, none⟩ v).setCell ⟨Y, 2, none⟩ z) (· < (((WC.setCell ⟨Y, 0, none⟩ u).setCell ⟨Y, 1, none⟩ v).setCell ⟨Y, 2, none⟩ z).heap.size) [0, 1, 2] xp cp) :=
  ⟨Lib.hid (hS.next (((hb.setCell (p := ⟨Y, 0, none⟩) hY _).setCell (p := ⟨Y, 1, none⟩) hY _).setCell (p := ⟨Y, 2, none⟩) hY _)),
    Lib.hid (((ints_off h hi).keep (fun b hb => set3_oldT _ _ _ _ _ hb.2)).weak (fun b hb => by simpa using hb.1))⟩
theorem aw_late {w W WC : World} {X d dm : Nat} {y ym xp : Option Addr} {cp : Nat} (hS : AwS w X y d ym dm W) (hb : Below W.heap.size W WC) (hi : IntsIn WC (· < WC.heap.size) [0, 1, 2] xp cp) (o : Obj) :
    Hid (AwS w X y d ym dm (WC.alloc o)) ∧ Hid (IntsIn (WC.alloc o) (· < (WC.alloc o).heap.size) [0, 1, 2] xp cp) :=
  ⟨Lib.hid (hS.next (hb.alloc hb.size _)), Lib.hid ((hi.below ((Below.refl _ _).alloc (Nat.le_refl _) o)).mono (by simp))⟩
theorem aw_Loop {w V : World} {X d dm : Nat} {y ym x : Option Addr} (h : AwS w X y d ym dm V) (hk : ClsIn V (· < V.heap.size) awD x 1) :
    Calls Try.prog 19 #[.agg #[.int .i64 3, .slice y 2 d, .slice ym 3 dm], .slice x 1 1] V fun e w' => ∃ y2 n2 d2 ym2 n3 dm2 xp cp, e = .returned (.tuple #[.agg #[.int .i64 3, .slice y2 n2 d2, .slice ym2 n3 dm2], .slice xp 3 cp, .int .i64 30]) ∧ IntsIn w' (· < w'.heap.size) [0, 1, 2] xp cp ∧ Below V.heap.size V w' := by
  have := sAdd_any 3 awC awD [0, 1, 1] y ym x d dm 1 V.heap.size V h.2.1 h.2.2.1 hk (Nat.le_refl _) (by decide) (by decide) (by decide) (by decide)
  rw [aw_loop.1, aw_loop.2] at this
  refine this.mono ?_
  rintro e w' ⟨y2, d2, ym2, dm2, xp, cp, rfl, _, _, hi, b⟩
  exact ⟨y2, _, d2, ym2, _, dm2, xp, cp, rfl, hi, b⟩
theorem row_oneD {W : World} {g : Nat} (h : AtsIn W (· < W.heap.size) [(2, 0)] (some ⟨g, 0, none⟩) 1) : ClsIn (W.alloc (.cells #[.slice (some ⟨g, 0, none⟩) 1 1, .int .i64 0, .int .i64 1] 35)) (· < W.heap.size + 1) awD (some ⟨W.heap.size, 0, none⟩) 1 :=
  (row_one h (fun _ hb => hb)).weak (fun b hb => by rcases hb with rfl | hb <;> omega)
theorem row_oneD1 {W : World} {g : Nat} (h : AtsIn W (· < W.heap.size) [(2, 0)] (some ⟨g, 0, none⟩) 1) (o : Obj) : ClsIn ((W.alloc (.cells #[.slice (some ⟨g, 0, none⟩) 1 1, .int .i64 0, .int .i64 1] 35)).alloc o) (· < ((W.alloc (.cells #[.slice (some ⟨g, 0, none⟩) 1 1, .int .i64 0, .int .i64 1] 35)).alloc o).heap.size) awD (some ⟨W.heap.size, 0, none⟩) 1 :=
  ((row_oneD h).keep (fun b hb => heap_old _ _ (by rw [World.size_alloc]; exact hb))).weak (fun b hb => by rw [World.size_alloc, World.size_alloc]; omega)
theorem row_oneD2 {W : World} {g : Nat} (h : AtsIn W (· < W.heap.size) [(2, 0)] (some ⟨g, 0, none⟩) 1) (o : Obj) : ClsIn ((W.alloc o).alloc (.cells #[.slice (some ⟨g, 0, none⟩) 1 1, .int .i64 0, .int .i64 1] 35)) (· < ((W.alloc o).alloc (.cells #[.slice (some ⟨g, 0, none⟩) 1 1, .int .i64 0, .int .i64 1] 35)).heap.size) awD (some ⟨W.heap.size + 1, 0, none⟩) 1 := by
  have := row_oneD (W := W.alloc o) ((h.keep (fun b hb => heap_old _ _ hb)).weak (fun b hb => by rw [World.size_alloc]; omega))
  rw [World.size_alloc] at this
  exact this.weak (fun b hb => by rw [World.size_alloc, World.size_alloc]; exact hb)
theorem row_oneD0 {W : World} {g : Nat} (h : AtsIn W (· < W.heap.size) [(2, 0)] (some ⟨g, 0, none⟩) 1) : ClsIn (W.alloc (.cells #[.slice (some ⟨g, 0, none⟩) 1 1, .int .i64 0, .int .i64 1] 35)) (· < (W.alloc (.cells #[.slice (some ⟨g, 0, none⟩) 1 1, .int .i64 0, .int .i64 1] 35)).heap.size) awD (some ⟨W.heap.size, 0, none⟩) 1 :=
  (row_oneD h).weak (fun b hb => by rw [World.size_alloc]; exact hb)
theorem bz_second {W WC : World} {o : Obj} (h : Below ((W.alloc o).alloc (.cells #[.int .i64 0, .slice none 0 0, .slice none 0 0] 25)).heap.size ((W.alloc o).alloc (.cells #[.int .i64 0, .slice none 0 0, .slice none 0 0] 25)) WC) : BzS (W.heap.size + 1) WC := (h.block _ (by simp)).trans (heap_second W _ _)
theorem bz_first {W WC : World} {o : Obj} (h : Below ((W.alloc (.cells #[.int .i64 0, .slice none 0 0, .slice none 0 0] 25)).alloc o).heap.size ((W.alloc (.cells #[.int .i64 0, .slice none 0 0, .slice none 0 0] 25)).alloc o) WC) : BzS W.heap.size WC := (h.block _ (by rw [World.size_alloc, World.size_alloc]; omega)).trans ((heap_old _ _ (by rw [World.size_alloc]; omega)).trans (heap_new W _))
theorem bz_old {W WC : World} {o : Obj} {Y : Nat} (h : Below (W.alloc o).heap.size (W.alloc o) WC) (q : BzS Y W) : BzS Y WC := (h.block _ (by have := lt_of_block q; rw [World.size_alloc]; omega)).trans ((heap_old _ _ (lt_of_block q)).trans q)
theorem bl_one {V W WC : World} {o : Obj} (h : Below V.heap.size V W) (b : Below (W.alloc o).heap.size (W.alloc o) WC) : Below V.heap.size V WC := (h.alloc h.size _).trans (b.mono (by have := h.size; rw [World.size_alloc]; omega))
theorem bl_two {V W WC : World} {o o' : Obj} (h : Below V.heap.size V W) (b : Below ((W.alloc o).alloc o').heap.size ((W.alloc o).alloc o') WC) : Below V.heap.size V WC := bl_one (h.alloc h.size _) b
theorem bl_drew {V W WC : World} {o : Obj} (h : Below V.heap.size V W) (b : Below (W.alloc o).drew.heap.size (W.alloc o).drew WC) : Below V.heap.size V WC := (h.alloc h.size _).drew.trans (b.mono (by have := h.size; show _ ≤ (W.alloc o).heap.size; rw [World.size_alloc]; omega))
theorem bz_drew {W WC : World} (b : Below (W.alloc (.cells #[.int .i64 0, .slice none 0 0, .slice none 0 0] 25)).drew.heap.size (W.alloc (.cells #[.int .i64 0, .slice none 0 0, .slice none 0 0] 25)).drew WC) : BzS W.heap.size WC := (b.block _ (by show _ < (W.alloc _).heap.size; rw [World.size_alloc]; omega)).trans (heap_new W _)
theorem bl_drew0 {W WC : World} (b : Below W.drew.heap.size W.drew WC) : Below W.heap.size W WC := (Below.refl _ _).drew.trans b
theorem aw_New0 (w : World) : Calls Try.prog 8 #[.int .i64 0] w (fun e w' => ∃ x n c, e = .returned (.tuple #[.agg #[.int .i64 0, .slice none 0 0, .slice x n c], .int .i64 1]) ∧ Below w.heap.size w w') := by
  refine (sNew_any 0 w).mono ?_
  rintro e w' ⟨x, c, rfl, _, hb⟩
  rw [aw_no.1, aw_no.2]
  exact ⟨x, _, c, rfl, hb⟩
/-- Three numbers are compared with three new ones. -/
theorem aw_ints {W : World} {x : Option Addr} {c : Nat} {p q r : Int} (h : IntsIn W (· < W.heap.size) [p, q, r] x c) {s : Nat} (hs : s = W.heap.size) : Calls Try.prog 22 #[.slice x 3 c, .slice (some ⟨s, 0, none⟩) 3 3] (W.alloc (.cells #[.int .i64 p, .int .i64 q, .int .i64 r] 3)) fun e w' => e = .returned (.bool true) ∧ Below W.heap.size W w' := by
  subst hs
  have hb : Below W.heap.size W (W.alloc (.cells #[.int .i64 p, .int .i64 q, .int .i64 r] 3)) := (Below.refl _ _).alloc (Nat.le_refl _) _
  have := ints8_any [p, q, r] [p, q, r] x _ c 3 (W.heap.size + 1) _ ((h.below hb).mono (by omega)) (ints_three W p q r) (by simp)
  rw [show eqI [p, q, r] [p, q, r] = true from decide_eq_true rfl] at this
  refine this.mono ?_
  rintro e w' ⟨rfl, b⟩
  exact ⟨rfl, hb.trans (b.mono (by simp))⟩
theorem aw_Right {w W : World} {X d dm : Nat} {y ym : Option Addr} (h : AwS w X y d ym dm W) : Calls Try.prog 24 #[.agg #[.int .i64 3, .slice y 2 d, .slice ym 3 dm]] W fun e w' => e = .returned (.bool true) ∧ Below W.heap.size W w' := by
  have := sRight_any 3 awC [0, 1, 1] y ym d dm W.heap.size W h.2.1 h.2.2.1 (Nat.le_refl _)
  rwa [aw_right] at this
theorem aw_RightN (W : World) : Calls Try.prog 24 #[.agg #[.int .i64 0, .slice none 0 0, .slice none 0 0]] W fun e w' => e = .returned (.bool false) ∧ Below W.heap.size W w' := by
  have := sRight_any 0 [] [] none none 0 0 W.heap.size W (.none _ _) (.none _ _) (Nat.le_refl _)
  rwa [aw_none] at this
theorem aw_next1 {w W : World} {X c cm : Nat} {x xm : Option Addr} (h : AwS w X x c xm cm W) (o : Obj) : AwS w X x c xm cm (W.alloc o) := h.next ((Below.refl _ _).alloc (Nat.le_refl _) _)
set_option maxRecDepth 100000 in
set_option maxHeartbeats 8000000 in
theorem awake11_any (w : World) : Calls Try.prog 12 #[] w fun e w' => e = .returned (.bool true) ∧ Below w.heap.size w w' := by
  go_enter Try.func12, Try.ntmps12
  go_wp2_with fail
  refine (aw_New w).mono ?_
  rintro e w1 ⟨x, c, rfl, hi, b1⟩
  have hZ : AwZ w w1.heap.size x c (w1.alloc (.cells #[.int .i64 3, .slice none 0 0, .slice x 3 c] 25)) := ⟨heap_new _ _, (hi.keep (fun b hb => heap_old _ _ hb)).weak (fun b hb => ⟨by simp; omega, by omega⟩), b1.size, b1.alloc b1.size _⟩
  have HZ := Lib.hid hZ
  obtain ⟨W1, hW1⟩ : ∃ W, W = w1.alloc (.cells #[.int .i64 3, .slice none 0 0, .slice x 3 c] 25) := ⟨_, rfl⟩
  obtain ⟨p0, p1, p2⟩ := hZ.cells
  rw [← hW1] at HZ
  clear hi b1 hZ
  go_upto_region 2 with fail
  rw [← hW1] at p0 p1 p2 ⊢
  clear hW1
  generalize w1.heap.size = X at *
  go_cut [3, 4] from 18 to 26 (fun s3 s4 wx => ∃ y d ym dm xp n cp, s3 = .slice xp n cp ∧ s4 = .int .i64 0 ∧ Hid (AwS w X y d ym dm wx))
  case first =>
    go_region_law (first
      | (go_simp; go_at_call 17; have a1 := A1.out; refine (arrow_any _ _ _ _).mono ?_; rintro e wB ⟨gB, rfl, hB, bB⟩
         have A3 : Hid (AtsIn wB (fun b => W1.heap.size ≤ b ∧ b < wB.heap.size) [(1, 0)] (some ⟨gB, 0, none⟩) 1) := Lib.hid (hB.weak (fun b hb => ⟨Nat.le_trans A2.out.size hb.1, hb.2⟩))
         have A4 := Lib.hid (ar_keep a1 bB)
         have A5 : Hid (Below W1.heap.size W1 wB) := Lib.hid (A2.out.trans (bB.mono A2.out.size))
         obtain ⟨c0, c1, c2⟩ := (HZ.out.next A5.out).cells
         have cA := fun p => ((HZ.out.next A5.out).next ((Below.refl _ _).alloc (Nat.le_refl _) p)).cells
         have k0 := fun p => (cA p).1
         have k1 := fun p => (cA p).2.1
         have k2 := fun p => (cA p).2.2
         clear cA
         clear hB bB a1)
      | (go_simp; go_at_call 17; refine (arrow_any _ _ _ _).mono ?_; rintro e wA ⟨gA, rfl, hA, bA⟩
         have A1 : Hid (AtsIn wA (fun b => W1.heap.size ≤ b ∧ b < wA.heap.size) [(0, 0)] (some ⟨gA, 0, none⟩) 1) := Lib.hid hA
         have A2 : Hid (Below W1.heap.size W1 wA) := Lib.hid ((Below.refl _ _).drew.trans bA)
         obtain ⟨c0, c1, c2⟩ := (HZ.out.next A2.out).cells
         clear hA bA)
      | (go_simp; go_at_call 19; refine (aw_AddTwo HZ.out A5.out A4.out A3.out).mono ?_; rintro e wC ⟨y, d, ym, dm, xp, n, cp, rfl, e0, e1, e2, e3, hE⟩))
    all_goals go_wp2_with fail
    all_goals go_meet
    all_goals exact ⟨y, d, ym, dm, xp, n, cp, rfl, rfl, hE⟩
  case rest =>
    obtain ⟨y, d, ym, dm, xp, n, cp, rfl, rfl, hE⟩ := hcut
    clear HZ p0 p1 p2
    have A0 := hE
    obtain ⟨p0, p1, p2⟩ := hE.out.cells
    clear hE
    go_wp2_with fail
    refine (aw_Fol A0.out aw_yes.1 aw_yes.2).mono ?_
    rintro e w2 ⟨rfl, b2⟩
    have A1 := Lib.hid (A0.out.next b2)
    clear b2 A0 p0 p1 p2
    obtain ⟨p0, p1, p2⟩ := A1.out.cells
    go_wp2_with fail
    refine (aw_Fol A1.out aw_not.1 aw_not.2).mono ?_
    rintro e w3 ⟨rfl, b3⟩
    have A2 := Lib.hid (A1.out.next b3)
    clear b3 A1 p0 p1 p2
    obtain ⟨p0, p1, p2⟩ := A2.out.cells
    go_upto_region 5 with fail
    go_cut [9, 10, 11] from 43 to 50 (fun s9 s10 s11 wx => ∃ Y xp cp, s9 = .pointer (some ⟨Y, 0, none⟩) ∧ s10 = .slice xp 3 cp ∧ s11 = .int .i64 30 ∧ Hid (AwS w X y d ym dm wx) ∧ Hid (IntsIn wx (· < wx.heap.size) [0, 1, 2] xp cp))
    case first =>
      have z := fun p => (aw_next1 A2.out p).cells
      have z0 := fun p => (z p).1
      have z1 := fun p => (z p).2.1
      have z2 := fun p => (z p).2.2
      clear z
      go_region_law (first
      | (go_simp; go_at_call 17; refine (arrow_any _ _ _ _).mono ?_; rintro e wA ⟨gA, rfl, hA, bA⟩
         have A4 : Hid (Below w3.heap.size w3 wA) := Lib.hid (by first | with_reducible exact bl_drew0 bA | with_reducible exact bl_drew (Below.refl _ _) bA)
         try (with_reducible have QA := Lib.hid (bz_drew bA))
         have A3 : Hid (AtsIn wA (· < wA.heap.size) [(2, 0)] (some ⟨gA, 0, none⟩) 1) := Lib.hid (hA.weak (fun _ hb => hb.2))
         have A5 := Lib.hid (A2.out.next A4.out)
         obtain ⟨c0, c1, c2⟩ := A5.out.cells
         have cA := fun p => (aw_next1 A5.out p).cells
         have k0 := fun p => (cA p).1
         have k1 := fun p => (cA p).2.1
         have k2 := fun p => (cA p).2.2
         have cB := fun p q => (aw_next1 (aw_next1 A5.out p) q).cells
         have k3 := fun p q => (cB p q).1
         have k4 := fun p q => (cB p q).2.1
         have k5 := fun p q => (cB p q).2.2
         clear hA bA cA cB)
      | (go_simp; go_at_call 19
         refine (aw_Loop (w := w) (X := X) (by first | with_reducible exact aw_next1 A5.out _ | with_reducible exact aw_next1 (aw_next1 A5.out _) _) (by first | with_reducible exact row_oneD0 A3.out | with_reducible exact row_oneD1 A3.out _ | with_reducible exact row_oneD2 A3.out _)).mono ?_
         rintro e wC ⟨y2, n2, d2, ym2, n3, dm2, xp, cp, rfl, hi, bC⟩
         have A6 : Hid (Below w3.heap.size w3 wC) := Lib.hid (by first | with_reducible exact bl_two A4.out bC | with_reducible exact bl_one A4.out bC)
         have A7 := Lib.hid hi
         have A8 : Hid (w3.heap.size ≤ wA.heap.size ∧ w3.heap.size ≤ wA.heap.size + 1 ∧ w3.heap.size ≤ w3.heap.size) := Lib.hid (by have := A4.out.size; omega)
         first
           | ((with_reducible have QC := Lib.hid (bz_second bC)); obtain ⟨m0, m1, m2, m3⟩ := QC.out.facts)
           | ((with_reducible have QC := Lib.hid (bz_first bC)); obtain ⟨m0, m1, m2, m3⟩ := QC.out.facts)
           | ((with_reducible have QC := Lib.hid (bz_old bC QA.out)); obtain ⟨m0, m1, m2, m3⟩ := QC.out.facts)
           | skip
         clear hi bC))
      all_goals go_wp2_with fail
      all_goals go_meet
      all_goals refine ⟨_, xp, cp, rfl, rfl, rfl, ?_, ?_⟩
      all_goals first
        | with_reducible exact (aw_late A2.out A6.out A7.out _).1
        | with_reducible exact (aw_late A2.out A6.out A7.out _).2
        | with_reducible exact (aw_early A2.out A6.out A8.out.1 QC.out A7.out _ _ _).1
        | with_reducible exact (aw_early A2.out A6.out A8.out.1 QC.out A7.out _ _ _).2
        | with_reducible exact (aw_early A2.out A6.out A8.out.2.1 QC.out A7.out _ _ _).1
        | with_reducible exact (aw_early A2.out A6.out A8.out.2.1 QC.out A7.out _ _ _).2
        | with_reducible exact (aw_early A2.out A6.out A8.out.2.2 QC.out A7.out _ _ _).1
        | with_reducible exact (aw_early A2.out A6.out A8.out.2.2 QC.out A7.out _ _ _).2
    case rest =>
      obtain ⟨Y, xp, cp, rfl, rfl, rfl, hE, hI⟩ := hcut
      have A3 := hE
      have I3 := hI
      clear hE hI A2 p0 p1 p2
      go_wp2_with fail
      refine (aw_New0 _).mono ?_
      rintro e w4 ⟨x4, n4, c4, rfl, b4⟩
      have b4' := b4.alloc b4.size (.cells #[.int .i64 0, .slice none 0 0, .slice x4 n4 c4] 25)
      have A4 := Lib.hid (A3.out.next b4')
      have I4 := Lib.hid ((I3.out.below b4').mono b4'.size)
      clear b4 b4' A3 I3
      obtain ⟨p0, p1, p2⟩ := A4.out.cells
      go_wp2_with fail
      refine (aw_ints A4.out.2.2.1 (by simp)).mono ?_
      rintro e w5 ⟨rfl, b5⟩
      have A5 := Lib.hid (A4.out.next b5)
      have I5 := Lib.hid ((I4.out.below b5).mono b5.size)
      clear b5 A4 I4 p0 p1 p2
      obtain ⟨p0, p1, p2⟩ := A5.out.cells
      go_wp2_with fail
      refine (aw_ints I5.out rfl).mono ?_
      rintro e w6 ⟨rfl, b6⟩
      have A6 := Lib.hid (A5.out.next b6)
      clear b6 A5 I5 p0 p1 p2
      obtain ⟨p0, p1, p2⟩ := A6.out.cells
      go_wp2_with fail
      refine (aw_Right A6.out).mono ?_
      rintro e w7 ⟨rfl, b7⟩
      have A7 := Lib.hid (A6.out.next b7)
      clear b7 A6 p0 p1 p2
      go_wp2_with fail
      refine (aw_RightN _).mono ?_
      rintro e w8 ⟨rfl, b8⟩
      have A8 := Lib.hid (A7.out.next b8)
      clear b8 A7
      go_wp2_with fail
      go_ret
      exact ⟨rfl, A8.out.2.2.2.2⟩
end Go.Proofs.Ytglggigndhbpcaa
