/- What lies in memory in the law StoreFollows, and the calls that it makes there. No condition but those that stand in each statement. -/
import Derived.Test.YtglggigndhbpcaaZFomath
import Derived.Test.YtglggigndhbpcaaZHrbroken
import Derived.Test.YtglggigndhbpcaaZHmodel
import Derived.Test.YtglggigndhbpcaaZLonce12
namespace Go.Proofs.Ytglggigndhbpcaa
open Go.RowKit

/-- The store in its variable, and the atoms. -/
def FoSt (w : World) (X V : Nat) (l : List Cl) (m : List Int) (x : Option Addr) (c : Nat) (xm : Option Addr) (cm g o e : Nat) (a : At) (r : List At) (W : World) : Prop :=
  BxS W X (.int .i64 V) (.slice x l.length c) (.slice xm m.length cm) ∧ ClsIn W (· < W.heap.size) l x c ∧ IntsIn W (· < W.heap.size) m xm cm ∧ AtsIn W (· < W.heap.size) (a :: r) (some ⟨g, o, none⟩) e ∧ g < W.heap.size ∧ Below w.heap.size w W
/-- The clause in its variable. -/
def FoC (Y g o e : Nat) (a : At) (r : List At) (W : World) : Prop := W.heap[Y]? = some (.cells #[.slice (some ⟨g, o + 2, none⟩) r.length (e - 1), .int .i64 a.1, .int .i64 a.2] 35 (0, 0))
theorem FoC.next {Y g o e : Nat} {a : At} {r : List At} {W W' : World} (h : FoC Y g o e a r W) (hb : Below W.heap.size W W') : FoC Y g o e a r W' := (hb.block _ (lt_of_block h)).trans h
section
variable {w W W' : World} {X V : Nat} {l : List Cl} {m : List Int} {x : Option Addr} {c : Nat} {xm : Option Addr} {cm g o e : Nat} {a : At} {r : List At}
theorem FoSt.next (h : FoSt w X V l m x c xm cm g o e a r W) (hb : Below W.heap.size W W') : FoSt w X V l m x c xm cm g o e a r W' := by
  obtain ⟨h1, h2, h3, h4, h5, h6⟩ := h
  exact ⟨(hb.block _ (lt_of_block h1)).trans h1, (h2.below hb).mono hb.size, (h3.below hb).mono hb.size, (h4.below hb).weak (fun q hq => Nat.lt_of_lt_of_le hq hb.size), Nat.lt_of_lt_of_le h5 hb.size, Below.step h6 hb (Nat.le_refl _)⟩
theorem FoSt.alloc (h : FoSt w X V l m x c xm cm g o e a r W) (p : Obj) : FoSt w X V l m x c xm cm g o e a r (W.alloc p) := h.next ((Below.refl _ _).alloc (Nat.le_refl _) _)
theorem FoSt.cells (h : FoSt w X V l m x c xm cm g o e a r W) : W.cell? ⟨X, 0, none⟩ = some (.int .i64 V) ∧ W.cell? ⟨X, 1, none⟩ = some (.slice x l.length c) ∧ W.cell? ⟨X, 2, none⟩ = some (.slice xm m.length cm) :=
  ⟨cell_at h.1 0, cell_at h.1 1, cell_at h.1 2⟩
theorem FoSt.atom (h : FoSt w X V l m x c xm cm g o e a r W) : W.cell? ⟨g, o, none⟩ = some (.int .i64 a.1) ∧ W.cell? ⟨g, o + 1, none⟩ = some (.int .i64 a.2) := by
  obtain ⟨_, _, _, h4, _⟩ := h
  obtain ⟨b', o', e', _, hf⟩ := h4.some (by simp)
  cases e'
  have := hf 0 (by simp)
  simpa using this
theorem FoSt.each (h : FoSt w X V l m x c xm cm g o e a r W) {i : Nat} (hi : i < r.length) : W.cell? ⟨g, o + (i + 1) * 2, none⟩ = some (.int .i64 (r.getD i at0).1) ∧ W.cell? ⟨g, o + (i + 1) * 2 + 1, none⟩ = some (.int .i64 (r.getD i at0).2) := by
  obtain ⟨_, _, _, h4, _⟩ := h
  obtain ⟨b', o', e', _, hf⟩ := h4.some (by simp)
  cases e'
  exact hf (i + 1) (by simpa using hi)
theorem FoSt.tail (h : FoSt w X V l m x c xm cm g o e a r W) (h1 : 1 ≤ r.length) : AtsIn W (· < W.heap.size) r (some ⟨g, o + 2, none⟩) (e - 1) ∧ r.length + 1 ≤ e ∧ e ≤ maxLen := by
  obtain ⟨_, _, _, h4, _⟩ := h
  have hle := h4.1
  simp only [List.length_cons] at hle
  have := ats_tail h4
  rw [if_neg (by omega)] at this
  exact ⟨this, hle, h4.2.1⟩
theorem FoSt.head (h : FoSt w X V l m x c xm cm g o e a r W) : AtsIn W (· < W.heap.size) [a] (some ⟨g, o, none⟩) e := by
  obtain ⟨_, _, _, h4, h5, _⟩ := h
  have hle := h4.1
  simp only [List.length_cons] at hle
  obtain ⟨b', o', e', hb, hf⟩ := h4.some (by simp)
  cases e'
  refine ⟨by simp; omega, h4.2.1, (fun e => by cases e), fun _ => ⟨g, o, rfl, h5, fun i hi => ?_⟩⟩
  have hi0 : i = 0 := by simp at hi; exact hi
  subst hi0
  exact hf 0 (by simp)
/-- Does it follow? -/
theorem fo_fol {L : List Cl} {M : List Int} {y ym : Option Addr} {d dm rl : Nat} {R : Bool} (h : FoSt w X V l m x c xm cm g o e a r W) (hL : ClsIn W (· < W.heap.size) L y d) (hM : IntsIn W (· < W.heap.size) M ym dm) (h1 : 1 ≤ r.length) (hr : r.length = rl) (h4 : rl ≤ 1000) (hl : L.length ≤ 1000) (hE : folE V L M a r = 0) (hR : folB V L M a r = R) :
    Calls Try.prog 20 #[.agg #[.int .i64 V, .slice y L.length d, .slice ym M.length dm], .agg #[.int .i64 a.1, .int .i64 a.2], .slice (some ⟨g, o + 2, none⟩) rl (e - 1)] W fun e w' => e = .returned (.tuple #[.bool R, .int .i64 0]) ∧ Below W.heap.size W w' := by
  subst hr
  have := sFollows_any V a.1 a.2 L r M y ym (some ⟨g, o + 2, none⟩) d dm (e - 1) W.heap.size W hL hM (h.tail h1).1 (Nat.le_refl _) hl h4
  rwa [hE, hR] at this
/-- The clause in a new row. -/
theorem fo_row (h : FoSt w X V l m x c xm cm g o e a r W) (h1 : 1 ≤ r.length) : ClsIn (W.alloc (.cells #[.slice (some ⟨g, o + 2, none⟩) r.length (e - 1), .int .i64 a.1, .int .i64 a.2] 35)) (· < W.heap.size + 1) [(r, a)] (some ⟨W.heap.size, 0, none⟩) 1 :=
  (row_cl (c := (r, a)) (h.tail h1).1 (fun b hb => hb)).weak (fun b hb => by rcases hb with rfl | hb <;> omega)
/-- Which clauses are broken? -/
theorem fo_brk {L : List Cl} {M : List Int} {y ym : Option Addr} {d dm n k : Nat} (hL : ClsIn W (· < W.heap.size) L y d) (hM : IntsIn W (· < W.heap.size) M ym dm) (hn : L.length = n) (hk : M.length = k) :
    Calls Try.prog 21 #[.slice y n d, .slice ym k dm] W fun e w' => ∃ z q, e = .returned (.tuple #[.slice z (bkR M L).length q, .int .i64 (bkE M L)]) ∧ Below W.heap.size W w' := by
  subst hn hk
  refine (r8Broken_any M L y ym d dm W.heap.size W hL hM (Nat.le_refl _)).mono ?_
  rintro e w' ⟨z, q, rfl, _, hb⟩
  exact ⟨z, q, rfl, hb⟩
theorem fo_ints {M : List Int} {y z : Option Addr} {d q n k : Nat} (hM : IntsIn W (· < W.heap.size) M y d) (hN : IntsIn W (· < W.heap.size) M z q) (h1 : M.length = n) (h2 : M.length = k) :
    Calls Try.prog 22 #[.slice y n d, .slice z k q] W fun e w' => e = .returned (.bool true) ∧ Below W.heap.size W w' := by
  subst h1
  subst h2
  have := ints8_any M M y z d q W.heap.size W hM hN (Nat.le_refl _)
  rwa [show eqI M M = true from decide_eq_true rfl] at this
/-- Clauses are added to the store. -/
theorem fo_add {k : List Cl} {y : Option Addr} {d n : Nat} {L : List Cl} {M : List Int} {E : Int} (h : FoSt w X V l m x c xm cm g o e a r W) (hr : rgS V l m = true) (hk : ClsIn W (· < W.heap.size) k y d) (hn : k.length = n) (hl : l.length ≤ 30) (h2 : n ≤ 30) (hf : ∀ c ∈ k, c.1.length ≤ 1000) (eL : addL V l m k = L) (eM : addM V l m k = M) (eE : addE V l m k = E) :
    Calls Try.prog 19 #[.agg #[.int .i64 V, .slice x l.length c, .slice xm m.length cm], .slice y n d] W fun e w' => ∃ x' c' xm' cm' xp n' cp, e = .returned (.tuple #[.agg #[.int .i64 V, .slice x' L.length c', .slice xm' M.length cm'], .slice xp n' cp, .int .i64 E]) ∧ ClsIn w' (· < w'.heap.size) L x' c' ∧ IntsIn w' (· < w'.heap.size) M xm' cm' ∧ Below W.heap.size W w' := by
  subst hn eL eM eE
  obtain ⟨_, q2, q3, _⟩ := h
  have := rgS_bd hr
  refine (sAdd_any V l k m x xm y c cm d W.heap.size W q2 q3 hk (Nat.le_refl _) (by omega) (by omega) (six_le hr) hf).mono ?_
  rintro e w' ⟨x', c', xm', cm', xp, cp, rfl, k1, k2, _, hb⟩
  exact ⟨x', c', xm', cm', xp, _, cp, rfl, k1, k2, hb⟩
/-- The clause in a new row, at its address. -/
theorem fo_row' {rl s : Nat} (h : FoSt w X V l m x c xm cm g o e a r W) (h1 : 1 ≤ r.length) (hr : r.length = rl) (hs : s = W.heap.size) : ClsIn (W.alloc (.cells #[.slice (some ⟨g, o + 2, none⟩) rl (e - 1), .int .i64 a.1, .int .i64 a.2] 35)) (· < (W.alloc (.cells #[.slice (some ⟨g, o + 2, none⟩) rl (e - 1), .int .i64 a.1, .int .i64 a.2] 35)).heap.size) [(r, a)] (some ⟨s, 0, none⟩) 1 := by
  subst hr hs
  exact (fo_row h h1).mono (by rw [World.size_alloc]; omega)
theorem fo_brkc {rl s : Nat} {M : List Int} {ym : Option Addr} {dm k : Nat} (h : FoSt w X V l m x c xm cm g o e a r W) (h1 : 1 ≤ r.length) (hr : r.length = rl) (hs : s = W.heap.size) (hM : IntsIn W (· < W.heap.size) M ym dm) (hk : M.length = k) :
    Calls Try.prog 21 #[.slice (some ⟨s, 0, none⟩) 1 1, .slice ym k dm] (W.alloc (.cells #[.slice (some ⟨g, o + 2, none⟩) rl (e - 1), .int .i64 a.1, .int .i64 a.2] 35)) fun e w' => ∃ z q, e = .returned (.tuple #[.slice z (bkR M [(r, a)]).length q, .int .i64 (bkE M [(r, a)])]) ∧ Below W.heap.size W w' := by
  have hb : Below W.heap.size W (W.alloc (.cells #[.slice (some ⟨g, o + 2, none⟩) rl (e - 1), .int .i64 a.1, .int .i64 a.2] 35)) := (Below.refl _ _).alloc (Nat.le_refl _) _
  refine (fo_brk (fo_row' h h1 hr hs) ((hM.below hb).mono hb.size) rfl hk).mono ?_
  rintro e w' ⟨z, q, rfl, hb2⟩
  exact ⟨z, q, rfl, hb.trans (hb2.mono hb.size)⟩
theorem fo_addc {rl s : Nat} {L : List Cl} {M : List Int} {E : Int} (h : FoSt w X V l m x c xm cm g o e a r W) (hr : rgS V l m = true) (h1 : 1 ≤ r.length) (h3 : r.length ≤ 1000) (hrl : r.length = rl) (hs : s = W.heap.size) (hl : l.length ≤ 30) (eL : addL V l m [(r, a)] = L) (eM : addM V l m [(r, a)] = M) (eE : addE V l m [(r, a)] = E) :
    Calls Try.prog 19 #[.agg #[.int .i64 V, .slice x l.length c, .slice xm m.length cm], .slice (some ⟨s, 0, none⟩) 1 1] (W.alloc (.cells #[.slice (some ⟨g, o + 2, none⟩) rl (e - 1), .int .i64 a.1, .int .i64 a.2] 35)) fun e w' => ∃ x' c' xm' cm' xp n' cp, e = .returned (.tuple #[.agg #[.int .i64 V, .slice x' L.length c', .slice xm' M.length cm'], .slice xp n' cp, .int .i64 E]) ∧ IntsIn w' (· < w'.heap.size) M xm' cm' ∧ Below W.heap.size W w' := by
  have hb : Below W.heap.size W (W.alloc (.cells #[.slice (some ⟨g, o + 2, none⟩) rl (e - 1), .int .i64 a.1, .int .i64 a.2] 35)) := (Below.refl _ _).alloc (Nat.le_refl _) _
  refine (fo_add (h.next hb) hr (fo_row' h h1 hrl hs) rfl hl (by simp) (fun c hc => by rw [List.mem_singleton.1 hc]; exact h3) eL eM eE).mono ?_
  rintro e w' ⟨x', c', xm', cm', xp, n', cp, rfl, _, k2, hb2⟩
  exact ⟨x', c', xm', cm', xp, n', cp, rfl, k2, hb.trans (hb2.mono hb.size)⟩
/-- The store that Add told, in a variable. -/
def FoMid (W : World) (Z V : Nat) (L : List Cl) (M : List Int) (x' : Option Addr) (c' : Nat) (xm' : Option Addr) (cm' : Nat) (W2 : World) : Prop :=
  BxS W2 Z (.int .i64 V) (.slice x' L.length c') (.slice xm' M.length cm') ∧ ClsIn W2 (· < W2.heap.size) L x' c' ∧ IntsIn W2 (· < W2.heap.size) M xm' cm' ∧ Below W.heap.size W W2
theorem fo_A1 {k : List Cl} {y : Option Addr} {d n : Nat} {L : List Cl} {M : List Int} {E : Int} (h : FoSt w X V l m x c xm cm g o e a r W) (hr : rgS V l m = true) (hk : ClsIn W (· < W.heap.size) k y d) (hn : k.length = n) (hl : l.length ≤ 30) (h2 : n ≤ 30) (hf : ∀ c ∈ k, c.1.length ≤ 1000) (eL : addL V l m k = L) (eM : addM V l m k = M) (eE : addE V l m k = E) :
    Calls Try.prog 19 #[.agg #[.int .i64 V, .slice x l.length c, .slice xm m.length cm], .slice y n d] W.drew fun e WC => ∃ x' c' xm' cm' xp n' cp, e = .returned (.tuple #[.agg #[.int .i64 V, .slice x' L.length c', .slice xm' M.length cm'], .slice xp n' cp, .int .i64 E]) ∧
      Hid (FoMid W WC.heap.size V L M x' c' xm' cm' (WC.alloc (.cells #[.int .i64 V, .slice x' L.length c', .slice xm' M.length cm'] 25))) := by
  have hb : Below W.heap.size W W.drew := (Below.refl _ _).drew
  refine (fo_add (h.next hb) hr (hk.keep (fun _ _ => rfl)) hn hl h2 hf eL eM eE).mono ?_
  rintro e w' ⟨x', c', xm', cm', xp, n', cp, rfl, k1, k2, hb2⟩
  have hb3 : Below W.heap.size W w' := hb.trans hb2
  exact ⟨x', c', xm', cm', xp, n', cp, rfl, Lib.hid ⟨heap_new _ _, (k1.keep (fun b hb => heap_old _ _ hb)).mono (by simp), (k2.keep (fun b hb => heap_old _ _ hb)).mono (by simp), hb3.alloc hb3.size _⟩⟩
theorem fo_A2 {k : List Cl} {y : Option Addr} {d n : Nat} {L : List Cl} {M : List Int} {E : Int} (h : FoSt w X V l m x c xm cm g o e a r W) (hr : rgS V l m = true) (hk : ClsIn W (· < W.heap.size) k y d) (hn : k.length = n) (hl : l.length ≤ 30) (h2 : n ≤ 30) (hf : ∀ c ∈ k, c.1.length ≤ 1000) (eL : addL V l m k = L) (eM : addM V l m k = M) (eE : addE V l m k = E) :
    Calls Try.prog 19 #[.agg #[.int .i64 V, .slice x l.length c, .slice xm m.length cm], .slice y n d] (W.alloc (.cells #[.int .i64 0, .slice none 0 0, .slice none 0 0] 25)).drew fun e WC => ∃ x' c' xm' cm' xp n' cp, e = .returned (.tuple #[.agg #[.int .i64 V, .slice x' L.length c', .slice xm' M.length cm'], .slice xp n' cp, .int .i64 E]) ∧ Hid (BzS W.heap.size WC) ∧
      Hid (FoMid W W.heap.size V L M x' c' xm' cm' (((WC.setCell ⟨W.heap.size, 0, none⟩ (.int .i64 V)).setCell ⟨W.heap.size, 1, none⟩ (.slice x' L.length c')).setCell ⟨W.heap.size, 2, none⟩ (.slice xm' M.length cm'))) := by
  subst hn eL eM eE
  have hb : Below W.heap.size W (W.alloc (.cells #[.int .i64 0, .slice none 0 0, .slice none 0 0] 25)).drew := ((Below.refl _ _).alloc (Nat.le_refl _) _).drew
  have hs : (W.alloc (.cells #[.int .i64 0, .slice none 0 0, .slice none 0 0] 25)).drew.heap.size = W.heap.size + 1 := by show (W.alloc _).heap.size = _; rw [World.size_alloc]
  obtain ⟨_, q2, q3, _⟩ := h
  have hbd := rgS_bd hr
  have hw : ∀ b, b < W.heap.size → b < (W.alloc (.cells #[.int .i64 0, .slice none 0 0, .slice none 0 0] 25)).drew.heap.size ∧ ¬ b = W.heap.size := fun b hb => ⟨by rw [hs]; omega, by omega⟩
  refine (sAdd_off (fun b => b = W.heap.size) V l k m x xm y c cm d _ (fun b h => by rw [hs]; omega) ((q2.below hb).weak hw) ((q3.below hb).weak hw) ((hk.below hb).weak hw) (by omega) (by omega) (six_le hr) hf).mono ?_
  rintro e WC ⟨x', c', xm', cm', xp, cp, rfl, k1, k2, _, hb2⟩
  have hbz : BzS W.heap.size WC := (hb2.block _ (by rw [hs]; omega)).trans (heap_new W _)
  have hb3 : Below W.heap.size W WC := hb.trans (hb2.mono hb.size)
  exact ⟨x', c', xm', cm', xp, _, cp, rfl, Lib.hid hbz, Lib.hid ⟨set3 hbz, (k1.keep (fun b hb => set3_oldT _ _ _ _ _ hb.2)).weak (fun b hb => by simpa using hb.1), (k2.keep (fun b hb => set3_oldT _ _ _ _ _ hb.2)).weak (fun b hb => by simpa using hb.1), ((hb3.setCell (p := ⟨_, 0, none⟩) (Nat.le_refl _) _).setCell (p := ⟨_, 1, none⟩) (Nat.le_refl _) _).setCell (p := ⟨_, 2, none⟩) (Nat.le_refl _) _⟩⟩
end
end Go.Proofs.Ytglggigndhbpcaa
