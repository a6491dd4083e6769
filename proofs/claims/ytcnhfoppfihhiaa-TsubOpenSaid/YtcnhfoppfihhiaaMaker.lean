/- The maker of levels by numbers: Pick tells some number below the given one, and Level some right level that is at most so deep; both go on in the numbers, and only make new memory beside. -/
import Derived.Test.YtcnhfoppfihhiaaCell
import Derived.Test.YtcnhfoppfihhiaaSpec
import Derived.Deep.QuietTactic
import Derived.BigQuiet
namespace Go.Proofs.Ytcnhfoppfihhiaa
open Go.RowKit

/-- The slice (a, cap) holds so many bytes. -/
def U8In (w : World) (P : Nat → Prop) (len : Nat) (a : Option Addr) (cap : Nat) : Prop :=
  len ≤ cap ∧ cap ≤ maxLen ∧ (a = none → cap = 0) ∧ (0 < len → ∃ b o, a = some ⟨b, o, none⟩ ∧ P b ∧ ∀ i, i < len → ∃ z : Int, 0 ≤ z ∧ z < 256 ∧ w.cell? ⟨b, o + i, none⟩ = some (.int .u8 z))
theorem U8In.keep {w w' : World} {P : Nat → Prop} (hP : ∀ b, P b → w'.heap[b]? = w.heap[b]?) {len : Nat} {a : Option Addr} {cap : Nat} (h : U8In w P len a cap) : U8In w' P len a cap := by
  obtain ⟨h1, h2, h3, h4⟩ := h
  refine ⟨h1, h2, h3, fun hx => ?_⟩
  obtain ⟨b, o, e, hb, hf⟩ := h4 hx
  refine ⟨b, o, e, hb, fun i hi => ?_⟩
  obtain ⟨z, z0, z1, hz⟩ := hf i hi
  exact ⟨z, z0, z1, (World.cell?_of_block (w := w) (hP b hb)).trans hz⟩
theorem U8In.below {w w' : World} {B : Nat} {len : Nat} {a : Option Addr} {cap : Nat} (hb : Below B w w') (h : U8In w (· < B) len a cap) : U8In w' (· < B) len a cap := h.keep (fun b h => hb.block b h)
theorem U8In.at {w : World} {P : Nat → Prop} {len : Nat} {a : Option Addr} {cap i : Nat} (h : U8In w P len a cap) (hi : i < len) : ∃ (b o : Nat) (z : Int), a = some ⟨b, o, none⟩ ∧ P b ∧ 0 ≤ z ∧ z < 256 ∧ w.cell? ⟨b, o + i, none⟩ = some (.int .u8 z) := by
  obtain ⟨b, o, e, hb, hf⟩ := h.2.2.2 (by omega)
  obtain ⟨z, z0, z1, hz⟩ := hf i hi
  exact ⟨b, o, z, e, hb, z0, z1, hz⟩

/-- The maker's block, whole. -/
def MkAt (w : World) (M : Nat) (a : Option Addr) (len cap t : Nat) : Prop := w.heap[M]? = some (.cells #[.slice a len cap, .int .i64 t] 50 (0, 0))
theorem MkAt.facts {w : World} {M len cap t : Nat} {a : Option Addr} (h : MkAt w M a len cap t) : w.cell? ⟨M, 0, none⟩ = some (.slice a len cap) ∧ w.cell? ⟨M, 1, none⟩ = some (.int .i64 t) ∧ w.frozen? ⟨M, 1, none⟩ = false ∧ M < w.heap.size :=
  ⟨by simp [World.cell?, show w.heap[M]? = _ from h], by simp [World.cell?, show w.heap[M]? = _ from h], free_of h 1, lt_of_block h⟩
theorem MkAt.set {w : World} {M len cap t : Nat} {a : Option Addr} (h : MkAt w M a len cap t) : MkAt (w.setCell ⟨M, 1, none⟩ (.int .i64 ((t : Int) + 1))) M a len cap (t + 1) := by
  unfold MkAt at *
  simp only [World.setCell, Array.getElem?_modify, if_true, h]; rfl

/-- What Pick answers. -/
def PickOk (w : World) (M : Nat) (a : Option Addr) (len cap t : Nat) (N : Int) (e : Ending) (w' : World) : Prop :=
  ∃ x : Int, 0 ≤ x ∧ x < N ∧ e = .returned (.int .i64 x) ∧ MkAt w' M a len cap (t + 1) ∧ w.grownBy w' (some M)
set_option maxRecDepth 100000 in
set_option maxHeartbeats 2000000 in
theorem pick_any (M len cap t B : Nat) (a : Option Addr) (N : Int) (w : World) (hat : MkAt w M a len cap t) (hin : U8In w (· < B) len a cap) (hB : B ≤ M) (ht : t ≤ 100000) (hN : 1 ≤ N) (hN1 : N ≤ 100) :
    Calls Try.prog 38 #[.pointer (some ⟨M, 0, none⟩), .int .i64 N] w (PickOk w M a len cap t N) := by
  obtain ⟨c0, c1, fz, hM⟩ := hat.facts
  have hl : len ≤ 9223372036854775807 := by have h1 := hin.1; have h2 := hin.2.1; unfold maxLen at h2; omega
  have HA := Lib.hid hat.set
  by_cases hlt : t < len
  · obtain ⟨b, o, z, rfl, hb, z0, z1, hz⟩ := hin.at hlt
    have hbM : b ≠ M := by omega
    have d1 : decide ((len : Int) < (t : Int) + 1) = false := by simp; omega
    go_enter Try.func38, Try.ntmps38
    go_wp2_with fail
    go_quiet (fail)
    go_wp2_with fail
    go_quiet (fail)
    go_wp2_with fail
    go_ret
    exact ⟨z % N, Int.emod_nonneg _ (by omega), Int.emod_lt_of_pos _ (by omega), rfl, HA.out, Only.draws (Only.draws (Only.set _ _ _ _) _) _⟩
  · have d1 : decide ((len : Int) < (t : Int) + 1) = true := by simp; omega
    go_enter Try.func38, Try.ntmps38
    go_wp2_with fail
    go_quiet (fail)
    go_wp2_with fail
    go_ret
    exact ⟨0, by omega, by omega, rfl, HA.out, Only.draws (Only.set _ _ _ _) _⟩

/-- A level for so many parameters and unknowns, at most so deep, of not too many levels. -/
def LvOk (p m : Int) (d : Nat) (k n : Int) (F : Fo) : Prop := rNode p m k n F.len d (rAll p m F ((d : Int) - 1)) = true ∧ F.size + 2 ≤ 2 ^ d
theorem two_pow_ge {d : Nat} (h : 1 ≤ d) : 2 ≤ 2 ^ d := by
  match d, h with
  | d + 1, _ => have := Nat.one_le_two_pow (n := d); rw [Nat.pow_succ]; omega
theorem LvOk.zero {p m : Int} {d : Nat} (h : 1 ≤ d) : LvOk p m d 1 0 .nil := by
  refine ⟨?_, by have := two_pow_ge h; simp [Fo.size]; omega⟩
  rw [show rAll p m .nil ((d : Int) - 1) = true from rfl, rNode_fits _ _ _ _ _ _ _ (by omega) (fun _ => rfl)]; rfl
theorem LvOk.param {p m : Int} {d : Nat} (h : 1 ≤ d) {x : Int} (h0 : 0 ≤ x) (h1 : x < p) : LvOk p m d 5 x .nil := by
  refine ⟨?_, by have := two_pow_ge h; simp [Fo.size]; omega⟩
  rw [show rAll p m .nil ((d : Int) - 1) = true from rfl, rNode_fits _ _ _ _ _ _ _ (by omega) (fun _ => rfl)]; simp [fitsB, kidsOf, limOf, Fo.len, h0, h1]
theorem LvOk.unknown {p m : Int} {d : Nat} (h : 1 ≤ d) {x : Int} (h0 : 0 ≤ x) (h1 : x < m) : LvOk p m d 6 x .nil := by
  refine ⟨?_, by have := two_pow_ge h; simp [Fo.size]; omega⟩
  rw [show rAll p m .nil ((d : Int) - 1) = true from rfl, rNode_fits _ _ _ _ _ _ _ (by omega) (fun _ => rfl)]; simp [fitsB, kidsOf, limOf, Fo.len, h0, h1]
theorem LvOk.succ {p m : Int} {d : Nat} {k n : Int} {F : Fo} (h : LvOk p m d k n F) : LvOk p m (d + 1) 2 0 (.cons k n F .nil) := by
  obtain ⟨h1, h2⟩ := h
  refine ⟨?_, by rw [Nat.pow_succ]; simp [Fo.size]; omega⟩
  rw [rNode_fits _ _ _ _ _ _ _ (by omega) (by intro e; simp [Fo.len] at e), show (((d + 1 : Nat) : Int) - 1) = (d : Int) by omega]
  simp [fitsB, kidsOf, limOf, Fo.len, rAll, h1]
theorem LvOk.two {p m : Int} {d : Nat} {k n k' n' : Int} {F F' : Fo} (h : LvOk p m d k n F) (h' : LvOk p m d k' n' F') (q : Int) (hq : q = 3 ∨ q = 4) : LvOk p m (d + 1) q 0 (.cons k n F (.cons k' n' F' .nil)) := by
  obtain ⟨h1, h2⟩ := h
  obtain ⟨h3, h4⟩ := h'
  refine ⟨?_, by rw [Nat.pow_succ]; simp [Fo.size]; omega⟩
  rw [rNode_fits _ _ _ _ _ _ _ (by omega) (by intro e; simp [Fo.len] at e), show (((d + 1 : Nat) : Int) - 1) = (d : Int) by omega]
  rcases hq with rfl | rfl <;> simp [fitsB, kidsOf, limOf, Fo.len, rAll, h1, h3]
/-- How many numbers are gone through at most. -/
def bud : Nat → Nat
  | 0 => 2
  | d + 1 => 2 * bud d + 1
theorem bud_ge : ∀ d, 2 ≤ bud d
  | 0 => Nat.le_refl _
  | d + 1 => by have := bud_ge d; simp only [bud]; omega
theorem bud_succ (d : Nat) : bud (d + 1) = 2 * bud d + 1 := rfl
/-- What the maker's Level answers. -/
def MlOk (p m : Int) (w : World) (M : Nat) (a : Option Addr) (len cap t d : Nat) (e : Ending) (w' : World) : Prop :=
  ∃ (k n : Int) (F : Fo) (x : Option Addr) (c t' : Nat), e = .returned (.agg #[.int .i64 k, .int .i64 n, .slice x F.len c]) ∧ LvOk p m d k n F ∧ SlIn w' (fun b => w.heap.size ≤ b ∧ b < w'.heap.size) F x c ∧ MkAt w' M a len cap t' ∧ t' ≤ t + bud d ∧ w.grownBy w' (some M)
theorem MkAt.only {w w' : World} {M len cap t R : Nat} {a : Option Addr} (h : MkAt w M a len cap t) (hg : w.grownBy w' (some R)) (hne : M ≠ R) : MkAt w' M a len cap t := (Only.block hg (lt_of_block h) hne).trans h
/-- A Succ of what was made. -/
theorem MlOk.succ {p m : Int} {w w1 w2 : World} {M len cap t t2 c d : Nat} {a x : Option Addr} {k n : Int} {F : Fo} (hg1 : w.grownBy w1 (some M)) (hR : w.heap.size < w1.heap.size) (hM : M < w.heap.size) (hok : LvOk p m d k n F) (hs : SlIn w2 (fun b => w1.heap.size ≤ b ∧ b < w2.heap.size) F x c) (hat : MkAt w2 M a len cap t2) (ht : t2 ≤ t + bud (d + 1)) (hg2 : w1.grownBy w2 (some M)) :
    MlOk p m w M a len cap t (d + 1) (.returned (.agg #[.int .i64 2, .int .i64 0, .slice (some ⟨w2.heap.size, 0, none⟩) 1 1]))
      ((((w2.setCell ⟨w.heap.size, 0, none⟩ (.int .i64 2)).setCell ⟨w.heap.size, 1, none⟩ (.int .i64 0)).setCell ⟨w.heap.size, 2, none⟩ (.slice (some ⟨w2.heap.size, 0, none⟩) 1 1)).alloc (.cells #[.int .i64 k, .int .i64 n, .slice x F.len c] 38)) := by
  have hz := hg2.size
  have u0 := set3_only (w := w2) w.heap.size (.int .i64 2) (.int .i64 0) (.slice (some ⟨w2.heap.size, 0, none⟩) 1 1)
  have us : (((w2.setCell ⟨w.heap.size, 0, none⟩ (.int .i64 2)).setCell ⟨w.heap.size, 1, none⟩ (.int .i64 0)).setCell ⟨w.heap.size, 2, none⟩ (.slice (some ⟨w2.heap.size, 0, none⟩) 1 1)).heap.size = w2.heap.size := by simp
  generalize (((w2.setCell ⟨w.heap.size, 0, none⟩ (.int .i64 2)).setCell ⟨w.heap.size, 1, none⟩ (.int .i64 0)).setCell ⟨w.heap.size, 2, none⟩ (.slice (some ⟨w2.heap.size, 0, none⟩) 1 1)) = W0 at u0 us ⊢
  have u1 := Only.after u0 (Only.alloc W0 w.heap.size (.cells #[.int .i64 k, .int .i64 n, .slice x F.len c] 38))
  have u2 := heap_new W0 (.cells #[.int .i64 k, .int .i64 n, .slice x F.len c] 38)
  rw [us] at u2
  have u3 : (W0.alloc (.cells #[.int .i64 k, .int .i64 n, .slice x F.len c] 38)).heap.size = w2.heap.size + 1 := by simp [us]
  generalize W0.alloc (.cells #[.int .i64 k, .int .i64 n, .slice x F.len c] 38) = W at u1 u2 u3 ⊢
  refine ⟨2, 0, .cons k n F .nil, _, 1, t2, rfl, hok.succ, ?_, hat.only u1 (by omega), ht, Only.past (Only.after hg1 hg2) u1 (Nat.le_refl _)⟩
  exact SlIn.mk (by simp [Fo.len]) (by omega) ⟨by omega, by omega⟩ (FoIn.push (cell_at u2 0) (cell_at u2 1) (cell_at u2 2) (hs.carry u1 (by omega) (by omega)) trivial)
/-- Max, or Imax, of two that were made. -/
theorem MlOk.two {p m : Int} {w w1 w2 w3 : World} {M len cap t t3 c c' d : Nat} {a x x' : Option Addr} {k n k' n' q : Int} {F F' : Fo} (hg1 : w.grownBy w1 (some M)) (hR : w.heap.size < w1.heap.size) (hM : M < w.heap.size) (hok : LvOk p m d k n F) (hs : SlIn w2 (fun b => w1.heap.size ≤ b ∧ b < w2.heap.size) F x c)
    (hok' : LvOk p m d k' n' F') (hs' : SlIn w3 (fun b => w2.heap.size ≤ b ∧ b < w3.heap.size) F' x' c') (hat : MkAt w3 M a len cap t3) (ht : t3 ≤ t + bud (d + 1)) (hg2 : w1.grownBy w2 (some M)) (hg3 : w2.grownBy w3 (some M)) (hq : q = 3 ∨ q = 4) :
    MlOk p m w M a len cap t (d + 1) (.returned (.agg #[.int .i64 q, .int .i64 0, .slice (some ⟨w3.heap.size, 0, none⟩) 2 2]))
      ((((w3.setCell ⟨w.heap.size, 0, none⟩ (.int .i64 q)).setCell ⟨w.heap.size, 1, none⟩ (.int .i64 0)).setCell ⟨w.heap.size, 2, none⟩ (.slice (some ⟨w3.heap.size, 0, none⟩) 2 2)).alloc (.cells #[.int .i64 k, .int .i64 n, .slice x F.len c, .int .i64 k', .int .i64 n', .slice x' F'.len c'] 38)) := by
  have hz := hg2.size
  have hz3 := hg3.size
  have u0 := set3_only (w := w3) w.heap.size (.int .i64 q) (.int .i64 0) (.slice (some ⟨w3.heap.size, 0, none⟩) 2 2)
  have us : (((w3.setCell ⟨w.heap.size, 0, none⟩ (.int .i64 q)).setCell ⟨w.heap.size, 1, none⟩ (.int .i64 0)).setCell ⟨w.heap.size, 2, none⟩ (.slice (some ⟨w3.heap.size, 0, none⟩) 2 2)).heap.size = w3.heap.size := by simp
  generalize (((w3.setCell ⟨w.heap.size, 0, none⟩ (.int .i64 q)).setCell ⟨w.heap.size, 1, none⟩ (.int .i64 0)).setCell ⟨w.heap.size, 2, none⟩ (.slice (some ⟨w3.heap.size, 0, none⟩) 2 2)) = W0 at u0 us ⊢
  have u1 := Only.after u0 (Only.alloc W0 w.heap.size (.cells #[.int .i64 k, .int .i64 n, .slice x F.len c, .int .i64 k', .int .i64 n', .slice x' F'.len c'] 38))
  have u2 := heap_new W0 (.cells #[.int .i64 k, .int .i64 n, .slice x F.len c, .int .i64 k', .int .i64 n', .slice x' F'.len c'] 38)
  rw [us] at u2
  have u3 : (W0.alloc (.cells #[.int .i64 k, .int .i64 n, .slice x F.len c, .int .i64 k', .int .i64 n', .slice x' F'.len c'] 38)).heap.size = w3.heap.size + 1 := by simp [us]
  generalize W0.alloc (.cells #[.int .i64 k, .int .i64 n, .slice x F.len c, .int .i64 k', .int .i64 n', .slice x' F'.len c'] 38) = W at u1 u2 u3 ⊢
  have s1 := hs.carry (lo' := w1.heap.size) hg3 (by omega) (Nat.le_refl _)
  refine ⟨q, 0, .cons k n F (.cons k' n' F' .nil), _, 2, t3, rfl, hok.two hok' q hq, ?_, hat.only u1 (by omega), ht, Only.past (Only.after (Only.after hg1 hg2) hg3) u1 (Nat.le_refl _)⟩
  exact SlIn.mk (by simp [Fo.len]) (by omega) ⟨by omega, by omega⟩ (FoIn.push (cell_at u2 0) (cell_at u2 1) (cell_at u2 2) (s1.carry u1 (by omega) (by omega)) (FoIn.push (cell_at u2 3) (cell_at u2 4) (cell_at u2 5) (hs'.carry u1 (by omega) (by omega)) trivial))

set_option maxRecDepth 100000 in
set_option maxHeartbeats 16000000 in
theorem mLevel_any (p m : Int) (hp1 : 1 ≤ p) (hp2 : p ≤ 100) (hm1 : 1 ≤ m) (hm2 : m ≤ 100) (d : Nat) : ∀ (M len cap t B : Nat) (a : Option Addr) (D : Int) (w : World), MkAt w M a len cap t → U8In w (· < B) len a cap → B ≤ M → t + bud (d + 1) ≤ 99990 → D = d + 1 → d ≤ 10 →
    Calls Try.prog 40 #[.pointer (some ⟨M, 0, none⟩), .int .i64 p, .int .i64 m, .int .i64 D] w (MlOk p m w M a len cap t (d + 1)) := by
  have dp : decide (0 < p) = true := by simp; omega
  have dm : decide (0 < m) = true := by simp; omega
  have dn : (m == 0) = false := beq_eq_false_iff_ne.2 (by omega)
  induction d with
  | zero =>
    intro M len cap t B a D w hat hin hB ht hD _
    obtain rfl : D = 1 := by omega
    clear hD
    have HT := Lib.hid ht
    have ht' : t ≤ 99990 := by omega
    clear ht
    have hM := lt_of_block hat
    have hat0 := hat.only (Only.alloc w w.heap.size (.cells #[.int .i64 0, .int .i64 0, .slice none 0 0] 38)) (by omega)
    have hin0 := hin.below ((Below.refl B w).alloc (by omega) (.cells #[.int .i64 0, .int .i64 0, .slice none 0 0] 38))
    have HR0 := Lib.hid (heap_new w (.cells #[.int .i64 0, .int .i64 0, .slice none 0 0] 38))
    go_enter Try.func40, Try.ntmps40
    go_wp2_with fail
    refine (pick_any M len cap t B a 10 _ hat0 hin0 hB (by omega) (by omega) (by omega)).mono ?_
    rintro e w1 ⟨x, hx0, hx1, rfl, hat1, hg1⟩
    have hR1 := (Only.block hg1 (b := w.heap.size) (by simp) (by omega)).trans HR0.out
    obtain ⟨r0, r1, r2⟩ := cells3 hR1
    have rf := free_of hR1
    have hRlt := lt_of_block hR1
    have hne : w.heap.size ≠ M := by omega
    have HAT := Lib.hid hat1
    have HG := Lib.hid (Only.after (Only.alloc _ _ _) hg1)
    have hin1 := Lib.hid (hin0.keep (fun b hb => Only.block hg1 (by simp; omega) (by omega)))
    clear hat0 hin0 hR1 hg1 hat1
    have hc : x = 0 ∨ x = 1 ∨ x = 2 ∨ x = 3 ∨ x = 4 ∨ x = 5 ∨ x = 6 ∨ x = 7 ∨ x = 8 ∨ x = 9 := by omega
    clear hx0 hx1
    rcases hc with rfl | rfl | rfl | rfl | rfl | rfl | rfl | rfl | rfl | rfl
    · go_wp2_with fail
      refine bodyPost_ret (v := .agg #[.int .i64 1, .int .i64 0, .slice none 0 0]) (by simp [results, Try.results40, go_sem, r0, r1, r2]) rfl ?_
      exact ⟨1, 0, .nil, none, 0, t + 1, rfl, LvOk.zero (by omega), SlIn.none _ _, HAT.out.only (set3_only _ _ _ _) (by omega), Nat.add_le_add_left (Nat.le_trans (by decide : 1 ≤ 2) (bud_ge _)) t, Only.past HG.out (set3_only _ _ _ _) (Nat.le_refl _)⟩
    · go_wp2_with fail
      refine (pick_any M len cap (t + 1) B a p _ HAT.out hin1.out hB (by omega) (by omega) (by omega)).mono ?_
      rintro e w2 ⟨y, hy0, hy1, rfl, hat2, hg2⟩
      have hR2 := (World.cell?_of_block (a := ⟨w.heap.size, 0, none⟩) (Only.block hg2 hRlt hne)).trans r0
      have hR3 := (World.cell?_of_block (a := ⟨w.heap.size, 1, none⟩) (Only.block hg2 hRlt hne)).trans r1
      have hR4 := (World.cell?_of_block (a := ⟨w.heap.size, 2, none⟩) (Only.block hg2 hRlt hne)).trans r2
      have rf2 : ∀ o, w2.frozen? ⟨w.heap.size, o, none⟩ = false := fun o => (World.frozen?_of_block (a := ⟨w.heap.size, o, none⟩) (Only.block hg2 hRlt hne)).trans (rf o)
      have HAT2 := Lib.hid hat2
      have HG2 := Lib.hid (Only.after HG.out hg2)
      clear hat2 hg2 r0 r1 r2 rf
      go_wp2_with fail
      refine bodyPost_ret (v := .agg #[.int .i64 5, .int .i64 y, .slice none 0 0]) (by simp [results, Try.results40, go_sem, hR2, hR3, hR4]) rfl ?_
      exact ⟨5, y, .nil, none, 0, t + 1 + 1, rfl, LvOk.param (by omega) hy0 hy1, SlIn.none _ _, HAT2.out.only (set3_only _ _ _ _) (by omega), Nat.add_le_add_left (bud_ge _) t, Only.past HG2.out (set3_only _ _ _ _) (Nat.le_refl _)⟩
    · go_wp2_with fail
      refine (pick_any M len cap (t + 1) B a m _ HAT.out hin1.out hB (by omega) (by omega) (by omega)).mono ?_
      rintro e w2 ⟨y, hy0, hy1, rfl, hat2, hg2⟩
      have hR2 := (World.cell?_of_block (a := ⟨w.heap.size, 0, none⟩) (Only.block hg2 hRlt hne)).trans r0
      have hR3 := (World.cell?_of_block (a := ⟨w.heap.size, 1, none⟩) (Only.block hg2 hRlt hne)).trans r1
      have hR4 := (World.cell?_of_block (a := ⟨w.heap.size, 2, none⟩) (Only.block hg2 hRlt hne)).trans r2
      have rf2 : ∀ o, w2.frozen? ⟨w.heap.size, o, none⟩ = false := fun o => (World.frozen?_of_block (a := ⟨w.heap.size, o, none⟩) (Only.block hg2 hRlt hne)).trans (rf o)
      have HAT2 := Lib.hid hat2
      have HG2 := Lib.hid (Only.after HG.out hg2)
      clear hat2 hg2 r0 r1 r2 rf
      go_wp2_with fail
      refine bodyPost_ret (v := .agg #[.int .i64 6, .int .i64 y, .slice none 0 0]) (by simp [results, Try.results40, go_sem, hR2, hR3, hR4]) rfl ?_
      exact ⟨6, y, .nil, none, 0, t + 1 + 1, rfl, LvOk.unknown (by omega) hy0 hy1, SlIn.none _ _, HAT2.out.only (set3_only _ _ _ _) (by omega), Nat.add_le_add_left (bud_ge _) t, Only.past HG2.out (set3_only _ _ _ _) (Nat.le_refl _)⟩
    · go_wp2_with fail
      refine (pick_any M len cap (t + 1) B a m _ HAT.out hin1.out hB (by omega) (by omega) (by omega)).mono ?_
      rintro e w2 ⟨y, hy0, hy1, rfl, hat2, hg2⟩
      have hR2 := (World.cell?_of_block (a := ⟨w.heap.size, 0, none⟩) (Only.block hg2 hRlt hne)).trans r0
      have hR3 := (World.cell?_of_block (a := ⟨w.heap.size, 1, none⟩) (Only.block hg2 hRlt hne)).trans r1
      have hR4 := (World.cell?_of_block (a := ⟨w.heap.size, 2, none⟩) (Only.block hg2 hRlt hne)).trans r2
      have rf2 : ∀ o, w2.frozen? ⟨w.heap.size, o, none⟩ = false := fun o => (World.frozen?_of_block (a := ⟨w.heap.size, o, none⟩) (Only.block hg2 hRlt hne)).trans (rf o)
      have HAT2 := Lib.hid hat2
      have HG2 := Lib.hid (Only.after HG.out hg2)
      clear hat2 hg2 r0 r1 r2 rf
      go_wp2_with fail
      refine bodyPost_ret (v := .agg #[.int .i64 6, .int .i64 y, .slice none 0 0]) (by simp [results, Try.results40, go_sem, hR2, hR3, hR4]) rfl ?_
      exact ⟨6, y, .nil, none, 0, t + 1 + 1, rfl, LvOk.unknown (by omega) hy0 hy1, SlIn.none _ _, HAT2.out.only (set3_only _ _ _ _) (by omega), Nat.add_le_add_left (bud_ge _) t, Only.past HG2.out (set3_only _ _ _ _) (Nat.le_refl _)⟩
    · go_wp2_with fail
      refine bodyPost_ret (v := .agg #[.int .i64 1, .int .i64 0, .slice none 0 0]) (by simp [results, Try.results40, go_sem, r0, r1, r2]) rfl ?_
      exact ⟨1, 0, .nil, none, 0, t + 1, rfl, LvOk.zero (by omega), SlIn.none _ _, HAT.out.only (set3_only _ _ _ _) (by omega), Nat.add_le_add_left (Nat.le_trans (by decide : 1 ≤ 2) (bud_ge _)) t, Only.past HG.out (set3_only _ _ _ _) (Nat.le_refl _)⟩
    · go_wp2_with fail
      refine (pick_any M len cap (t + 1) B a p _ HAT.out hin1.out hB (by omega) (by omega) (by omega)).mono ?_
      rintro e w2 ⟨y, hy0, hy1, rfl, hat2, hg2⟩
      have hR2 := (World.cell?_of_block (a := ⟨w.heap.size, 0, none⟩) (Only.block hg2 hRlt hne)).trans r0
      have hR3 := (World.cell?_of_block (a := ⟨w.heap.size, 1, none⟩) (Only.block hg2 hRlt hne)).trans r1
      have hR4 := (World.cell?_of_block (a := ⟨w.heap.size, 2, none⟩) (Only.block hg2 hRlt hne)).trans r2
      have rf2 : ∀ o, w2.frozen? ⟨w.heap.size, o, none⟩ = false := fun o => (World.frozen?_of_block (a := ⟨w.heap.size, o, none⟩) (Only.block hg2 hRlt hne)).trans (rf o)
      have HAT2 := Lib.hid hat2
      have HG2 := Lib.hid (Only.after HG.out hg2)
      clear hat2 hg2 r0 r1 r2 rf
      go_wp2_with fail
      refine bodyPost_ret (v := .agg #[.int .i64 5, .int .i64 y, .slice none 0 0]) (by simp [results, Try.results40, go_sem, hR2, hR3, hR4]) rfl ?_
      exact ⟨5, y, .nil, none, 0, t + 1 + 1, rfl, LvOk.param (by omega) hy0 hy1, SlIn.none _ _, HAT2.out.only (set3_only _ _ _ _) (by omega), Nat.add_le_add_left (bud_ge _) t, Only.past HG2.out (set3_only _ _ _ _) (Nat.le_refl _)⟩
    · go_wp2_with fail
      refine (pick_any M len cap (t + 1) B a m _ HAT.out hin1.out hB (by omega) (by omega) (by omega)).mono ?_
      rintro e w2 ⟨y, hy0, hy1, rfl, hat2, hg2⟩
      have hR2 := (World.cell?_of_block (a := ⟨w.heap.size, 0, none⟩) (Only.block hg2 hRlt hne)).trans r0
      have hR3 := (World.cell?_of_block (a := ⟨w.heap.size, 1, none⟩) (Only.block hg2 hRlt hne)).trans r1
      have hR4 := (World.cell?_of_block (a := ⟨w.heap.size, 2, none⟩) (Only.block hg2 hRlt hne)).trans r2
      have rf2 : ∀ o, w2.frozen? ⟨w.heap.size, o, none⟩ = false := fun o => (World.frozen?_of_block (a := ⟨w.heap.size, o, none⟩) (Only.block hg2 hRlt hne)).trans (rf o)
      have HAT2 := Lib.hid hat2
      have HG2 := Lib.hid (Only.after HG.out hg2)
      clear hat2 hg2 r0 r1 r2 rf
      go_wp2_with fail
      refine bodyPost_ret (v := .agg #[.int .i64 6, .int .i64 y, .slice none 0 0]) (by simp [results, Try.results40, go_sem, hR2, hR3, hR4]) rfl ?_
      exact ⟨6, y, .nil, none, 0, t + 1 + 1, rfl, LvOk.unknown (by omega) hy0 hy1, SlIn.none _ _, HAT2.out.only (set3_only _ _ _ _) (by omega), Nat.add_le_add_left (bud_ge _) t, Only.past HG2.out (set3_only _ _ _ _) (Nat.le_refl _)⟩
    · go_wp2_with fail
      refine (pick_any M len cap (t + 1) B a m _ HAT.out hin1.out hB (by omega) (by omega) (by omega)).mono ?_
      rintro e w2 ⟨y, hy0, hy1, rfl, hat2, hg2⟩
      have hR2 := (World.cell?_of_block (a := ⟨w.heap.size, 0, none⟩) (Only.block hg2 hRlt hne)).trans r0
      have hR3 := (World.cell?_of_block (a := ⟨w.heap.size, 1, none⟩) (Only.block hg2 hRlt hne)).trans r1
      have hR4 := (World.cell?_of_block (a := ⟨w.heap.size, 2, none⟩) (Only.block hg2 hRlt hne)).trans r2
      have rf2 : ∀ o, w2.frozen? ⟨w.heap.size, o, none⟩ = false := fun o => (World.frozen?_of_block (a := ⟨w.heap.size, o, none⟩) (Only.block hg2 hRlt hne)).trans (rf o)
      have HAT2 := Lib.hid hat2
      have HG2 := Lib.hid (Only.after HG.out hg2)
      clear hat2 hg2 r0 r1 r2 rf
      go_wp2_with fail
      refine bodyPost_ret (v := .agg #[.int .i64 6, .int .i64 y, .slice none 0 0]) (by simp [results, Try.results40, go_sem, hR2, hR3, hR4]) rfl ?_
      exact ⟨6, y, .nil, none, 0, t + 1 + 1, rfl, LvOk.unknown (by omega) hy0 hy1, SlIn.none _ _, HAT2.out.only (set3_only _ _ _ _) (by omega), Nat.add_le_add_left (bud_ge _) t, Only.past HG2.out (set3_only _ _ _ _) (Nat.le_refl _)⟩
    · go_wp2_with fail
      refine bodyPost_ret (v := .agg #[.int .i64 1, .int .i64 0, .slice none 0 0]) (by simp [results, Try.results40, go_sem, r0, r1, r2]) rfl ?_
      exact ⟨1, 0, .nil, none, 0, t + 1, rfl, LvOk.zero (by omega), SlIn.none _ _, HAT.out.only (set3_only _ _ _ _) (by omega), Nat.add_le_add_left (Nat.le_trans (by decide : 1 ≤ 2) (bud_ge _)) t, Only.past HG.out (set3_only _ _ _ _) (Nat.le_refl _)⟩
    · go_wp2_with fail
      refine (pick_any M len cap (t + 1) B a p _ HAT.out hin1.out hB (by omega) (by omega) (by omega)).mono ?_
      rintro e w2 ⟨y, hy0, hy1, rfl, hat2, hg2⟩
      have hR2 := (World.cell?_of_block (a := ⟨w.heap.size, 0, none⟩) (Only.block hg2 hRlt hne)).trans r0
      have hR3 := (World.cell?_of_block (a := ⟨w.heap.size, 1, none⟩) (Only.block hg2 hRlt hne)).trans r1
      have hR4 := (World.cell?_of_block (a := ⟨w.heap.size, 2, none⟩) (Only.block hg2 hRlt hne)).trans r2
      have rf2 : ∀ o, w2.frozen? ⟨w.heap.size, o, none⟩ = false := fun o => (World.frozen?_of_block (a := ⟨w.heap.size, o, none⟩) (Only.block hg2 hRlt hne)).trans (rf o)
      have HAT2 := Lib.hid hat2
      have HG2 := Lib.hid (Only.after HG.out hg2)
      clear hat2 hg2 r0 r1 r2 rf
      go_wp2_with fail
      refine bodyPost_ret (v := .agg #[.int .i64 5, .int .i64 y, .slice none 0 0]) (by simp [results, Try.results40, go_sem, hR2, hR3, hR4]) rfl ?_
      exact ⟨5, y, .nil, none, 0, t + 1 + 1, rfl, LvOk.param (by omega) hy0 hy1, SlIn.none _ _, HAT2.out.only (set3_only _ _ _ _) (by omega), Nat.add_le_add_left (bud_ge _) t, Only.past HG2.out (set3_only _ _ _ _) (Nat.le_refl _)⟩
  | succ d ih =>
    intro M len cap t B a D w hat hin hB ht hD hd
    have IH := Lib.hid ih
    clear ih
    have hD2 : 2 ≤ D := by omega
    have hD3 : D ≤ 100 := by omega
    have HD := Lib.hid hD
    have HT1 : Hid (t + 1 + bud (d + 1) ≤ 99990) := Lib.hid (by rw [bud_succ] at ht; omega)
    have HT := Lib.hid ht
    have ht' : t ≤ 99990 := by omega
    clear hD ht
    have hM := lt_of_block hat
    have hat0 := hat.only (Only.alloc w w.heap.size (.cells #[.int .i64 0, .int .i64 0, .slice none 0 0] 38)) (by omega)
    have hin0 := hin.below ((Below.refl B w).alloc (by omega) (.cells #[.int .i64 0, .int .i64 0, .slice none 0 0] 38))
    have HR0 := Lib.hid (heap_new w (.cells #[.int .i64 0, .int .i64 0, .slice none 0 0] 38))
    go_enter Try.func40, Try.ntmps40
    go_wp2_with fail
    refine (pick_any M len cap t B a 10 _ hat0 hin0 hB (by omega) (by omega) (by omega)).mono ?_
    rintro e w1 ⟨x, hx0, hx1, rfl, hat1, hg1⟩
    have hR1 := (Only.block hg1 (b := w.heap.size) (by simp) (by omega)).trans HR0.out
    obtain ⟨r0, r1, r2⟩ := cells3 hR1
    have rf := free_of hR1
    have hRlt := lt_of_block hR1
    have hne : w.heap.size ≠ M := by omega
    have HAT := Lib.hid hat1
    have HG := Lib.hid (Only.after (Only.alloc _ _ _) hg1)
    have hin1 := Lib.hid (hin0.keep (fun b hb => Only.block hg1 (by simp; omega) (by omega)))
    clear hat0 hin0 hR1 hg1 hat1
    have hc : x = 0 ∨ x = 1 ∨ x = 2 ∨ x = 3 ∨ x = 4 ∨ x = 5 ∨ x = 6 ∨ x = 7 ∨ x = 8 ∨ x = 9 := by omega
    clear hx0 hx1
    rcases hc with rfl | rfl | rfl | rfl | rfl | rfl | rfl | rfl | rfl | rfl
    · go_wp2_with fail
      refine bodyPost_ret (v := .agg #[.int .i64 1, .int .i64 0, .slice none 0 0]) (by simp [results, Try.results40, go_sem, r0, r1, r2]) rfl ?_
      exact ⟨1, 0, .nil, none, 0, t + 1, rfl, LvOk.zero (by omega), SlIn.none _ _, HAT.out.only (set3_only _ _ _ _) (by omega), Nat.add_le_add_left (Nat.le_trans (by decide : 1 ≤ 2) (bud_ge _)) t, Only.past HG.out (set3_only _ _ _ _) (Nat.le_refl _)⟩
    · go_wp2_with fail
      refine (pick_any M len cap (t + 1) B a p _ HAT.out hin1.out hB (by omega) (by omega) (by omega)).mono ?_
      rintro e w2 ⟨y, hy0, hy1, rfl, hat2, hg2⟩
      have hR2 := (World.cell?_of_block (a := ⟨w.heap.size, 0, none⟩) (Only.block hg2 hRlt hne)).trans r0
      have hR3 := (World.cell?_of_block (a := ⟨w.heap.size, 1, none⟩) (Only.block hg2 hRlt hne)).trans r1
      have hR4 := (World.cell?_of_block (a := ⟨w.heap.size, 2, none⟩) (Only.block hg2 hRlt hne)).trans r2
      have rf2 : ∀ o, w2.frozen? ⟨w.heap.size, o, none⟩ = false := fun o => (World.frozen?_of_block (a := ⟨w.heap.size, o, none⟩) (Only.block hg2 hRlt hne)).trans (rf o)
      have HAT2 := Lib.hid hat2
      have HG2 := Lib.hid (Only.after HG.out hg2)
      clear hat2 hg2 r0 r1 r2 rf
      go_wp2_with fail
      refine bodyPost_ret (v := .agg #[.int .i64 5, .int .i64 y, .slice none 0 0]) (by simp [results, Try.results40, go_sem, hR2, hR3, hR4]) rfl ?_
      exact ⟨5, y, .nil, none, 0, t + 1 + 1, rfl, LvOk.param (by omega) hy0 hy1, SlIn.none _ _, HAT2.out.only (set3_only _ _ _ _) (by omega), Nat.add_le_add_left (bud_ge _) t, Only.past HG2.out (set3_only _ _ _ _) (Nat.le_refl _)⟩
    · go_wp2_with fail
      refine (pick_any M len cap (t + 1) B a m _ HAT.out hin1.out hB (by omega) (by omega) (by omega)).mono ?_
      rintro e w2 ⟨y, hy0, hy1, rfl, hat2, hg2⟩
      have hR2 := (World.cell?_of_block (a := ⟨w.heap.size, 0, none⟩) (Only.block hg2 hRlt hne)).trans r0
      have hR3 := (World.cell?_of_block (a := ⟨w.heap.size, 1, none⟩) (Only.block hg2 hRlt hne)).trans r1
      have hR4 := (World.cell?_of_block (a := ⟨w.heap.size, 2, none⟩) (Only.block hg2 hRlt hne)).trans r2
      have rf2 : ∀ o, w2.frozen? ⟨w.heap.size, o, none⟩ = false := fun o => (World.frozen?_of_block (a := ⟨w.heap.size, o, none⟩) (Only.block hg2 hRlt hne)).trans (rf o)
      have HAT2 := Lib.hid hat2
      have HG2 := Lib.hid (Only.after HG.out hg2)
      clear hat2 hg2 r0 r1 r2 rf
      go_wp2_with fail
      refine bodyPost_ret (v := .agg #[.int .i64 6, .int .i64 y, .slice none 0 0]) (by simp [results, Try.results40, go_sem, hR2, hR3, hR4]) rfl ?_
      exact ⟨6, y, .nil, none, 0, t + 1 + 1, rfl, LvOk.unknown (by omega) hy0 hy1, SlIn.none _ _, HAT2.out.only (set3_only _ _ _ _) (by omega), Nat.add_le_add_left (bud_ge _) t, Only.past HG2.out (set3_only _ _ _ _) (Nat.le_refl _)⟩
    · go_wp2_with fail
      refine (pick_any M len cap (t + 1) B a m _ HAT.out hin1.out hB (by omega) (by omega) (by omega)).mono ?_
      rintro e w2 ⟨y, hy0, hy1, rfl, hat2, hg2⟩
      have hR2 := (World.cell?_of_block (a := ⟨w.heap.size, 0, none⟩) (Only.block hg2 hRlt hne)).trans r0
      have hR3 := (World.cell?_of_block (a := ⟨w.heap.size, 1, none⟩) (Only.block hg2 hRlt hne)).trans r1
      have hR4 := (World.cell?_of_block (a := ⟨w.heap.size, 2, none⟩) (Only.block hg2 hRlt hne)).trans r2
      have rf2 : ∀ o, w2.frozen? ⟨w.heap.size, o, none⟩ = false := fun o => (World.frozen?_of_block (a := ⟨w.heap.size, o, none⟩) (Only.block hg2 hRlt hne)).trans (rf o)
      have HAT2 := Lib.hid hat2
      have HG2 := Lib.hid (Only.after HG.out hg2)
      clear hat2 hg2 r0 r1 r2 rf
      go_wp2_with fail
      refine bodyPost_ret (v := .agg #[.int .i64 6, .int .i64 y, .slice none 0 0]) (by simp [results, Try.results40, go_sem, hR2, hR3, hR4]) rfl ?_
      exact ⟨6, y, .nil, none, 0, t + 1 + 1, rfl, LvOk.unknown (by omega) hy0 hy1, SlIn.none _ _, HAT2.out.only (set3_only _ _ _ _) (by omega), Nat.add_le_add_left (bud_ge _) t, Only.past HG2.out (set3_only _ _ _ _) (Nat.le_refl _)⟩
    · go_wp2_with fail
      refine (IH.out M len cap (t + 1) B a (D - 1) _ HAT.out hin1.out hB (HT1.out) (by have := HD.out; omega) (by omega)).mono ?_
      rintro e w2 ⟨k, n, F, x, c, t2, rfl, hok, hs2, hat2, ht2, hg2⟩
      have hR2 := (World.cell?_of_block (a := ⟨w.heap.size, 0, none⟩) (Only.block hg2 hRlt hne)).trans r0
      have hR3 := (World.cell?_of_block (a := ⟨w.heap.size, 1, none⟩) (Only.block hg2 hRlt hne)).trans r1
      have hR4 := (World.cell?_of_block (a := ⟨w.heap.size, 2, none⟩) (Only.block hg2 hRlt hne)).trans r2
      have rf2 : ∀ o, w2.frozen? ⟨w.heap.size, o, none⟩ = false := fun o => (World.frozen?_of_block (a := ⟨w.heap.size, o, none⟩) (Only.block hg2 hRlt hne)).trans (rf o)
      have hRlt2 : w.heap.size < w2.heap.size := Nat.lt_of_lt_of_le hRlt hg2.size
      have HEnd := Lib.hid (MlOk.succ HG.out hRlt hM hok hs2 hat2 (show t2 ≤ t + bud (d + 1 + 1) by rw [bud_succ]; omega) hg2)
      clear hok hs2 hat2 ht2 hg2 r0 r1 r2 rf
      go_wp2_with fail
      refine bodyPost_ret (v := .agg #[.int .i64 2, .int .i64 0, .slice (some ⟨w2.heap.size, 0, none⟩) 1 1]) (by simp [results, Try.results40, go_sem, hR2, hR3, hR4, hRlt2]) rfl ?_
      exact HEnd.out
    · go_wp2_with fail
      refine (IH.out M len cap (t + 1) B a (D - 1) _ HAT.out hin1.out hB (HT1.out) (by have := HD.out; omega) (by omega)).mono ?_
      rintro e w2 ⟨k, n, F, x, c, t2, rfl, hok, hs2, hat2, ht2, hg2⟩
      have hR2 := (World.cell?_of_block (a := ⟨w.heap.size, 0, none⟩) (Only.block hg2 hRlt hne)).trans r0
      have hR3 := (World.cell?_of_block (a := ⟨w.heap.size, 1, none⟩) (Only.block hg2 hRlt hne)).trans r1
      have hR4 := (World.cell?_of_block (a := ⟨w.heap.size, 2, none⟩) (Only.block hg2 hRlt hne)).trans r2
      have rf2 : ∀ o, w2.frozen? ⟨w.heap.size, o, none⟩ = false := fun o => (World.frozen?_of_block (a := ⟨w.heap.size, o, none⟩) (Only.block hg2 hRlt hne)).trans (rf o)
      have hRlt2 : w.heap.size < w2.heap.size := Nat.lt_of_lt_of_le hRlt hg2.size
      have HEnd := Lib.hid (MlOk.succ HG.out hRlt hM hok hs2 hat2 (show t2 ≤ t + bud (d + 1 + 1) by rw [bud_succ]; omega) hg2)
      clear hok hs2 hat2 ht2 hg2 r0 r1 r2 rf
      go_wp2_with fail
      refine bodyPost_ret (v := .agg #[.int .i64 2, .int .i64 0, .slice (some ⟨w2.heap.size, 0, none⟩) 1 1]) (by simp [results, Try.results40, go_sem, hR2, hR3, hR4, hRlt2]) rfl ?_
      exact HEnd.out
    · go_wp2_with fail
      refine (IH.out M len cap (t + 1) B a (D - 1) _ HAT.out hin1.out hB (HT1.out) (by have := HD.out; omega) (by omega)).mono ?_
      rintro e w2 ⟨k, n, F, x, c, t2, rfl, hok, hs2, hat2, ht2, hg2⟩
      have HT2 : Hid (t2 + bud (d + 1) ≤ 99990) := Lib.hid (by have := HT.out; rw [bud_succ] at this; omega)
      have hin2 := Lib.hid (hin1.out.keep (fun b hb => Only.block hg2 (by omega) (by omega)))
      have HAT2 := Lib.hid hat2
      have HS2 := Lib.hid hs2
      have HOK := Lib.hid hok
      have HG2 := Lib.hid hg2
      clear hok hs2 hat2 hg2
      go_wp2_with fail
      refine (IH.out M len cap t2 B a (D - 1) _ HAT2.out hin2.out hB (HT2.out) (by have := HD.out; omega) (by omega)).mono ?_
      rintro e w3 ⟨k', n', F', x', c', t3, rfl, hok', hs3, hat3, ht3, hg3⟩
      have hg23 := Only.after HG2.out hg3
      have hR2 := (World.cell?_of_block (a := ⟨w.heap.size, 0, none⟩) (Only.block hg23 hRlt hne)).trans r0
      have hR3 := (World.cell?_of_block (a := ⟨w.heap.size, 1, none⟩) (Only.block hg23 hRlt hne)).trans r1
      have hR4 := (World.cell?_of_block (a := ⟨w.heap.size, 2, none⟩) (Only.block hg23 hRlt hne)).trans r2
      have rf2 : ∀ o, w3.frozen? ⟨w.heap.size, o, none⟩ = false := fun o => (World.frozen?_of_block (a := ⟨w.heap.size, o, none⟩) (Only.block hg23 hRlt hne)).trans (rf o)
      have hRlt2 : w.heap.size < w3.heap.size := Nat.lt_of_lt_of_le hRlt hg23.size
      have HEnd := Lib.hid (MlOk.two (q := 3) HG.out hRlt hM HOK.out HS2.out hok' hs3 hat3 (show t3 ≤ t + bud (d + 1 + 1) by rw [bud_succ]; omega) HG2.out hg3 (by decide))
      clear hok' hs3 hat3 ht3 hg3 hg23 r0 r1 r2 rf ht2
      go_wp2_with fail
      refine bodyPost_ret (v := .agg #[.int .i64 3, .int .i64 0, .slice (some ⟨w3.heap.size, 0, none⟩) 2 2]) (by simp [results, Try.results40, go_sem, hR2, hR3, hR4, hRlt2]) rfl ?_
      exact HEnd.out
    · go_wp2_with fail
      refine (IH.out M len cap (t + 1) B a (D - 1) _ HAT.out hin1.out hB (HT1.out) (by have := HD.out; omega) (by omega)).mono ?_
      rintro e w2 ⟨k, n, F, x, c, t2, rfl, hok, hs2, hat2, ht2, hg2⟩
      have HT2 : Hid (t2 + bud (d + 1) ≤ 99990) := Lib.hid (by have := HT.out; rw [bud_succ] at this; omega)
      have hin2 := Lib.hid (hin1.out.keep (fun b hb => Only.block hg2 (by omega) (by omega)))
      have HAT2 := Lib.hid hat2
      have HS2 := Lib.hid hs2
      have HOK := Lib.hid hok
      have HG2 := Lib.hid hg2
      clear hok hs2 hat2 hg2
      go_wp2_with fail
      refine (IH.out M len cap t2 B a (D - 1) _ HAT2.out hin2.out hB (HT2.out) (by have := HD.out; omega) (by omega)).mono ?_
      rintro e w3 ⟨k', n', F', x', c', t3, rfl, hok', hs3, hat3, ht3, hg3⟩
      have hg23 := Only.after HG2.out hg3
      have hR2 := (World.cell?_of_block (a := ⟨w.heap.size, 0, none⟩) (Only.block hg23 hRlt hne)).trans r0
      have hR3 := (World.cell?_of_block (a := ⟨w.heap.size, 1, none⟩) (Only.block hg23 hRlt hne)).trans r1
      have hR4 := (World.cell?_of_block (a := ⟨w.heap.size, 2, none⟩) (Only.block hg23 hRlt hne)).trans r2
      have rf2 : ∀ o, w3.frozen? ⟨w.heap.size, o, none⟩ = false := fun o => (World.frozen?_of_block (a := ⟨w.heap.size, o, none⟩) (Only.block hg23 hRlt hne)).trans (rf o)
      have hRlt2 : w.heap.size < w3.heap.size := Nat.lt_of_lt_of_le hRlt hg23.size
      have HEnd := Lib.hid (MlOk.two (q := 3) HG.out hRlt hM HOK.out HS2.out hok' hs3 hat3 (show t3 ≤ t + bud (d + 1 + 1) by rw [bud_succ]; omega) HG2.out hg3 (by decide))
      clear hok' hs3 hat3 ht3 hg3 hg23 r0 r1 r2 rf ht2
      go_wp2_with fail
      refine bodyPost_ret (v := .agg #[.int .i64 3, .int .i64 0, .slice (some ⟨w3.heap.size, 0, none⟩) 2 2]) (by simp [results, Try.results40, go_sem, hR2, hR3, hR4, hRlt2]) rfl ?_
      exact HEnd.out
    · go_wp2_with fail
      refine (IH.out M len cap (t + 1) B a (D - 1) _ HAT.out hin1.out hB (HT1.out) (by have := HD.out; omega) (by omega)).mono ?_
      rintro e w2 ⟨k, n, F, x, c, t2, rfl, hok, hs2, hat2, ht2, hg2⟩
      have HT2 : Hid (t2 + bud (d + 1) ≤ 99990) := Lib.hid (by have := HT.out; rw [bud_succ] at this; omega)
      have hin2 := Lib.hid (hin1.out.keep (fun b hb => Only.block hg2 (by omega) (by omega)))
      have HAT2 := Lib.hid hat2
      have HS2 := Lib.hid hs2
      have HOK := Lib.hid hok
      have HG2 := Lib.hid hg2
      clear hok hs2 hat2 hg2
      go_wp2_with fail
      refine (IH.out M len cap t2 B a (D - 1) _ HAT2.out hin2.out hB (HT2.out) (by have := HD.out; omega) (by omega)).mono ?_
      rintro e w3 ⟨k', n', F', x', c', t3, rfl, hok', hs3, hat3, ht3, hg3⟩
      have hg23 := Only.after HG2.out hg3
      have hR2 := (World.cell?_of_block (a := ⟨w.heap.size, 0, none⟩) (Only.block hg23 hRlt hne)).trans r0
      have hR3 := (World.cell?_of_block (a := ⟨w.heap.size, 1, none⟩) (Only.block hg23 hRlt hne)).trans r1
      have hR4 := (World.cell?_of_block (a := ⟨w.heap.size, 2, none⟩) (Only.block hg23 hRlt hne)).trans r2
      have rf2 : ∀ o, w3.frozen? ⟨w.heap.size, o, none⟩ = false := fun o => (World.frozen?_of_block (a := ⟨w.heap.size, o, none⟩) (Only.block hg23 hRlt hne)).trans (rf o)
      have hRlt2 : w.heap.size < w3.heap.size := Nat.lt_of_lt_of_le hRlt hg23.size
      have HEnd := Lib.hid (MlOk.two (q := 4) HG.out hRlt hM HOK.out HS2.out hok' hs3 hat3 (show t3 ≤ t + bud (d + 1 + 1) by rw [bud_succ]; omega) HG2.out hg3 (by decide))
      clear hok' hs3 hat3 ht3 hg3 hg23 r0 r1 r2 rf ht2
      go_wp2_with fail
      refine bodyPost_ret (v := .agg #[.int .i64 4, .int .i64 0, .slice (some ⟨w3.heap.size, 0, none⟩) 2 2]) (by simp [results, Try.results40, go_sem, hR2, hR3, hR4, hRlt2]) rfl ?_
      exact HEnd.out
    · go_wp2_with fail
      refine (IH.out M len cap (t + 1) B a (D - 1) _ HAT.out hin1.out hB (HT1.out) (by have := HD.out; omega) (by omega)).mono ?_
      rintro e w2 ⟨k, n, F, x, c, t2, rfl, hok, hs2, hat2, ht2, hg2⟩
      have HT2 : Hid (t2 + bud (d + 1) ≤ 99990) := Lib.hid (by have := HT.out; rw [bud_succ] at this; omega)
      have hin2 := Lib.hid (hin1.out.keep (fun b hb => Only.block hg2 (by omega) (by omega)))
      have HAT2 := Lib.hid hat2
      have HS2 := Lib.hid hs2
      have HOK := Lib.hid hok
      have HG2 := Lib.hid hg2
      clear hok hs2 hat2 hg2
      go_wp2_with fail
      refine (IH.out M len cap t2 B a (D - 1) _ HAT2.out hin2.out hB (HT2.out) (by have := HD.out; omega) (by omega)).mono ?_
      rintro e w3 ⟨k', n', F', x', c', t3, rfl, hok', hs3, hat3, ht3, hg3⟩
      have hg23 := Only.after HG2.out hg3
      have hR2 := (World.cell?_of_block (a := ⟨w.heap.size, 0, none⟩) (Only.block hg23 hRlt hne)).trans r0
      have hR3 := (World.cell?_of_block (a := ⟨w.heap.size, 1, none⟩) (Only.block hg23 hRlt hne)).trans r1
      have hR4 := (World.cell?_of_block (a := ⟨w.heap.size, 2, none⟩) (Only.block hg23 hRlt hne)).trans r2
      have rf2 : ∀ o, w3.frozen? ⟨w.heap.size, o, none⟩ = false := fun o => (World.frozen?_of_block (a := ⟨w.heap.size, o, none⟩) (Only.block hg23 hRlt hne)).trans (rf o)
      have hRlt2 : w.heap.size < w3.heap.size := Nat.lt_of_lt_of_le hRlt hg23.size
      have HEnd := Lib.hid (MlOk.two (q := 4) HG.out hRlt hM HOK.out HS2.out hok' hs3 hat3 (show t3 ≤ t + bud (d + 1 + 1) by rw [bud_succ]; omega) HG2.out hg3 (by decide))
      clear hok' hs3 hat3 ht3 hg3 hg23 r0 r1 r2 rf ht2
      go_wp2_with fail
      refine bodyPost_ret (v := .agg #[.int .i64 4, .int .i64 0, .slice (some ⟨w3.heap.size, 0, none⟩) 2 2]) (by simp [results, Try.results40, go_sem, hR2, hR3, hR4, hRlt2]) rfl ?_
      exact HEnd.out
end Go.Proofs.Ytcnhfoppfihhiaa
