/- What the law's maker of terms by numbers may make: the mathematics. No condition. -/
import Derived.Test.YtcnhfoppfihhiaaTlmath
import Derived.Test.YtcnhfoppfihhiaaMaker
import Derived.Test.YtcnhfoppfihhiaaMono
import Derived.Test.YtcnhfoppfihhiaaKid
namespace Go.Proofs.Ytcnhfoppfihhiaa
open Go.RowKit

theorem rNode_wide {p m p' m' k n : Int} {len : Nat} {d : Int} {sub sub' : Bool} (h : rNode p m k n len d sub = true) (hp : p ≤ p') (hm : m ≤ m') (hs : sub = true → sub' = true) : rNode p' m' k n len d sub' = true := by
  unfold rNode at h ⊢
  have h1 : ¬ d < 1 := by intro hh; rw [if_pos hh] at h; cases h
  rw [if_neg h1] at h ⊢
  split at h
  · cases h
  · rename_i h2
    rw [if_neg h2]
    split at h
    · rename_i h5
      rw [if_pos h5]
      simp only [decide_eq_true_eq] at h ⊢
      omega
    · rename_i h5
      rw [if_neg h5]
      split at h
      · rename_i h6
        rw [if_pos h6]
        simp only [decide_eq_true_eq] at h ⊢
        omega
      · rename_i h6
        rw [if_neg h6]
        rw [Bool.and_eq_true] at h ⊢
        exact ⟨hs h.1, h.2⟩
theorem rAll_wide {p m p' m' : Int} (hp : p ≤ p') (hm : m ≤ m') : ∀ {f : Fo} {d : Int}, rAll p m f d = true → rAll p' m' f d = true
  | .nil, _, _ => rfl
  | .cons k n ks r, d, h => by
    unfold rAll at h ⊢
    rw [Bool.and_eq_true] at h ⊢
    exact ⟨rNode_wide h.1 hp hm (fun h => rAll_wide hp hm h), rAll_wide hp hm h.2⟩
/-- A level that the maker made is right. -/
theorem LvOk.right {d : Nat} {k n : Int} {F : Fo} (h : LvOk 3 2 d k n F) (hd : d ≤ 4) : rightB 5 10 k n F = true := by
  obtain ⟨h1, h2⟩ := h
  unfold rightB
  have h3 : 2 ^ d ≤ 2 ^ 4 := Nat.pow_le_pow_right (by omega) hd
  have h4 := rNode_wide (p' := 5) (m' := 10) h1 (by omega) (by omega) (fun h => rAll_wide (p' := 5) (m' := 10) (by omega) (by omega) h)
  have h5 := rNode_mono (d' := 12) (sub' := rAll 5 10 F 11) h4 (by omega) (fun h => rAll_mono h (by omega))
  rw [h5, decide_eq_true (show F.size + 1 ≤ 100 by omega)]
  rfl
theorem okT_sort {v d : Int} {k n : Int} {F : Fo} (hd : 1 ≤ d) (h : rightB 5 10 k n F = true) : okT v d ⟨2, 0, .cons k n F .nil, .nil⟩ := by
  unfold okT tOne tfitsB
  simp [tkids, tlim, tlo, thi, Fo.len, Ft.len, lvB, h, tAll, hd]
theorem okT_const {v d n : Int} {ls : Fo} (hd : 1 ≤ d) (h0 : 0 ≤ n) (h1 : n < 20) (hl : ls.len ≤ 5) (h : lvB 5 10 ls = true) : okT v d ⟨3, n, ls, .nil⟩ := by
  unfold okT tOne tfitsB
  simp [tkids, tlim, tlo, thi, Ft.len, h, tAll, hd, h0, h1]
  omega
/-- A binder, or an application, of two. -/
theorem okT_two {v d q : Int} {A B : Tm} (hq : q = 4 ∨ q = 5 ∨ q = 6) (hA : okT v d A) (hB : okT (v + bindK q 1) d B) : okT v (d + 1) ⟨q, 0, .nil, A.to (B.to .nil)⟩ := by
  have h1 := hA.pos
  unfold okT at hA hB ⊢
  unfold tOne
  have e : tAll 5 10 (A.to (B.to .nil)) q 0 v (d + 1 - 1) = true := by
    rw [show d + 1 - 1 = d by omega]
    unfold Tm.to
    rw [tAll_cons, tAll_cons]
    rw [show v + bindK q 0 = v by rcases hq with rfl | rfl | rfl <;> simp [bindK], hA, hB]
    rfl
  show (decide (1 ≤ d + 1) && (tfitsB 5 10 v q 0 .nil (A.to (B.to .nil)).len && tAll 5 10 (A.to (B.to .nil)) q 0 v (d + 1 - 1))) = true
  rw [e]
  rcases hq with rfl | rfl | rfl <;> simp [tfitsB, tkids, tlim, tlo, thi, Fo.len, Ft.len, Tm.to, lvB] <;> omega
theorem okT_let {v d : Int} {A B C : Tm} (hA : okT v d A) (hB : okT v d B) (hC : okT (v + 1) d C) : okT v (d + 1) ⟨7, 0, .nil, A.to (B.to (C.to .nil))⟩ := by
  have h1 := hA.pos
  unfold okT at hA hB hC ⊢
  unfold tOne
  have e : tAll 5 10 (A.to (B.to (C.to .nil))) 7 0 v (d + 1 - 1) = true := by
    rw [show d + 1 - 1 = d by omega]
    unfold Tm.to
    rw [tAll_cons, tAll_cons, tAll_cons]
    rw [show v + bindK 7 0 = v by simp [bindK], show v + bindK 7 (0 + 1) = v by simp [bindK], show v + bindK 7 (0 + 1 + 1) = v + 1 by simp [bindK], hA, hB, hC]
    rfl
  show (decide (1 ≤ d + 1) && (tfitsB 5 10 v 7 0 .nil (A.to (B.to (C.to .nil))).len && tAll 5 10 (A.to (B.to (C.to .nil))) 7 0 v (d + 1 - 1))) = true
  rw [e]
  simp [tfitsB, tkids, tlim, tlo, thi, Fo.len, Ft.len, Tm.to, lvB]
  omega
/-- How many numbers are gone through at most. -/
def budT : Nat → Nat
  | 0 => 26
  | d + 1 => 3 * budT d + 1
theorem budT_ge : ∀ d, 26 ≤ budT d
  | 0 => Nat.le_refl _
  | d + 1 => by have := budT_ge d; simp only [budT]; omega
theorem lvB_app {p m : Int} : ∀ {f g : Fo}, lvB p m f = true → lvB p m g = true → lvB p m (f.app g) = true
  | .nil, _, _, h => h
  | .cons k n ks r, g, h, h' => by
    simp only [lvB, Fo.app, Bool.and_eq_true] at h ⊢
    exact ⟨h.1, lvB_app h.2 h'⟩
/-- What the maker of terms answers. -/
def MtOk (v : Int) (w : World) (M : Nat) (a : Option Addr) (len cap t d : Nat) (e : Ending) (w' : World) : Prop :=
  ∃ (T : Tm) (la : Option Addr) (lc : Nat) (ka : Option Addr) (kc t' : Nat), e = .returned (.agg #[.int .i64 T.k, .int .i64 T.n, .slice la T.ls.len lc, .slice ka T.ks.len kc]) ∧ okT v (d + 1 : Nat) T ∧
    SlIn w' (fun b => w.heap.size ≤ b ∧ b < w'.heap.size) T.ls la lc ∧ TlIn w' (fun b => w.heap.size ≤ b ∧ b < w'.heap.size) T.ks ka kc ∧ MkAt w' M a len cap t' ∧ t' ≤ t + budT d ∧ w.grownBy w' (some M)
/-- The answer stands in the call's own variable, R. -/
theorem MtOk.store {v : Int} {w w3 : World} {M len cap t t' d lc kc : Nat} {a la ka : Option Addr} {T : Tm} {R : Nat} (hR : w.heap.size ≤ R) (hM : M < w.heap.size) (hok : okT v (d + 1 : Nat) T)
    (hl : SlIn w3 (fun b => R < b ∧ b < w3.heap.size) T.ls la lc) (hk : TlIn w3 (fun b => R < b ∧ b < w3.heap.size) T.ks ka kc) (hat : MkAt w3 M a len cap t') (ht : t' ≤ t + budT d) (hg : w.grownBy w3 (some M)) :
    MtOk v w M a len cap t d (.returned (.agg #[.int .i64 T.k, .int .i64 T.n, .slice la T.ls.len lc, .slice ka T.ks.len kc])) ((((w3.setCell ⟨R, 0, none⟩ (.int .i64 T.k)).setCell ⟨R, 1, none⟩ (.int .i64 T.n)).setCell ⟨R, 2, none⟩ (.slice la T.ls.len lc)).setCell ⟨R, 3, none⟩ (.slice ka T.ks.len kc)) := by
  have u := set4_only (w := w3) R (.int .i64 T.k) (.int .i64 T.n) (.slice la T.ls.len lc) (.slice ka T.ks.len kc)
  refine ⟨T, la, lc, ka, kc, t', rfl, hok, ?_, ?_, hat.only u (by omega), ht, Only.past hg u hR⟩
  · exact (hl.keep (fun b hb => Only.block u hb.2 (by omega))).weak (fun b hb => ⟨by omega, Nat.lt_of_lt_of_le hb.2 u.size⟩)
  · exact hk.turn (fun b hb => Only.block u hb.2 (by omega)) (fun b hb => ⟨by omega, Nat.lt_of_lt_of_le hb.2 u.size⟩)
end Go.Proofs.Ytcnhfoppfihhiaa
