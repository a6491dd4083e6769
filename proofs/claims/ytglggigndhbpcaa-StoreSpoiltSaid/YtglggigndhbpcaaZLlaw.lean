/- What the laws of stores share: the law's comparison at any world, parts of rows of atoms and of clauses. No condition but those that stand in each statement. -/
import Derived.Test.YtglggigndhbpcaaZLtold
import Derived.Test.YtglggigndhbpcaaZLaw11
import Derived.Test.YtglggigndhbpcaaZLmade
import Derived.Test.YtglggigndhbpcaaZLatoms
namespace Go.Proofs.Ytglggigndhbpcaa
open Go.RowKit

theorem told_at {V av aw : Int} {l k : List Cl} {b : List At} {m : List Int} {x xm y z : Option Addr} {c cm d e n1 n2 n3 n4 : Nat} {W : World} (hin : ClsIn W (· < W.heap.size) l x c) (him : IntsIn W (· < W.heap.size) m xm cm) (hik : ClsIn W (· < W.heap.size) k y d) (hib : AtsIn W (· < W.heap.size) b z e) (e1 : l.length = n1) (e2 : m.length = n2) (e3 : k.length = n3) (e4 : b.length = n4) (h1 : n1 + n3 ≤ 1000) (h2 : n2 ≤ 900) (h4 : n4 ≤ 1000) (hf : ∀ c ∈ l, c.1.length ≤ 1000) (hfk : ∀ c ∈ k, c.1.length ≤ 1000) :
    Calls Try.prog 13 #[.agg #[.int .i64 V, .slice x n1 c, .slice xm n2 cm], .slice y n3 d, .agg #[.int .i64 av, .int .i64 aw], .slice z n4 e] W fun e w' => e = .returned (.bool true) ∧ Below W.heap.size W w' := by
  subst e1 e2 e3 e4
  exact told11_any V av aw l k b m x xm y z c cm d e W.heap.size W hin him hik hib (Nat.le_refl _) h1 h2 h4 hf hfk
/-- The first clauses of a row. -/
theorem cls_take {w : World} {P : Nat → Prop} {l : List Cl} {x : Option Addr} {cap : Nat} (h : ClsIn w P l x cap) {k : Nat} (hk : k ≤ l.length) : ClsIn w P (l.take k) x cap := by
  obtain ⟨h1, h2, h3, h4⟩ := h
  refine ⟨by rw [List.length_take]; omega, h2, h3, fun hx => ?_⟩
  rw [List.length_take] at hx
  obtain ⟨b, o, e, hb, hf⟩ := h4 (by omega)
  refine ⟨b, o, e, hb, fun i hi => ?_⟩
  rw [List.length_take] at hi
  have e2 : (l.take k).getD i cl0 = l.getD i cl0 := by
    rw [List.getD_eq_getElem?_getD, List.getD_eq_getElem?_getD, List.getElem?_take]
    rw [if_pos (by omega)]
  rw [e2]
  exact hf i (by omega)
/-- All atoms of a row but the first one. -/
theorem ats_tail {w : World} {P : Nat → Prop} {a : At} {l : List At} {b o cap : Nat} (h : AtsIn w P (a :: l) (some ⟨b, o, none⟩) cap) : AtsIn w P l (if cap = 1 then some ⟨b, o, none⟩ else some ⟨b, o + 2, none⟩) (cap - 1) := by
  obtain ⟨h1, h2, h3, h4⟩ := h
  simp only [List.length_cons] at h1
  refine ⟨by omega, by omega, (fun e => by split at e <;> cases e), fun hx => ?_⟩
  obtain ⟨b', o', e, hb, hf⟩ := h4 (by simp)
  cases e
  refine ⟨b, o + 2, by rw [if_neg (by omega)], hb, fun i hi => ?_⟩
  have := hf (i + 1) (by simpa using hi)
  rw [show o + (i + 1) * 2 = o + 2 + i * 2 by omega] at this
  exact this
theorem cl_thousand {V : Nat} {K : List Cl} (h : K.all (clB V) = true) : ∀ c ∈ K, c.1.length ≤ 1000 := fun c hc => by
  have := (frB_of (clB_of (List.all_eq_true.1 h c hc)).2.1).2
  omega
theorem all_take {V : Nat} {K : List Cl} (h : K.all (clB V) = true) (k : Nat) : (K.take k).all (clB V) = true := List.all_eq_true.2 fun c hc => List.all_eq_true.1 h c (List.mem_of_mem_take hc)
end Go.Proofs.Ytglggigndhbpcaa
