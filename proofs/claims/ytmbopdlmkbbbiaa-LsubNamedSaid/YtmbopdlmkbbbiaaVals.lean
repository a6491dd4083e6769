/- The values of levels, as plain functions of forests, and their bounds. -/
import Derived.Test.YtmbopdlmkbbbiaaInts
namespace Go.Proofs.Ytmbopdlmkbbbiaa
open Go

/-- The value of a level, by the values of its Kids. -/
def vNode (ps ms : List Int) (k n : Int) (vs : List Int) : Int :=
  if k = 2 then vs.getD 0 0 + 1 else if k = 3 then max (vs.getD 0 0) (vs.getD 1 0) else if k = 4 then (if vs.getD 1 0 = 0 then 0 else max (vs.getD 0 0) (vs.getD 1 0))
  else if k = 5 then ps.getD n.toNat 0 else if k = 6 then ms.getD n.toNat 0 else 0
def vals (ps ms : List Int) : Fo → List Int
  | .nil => []
  | .cons k n ks r => vNode ps ms k n (vals ps ms ks) :: vals ps ms r
theorem vals_len (ps ms : List Int) : ∀ f : Fo, (vals ps ms f).length = f.len
  | .nil => rfl
  | .cons _ _ _ r => by simp [vals, Fo.len, vals_len ps ms r]

theorem nats_get {l : List Int} (h : natsB l = true) (i : Nat) : 0 ≤ l.getD i 0 ∧ l.getD i 0 ≤ 1099511627776 := by
  by_cases hi : i < l.length
  · have e : l.getD i 0 = l[i] := by simp [List.getD_eq_getElem?_getD, hi]
    rw [e]
    have := List.all_eq_true.1 h l[i] (List.getElem_mem hi)
    simpa using this
  · have e : l.getD i 0 = 0 := by simp [List.getD_eq_getElem?_getD, hi]
    rw [e]; omega

theorem rAll_mono_d {p m : Int} : ∀ {f : Fo} {d : Int}, rAll p m f d = true → f ≠ .nil → 1 ≤ d
  | .nil, _, _, h => absurd rfl h
  | .cons k n ks r, d, h, _ => by
    by_cases hd : d < 1
    · simp [rAll, rNode, hd] at h
    · omega

/-- A value is no less than 0, and no more than 2^40 by so much as the level is deep. -/
theorem vNode_bound {ps ms : List Int} (hp : natsB ps = true) (hm : natsB ms = true) (k n : Int) {vs : List Int} {D : Int} (hD : 0 ≤ D) (hv : ∀ v ∈ vs, 0 ≤ v ∧ v ≤ 1099511627776 + D) :
    0 ≤ vNode ps ms k n vs ∧ vNode ps ms k n vs ≤ 1099511627776 + D + 1 := by
  have hg : ∀ i, 0 ≤ vs.getD i 0 ∧ vs.getD i 0 ≤ 1099511627776 + D := fun i => by
    by_cases hi : i < vs.length
    · have e : vs.getD i 0 = vs[i] := by simp [List.getD_eq_getElem?_getD, hi]
      rw [e]; exact hv _ (List.getElem_mem hi)
    · have e : vs.getD i 0 = 0 := by simp [List.getD_eq_getElem?_getD, hi]
      rw [e]; omega
  have h0 := hg 0
  have h1 := hg 1
  have h2 := nats_get hp n.toNat
  have h3 := nats_get hm n.toNat
  unfold vNode
  split
  · omega
  · split
    · omega
    · split
      · split <;> omega
      · split
        · omega
        · split <;> omega
theorem vals_bound {p m : Int} {ps ms : List Int} (hp : natsB ps = true) (hm : natsB ms = true) : ∀ (f : Fo) (d : Int), rAll p m f d = true → 0 ≤ d → ∀ v ∈ vals ps ms f, 0 ≤ v ∧ v ≤ 1099511627776 + d
  | .nil, _, _, _, v, hv => by simp [vals] at hv
  | .cons k n ks r, d, h, hd, v, hv => by
    have hd1 : 1 ≤ d := rAll_mono_d h (by simp)
    unfold rAll at h
    rw [Bool.and_eq_true] at h
    unfold vals at hv
    rcases List.mem_cons.1 hv with rfl | hv
    · have hks : ∀ v ∈ vals ps ms ks, 0 ≤ v ∧ v ≤ 1099511627776 + (d - 1) := by
        rw [rNode_fits p m k n ks.len d _ hd1 (fun h => rAll_nil_of p m ks _ (by omega)), Bool.and_eq_true] at h
        exact vals_bound hp hm ks (d - 1) h.1.2 (by omega)
      have := vNode_bound hp hm k n (D := d - 1) (by omega) hks
      omega
    · exact vals_bound hp hm r d h.2 hd v hv
/-- What holds of a right level: it fits, and its Kids do. -/
theorem node_parts {p m k n : Int} {f : Fo} {d : Int} (h : rNode p m k n f.len d (rAll p m f (d - 1)) = true) : 1 ≤ d ∧ (f.len : Int) = kidsOf k ∧ 0 ≤ n ∧ n < limOf p m k ∧ rAll p m f (d - 1) = true := by
  have hd : 1 ≤ d := by
    by_cases hd : d < 1
    · simp [rNode, hd] at h
    · omega
  rw [rNode_fits p m k n f.len d _ hd (fun h => rAll_nil_of p m f _ (by omega))] at h
  unfold fitsB at h
  simp only [Bool.and_eq_true, decide_eq_true_eq] at h
  exact ⟨hd, h.1.1, h.1.2.1, h.1.2.2, h.2⟩
theorem kidsOf_range (k : Int) (h : 0 ≤ kidsOf k) : k = 1 ∨ k = 2 ∨ k = 3 ∨ k = 4 ∨ k = 5 ∨ k = 6 := by
  unfold kidsOf at h
  split at h
  · omega
  · split at h
    · omega
    · split at h <;> omega
/-- A level's value is what the forest of that one level has first. -/
theorem fo_one {f : Fo} (h : f.len = 1) : ∃ k n ks, f = .cons k n ks .nil := by
  match f, h with
  | .cons k n ks r, h => exact ⟨k, n, ks, by rw [Fo.len_zero (f := r) (by simpa [Fo.len] using h)]⟩
theorem fo_two {f : Fo} (h : f.len = 2) : ∃ k n ks k' n' ks', f = .cons k n ks (.cons k' n' ks' .nil) := by
  match f, h with
  | .cons k n ks r, h => obtain ⟨k', n', ks', rfl⟩ := fo_one (f := r) (by simpa [Fo.len] using h); exact ⟨k, n, ks, k', n', ks', rfl⟩
end Go.Proofs.Ytmbopdlmkbbbiaa
