/- Plain mathematics of arenas: what Put adds keeps what was there; the level of the place that is told is what was put; two places of one level are one place. No condition but those that stand in each statement. -/
import Derived.Test.YtmbopdlmkbbbiaaAlv
import Derived.Test.YtmbopdlmkbbbiaaMade
namespace Go.Proofs.Ytmbopdlmkbbbiaa
open Go

theorem trs_len : ∀ (r : List Nd) (d : List Fo), (trs d r).length = d.length + r.length
  | [], d => rfl
  | x :: r, d => by rw [trs, trs_len r]; simp; omega
theorem trs_app : ∀ (a b : List Nd) (d : List Fo), trs d (a ++ b) = trs (trs d a) b
  | [], b, d => rfl
  | x :: a, b, d => by rw [List.cons_append, trs, trs, trs_app a b]
/-- The level of a node is the same when there are more of them. -/
theorem tr_pre (ns e : List Nd) {i : Nat} (h : i < ns.length) : tr (ns ++ e) i = tr ns i := by
  unfold tr
  rw [trs_app, trs_pre e _ i (by rw [trs_len]; simpa using h)]
theorem tr_good {ns : List Nd} (h : goodN [] ns = true) {i : Nat} {x : Nd} (hx : ns[i]? = some x) : tr ns i = .cons x.k x.n (kd ns x) .nil ∧ fitsN x (i : Nat) = true := by
  have := trs_at ns [] [] i x rfl h hx
  simpa [tr, kd] using this
theorem good_nodup : ∀ (r d : List Nd), goodN d r = true → r.Nodup ∧ ∀ x ∈ r, x ∉ d
  | [], _, _ => ⟨List.nodup_nil, fun x h => by simp at h⟩
  | x :: r, d, h => by
    rw [goodN_cons] at h
    simp only [Bool.and_eq_true, Bool.not_eq_true'] at h
    obtain ⟨⟨h1, _⟩, h3⟩ := h
    obtain ⟨g1, g2⟩ := good_nodup r (d ++ [x]) h3
    have hx : x ∉ d := fun hm => by rw [List.contains_iff_mem.2 hm] at h1; cases h1
    refine ⟨List.nodup_cons.2 ⟨fun hm => g2 x hm (by simp), g1⟩, fun y hy => ?_⟩
    rcases List.mem_cons.1 hy with rfl | hy
    · exact hx
    · exact fun hm => g2 y hy (List.mem_append_left _ hm)
theorem fits_a0 {x : Nd} {i : Int} (h : fitsN x i = true) (h0 : nK x.k = 0) : x.a = 0 := by
  have hk := nK_eq x.k
  simp only [fitsN, Bool.and_eq_true, kidB] at h
  have := h.2.2.1
  rw [decide_eq_false (show ¬ (0 : Int) < nKids x.k by omega)] at this
  simpa using this
theorem fits_b0 {x : Nd} {i : Int} (h : fitsN x i = true) (h0 : nK x.k ≤ 1) : x.b = 0 := by
  have hk := nK_eq x.k
  simp only [fitsN, Bool.and_eq_true, kidB] at h
  have := h.2.2.2
  rw [decide_eq_false (show ¬ (1 : Int) < nKids x.k by omega)] at this
  simpa using this
/-- TWO PLACES OF ONE LEVEL ARE ONE PLACE. -/
theorem tr_inj {ns : List Nd} (hg : goodN [] ns = true) : ∀ (s i j : Nat), i < s → i < ns.length → j < ns.length → tr ns i = tr ns j → i = j
  | 0, i, _, hs, _, _, _ => by omega
  | s + 1, i, j, hs, hi, hj, he => by
    have hx := List.getElem?_eq_getElem hi
    have hy := List.getElem?_eq_getElem hj
    have hd := (good_nodup ns [] hg).1
    suffices hq : ns[i] = ns[j] from (List.getElem_inj hd).1 hq
    generalize ns[i] = x at hx
    generalize ns[j] = y at hy
    obtain ⟨t1, f1⟩ := tr_good hg hx
    obtain ⟨t2, f2⟩ := tr_good hg hy
    rw [t1, t2] at he
    injection he with e1 e2 e3
    rcases nK_cases x.k with h0 | h0 | h0
    · have h0' : nK y.k = 0 := by rw [← e1]; exact h0
      have a1 := fits_a0 f1 h0
      have a2 := fits_a0 f2 h0'
      have b1 := fits_b0 f1 (by omega)
      have b2 := fits_b0 f2 (by omega)
      cases x; cases y; simp_all
    · have h0' : nK y.k = 1 := by rw [← e1]; exact h0
      have a1 := fits_a f1 (by omega)
      have a2 := fits_a f2 (by omega)
      have b1 := fits_b0 f1 (by omega)
      have b2 := fits_b0 f2 (by omega)
      rw [kd_1 h0, kd_1 h0'] at e3
      have := tr_inj hg s x.a.toNat y.a.toNat (by omega) (by omega) (by omega) e3
      have e4 : x.a = y.a := by omega
      cases x; cases y; simp_all
    · have h0' : nK y.k = 2 := by rw [← e1]; exact h0
      have a1 := fits_a f1 (by omega)
      have a2 := fits_a f2 (by omega)
      have b1 := fits_b f1 (by omega)
      have b2 := fits_b f2 (by omega)
      rw [kd_2 h0, kd_2 h0'] at e3
      have one : ∀ q : Nat, q < ns.length → (tr ns q).len = 1 := fun q hq => by rw [(tr_good hg (List.getElem?_eq_getElem hq)).1]; rfl
      obtain ⟨g1, g2⟩ := (Fo.app_eq (by rw [one _ (by omega), one _ (by omega)])).1 e3
      have q1 := tr_inj hg s x.a.toNat y.a.toNat (by omega) (by omega) (by omega) g1
      have q2 := tr_inj hg s x.b.toNat y.b.toNat (by omega) (by omega) (by omega) g2
      have e4 : x.a = y.a := by omega
      have e5 : x.b = y.b := by omega
      cases x; cases y; simp_all

/-- All levels of a forest have names and Kids such as their kinds have. -/
def KF : Fo → Prop
  | .nil => True
  | .cons k n ks r => (0 ≤ n ∧ n < nNames k ∧ ks.len = nK k) ∧ KF ks ∧ KF r
theorem kf_node {k n : Int} {len : Nat} {d : Int} {sub : Bool} (h : rNode 5 10 k n len d sub = true) : 0 ≤ n ∧ n < nNames k ∧ len = nK k := by
  have hk := nK_eq k
  unfold rNode kidsOf at h
  unfold nKids at hk
  unfold nNames
  by_cases h1 : d < 1
  · rw [if_pos h1] at h; cases h
  rw [if_neg h1] at h
  by_cases c5 : k = 5
  · subst c5
    simp at h hk
    refine ⟨by omega, by simp; omega, by omega⟩
  by_cases c6 : k = 6
  · subst c6
    simp at h hk
    refine ⟨by omega, by simp; omega, by omega⟩
  by_cases c1 : k = 1
  · subst c1
    simp at h hk
    refine ⟨by omega, by simp; omega, by omega⟩
  by_cases c2 : k = 2
  · subst c2
    simp at h hk
    refine ⟨by omega, by simp; omega, by omega⟩
  by_cases c3 : k = 3
  · subst c3
    simp at h hk
    refine ⟨by omega, by simp; omega, by omega⟩
  by_cases c4 : k = 4
  · subst c4
    simp at h hk
    refine ⟨by omega, by simp; omega, by omega⟩
  simp [c1, c2, c3, c4, c5, c6] at h
theorem kf_all : ∀ (F : Fo) (d : Int), rAll 5 10 F d = true → KF F
  | .nil, _, _ => trivial
  | .cons k n ks r, d, h => by
    unfold rAll at h
    rw [Bool.and_eq_true] at h
    refine ⟨kf_node h.1, ?_, kf_all r d h.2⟩
    rcases Nat.eq_zero_or_pos ks.len with h0 | h0
    · rw [Fo.len_zero h0]; trivial
    · exact kf_all ks _ ((w2_node h.1).2 h0)
theorem rnode_deep {p m k n d : Int} {len : Nat} {sub : Bool} (h : rNode p m k n len d sub = true) : 1 ≤ d := by
  unfold rNode at h
  by_cases h1 : d < 1
  · rw [if_pos h1] at h; cases h
  · omega
theorem dF_all {p m : Int} : ∀ (F : Fo) (d : Int), rAll p m F d = true → (dF F : Int) ≤ max d 0
  | .nil, d, _ => by simp [dF]; omega
  | .cons k n ks r, d, h => by
    unfold rAll at h
    rw [Bool.and_eq_true] at h
    have h1 := rnode_deep h.1
    have h2 := dF_all r d h.2
    have h3 : (dF ks : Int) ≤ d - 1 := by
      rcases Nat.eq_zero_or_pos ks.len with h0 | h0
      · rw [Fo.len_zero h0]; simp [dF]; omega
      · have := dF_all ks _ ((w2_node h.1).2 h0)
        omega
    simp only [dF]
    omega
/-- What is known of a right level. -/
theorem right_kf {k n : Int} {F : Fo} (h : rightB 5 10 k n F = true) : KF (.cons k n F .nil) ∧ dF (.cons k n F .nil) ≤ 12 ∧ (Fo.cons k n F .nil).size ≤ 100 := by
  unfold rightB at h
  simp only [Bool.and_eq_true, decide_eq_true_eq] at h
  have h0 : rAll 5 10 (.cons k n F .nil) 12 = true := by
    simp only [rAll, Bool.and_true]
    exact h.2.2
  have h1 := dF_all _ _ h0
  refine ⟨kf_all _ _ h0, by omega, by simp only [Fo.size]; omega⟩

/-- The levels of places, one behind the other. -/
def Lv (ns : List Nd) : List Nat → Fo
  | [] => .nil
  | i :: r => (tr ns i).app (Lv ns r)
theorem Lv_pre (ns e : List Nd) : ∀ (l : List Nat), (∀ i ∈ l, i < ns.length) → Lv (ns ++ e) l = Lv ns l
  | [], _ => rfl
  | i :: r, h => by rw [Lv, Lv, tr_pre ns e (h i (by simp)), Lv_pre ns e r (fun j hj => h j (by simp [hj]))]
theorem addN_facts {ns : List Nd} {x : Nd} (hg : goodN [] ns = true) (hf : fitsN x (ns.length : Nat) = true) : (∃ e, (addN ns x).1 = ns ++ e) ∧ goodN [] (addN ns x).1 = true ∧ (addN ns x).1[(addN ns x).2]? = some x := by
  unfold addN
  split
  · rename_i h
    refine ⟨⟨[], by simp⟩, hg, ?_⟩
    show ns[ns.idxOf x]? = some x
    rw [List.getElem?_eq_getElem (List.idxOf_lt_length_of_mem h), List.getElem_idxOf]
  · rename_i h
    refine ⟨⟨[x], rfl⟩, ?_, by simp⟩
    show goodN [] (ns ++ [x]) = true
    rw [goodN_app, hg, List.nil_append, goodN_cons, hf]
    have : ns.contains x = false := by
      cases hc : ns.contains x with
      | false => rfl
      | true => exact absurd (List.contains_iff_mem.1 hc) h
    rw [this]; rfl
theorem app_nil' : ∀ f : Fo, f.app .nil = f
  | .nil => rfl
  | .cons k n ks r => by rw [Fo.app, app_nil' r]
theorem list_two {l : List Nat} (h : l.length = 2) : ∃ a b, l = [a, b] := by
  match l, h with
  | [a, b], _ => exact ⟨a, b, rfl⟩
/-- One node behind its kids. -/
theorem node_spec {ms : List Nd} {ps : List Nat} {k n : Int} {ks : Fo} (hg : goodN [] ms = true) (hp : ∀ i ∈ ps, i < ms.length) (hL : Lv ms ps = ks) (hl : ps.length = ks.len) (hk : 0 ≤ n ∧ n < nNames k ∧ ks.len = nK k) :
    (∃ e, (addN ms (nodeOf k n (ms, ps))).1 = ms ++ e) ∧ goodN [] (addN ms (nodeOf k n (ms, ps))).1 = true ∧ (addN ms (nodeOf k n (ms, ps))).2 < (addN ms (nodeOf k n (ms, ps))).1.length ∧ tr (addN ms (nodeOf k n (ms, ps))).1 (addN ms (nodeOf k n (ms, ps))).2 = .cons k n ks .nil := by
  obtain ⟨hn0, hn1, hk⟩ := hk
  have hq := nK_eq k
  have hlen : ps.length = nK k := hl.trans hk
  have hfit : fitsN (nodeOf k n (ms, ps)) (ms.length : Nat) = true := by
    show (decide (0 ≤ n) && (decide (n < nNames k) && (kidB ((ps.getD 0 0 : Nat) : Int) (decide (0 < nKids k)) (ms.length : Nat) && kidB ((ps.getD 1 0 : Nat) : Int) (decide (1 < nKids k)) (ms.length : Nat)))) = true
    rw [decide_eq_true hn0, decide_eq_true hn1, Bool.true_and, Bool.true_and, Bool.and_eq_true]
    unfold kidB
    refine ⟨?_, ?_⟩
    · by_cases c : (0 : Int) < nKids k
      · have hm : ps.getD 0 0 < ms.length := by
          rw [List.getD_eq_getElem?_getD, List.getElem?_eq_getElem (by omega)]
          exact hp _ (List.getElem_mem _)
        rw [decide_eq_true c, if_pos rfl, Bool.and_eq_true, decide_eq_true_eq, decide_eq_true_eq]
        omega
      · have : ps = [] := List.length_eq_zero_iff.1 (by omega)
        rw [decide_eq_false c, this]; rfl
    · by_cases c : (1 : Int) < nKids k
      · have hm : ps.getD 1 0 < ms.length := by
          rw [List.getD_eq_getElem?_getD, List.getElem?_eq_getElem (by omega)]
          exact hp _ (List.getElem_mem _)
        rw [decide_eq_true c, if_pos rfl, Bool.and_eq_true, decide_eq_true_eq, decide_eq_true_eq]
        omega
      · have : ps.getD 1 0 = 0 := by rw [List.getD_eq_getElem?_getD, List.getElem?_eq_none (by omega)]; rfl
        rw [decide_eq_false c, this]; rfl
  obtain ⟨⟨e, he⟩, g1, g2⟩ := addN_facts hg hfit
  refine ⟨⟨e, he⟩, g1, (List.getElem?_eq_some_iff.1 g2).1, ?_⟩
  rw [(tr_good g1 g2).1]
  show Fo.cons k n (kd _ _) .nil = _
  congr 1
  rw [he]
  rcases nK_cases k with h0 | h0 | h0
  · have e1 : ps = [] := List.length_eq_zero_iff.1 (by omega)
    subst e1
    rw [kd_0 (show nK (nodeOf k n (ms, [])).k = 0 from h0)]
    exact hL
  · obtain ⟨a, rfl⟩ := List.length_eq_one_iff.1 (hlen.trans h0)
    rw [kd_1 (show nK (nodeOf k n (ms, [a])).k = 1 from h0)]
    show tr (ms ++ e) (Int.toNat ((a : Nat) : Int)) = ks
    rw [Int.toNat_natCast, tr_pre ms e (hp a (by simp)), ← hL]
    show _ = (tr ms a).app .nil
    rw [app_nil']
  · obtain ⟨a, b, rfl⟩ := list_two (hlen.trans h0)
    rw [kd_2 (show nK (nodeOf k n (ms, [a, b])).k = 2 from h0)]
    show (tr (ms ++ e) (Int.toNat ((a : Nat) : Int))).app (tr (ms ++ e) (Int.toNat ((b : Nat) : Int))) = ks
    rw [Int.toNat_natCast, Int.toNat_natCast, tr_pre ms e (hp a (by simp)), tr_pre ms e (hp b (by simp)), ← hL]
    show _ = (tr ms a).app ((tr ms b).app .nil)
    rw [app_nil']
theorem put_all : ∀ (F : Fo) (ns : List Nd), goodN [] ns = true → KF F → (∃ e, (putAll F ns).1 = ns ++ e) ∧ goodN [] (putAll F ns).1 = true ∧ (∀ i ∈ (putAll F ns).2, i < (putAll F ns).1.length) ∧ Lv (putAll F ns).1 (putAll F ns).2 = F
  | .nil, ns, hg, _ => ⟨⟨[], by simp [putAll]⟩, hg, fun i h => by simp [putAll] at h, rfl⟩
  | .cons k n ks r, ns, hg, hf => by
    obtain ⟨hk, hks, hr⟩ := hf
    obtain ⟨⟨e1, q1⟩, q2, q3, q4⟩ := put_all ks ns hg hks
    have q5 := (putAll_len ks ns).2.2
    have hN := node_spec q2 q3 q4 q5 hk
    have hE : putL k n ks ns = addN (putAll ks ns).1 (nodeOf k n ((putAll ks ns).1, (putAll ks ns).2)) := rfl
    rw [← hE] at hN
    obtain ⟨⟨e2, p1⟩, p2, p3, p4⟩ := hN
    obtain ⟨⟨e3, s1⟩, s2, s3, s4⟩ := put_all r (putL k n ks ns).1 p2 hr
    rw [putAll_cons]
    generalize (putAll r (putL k n ks ns).1) = S at s1 s2 s3 s4 ⊢
    generalize putL k n ks ns = L at p1 p2 p3 p4 s1 ⊢
    refine ⟨⟨e1 ++ (e2 ++ e3), ?_⟩, s2, fun i hi => ?_, ?_⟩
    · show S.1 = _
      rw [s1, p1, q1, List.append_assoc, List.append_assoc]
    · rcases List.mem_cons.1 hi with rfl | hi
      · show L.2 < S.1.length
        rw [s1, List.length_append]; omega
      · exact s3 i hi
    · show (tr S.1 L.2).app (Lv S.1 S.2) = _
      rw [s4, s1, tr_pre _ _ p3, p4]; rfl
theorem put_one {ns : List Nd} {k n : Int} {F : Fo} (hg : goodN [] ns = true) (hf : KF (.cons k n F .nil)) : (∃ e, (putL k n F ns).1 = ns ++ e) ∧ goodN [] (putL k n F ns).1 = true ∧ (putL k n F ns).2 < (putL k n F ns).1.length ∧ tr (putL k n F ns).1 (putL k n F ns).2 = .cons k n F .nil := by
  obtain ⟨hk, hks, _⟩ := hf
  obtain ⟨⟨e1, q1⟩, q2, q3, q4⟩ := put_all F ns hg hks
  have hN := node_spec q2 q3 q4 (putAll_len F ns).2.2 hk
  have hE : putL k n F ns = addN (putAll F ns).1 (nodeOf k n ((putAll F ns).1, (putAll F ns).2)) := rfl
  rw [← hE, q1] at hN
  obtain ⟨⟨e2, p1⟩, p2, p3, p4⟩ := hN
  exact ⟨⟨e1 ++ e2, by rw [p1, List.append_assoc]⟩, p2, p3, p4⟩
/-- WHAT PUT TELLS of a right level, and at most 800 right nodes. -/
theorem put_right {ns : List Nd} {k n : Int} {F : Fo} (hg : goodN [] ns = true) (hl : ns.length ≤ 800) (hr : rightB 5 10 k n F = true) :
    ∃ (e : List Nd) (p : Nat), putV ns k n F = (ns ++ e, p, 0) ∧ goodN [] (ns ++ e) = true ∧ (ns ++ e).length ≤ ns.length + 100 ∧ p < (ns ++ e).length ∧ tr (ns ++ e) p = .cons k n F .nil := by
  have hk := right_kf hr
  obtain ⟨⟨e, p1⟩, p2, p3, p4⟩ := put_one hg hk.1
  have hs := putL_len k n F ns
  have h2 := hk.2.2
  simp only [Fo.size] at h2
  have hR : rightN ns = true := by unfold rightN; rw [hg, decide_eq_true (by omega)]; rfl
  refine ⟨e, (putL k n F ns).2, ?_, by rw [← p1]; exact p2, by rw [← p1]; omega, by rw [← p1]; exact p3, by rw [← p1]; exact p4⟩
  unfold putV
  rw [if_pos ⟨hR, hr⟩, if_pos (by omega), p1]
/-- What Get tells of such a place: no error. -/
theorem get_right {ns : List Nd} {k n : Int} {F : Fo} {p : Nat} (hg : goodN [] ns = true) (hl : ns.length ≤ 1000) (hp : p < ns.length) (ht : tr ns p = .cons k n F .nil) (hr : rightB 5 10 k n F = true) : getE ns (p : Nat) = 0 := by
  have hk := right_kf hr
  have hR : rightN ns = true := by unfold rightN; rw [hg, decide_eq_true hl]; rfl
  unfold getE
  rw [if_pos ⟨hR, by omega, by omega⟩, Int.toNat_natCast, ht, if_pos hk.2]

/-- The levels stand at their places. -/
def Lay (ns : List Nd) : Fo → List Nat → Prop
  | .nil, [] => True
  | .cons k n F r, p :: ps => (p < ns.length ∧ tr ns p = .cons k n F .nil ∧ rightB 5 10 k n F = true) ∧ Lay ns r ps
  | _, _ => False
theorem Lay.grow {ns : List Nd} (e : List Nd) : ∀ {G : Fo} {ps : List Nat}, Lay ns G ps → Lay (ns ++ e) G ps
  | .nil, [], _ => trivial
  | .nil, _ :: _, h => h.elim
  | .cons .., [], h => h.elim
  | .cons .., p :: ps, h => ⟨⟨by rw [List.length_append]; have := h.1.1; omega, (tr_pre ns e h.1.1).trans h.1.2.1, h.1.2.2⟩, h.2.grow e⟩
theorem Lay.snoc {ns : List Nd} {k n : Int} {F : Fo} {p : Nat} (hp : p < ns.length) (ht : tr ns p = .cons k n F .nil) (hr : rightB 5 10 k n F = true) : ∀ {G : Fo} {ps : List Nat}, Lay ns G ps → Lay ns (G.app (.cons k n F .nil)) (ps ++ [p])
  | .nil, [], _ => ⟨⟨hp, ht, hr⟩, trivial⟩
  | .nil, _ :: _, h => h.elim
  | .cons .., [], h => h.elim
  | .cons .., _ :: _, h => ⟨h.1, h.2.snoc hp ht hr⟩
theorem Lay.len {ns : List Nd} : ∀ {G : Fo} {ps : List Nat}, Lay ns G ps → ps.length = G.len
  | .nil, [], _ => rfl
  | .nil, _ :: _, h => h.elim
  | .cons .., [], h => h.elim
  | .cons .., _ :: _, h => by rw [List.length_cons, h.2.len]; rfl
/-- The level at a place of the list, and its node's place. -/
theorem Lay.at {ns : List Nd} : ∀ {G : Fo} {ps : List Nat}, Lay ns G ps → ∀ {i : Nat}, i < G.len → ∃ (H : Fo) (k n : Int) (F r : Fo), G = H.app (.cons k n F r) ∧ H.len = i ∧ ps.getD i 0 < ns.length ∧ tr ns (ps.getD i 0) = .cons k n F .nil ∧ rightB 5 10 k n F = true
  | .nil, [], _, i, hi => by simp [Fo.len] at hi
  | .nil, _ :: _, h, _, _ => h.elim
  | .cons .., [], h, _, _ => h.elim
  | .cons k n F r, q :: ps, h, 0, _ => ⟨.nil, k, n, F, r, rfl, rfl, h.1⟩
  | .cons k n F r, q :: ps, h, i + 1, hi => by
    obtain ⟨H, k', n', F', r', e, e2, h3⟩ := h.2.at (i := i) (by simp only [Fo.len] at hi; omega)
    refine ⟨.cons k n F H, k', n', F', r', by rw [Fo.app, e], by show H.len + 1 = _; rw [e2], ?_⟩
    simpa using h3
end Go.Proofs.Ytmbopdlmkbbbiaa
