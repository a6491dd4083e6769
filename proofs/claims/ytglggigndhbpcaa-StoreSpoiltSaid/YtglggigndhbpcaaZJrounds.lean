/- The contract of the program's iterator over the rounds: it yields the values after each round, and ends with the first that changes nothing. Conditions: the clauses are right for as many variables as there are values, at most 16; the values are at most the limit, and no round goes on with a greater one. -/
import Derived.Test.YtglggigndhbpcaaZJround
import Derived.Test.YtglggigndhbpcaaZJarr
import Derived.Test.YtglggigndhbpcaaZJloop
namespace Go.Proofs.Ytglggigndhbpcaa
open Go.RowKit Go.Shelf
attribute [local go_sem] Oper.semAt_some

/-- The sum of the numbers of a block, to which a value points. -/
def sumAt (v : Value) (W : World) : Int :=
  match v with
  | .pointer (some p) => match W.heap[p.block]? with
    | some (.cells cs _ _) => cs.toList.foldr (fun u s => (match u with | .int _ z => z | _ => 0) + s) 0
    | _ => 0
  | _ => 0
theorem sumJ_pad : ∀ (n : Nat) (m : List Int), m.length ≤ n → ((List.range n).map fun i => m.getD i 0).foldr (· + ·) 0 = sumJ m
  | 0, m, h => by
    have : m = [] := List.eq_nil_of_length_eq_zero (by omega)
    subst this; rfl
  | n + 1, [], _ => by
    have ih := sumJ_pad n [] (by simp)
    rw [List.range_succ_eq_map, List.map_cons, List.map_map, List.foldr_cons]
    have e : (List.range n).map ((fun i => ([] : List Int).getD i 0) ∘ Nat.succ) = (List.range n).map fun i => ([] : List Int).getD i 0 := List.map_congr_left fun i _ => by simp
    rw [e, ih]; simp
  | n + 1, x :: r, h => by
    have ih := sumJ_pad n r (by simpa using h)
    rw [List.range_succ_eq_map, List.map_cons, List.map_map, List.foldr_cons]
    have e : (List.range n).map ((fun i => (x :: r).getD i 0) ∘ Nat.succ) = (List.range n).map fun i => r.getD i 0 := List.map_congr_left fun i _ => by simp
    rw [e, ih]; simp [sumJ]
theorem sumAt_is {W : World} {b : Nat} {m : List Int} {t : TypeId} (h : W.heap[b]? = some (.cells (aM m) t (0, 0))) (hm : m.length ≤ 16) : sumAt (.pointer (some ⟨b, 0, none⟩)) W = sumJ m := by
  rw [← sumJ_pad 16 m hm]
  unfold sumAt
  simp only [h]
  rfl

set_option maxHeartbeats 1000000 in
theorem jrounds_in (n' : Nat) (a : Option Addr) (len cap : Nat) (f : Nat → Int) (w : World) :
    CallsIn Fence.wide n' Try.prog 62 #[.slice a len cap, .agg (arrI f)] w fun e w' => e = .returned (.func (.func 68) #[] #[.pointer (some ⟨w.heap.size + 1, 0, none⟩), .pointer (some ⟨w.heap.size, 0, none⟩)]) ∧ w' = (w.alloc (.cells #[.slice a len cap] 22)).alloc (.cells (arrI f) 97) := by
  unfold arrI
  refine callsIn_of_wp Try.func62 rfl trivial ?_ rfl
  simp only [Try.ntmps62, List.size_toArray, List.length_cons, List.length_nil, Nat.reduceAdd, Nat.reduceSub, Array.replicate_succ, Array.replicate_zero, List.push_toArray, List.append_toArray, List.nil_append, List.cons_append]
  gi_wp2
  go_ret
  exact ⟨rfl, rfl⟩

set_option maxRecDepth 100000 in
set_option maxHeartbeats 8000000 in
theorem jrounds1_steps (n : Nat) (O : Nat → Prop) (l : List Cl) (m : List Int) (most : Int) (a : Option Addr) (cap B Bs Bn : Nat) (w : World) (hB : B ≤ w.heap.size) (hO : ∀ b, O b → b < w.heap.size) (hOn : ¬ O Bn) (hin : ClsIn w (· < B) l a cap)
    (hBn : w.heap[Bn]? = some (.cells #[.slice a l.length cap] 22 (0, 0))) (hBs : w.heap[Bs]? = some (.cells (aM m) 97 (0, 0)))
    (hr : RightJ m.length l) (hl60 : l.length ≤ 60) (hm16 : m.length ≤ 16) (h0m : ∀ i, 0 ≤ m.getD i 0) (hmm : ∀ i, i < m.length → m.getD i 0 ≤ most) (hm0 : 0 ≤ most) (hmx : most ≤ 549755813888) :
    StepsJ n 68 #[.pointer (some ⟨Bs, 0, none⟩), .pointer (some ⟨Bn, 0, none⟩)] (fun k => #[.agg (aM (itJ l m k))]) (GoJ l m most) (fun k => grB most (itJ l m k) = false)
      (fun k => ∃ j, k = j + 1 ∧ GoJ l m most j ∧ grB most (rndJ l (itJ l m j)) = false ∧ rndJ l (itJ l m j) = itJ l m j) (KpO B O) w := fun lp J Jx W hW hJ hJx hY h0 => by
  have hdd : ∀ k : Nat, (Fence.wide.depth.isSome = true → 1 ≤ k) := fun k h => by cases h
  have hlen := hin.len
  have HIN := Lib.hid (hin.below (hW.mono hB))
  have HBN := Lib.hid ((hW.block _ (lt_of_block hBn)).trans hBn)
  have hBs1 := (hW.block _ (lt_of_block hBs)).trans hBs
  have HBNL : Hid (Bn < W.heap.size) := Lib.hid (Nat.lt_of_lt_of_le (lt_of_block hBn) hW.size)
  have HOW : Hid (∀ b, W.heap.size ≤ b → ¬ O b) := Lib.hid (fun b hb h => by have := hO b h; have := hW.size; omega)
  have HON := Lib.hid hOn
  have HWS : Hid (w.heap.size ≤ W.heap.size) := Lib.hid hW.size
  have hBW : B ≤ W.heap.size := Nat.le_trans hB hW.size
  have HJ := Lib.hid hJ
  have HJX := Lib.hid hJx
  have HYY := Lib.hid hY
  have HR := Lib.hid hr
  have HZM := Lib.hid h0m
  have HMM := Lib.hid hmm
  have H00 : Hid (J 0 (W.alloc (.cells (aM m) 97))) := Lib.hid (hJ _ _ _ none h0 (World.grownBy_alloc _ _ none) (fun r e => by cases e))
  have HX0 : Hid ((W.alloc (.cells (aM m) 97)).heap[W.heap.size]? = some (.cells (aM m) 97 (0, 0))) := Lib.hid (heap_new _ _)
  have HC0 : Hid (ClsIn (W.alloc (.cells (aM m) 97)) (· < B) l a cap) := Lib.hid (HIN.out.keep (fun b hb => heap_old _ _ (by omega)))
  have HN0 : Hid ((W.alloc (.cells (aM m) 97)).heap[Bn]? = some (.cells #[.slice a l.length cap] 22 (0, 0))) := Lib.hid ((heap_old _ _ (lt_of_block HBN.out)).trans HBN.out)
  have HZ0 : Hid (W.heap.size ≤ (W.alloc (.cells (aM m) 97)).heap.size) := Lib.hid (by simp)
  obtain ⟨f, hf⟩ : ∃ f : Nat → Int, f = fun i => m.getD i 0 := ⟨_, rfl⟩
  have hF : aM m = arrI f := by rw [hf]; rfl
  have HF := Lib.hid hF
  rw [hF] at hBs1 H00 HX0 HC0 HN0 HZ0
  clear hf hF hBn hBs hin hY h0 hJ hJx hr h0m hmm hOn
  refine callsIn_of_wp Try.func68 rfl trivial ?_ rfl
  simp only [Try.ntmps68, List.size_toArray, List.length_cons, List.length_nil, Nat.reduceAdd, Nat.reduceSub, Array.replicate_succ, Array.replicate_zero, List.push_toArray, List.append_toArray, List.nil_append, List.cons_append]
  gi_wp2_with (first | (refine wpListIn_loadA (by rfl) _ rfl rfl (by assumption) ?_) | (refine wpListIn_storeN (by rfl) _ _ rfl rfl rfl rfl rfl rfl ?_))
  clear hBs1
  gi_loopw [4] (fun bv wr => ∃ (k b : Nat), bv = .pointer (some ⟨b, 0, none⟩) ∧ Hid (GoJ l m most k) ∧ Hid (J k wr) ∧ Hid (W.heap.size ≤ b) ∧ Hid (wr.heap[b]? = some (.cells (aM (itJ l m k)) 97 (0, 0))) ∧ Hid (ClsIn wr (· < B) l a cap) ∧ Hid (wr.heap[Bn]? = some (.cells #[.slice a l.length cap] 22 (0, 0))) ∧ Hid (W.heap.size ≤ wr.heap.size)) (fun bv wr => ((m.length : Int) * most - sumAt bv wr).toNat)
  case atStart => exact ⟨0, W.heap.size, rfl, Lib.hid (GoJ.zero l m most), H00, Lib.hid (Nat.le_refl _), Lib.hid (by rw [show itJ l m 0 = m from rfl, HF.out]; exact HX0.out), HC0, HN0, HZ0⟩
  case round =>
    obtain ⟨k, b, rfl, hgo, hJk, hbW, hX, hcl, hbn, hsz⟩ := hrel
    obtain ⟨W0, rfl⟩ : ∃ W0, W0 = wr := ⟨_, rfl⟩
    have hbd := (hgo.out.bd HR.out HZM.out HMM.out hm0).2
    have hlk := itJ_len l m k
    have HNX : Hid (itJ l m (k + 1) = rndJ l (itJ l m k)) := Lib.hid rfl
    have HGN : Hid (grB most (rndJ l (itJ l m k)) = false → rndJ l (itJ l m k) ≠ itJ l m k → GoJ l m most (k + 1)) := Lib.hid (fun h1 h2 => hgo.out.next h1 h2)
    have HFN : Hid (grB most (rndJ l (itJ l m k)) = false → rndJ l (itJ l m k) = itJ l m k → (∃ j, k + 1 = j + 1 ∧ GoJ l m most j ∧ grB most (rndJ l (itJ l m j)) = false ∧ rndJ l (itJ l m j) = itJ l m j)) := Lib.hid (fun h1 h2 => ⟨k, rfl, hgo.out, h1, h2⟩)
    have HYK := Lib.hid (HYY.out k)
    rw [HNX.out] at HYK
    obtain ⟨mk, hmk⟩ : ∃ mk, mk = itJ l m k := ⟨_, rfl⟩
    rw [← hmk] at hX hbd hlk HGN HFN HYK HNX
    have hbnd := jround_any mk l a cap B W0 (by rw [hlk]; exact HR.out) hl60 (by omega) (fun i => ⟨(hbd i).1, by have := (hbd i).2; omega⟩) hcl.out (by have := hsz.out; omega)
    have HSU : Hid (rndJ l mk ≠ mk → sumJ mk < sumJ (rndJ l mk)) := Lib.hid (fun h => sumJ_up (by rw [hlk]; exact HR.out) h)
    have HEQ : Hid (eq16 (fun i => (rndJ l mk).getD i 0) (fun i => mk.getD i 0) = decide (rndJ l mk = mk)) := Lib.hid (eq16_is (rndJ_len _ _) (by rw [rndJ_len]; omega))
    have hlr : (rndJ l mk).length = m.length := (rndJ_len l mk).trans hlk
    obtain ⟨mr, hmr⟩ : ∃ mr, mr = rndJ l mk := ⟨_, rfl⟩
    rw [← hmr] at HGN HFN HYK HNX hbnd HSU HEQ hlr
    obtain ⟨f', hf'⟩ : ∃ f : Nat → Int, f = fun i => mk.getD i 0 := ⟨_, rfl⟩
    obtain ⟨g, hg⟩ : ∃ g : Nat → Int, g = fun i => mr.getD i 0 := ⟨_, rfl⟩
    have hF2 : aM mk = arrI f' := by rw [hf']; rfl
    have hG2 : aM mr = arrI g := by rw [hg]; rfl
    rw [← hf', ← hg] at HEQ
    rw [hF2, hG2] at hbnd
    rw [hG2] at HYK
    have CR := Lib.hid hbnd
    have HF2 := Lib.hid hF2
    have HG2 := Lib.hid hG2
    have hXf := hX.out
    rw [hF2] at hXf
    have HXF := Lib.hid hXf
    have hcB : W0.cell? ⟨Bn, 0, none⟩ = some (.slice a l.length cap) := cell_at hbn.out 0
    have HY2 : Hid (∀ w1, Below W0.heap.size W0 w1 → ∃ fn tmps assign body, (Instr.yield lp #[.agg (arrI g)]).run Try.prog (w1.alloc (.cells (arrI g) 97)) = .ok (.round lp fn tmps assign body) (w1.alloc (.cells (arrI g) 97)) ∧ RoundIn Fence.wide (n - 1) Try.prog lp fn tmps assign body (w1.alloc (.cells (arrI g) 97)) (fun e W' => (e = .returned (.bool true) ∧ J (k + 1) W' ∧ KpO B O (w1.alloc (.cells (arrI g) 97)) W' ∧ grB most mr = false) ∨ (e = .returned (.bool false) ∧ Jx (k + 1) W'))) :=
      Lib.hid (fun w1 hb1 => HYK.out _ hgo.out (HJ.out _ _ _ none (HJ.out _ _ _ none hJk.out ⟨hb1.os, hb1.tape, hb1.output, hb1.size, fun i hi _ => hb1.block i hi⟩ (fun r e => by cases e)) (World.grownBy_alloc _ _ none) (fun r e => by cases e)))
    clear hf' hg hF2 hG2 hmk hmr hbnd hbd
    gi_wp2_with (first | (refine ⟨trivial, hdd _, ?_⟩; gi_at_call 69; refine (callsIn_wide.2 CR.out).mono ?_; rintro e w1 ⟨rfl, hb1⟩; obtain ⟨fn, tmps, assign, body, hy, hR⟩ := HY2.out w1 hb1) | (refine wpListIn_loadA (by rfl) _ rfl rfl (by first | assumption | exact heap_new _ _) ?_) | (refine wpListIn_storeN (by rfl) _ _ rfl rfl rfl rfl rfl rfl ?_))
    have hA2 : (w1.alloc (.cells (arrI g) 97)).heap[w1.heap.size]? = some (.cells (arrI g) 97 (0, 0)) := heap_new _ _
    have hX2 : (w1.alloc (.cells (arrI g) 97)).heap[b]? = some (.cells (arrI f') 97 (0, 0)) := (heap_old _ _ (Nat.lt_of_lt_of_le (lt_of_block HXF.out) hb1.size)).trans ((hb1.block _ (lt_of_block HXF.out)).trans HXF.out)
    have hN2 : (w1.alloc (.cells (arrI g) 97)).heap[Bn]? = some (.cells #[.slice a l.length cap] 22 (0, 0)) := (heap_old _ _ (Nat.lt_of_lt_of_le (lt_of_block hbn.out) hb1.size)).trans ((hb1.block _ (lt_of_block hbn.out)).trans hbn.out)
    have hC2 : ClsIn (w1.alloc (.cells (arrI g) 97)) (· < B) l a cap := (hcl.out.below (hb1.mono (by have := hsz.out; omega))).keep (fun b hb => heap_old _ _ (by have := hsz.out; have := hb1.size; omega))
    have hZ2 : W.heap.size ≤ w1.heap.size := Nat.le_trans hsz.out hb1.size
    have HA2 := Lib.hid hA2
    have HX2 := Lib.hid hX2
    have HN2 := Lib.hid hN2
    have HC2 := Lib.hid hC2
    clear hA2 hX2 hN2 hC2 hXf hcB
    refine ⟨hdd _, hR.mono ?_⟩
    rintro e W3 (⟨rfl, hJ3, hk3, hgr⟩ | ⟨rfl, hJx3⟩)
    · have hA3 := hk3.cells HA2.out (HOW.out _ hZ2)
      have hX3 := hk3.cells HX2.out (HOW.out _ hbW.out)
      have HN3 := Lib.hid (hk3.cells HN2.out HON.out)
      have HC3 := Lib.hid (HC2.out.keep (fun b hb => hk3.2.1 b hb))
      have HZ3 : Hid (W.heap.size ≤ W3.heap.size) := Lib.hid (by have := hk3.1; simp at this; omega)
      have HJ3 := Lib.hid hJ3
      have HGR := Lib.hid hgr
      clear hk3 hJ3 hgr
      by_cases hsame : mr = mk
      · as_aux_lemma =>
        have hq : eq16 g f' = true := HEQ.out.trans (decide_eq_true hsame)
        have HS := Lib.hid hsame
        clear hsame
        gi_wp2_with (first | (refine wpListIn_loadA (by first | rfl | kernel_rfl) _ rfl rfl (by assumption) ?_) | (refine wpListIn_eqlA (by first | rfl | kernel_rfl) _ _ rfl rfl rfl ?_; rw [hq]))
        refine bodyPost_ret (results_none rfl _ _ _) rfl ?_
        exact ⟨⟨_, rfl⟩, .inl ⟨k + 1, HFN.out HGR.out HS.out, HJ3.out⟩⟩
      · as_aux_lemma =>
        have hq : eq16 g f' = false := HEQ.out.trans (decide_eq_false hsame)
        have HS := Lib.hid hsame
        clear hsame
        gi_wp2_with (first | (refine wpListIn_loadA (by first | rfl | kernel_rfl) _ rfl rfl (by assumption) ?_) | (refine wpListIn_eqlA (by first | rfl | kernel_rfl) _ _ rfl rfl rfl ?_; rw [hq]) | (refine wpListIn_storeN (by rfl) _ _ rfl rfl rfl rfl rfl rfl ?_) | (refine wpListIn_storeA (by rfl) _ _ rfl rfl rfl rfl (by assumption) ?_; intro W4 h4x h4g))
        have H4J : Hid (J (k + 1) W4) := Lib.hid (HJ.out _ _ _ (some b) HJ3.out h4g.out (fun r e => by cases e; exact hbW.out))
        have H4Z : Hid (W.heap.size ≤ W4.heap.size) := Lib.hid (Nat.le_trans HZ3.out h4g.out.size)
        have H4N : Hid (W4.heap[Bn]? = some (.cells #[.slice a l.length cap] 22 (0, 0))) := Lib.hid ((h4g.out.block Bn (lt_of_block HN3.out) (fun e => by have := hbW.out; have := HBNL.out; injection e; omega)).trans HN3.out)
        have H4C : Hid (ClsIn W4 (· < B) l a cap) := Lib.hid (HC3.out.keep (fun c hc => h4g.out.block c (by have := HZ3.out; omega) (fun e => by have := hbW.out; injection e; omega)))
        have H5X : Hid ((W4.alloc (.cells (arrI g) 97)).heap[W4.heap.size]? = some (.cells (aM (itJ l m (k + 1))) 97 (0, 0))) := Lib.hid (by rw [HNX.out, HG2.out]; exact heap_new _ _)
        have H5J : Hid (J (k + 1) (W4.alloc (.cells (arrI g) 97))) := Lib.hid (HJ.out _ _ _ none H4J.out (World.grownBy_alloc _ _ none) (fun r e => by cases e))
        have H5Z : Hid (W.heap.size ≤ (W4.alloc (.cells (arrI g) 97)).heap.size) := Lib.hid (by have := H4Z.out; simp; omega)
        have H5N : Hid ((W4.alloc (.cells (arrI g) 97)).heap[Bn]? = some (.cells #[.slice a l.length cap] 22 (0, 0))) := Lib.hid ((heap_old _ _ (lt_of_block H4N.out)).trans H4N.out)
        have H5C : Hid (ClsIn (W4.alloc (.cells (arrI g) 97)) (· < B) l a cap) := Lib.hid (H4C.out.keep (fun c hc => heap_old _ _ (by have := H4Z.out; omega)))
        go_roundw
        case rel => exact ⟨k + 1, W4.heap.size, rfl, Lib.hid (HGN.out HGR.out HS.out), H5J, H4Z, H5X, H5C, H5N, H5Z⟩
        case measure =>
          have hbm : sumJ mr ≤ m.length * most := by have := sumJ_bd (grB_no.1 HGR.out); rwa [hlr] at this
          have hlt := HSU.out HS.out
          have e1 := sumAt_is (m := itJ l m (k + 1)) H5X.out (by rw [itJ_len]; exact hm16)
          have e0 := sumAt_is hX.out (by rw [hlk]; exact hm16)
          rw [HNX.out] at e1
          rw [e1, e0]
          omega
    · as_aux_lemma =>
      have HE : Hid (∃ k, Jx k W3) := Lib.hid ⟨_, hJx3⟩
      gi_wp2
      refine bodyPost_ret (results_none rfl _ _ _) rfl ?_
      exact ⟨⟨_, rfl⟩, .inr HE.out⟩
end Go.Proofs.Ytglggigndhbpcaa
