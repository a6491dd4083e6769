/- The contract of the program's iterator over the atoms of clauses, each with its clause: it tells all of them in their order, or stops where a round says so. Condition: the clauses lie in memory, and a round changes no cells but its owner's. -/
import Derived.RangeFuncNested
import Derived.RangeFuncBound
import Derived.RangeFuncCalls
import Derived.RangeFuncLeaves
import Derived.RangeFuncBox
import Derived.Shelf.Abstract
import Derived.Shelf.RegionOpen
import Derived.WalkKit
import Derived.OwnWalkIn
import Derived.TacticsInMore
import Derived.LoopNIn
import Derived.LoopIn
import Derived.Lib.Hide
import Derived.Test.YtglggigndhbpcaaZBase
namespace Go.Proofs.Ytglggigndhbpcaa
open Go.RowKit Go.Shelf
attribute [local go_sem] Oper.semAt_some

/-- What a round that goes on keeps: all that lies below B, and all cells but those of the owner's blocks. -/
def KpO (B : Nat) (O : Nat → Prop) (W W' : World) : Prop := W.heap.size ≤ W'.heap.size ∧ (∀ b, b < B → W'.heap[b]? = W.heap[b]?) ∧ ∀ b o, W.heap[b]? = some o → o.isCells = true → ¬ O b → W'.heap[b]? = some o
theorem KpO.refl (B : Nat) (O : Nat → Prop) (W : World) : KpO B O W W := ⟨Nat.le_refl _, fun _ _ => rfl, fun _ _ h _ _ => h⟩
theorem KpO.trans {B : Nat} {O : Nat → Prop} {X Y Z : World} (h : KpO B O X Y) (k : KpO B O Y Z) : KpO B O X Z := ⟨Nat.le_trans h.1 k.1, fun b hb => (k.2.1 b hb).trans (h.2.1 b hb), fun b o h1 h2 h3 => k.2.2 b o (h.2.2 b o h1 h2 h3) h2 h3⟩
theorem KpO.put {B : Nat} {O : Nat → Prop} {w : World} (hB : B ≤ w.heap.size) (W : World) (l : Nat) (o o' : Obj) (hl : w.heap.size ≤ l) (h : W.heap[l]? = some o) (hc : o.isCells = false) (_ : o.isWalk = false) : KpO B O W (W.putObj l o') := by
  refine ⟨by simp, fun b hb => World.putObj_heap_other (by omega), fun b o1 h1 h2 h3 => ?_⟩
  have hne : b ≠ l := fun e => by rw [e, h] at h1; cases h1; rw [hc] at h2; cases h2
  exact (World.putObj_heap_other hne).trans h1
theorem KpO.alloc {B : Nat} (O : Nat → Prop) (W : World) (hB : B ≤ W.heap.size) (o : Obj) : KpO B O W (W.alloc o) := ⟨by simp, fun b hb => heap_old W o (by omega), fun b o1 h1 _ _ => (heap_old W o (Array.getElem?_eq_some_iff.1 h1).1).trans h1⟩
theorem KpO.set {B : Nat} {O : Nat → Prop} (W : World) (b i : Nat) (v : Value) (h : O b) (hb : B ≤ b) : KpO B O W (W.setCell ⟨b, i, none⟩ v) :=
  ⟨by simp, fun c hc => Below.heap_setCell _ _ _ _ (show c ≠ b by omega), fun _ _ h1 _ h3 => (Below.heap_setCell _ _ _ _ (fun e => h3 (by rw [e]; exact h))).trans h1⟩
theorem KpO.cells {B : Nat} {O : Nat → Prop} {W W' : World} (h : KpO B O W W') {b : Nat} {cs : Array Value} {t : TypeId} {f : Nat × Nat} (hb : W.heap[b]? = some (.cells cs t f)) (hn : ¬ O b) : W'.heap[b]? = some (.cells cs t f) := h.2.2 b _ hb rfl hn

/-- A clause of a list in memory. -/
theorem ClsIn.at {w : World} {P : Nat → Prop} {l : List Cl} {a : Option Addr} {cap k : Nat} (h : ClsIn w P l a cap) (hk : k < l.length) :
    ∃ b o fr tv to a' c', a = .some ⟨b, o, .none⟩ ∧ P b ∧ l.getD k cl0 = (fr, (tv, to)) ∧ w.cell? ⟨b, o + k * 3, .none⟩ = .some (.slice a' fr.length c') ∧ AtsIn w P fr a' c' ∧ w.cell? ⟨b, o + k * 3 + 1, .none⟩ = .some (.int .i64 tv) ∧ w.cell? ⟨b, o + k * 3 + 2, .none⟩ = .some (.int .i64 to) := by
  obtain ⟨b, o, ha, hb, hf⟩ := h.some (by omega)
  obtain ⟨⟨a', c', q1, q2⟩, q3, q4⟩ := hf k hk
  exact ⟨b, o, _, _, _, a', c', ha, hb, rfl, q1, q2, q3, q4⟩
theorem AtsIn.at {w : World} {P : Nat → Prop} {l : List At} {a : Option Addr} {cap k : Nat} (h : AtsIn w P l a cap) (hk : k < l.length) :
    ∃ b o v f, a = .some ⟨b, o, .none⟩ ∧ P b ∧ l.getD k at0 = (v, f) ∧ w.cell? ⟨b, o + k * 2, .none⟩ = .some (.int .i64 v) ∧ w.cell? ⟨b, o + k * 2 + 1, .none⟩ = .some (.int .i64 f) := by
  obtain ⟨b, o, ha, hb, hf⟩ := h.some (by omega)
  exact ⟨b, o, _, _, ha, hb, rfl, (hf k hk).1, (hf k hk).2⟩

/-- What a round is handed: a clause, where its From lies, and one of its atoms; all pairs of such are among the clauses' own. -/
abbrev El (l : List Cl) := { x : (Cl × At) × Option Addr × Nat // x.1 ∈ pairs l }
def elV {l : List Cl} (x : El l) : Array Value := #[.agg #[.slice x.1.2.1 x.1.1.1.1.length x.1.2.2, .int .i64 x.1.1.1.2.1, .int .i64 x.1.1.1.2.2], .agg #[.int .i64 x.1.1.2.1, .int .i64 x.1.1.2.2]]
def elL {l : List Cl} (xs : List (El l)) : List (Cl × At) := xs.map fun x => x.1.1
theorem elL_snoc {l : List Cl} (xs : List (El l)) (x : El l) : elL (xs ++ [x]) = elL xs ++ [x.1.1] := by simp [elL]
theorem elL_len {l : List Cl} (xs : List (El l)) : (elL xs).length = xs.length := by simp [elL]

theorem pairsOf_len (c : Cl) : (pairsOf c).length = c.1.length + 1 := by simp [pairsOf]
theorem pairs_take {l : List Cl} {i : Nat} (hi : i < l.length) : pairs l = pairs (l.take i) ++ (pairsOf (l.getD i cl0) ++ pairs (l.drop (i + 1))) := by
  have h : l = l.take i ++ l.getD i cl0 :: l.drop (i + 1) := by rw [← drop_getD l cl0 hi, List.take_append_drop]
  have e := congrArg pairs h
  rw [pairs_app] at e
  exact e
/-- What has come, while atom j of clause i is on. -/
def upTo (l : List Cl) (i j : Nat) : List (Cl × At) := pairs (l.take i) ++ (pairsOf (l.getD i cl0)).take j
theorem upTo_len {l : List Cl} {i j : Nat} (hi : i < l.length) (hj : j < (l.getD i cl0).1.length + 1) : (upTo l i j).length < (pairs l).length := by
  rw [pairs_take hi]
  simp only [upTo, List.length_append, List.length_take, pairsOf_len]
  omega
theorem upTo_from {l : List Cl} {i j : Nat} (hj : j < (l.getD i cl0).1.length) : upTo l i (j + 1) = upTo l i j ++ [(l.getD i cl0, (l.getD i cl0).1.getD j at0)] := by
  have hl : j < (pairsOf (l.getD i cl0)).length := by rw [pairsOf_len]; omega
  unfold upTo
  rw [List.take_succ_eq_append_getElem hl, ← List.append_assoc]
  congr 2
  generalize l.getD i cl0 = c at hj hl ⊢
  simp only [pairsOf, List.getElem_append, List.length_map, hj, dif_pos, List.getElem_map, List.getD_eq_getElem?_getD, List.getElem?_eq_getElem, Option.getD_some]
theorem upTo_last {l : List Cl} {i : Nat} (hi : i < l.length) : pairs (l.take (i + 1)) = upTo l i (l.getD i cl0).1.length ++ [(l.getD i cl0, (l.getD i cl0).2)] := by
  rw [take_getD l cl0 hi, pairs_app]
  show pairs (l.take i) ++ (pairsOf _ ++ []) = _
  unfold upTo pairsOf
  rw [List.append_nil, List.append_assoc]
  congr 1
  generalize l.getD i cl0 = c
  rw [List.take_append_of_le_length (by simp), List.take_of_length_le (by simp)]
theorem upTo_zero (l : List Cl) (i : Nat) : upTo l i 0 = pairs (l.take i) := by simp [upTo]
theorem upTo_pre {l : List Cl} {i j : Nat} (hi : i < l.length) : upTo l i j <+: pairs l := by
  rw [pairs_take hi]
  unfold upTo
  exact (List.prefix_append_right_inj _).2 ((List.take_prefix _ _).trans (List.prefix_append _ _))
theorem pairs_pre (l : List Cl) (k : Nat) : pairs (l.take k) <+: pairs l := by
  have h := congrArg pairs (List.take_append_drop k l)
  rw [pairs_app] at h
  exact ⟨_, h⟩
theorem from_mem {l : List Cl} {i j : Nat} (hi : i < l.length) (hj : j < (l.getD i cl0).1.length) : ((l.getD i cl0, (l.getD i cl0).1.getD j at0) : Cl × At) ∈ pairs l := pairs_mem.2 ⟨getD_mem cl0 hi, .inl (getD_mem at0 hj)⟩
theorem last_mem {l : List Cl} {i : Nat} (hi : i < l.length) : ((l.getD i cl0, (l.getD i cl0).2) : Cl × At) ∈ pairs l := pairs_mem.2 ⟨getD_mem cl0 hi, .inr rfl⟩

set_option maxHeartbeats 1000000 in
theorem hatoms_in (n' : Nat) (a : Option Addr) (len cap : Nat) (w : World) :
    CallsIn Fence.wide n' Try.prog 47 #[.slice a len cap] w fun e w' => e = .returned (.func (.func 60) #[] #[.pointer (some ⟨w.heap.size, 0, none⟩)]) ∧ w' = w.alloc (.cells #[.slice a len cap] 22) := by
  refine callsIn_of_wp Try.func47 rfl trivial ?_ rfl
  simp only [Try.ntmps47, List.size_toArray, List.length_cons, List.length_nil, Nat.reduceAdd, Nat.reduceSub, Array.replicate_succ, Array.replicate_zero, List.push_toArray, List.append_toArray, List.nil_append, List.cons_append]
  gi_wp2
  go_ret
  exact ⟨rfl, rfl⟩

set_option maxRecDepth 100000 in
set_option maxHeartbeats 4000000 in
theorem hatoms1_stops (n : Nat) (O : Nat → Prop) (l : List Cl) (a : Option Addr) (cap B Bn : Nat) (w : World) (hB : B ≤ w.heap.size) (hO : ∀ b, O b → b < w.heap.size) (hin : ClsIn w (· < B) l a cap) (hBn : w.cell? ⟨Bn, 0, none⟩ = some (.slice a l.length cap)) (hBl : Bn < w.heap.size) :
    SeqStopsK Fence.wide n Try.prog 60 #[.pointer (some ⟨Bn, 0, none⟩)] (elV (l := l)) (KpO B O) (fun ys => elL ys = pairs l) (fun pre => elL pre <+: pairs l) (pairs l).length w := fun lp J Jx W hW hJ hJx hY h0 => by
  have hc := (hW.cell (p := ⟨Bn, 0, none⟩) hBl).trans hBn
  have hlen := hin.len
  have HIN := Lib.hid (hin.below (hW.mono hB))
  have HOW : Hid (∀ b, W.heap.size ≤ b → ¬ O b) := Lib.hid (fun b hb h => by have := hO b h; have := hW.size; omega)
  have hBW : B ≤ W.heap.size := Nat.le_trans hB hW.size
  have hdd : ∀ k : Nat, (Fence.wide.depth.isSome = true → 1 ≤ k) := fun k h => by cases h
  refine callsIn_of_wp Try.func60 rfl trivial ?_ rfl
  simp only [Try.ntmps60, List.size_toArray, List.length_cons, List.length_nil, Nat.reduceAdd, Nat.reduceSub, Array.replicate_succ, Array.replicate_zero, List.push_toArray, List.append_toArray, List.nil_append, List.cons_append]
  gi_wp2
  gi_loopw [9] (fun i wr => ∃ (k : Nat) (pre : List (El l)), i = .int .i64 k ∧ k ≤ l.length ∧ Hid (elL pre = pairs (l.take k)) ∧ J pre wr ∧ Hid (ClsIn wr (· < B) l a cap) ∧ Hid (W.heap.size ≤ wr.heap.size)) (fun i _ => l.length - (intOf i).toNat)
  case atStart => exact ⟨0, [], rfl, Nat.zero_le _, Lib.hid rfl, h0, HIN, Lib.hid (Nat.le_refl _)⟩
  case round =>
    obtain ⟨k, pre, rfl, hk, hpre, hJs, hcl, hsz⟩ := hrel
    by_cases hlt : k < l.length
    · obtain ⟨b, o, fr, tv, to, a', c', rfl, hbB, hget, e0, hat, e1, e2⟩ := hcl.out.at hlt
      have HG := Lib.hid hget
      have HAT := Lib.hid hat
      have hfl := hat.len
      clear hget hat
      obtain ⟨W0, rfl⟩ : ∃ W0, W0 = wr := ⟨_, rfl⟩
      have X0 := heap_new W0 (.cells #[.slice a' fr.length c', .int .i64 tv, .int .i64 to] 35)
      have kA := KpO.alloc (B := B) O W0 (by have := hsz.out; omega) (.cells #[.slice a' fr.length c', .int .i64 tv, .int .i64 to] 35)
      have HX0 := Lib.hid X0
      have HC0 := Lib.hid (hcl.out.keep (fun b hb => kA.2.1 b hb))
      have HA0 := Lib.hid (HAT.out.keep (fun b hb => kA.2.1 b hb))
      have hJ0 : J pre (W0.alloc (.cells #[.slice a' fr.length c', .int .i64 tv, .int .i64 to] 35)) := hJ _ _ _ none hJs (World.grownBy_alloc _ _ none) (fun r e => by cases e)
      have HZ0 : Hid (W.heap.size ≤ (W0.alloc (.cells #[.slice a' fr.length c', .int .i64 tv, .int .i64 to] 35)).heap.size) := Lib.hid (by have := hsz.out; simp; omega)
      have HP0 : Hid (elL pre = upTo l k 0) := Lib.hid (by rw [upTo_zero]; exact hpre.out)
      clear X0 kA
      gi_wp2
      gi_loopw [16] (fun j wq => ∃ (q : Nat) (pre2 : List (El l)), j = .int .i64 q ∧ q ≤ fr.length ∧ Hid (elL pre2 = upTo l k q) ∧ J pre2 wq ∧ Hid (wq.heap[W0.heap.size]? = some (.cells #[.slice a' fr.length c', .int .i64 tv, .int .i64 to] 35 (0, 0))) ∧ Hid (ClsIn wq (· < B) l (some ⟨b, o, none⟩) cap) ∧ Hid (AtsIn wq (· < B) fr a' c') ∧ Hid (W.heap.size ≤ wq.heap.size)) (fun j _ => fr.length - (intOf j).toNat)
      case atStart => exact ⟨0, pre, rfl, Nat.zero_le _, HP0, hJ0, HX0, HC0, HA0, HZ0⟩
      case round =>
        obtain ⟨q, pre2, rfl, hq, hpre2, hJ2, hX, hcl2, hat2, hsz2⟩ := hrel
        by_cases hql : q < fr.length
        · obtain ⟨g, p, xv, xo, rfl, hgB, hgx, x0, x1⟩ := hat2.out.at hql
          have hm : (((fr, (tv, to)), (xv, xo)) : Cl × At) ∈ pairs l := by have := from_mem (l := l) hlt (j := q) (by rw [HG.out]; exact hql); rw [HG.out] at this; show ((fr, (tv, to)), (xv, xo)) ∈ _; rw [← hgx]; exact this
          have HN2 : Hid (elL (pre2 ++ [⟨(((fr, (tv, to)), (xv, xo)), (some ⟨g, p, none⟩, c')), hm⟩]) = upTo l k (q + 1)) := Lib.hid (by rw [elL_snoc, upTo_from (by rw [HG.out]; exact hql), hpre2.out, HG.out]; show _ ++ [((fr, (tv, to)), (xv, xo))] = _; rw [← hgx])
          clear hgx
          obtain ⟨W1, rfl⟩ : ∃ W1, W1 = wr := ⟨_, rfl⟩
          have kB := KpO.alloc (B := B) O W1 (by have := hsz2.out; omega) (.cells #[.int .i64 xv, .int .i64 xo] 27)
          have hJ3 : J pre2 (W1.alloc (.cells #[.int .i64 xv, .int .i64 xo] 27)) := hJ _ _ _ none hJ2 (World.grownBy_alloc _ _ none) (fun r e => by cases e)
          obtain ⟨fn, tmps, assign, body, hy, hR⟩ := hY pre2 ⟨(((fr, (tv, to)), (xv, xo)), (some ⟨g, p, none⟩, c')), hm⟩ _ hJ3 (by have := upTo_len (l := l) hlt (j := q) (by rw [HG.out]; simp only; omega); rw [← elL_len, hpre2.out]; exact this)
          dsimp only [elV] at hy
          have z0 := cell_at hX.out 0
          have z1 := cell_at hX.out 1
          have z2 := cell_at hX.out 2
          simp at z0 z1 z2
          have hXl := lt_of_block hX.out
          have KB := Lib.hid kB
          have HX1 := Lib.hid ((heap_old W1 (.cells #[.int .i64 xv, .int .i64 xo] 27) hXl).trans hX.out)
          have y0 := cell_at HX1.out 0
          have y1 := cell_at HX1.out 1
          have y2 := cell_at HX1.out 2
          simp at y0 y1 y2
          clear kB
          gi_wp2
          refine ⟨hdd _, hR.mono ?_⟩
          rintro e W3 (⟨rfl, hJ4, hk4⟩ | ⟨rfl, hJx4⟩)
          · have K4 := KB.out.trans hk4
            have HX3 := Lib.hid (K4.cells hX.out (HOW.out _ hsz.out))
            have HC3 := Lib.hid (hcl2.out.keep (fun b hb => K4.2.1 b hb))
            have HA3 := Lib.hid (hat2.out.keep (fun b hb => K4.2.1 b hb))
            have HZ3 : Hid (W.heap.size ≤ W3.heap.size) := Lib.hid (Nat.le_trans hsz2.out K4.1)
            clear K4 hk4
            gi_wp2
            go_roundw
            case rel => exact ⟨q + 1, _, by go_num, by omega, HN2, hJ4, HX3, HC3, HA3, HZ3⟩
            case measure => simp [intOf]; omega
          · have HE : Hid (∃ pre, elL pre <+: pairs l ∧ Jx pre W3) := Lib.hid ⟨_, by rw [HN2.out]; exact upTo_pre hlt, hJx4⟩
            gi_wp2
            refine bodyPost_ret (results_none rfl _ _ _) rfl ?_
            exact ⟨⟨_, rfl⟩, .inr HE.out⟩
        · have hm : (((fr, (tv, to)), (tv, to)) : Cl × At) ∈ pairs l := by have := last_mem (l := l) hlt; rw [HG.out] at this; exact this
          have HN2 : Hid (elL (pre2 ++ [⟨(((fr, (tv, to)), (tv, to)), (a', c')), hm⟩]) = pairs (l.take (k + 1))) := Lib.hid (by
            rw [elL_snoc, upTo_last hlt, HG.out]
            have e : q = fr.length := by omega
            rw [hpre2.out, e])
          obtain ⟨W1, rfl⟩ : ∃ W1, W1 = wr := ⟨_, rfl⟩
          obtain ⟨fn, tmps, assign, body, hy, hR⟩ := hY pre2 ⟨(((fr, (tv, to)), (tv, to)), (a', c')), hm⟩ _ hJ2 (by have := upTo_len (l := l) hlt (j := q) (by rw [HG.out]; simp only; omega); rw [← elL_len, hpre2.out]; exact this)
          dsimp only [elV] at hy
          have z0 := cell_at hX.out 0
          have z1 := cell_at hX.out 1
          have z2 := cell_at hX.out 2
          simp at z0 z1 z2
          gi_wp2
          refine ⟨hdd _, hR.mono ?_⟩
          rintro e W3 (⟨rfl, hJ4, K4⟩ | ⟨rfl, hJx4⟩)
          · have HC3 := Lib.hid (hcl2.out.keep (fun b hb => K4.2.1 b hb))
            have HZ3 : Hid (W.heap.size ≤ W3.heap.size) := Lib.hid (Nat.le_trans hsz2.out K4.1)
            clear K4
            gi_wp2
            go_roundw
            case rel => exact ⟨k + 1, _, by go_num, by omega, HN2, hJ4, HC3, HZ3⟩
            case measure => simp [intOf]; omega
          · have HE : Hid (∃ pre, elL pre <+: pairs l ∧ Jx pre W3) := Lib.hid ⟨_, by rw [HN2.out]; exact pairs_pre l (k + 1), hJx4⟩
            gi_wp2
            refine bodyPost_ret (results_none rfl _ _ _) rfl ?_
            exact ⟨⟨_, rfl⟩, .inr HE.out⟩
    · have HE : Hid (∃ xs, elL xs = pairs l ∧ J xs wr) := Lib.hid ⟨pre, by rw [hpre.out, List.take_of_length_le (by omega)], hJs⟩
      gi_wp2
      go_end0
      exact ⟨⟨_, rfl⟩, .inl HE.out⟩
end Go.Proofs.Ytglggigndhbpcaa
