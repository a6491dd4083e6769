/- The contract of the program's iterator over the numbers of a kind in a level: it tells all of them, from left to right. Conditions: the level lies in memory, each level in it has as many Kids as its kind says, and it is no deeper than the calls that may be made. -/
import Derived.Test.YtmbopdlmkbbbiaaSloop
import Derived.Test.YtmbopdlmkbbbiaaNspec
import Derived.Test.YtmbopdlmkbbbiaaCell
import Derived.Test.YtmbopdlmkbbbiaaVals
import Derived.Shelf.RegionOpen
import Derived.WalkKit
import Derived.OwnWalkIn
import Derived.TacticsInMore
import Derived.LoopNIn
import Derived.LoopIn
import Derived.IntWalk
namespace Go.Proofs.Ytmbopdlmkbbbiaa
open Go.RowKit Go.Shelf
attribute [local go_sem] Oper.semAt_some

set_option maxHeartbeats 1000000 in
theorem numbers_in (n' : Nat) (k n K c : Int) (hc : 1 ≤ c) (hc2 : c ≤ 12) (a : Option Addr) (len cap : Nat) (w : World) :
    CallsIn Fence.wide n' Try.prog 47 #[.agg #[.int .i64 k, .int .i64 n, .slice a len cap], .int .i64 K, .int .i64 c] w fun e w' =>
      e = .returned (.func (.func 66) #[] #[.pointer (some ⟨w.heap.size, 0, none⟩), .pointer (some ⟨w.heap.size + 1, 0, none⟩), .pointer (some ⟨w.heap.size + 1 + 1, 0, none⟩)]) ∧
      w' = ((w.alloc (.cells #[.int .i64 k, .int .i64 n, .slice a len cap] 30)).alloc (.cells #[.int .i64 K] 3)).alloc (.cells #[.int .i64 c] 3) := by
  have dc : (c == 0) = false := beq_eq_false_iff_ne.2 (by omega)
  refine callsIn_of_wp Try.func47 rfl trivial ?_ rfl
  simp only [Try.ntmps47, List.size_toArray, List.length_cons, List.length_nil, Nat.reduceAdd, Nat.reduceSub, Array.replicate_succ, Array.replicate_zero, List.push_toArray, List.append_toArray, List.nil_append, List.cons_append]
  gi_wp2
  go_ret
  exact ⟨rfl, rfl⟩

/-- What the iterator has captured lies in three blocks from s on; the level's Kids lie below B. -/
def NumAt (W : World) (s B : Nat) (K c k n : Int) (f : Fo) (a : Option Addr) (cap : Nat) : Prop :=
  W.heap[s]? = some (.cells #[.int .i64 k, .int .i64 n, .slice a f.len cap] 30 (0, 0)) ∧ W.heap[s + 1]? = some (.cells #[.int .i64 K] 3 (0, 0)) ∧ W.heap[s + 1 + 1]? = some (.cells #[.int .i64 c] 3 (0, 0)) ∧ SlIn W (· < B) f a cap ∧ B ≤ s
/-- The blocks that it reads. -/
def NumD (s B : Nat) (b : Nat) : Prop := b < B ∨ (s ≤ b ∧ b ≤ s + 1 + 1)
theorem NumAt.turn {W W' : World} {s B : Nat} {K c k n : Int} {f : Fo} {a : Option Addr} {cap : Nat} {O O' : Nat → Prop} (h : NumAt W s B K c k n f a cap) (hD : ∀ b, NumD s B b → ¬ O b) (ht : Turn O W O' W') : NumAt W' s B K c k n f a cap := by
  obtain ⟨h1, h2, h3, h4, h5⟩ := h
  have hz := lt_of_block h3
  have keep : ∀ b, b < W.heap.size → NumD s B b → W'.heap[b]? = W.heap[b]? := fun b hb hd => ht.2.2.2.2.1 b hb (hD b hd)
  exact ⟨(keep _ (by omega) (.inr (by omega))).trans h1, (keep _ (by omega) (.inr (by omega))).trans h2, (keep _ hz (.inr (by omega))).trans h3, h4.keep (fun b hb => keep b (by omega) (.inl hb)), h5⟩
theorem NumAt.start (w : World) (B : Nat) (K c k n : Int) (f : Fo) (a : Option Addr) (cap : Nat) (hs : SlIn w (· < B) f a cap) (hB : B ≤ w.heap.size) :
    NumAt (((w.alloc (.cells #[.int .i64 k, .int .i64 n, .slice a f.len cap] 30)).alloc (.cells #[.int .i64 K] 3)).alloc (.cells #[.int .i64 c] 3)) w.heap.size B K c k n f a cap := by
  refine ⟨(heap_old _ _ (by simp; omega)).trans ((heap_old _ _ (by simp)).trans (heap_new _ _)), (heap_old _ _ (by simp)).trans (heap_second _ _ _), ?_, ?_, hB⟩
  · have := heap_new ((w.alloc (.cells #[.int .i64 k, .int .i64 n, .slice a f.len cap] 30)).alloc (.cells #[.int .i64 K] 3)) (.cells #[.int .i64 c] 3)
    simpa using this
  · exact hs.below (((((Below.refl _ _).alloc hB _).alloc (by simp; omega) _).alloc (by simp; omega) _))

/-- Ahead of the range over a kid's numbers: what lies in memory, what its iterator promises, and the state that the range keeps. -/
theorem kid_ready {Wy Wc : World} {s B Bv Y : Nat} {K V k n k' n' : Int} {f ks : Fo} {a a' : Option Addr} {cap cap' : Nat} {J : (Nat → Prop) → List Int → World → Prop} {O Oc : Nat → Prop} {pre : List Int} {y : Obj}
    (hat : NumAt Wy s B K V k n f a cap) (hD : ∀ b, NumD s B b → ¬ O b) (hInv : Inv Bv J) (hBv : Bv ≤ Wy.heap.size) (tc : Turn O Wy Oc Wc) (hJ : J Oc pre Wc) (hs' : SlIn Wc (· < B) ks a' cap') (hY : Wy.heap[Y]? = some y) (hYO : ¬ O Y) (ko : Obj) (v : Int) {W3 : World}
    (h3 : (((Wc.alloc ko).alloc (.cells #[.int .i64 k', .int .i64 n', .slice a' ks.len cap'] 30)).alloc (.cells #[.int .i64 K] 3)).alloc (.cells #[.int .i64 v] 3) = W3) :
    (∀ b, NumD (Wc.heap.size + 1) B b → ¬ Oc b) ∧ (∀ o1 o2, NumAt ((W3.alloc o1).alloc o2) (Wc.heap.size + 1) B K v k' n' ks a' cap') ∧ Inv W3.heap.size (fun O' z X => J O' (pre ++ z) X ∧ Turn Oc W3 O' X) ∧ J Oc (pre ++ []) W3 ∧ Turn O Wy Oc W3 ∧ ∀ O' X, Turn Oc W3 O' X → X.heap[Y]? = some y := by
  have hz := tc.2.2.2.1
  have hBs := hat.2.2.2.2
  have hsz := lt_of_block hat.2.2.1
  have hlt := hInv.2 _ _ _ hJ
  have hYl : Y < Wy.heap.size := (Array.getElem?_eq_some_iff.1 hY).1
  have low : ∀ b, b < Wy.heap.size → ¬ O b → ¬ Oc b := fun b hb hn h => by
    rcases tc.2.2.2.2.2 b h with h | h
    · exact hn h
    · omega
  have hk0 : Below Wc.heap.size Wc (Wc.alloc ko) := (Below.refl _ _).alloc (Nat.le_refl _) _
  have hst := NumAt.start (Wc.alloc ko) B K v k' n' ks a' cap' (hs'.below (hk0.mono (by omega))) (by simp; omega)
  rw [h3, World.size_alloc] at hst
  have z3 : W3.heap.size = Wc.heap.size + 1 + 1 + 1 + 1 := by rw [← h3]; simp
  have t3 : Turn Oc Wc Oc W3 := by rw [← h3]; exact (((Turn.alloc _ _ _).trans (Turn.alloc _ _ _)).trans (Turn.alloc _ _ _)).trans (Turn.alloc _ _ _)
  have hDk : ∀ b, NumD (Wc.heap.size + 1) B b → ¬ Oc b := fun b hb => by
    rcases hb with hb | hb
    · exact low b (by omega) (hD b (.inl hb))
    · intro h; have := hlt b h; omega
  refine ⟨hDk, fun o1 o2 => hst.turn hDk ((Turn.alloc Oc _ _).trans (Turn.alloc Oc _ _)), ⟨fun P z A A' row hs hg hr => ⟨hInv.1 _ _ _ _ _ hs.1 hg (fun r e => ⟨by have := (hr r e).1; omega, (hr r e).2⟩), ?_⟩, fun P z A hs => hInv.2 _ _ _ hs.1⟩, ?_, tc.trans t3, fun O' X t => ?_⟩
  · obtain ⟨_, u1, u2, u3, u4, u5, u6⟩ := hs
    refine ⟨hg.os.trans u1, hg.tape.trans u2, hg.output.trans u3, Nat.le_trans u4 hg.size, fun b hb hn => ?_, u6⟩
    exact (hg.block b (by omega) (fun e => by have := (hr b e.symm).1; omega)).trans (u5 b hb hn)
  · rw [List.append_nil, ← h3]
    exact hInv.alloc _ (hInv.alloc _ (hInv.alloc _ (hInv.alloc _ hJ)))
  · have hn := low Y hYl hYO
    exact (t.2.2.2.2.1 Y (by omega) hn).trans ((t3.2.2.2.2.1 Y (by omega) hn).trans ((tc.2.2.2.2.1 Y hYl hYO).trans hY))

theorem Turn.put {O O' : Nat → Prop} {w X : World} (h : Turn O w O' X) {d : Nat} (hd : w.heap.size ≤ d) (o : Obj) : Turn O w O' (X.putObj d o) :=
  ⟨h.1, h.2.1, h.2.2.1, by simpa using h.2.2.2.1, fun b hb hn => (World.putObj_heap_other (by omega)).trans (h.2.2.2.2.1 b hb hn), h.2.2.2.2.2⟩
theorem kidsOf_two (k : Int) : kidsOf k ≤ 2 := by unfold kidsOf; split <;> (try split) <;> (try split) <;> omega
theorem kids_pair {p m : Int} {k n k2 n2 : Int} {ks ks2 : Fo} {d : Int} (h : rAll p m (.cons k n ks (.cons k2 n2 ks2 .nil)) d = true) :
    rNode p m k n ks.len d (rAll p m ks (d - 1)) = true ∧ rNode p m k2 n2 ks2.len d (rAll p m ks2 (d - 1)) = true := by
  simp only [rAll, Bool.and_eq_true, and_true] at h
  exact h
theorem kids_one {p m : Int} {k n : Int} {ks : Fo} {d : Int} (h : rAll p m (.cons k n ks .nil) d = true) :
    rNode p m k n ks.len d (rAll p m ks (d - 1)) = true := by
  simp only [rAll, Bool.and_eq_true, and_true] at h
  exact h

set_option maxRecDepth 100000 in
set_option maxHeartbeats 4000000 in
theorem numbers1_tells (K : Int) (c : Nat) : c ≤ 12 → ∀ (k n : Int) (f : Fo) (a : Option Addr) (cap s B : Nat) (W : World), rNode 5 10 k n f.len c (rAll 5 10 f (c - 1)) = true → NumAt W s B K c k n f a cap →
    Tells (NumD s B) 66 #[.pointer (some ⟨s, 0, none⟩), .pointer (some ⟨s + 1, 0, none⟩), .pointer (some ⟨s + 1 + 1, 0, none⟩)] (num1 K k n f) W := by
  induction c with
  | zero => intro _ k n f a cap s B W hr; have := (node_parts (p := 5) (m := 10) (k := k) (n := n) (f := f) (d := 0) (by simpa using hr)).1; omega
  | succ c ih =>
    intro hc k n f a cap s B W hr hat l J O hD hInv hR h0 m
    obtain ⟨V, hV⟩ : ∃ V : Int, V = ((c + 1 : Nat) : Int) := ⟨_, rfl⟩
    rw [← hV] at hat hr
    have HV := Lib.hid hV
    clear hV
    have hdd : ∀ k : Nat, (Fence.wide.depth.isSome = true → 1 ≤ k) := fun k h => by cases h
    have ht0 : Turn O W O (W.alloc (.cells #[.func (.yield l) #[] #[]] 109)) := Turn.alloc _ _ _
    have hat1 := hat.turn hD ht0
    have h1 := hInv.alloc (.cells #[.func (.yield l) #[] #[]] 109) h0
    have hYO : ¬ O W.heap.size := fun h => by have := hInv.2 _ _ _ h0 _ h; omega
    obtain ⟨b1, b2, b3, hsl, hBs⟩ := id hat1
    have c0 := cell_at b1 0
    have c1 := cell_at b1 1
    have c2 := cell_at b1 2
    have cK := cell_at b2 0
    have cc := cell_at b3 0
    have cy := cell_at (heap_new W (.cells #[.func (.yield l) #[] #[]] 109)) 0
    simp at c0 c1 c2 cK cc cy
    by_cases hk : k = K
    · have dk : (k == K) = true := beq_iff_eq.2 hk
      obtain ⟨fn, tmps, assign, body, hy, hRd⟩ := hR (m - 1) O [] n _ h1 (by unfold num1; rw [if_pos hk]; exact List.prefix_refl _)
      refine callsIn_of_wp Try.func66 rfl trivial ?_ rfl
      simp only [Try.ntmps66, List.size_toArray, List.length_cons, List.length_nil, Nat.reduceAdd, Nat.reduceSub, Array.replicate_succ, Array.replicate_zero, List.push_toArray, List.append_toArray, List.nil_append, List.cons_append]
      gi_wp2
      refine ⟨hdd _, ?_⟩
      refine hRd.mono ?_
      rintro e W2 ⟨rfl, O2, hJ2, ht2⟩
      gi_wp2
      refine bodyPost_ret (results_none rfl _ _ _) rfl ?_
      refine ⟨⟨_, rfl⟩, O2, ?_, ht0.trans ht2⟩
      unfold num1
      rw [if_pos hk]
      exact hJ2
    · have dk : (k == K) = false := beq_eq_false_iff_ne.2 hk
      have hnum : num1 K k n f = numF K f := by unfold num1; rw [if_neg hk]
      obtain ⟨_, hfl, _, _, hall⟩ := node_parts hr
      have HVV : Hid (V - 1 = (c : Int)) := Lib.hid (by have := HV.out; omega)
      have HFL := Lib.hid hfl
      clear hfl
      match f, HFL with
      | .nil, _ =>
        rw [hnum]
        have hl0 : Fo.nil.len = 0 := rfl
        rw [hl0] at c2
        refine callsIn_of_wp_marks Try.func66 rfl trivial ?_ rfl
        simp only [Try.ntmps66, List.size_toArray, List.length_cons, List.length_nil, Nat.reduceAdd, Nat.reduceSub, Array.replicate_succ, Array.replicate_zero, List.push_toArray, List.append_toArray, List.nil_append, List.cons_append]
        gi_wp2
        refine wpIn_loop_rounds 1 ?_
        simp only [roundsIn_succ]
        gi_wp2
        exact ⟨_, results_none rfl _ _ _, ⟨_, rfl⟩, O, h1, ht0⟩
      | .cons k' n' ks .nil, _ =>
        have hn1 : numF K (.cons k' n' ks .nil) = num1 K k' n' ks := by
          show (if k' = K then [n'] else numF K ks) ++ [] = _
          rw [List.append_nil]; rfl
        rw [hnum, hn1] at hR ⊢
        obtain ⟨b, o, rfl, hbB, hf0⟩ := hsl.some (by simp [Fo.len])
        obtain ⟨e0, e1, ⟨a', cap', e2, hsl'⟩, _⟩ := hf0.first
        have hkid := kids_one hall
        have hV1 := (node_parts hkid).1
        have hV2 : V ≤ 12 := by have := HV.out; omega
        rw [HVV.out] at hkid
        have hwr : IntKind.i64.wrap (V - 1) = V - 1 := IntWalk.i64_in _ (by omega)
        have hl1 : (Fo.cons k' n' ks .nil).len = 1 := rfl
        rw [hl1] at c2
        have hkk := heap_old (W.alloc (.cells #[.func (.yield l) #[] #[]] 109)) (.cells #[.int .i64 k', .int .i64 n', .slice a' ks.len cap'] 30) (lt_of_block b2)
        have cK' := cell_at (hkk.trans b2) 0
        have hkv := heap_old (W.alloc (.cells #[.func (.yield l) #[] #[]] 109)) (.cells #[.int .i64 k', .int .i64 n', .slice a' ks.len cap'] 30) (lt_of_block b3)
        have cc' := cell_at (hkv.trans b3) 0
        simp at cK' cc'
        clear hkk hkv
        refine callsIn_of_wp_marks Try.func66 rfl trivial ?_ rfl
        simp only [Try.ntmps66, List.size_toArray, List.length_cons, List.length_nil, Nat.reduceAdd, Nat.reduceSub, Array.replicate_succ, Array.replicate_zero, List.push_toArray, List.append_toArray, List.nil_append, List.cons_append]
        gi_wp2
        refine wpIn_loop_rounds 2 ?_
        simp only [roundsIn_succ]
        obtain ⟨W3, h3⟩ : ∃ W3, ((((W.alloc (.cells #[.func (.yield l) #[] #[]] 109)).alloc (.cells #[.int .i64 k', .int .i64 n', .slice a' ks.len cap'] 30)).alloc (.cells #[.int .i64 k', .int .i64 n', .slice a' ks.len cap'] 30)).alloc (.cells #[.int .i64 K] 3)).alloc (.cells #[.int .i64 (V - 1)] 3) = W3 := ⟨_, rfl⟩
        obtain ⟨r1, r2, r3, r4, r5, r6⟩ := kid_ready hat1 hD hInv (by simp) (Turn.refl O _) h1 hsl' (heap_new W (.cells #[.func (.yield l) #[] #[]] 109)) hYO _ (V - 1) h3
        have H3 := Lib.hid h3
        clear h3
        gi_wp2_with (refine ⟨trivial, hdd _, ?_⟩; gi_at_call 47; refine (numbers_in _ k' n' K (V - 1) (by omega) (by omega) a' ks.len cap' _).mono ?_; rintro e w' ⟨rfl, rfl⟩)
        rw [H3.out]
        rw [World.size_alloc] at r1 r2
        refine loop_tells (gf := 66) (lb := #[.pointer (some ⟨W.heap.size + 1 + 1, 0, none⟩), .pointer (some ⟨W.heap.size + 1 + 1 + 1, 0, none⟩), .pointer (some ⟨W.heap.size + 1 + 1 + 1 + 1, 0, none⟩)]) rfl (enters_of Try.func66 (by kernel_rfl) rfl) rfl (xs := num1 K k' n' ks) (D := NumD (W.heap.size + 1 + 1) B) (O := O) r1
          (fun o1 o2 => ih (by omega) k' n' ks a' cap' (W.heap.size + 1 + 1) B _ hkid (by rw [HVV.out] at r2; exact r2 o1 o2)) (fun O' z X => J O' ([] ++ z) X ∧ Turn O W3 O' X) r3 ⟨r4, Turn.refl _ _⟩ ?round ?done
        case round =>
          rintro l2 m2 P pre x X ⟨hJ2, t2⟩ hpre
          have hdd2 : ∀ k : Nat, ((Fence.wide.inRound l2).depth.isSome = true → 1 ≤ k) := fun k h => by cases h
          gi_wp2
          refine ⟨trivial, ?_⟩
          rintro Wb ⟨hJb, tb⟩
          have cY := cell_at (r6 P Wb tb) 0
          simp at cY
          obtain ⟨fn, tmps, assign, body, hy, hRd⟩ := hR (m2 - 1) P ([] ++ pre) x Wb hJb hpre
          gi_wp2
          refine ⟨hdd2 _, ?_⟩
          refine RoundIn.mono hRd ?_
          rintro e X2 ⟨rfl, O2, hJ3, t3⟩
          gi_wp2
          exact ⟨O2, ⟨hJ3, tb.trans t3⟩, t3⟩
        case done =>
          rintro d O' X hd ⟨hJd, td⟩ hkd hnd td'
          gi_wp2
          simp only [roundsIn_succ]
          gi_wp2
          refine ⟨by simp, .inl ⟨_, _, rfl, run_takeDeferred hkd, ?_⟩⟩
          have hz3 := r5.2.2.2.1
          rw [World.size_alloc] at hz3
          exact ⟨_, results_none rfl _ _ _, ⟨_, rfl⟩, O', hInv.put _ hJd (by omega) hkd rfl, ((ht0.trans r5).trans td).put (by omega) _⟩
      | .cons k' n' ks (.cons k2 n2 ks2 .nil), _ =>
        have hn1 : numF K (.cons k' n' ks (.cons k2 n2 ks2 .nil)) = num1 K k' n' ks ++ num1 K k2 n2 ks2 := by
          show (if k' = K then [n'] else numF K ks) ++ ((if k2 = K then [n2] else numF K ks2) ++ []) = _
          rw [List.append_nil]; rfl
        rw [hnum, hn1] at hR ⊢
        obtain ⟨b, o, rfl, hbB, hf0⟩ := hsl.some (by simp [Fo.len])
        obtain ⟨e0, e1, ⟨a', cap', e2, hsl'⟩, _⟩ := hf0.first
        obtain ⟨hkid, hkid2⟩ := kids_pair hall
        have hV1 := (node_parts hkid).1
        have hV2 : V ≤ 12 := by have := HV.out; omega
        rw [HVV.out] at hkid hkid2
        have hwr : IntKind.i64.wrap (V - 1) = V - 1 := IntWalk.i64_in _ (by omega)
        have hl1 : (Fo.cons k' n' ks (.cons k2 n2 ks2 .nil)).len = 2 := rfl
        rw [hl1] at c2
        have hkk := heap_old (W.alloc (.cells #[.func (.yield l) #[] #[]] 109)) (.cells #[.int .i64 k', .int .i64 n', .slice a' ks.len cap'] 30) (lt_of_block b2)
        have cK' := cell_at (hkk.trans b2) 0
        have hkv := heap_old (W.alloc (.cells #[.func (.yield l) #[] #[]] 109)) (.cells #[.int .i64 k', .int .i64 n', .slice a' ks.len cap'] 30) (lt_of_block b3)
        have cc' := cell_at (hkv.trans b3) 0
        simp at cK' cc'
        clear hkk hkv
        refine callsIn_of_wp_marks Try.func66 rfl trivial ?_ rfl
        simp only [Try.ntmps66, List.size_toArray, List.length_cons, List.length_nil, Nat.reduceAdd, Nat.reduceSub, Array.replicate_succ, Array.replicate_zero, List.push_toArray, List.append_toArray, List.nil_append, List.cons_append]
        gi_wp2
        refine wpIn_loop_rounds 3 ?_
        simp only [roundsIn_succ]
        obtain ⟨W3, h3⟩ : ∃ W3, ((((W.alloc (.cells #[.func (.yield l) #[] #[]] 109)).alloc (.cells #[.int .i64 k', .int .i64 n', .slice a' ks.len cap'] 30)).alloc (.cells #[.int .i64 k', .int .i64 n', .slice a' ks.len cap'] 30)).alloc (.cells #[.int .i64 K] 3)).alloc (.cells #[.int .i64 (V - 1)] 3) = W3 := ⟨_, rfl⟩
        obtain ⟨r1, r2, r3, r4, r5, r6⟩ := kid_ready hat1 hD hInv (by simp) (Turn.refl O _) h1 hsl' (heap_new W (.cells #[.func (.yield l) #[] #[]] 109)) hYO _ (V - 1) h3
        have H3 := Lib.hid h3
        clear h3
        gi_wp2_with (refine ⟨trivial, hdd _, ?_⟩; gi_at_call 47; refine (numbers_in _ k' n' K (V - 1) (by omega) (by omega) a' ks.len cap' _).mono ?_; rintro e w' ⟨rfl, rfl⟩)
        rw [H3.out]
        rw [World.size_alloc] at r1 r2
        refine loop_tells (gf := 66) (lb := #[.pointer (some ⟨W.heap.size + 1 + 1, 0, none⟩), .pointer (some ⟨W.heap.size + 1 + 1 + 1, 0, none⟩), .pointer (some ⟨W.heap.size + 1 + 1 + 1 + 1, 0, none⟩)]) rfl (enters_of Try.func66 (by kernel_rfl) rfl) rfl (xs := num1 K k' n' ks) (D := NumD (W.heap.size + 1 + 1) B) (O := O) r1
          (fun o1 o2 => ih (by omega) k' n' ks a' cap' (W.heap.size + 1 + 1) B _ hkid (by rw [HVV.out] at r2; exact r2 o1 o2)) (fun O' z X => J O' ([] ++ z) X ∧ Turn O W3 O' X) r3 ⟨r4, Turn.refl _ _⟩ ?round ?done
        case round =>
          rintro l2 m2 P pre x X ⟨hJ2, t2⟩ hpre
          have hdd2 : ∀ k : Nat, ((Fence.wide.inRound l2).depth.isSome = true → 1 ≤ k) := fun k h => by cases h
          gi_wp2
          refine ⟨trivial, ?_⟩
          rintro Wb ⟨hJb, tb⟩
          have cY := cell_at (r6 P Wb tb) 0
          simp at cY
          obtain ⟨fn, tmps, assign, body, hy, hRd⟩ := hR (m2 - 1) P ([] ++ pre) x Wb hJb (hpre.trans (List.prefix_append _ _))
          gi_wp2
          refine ⟨hdd2 _, ?_⟩
          refine RoundIn.mono hRd ?_
          rintro e X2 ⟨rfl, O2, hJ3, t3⟩
          gi_wp2
          exact ⟨O2, ⟨hJ3, tb.trans t3⟩, t3⟩
        case done =>
          rintro d O' X hd ⟨hJd, td⟩ hkd hnd td'
          have tX : Turn O (W.alloc (.cells #[.func (.yield l) #[] #[]] 109)) O' X := r5.trans td
          obtain ⟨u1, u2, u3, usl, _⟩ := hat1.turn hD tX
          obtain ⟨g0, g1, ⟨a2, cap2, g2, hsl2⟩, _⟩ := usl.foIn.first.2.2.2.first
          have hz3 := r5.2.2.2.1
          rw [World.size_alloc] at hz3
          have hmk := heap_old X (.cells #[.int .i64 k2, .int .i64 n2, .slice a2 ks2.len cap2] 30) (lt_of_block u2)
          have vK' := cell_at (hmk.trans u2) 0
          have hmv := heap_old X (.cells #[.int .i64 k2, .int .i64 n2, .slice a2 ks2.len cap2] 30) (lt_of_block u3)
          have vc' := cell_at (hmv.trans u3) 0
          simp at vK' vc'
          obtain ⟨W5, h5⟩ : ∃ W5, (((X.alloc (.cells #[.int .i64 k2, .int .i64 n2, .slice a2 ks2.len cap2] 30)).alloc (.cells #[.int .i64 k2, .int .i64 n2, .slice a2 ks2.len cap2] 30)).alloc (.cells #[.int .i64 K] 3)).alloc (.cells #[.int .i64 (V - 1)] 3) = W5 := ⟨_, rfl⟩
          obtain ⟨q1, q2, q3, q4, q5, q6⟩ := kid_ready hat1 hD hInv (by simp) tX hJd hsl2 (heap_new W (.cells #[.func (.yield l) #[] #[]] 109)) hYO (.cells #[.int .i64 k2, .int .i64 n2, .slice a2 ks2.len cap2] 30) (V - 1) h5
          have hdX : d < X.heap.size := (Array.getElem?_eq_some_iff.1 hkd).1
          have hd5 : W5.heap[d]? = some (.deferred (some [])) ∧ X.heap.size < W5.heap.size := by
            rw [← h5]
            exact ⟨(heap_old _ _ (by simp; omega)).trans ((heap_old _ _ (by simp; omega)).trans ((heap_old _ _ (by simp; omega)).trans ((heap_old _ _ hdX).trans hkd))), by simp; omega⟩
          have H5 := Lib.hid h5
          have HD5 := Lib.hid hd5
          clear h5 hmk hmv hd5
          gi_wp2
          simp only [roundsIn_succ]
          gi_wp2_with (refine ⟨trivial, hdd _, ?_⟩; gi_at_call 47; refine (numbers_in _ k2 n2 K (V - 1) (by omega) (by omega) a2 ks2.len cap2 _).mono ?_; rintro e w' ⟨rfl, rfl⟩)
          rw [H5.out]
          refine loop_tells (gf := 66) (lb := #[.pointer (some ⟨X.heap.size + 1, 0, none⟩), .pointer (some ⟨X.heap.size + 1 + 1, 0, none⟩), .pointer (some ⟨X.heap.size + 1 + 1 + 1, 0, none⟩)]) rfl (enters_of Try.func66 (by kernel_rfl) rfl) rfl (xs := num1 K k2 n2 ks2) (D := NumD (X.heap.size + 1) B) (O := O') q1
            (fun o1 o2 => ih (by omega) k2 n2 ks2 a2 cap2 (X.heap.size + 1) B _ hkid2 (by rw [HVV.out] at q2; exact q2 o1 o2)) (fun O2 z X2 => J O2 (([] ++ num1 K k' n' ks) ++ z) X2 ∧ Turn O' W5 O2 X2) q3 ⟨q4, Turn.refl _ _⟩ ?round2 ?done2
          case round2 =>
            rintro l2 m2 P pre x X3 ⟨hJ2, t2⟩ hpre
            have hdd2 : ∀ k : Nat, ((Fence.wide.inRound l2).depth.isSome = true → 1 ≤ k) := fun k h => by cases h
            gi_wp2
            refine ⟨trivial, ?_⟩
            rintro Wb ⟨hJb, tb⟩
            have cY := cell_at (q6 P Wb tb) 0
            simp at cY
            obtain ⟨fn, tmps, assign, body, hy, hRd⟩ := hR (m2 - 1) P (([] ++ num1 K k' n' ks) ++ pre) x Wb hJb (by obtain ⟨t, ht⟩ := hpre; exact ⟨t, by simp [← ht]⟩)
            gi_wp2
            refine ⟨hdd2 _, ?_⟩
            refine RoundIn.mono hRd ?_
            rintro e X4 ⟨rfl, O2, hJ3, t3⟩
            gi_wp2
            exact ⟨O2, ⟨by rw [List.append_assoc] at hJ3; exact hJ3, tb.trans t3⟩, t3⟩
          case done2 =>
            rintro d2 O2 X2 hd2 ⟨hJ2, t2⟩ hk2 hn2 t2'
            have hd12 : d ≠ d2 := by have := HD5.out.2; omega
            have hkd2 : (X2.putObj d2 (.deferred none)).heap[d]? = some (.deferred (some [])) := (World.putObj_heap_other hd12).trans ((t2.2.2.2.2.1 d (by have := HD5.out.2; omega) hnd).trans HD5.out.1)
            gi_wp2
            simp only [roundsIn_succ]
            gi_wp2
            refine ⟨by simp, .inl ⟨_, _, rfl, run_takeDeferred hk2, ?_⟩⟩
            refine ⟨by simp, .inl ⟨_, _, rfl, run_takeDeferred hkd2, ?_⟩⟩
            have hW5 := HD5.out.2
            exact ⟨_, results_none rfl _ _ _, ⟨_, rfl⟩, O2, hInv.put _ (hInv.put _ hJ2 (by omega) hk2 rfl) (by omega) hkd2 rfl, (((ht0.trans q5).trans t2).put (by omega) _).put (by omega) _⟩
      | .cons k' n' ks (.cons k2 n2 ks2 (.cons k3 n3 ks3 r)), hfl3 =>
        have h9 := hfl3.out
        have h8 := kidsOf_two k
        simp only [Fo.len] at h9
        omega
end Go.Proofs.Ytmbopdlmkbbbiaa
