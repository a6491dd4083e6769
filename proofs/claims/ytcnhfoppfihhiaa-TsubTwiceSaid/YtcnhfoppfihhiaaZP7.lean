/- The contract of the program's iterator over the numbers of a kind in a level: it tells all of them, from left to right. Conditions: the level lies in memory, each level in it has as many Kids as its kind says, and it is no deeper than the calls that may be made. -/
import Derived.Test.YtcnhfoppfihhiaaZP5
import Derived.Test.YtcnhfoppfihhiaaNspec
import Derived.Test.YtcnhfoppfihhiaaCell
import Derived.Test.YtcnhfoppfihhiaaZP6
import Derived.Shelf.RegionOpen
import Derived.WalkKit
import Derived.OwnWalkIn
import Derived.TacticsInMore
import Derived.LoopNIn
import Derived.LoopIn
import Derived.IntWalk
import Derived.Carry
import Derived.Test.YtcnhfoppfihhiaaZP0
import Derived.Test.YtcnhfoppfihhiaaSsub
import Derived.Deep.RegionHeld3
import Derived.Test.YtcnhfoppfihhiaaZP1
import Derived.Test.YtcnhfoppfihhiaaZP3
import Derived.Test.YtcnhfoppfihhiaaZP4
import Derived.Test.YtcnhfoppfihhiaaZP2
import Derived.Test.YtcnhfoppfihhiaaTmix
import Derived.Test.YtcnhfoppfihhiaaRows
import Derived.Test.YtcnhfoppfihhiaaTrshape
import Derived.Test.YtcnhfoppfihhiaaStep
import Derived.Deep.RegionLaw
import Derived.Test.YtcnhfoppfihhiaaTrright2
import Derived.Deep.DeepCutAuto
namespace Go.Proofs.Ytcnhfoppfihhiaa
open Go.RowKit Go.Shelf
attribute [local go_sem] Oper.semAt_some

set_option maxHeartbeats 1000000 in
theorem numbers_in (n' : Nat) (k n K c : Int) (hc : 1 ≤ c) (hc2 : c ≤ 12) (a : Option Addr) (len cap : Nat) (w : World) :
    CallsIn Fence.wide n' Try.prog 50 #[.agg #[.int .i64 k, .int .i64 n, .slice a len cap], .int .i64 K, .int .i64 c] w fun e w' =>
      e = .returned (.func (.func 68) #[] #[.pointer (some ⟨w.heap.size, 0, none⟩), .pointer (some ⟨w.heap.size + 1, 0, none⟩), .pointer (some ⟨w.heap.size + 1 + 1, 0, none⟩)]) ∧
      w' = ((w.alloc (.cells #[.int .i64 k, .int .i64 n, .slice a len cap] 38)).alloc (.cells #[.int .i64 K] 3)).alloc (.cells #[.int .i64 c] 3) := by
  have dc : (c == 0) = false := beq_eq_false_iff_ne.2 (by omega)
  refine callsIn_of_wp Try.func50 rfl trivial ?_ rfl
  simp only [Try.ntmps50, List.size_toArray, List.length_cons, List.length_nil, Nat.reduceAdd, Nat.reduceSub, Array.replicate_succ, Array.replicate_zero, List.push_toArray, List.append_toArray, List.nil_append, List.cons_append]
  gi_wp2
  go_ret
  exact ⟨rfl, rfl⟩

/-- What the iterator has captured lies in three blocks from s on; the level's Kids lie below B. -/
def NumAt (W : World) (s B : Nat) (K c k n : Int) (f : Fo) (a : Option Addr) (cap : Nat) : Prop :=
  W.heap[s]? = some (.cells #[.int .i64 k, .int .i64 n, .slice a f.len cap] 38 (0, 0)) ∧ W.heap[s + 1]? = some (.cells #[.int .i64 K] 3 (0, 0)) ∧ W.heap[s + 1 + 1]? = some (.cells #[.int .i64 c] 3 (0, 0)) ∧ SlIn W (· < B) f a cap ∧ B ≤ s
/-- The blocks that it reads. -/
def NumD (s B : Nat) (b : Nat) : Prop := b < B ∨ (s ≤ b ∧ b ≤ s + 1 + 1)
theorem NumAt.turn {W W' : World} {s B : Nat} {K c k n : Int} {f : Fo} {a : Option Addr} {cap : Nat} {O O' : Nat → Prop} (h : NumAt W s B K c k n f a cap) (hD : ∀ b, NumD s B b → ¬ O b) (ht : Turn O W O' W') : NumAt W' s B K c k n f a cap := by
  obtain ⟨h1, h2, h3, h4, h5⟩ := h
  have hz := lt_of_block h3
  have keep : ∀ b, b < W.heap.size → NumD s B b → W'.heap[b]? = W.heap[b]? := fun b hb hd => ht.2.2.2.2.1 b hb (hD b hd)
  exact ⟨(keep _ (by omega) (.inr (by omega))).trans h1, (keep _ (by omega) (.inr (by omega))).trans h2, (keep _ hz (.inr (by omega))).trans h3, h4.keep (fun b hb => keep b (by omega) (.inl hb)), h5⟩
theorem NumAt.start (w : World) (B : Nat) (K c k n : Int) (f : Fo) (a : Option Addr) (cap : Nat) (hs : SlIn w (· < B) f a cap) (hB : B ≤ w.heap.size) :
    NumAt (((w.alloc (.cells #[.int .i64 k, .int .i64 n, .slice a f.len cap] 38)).alloc (.cells #[.int .i64 K] 3)).alloc (.cells #[.int .i64 c] 3)) w.heap.size B K c k n f a cap := by
  refine ⟨(heap_old _ _ (by simp; omega)).trans ((heap_old _ _ (by simp)).trans (heap_new _ _)), (heap_old _ _ (by simp)).trans (heap_second _ _ _), ?_, ?_, hB⟩
  · have := heap_new ((w.alloc (.cells #[.int .i64 k, .int .i64 n, .slice a f.len cap] 38)).alloc (.cells #[.int .i64 K] 3)) (.cells #[.int .i64 c] 3)
    simpa using this
  · exact hs.below (((((Below.refl _ _).alloc hB _).alloc (by simp; omega) _).alloc (by simp; omega) _))

/-- Ahead of the range over a kid's numbers: what lies in memory, what its iterator promises, and the state that the range keeps. -/
theorem kid_ready {Wy Wc : World} {s B Bv Y : Nat} {K V k n k' n' : Int} {f ks : Fo} {a a' : Option Addr} {cap cap' : Nat} {J : (Nat → Prop) → List Int → World → Prop} {O Oc : Nat → Prop} {pre : List Int} {y : Obj}
    (hat : NumAt Wy s B K V k n f a cap) (hD : ∀ b, NumD s B b → ¬ O b) (hInv : Inv Bv J) (hBv : Bv ≤ Wy.heap.size) (tc : Turn O Wy Oc Wc) (hJ : J Oc pre Wc) (hs' : SlIn Wc (· < B) ks a' cap') (hY : Wy.heap[Y]? = some y) (hYO : ¬ O Y) (ko : Obj) (v : Int) {W3 : World}
    (h3 : (((Wc.alloc ko).alloc (.cells #[.int .i64 k', .int .i64 n', .slice a' ks.len cap'] 38)).alloc (.cells #[.int .i64 K] 3)).alloc (.cells #[.int .i64 v] 3) = W3) :
    (∀ b, NumD (Wc.heap.size + 1) B b → ¬ Oc b) ∧ (∀ o1 o2, NumAt ((W3.alloc o1).alloc o2) (Wc.heap.size + 1) B K v k' n' ks a' cap') ∧ Inv W3.heap.size (fun O' z X => J O' (pre ++ z) X ∧ Turn Oc W3 O' X) ∧ J Oc (pre ++ []) W3 ∧ Turn O Wy Oc W3 ∧ ∀ O' X, Turn Oc W3 O' X → X.heap[Y]? = some y := by
  have hz := tc.2.2.2.1
  have hBs := hat.2.2.2.2
  have hsz := lt_of_block hat.2.2.1
  have hlt := hInv.2 _ _ _ hJ
  have hYl : Y < Wy.heap.size := (Array.getElem?_eq_some_iff.1 hY).1
  have low : ∀ b, b < Wy.heap.size → ¬ O b → ¬ Oc b := fun b hb hn h => by
    rcases tc.2.2.2.2.2 b h with h | h
    · exact hn h
    · omega
  have hk0 : Below Wc.heap.size Wc (Wc.alloc ko) := (Below.refl _ _).alloc (Nat.le_refl _) _
  have hst := NumAt.start (Wc.alloc ko) B K v k' n' ks a' cap' (hs'.below (hk0.mono (by omega))) (by simp; omega)
  rw [h3, World.size_alloc] at hst
  have z3 : W3.heap.size = Wc.heap.size + 1 + 1 + 1 + 1 := by rw [← h3]; simp
  have t3 : Turn Oc Wc Oc W3 := by rw [← h3]; exact (((Turn.alloc _ _ _).trans (Turn.alloc _ _ _)).trans (Turn.alloc _ _ _)).trans (Turn.alloc _ _ _)
  have hDk : ∀ b, NumD (Wc.heap.size + 1) B b → ¬ Oc b := fun b hb => by
    rcases hb with hb | hb
    · exact low b (by omega) (hD b (.inl hb))
    · intro h; have := hlt b h; omega
  refine ⟨hDk, fun o1 o2 => hst.turn hDk ((Turn.alloc Oc _ _).trans (Turn.alloc Oc _ _)), ⟨fun P z A A' row hs hg hr => ⟨hInv.1 _ _ _ _ _ hs.1 hg (fun r e => ⟨by have := (hr r e).1; omega, (hr r e).2⟩), ?_⟩, fun P z A hs => hInv.2 _ _ _ hs.1⟩, ?_, tc.trans t3, fun O' X t => ?_⟩
  · obtain ⟨_, u1, u2, u3, u4, u5, u6⟩ := hs
    refine ⟨hg.os.trans u1, hg.tape.trans u2, hg.output.trans u3, Nat.le_trans u4 hg.size, fun b hb hn => ?_, u6⟩
    exact (hg.block b (by omega) (fun e => by have := (hr b e.symm).1; omega)).trans (u5 b hb hn)
  · rw [List.append_nil, ← h3]
    exact hInv.alloc _ (hInv.alloc _ (hInv.alloc _ (hInv.alloc _ hJ)))
  · have hn := low Y hYl hYO
    exact (t.2.2.2.2.1 Y (by omega) hn).trans ((t3.2.2.2.2.1 Y (by omega) hn).trans ((tc.2.2.2.2.1 Y hYl hYO).trans hY))

theorem Turn.put {O O' : Nat → Prop} {w X : World} (h : Turn O w O' X) {d : Nat} (hd : w.heap.size ≤ d) (o : Obj) : Turn O w O' (X.putObj d o) :=
  ⟨h.1, h.2.1, h.2.2.1, by simpa using h.2.2.2.1, fun b hb hn => (World.putObj_heap_other (by omega)).trans (h.2.2.2.2.1 b hb hn), h.2.2.2.2.2⟩
theorem kidsOf_two (k : Int) : kidsOf k ≤ 2 := by unfold kidsOf; split <;> (try split) <;> (try split) <;> omega
theorem kids_pair {p m : Int} {k n k2 n2 : Int} {ks ks2 : Fo} {d : Int} (h : rAll p m (.cons k n ks (.cons k2 n2 ks2 .nil)) d = true) :
    rNode p m k n ks.len d (rAll p m ks (d - 1)) = true ∧ rNode p m k2 n2 ks2.len d (rAll p m ks2 (d - 1)) = true := by
  simp only [rAll, Bool.and_eq_true, and_true] at h
  exact h
theorem kids_one {p m : Int} {k n : Int} {ks : Fo} {d : Int} (h : rAll p m (.cons k n ks .nil) d = true) :
    rNode p m k n ks.len d (rAll p m ks (d - 1)) = true := by
  simp only [rAll, Bool.and_eq_true, and_true] at h
  exact h

set_option maxRecDepth 100000 in
set_option maxHeartbeats 4000000 in
theorem numbers1_tells (K : Int) (c : Nat) : c ≤ 12 → ∀ (k n : Int) (f : Fo) (a : Option Addr) (cap s B : Nat) (W : World), rNode 5 10 k n f.len c (rAll 5 10 f (c - 1)) = true → NumAt W s B K c k n f a cap →
    Tells (NumD s B) 68 #[.pointer (some ⟨s, 0, none⟩), .pointer (some ⟨s + 1, 0, none⟩), .pointer (some ⟨s + 1 + 1, 0, none⟩)] (num1 K k n f) W := by
  induction c with
  | zero => intro _ k n f a cap s B W hr; have := (node_parts (p := 5) (m := 10) (k := k) (n := n) (f := f) (d := 0) (by simpa using hr)).1; omega
  | succ c ih =>
    intro hc k n f a cap s B W hr hat l J O hD hInv hR h0 m
    obtain ⟨V, hV⟩ : ∃ V : Int, V = ((c + 1 : Nat) : Int) := ⟨_, rfl⟩
    rw [← hV] at hat hr
    have HV := Lib.hid hV
    clear hV
    have hdd : ∀ k : Nat, (Fence.wide.depth.isSome = true → 1 ≤ k) := fun k h => by cases h
    have ht0 : Turn O W O (W.alloc (.cells #[.func (.yield l) #[] #[]] 105)) := Turn.alloc _ _ _
    have hat1 := hat.turn hD ht0
    have h1 := hInv.alloc (.cells #[.func (.yield l) #[] #[]] 105) h0
    have hYO : ¬ O W.heap.size := fun h => by have := hInv.2 _ _ _ h0 _ h; omega
    obtain ⟨b1, b2, b3, hsl, hBs⟩ := id hat1
    have c0 := cell_at b1 0
    have c1 := cell_at b1 1
    have c2 := cell_at b1 2
    have cK := cell_at b2 0
    have cc := cell_at b3 0
    have cy := cell_at (heap_new W (.cells #[.func (.yield l) #[] #[]] 105)) 0
    simp at c0 c1 c2 cK cc cy
    by_cases hk : k = K
    · have dk : (k == K) = true := beq_iff_eq.2 hk
      obtain ⟨fn, tmps, assign, body, hy, hRd⟩ := hR (m - 1) O [] n _ h1 (by unfold num1; rw [if_pos hk]; exact List.prefix_refl _)
      refine callsIn_of_wp Try.func68 rfl trivial ?_ rfl
      simp only [Try.ntmps68, List.size_toArray, List.length_cons, List.length_nil, Nat.reduceAdd, Nat.reduceSub, Array.replicate_succ, Array.replicate_zero, List.push_toArray, List.append_toArray, List.nil_append, List.cons_append]
      gi_wp2
      refine ⟨hdd _, ?_⟩
      refine hRd.mono ?_
      rintro e W2 ⟨rfl, O2, hJ2, ht2⟩
      gi_wp2
      refine bodyPost_ret (results_none rfl _ _ _) rfl ?_
      refine ⟨⟨_, rfl⟩, O2, ?_, ht0.trans ht2⟩
      unfold num1
      rw [if_pos hk]
      exact hJ2
    · have dk : (k == K) = false := beq_eq_false_iff_ne.2 hk
      have hnum : num1 K k n f = numF K f := by unfold num1; rw [if_neg hk]
      obtain ⟨_, hfl, _, _, hall⟩ := node_parts hr
      have HVV : Hid (V - 1 = (c : Int)) := Lib.hid (by have := HV.out; omega)
      have HFL := Lib.hid hfl
      clear hfl
      match f, HFL with
      | .nil, _ =>
        rw [hnum]
        have hl0 : Fo.nil.len = 0 := rfl
        rw [hl0] at c2
        refine callsIn_of_wp_marks Try.func68 rfl trivial ?_ rfl
        simp only [Try.ntmps68, List.size_toArray, List.length_cons, List.length_nil, Nat.reduceAdd, Nat.reduceSub, Array.replicate_succ, Array.replicate_zero, List.push_toArray, List.append_toArray, List.nil_append, List.cons_append]
        gi_wp2
        refine wpIn_loop_rounds 1 ?_
        simp only [roundsIn_succ]
        gi_wp2
        exact ⟨_, results_none rfl _ _ _, ⟨_, rfl⟩, O, h1, ht0⟩
      | .cons k' n' ks .nil, _ =>
        have hn1 : numF K (.cons k' n' ks .nil) = num1 K k' n' ks := by
          show (if k' = K then [n'] else numF K ks) ++ [] = _
          rw [List.append_nil]; rfl
        rw [hnum, hn1] at hR ⊢
        obtain ⟨b, o, rfl, hbB, hf0⟩ := hsl.some (by simp [Fo.len])
        obtain ⟨e0, e1, ⟨a', cap', e2, hsl'⟩, _⟩ := hf0.first
        have hkid := kids_one hall
        have hV1 := (node_parts hkid).1
        have hV2 : V ≤ 12 := by have := HV.out; omega
        rw [HVV.out] at hkid
        have hwr : IntKind.i64.wrap (V - 1) = V - 1 := IntWalk.i64_in _ (by omega)
        have hl1 : (Fo.cons k' n' ks .nil).len = 1 := rfl
        rw [hl1] at c2
        have hkk := heap_old (W.alloc (.cells #[.func (.yield l) #[] #[]] 105)) (.cells #[.int .i64 k', .int .i64 n', .slice a' ks.len cap'] 38) (lt_of_block b2)
        have cK' := cell_at (hkk.trans b2) 0
        have hkv := heap_old (W.alloc (.cells #[.func (.yield l) #[] #[]] 105)) (.cells #[.int .i64 k', .int .i64 n', .slice a' ks.len cap'] 38) (lt_of_block b3)
        have cc' := cell_at (hkv.trans b3) 0
        simp at cK' cc'
        clear hkk hkv
        refine callsIn_of_wp_marks Try.func68 rfl trivial ?_ rfl
        simp only [Try.ntmps68, List.size_toArray, List.length_cons, List.length_nil, Nat.reduceAdd, Nat.reduceSub, Array.replicate_succ, Array.replicate_zero, List.push_toArray, List.append_toArray, List.nil_append, List.cons_append]
        gi_wp2
        refine wpIn_loop_rounds 2 ?_
        simp only [roundsIn_succ]
        obtain ⟨W3, h3⟩ : ∃ W3, ((((W.alloc (.cells #[.func (.yield l) #[] #[]] 105)).alloc (.cells #[.int .i64 k', .int .i64 n', .slice a' ks.len cap'] 38)).alloc (.cells #[.int .i64 k', .int .i64 n', .slice a' ks.len cap'] 38)).alloc (.cells #[.int .i64 K] 3)).alloc (.cells #[.int .i64 (V - 1)] 3) = W3 := ⟨_, rfl⟩
        obtain ⟨r1, r2, r3, r4, r5, r6⟩ := kid_ready hat1 hD hInv (by simp) (Turn.refl O _) h1 hsl' (heap_new W (.cells #[.func (.yield l) #[] #[]] 105)) hYO _ (V - 1) h3
        have H3 := Lib.hid h3
        clear h3
        gi_wp2_with (refine ⟨trivial, hdd _, ?_⟩; gi_at_call 50; refine (numbers_in _ k' n' K (V - 1) (by omega) (by omega) a' ks.len cap' _).mono ?_; rintro e w' ⟨rfl, rfl⟩)
        rw [H3.out]
        rw [World.size_alloc] at r1 r2
        refine loop_tells (gf := 68) (lb := #[.pointer (some ⟨W.heap.size + 1 + 1, 0, none⟩), .pointer (some ⟨W.heap.size + 1 + 1 + 1, 0, none⟩), .pointer (some ⟨W.heap.size + 1 + 1 + 1 + 1, 0, none⟩)]) rfl (enters_of Try.func68 (by kernel_rfl) rfl) rfl (xs := num1 K k' n' ks) (D := NumD (W.heap.size + 1 + 1) B) (O := O) r1
          (fun o1 o2 => ih (by omega) k' n' ks a' cap' (W.heap.size + 1 + 1) B _ hkid (by rw [HVV.out] at r2; exact r2 o1 o2)) (fun O' z X => J O' ([] ++ z) X ∧ Turn O W3 O' X) r3 ⟨r4, Turn.refl _ _⟩ ?round ?done
        case round =>
          rintro l2 m2 P pre x X ⟨hJ2, t2⟩ hpre
          have hdd2 : ∀ k : Nat, ((Fence.wide.inRound l2).depth.isSome = true → 1 ≤ k) := fun k h => by cases h
          gi_wp2
          refine ⟨trivial, ?_⟩
          rintro Wb ⟨hJb, tb⟩
          have cY := cell_at (r6 P Wb tb) 0
          simp at cY
          obtain ⟨fn, tmps, assign, body, hy, hRd⟩ := hR (m2 - 1) P ([] ++ pre) x Wb hJb hpre
          gi_wp2
          refine ⟨hdd2 _, ?_⟩
          refine RoundIn.mono hRd ?_
          rintro e X2 ⟨rfl, O2, hJ3, t3⟩
          gi_wp2
          exact ⟨O2, ⟨hJ3, tb.trans t3⟩, t3⟩
        case done =>
          rintro d O' X hd ⟨hJd, td⟩ hkd hnd td'
          gi_wp2
          simp only [roundsIn_succ]
          gi_wp2
          refine ⟨by simp, .inl ⟨_, _, rfl, run_takeDeferred hkd, ?_⟩⟩
          have hz3 := r5.2.2.2.1
          rw [World.size_alloc] at hz3
          exact ⟨_, results_none rfl _ _ _, ⟨_, rfl⟩, O', hInv.put _ hJd (by omega) hkd rfl, ((ht0.trans r5).trans td).put (by omega) _⟩
      | .cons k' n' ks (.cons k2 n2 ks2 .nil), _ =>
        have hn1 : numF K (.cons k' n' ks (.cons k2 n2 ks2 .nil)) = num1 K k' n' ks ++ num1 K k2 n2 ks2 := by
          show (if k' = K then [n'] else numF K ks) ++ ((if k2 = K then [n2] else numF K ks2) ++ []) = _
          rw [List.append_nil]; rfl
        rw [hnum, hn1] at hR ⊢
        obtain ⟨b, o, rfl, hbB, hf0⟩ := hsl.some (by simp [Fo.len])
        obtain ⟨e0, e1, ⟨a', cap', e2, hsl'⟩, _⟩ := hf0.first
        obtain ⟨hkid, hkid2⟩ := kids_pair hall
        have hV1 := (node_parts hkid).1
        have hV2 : V ≤ 12 := by have := HV.out; omega
        rw [HVV.out] at hkid hkid2
        have hwr : IntKind.i64.wrap (V - 1) = V - 1 := IntWalk.i64_in _ (by omega)
        have hl1 : (Fo.cons k' n' ks (.cons k2 n2 ks2 .nil)).len = 2 := rfl
        rw [hl1] at c2
        have hkk := heap_old (W.alloc (.cells #[.func (.yield l) #[] #[]] 105)) (.cells #[.int .i64 k', .int .i64 n', .slice a' ks.len cap'] 38) (lt_of_block b2)
        have cK' := cell_at (hkk.trans b2) 0
        have hkv := heap_old (W.alloc (.cells #[.func (.yield l) #[] #[]] 105)) (.cells #[.int .i64 k', .int .i64 n', .slice a' ks.len cap'] 38) (lt_of_block b3)
        have cc' := cell_at (hkv.trans b3) 0
        simp at cK' cc'
        clear hkk hkv
        refine callsIn_of_wp_marks Try.func68 rfl trivial ?_ rfl
        simp only [Try.ntmps68, List.size_toArray, List.length_cons, List.length_nil, Nat.reduceAdd, Nat.reduceSub, Array.replicate_succ, Array.replicate_zero, List.push_toArray, List.append_toArray, List.nil_append, List.cons_append]
        gi_wp2
        refine wpIn_loop_rounds 3 ?_
        simp only [roundsIn_succ]
        obtain ⟨W3, h3⟩ : ∃ W3, ((((W.alloc (.cells #[.func (.yield l) #[] #[]] 105)).alloc (.cells #[.int .i64 k', .int .i64 n', .slice a' ks.len cap'] 38)).alloc (.cells #[.int .i64 k', .int .i64 n', .slice a' ks.len cap'] 38)).alloc (.cells #[.int .i64 K] 3)).alloc (.cells #[.int .i64 (V - 1)] 3) = W3 := ⟨_, rfl⟩
        obtain ⟨r1, r2, r3, r4, r5, r6⟩ := kid_ready hat1 hD hInv (by simp) (Turn.refl O _) h1 hsl' (heap_new W (.cells #[.func (.yield l) #[] #[]] 105)) hYO _ (V - 1) h3
        have H3 := Lib.hid h3
        clear h3
        gi_wp2_with (refine ⟨trivial, hdd _, ?_⟩; gi_at_call 50; refine (numbers_in _ k' n' K (V - 1) (by omega) (by omega) a' ks.len cap' _).mono ?_; rintro e w' ⟨rfl, rfl⟩)
        rw [H3.out]
        rw [World.size_alloc] at r1 r2
        refine loop_tells (gf := 68) (lb := #[.pointer (some ⟨W.heap.size + 1 + 1, 0, none⟩), .pointer (some ⟨W.heap.size + 1 + 1 + 1, 0, none⟩), .pointer (some ⟨W.heap.size + 1 + 1 + 1 + 1, 0, none⟩)]) rfl (enters_of Try.func68 (by kernel_rfl) rfl) rfl (xs := num1 K k' n' ks) (D := NumD (W.heap.size + 1 + 1) B) (O := O) r1
          (fun o1 o2 => ih (by omega) k' n' ks a' cap' (W.heap.size + 1 + 1) B _ hkid (by rw [HVV.out] at r2; exact r2 o1 o2)) (fun O' z X => J O' ([] ++ z) X ∧ Turn O W3 O' X) r3 ⟨r4, Turn.refl _ _⟩ ?round ?done
        case round =>
          rintro l2 m2 P pre x X ⟨hJ2, t2⟩ hpre
          have hdd2 : ∀ k : Nat, ((Fence.wide.inRound l2).depth.isSome = true → 1 ≤ k) := fun k h => by cases h
          gi_wp2
          refine ⟨trivial, ?_⟩
          rintro Wb ⟨hJb, tb⟩
          have cY := cell_at (r6 P Wb tb) 0
          simp at cY
          obtain ⟨fn, tmps, assign, body, hy, hRd⟩ := hR (m2 - 1) P ([] ++ pre) x Wb hJb (hpre.trans (List.prefix_append _ _))
          gi_wp2
          refine ⟨hdd2 _, ?_⟩
          refine RoundIn.mono hRd ?_
          rintro e X2 ⟨rfl, O2, hJ3, t3⟩
          gi_wp2
          exact ⟨O2, ⟨hJ3, tb.trans t3⟩, t3⟩
        case done =>
          rintro d O' X hd ⟨hJd, td⟩ hkd hnd td'
          have tX : Turn O (W.alloc (.cells #[.func (.yield l) #[] #[]] 105)) O' X := r5.trans td
          obtain ⟨u1, u2, u3, usl, _⟩ := hat1.turn hD tX
          obtain ⟨g0, g1, ⟨a2, cap2, g2, hsl2⟩, _⟩ := usl.foIn.first.2.2.2.first
          have hz3 := r5.2.2.2.1
          rw [World.size_alloc] at hz3
          have hmk := heap_old X (.cells #[.int .i64 k2, .int .i64 n2, .slice a2 ks2.len cap2] 38) (lt_of_block u2)
          have vK' := cell_at (hmk.trans u2) 0
          have hmv := heap_old X (.cells #[.int .i64 k2, .int .i64 n2, .slice a2 ks2.len cap2] 38) (lt_of_block u3)
          have vc' := cell_at (hmv.trans u3) 0
          simp at vK' vc'
          obtain ⟨W5, h5⟩ : ∃ W5, (((X.alloc (.cells #[.int .i64 k2, .int .i64 n2, .slice a2 ks2.len cap2] 38)).alloc (.cells #[.int .i64 k2, .int .i64 n2, .slice a2 ks2.len cap2] 38)).alloc (.cells #[.int .i64 K] 3)).alloc (.cells #[.int .i64 (V - 1)] 3) = W5 := ⟨_, rfl⟩
          obtain ⟨q1, q2, q3, q4, q5, q6⟩ := kid_ready hat1 hD hInv (by simp) tX hJd hsl2 (heap_new W (.cells #[.func (.yield l) #[] #[]] 105)) hYO (.cells #[.int .i64 k2, .int .i64 n2, .slice a2 ks2.len cap2] 38) (V - 1) h5
          have hdX : d < X.heap.size := (Array.getElem?_eq_some_iff.1 hkd).1
          have hd5 : W5.heap[d]? = some (.deferred (some [])) ∧ X.heap.size < W5.heap.size := by
            rw [← h5]
            exact ⟨(heap_old _ _ (by simp; omega)).trans ((heap_old _ _ (by simp; omega)).trans ((heap_old _ _ (by simp; omega)).trans ((heap_old _ _ hdX).trans hkd))), by simp; omega⟩
          have H5 := Lib.hid h5
          have HD5 := Lib.hid hd5
          clear h5 hmk hmv hd5
          gi_wp2
          simp only [roundsIn_succ]
          gi_wp2_with (refine ⟨trivial, hdd _, ?_⟩; gi_at_call 50; refine (numbers_in _ k2 n2 K (V - 1) (by omega) (by omega) a2 ks2.len cap2 _).mono ?_; rintro e w' ⟨rfl, rfl⟩)
          rw [H5.out]
          refine loop_tells (gf := 68) (lb := #[.pointer (some ⟨X.heap.size + 1, 0, none⟩), .pointer (some ⟨X.heap.size + 1 + 1, 0, none⟩), .pointer (some ⟨X.heap.size + 1 + 1 + 1, 0, none⟩)]) rfl (enters_of Try.func68 (by kernel_rfl) rfl) rfl (xs := num1 K k2 n2 ks2) (D := NumD (X.heap.size + 1) B) (O := O') q1
            (fun o1 o2 => ih (by omega) k2 n2 ks2 a2 cap2 (X.heap.size + 1) B _ hkid2 (by rw [HVV.out] at q2; exact q2 o1 o2)) (fun O2 z X2 => J O2 (([] ++ num1 K k' n' ks) ++ z) X2 ∧ Turn O' W5 O2 X2) q3 ⟨q4, Turn.refl _ _⟩ ?round2 ?done2
          case round2 =>
            rintro l2 m2 P pre x X3 ⟨hJ2, t2⟩ hpre
            have hdd2 : ∀ k : Nat, ((Fence.wide.inRound l2).depth.isSome = true → 1 ≤ k) := fun k h => by cases h
            gi_wp2
            refine ⟨trivial, ?_⟩
            rintro Wb ⟨hJb, tb⟩
            have cY := cell_at (q6 P Wb tb) 0
            simp at cY
            obtain ⟨fn, tmps, assign, body, hy, hRd⟩ := hR (m2 - 1) P (([] ++ num1 K k' n' ks) ++ pre) x Wb hJb (by obtain ⟨t, ht⟩ := hpre; exact ⟨t, by simp [← ht]⟩)
            gi_wp2
            refine ⟨hdd2 _, ?_⟩
            refine RoundIn.mono hRd ?_
            rintro e X4 ⟨rfl, O2, hJ3, t3⟩
            gi_wp2
            exact ⟨O2, ⟨by rw [List.append_assoc] at hJ3; exact hJ3, tb.trans t3⟩, t3⟩
          case done2 =>
            rintro d2 O2 X2 hd2 ⟨hJ2, t2⟩ hk2 hn2 t2'
            have hd12 : d ≠ d2 := by have := HD5.out.2; omega
            have hkd2 : (X2.putObj d2 (.deferred none)).heap[d]? = some (.deferred (some [])) := (World.putObj_heap_other hd12).trans ((t2.2.2.2.2.1 d (by have := HD5.out.2; omega) hnd).trans HD5.out.1)
            gi_wp2
            simp only [roundsIn_succ]
            gi_wp2
            refine ⟨by simp, .inl ⟨_, _, rfl, run_takeDeferred hk2, ?_⟩⟩
            refine ⟨by simp, .inl ⟨_, _, rfl, run_takeDeferred hkd2, ?_⟩⟩
            have hW5 := HD5.out.2
            exact ⟨_, results_none rfl _ _ _, ⟨_, rfl⟩, O2, hInv.put _ (hInv.put _ hJ2 (by omega) hk2 rfl) (by omega) hkd2 rfl, (((ht0.trans q5).trans t2).put (by omega) _).put (by omega) _⟩
      | .cons k' n' ks (.cons k2 n2 ks2 (.cons k3 n3 ks3 r)), hfl3 =>
        have h9 := hfl3.out
        have h8 := kidsOf_two k
        simp only [Fo.len] at h9
        omega
end Go.Proofs.Ytcnhfoppfihhiaa
/- The contract of the program's once, of the iterator over the numbers of a level: each number once, in order. Condition: there are at most 900 numbers. -/
namespace Go.Proofs.Ytcnhfoppfihhiaa
open Go.RowKit Go.Shelf
attribute [local go_sem] Oper.semAt_some

theorem onceL_snoc (s : List Int) (x : Int) (zs : List Int) : onceL (s ++ [x]) zs = ins x (onceL s zs) := by rw [onceL_app]; rfl
theorem onceL_len : ∀ (s zs : List Int), (onceL s zs).length ≤ zs.length + s.length
  | [], _ => Nat.le_refl _
  | x :: s, zs => by
    have h1 := onceL_len s (ins x zs)
    have h2 := ins_len x zs
    show (onceL s (ins x zs)).length ≤ _
    simp only [List.length_cons]
    omega
theorem IOwn.cells {w : World} {base : Nat} {v : Value} {zs : List Int} (h : IOwn w base v zs) {g : Nat} (hg : v.ownBlock = some g) : ∃ cur, w.heap[g]? = some (.cells cur 3 (0, 0)) := by
  rcases h.2 with ⟨rfl, _⟩ | ⟨g', cap, cur, rfl, _, hh, _⟩
  · cases hg
  · injection hg with hg
    subst hg
    exact ⟨cur, hh⟩
/-- The loop's own blocks: the map, the variable of the row, the row. -/
def OnO (S : Nat) (v : Value) (b : Nat) : Prop := b = S ∨ b = S + 1 + 1 ∨ OwnB v b
/-- What stands in memory between two rounds. -/
def OnI (w : World) (O : Nat → Prop) (s : List Int) (W : World) : Prop := ∃ (x : Option Addr) (c : Nat), O = OnO w.heap.size (.slice x (onceL s []).length c) ∧
  W.heap[w.heap.size]? = some (sTab (onceL s [])) ∧ W.heap[w.heap.size + 1]? = some (.cells #[.map (some w.heap.size)] 57 (0, 0)) ∧ W.heap[w.heap.size + 1 + 1]? = some (.cells #[.slice x (onceL s []).length c] 45 (0, 0)) ∧
  IOwn W (w.heap.size + 1 + 1 + 1) (.slice x (onceL s []).length c) (onceL s []) ∧ Below w.heap.size w W
theorem OnI.inv (w : World) : Inv (w.heap.size + 1 + 1 + 1) (OnI w) := by
  refine ⟨fun O s A A' row hs hg hr => ?_, fun O s A hs b hb => ?_⟩
  · obtain ⟨x, c, hO, h1, h2, h3, h4, h5⟩ := hs
    have keep : ∀ b o, b < w.heap.size + 1 + 1 + 1 → A.heap[b]? = some o → A'.heap[b]? = some o := fun b o hb ho => (hg.block b (Array.getElem?_eq_some_iff.1 ho).1 (fun e => by have := (hr b e.symm).1; omega)).trans ho
    refine ⟨x, c, hO, keep _ _ (by omega) h1, keep _ _ (by omega) h2, keep _ _ (by omega) h3, h4.keep (fun g hgo => ?_), h5.grown hg h5.size (fun k e => by have := (hr k e).1; omega)⟩
    obtain ⟨cur, hcur⟩ := h4.cells hgo
    refine hg.block g (lt_of_block hcur) (fun e => ?_)
    obtain ⟨o, ho, hn⟩ := (hr g e.symm).2
    rw [hcur] at ho
    cases ho
    cases hn
  · obtain ⟨x, c, hO, h1, h2, h3, h4, h5⟩ := hs
    rw [hO] at hb
    have l1 := (Array.getElem?_eq_some_iff.1 h1).1
    have l3 := lt_of_block h3
    rcases hb with rfl | rfl | hb
    · exact l1
    · exact l3
    · exact (h4.lt b hb).2
/-- A number that was there: nothing more happens. -/
theorem OnI.same {w : World} {O : Nat → Prop} {s : List Int} {W : World} {x : Int} (h : OnI w O s W) (hx : x ∈ onceL s []) : OnI w O (s ++ [x]) W := by
  obtain ⟨y, c, h0⟩ := h
  have e : onceL (s ++ [x]) [] = onceL s [] := by rw [onceL_snoc]; unfold ins; rw [if_pos hx]
  refine ⟨y, c, ?_⟩
  rw [e]
  exact h0
/-- A number that was not there: it is laid into the map, and put behind the row. -/
theorem OnI.more {w : World} {O : Nat → Prop} {s : List Int} {W : World} {x : Int} (h : OnI w O s W) (hx : x ∉ onceL s []) (hs : s.length ≤ 900) (o : Obj) :
    ∃ (y : Option Addr) (c g' cap' : Nat) (w3 : World), W.cell? ⟨w.heap.size + 1 + 1, 0, none⟩ = some (.slice y (onceL s []).length c) ∧ (putM (W.alloc o) w.heap.size (sTab (onceL s [] ++ [x]))).cell? ⟨w.heap.size + 1 + 1, 0, none⟩ = some (.slice y (onceL s []).length c) ∧
      Hid ((Instr.mapUpdate 57 (.map (some w.heap.size)) (.int .i64 x) (.agg #[])).run Try.prog (W.alloc o) = .ok () (putM (W.alloc o) w.heap.size (sTab (onceL s [] ++ [x])))) ∧
      Hid ((Builtin.append_ #[45, 45] 45 #[.slice y (onceL s []).length c, .slice (some ⟨W.heap.size + 1, 0, none⟩) 1 1]).run Try.prog ((putM (W.alloc o) w.heap.size (sTab (onceL s [] ++ [x]))).alloc (.cells #[.int .i64 x] 3)) = .ok (.slice (some ⟨g', 0, none⟩) ((onceL s []).length + 1) cap') w3) ∧
      w3.cell? ⟨w.heap.size + 1 + 1, 0, none⟩ = some (.slice y (onceL s []).length c) ∧ w3.frozen? ⟨w.heap.size + 1 + 1, 0, none⟩ = false ∧
      Hid (∃ O', OnI w O' (s ++ [x]) (w3.setCell ⟨w.heap.size + 1 + 1, 0, none⟩ (.slice (some ⟨g', 0, none⟩) ((onceL s []).length + 1) cap')) ∧ Turn O W O' (w3.setCell ⟨w.heap.size + 1 + 1, 0, none⟩ (.slice (some ⟨g', 0, none⟩) ((onceL s []).length + 1) cap'))) := by
  obtain ⟨y, c, hO, h1, h2, h3, h4, h5⟩ := h
  have e : onceL (s ++ [x]) [] = onceL s [] ++ [x] := by rw [onceL_snoc]; unfold ins; rw [if_neg hx]
  have hll := onceL_len s []
  generalize onceL s [] = zs at *
  have l3 := lt_of_block h3
  have hown := h4.lt
  have q1 : (W.alloc o).heap[w.heap.size]? = some (sTab zs) := (heap_old _ _ (by omega)).trans h1
  have hup := run_updI (W.alloc o) w.heap.size zs q1 x hx
  have p0 := putM_at (o' := sTab (zs ++ [x])) q1
  have pne : ∀ b, b < W.heap.size → b ≠ w.heap.size → (putM (W.alloc o) w.heap.size (sTab (zs ++ [x]))).heap[b]? = W.heap[b]? := fun b hb hn => (putM_ne _ _ hn).trans (heap_old _ _ hb)
  have zp : (putM (W.alloc o) w.heap.size (sTab (zs ++ [x]))).heap.size = W.heap.size + 1 := by simp
  have op : (putM (W.alloc o) w.heap.size (sTab (zs ++ [x]))).os = W.os ∧ (putM (W.alloc o) w.heap.size (sTab (zs ++ [x]))).tape = W.tape ∧ (putM (W.alloc o) w.heap.size (sTab (zs ++ [x]))).output = W.output := ⟨rfl, rfl, rfl⟩
  generalize putM (W.alloc o) w.heap.size (sTab (zs ++ [x])) = V at *
  have p4 : IOwn V (w.heap.size + 1 + 1 + 1) (.slice y zs.length c) zs := h4.keep (fun g hg => pne g (hown g hg).2 (by have := (hown g hg).1; omega))
  obtain ⟨g', cap', w3, hrun, i3, t3⟩ := p4.push 45 x (by simp at hll; omega) (by omega)
  rw [zp] at hrun
  have hno : ∀ b, b < w.heap.size + 1 + 1 + 1 → ¬ OwnB (.slice y zs.length c) b := fun b hb h => by have := (hown b h).1; omega
  have k0 := (t3.2.2.2.2.1 w.heap.size (by omega) (hno _ (by omega))).trans p0
  have k1 := (t3.2.2.2.2.1 (w.heap.size + 1) (by omega) (hno _ (by omega))).trans ((pne _ (by omega) (by omega)).trans h2)
  have k2 := (t3.2.2.2.2.1 (w.heap.size + 1 + 1) (by omega) (hno _ (by omega))).trans ((pne _ (by omega) (by omega)).trans h3)
  have z3 := t3.2.2.2.1
  have hg' := i3.lt g' rfl
  refine ⟨y, c, g', cap', w3, cell_at h3 0, cell_at ((pne _ (by omega) (by omega)).trans h3) 0, Lib.hid hup, Lib.hid hrun, cell_at k2 0, free_of k2 0, Lib.hid ⟨OnO w.heap.size (.slice (some ⟨g', 0, none⟩) (zs.length + 1) cap'), ⟨some ⟨g', 0, none⟩, cap', ?_⟩, ?_⟩⟩
  · rw [e]
    have el : (zs ++ [x]).length = zs.length + 1 := by simp
    rw [el]
    refine ⟨rfl, (Below.heap_setCell _ _ _ _ (show w.heap.size ≠ w.heap.size + 1 + 1 by omega)).trans k0, (Below.heap_setCell _ _ _ _ (show w.heap.size + 1 ≠ w.heap.size + 1 + 1 by omega)).trans k1, heap_setCell_same w3 _ 0 _ _ _ k2, i3.keep (fun g hg => ?_), ?_⟩
    · exact Below.heap_setCell _ _ _ _ (show g ≠ w.heap.size + 1 + 1 by have := (i3.lt g hg).1; omega)
    · have b3 : Below w.heap.size w w3 := by
        refine ⟨t3.1.trans (op.1.trans h5.os), t3.2.1.trans (op.2.1.trans h5.tape), t3.2.2.1.trans (op.2.2.trans h5.output), by have := h5.size; omega, fun b hb => ?_⟩
        exact (t3.2.2.2.2.1 b (by have := h5.size; omega) (hno _ (by omega))).trans ((pne b (by have := h5.size; omega) (by omega)).trans (h5.block b hb))
      exact b3.setCell (show w.heap.size ≤ w.heap.size + 1 + 1 by omega) _
  · rw [hO]
    refine ⟨t3.1.trans op.1, t3.2.1.trans op.2.1, t3.2.2.1.trans op.2.2, by simp; omega, fun b hb hn => ?_, fun b hb => ?_⟩
    · have n1 : b ≠ w.heap.size := fun h => hn (.inl h)
      have n2 : b ≠ w.heap.size + 1 + 1 := fun h => hn (.inr (.inl h))
      have n3 : ¬ OwnB (.slice y zs.length c) b := fun h => hn (.inr (.inr h))
      exact (Below.heap_setCell _ _ _ _ n2).trans ((t3.2.2.2.2.1 b (by omega) n3).trans (pne b hb n1))
    · rcases hb with hb | hb | hb
      · exact .inl (.inl hb)
      · exact .inl (.inr (.inl hb))
      · rcases t3.2.2.2.2.2 b hb with h | h
        · exact .inl (.inr (.inr h))
        · exact .inr (by omega)
/-- What once answers. -/
def OnPost (xs : List Int) (w : World) (e : Ending) (w' : World) : Prop := ∃ x c, e = .returned (.slice x (onceL xs []).length c) ∧ IOwn w' w.heap.size (.slice x (onceL xs []).length c) (onceL xs []) ∧ Below w.heap.size w w'

set_option maxRecDepth 100000 in
set_option maxHeartbeats 4000000 in
theorem once_in (n' : Nat) (lb : Array Value) (xs : List Int) (D : Nat → Prop) (w : World) (hD : ∀ b, D b → b < w.heap.size) (hT : ∀ W', Below w.heap.size w W' → Tells D 68 lb xs W') (hlen : xs.length ≤ 900) :
    CallsIn Fence.wide n' Try.prog 49 #[.func (.func 68) #[] lb] w (OnPost xs w) := by
  have hb0 : Below w.heap.size w (((w.alloc (.map #[] 0)).alloc (.cells #[.map (some w.heap.size)] 57)).alloc (.cells #[.slice none 0 0] 45)) := (((Below.refl _ _).alloc (Nat.le_refl _) _).alloc (by simp) _).alloc (by simp; omega) _
  have hI0 : OnI w (OnO w.heap.size (.slice none 0 0)) [] (((w.alloc (.map #[] 0)).alloc (.cells #[.map (some w.heap.size)] 57)).alloc (.cells #[.slice none 0 0] 45)) := by
    refine ⟨none, 0, rfl, (heap_old _ _ (by simp; omega)).trans ((heap_old _ _ (by simp)).trans (heap_new _ _)), (heap_old _ _ (by simp)).trans (heap_second _ _ _), ?_, IOwn.nil _ _, hb0⟩
    have := heap_new ((w.alloc (.map #[] 0)).alloc (.cells #[.map (some w.heap.size)] 57)) (.cells #[.slice none 0 0] 45)
    exact by have h2 : onceL [] [] = [] := rfl; rw [h2]; simpa using this
  have HI0 := Lib.hid hI0
  have HB0 := Lib.hid hb0
  clear hI0 hb0
  have hmm := @run_makeMap Try.prog
  refine callsIn_of_wp_marks Try.func49 rfl trivial ?_ rfl
  simp only [Try.ntmps49, List.size_toArray, List.length_cons, List.length_nil, Nat.reduceAdd, Nat.reduceSub, Array.replicate_succ, Array.replicate_zero, List.push_toArray, List.append_toArray, List.nil_append, List.cons_append]
  gi_wp2
  clear hmm
  refine loop_tells (gf := 68) (lb := lb) rfl (enters_of Try.func68 (by kernel_rfl) rfl) rfl (xs := xs) (D := D) (O := OnO w.heap.size (.slice none 0 0)) (fun b hb h => ?_) (fun o1 o2 => hT _ ((HB0.out.alloc HB0.out.size _).alloc (by have := HB0.out.size; simp at this ⊢; omega) _)) (OnI w) (by have := OnI.inv w; simpa using this) HI0.out ?round ?done
  · have h1 := hD b hb
    rcases h with rfl | rfl | h
    · omega
    · omega
    · cases h
  case round =>
    rintro l2 m2 P pre x X hI hpre
    gi_wp2
    refine ⟨trivial, ?_⟩
    intro Wb hIb
    have hpl : pre.length ≤ 900 := by have := hpre.length_le; simp at this; omega
    have cT := cell_at hIb.choose_spec.choose_spec.2.2.1 0
    have hM := hIb.choose_spec.choose_spec.2.1
    simp at cT
    have cT2 := (World.cell?_of_block (w := Wb) (a := ⟨w.heap.size + 1, 0, none⟩) (heap_old Wb (.cells #[] 85) (lt_of_block hIb.choose_spec.choose_spec.2.2.1))).trans cT
    have l1 := run_lookI Wb w.heap.size (onceL pre []) hM x
    clear hM
    by_cases hx : x ∈ onceL pre []
    · have dx : decide (x ∈ onceL pre []) = true := decide_eq_true hx
      rw [dx] at l1
      have HS := Lib.hid (OnI.same hIb hx)
      have hOa := (OnI.inv w).alloc (.cells #[] 85) HS.out
      have HOA := Lib.hid hOa
      clear dx hx hOa
      gi_wp2
      exact ⟨P, HOA.out, Turn.alloc _ _ _⟩
    · have dx : decide (x ∈ onceL pre []) = false := decide_eq_false hx
      rw [dx] at l1
      obtain ⟨y, c, g', cap', w3, c1, c2, hup, HRUN, c3, f3, HN⟩ := hIb.more hx hpl (.cells #[] 85)
      have l2 := hup.out
      clear dx hx hIb hup
      gi_wp2_with (gi_at_builtin; refine wpListIn_append_run (by rfl) _ _ _ (by rfl) (by rfl) (by rfl) HRUN.out ?_)
      exact HN.out
  case done =>
    rintro d O' X hd hI hk hnd ht
    have hI2 := (OnI.inv w).put (.deferred none) hI (by simp at hd; omega) hk rfl
    obtain ⟨x, c, hO, h1, h2, h3, h4, h5⟩ := hI
    obtain ⟨x', c', _, _, _, h3', h4', h5'⟩ := hI2
    have c3 := cell_at h3 0
    simp at c3
    have hne : d ≠ w.heap.size + 1 + 1 := fun e => by rw [e, h3] at hk; cases hk
    have h33 := (World.putObj_heap_other (w := X) (r := d) (o := .deferred none) (Ne.symm hne)).trans h3
    rw [h33] at h3'
    have hxx : x = x' ∧ c = c' := by injection h3' with h3'; injection h3' with h3'; injection h3' with h3'; injection h3' with h3' _; injection h3' with e1 _ e3; exact ⟨e1, e3⟩
    obtain ⟨rfl, rfl⟩ := hxx
    have HF : Hid (OnPost xs w (.returned (.slice x (onceL xs []).length c)) (X.putObj d (.deferred none))) := Lib.hid ⟨x, c, rfl, h4'.low (by omega), h5'⟩
    clear h1 h2 h3 h4 h5 h3' h4' h5' h33
    gi_wp2
    refine ⟨by simp, .inl ⟨_, _, rfl, run_takeDeferred hk, ?_⟩⟩
    refine ⟨_, results_tmp rfl _ _ _, ?_⟩
    exact HF.out
end Go.Proofs.Ytcnhfoppfihhiaa
/- The contract of the program's own Metas of a level: the numbers of the unknowns, from left to right, each once. Condition: the level is right. -/
namespace Go.Proofs.Ytcnhfoppfihhiaa
open Go.RowKit Go.Shelf

theorem numF_len (K : Int) : ∀ f : Fo, (numF K f).length ≤ f.size
  | .nil => Nat.le_refl _
  | .cons k n ks r => by
    have h1 := numF_len K ks
    have h2 := numF_len K r
    show ((if k = K then [n] else numF K ks) ++ numF K r).length ≤ ks.size + r.size + 1
    rw [List.length_append]
    split
    · simp; omega
    · omega
theorem num1_len (K k n : Int) (f : Fo) : (num1 K k n f).length ≤ f.size + 1 := by
  unfold num1
  split
  · simp
  · have := numF_len K f; omega
theorem right_12 {k n : Int} {f : Fo} (h : rightB 5 10 k n f = true) : rNode 5 10 k n f.len 12 (rAll 5 10 f (12 - 1)) = true := by
  unfold rightB at h
  simp only [Bool.and_eq_true, decide_eq_true_eq] at h
  exact h.2.2

/-- The numbers of a right level, by the iterator and once: what its two calls come to. -/
theorem nums_two (K k n : Int) (f : Fo) (a : Option Addr) (cap B : Nat) (w : World) (hr : rightB 5 10 k n f = true) (hsl : SlIn w (· < B) f a cap) (hB : B ≤ w.heap.size) (o : Obj) :
    ∃ W3 lb, Calls Try.prog 50 #[.agg #[.int .i64 k, .int .i64 n, .slice a f.len cap], .int .i64 K, .int .i64 12] (w.alloc o) (fun e w' => e = .returned (.func (.func 68) #[] lb) ∧ w' = W3) ∧
      Calls Try.prog 49 #[.func (.func 68) #[] lb] W3 (NuPost (nm1 K k n f []) W3) ∧ Below w.heap.size w W3 := by
  have hb1 : Below w.heap.size w (w.alloc o) := (Below.refl _ _).alloc (Nat.le_refl _) _
  have hst := NumAt.start (w.alloc o) B K 12 k n f a cap (hsl.below (hb1.mono hB)) (Nat.le_trans hB hb1.size)
  have hb3 : Below (w.alloc o).heap.size (w.alloc o) ((((w.alloc o).alloc (.cells #[.int .i64 k, .int .i64 n, .slice a f.len cap] 38)).alloc (.cells #[.int .i64 K] 3)).alloc (.cells #[.int .i64 12] 3)) := (((Below.refl _ _).alloc (Nat.le_refl _) _).alloc (by simp) _).alloc (by simp) _
  have hp := right_parts hr
  refine ⟨_, _, callsIn_wide.1 (numbers_in 0 k n K 12 (by omega) (by omega) a f.len cap (w.alloc o)), (callsIn_wide (n := 0)).1 ?_, hb1.trans (hb3.mono hb1.size)⟩
  have hz := hb3.size
  refine (once_in 0 _ (num1 K k n f) (NumD (w.alloc o).heap.size B) _ (fun b hb => ?_) (fun W' hW' => numbers1_tells K 12 (Nat.le_refl _) k n f a cap _ B W' (right_12 hr) (hst.turn (O := fun _ => False) (fun _ _ h => h) (Turn.below hW'))) (by have := num1_len K k n f; omega)).mono ?_
  · rcases hb with hb | hb
    · have := hb1.size; omega
    · simp at hb ⊢; omega
  · rintro e w' ⟨x, c, rfl, h1, h2⟩
    rw [nm1_once]
    exact ⟨x, c, rfl, h1, h2⟩

set_option maxHeartbeats 1000000 in
theorem sMetas_any (k n : Int) (f : Fo) (a : Option Addr) (cap B : Nat) (w : World) (hr : rightB 5 10 k n f = true) (hsl : SlIn w (· < B) f a cap) (hB : B ≤ w.heap.size) :
    Calls Try.prog 32 #[.agg #[.int .i64 k, .int .i64 n, .slice a f.len cap]] w (NuPost (nm1 6 k n f []) w) := by
  obtain ⟨W3, lb, h1, h2, h3⟩ := nums_two 6 k n f a cap B w hr hsl hB (.cells #[.int .i64 k, .int .i64 n, .slice a f.len cap] 38)
  have H1 := Lib.hid h1
  have H2 := Lib.hid h2
  clear h1 h2
  go_enter Try.func32, Try.ntmps32
  go_wp2_with fail
  refine H1.out.mono ?_
  rintro e w' ⟨rfl, rfl⟩
  go_wp2_with fail
  refine H2.out.mono ?_
  rintro e w2 ⟨x, c, rfl, q1, q2⟩
  have HE : Hid (NuPost (nm1 6 k n f []) w (.returned (.slice x (nm1 6 k n f []).length c)) w2) := Lib.hid ⟨x, c, rfl, q1.low h3.size, Below.step h3 q2 (Nat.le_refl _)⟩
  clear q1 q2
  go_wp2_with fail
  go_ret
  exact HE.out
end Go.Proofs.Ytcnhfoppfihhiaa
/- The contract of the program's own Metas of a term: the numbers of the unknowns in its levels, from left to right, each once. Conditions: the term lies in memory, and its shape is right. -/
namespace Go.Proofs.Ytcnhfoppfihhiaa
open Go.RowKit Go.Shelf
attribute [local go_sem] Oper.semAt_some

/-- The unknowns of a list of levels. -/
def numL (l : List (Int × Int × Fo)) : List Int := l.flatMap fun x => num1 6 x.1 x.2.1 x.2.2
theorem numL_fo : ∀ f : Fo, numL (foL f) = numF 6 f
  | .nil => rfl
  | .cons k n ks r => by
    show num1 6 k n ks ++ numL (foL r) = (if k = 6 then [n] else numF 6 ks) ++ numF 6 r
    rw [numL_fo r]; rfl
theorem numL_snoc (l : List (Int × Int × Fo)) (x : Int × Int × Fo) : numL (l ++ [x]) = numL l ++ num1 6 x.1 x.2.1 x.2.2 := by simp [numL]
theorem num_step (pre : List (Int × Int × Fo)) (k n : Int) (f : Fo) : onceL (numL (pre ++ [(k, n, f)])) [] = onceL (nm1 6 k n f []) (onceL (numL pre) []) := by
  rw [numL_snoc, onceL_app, nm1_once, once_idem]
theorem foL_right : ∀ {F : Fo} {x : Int × Int × Fo}, lvB 5 10 F = true → x ∈ foL F → rightB 5 10 x.1 x.2.1 x.2.2 = true
  | .nil, x, _, h => by cases h
  | .cons k n ks r, x, hl, h => by
    simp only [lvB, Bool.and_eq_true] at hl
    rcases List.mem_cons.1 h with rfl | h
    · exact hl.1
    · exact foL_right hl.2 h
theorem numL_len {F : Fo} {pre : List (Int × Int × Fo)} {x : Int × Int × Fo} (h : pre ++ [x] <+: foL F) : (onceL (numL pre) []).length ≤ F.size ∧ (nm1 6 x.1 x.2.1 x.2.2 []).length ≤ F.size := by
  obtain ⟨t, ht⟩ := h
  have h1 := numL_fo F
  rw [← ht] at h1
  have h2 := numF_len9 6 F
  rw [← h1] at h2
  have h3 : numL (pre ++ [x] ++ t) = numL pre ++ (num1 6 x.1 x.2.1 x.2.2 ++ numL t) := by simp [numL]
  rw [h3, List.length_append, List.length_append] at h2
  have h4 := once_len (numL pre) []
  have h5 := once_len (num1 6 x.1 x.2.1 x.2.2) []
  rw [nm1_once]
  simp at h4 h5
  omega

/-- What stands in memory between two rounds. -/
def MtI (w : World) (base FB MB : Nat) (O : Nat → Prop) (pre : List (Int × Int × Fo)) (W : World) : Prop :=
  ∃ x c, O = FdO FB MB (.slice x (onceL (numL pre) []).length c) ∧ FdAt W base FB MB x c (onceL (numL pre) []) ∧ Below w.heap.size w W
theorem MtI.inv {w : World} {base FB MB Bv : Nat} (hB : w.heap.size ≤ Bv) : InvV Bv (MtI w base FB MB) := by
  refine ⟨fun O s A A' row hs hg hr => ?_, fun O s A hs b hb => ?_⟩
  · obtain ⟨x, c, rfl, h1, h2⟩ := hs
    exact ⟨x, c, rfl, h1.keep (fun b hb => hg.block b (h1.lt b hb) (fun e => (hr b e.symm).2 hb)), h2.grown hg h2.size (fun r e => Nat.le_trans hB (hr r e).1)⟩
  · obtain ⟨x, c, rfl, h1, h2⟩ := hs
    exact h1.lt b hb
/-- One round: the level's unknowns are found, and added. -/
theorem MtI.step {w Wb w2 : World} {base FB MB : Nat} {O : Nat → Prop} {pre : List (Int × Int × Fo)} {k n : Int} {f F : Fo} {y : Option Addr} {d : Nat} (h : MtI w base FB MB O pre Wb) (hbase : base ≤ w.heap.size + 3) (hw : w.heap.size + 3 ≤ Wb.heap.size) (hFB : w.heap.size ≤ FB) (hMB : w.heap.size ≤ MB) (hpre : pre ++ [(k, n, f)] <+: foL F) (hF : F.size ≤ 400000)
    (h1 : IOwn w2 Wb.heap.size (.slice y (nm1 6 k n f []).length d) (nm1 6 k n f [])) (h2 : Below Wb.heap.size Wb w2) :
    ∃ P : Ending → World → Prop, Calls Try.prog 31 #[.pointer (some ⟨FB, 0, none⟩), .slice y (nm1 6 k n f []).length d] w2 P ∧ ∀ e w3, P e w3 → e = .returned (.tuple #[]) ∧ ∃ O', MtI w base FB MB O' (pre ++ [(k, n, f)]) w3 ∧ Turn O Wb O' w3 := by
  obtain ⟨x, c, rfl, hA, hW⟩ := h
  have hlen := numL_len hpre
  have hA2 : FdAt w2 base FB MB x c (onceL (numL pre) []) := hA.keep (fun b hb => h2.block b (hA.lt b hb))
  have hin : IntsIn w2 (fun b => b < w2.heap.size ∧ ¬ FdO FB MB (.slice x (onceL (numL pre) []).length c) b) (nm1 6 k n f []) y d := by
    obtain ⟨i1, i2, i3, i4⟩ := h1.ints
    refine ⟨i1, i2, i3, fun hx => ?_⟩
    obtain ⟨b, o, e, hb, hc⟩ := i4 hx
    refine ⟨b, o, e, ⟨hb, fun hO => ?_⟩, hc⟩
    have hlt := hA.lt b hO
    subst e
    rcases h1.2 with ⟨e, _⟩ | ⟨g, _, _, e, hg, _⟩
    · cases e
    · injection e with e _ _
      injection e with e
      injection e with e _ _
      omega
  refine ⟨_, qAdd_any (nm1 6 k n f []) y d base FB MB x c (onceL (numL pre) []) w2 hA2 hin (by have := h2.size; omega) (by simp only at hlen; omega), ?_⟩
  rintro e w3 ⟨rfl, x3, c3, hA3, hT3⟩
  rw [← num_step] at hA3 hT3
  refine ⟨rfl, _, ⟨x3, c3, rfl, hA3, ?_⟩, (Turn.below h2).trans hT3⟩
  have hT := (Turn.below (O := FdO FB MB (.slice x (onceL (numL pre) []).length c)) h2).trans hT3
  refine hW.trans (hT.low hW.size (fun b hb => ?_))
  rcases hb with rfl | rfl | hb
  · exact hFB
  · exact hMB
  · have := (hA.2.2.1.lt b hb).1
    have h4 := hA.2.2.2.1
    omega

/-- The first of the levels that is told. -/
theorem sh_tOne {T : Tm} (h : T.sh = true) : tOne 5 10 1000 30 T.k T.n T.ls T.ks = true := by
  unfold Tm.sh shB tRightB at h
  simp only [Bool.and_eq_true] at h
  exact h.2.2

set_option maxRecDepth 100000 in
set_option maxHeartbeats 4000000 in
theorem qMetas_in (n' : Nat) (T : Tm) (la ka : Option Addr) (lc kc B : Nat) (w : World) (hT : T.sh = true) (hls : SlIn w (· < B) T.ls la lc) (hsl : TlIn w (· < B) T.ks ka kc) (hB : B ≤ w.heap.size) :
    CallsIn Fence.wide n' Try.prog 17 #[.agg #[.int .i64 T.k, .int .i64 T.n, .slice la T.ls.len lc, .slice ka T.ks.len kc]] w (RnPost T.mets w) := by
  obtain ⟨W0, hW0⟩ : ∃ W0, ((w.alloc (.cells #[.int .i64 T.k, .int .i64 T.n, .slice la T.ls.len lc, .slice ka T.ks.len kc] 29)).alloc (.map #[] 0)).alloc (.cells #[.map (some (w.heap.size + 1)), .slice none 0 0] 59) = W0 := ⟨_, rfl⟩
  have hb0 : Below w.heap.size w W0 := by rw [← hW0]; exact (((Below.refl _ _).alloc (Nat.le_refl _) _).alloc (by simp) _).alloc (by simp; omega) _
  have hz0 : W0.heap.size = w.heap.size + 1 + 1 + 1 := by rw [← hW0]; simp
  have hF0 : FdAt W0 (w.heap.size + 3) (w.heap.size + 1 + 1) (w.heap.size + 1) none 0 [] := by
    rw [← hW0]
    refine ⟨?_, ?_, IOwn.nil _ _, by omega, by omega, by omega⟩
    · have := heap_new ((w.alloc (.cells #[.int .i64 T.k, .int .i64 T.n, .slice la T.ls.len lc, .slice ka T.ks.len kc] 29)).alloc (.map #[] 0)) (.cells #[.map (some (w.heap.size + 1)), .slice none 0 0] 59)
      simpa using this
    · exact (heap_old _ _ (by simp)).trans (heap_second _ _ _)
  obtain ⟨W1, hW1⟩ : ∃ W1, (W0.alloc (.cells #[.int .i64 T.k, .int .i64 T.n, .slice la T.ls.len lc, .slice ka T.ks.len kc] 29)).alloc (.cells #[.int .i64 30] 3) = W1 := ⟨_, rfl⟩
  have hst : LvAt W1 W0.heap.size B 30 T.k T.n T.ls T.ks la ka lc kc := by rw [← hW1]; exact LvAt.start W0 B 30 T.k T.n T.ls T.ks la ka lc kc (hls.below (hb0.mono hB)) (hsl.below (hb0.mono hB)) (Nat.le_trans hB hb0.size)
  have hb1 : Below w.heap.size w W1 := by rw [← hW1]; exact (hb0.alloc hb0.size _).alloc (by simp; omega) _
  have hz1 : W1.heap.size = w.heap.size + 1 + 1 + 1 + 1 + 1 := by rw [← hW1]; simp [hz0]
  have hI1 : MtI w (w.heap.size + 3) (w.heap.size + 1 + 1) (w.heap.size + 1) (FdO (w.heap.size + 1 + 1) (w.heap.size + 1) (.slice none 0 0)) [] W1 := by
    refine ⟨none, 0, rfl, ?_, hb1⟩
    rw [← hW1]
    exact (hF0.alloc _).alloc _
  rw [hz0] at hst
  have HI1 := Lib.hid hI1
  have HST := Lib.hid hst
  have HTO := Lib.hid (sh_tOne hT)
  have HLB := Lib.hid (sh_lvB hT)
  have HSZ := Lib.hid (sh_lv hT)
  have HW0 := Lib.hid hW0
  have HW1 := Lib.hid hW1
  have HZ1 := Lib.hid hz1
  have HZ0 := Lib.hid hz0
  have HM : Hid (T.mets = onceL (numL (foL T.lv)) []) := Lib.hid (by rw [numL_fo]; rfl)
  rw [HM.out]
  clear hT hls hsl hb0 hF0 hst hb1 hI1 hW0 hW1 hz0 hz1 HM
  have hdd : ∀ k : Nat, (Fence.wide.depth.isSome = true → 1 ≤ k) := fun k h => by cases h
  have hmm := @run_makeMap Try.prog
  refine callsIn_of_wp_marks Try.func17 rfl trivial ?_ rfl
  simp only [Try.ntmps17, List.size_toArray, List.length_cons, List.length_nil, Nat.reduceAdd, Nat.reduceSub, Array.replicate_succ, Array.replicate_zero, List.push_toArray, List.append_toArray, List.nil_append, List.cons_append]
  gi_wp2_with (refine ⟨trivial, hdd _, ?_⟩; gi_at_call 30; refine (levels_in _ T.k T.n 30 (by omega) la ka T.ls.len lc T.ks.len kc _).mono ?_; rintro e w' ⟨rfl, rfl⟩)
  clear hmm
  rw [HW0.out, HW1.out]
  have hB0 : B ≤ W1.heap.size := by have := HZ1.out; omega
  refine loop_tellsV (LvV.keepV B) (gf := 48) (lb := #[.pointer (some ⟨w.heap.size + 1 + 1 + 1, 0, none⟩), .pointer (some ⟨w.heap.size + 1 + 1 + 1 + 1, 0, none⟩)]) rfl (enters_of Try.func48 (by kernel_rfl) rfl) rfl (xs := foL T.lv) (D := LvD (w.heap.size + 1 + 1 + 1) B) (O := FdO (w.heap.size + 1 + 1) (w.heap.size + 1) (.slice none 0 0)) hB0 ?hD
    (fun o1 o2 => levels1_tells 30 (Nat.le_refl _) 1000 T.k T.n T.ls T.ks la ka lc kc (w.heap.size + 1 + 1 + 1) B _ HTO.out (HST.out.turn (O := fun _ => False) (fun _ _ h => h) ((Turn.alloc _ _ _).trans (Turn.alloc _ _ _)))) (MtI w (w.heap.size + 3) (w.heap.size + 1 + 1) (w.heap.size + 1)) (MtI.inv (by have := HZ1.out; omega)) HI1.out ?round ?done
  case hD =>
    rintro b hb h
    have h0 := HZ0.out
    rcases hb with hb | hb
    · rcases h with rfl | rfl | h
      · omega
      · omega
      · cases h
    · rcases h with rfl | rfl | h
      · omega
      · omega
      · cases h
  case round =>
    rintro l2 m2 P pre ⟨xk, xn, xf⟩ v X hI hv hpre
    have hdd2 : ∀ k : Nat, ((Fence.wide.inRound l2).depth.isSome = true → 1 ≤ k) := fun k h => by cases h
    obtain ⟨a9, c9, rfl, hs9⟩ := id hv
    have HXI := Lib.hid hI
    clear hI
    gi_wp2
    refine ⟨_, rfl, ?_⟩
    rintro Wb hI2 hvb hzb hob
    obtain ⟨o0, o1, o2⟩ := cells3 hob
    obtain ⟨a8, c8, he8, hs8⟩ := hvb
    simp only [Value.agg.injEq, Array.mk.injEq, List.cons.injEq, Value.slice.injEq, true_and, and_true] at he8
    obtain ⟨rfl, rfl⟩ := he8
    have hWb : w.heap.size + 3 ≤ Wb.heap.size := by
      obtain ⟨x, c, _, hA, _⟩ := hI2
      have := hA.lt _ (.inl rfl)
      omega
    have HR := Lib.hid (foL_right (x := (xk, xn, xf)) HLB.out (by obtain ⟨t, ht⟩ := hpre; rw [← ht]; simp))
    have HC1 := Lib.hid (sMetas_any xk xn xf a9 c9 B Wb HR.out hs8 (by omega))
    have HC2 : Hid (∀ (y : Option Addr) (d : Nat) (w2 : World), IOwn w2 Wb.heap.size (.slice y (nm1 6 xk xn xf []).length d) (nm1 6 xk xn xf []) → Below Wb.heap.size Wb w2 → ∃ Q : Ending → World → Prop, Calls Try.prog 31 #[.pointer (some ⟨w.heap.size + 1 + 1, 0, none⟩), .slice y (nm1 6 xk xn xf []).length d] w2 Q ∧ ∀ e w3, Q e w3 → e = .returned (.tuple #[]) ∧ ∃ O', MtI w (w.heap.size + 3) (w.heap.size + 1 + 1) (w.heap.size + 1) O' (pre ++ [(xk, xn, xf)]) w3 ∧ Turn P Wb O' w3) :=
      Lib.hid (fun y d w2 i1 i2 => hI2.step (Nat.le_refl _) hWb (by omega) (by omega) hpre (by have := HSZ.out; omega) i1 i2)
    generalize nm1 6 xk xn xf [] = ns at HC1 HC2
    clear hI2 hv hs9 hs8 hob hzb hpre HR
    gi_wp2_with (first
      | (refine ⟨trivial, hdd2 _, ?_⟩; gi_at_call 32; refine (CallsIn.inRound l2 (callsIn_wide.2 HC1.out)).mono ?_; rintro e w2 ⟨y, d, rfl, i1, i2⟩; obtain ⟨Q, hq1, hq2⟩ := HC2.out y d w2 i1 i2; have HQ1 := Lib.hid hq1; have HQ2 := Lib.hid hq2; clear i1 i2 hq1 hq2)
      | (refine ⟨trivial, hdd2 _, ?_⟩; gi_at_call 31; refine (CallsIn.inRound l2 (callsIn_wide.2 HQ1.out)).mono ?_; intro e w3 hq; obtain ⟨rfl, hq3⟩ := HQ2.out e w3 hq; have HQ3 := Lib.hid hq3; clear hq hq3))
    exact HQ3.out
  case done =>
    rintro d O' X hd hI hk hnd ht
    have hI2 := (MtI.inv (w := w) (base := w.heap.size + 3) (FB := w.heap.size + 1 + 1) (MB := w.heap.size + 1) (Bv := w.heap.size) (Nat.le_refl _)).put (.deferred none) hI (by have := HZ1.out; omega) hnd
    obtain ⟨x, c, hO, h1, h2⟩ := hI
    obtain ⟨x', c', hO', h1', h2'⟩ := hI2
    have c3 := cell_at h1.1 1
    simp at c3
    have hne : w.heap.size + 1 + 1 ≠ d := fun e => by rw [← e, h1.1] at hk; cases hk
    have h33 := (World.putObj_heap_other (w := X) (r := d) (o := .deferred none) hne).trans h1.1
    have h34 := h1'.1
    rw [h33] at h34
    have hxx : x = x' ∧ c = c' := by injection h34 with h; injection h with h; injection h with h; injection h with _ h; injection h with h; injection h with e1 _ e3; exact ⟨e1, e3⟩
    obtain ⟨rfl, rfl⟩ := hxx
    have HF : Hid (RnPost (onceL (numL (foL T.lv)) []) w (.returned (.slice x (onceL (numL (foL T.lv)) []).length c)) (X.putObj d (.deferred none))) := Lib.hid ⟨x, c, rfl, h1'.2.2.1.ints, h2'⟩
    clear h1 h2 h1' h2' h33 h34 hO hO'
    gi_wp2
    refine ⟨by simp, .inl ⟨_, _, rfl, run_takeDeferred hk, ?_⟩⟩
    refine ⟨_, results_tmp rfl _ _ _, ?_⟩
    exact HF.out
theorem qMetC : QMetC := fun T la ka lc kc B w hT hls hsl hB => (callsIn_wide (n := 0)).1 (qMetas_in 0 T la ka lc kc B w hT hls hsl hB)
end Go.Proofs.Ytcnhfoppfihhiaa
/- The contract of the program's own Consts of a term: the numbers of the Consts in it, each ahead of those in its Kids, each once. Conditions: the term lies in memory, and its shape is right. -/
namespace Go.Proofs.Ytcnhfoppfihhiaa
open Go.RowKit Go.Shelf
attribute [local go_sem] Oper.semAt_some

/-- The Consts of a list of terms. -/
def conL (l : List Tm) : List Int := l.flatMap fun x => if x.k = 3 then [x.n] else []
theorem conL_app (a b : List Tm) : conL (a ++ b) = conL a ++ conL b := by simp [conL]
theorem conL_prF : ∀ f : Ft, conL (prF f) = csF f
  | .nil => rfl
  | .cons k n ls ks r => by
    show (if k = 3 then [n] else []) ++ conL (prF ks ++ prF r) = ((if k = 3 then [n] else []) ++ csF ks) ++ csF r
    rw [conL_app, conL_prF ks, conL_prF r, List.append_assoc]
theorem conL_prT (T : Tm) : conL (prT T) = cs1 T.k T.n T.ks := by
  show (if T.k = 3 then [T.n] else []) ++ conL (prF T.ks) = _
  rw [conL_prF]; rfl
theorem con_no {pre : List Tm} {x : Tm} (h : ¬ x.k = 3) : conL (pre ++ [x]) = conL pre := by rw [conL_app]; simp [conL, h]
theorem con_yes {pre : List Tm} {x : Tm} (h : x.k = 3) : onceL (conL (pre ++ [x])) [] = onceL [x.n] (onceL (conL pre) []) := by
  rw [conL_app, onceL_app]
  simp [conL, h]
theorem con_len {T : Tm} {pre : List Tm} {x : Tm} (h : pre ++ [x] <+: prT T) : (onceL (conL pre) []).length ≤ T.ks.size + 1 := by
  obtain ⟨t, ht⟩ := h
  have h1 := conL_prT T
  rw [← ht, conL_app, conL_app] at h1
  have h2 := cs1_len T.k T.n T.ks
  rw [← h1] at h2
  simp only [List.length_append] at h2
  have h3 := once_len (conL pre) []
  simp at h3
  omega

/-- What stands in memory between two rounds. -/
def CnI (w : World) (base FB MB : Nat) (O : Nat → Prop) (pre : List Tm) (W : World) : Prop :=
  ∃ x c, O = FdO FB MB (.slice x (onceL (conL pre) []).length c) ∧ FdAt W base FB MB x c (onceL (conL pre) []) ∧ Below w.heap.size w W
theorem CnI.inv {w : World} {base FB MB Bv : Nat} (hB : w.heap.size ≤ Bv) : InvV Bv (CnI w base FB MB) := by
  refine ⟨fun O s A A' row hs hg hr => ?_, fun O s A hs b hb => ?_⟩
  · obtain ⟨x, c, rfl, h1, h2⟩ := hs
    exact ⟨x, c, rfl, h1.keep (fun b hb => hg.block b (h1.lt b hb) (fun e => (hr b e.symm).2 hb)), h2.grown hg h2.size (fun r e => Nat.le_trans hB (hr r e).1)⟩
  · obtain ⟨x, c, rfl, h1, h2⟩ := hs
    exact h1.lt b hb
/-- One round at a Const: its number is added. -/
theorem CnI.step {w Wb : World} {base FB MB : Nat} {O : Nat → Prop} {pre : List Tm} {x : Tm} {T : Tm} (h : CnI w base FB MB O pre Wb) (hbase : base ≤ w.heap.size + 3) (hw : w.heap.size + 3 ≤ Wb.heap.size) (hFB : w.heap.size ≤ FB) (hMB : w.heap.size ≤ MB) (hpre : pre ++ [x] <+: prT T) (hT : T.ks.size ≤ 1000) (hx : x.k = 3) :
    ∃ P : Ending → World → Prop, Calls Try.prog 31 #[.pointer (some ⟨FB, 0, none⟩), .slice (some ⟨Wb.heap.size, 0, none⟩) 1 1] (Wb.alloc (.cells #[.int .i64 x.n] 3)) P ∧ ∀ e w3, P e w3 → e = .returned (.tuple #[]) ∧ ∃ O', CnI w base FB MB O' (pre ++ [x]) w3 ∧ Turn O Wb O' w3 := by
  obtain ⟨y, c, rfl, hA, hW⟩ := h
  have hlen := con_len hpre
  have hA2 := hA.alloc (.cells #[.int .i64 x.n] 3)
  have hin : IntsIn (Wb.alloc (.cells #[.int .i64 x.n] 3)) (fun b => b < (Wb.alloc (.cells #[.int .i64 x.n] 3)).heap.size ∧ ¬ FdO FB MB (.slice y (onceL (conL pre) []).length c) b) [x.n] (some ⟨Wb.heap.size, 0, none⟩) 1 := by
    refine IntsIn.mk (by simp) (by omega) ⟨by simp, fun hO => by have := hA.lt _ hO; omega⟩ (fun i hi => ?_)
    obtain rfl : i = 0 := by simp at hi; omega
    exact cell_at (heap_new Wb _) 0
  have hC := qAdd_any [x.n] (some ⟨Wb.heap.size, 0, none⟩) 1 base FB MB y c (onceL (conL pre) []) _ hA2 hin (by simp; omega) (by simp; omega)
  refine ⟨_, hC, ?_⟩
  rintro e w3 ⟨rfl, x3, c3, hA3, hT3⟩
  rw [← con_yes hx] at hA3 hT3
  have hT := (Turn.alloc (FdO FB MB (.slice y (onceL (conL pre) []).length c)) Wb (.cells #[.int .i64 x.n] 3)).trans hT3
  refine ⟨rfl, _, ⟨x3, c3, rfl, hA3, ?_⟩, hT⟩
  refine hW.trans (hT.low hW.size (fun b hb => ?_))
  rcases hb with rfl | rfl | hb
  · exact hFB
  · exact hMB
  · have := (hA.2.2.1.lt b hb).1
    have h4 := hA.2.2.2.1
    omega
theorem CnI.skip {w Wb : World} {base FB MB : Nat} {O : Nat → Prop} {pre : List Tm} {x : Tm} (h : CnI w base FB MB O pre Wb) (hx : ¬ x.k = 3) : CnI w base FB MB O (pre ++ [x]) Wb := by
  unfold CnI
  rw [con_no hx]
  exact h

set_option maxRecDepth 100000 in
set_option maxHeartbeats 4000000 in
theorem qConsts_in (n' : Nat) (T : Tm) (la ka : Option Addr) (lc kc B : Nat) (w : World) (hT : T.sh = true) (hls : SlIn w (· < B) T.ls la lc) (hsl : TlIn w (· < B) T.ks ka kc) (hB : B ≤ w.heap.size) :
    CallsIn Fence.wide n' Try.prog 18 #[.agg #[.int .i64 T.k, .int .i64 T.n, .slice la T.ls.len lc, .slice ka T.ks.len kc]] w (RnPost T.cons w) := by
  obtain ⟨W0, hW0⟩ : ∃ W0, ((w.alloc (.cells #[.int .i64 T.k, .int .i64 T.n, .slice la T.ls.len lc, .slice ka T.ks.len kc] 29)).alloc (.map #[] 0)).alloc (.cells #[.map (some (w.heap.size + 1)), .slice none 0 0] 59) = W0 := ⟨_, rfl⟩
  have hb0 : Below w.heap.size w W0 := by rw [← hW0]; exact (((Below.refl _ _).alloc (Nat.le_refl _) _).alloc (by simp) _).alloc (by simp; omega) _
  have hz0 : W0.heap.size = w.heap.size + 1 + 1 + 1 := by rw [← hW0]; simp
  have hF0 : FdAt W0 (w.heap.size + 3) (w.heap.size + 1 + 1) (w.heap.size + 1) none 0 [] := by
    rw [← hW0]
    refine ⟨?_, ?_, IOwn.nil _ _, by omega, by omega, by omega⟩
    · have := heap_new ((w.alloc (.cells #[.int .i64 T.k, .int .i64 T.n, .slice la T.ls.len lc, .slice ka T.ks.len kc] 29)).alloc (.map #[] 0)) (.cells #[.map (some (w.heap.size + 1)), .slice none 0 0] 59)
      simpa using this
    · exact (heap_old _ _ (by simp)).trans (heap_second _ _ _)
  obtain ⟨W1, hW1⟩ : ∃ W1, W0.alloc (.cells #[.int .i64 T.k, .int .i64 T.n, .slice la T.ls.len lc, .slice ka T.ks.len kc] 29) = W1 := ⟨_, rfl⟩
  have hst : W1.heap[W0.heap.size]? = some (.cells #[.int .i64 T.k, .int .i64 T.n, .slice la T.ls.len lc, .slice ka T.ks.len kc] 29 (0, 0)) := by rw [← hW1]; exact heap_new W0 _
  have hb1 : Below w.heap.size w W1 := by rw [← hW1]; exact hb0.alloc hb0.size _
  have hz1 : W1.heap.size = w.heap.size + 1 + 1 + 1 + 1 := by rw [← hW1]; simp [hz0]
  have hI1 : CnI w (w.heap.size + 3) (w.heap.size + 1 + 1) (w.heap.size + 1) (FdO (w.heap.size + 1 + 1) (w.heap.size + 1) (.slice none 0 0)) [] W1 := by
    refine ⟨none, 0, rfl, ?_, hb1⟩
    rw [← hW1]
    exact hF0.alloc _
  rw [hz0] at hst
  have HI1 := Lib.hid hI1
  have HST : Hid (∀ o1 o2, ((W1.alloc o1).alloc o2).heap[w.heap.size + 1 + 1 + 1]? = some (.cells #[.int .i64 T.k, .int .i64 T.n, .slice la T.ls.len lc, .slice ka T.ks.len kc] 29 (0, 0)) ∧ SlIn ((W1.alloc o1).alloc o2) (· < B) T.ls la lc ∧ TlIn ((W1.alloc o1).alloc o2) (· < B) T.ks ka kc) := Lib.hid (fun o1 o2 => by
    have hb2 : Below w.heap.size w ((W1.alloc o1).alloc o2) := (hb1.alloc hb1.size _).alloc (by simp; omega) _
    exact ⟨(heap_old _ _ (by simp; omega)).trans ((heap_old _ _ (by omega)).trans hst), hls.below (hb2.mono hB), hsl.below (hb2.mono hB)⟩)
  have HKS : Hid (T.ks.size ≤ 1000) := Lib.hid (sh_small9 hT).1
  have HW0 := Lib.hid hW0
  have HW1 := Lib.hid hW1
  have HZ1 := Lib.hid hz1
  have HM : Hid (T.cons = onceL (conL (prT T)) []) := Lib.hid (by rw [conL_prT]; rfl)
  rw [HM.out]
  clear hT hls hsl hb0 hF0 hst hb1 hI1 hW0 hW1 hz0 hz1 HM
  have hdd : ∀ k : Nat, (Fence.wide.depth.isSome = true → 1 ≤ k) := fun k h => by cases h
  have hmm := @run_makeMap Try.prog
  refine callsIn_of_wp_marks Try.func18 rfl trivial ?_ rfl
  simp only [Try.ntmps18, List.size_toArray, List.length_cons, List.length_nil, Nat.reduceAdd, Nat.reduceSub, Array.replicate_succ, Array.replicate_zero, List.push_toArray, List.append_toArray, List.nil_append, List.cons_append]
  gi_wp2_with (refine ⟨trivial, hdd _, ?_⟩; gi_at_call 33; refine (parts_in _ T.k T.n la ka T.ls.len lc T.ks.len kc _).mono ?_; rintro e w' ⟨rfl, rfl⟩)
  clear hmm
  rw [HW0.out, HW1.out]
  have hB0 : B ≤ W1.heap.size := by have := HZ1.out; omega
  refine loop_tellsV (TpV.keepV B) (gf := 51) (lb := #[.pointer (some ⟨w.heap.size + 1 + 1 + 1, 0, none⟩)]) rfl (enters_of Try.func51 (by kernel_rfl) rfl) rfl (xs := prT T) (D := PtD (w.heap.size + 1 + 1 + 1) B) (O := FdO (w.heap.size + 1 + 1) (w.heap.size + 1) (.slice none 0 0)) hB0 ?hD
    (fun o1 o2 => parts1_tells T la ka lc kc (w.heap.size + 1 + 1 + 1) B _ (HST.out o1 o2).1 (HST.out o1 o2).2.1 (HST.out o1 o2).2.2 (by omega) HKS.out) (CnI w (w.heap.size + 3) (w.heap.size + 1 + 1) (w.heap.size + 1)) (CnI.inv (by have := HZ1.out; omega)) HI1.out ?round ?done
  case hD =>
    rintro b hb h
    rcases hb with hb | hb
    · rcases h with rfl | rfl | h
      · omega
      · omega
      · cases h
    · rcases h with rfl | rfl | h
      · omega
      · omega
      · cases h
  case round =>
    rintro l2 m2 P pre ⟨xk, xn, xl, xf⟩ v X hI hv hpre
    have hdd2 : ∀ k : Nat, ((Fence.wide.inRound l2).depth.isSome = true → 1 ≤ k) := fun k h => by cases h
    obtain ⟨a9, c9, b9, d9, rfl, hs9⟩ := id hv
    have HXI := Lib.hid hI
    clear hI
    gi_wp2
    refine ⟨_, rfl, ?_⟩
    rintro Wb hI2 hvb hzb hob
    obtain ⟨o0, o1, o2, o3⟩ := cells4 hob
    have hWb : w.heap.size + 3 ≤ Wb.heap.size := by
      obtain ⟨x, c, _, hA, _⟩ := hI2
      have := hA.lt _ (.inl rfl)
      omega
    by_cases hk : xk = 3
    · have dk : (xk == 3) = true := beq_iff_eq.2 hk
      obtain ⟨Q, hq1, hq2⟩ := hI2.step (Nat.le_refl _) hWb (by omega) (by omega) hpre HKS.out hk
      have HQ1 := Lib.hid hq1
      have HQ2 := Lib.hid hq2
      clear hI2 hv hvb hs9 hob hzb hpre hk hq1 hq2
      gi_wp2_with (refine ⟨trivial, hdd2 _, ?_⟩; gi_at_call 31; refine (CallsIn.inRound l2 (callsIn_wide.2 HQ1.out)).mono ?_; intro e w3 hq; obtain ⟨rfl, hq3⟩ := HQ2.out e w3 hq; have HQ3 := Lib.hid hq3; clear hq hq3)
      exact HQ3.out
    · have dk : (xk == 3) = false := beq_eq_false_iff_ne.2 hk
      have HN := Lib.hid (hI2.skip (x := ⟨xk, xn, xl, xf⟩) hk)
      clear hI2 hv hvb hs9 hob hzb hpre hk
      gi_wp2
      exact ⟨P, HN.out, Turn.refl _ _⟩
  case done =>
    rintro d O' X hd hI hk hnd ht
    have hI2 := (CnI.inv (w := w) (base := w.heap.size + 3) (FB := w.heap.size + 1 + 1) (MB := w.heap.size + 1) (Bv := w.heap.size) (Nat.le_refl _)).put (.deferred none) hI (by have := HZ1.out; omega) hnd
    obtain ⟨x, c, hO, h1, h2⟩ := hI
    obtain ⟨x', c', hO', h1', h2'⟩ := hI2
    have c3 := cell_at h1.1 1
    simp at c3
    have hne : w.heap.size + 1 + 1 ≠ d := fun e => by rw [← e, h1.1] at hk; cases hk
    have h33 := (World.putObj_heap_other (w := X) (r := d) (o := .deferred none) hne).trans h1.1
    have h34 := h1'.1
    rw [h33] at h34
    have hxx : x = x' ∧ c = c' := by injection h34 with h; injection h with h; injection h with h; injection h with _ h; injection h with h; injection h with e1 _ e3; exact ⟨e1, e3⟩
    obtain ⟨rfl, rfl⟩ := hxx
    have HF : Hid (RnPost (onceL (conL (prT T)) []) w (.returned (.slice x (onceL (conL (prT T)) []).length c)) (X.putObj d (.deferred none))) := Lib.hid ⟨x, c, rfl, h1'.2.2.1.ints, h2'⟩
    clear h1 h2 h1' h2' h33 h34 hO hO'
    gi_wp2
    refine ⟨by simp, .inl ⟨_, _, rfl, run_takeDeferred hk, ?_⟩⟩
    refine ⟨_, results_tmp rfl _ _ _, ?_⟩
    exact HF.out
theorem qConC : QConC := fun T la ka lc kc B w hT hls hsl hB => (callsIn_wide (n := 0)).1 (qConsts_in 0 T la ka lc kc B w hT hls hsl hB)
end Go.Proofs.Ytcnhfoppfihhiaa
/- The program's own Sub, Metas and Consts, and the law's sample calls, as the law asks for them. No condition. -/
namespace Go.Proofs.Ytcnhfoppfihhiaa
open Go.RowKit

theorem qSubC : QSubC := fun P Q T la ka ap aq lc kc cp cq B w hls hsl hsp hsq hB =>
  (qSub_off P Q T la ka ap aq lc kc cp cq B B w (RwIn.of hls hB) hls hsl hsp hsq hB (Nat.le_refl _) hB).mono (by
    rintro e w' ⟨x1, y1, x2, y2, h, s1, s2, s3⟩
    exact ⟨x1, y1, x2, y2, h, s1.weak (fun b hb => hb.2), s2.turn (fun b hb => rfl) (fun b hb => hb.2), s3⟩)
theorem qSortC : QSortC := fun P k n ks b0 o0 lc ap cp B w hf hb0 hl1 hl2 hsp hB =>
  qSub_off P .nil ⟨2, 0, .cons k n ks .nil, .nil⟩ (some ⟨b0, o0, none⟩) none ap none lc 0 cp 0 B w.heap.size w
    ⟨hl1, by unfold maxLen; omega, fun _ => ⟨b0, o0, rfl, hb0, hf⟩⟩
    (SlIn.mk hl1 hl2 hb0 (FoIn.weak (fun b hb => Nat.lt_of_lt_of_le hb hB) _ _ _ hf)) (TlIn.none _ _) hsp (SlIn.none _ _) hB hB (Nat.le_refl _)
theorem qAwkC : QAwkC := fun w => awake15_any qSubC qMetC qConC w
end Go.Proofs.Ytcnhfoppfihhiaa
/- A list of lists of bytes that came in as an argument: what lies in memory. -/
namespace Go.Proofs.Ytcnhfoppfihhiaa
open Go.ChangeShapes Go.WideShapes Go.ChangeAt Go.RowKit

theorem cellsBytes : Try.prog.cellsOf 22 = 1 := by kernel_rfl
theorem addr_none (b o m : Nat) : (⟨b, o, none⟩ : Addr).add m = ⟨b, o + m, none⟩ := by unfold Addr.add; split <;> simp_all
theorem no_spot {w : World} {a : Addr} {v : Value} (h : w.cell? a = some v) : a.spot = none := by
  cases hs : a.spot with
  | none => rfl
  | some y =>
    exfalso
    simp [World.cell?, hs] at h
    split at h <;> simp at h
section
variable {H : Type} {enc : TypeId × Value → H} {W : World} {base : Nat} {spare : Nat → Bool} {held : Bool}
set_option maxRecDepth 100000 in
/-- A list of bytes, read. -/
theorem open_bytes {fuel : Nat} {c : Value} {x : DataW H × List MemPlace} (h : DataW.trod enc Try.prog W base spare held fuel 22 [c] = some x) : ∃ (len : Nat) (a : Option Addr) (cap : Nat), c = .slice a len cap ∧ U8In W (· < W.heap.size) len a cap := by
  rcases open_ints Try.underlying22 Try.underlying5 cellsU8 h with ⟨hcs, _⟩ | ⟨a', len', cap', zs, hcs, _, hl, hm, hz, _, hcell, hwf⟩
  · injection hcs with hcs _
    subst hcs
    exact ⟨0, none, 0, rfl, Nat.le_refl _, Nat.zero_le _, fun _ => rfl, fun h => by omega⟩
  · injection hcs with hcs _
    subst hcs
    refine ⟨len', some a', cap', rfl, hl, hm, (fun h => by cases h), fun h0 => ?_⟩
    have hzl : len' ≤ zs.length := by rw [hz]; split <;> omega
    have q0 := hcell 0 (by omega)
    have hsp := no_spot q0
    obtain ⟨b, o, sp⟩ := a'
    have hsp' : sp = none := by simpa [Addr.add] using hsp
    subst hsp'
    simp only [addr_none] at hcell q0
    refine ⟨b, o, rfl, World.block_lt_of_cell? _ _ q0, fun i hi => ?_⟩
    have hm' : zs.getD i 0 ∈ zs := by
      have e : zs.getD i 0 = zs[i] := by simp [List.getD_eq_getElem?_getD, show i < zs.length by omega]
      rw [e]; exact List.getElem_mem _
    have := u8_range (hwf _ hm')
    exact ⟨_, this.1, this.2, hcell i (by omega)⟩
set_option maxRecDepth 100000 in
theorem arg_rows {r : Reach} {b0 : Nat} {v : Value} {d : DataW H} {p : List MemPlace} (hv : Value.okWide Try.prog W r b0 23 v) (h : DataW.Trod enc Try.prog W base spare held 23 v d p) :
    ∃ (len : Nat) (a : Option Addr) (cap : Nat), v = .slice a len cap ∧ RowsIn W (· < W.heap.size) len a cap := by
  obtain ⟨a, len, cap, rfl⟩ := okWide_slice Try.underlying23 hv
  obtain ⟨fuel, hf⟩ := h
  rcases DataW.trod_slice Try.underlying23 hf with ⟨e2, _⟩ | ⟨a', len', cap', elems, rest, n1, hn1, e2, _, hb, hle, hm, hlen, hel, _⟩
  · have e3 : a = none ∧ len = 0 ∧ cap = 0 := by simpa [Value.cells] using e2
    obtain ⟨rfl, rfl, rfl⟩ := e3
    exact ⟨0, none, 0, rfl, Nat.le_refl _, Nat.zero_le _, fun _ => rfl, fun h => by omega⟩
  · have e3 : a = some a' ∧ len = len' ∧ cap = cap' := by simpa [Value.cells] using e2
    obtain ⟨rfl, rfl, rfl⟩ := e3
    rw [cellsBytes] at hel
    have each : ∀ i, i < len → ∃ (x : Option Addr) (l c : Nat), W.cell? (a'.add i) = some (.slice x l c) ∧ U8In W (· < W.heap.size) l x c := by
      intro i hi
      have h1 := hel i hi
      rw [List.getElem?_eq_getElem (by omega)] at h1
      obtain ⟨cs', hc, ht⟩ := Option.bind_eq_some_iff.1 h1
      obtain ⟨hl1, hcl, hat⟩ := World.cells?_some hc
      match cs', hl1 with
      | [c], _ =>
        obtain ⟨l, x, cp, rfl, hu⟩ := open_bytes ht
        have q0 := hat 0 (by omega)
        exact ⟨x, l, cp, by simpa [Addr.add] using q0, hu⟩
    refine ⟨len, some a', cap, rfl, hle, hm, (fun h => by cases h), fun h0 => ?_⟩
    obtain ⟨_, _, _, q0, _⟩ := each 0 h0
    have hsp := no_spot q0
    obtain ⟨b, o, sp⟩ := a'
    have hsp' : sp = none := by simpa [Addr.add] using hsp
    subst hsp'
    simp only [addr_none] at each q0
    exact ⟨b, o, rfl, World.block_lt_of_cell? _ _ q0, each⟩
end
end Go.Proofs.Ytcnhfoppfihhiaa
/- What stands in memory while the document's own lift and open make a term's Kids: the term in block OB, the answer's block R ahead of it. No condition. -/
namespace Go.Proofs.Ytcnhfoppfihhiaa
open Go.RowKit

def TrQ (w : World) (R OB B : Nat) (k n : Int) (ls : Fo) (la : Option Addr) (lc : Nat) (G : Ft) (v : Value) (wr : World) : Prop :=
  wr.heap[R]? = some (.cells #[.int .i64 0, .int .i64 0, .slice none 0 0, .slice none 0 0] 29 (0, 0)) ∧ wr.heap[OB]? = some (.cells #[.int .i64 k, .int .i64 n, .slice la ls.len lc, v] 29 (0, 0)) ∧ TsMix B (OB + 1) wr v G ∧ (w.heap.size ≤ R ∧ R < OB) ∧ B ≤ w.heap.size ∧ Below w.heap.size w wr
theorem TrQ.facts {w : World} {R OB B : Nat} {k n : Int} {ls : Fo} {la : Option Addr} {lc : Nat} {G : Ft} {v : Value} {wr : World} (h : TrQ w R OB B k n ls la lc G v wr) :
    (wr.cell? ⟨R, 0, none⟩ = some (.int .i64 0) ∧ wr.cell? ⟨R, 1, none⟩ = some (.int .i64 0) ∧ wr.cell? ⟨R, 2, none⟩ = some (.slice none 0 0) ∧ wr.cell? ⟨R, 3, none⟩ = some (.slice none 0 0) ∧ (∀ o, wr.frozen? ⟨R, o, none⟩ = false)) ∧
    (wr.cell? ⟨OB, 0, none⟩ = some (.int .i64 k) ∧ wr.cell? ⟨OB, 1, none⟩ = some (.int .i64 n) ∧ wr.cell? ⟨OB, 2, none⟩ = some (.slice la ls.len lc) ∧ wr.cell? ⟨OB, 3, none⟩ = some v ∧ (∀ o, wr.frozen? ⟨OB, o, none⟩ = false)) ∧ OB < wr.heap.size ∧ Below w.heap.size w wr := by
  obtain ⟨h1, h2, _, _, _, h6⟩ := h
  exact ⟨⟨cell_at h1 0, cell_at h1 1, cell_at h1 2, cell_at h1 3, free_of h1⟩, ⟨cell_at h2 0, cell_at h2 1, cell_at h2 2, cell_at h2 3, free_of h2⟩, lt_of_block h2, h6⟩
/-- A kid more: the append behind the others, what lies there then, and that all ahead of OB is as it was. -/
theorem TrQ.next {w : World} {R OB B : Nat} {k n : Int} {ls : Fo} {la : Option Addr} {lc : Nat} {G : Ft} {v : Value} {wr : World} (h : TrQ w R OB B k n ls la lc G v wr) (hG : G.len ≤ 1000) {T : Tm} {w2 : World} {x1 x2 : Option Addr} {c1 c2 : Nat}
    (hl : SlIn w2 (fun b => (b < B ∨ wr.heap.size ≤ b) ∧ b < w2.heap.size) T.ls x1 c1) (hs : TlIn w2 (fun b => (b < B ∨ wr.heap.size ≤ b) ∧ b < w2.heap.size) T.ks x2 c2) (hb : Below wr.heap.size wr w2) :
    w2.cell? ⟨OB, 3, none⟩ = some v ∧ OB < w2.heap.size ∧ ∃ g' cap' w3, (Builtin.append_ #[27, 27] 27 #[v, .slice (some ⟨w2.heap.size, 0, none⟩) 1 1]).run Try.prog (w2.alloc (.cells #[.int .i64 T.k, .int .i64 T.n, .slice x1 T.ls.len c1, .slice x2 T.ks.len c2] 29)) = .ok (.slice (some ⟨g', 0, none⟩) (G.len + 1) cap') w3 ∧
      w3.cell? ⟨OB, 3, none⟩ = some v ∧ (∀ o, w3.frozen? ⟨OB, o, none⟩ = false) ∧ (∀ q, q < OB → w3.heap[q]? = wr.heap[q]?) ∧ TrQ w R OB B k n ls la lc (G.app T.one) (.slice (some ⟨g', 0, none⟩) (G.len + 1) cap') (w3.setCell ⟨OB, 3, none⟩ (.slice (some ⟨g', 0, none⟩) (G.len + 1) cap')) := by
  obtain ⟨h1, h2, h3, ⟨h4, h4'⟩, h5, h6⟩ := h
  have hlt := lt_of_block h2
  have e1 := (hb.block _ (lt_of_block h1)).trans h1
  have e2 := (hb.block _ hlt).trans h2
  have hz := hb.size
  have hM : ∀ b, (b < B ∨ wr.heap.size ≤ b) ∧ b < w2.heap.size → Mx B (OB + 1) w2 v b := fun b hb' => h3.out (by omega) (by omega) hb'
  obtain ⟨g', cap', w3, hrun, k3, same, z3, o1, o2, o3⟩ := (h3.later hb).append T.k T.n (hl.weak hM) (hs.weak hM) 27 hG (by omega)
  have nv : ∀ b, b ≤ OB → some b ≠ v.ownBlock := fun b hb e => by have := (h3.lt b e.symm).1; omega
  have f1 := (same _ (lt_of_block e1) (nv _ (by omega))).trans e1
  have f2 := (same _ (lt_of_block e2) (nv _ (by omega))).trans e2
  have n1 : R ≠ OB := by omega
  refine ⟨cell_at e2 3, lt_of_block e2, g', cap', w3, hrun, cell_at f2 3, free_of f2, fun q hq => (same q (by omega) (nv q (by omega))).trans (hb.block q (by omega)), (Below.heap_setCell _ _ _ _ n1).trans f1, heap_setCell_same w3 _ 3 _ _ _ f2, k3.setLow (by omega) (by omega) 3 _, ⟨h4, h4'⟩, h5, ?_⟩
  refine ⟨(o1.trans hb.os).trans h6.os, (o2.trans hb.tape).trans h6.tape, (o3.trans hb.output).trans h6.output, ?_, fun q hq => ?_⟩
  · have := h6.size; simp; omega
  · have hq6 := h6.size
    have nq : q ≠ OB := by omega
    rw [Below.heap_setCell _ _ _ _ nq, same q (by omega) (nv q (by omega)), hb.block q (by omega)]
    exact h6.block q hq
/-- The answer, when all Kids are there. -/
theorem TrQ.done {w : World} {R OB B : Nat} {k n : Int} {ls : Fo} {la : Option Addr} {lc : Nat} {G : Ft} {v : Value} {wr : World} (h : TrQ w R OB B k n ls la lc G v wr) (hl : SlIn w (· < B) ls la lc) : ∃ x c, v = .slice x G.len c ∧
    TmPost B ⟨k, n, ls, G⟩ w (.returned (.agg #[.int .i64 k, .int .i64 n, .slice la ls.len lc, .slice x G.len c])) ((((wr.setCell ⟨R, 0, none⟩ (.int .i64 k)).setCell ⟨R, 1, none⟩ (.int .i64 n)).setCell ⟨R, 2, none⟩ (.slice la ls.len lc)).setCell ⟨R, 3, none⟩ (.slice x G.len c)) := by
  obtain ⟨h1, h2, h3, ⟨h4, h4'⟩, h5, h6⟩ := h
  obtain ⟨x, c, rfl, hsl⟩ := h3.slice
  have hg := set4_only (w := wr) R (.int .i64 k) (.int .i64 n) (.slice la ls.len lc) (.slice x G.len c)
  have hz := h6.size
  refine ⟨x, c, rfl, la, lc, x, c, rfl, ?_, ?_, ?_⟩
  · exact ((hl.below (h6.mono h5)).keep (fun b hb => Only.block hg (by omega) (by omega))).weak (fun b hb => ⟨.inl hb, by have := hg.size; omega⟩)
  · exact hsl.turn (fun b hb => Only.block hg hb.2 (by omega)) (fun b hb => ⟨by omega, Nat.lt_of_lt_of_le hb.2 hg.size⟩)
  · exact ⟨hg.os.trans h6.os, hg.tape.trans h6.tape, hg.output.trans h6.output, Nat.le_trans h6.size hg.size, fun q hq => (Only.block hg (by omega) (by omega)).trans (h6.block q hq)⟩
theorem TrQ.start1 {w : World} {k n : Int} {ls : Fo} {la : Option Addr} {lc B : Nat} (o1 : Obj) (hB : B ≤ w.heap.size) :
    TrQ w (w.heap.size + 1) (w.heap.size + 1 + 1) B k n ls la lc .nil (.slice none 0 0) (((w.alloc o1).alloc (.cells #[.int .i64 0, .int .i64 0, .slice none 0 0, .slice none 0 0] 29)).alloc (.cells #[.int .i64 k, .int .i64 n, .slice la ls.len lc, .slice none 0 0] 29)) := by
  refine ⟨(heap_old _ _ (by simp)).trans (heap_second _ _ _), ?_, TsMix.nil _ _ _, by omega, hB, (((Below.refl _ _).alloc (Nat.le_refl _) _).alloc (by simp) _).alloc (by simp; omega) _⟩
  have := heap_second (w.alloc o1) (.cells #[.int .i64 0, .int .i64 0, .slice none 0 0, .slice none 0 0] 29) (.cells #[.int .i64 k, .int .i64 n, .slice la ls.len lc, .slice none 0 0] 29)
  simpa using this
theorem TrQ.start2 {w : World} {k n : Int} {ls : Fo} {la : Option Addr} {lc B : Nat} (o1 o2 : Obj) (hB : B ≤ w.heap.size) :
    TrQ w (w.heap.size + 1 + 1) (w.heap.size + 1 + 1 + 1) B k n ls la lc .nil (.slice none 0 0) ((((w.alloc o1).alloc o2).alloc (.cells #[.int .i64 0, .int .i64 0, .slice none 0 0, .slice none 0 0] 29)).alloc (.cells #[.int .i64 k, .int .i64 n, .slice la ls.len lc, .slice none 0 0] 29)) := by
  refine ⟨(heap_old _ _ (by simp)).trans ?_, ?_, TsMix.nil _ _ _, by omega, hB, ((((Below.refl _ _).alloc (Nat.le_refl _) _).alloc (by simp) _).alloc (by simp; omega) _).alloc (by simp; omega) _⟩
  · have := heap_second (w.alloc o1) o2 (.cells #[.int .i64 0, .int .i64 0, .slice none 0 0, .slice none 0 0] 29)
    simpa using this
  · have := heap_second ((w.alloc o1).alloc o2) (.cells #[.int .i64 0, .int .i64 0, .slice none 0 0, .slice none 0 0] 29) (.cells #[.int .i64 k, .int .i64 n, .slice la ls.len lc, .slice none 0 0] 29)
    simpa using this
/-- The cells that the round reads, in a world that has not changed ahead of OB. -/
theorem rqHeld {W w' : World} {N b i : Nat} {x0 x3 y0 y1 y2 y3 : Value} (h : ∀ q, q ≤ N → w'.heap[q]? = W.heap[q]?) (hb : b ≤ N) (q0 : W.cell? ⟨N, 0, none⟩ = some x0) (q3 : W.cell? ⟨N, 3, none⟩ = some x3) (e0 : W.cell? ⟨b, i, none⟩ = some y0) (e1 : W.cell? ⟨b, i + 1, none⟩ = some y1) (e2 : W.cell? ⟨b, i + 2, none⟩ = some y2) (e3 : W.cell? ⟨b, i + 3, none⟩ = some y3) :
    w'.cell? ⟨N, 0, none⟩ = some x0 ∧ w'.cell? ⟨N, 3, none⟩ = some x3 ∧ w'.cell? ⟨b, i, none⟩ = some y0 ∧ w'.cell? ⟨b, i + 1, none⟩ = some y1 ∧ w'.cell? ⟨b, i + 2, none⟩ = some y2 ∧ w'.cell? ⟨b, i + 3, none⟩ = some y3 :=
  ⟨(World.cell?_of_block (a := ⟨N, 0, none⟩) (h _ (Nat.le_refl _))).trans q0, (World.cell?_of_block (a := ⟨N, 3, none⟩) (h _ (Nat.le_refl _))).trans q3, (World.cell?_of_block (a := ⟨b, i, none⟩) (h _ hb)).trans e0, (World.cell?_of_block (a := ⟨b, i + 1, none⟩) (h _ hb)).trans e1, (World.cell?_of_block (a := ⟨b, i + 2, none⟩) (h _ hb)).trans e2, (World.cell?_of_block (a := ⟨b, i + 3, none⟩) (h _ hb)).trans e3⟩
end Go.Proofs.Ytcnhfoppfihhiaa
/- A region whose last operation waits for all others: a load may be taken first where nobody but that last one writes its cell. (The library's law on held cells asks that the condition hold behind the last operation, too; this one does not.) No condition but those that stand in each statement. -/
namespace Go.Proofs.Ytcnhfoppfihhiaa
open Go

section
variable {P : Program} {ops : Array Oper} {Q : Exit → Act → World → Prop} {md : Region.Mode} {S : World → Prop} {m : Nat}

/-- Whatever order is picked from here on, and S holds behind every operation that is carried out, but m. -/
def wpAnyL (P : Program) (md : Region.Mode) (ops : Array Oper) (Q : Exit → Act → World → Prop) (S : World → Prop) (m : Nat) : Nat → Array Bool → Act → World → Prop
  | 0, listed, a, w => Region.ready md ops listed = [] ∧ Q .normal a w
  | fuel + 1, listed, a, w =>
    (Region.ready md ops listed = [] → Q .normal a w) ∧
    ∀ i ∈ Region.ready md ops listed, wpOp P ops Q i (fun a' w' => (i ≠ m → S w') ∧ wpAnyL P md ops Q S m fuel (listed.setIfInBounds i true) a' w') a w

theorem wpAny_of_L : ∀ (fuel : Nat) (listed : Array Bool) (a : Act) (w : World), wpAnyL P md ops Q S m fuel listed a w → wpAny P md ops Q fuel listed a w
  | 0, _, _, _, h => h
  | fuel + 1, _, _, _, h => ⟨h.1, fun i hi => wpOp_mono (fun a' w' h' => wpAny_of_L fuel _ a' w' h'.2) (h.2 i hi)⟩

/-- Does m wait for i? -/
def waitsFor (md : Region.Mode) (ops : Array Oper) (m i : Nat) : Bool := match ops[m]? with
  | some o => i != m && o.after.any (fun e => Region.binds md e && e.on == i)
  | none => false
theorem waitsFor_spec {i : Nat} (h : waitsFor md ops m i = true) : i ≠ m ∧ ∀ o, ops[m]? = some o → ∃ e ∈ o.after, Region.binds md e = true ∧ e.on = i := by
  unfold waitsFor at h
  split at h
  · rename_i o ho
    simp only [Bool.and_eq_true, bne_iff_ne, ne_eq] at h
    refine ⟨h.1, fun o' ho' => ?_⟩
    rw [ho] at ho'
    injection ho' with ho'
    subst ho'
    obtain ⟨j, hj, h2⟩ := Array.any_eq_true.1 h.2
    simp only [Bool.and_eq_true, beq_iff_eq] at h2
    exact ⟨_, Array.getElem_mem hj, h2.1, h2.2⟩
  · cases h

theorem wpAnyL_first {i : Nat} {oi : Oper} {v : Value} (hi : ops[i]? = some oi) (hsel : ∀ (j : Nat) (o : Oper) cs b, ops[j]? = some o → o.op ≠ .select cs b)
    (hQ : ∀ c a w, Q (.panic c) (a.put oi.dst v) w → Q (.panic c) a w) (him : i ≠ m) (hmw : ∀ o, ops[m]? = some o → ∃ e ∈ o.after, Region.binds md e = true ∧ e.on = i) :
    ∀ (fuel : Nat) (listed : Array Bool) (a : Act) (w : World),
      (∀ j oj, ops[j]? = some oj → j ≠ i → listed.getD j true = false → (∀ e ∈ oj.after, Region.binds md e = true → e.on ≠ i) → oi.apart ops oj = true) →
      i ∈ Region.ready md ops listed → YieldsIf P ops S oi v a → S w →
      wpAnyL P md ops Q S m fuel (listed.setIfInBounds i true) (a.put oi.dst v) w → wpAnyL P md ops Q S m (fuel + 1) listed a w := by
  intro fuel
  induction fuel with
  | zero =>
    intro listed a w _ hr hy hS H
    refine ⟨fun h => (by rw [h] at hr; cases hr), fun j hj => ?_⟩
    by_cases hji : j = i
    · subst hji; exact hy.wpOp hi hS ⟨fun _ => hS, H⟩
    · have := ready_mono hj hji
      rw [H.1] at this
      cases this
  | succ fuel ih =>
    intro listed a w hfree hr hy hS H
    refine ⟨fun h => (by rw [h] at hr; cases hr), fun j hj => ?_⟩
    by_cases hji : j = i
    · subst hji; exact hy.wpOp hi hS ⟨fun _ => hS, H⟩
    · have h1 := H.2 j (ready_mono hj hji)
      obtain ⟨hjun, oj, hoj, hall⟩ := mem_ready.1 hj
      have hnot : ∀ e ∈ oj.after, Region.binds md e = true → e.on ≠ i := fun e he hb heq => by
        have h1 := hall e he hb
        have h0 := (mem_ready.1 hr).1
        rw [heq] at h1
        rcases Nat.lt_or_ge i listed.size with h' | h'
        · simp [h'] at h0 h1; rw [h0] at h1; cases h1
        · simp [Array.getElem?_eq_none h'] at h1
      have hjm : j ≠ m := fun h => by
        subst h
        obtain ⟨e, he, hb, heq⟩ := hmw oj hoj
        exact hnot e he hb heq
      have h2 := wpOp_putIf hoj (hfree j oj hoj hji hjun hnot) (fun cs b => hsel i oi cs b hi) (fun cs b => hsel j oj cs b hoj) hQ hy h1
      have hfree' : ∀ k ok, ops[k]? = some ok → k ≠ i → (listed.setIfInBounds j true).getD k true = false →
          (∀ e ∈ ok.after, Region.binds md e = true → e.on ≠ i) → oi.apart ops ok = true := fun k ok hk hki hun hno => by
        refine hfree k ok hk hki ?_ hno
        by_cases hjk : j = k
        · subst hjk; exact hjun
        · rw [getD_set_ne true hjk] at hun; exact hun
      refine wpOp_mono (fun a' w' h3 => ⟨fun _ => h3.2.1 hjm, ih (listed.setIfInBounds j true) a' w' hfree' (ready_mono hr (Ne.symm hji)) h3.1 (h3.2.1 hjm) ?_⟩) h2
      rw [Array.setIfInBounds_comm _ _ hji]
      exact h3.2.2
/-- Take number i first: it may come up, yields v in every world that meets S, and m waits for it. -/
theorem wpAnyL_take {i : Nat} {oi : Oper} {v : Value} {fuel : Nat} {listed : Array Bool} {a : Act} {w : World} (hi : ops[i]? = some oi)
    (hs : Region.noSelect ops = true) (hf : Region.free md ops listed i = true) (hr : (Region.ready md ops listed).contains i = true) (hw : waitsFor md ops m i = true)
    (hQ : ∀ c a w, Q (.panic c) (a.put oi.dst v) w → Q (.panic c) a w) (hy : YieldsIf P ops S oi v a) (hS : S w)
    (h : wpAnyL P md ops Q S m fuel (listed.setIfInBounds i true) (a.put oi.dst v) w) : wpAnyL P md ops Q S m (fuel + 1) listed a w :=
  wpAnyL_first hi (Region.noSelect_spec hs) hQ (waitsFor_spec hw).1 (waitsFor_spec hw).2 fuel listed a w (Region.free_spec hi hf) (by simpa using hr) hy hS h
/-- The one operation that may come up next; behind it S is to be shown anew, unless it is the last one. -/
theorem wpAnyL_one {i : Nat} {o : Oper} {fuel : Nat} {listed : Array Bool} {a : Act} {w : World} (hr : Region.ready md ops listed = [i]) (ho : ops[i]? = some o) (him : i ≠ m)
    (h : ∀ K' : Act → World → Prop, Shut (∀ a w, S w → wpAnyL P md ops Q S m fuel (listed.setIfInBounds i true) a w → K' a w) → if Region.wanted o (yielded ops a.tmps) = true then Oper.wp P o a w K' Q else K' (a.put o.dst undef) w) :
    wpAnyL P md ops Q S m (fuel + 1) listed a w := by
  refine ⟨fun h0 => (by rw [hr] at h0; cases h0), fun j hj => ?_⟩
  rw [hr] at hj
  obtain rfl : j = i := by simpa using hj
  exact wpOp_step ho (fun K' hK => h K' (fun a w hS hW => hK a w ⟨fun _ => hS, hW⟩))
theorem wpAnyL_last {o : Oper} {fuel : Nat} {listed : Array Bool} {a : Act} {w : World} (hr : Region.ready md ops listed = [m]) (ho : ops[m]? = some o)
    (h : ∀ K' : Act → World → Prop, Shut (∀ a w, wpAnyL P md ops Q S m fuel (listed.setIfInBounds m true) a w → K' a w) → if Region.wanted o (yielded ops a.tmps) = true then Oper.wp P o a w K' Q else K' (a.put o.dst undef) w) :
    wpAnyL P md ops Q S m (fuel + 1) listed a w := by
  refine ⟨fun h0 => (by rw [hr] at h0; cases h0), fun j hj => ?_⟩
  rw [hr] at hj
  obtain rfl : j = m := by simpa using hj
  exact wpOp_step ho (fun K' hK => h K' (fun a w hW => hK a w ⟨fun h => absurd rfl h, hW⟩))
theorem wpAnyL_done {listed : Array Bool} {a : Act} {w : World} (hr : Region.ready md ops listed = []) (h : Q .normal a w) : ∀ fuel, wpAnyL P md ops Q S m fuel listed a w
  | 0 => ⟨hr, h⟩
  | _ + 1 => ⟨fun _ => h, by rw [hr]; simp⟩
/-- The beginning. -/
theorem wp_region_L {id : Nat} {a : Act} {w : World} (S : World → Prop) (m : Nat) (hm : P.follows .mixedOrders = true)
    (h : wpAnyL P .any ops Q S m ops.size (Array.replicate ops.size false) a w.drew) : (Code.region id ops true).wp P Q a w :=
  wp_region_any hm (wpAny_of_L _ _ _ _ h)
end
end Go.Proofs.Ytcnhfoppfihhiaa
/- The contract of the document's own lift. No condition but that the term is well-formed and lies in memory. -/
namespace Go.Proofs.Ytcnhfoppfihhiaa
open Go.RowKit

set_option maxRecDepth 100000 in
set_option maxHeartbeats 8000000 in
theorem r13lift_any (by' : Int) (hy0 : 0 ≤ by') (hy1 : by' ≤ 2000) (s : Nat) : ∀ (f : Ft), f.size < s → f.size ≤ 1000 → ∀ (k n fr : Int) (ls : Fo) (la ka : Option Addr) (lc kc B : Nat) (w : World), wf1 1030 k n ls f → 0 ≤ fr → fr + f.size ≤ 4000 → SlIn w (· < B) ls la lc → TlIn w (· < B) f ka kc → B ≤ w.heap.size →
    Calls Try.prog 45 #[.agg #[.int .i64 k, .int .i64 n, .slice la ls.len lc, .slice ka f.len kc], .int .i64 fr, .int .i64 by'] w (TmPost B (lf1 by' k n ls f fr) w) := by
  induction s with
  | zero => intro f hs; omega
  | succ s ih =>
    intro f hs hsz k n fr ls la ka lc kc B w hwf hf0 hf1 hls hsl hB
    have IH := Lib.hid ih
    clear ih
    have hlen := hsl.len
    by_cases hk : k = 1
    · subst hk
      obtain ⟨rfl, rfl, hn0, hn1⟩ := wf1_leaf hwf
      have HLS := Lib.hid hls
      by_cases hc : fr ≤ n
      · have e : lf1 by' 1 n .nil .nil fr = ⟨1, n + by', .nil, .nil⟩ := by unfold lf1; rw [if_pos ⟨rfl, hc⟩]; rfl
        rw [e]
        obtain ⟨q0, q1, q2, q3⟩ := cells4 ((heap_old (((w.alloc (.cells #[.int .i64 1, .int .i64 n, .slice la 0 lc, .slice ka 0 kc] 29)).alloc (.cells #[.int .i64 0, .int .i64 0, .slice none 0 0, .slice none 0 0] 29))) (.cells #[.int .i64 1, .int .i64 (n + by'), .slice la 0 lc, .slice none 0 0] 29) (by simp; omega : w.heap.size < _)).trans ((heap_old _ _ (by simp)).trans (heap_new _ _)))
        clear e hls hsl hwf IH
        simp only [Ft.len, Fo.len]
        go_enter Try.func45, Try.ntmps45
        go_wp2_with fail
        go_loopw [8] (fun i wr => i = .int .i64 0 ∧ wr = (((w.alloc (.cells #[.int .i64 1, .int .i64 n, .slice la 0 lc, .slice ka 0 kc] 29)).alloc (.cells #[.int .i64 0, .int .i64 0, .slice none 0 0, .slice none 0 0] 29)).alloc (.cells #[.int .i64 1, .int .i64 (n + by'), .slice la 0 lc, .slice none 0 0] 29))) (fun _ _ => 0)
        case atStart => exact ⟨rfl, rfl⟩
        case round =>
          obtain ⟨rfl, rfl⟩ := hrel
          go_wp2_with fail
          refine bodyPost_ret (v := .agg #[.int .i64 1, .int .i64 (n + by'), .slice la 0 lc, .slice none 0 0]) (by simp [results, Try.results45, go_sem]) rfl ?_
          exact ⟨la, lc, none, 0, rfl, ⟨HLS.out.1, HLS.out.2.1, HLS.out.2.2.1, fun h => by simp [Fo.len] at h⟩, TlIn.none _ _, (((Below.refl _ _).alloc (Nat.le_refl _) _).alloc (by simp) _).alloc (by simp; omega) _⟩
      · have e : lf1 by' 1 n .nil .nil fr = ⟨1, n, .nil, .nil⟩ := by unfold lf1; rw [if_neg (fun h => hc h.2)]; rfl
        rw [e]
        obtain ⟨q0, q1, q2, q3⟩ := cells4 ((heap_old (((w.alloc (.cells #[.int .i64 1, .int .i64 n, .slice la 0 lc, .slice ka 0 kc] 29)).alloc (.cells #[.int .i64 0, .int .i64 0, .slice none 0 0, .slice none 0 0] 29))) (.cells #[.int .i64 1, .int .i64 n, .slice la 0 lc, .slice none 0 0] 29) (by simp; omega : w.heap.size < _)).trans ((heap_old _ _ (by simp)).trans (heap_new _ _)))
        have d1 : decide (fr ≤ n) = false := decide_eq_false hc
        clear e hls hsl hwf IH
        simp only [Ft.len, Fo.len]
        go_enter Try.func45, Try.ntmps45
        go_wp2_with fail
        go_loopw [8] (fun i wr => i = .int .i64 0 ∧ wr = (((w.alloc (.cells #[.int .i64 1, .int .i64 n, .slice la 0 lc, .slice ka 0 kc] 29)).alloc (.cells #[.int .i64 0, .int .i64 0, .slice none 0 0, .slice none 0 0] 29)).alloc (.cells #[.int .i64 1, .int .i64 n, .slice la 0 lc, .slice none 0 0] 29))) (fun _ _ => 0)
        case atStart => exact ⟨rfl, rfl⟩
        case round =>
          obtain ⟨rfl, rfl⟩ := hrel
          go_wp2_with fail
          refine bodyPost_ret (v := .agg #[.int .i64 1, .int .i64 n, .slice la 0 lc, .slice none 0 0]) (by simp [results, Try.results45, go_sem]) rfl ?_
          exact ⟨la, lc, none, 0, rfl, ⟨HLS.out.1, HLS.out.2.1, HLS.out.2.2.1, fun h => by simp [Fo.len] at h⟩, TlIn.none _ _, (((Below.refl _ _).alloc (Nat.le_refl _) _).alloc (by simp) _).alloc (by simp; omega) _⟩
    · have hk' : (k == 1) = false := beq_eq_false_iff_ne.2 hk
      have e : lf1 by' k n ls f fr = ⟨k, n, ls, lfF by' f k 0 fr⟩ := by unfold lf1; rw [if_neg (fun h => hk h.1)]
      rw [e]
      have HW := Lib.hid hwf.2.2
      have HLS := Lib.hid hls
      have HSL := Lib.hid hsl
      have HS := Lib.hid (TrQ.start1 (k := k) (n := n) (ls := ls) (la := la) (lc := lc) (.cells #[.int .i64 k, .int .i64 n, .slice la ls.len lc, .slice ka f.len kc] 29) hB)
      have HBX : Hid ((((w.alloc (.cells #[.int .i64 k, .int .i64 n, .slice la ls.len lc, .slice ka f.len kc] 29)).alloc (.cells #[.int .i64 0, .int .i64 0, .slice none 0 0, .slice none 0 0] 29)).alloc (.cells #[.int .i64 k, .int .i64 n, .slice la ls.len lc, .slice none 0 0] 29)).heap[w.heap.size]? = some (.cells #[.int .i64 k, .int .i64 n, .slice la ls.len lc, .slice ka f.len kc] 29 (0, 0))) := Lib.hid ((heap_old _ _ (by simp; omega)).trans ((heap_old _ _ (by simp)).trans (heap_new _ _)))
      clear e hk hwf hls hsl
      go_enter Try.func45, Try.ntmps45
      go_wp2_with fail
      go_loopw [8] (fun jv wr => ∃ (j : Nat) (H rest : Ft) (v : Value), jv = .int .i64 j ∧ Hid (f = H.app rest) ∧ Hid (H.len = j) ∧ Hid (TrQ w (w.heap.size + 1) (w.heap.size + 1 + 1) B k n ls la lc (lfF by' H k 0 fr) v wr) ∧ Hid (wr.heap[w.heap.size]? = some (.cells #[.int .i64 k, .int .i64 n, .slice la ls.len lc, .slice ka f.len kc] 29 (0, 0)))) (fun jv _ => f.len - (intOf jv).toNat)
      case atStart => exact ⟨0, .nil, f, _, rfl, Lib.hid rfl, Lib.hid rfl, HS, HBX⟩
      case round =>
        obtain ⟨j, H, rest, v, rfl, hf, hj, hR, hbx⟩ := hrel
        obtain ⟨⟨g0, g1, g2, g3, gz⟩, ⟨q0, q1, q2, q3, qz⟩, hob, hwr⟩ := hR.out.facts
        obtain ⟨c0, _, _, c3⟩ := cells4 hbx.out
        cases rest with
        | nil =>
          have hjl : ¬ (j : Int) < (f.len : Int) := by rw [hf.out, Ft.app_nil, hj.out]; omega
          have dj : decide ((j : Int) < (f.len : Int)) = false := by simpa using hjl
          obtain ⟨x, c, rfl, hE⟩ := hR.out.done HLS.out
          have HE := Lib.hid hE
          have HF : Hid (f = H) := Lib.hid (by rw [hf.out, Ft.app_nil])
          clear hE hR hf
          go_wp2_with fail
          refine bodyPost_ret (v := .agg #[.int .i64 k, .int .i64 n, .slice la ls.len lc, .slice x (lfF by' H k 0 fr).len c]) (by simp [results, Try.results45, go_sem, g0, g1, g2, g3]) rfl ?_
          rw [HF.out]
          exact HE.out
        | cons k' n' ls' ks r' =>
          have hjn : j < f.len := by rw [hf.out, Ft.app_len, hj.out]; simp [Ft.len]
          have hjl : (j : Int) < (f.len : Int) := by omega
          obtain ⟨bq, o, rfl, hbB, hf0'⟩ := HSL.out.some (by omega)
          have hfa : FtIn w (· < B) (.cons k' n' ls' ks r') bq (o + j * 4) := by
            have h1 := hf0'
            rw [hf.out] at h1
            rw [← hj.out]
            exact FtIn.behind H _ bq o h1
          obtain ⟨e0, e1, ⟨la', lc', e2, hls'⟩, ⟨ka', kc', e3, hsl'⟩, _⟩ := (hfa.below (hwr.mono hB) _ _ _ hbB).first
          have hfs : f.size = H.size + (ks.size + r'.size + 1) := by rw [hf.out, Ft.app_size]; rfl
          have hks : ks.size < s := by omega
          have hwk' : wf1 1030 k' n' ls' ks := by
            have h1 := HW.out
            rw [hf.out, wfF_app] at h1
            exact (wfF_parts h1.2).1
          have hbi := bindK_le k j
          have hBr : B ≤ wr.heap.size := Nat.le_trans hB hwr.size
          have hbk : Below wr.heap.size wr wr.drew := (Below.refl _ _).drew
          have HC : Hid (Calls Try.prog 45 #[.agg #[.int .i64 k', .int .i64 n', .slice la' ls'.len lc', .slice ka' ks.len kc'], .int .i64 (fr + bindK k j), .int .i64 by'] wr.drew (TmPost B (lf1 by' k' n' ls' ks (fr + bindK k j)) wr.drew)) :=
            Lib.hid (IH.out ks hks (by omega) k' n' (fr + bindK k j) ls' la' ka' lc' kc' B _ hwk' (by omega) (by omega) (hls'.below (hbk.mono hBr)) (hsl'.below (hbk.mono hBr)) (Nat.le_trans hBr hbk.size))
          have hGl : (lfF by' H k 0 fr).len = j := by rw [lfF_len, hj.out]
          have hT' : lfF by' (H.app (.cons k' n' ls' ks .nil)) k 0 fr = (lfF by' H k 0 fr).app (lf1 by' k' n' ls' ks (fr + bindK k j)).one := by
            rw [lfF_app, lfF_cons, hj.out, Nat.zero_add]; rfl
          have HAP : Hid (∀ (e : Ending) (w2 : World), TmPost B (lf1 by' k' n' ls' ks (fr + bindK k j)) wr.drew e w2 → ∃ (T : Tm) (x1 : Option Addr) (y1 : Nat) (x2 : Option Addr) (y2 : Nat), e = .returned (.agg #[.int .i64 T.k, .int .i64 T.n, .slice x1 T.ls.len y1, .slice x2 T.ks.len y2]) ∧
              w2.cell? ⟨w.heap.size + 1 + 1, 3, none⟩ = some v ∧ w.heap.size + 1 + 1 < w2.heap.size ∧ (w2.alloc (.cells #[.int .i64 T.k, .int .i64 T.n, .slice x1 T.ls.len y1, .slice x2 T.ks.len y2] 29)).cell? ⟨w.heap.size + 1 + 1, 3, none⟩ = some v ∧
              Hid (∀ q, q ≤ w.heap.size → w2.heap[q]? = wr.heap[q]?) ∧ Hid (∀ q, q ≤ w.heap.size → (w2.alloc (.cells #[.int .i64 T.k, .int .i64 T.n, .slice x1 T.ls.len y1, .slice x2 T.ks.len y2] 29)).heap[q]? = wr.heap[q]?) ∧
              ∃ g' cap' w3, Hid ((Builtin.append_ #[27, 27] 27 #[v, .slice (some ⟨w2.heap.size, 0, none⟩) 1 1]).run Try.prog (w2.alloc (.cells #[.int .i64 T.k, .int .i64 T.n, .slice x1 T.ls.len y1, .slice x2 T.ks.len y2] 29)) = .ok (.slice (some ⟨g', 0, none⟩) (j + 1) cap') w3) ∧
                w3.cell? ⟨w.heap.size + 1 + 1, 3, none⟩ = some v ∧ (∀ o, w3.frozen? ⟨w.heap.size + 1 + 1, o, none⟩ = false) ∧ Hid (∀ q, q ≤ w.heap.size → w3.heap[q]? = wr.heap[q]?) ∧
                Hid (TrQ w (w.heap.size + 1) (w.heap.size + 1 + 1) B k n ls la lc (lfF by' (H.app (.cons k' n' ls' ks .nil)) k 0 fr) (.slice (some ⟨g', 0, none⟩) (j + 1) cap') (w3.setCell ⟨w.heap.size + 1 + 1, 3, none⟩ (.slice (some ⟨g', 0, none⟩) (j + 1) cap'))) ∧ Hid ((w3.setCell ⟨w.heap.size + 1 + 1, 3, none⟩ (.slice (some ⟨g', 0, none⟩) (j + 1) cap')).heap[w.heap.size]? = some (.cells #[.int .i64 k, .int .i64 n, .slice la ls.len lc, .slice (some ⟨bq, o, none⟩) f.len kc] 29 (0, 0)))) := Lib.hid (by
            rintro e w2 ⟨x1, y1, x2, y2, rfl, t0, t1, t2⟩
            have hG1 : (lfF by' H k 0 fr).len ≤ 1000 := by rw [hGl]; have h1 := Ft.len_le_size f; omega
            have t4 : Below wr.heap.size wr w2 := Below.trans (Below.refl _ _).drew t2
            have hz4 := t4.size
            have hw4 := hwr.size
            obtain ⟨L2, hlb2, g', cap', w3, hrun, L3, Z3, hq, hN⟩ := TrQ.next hR.out hG1 t0 t1 t4
            rw [hGl] at hrun hN
            rw [hT']
            refine ⟨_, x1, y1, x2, y2, rfl, L2, hlb2, (World.cell?_of_block (w := w2) (a := ⟨w.heap.size + 1 + 1, 3, none⟩) (heap_old w2 _ hlb2)).trans L2, Lib.hid (fun q hq => t4.block q (by omega)), Lib.hid (fun q hq => (heap_old w2 _ (by omega)).trans (t4.block q (by omega))), g', cap', w3, Lib.hid hrun, L3, Z3, Lib.hid (fun q h => hq q (by omega)), Lib.hid hN, Lib.hid ?_⟩
            have nq : w.heap.size ≠ w.heap.size + 1 + 1 := by omega
            rw [Below.heap_setCell _ _ _ _ nq]
            exact (hq _ (by omega)).trans hbx.out)
          have HSN : Hid (f = (H.app (.cons k' n' ls' ks .nil)).app r') := Lib.hid (by rw [hf.out, Ft.app_assoc]; rfl)
          have HJ := Lib.hid hj.out
          have HW1 : Hid (IntKind.i64.wrap (fr + bindK k j) = fr + bindK k j) := Lib.hid (IntWalk.i64_in _ (by omega))
          have HBI : Hid (∀ W, Calls Try.prog 46 #[.int .i64 k, .int .i64 j] W fun e w' => e = .returned (.int .i64 (bindK k j)) ∧ w' = W) := Lib.hid (r13binds_any k j)
          have hbN : bq ≤ w.heap.size := by omega
          generalize bindK k j = Y at HC HAP HW1 HBI
          generalize lf1 by' k' n' ls' ks (fr + Y) = TT at HC HAP
          clear hf hR hfa hf0' hGl hT' g0 g1 g2 g3 gz q0 q1 q2 qz hls' hsl' hwk' hbi hfs hbk
          go_wp2_with fail
          refine wp_region_L (fun (w' : World) => w'.cell? ⟨w.heap.size + 1 + 1, 3, none⟩ = some v ∧ w'.cell? ⟨w.heap.size, 0, none⟩ = some (.int .i64 k) ∧ w'.cell? ⟨w.heap.size, 3, none⟩ = some (.slice (some ⟨bq, o, none⟩) f.len kc) ∧ w'.cell? ⟨bq, o + j * 4, none⟩ = some (.int .i64 k') ∧ w'.cell? ⟨bq, o + j * 4 + 1, none⟩ = some (.int .i64 n') ∧ w'.cell? ⟨bq, o + j * 4 + 2, none⟩ = some (.slice la' ls'.len lc') ∧ w'.cell? ⟨bq, o + j * 4 + 3, none⟩ = some (.slice ka' ks.len kc')) 18 (by kernel_rfl) ?_
          have hH := (show (fun (w' : World) => w'.cell? ⟨w.heap.size + 1 + 1, 3, none⟩ = some v ∧ w'.cell? ⟨w.heap.size, 0, none⟩ = some (.int .i64 k) ∧ w'.cell? ⟨w.heap.size, 3, none⟩ = some (.slice (some ⟨bq, o, none⟩) f.len kc) ∧ w'.cell? ⟨bq, o + j * 4, none⟩ = some (.int .i64 k') ∧ w'.cell? ⟨bq, o + j * 4 + 1, none⟩ = some (.int .i64 n') ∧ w'.cell? ⟨bq, o + j * 4 + 2, none⟩ = some (.slice la' ls'.len lc') ∧ w'.cell? ⟨bq, o + j * 4 + 3, none⟩ = some (.slice ka' ks.len kc')) wr.drew from ⟨q3, c0, c3, e0, e1, e2, e3⟩)
          try simp only [Act.put, List.setIfInBounds_toArray, List.set_cons_zero, List.set_cons_succ]
          refine wpAnyL_take (i := 0) (v := ?_) (by simp only [List.getElem?_toArray, List.getElem?_cons_zero]; rfl) (by kernel_rfl) (by kernel_rfl) (by kernel_rfl) (by kernel_rfl) (by intro _ _ _ h; exact h) (Or.inl ⟨by rfl, ?_⟩) hH ?_
          rotate_left
          · intro w' hSw
            obtain ⟨s0, s1, s2, s3, s4, s5, s6⟩ := hSw
            go_simp
            try with_reducible rfl
          try simp only [Act.put, List.setIfInBounds_toArray, List.set_cons_zero, List.set_cons_succ]
          refine wpAnyL_take (i := 1) (v := ?_) (by simp only [List.getElem?_toArray, List.getElem?_cons_succ, List.getElem?_cons_zero]; rfl) (by kernel_rfl) (by kernel_rfl) (by kernel_rfl) (by kernel_rfl) (by intro _ _ _ h; exact h) (Or.inl ⟨by rfl, ?_⟩) hH ?_
          rotate_left
          · intro w' hSw
            obtain ⟨s0, s1, s2, s3, s4, s5, s6⟩ := hSw
            go_simp
            try with_reducible rfl
          try simp only [Act.put, List.setIfInBounds_toArray, List.set_cons_zero, List.set_cons_succ]
          refine wpAnyL_take (i := 2) (v := ?_) (by simp only [List.getElem?_toArray, List.getElem?_cons_succ, List.getElem?_cons_zero]; rfl) (by kernel_rfl) (by kernel_rfl) (by kernel_rfl) (by kernel_rfl) (by intro _ _ _ h; exact h) (Or.inl ⟨by rfl, ?_⟩) hH ?_
          rotate_left
          · intro w' hSw
            obtain ⟨s0, s1, s2, s3, s4, s5, s6⟩ := hSw
            go_simp
            try with_reducible rfl
          try simp only [Act.put, List.setIfInBounds_toArray, List.set_cons_zero, List.set_cons_succ]
          refine wpAnyL_take (i := 3) (v := ?_) (by simp only [List.getElem?_toArray, List.getElem?_cons_succ, List.getElem?_cons_zero]; rfl) (by kernel_rfl) (by kernel_rfl) (by kernel_rfl) (by kernel_rfl) (by intro _ _ _ h; exact h) (Or.inl ⟨by rfl, ?_⟩) hH ?_
          rotate_left
          · intro w' hSw
            obtain ⟨s0, s1, s2, s3, s4, s5, s6⟩ := hSw
            go_simp
            try with_reducible rfl
          try simp only [Act.put, List.setIfInBounds_toArray, List.set_cons_zero, List.set_cons_succ]
          refine wpAnyL_take (i := 4) (v := ?_) (by simp only [List.getElem?_toArray, List.getElem?_cons_succ, List.getElem?_cons_zero]; rfl) (by kernel_rfl) (by kernel_rfl) (by kernel_rfl) (by kernel_rfl) (by intro _ _ _ h; exact h) (Or.inl ⟨by rfl, ?_⟩) hH ?_
          rotate_left
          · intro w' hSw
            obtain ⟨s0, s1, s2, s3, s4, s5, s6⟩ := hSw
            go_simp
            try with_reducible rfl
          try simp only [Act.put, List.setIfInBounds_toArray, List.set_cons_zero, List.set_cons_succ]
          refine wpAnyL_take (i := 5) (v := ?_) (by simp only [List.getElem?_toArray, List.getElem?_cons_succ, List.getElem?_cons_zero]; rfl) (by kernel_rfl) (by kernel_rfl) (by kernel_rfl) (by kernel_rfl) (by intro _ _ _ h; exact h) (Or.inl ⟨by rfl, ?_⟩) hH ?_
          rotate_left
          · intro w' hSw
            obtain ⟨s0, s1, s2, s3, s4, s5, s6⟩ := hSw
            go_simp
            try with_reducible rfl
          try simp only [Act.put, List.setIfInBounds_toArray, List.set_cons_zero, List.set_cons_succ]
          refine wpAnyL_take (i := 6) (v := ?_) (by simp only [List.getElem?_toArray, List.getElem?_cons_succ, List.getElem?_cons_zero]; rfl) (by kernel_rfl) (by kernel_rfl) (by kernel_rfl) (by kernel_rfl) (by intro _ _ _ h; exact h) (Or.inl ⟨by rfl, ?_⟩) hH ?_
          rotate_left
          · intro w' hSw
            obtain ⟨s0, s1, s2, s3, s4, s5, s6⟩ := hSw
            go_simp
            try with_reducible rfl
          try simp only [Act.put, List.setIfInBounds_toArray, List.set_cons_zero, List.set_cons_succ]
          refine wpAnyL_take (i := 7) (v := ?_) (by simp only [List.getElem?_toArray, List.getElem?_cons_succ, List.getElem?_cons_zero]; rfl) (by kernel_rfl) (by kernel_rfl) (by kernel_rfl) (by kernel_rfl) (by intro _ _ _ h; exact h) (Or.inl ⟨by rfl, ?_⟩) hH ?_
          rotate_left
          · intro w' hSw
            obtain ⟨s0, s1, s2, s3, s4, s5, s6⟩ := hSw
            go_simp
            try with_reducible rfl
          try simp only [Act.put, List.setIfInBounds_toArray, List.set_cons_zero, List.set_cons_succ]
          refine wpAnyL_take (i := 8) (v := ?_) (by simp only [List.getElem?_toArray, List.getElem?_cons_succ, List.getElem?_cons_zero]; rfl) (by kernel_rfl) (by kernel_rfl) (by kernel_rfl) (by kernel_rfl) (by intro _ _ _ h; exact h) (Or.inl ⟨by rfl, ?_⟩) hH ?_
          rotate_left
          · intro w' hSw
            obtain ⟨s0, s1, s2, s3, s4, s5, s6⟩ := hSw
            go_simp
            try with_reducible rfl
          try simp only [Act.put, List.setIfInBounds_toArray, List.set_cons_zero, List.set_cons_succ]
          refine wpAnyL_take (i := 9) (v := ?_) (by simp only [List.getElem?_toArray, List.getElem?_cons_succ, List.getElem?_cons_zero]; rfl) (by kernel_rfl) (by kernel_rfl) (by kernel_rfl) (by kernel_rfl) (by intro _ _ _ h; exact h) (Or.inl ⟨by rfl, ?_⟩) hH ?_
          rotate_left
          · intro w' hSw
            obtain ⟨s0, s1, s2, s3, s4, s5, s6⟩ := hSw
            go_simp
            try with_reducible rfl
          try simp only [Act.put, List.setIfInBounds_toArray, List.set_cons_zero, List.set_cons_succ]
          refine wpAnyL_take (i := 10) (v := ?_) (by simp only [List.getElem?_toArray, List.getElem?_cons_succ, List.getElem?_cons_zero]; rfl) (by kernel_rfl) (by kernel_rfl) (by kernel_rfl) (by kernel_rfl) (by intro _ _ _ h; exact h) (Or.inl ⟨by rfl, ?_⟩) hH ?_
          rotate_left
          · intro w' hSw
            obtain ⟨s0, s1, s2, s3, s4, s5, s6⟩ := hSw
            go_simp
            try with_reducible rfl
          try simp only [Act.put, List.setIfInBounds_toArray, List.set_cons_zero, List.set_cons_succ]
          refine wpAnyL_take (i := 13) (v := ?_) (by simp only [List.getElem?_toArray, List.getElem?_cons_succ, List.getElem?_cons_zero]; rfl) (by kernel_rfl) (by kernel_rfl) (by kernel_rfl) (by kernel_rfl) (by intro _ _ _ h; exact h) (Or.inl ⟨by rfl, ?_⟩) hH ?_
          rotate_left
          · intro w' hSw
            obtain ⟨s0, s1, s2, s3, s4, s5, s6⟩ := hSw
            go_simp
            try with_reducible rfl
          try simp only [Act.put, List.setIfInBounds_toArray, List.set_cons_zero, List.set_cons_succ]
          refine wpAnyL_one (i := 11) (o := _) (by kernel_rfl) (by simp only [List.getElem?_toArray, List.getElem?_cons_succ, List.getElem?_cons_zero]; rfl) (by decide) (fun K hK => ?_)
          go_simp
          go_at_call 46
          refine (HBI.out _).mono ?_
          rintro e wM ⟨rfl, rfl⟩
          refine hK.out _ _ hH ?_
          clear hK K
          try simp only [Act.put, List.setIfInBounds_toArray, List.set_cons_zero, List.set_cons_succ]
          refine wpAnyL_take (i := 12) (v := ?_) (by simp only [List.getElem?_toArray, List.getElem?_cons_succ, List.getElem?_cons_zero]; rfl) (by kernel_rfl) (by kernel_rfl) (by kernel_rfl) (by kernel_rfl) (by intro _ _ _ h; exact h) (Or.inl ⟨by rfl, ?_⟩) hH ?_
          rotate_left
          · intro w' hSw
            obtain ⟨s0, s1, s2, s3, s4, s5, s6⟩ := hSw
            go_simp
            try with_reducible rfl
          try simp only [Act.put, List.setIfInBounds_toArray, List.set_cons_zero, List.set_cons_succ]
          refine wpAnyL_one (i := 14) (o := _) (by kernel_rfl) (by simp only [List.getElem?_toArray, List.getElem?_cons_succ, List.getElem?_cons_zero]; rfl) (by decide) (fun K hK => ?_)
          go_simp
          go_at_call 45
          rw [HW1.out]
          refine HC.out.mono ?_
          intro e w2 hP
          obtain ⟨T, x1, y1, x2, y2, rfl, L2, hlb2, L2a, K2, K2a, g', cap', w3, HRUN, L3, Z3, K3, HN, HBX2⟩ := HAP.out e w2 hP
          clear hP hH
          have hH := (show (fun (w' : World) => w'.cell? ⟨w.heap.size + 1 + 1, 3, none⟩ = some v ∧ w'.cell? ⟨w.heap.size, 0, none⟩ = some (.int .i64 k) ∧ w'.cell? ⟨w.heap.size, 3, none⟩ = some (.slice (some ⟨bq, o, none⟩) f.len kc) ∧ w'.cell? ⟨bq, o + j * 4, none⟩ = some (.int .i64 k') ∧ w'.cell? ⟨bq, o + j * 4 + 1, none⟩ = some (.int .i64 n') ∧ w'.cell? ⟨bq, o + j * 4 + 2, none⟩ = some (.slice la' ls'.len lc') ∧ w'.cell? ⟨bq, o + j * 4 + 3, none⟩ = some (.slice ka' ks.len kc')) w2 from ⟨L2, rqHeld K2.out hbN c0 c3 e0 e1 e2 e3⟩)
          refine hK.out _ _ hH ?_
          clear hK K
          try simp only [Act.put, List.setIfInBounds_toArray, List.set_cons_zero, List.set_cons_succ]
          refine wpAnyL_one (i := 15) (o := _) (by kernel_rfl) (by simp only [List.getElem?_toArray, List.getElem?_cons_succ, List.getElem?_cons_zero]; rfl) (by decide) (fun K hK => ?_)
          go_simp
          clear hH
          have hH := (show (fun (w' : World) => w'.cell? ⟨w.heap.size + 1 + 1, 3, none⟩ = some v ∧ w'.cell? ⟨w.heap.size, 0, none⟩ = some (.int .i64 k) ∧ w'.cell? ⟨w.heap.size, 3, none⟩ = some (.slice (some ⟨bq, o, none⟩) f.len kc) ∧ w'.cell? ⟨bq, o + j * 4, none⟩ = some (.int .i64 k') ∧ w'.cell? ⟨bq, o + j * 4 + 1, none⟩ = some (.int .i64 n') ∧ w'.cell? ⟨bq, o + j * 4 + 2, none⟩ = some (.slice la' ls'.len lc') ∧ w'.cell? ⟨bq, o + j * 4 + 3, none⟩ = some (.slice ka' ks.len kc')) _ from ⟨L2a, rqHeld K2a.out hbN c0 c3 e0 e1 e2 e3⟩)
          refine hK.out _ _ hH ?_
          clear hK K
          try simp only [Act.put, List.setIfInBounds_toArray, List.set_cons_zero, List.set_cons_succ]
          refine wpAnyL_one (i := 16) (o := _) (by kernel_rfl) (by simp only [List.getElem?_toArray, List.getElem?_cons_succ, List.getElem?_cons_zero]; rfl) (by decide) (fun K hK => ?_)
          refine step_append (by rfl) _ _ _ (by rfl) (by rfl) (by rfl) HRUN.out ?_
          clear hH
          have hH := (show (fun (w' : World) => w'.cell? ⟨w.heap.size + 1 + 1, 3, none⟩ = some v ∧ w'.cell? ⟨w.heap.size, 0, none⟩ = some (.int .i64 k) ∧ w'.cell? ⟨w.heap.size, 3, none⟩ = some (.slice (some ⟨bq, o, none⟩) f.len kc) ∧ w'.cell? ⟨bq, o + j * 4, none⟩ = some (.int .i64 k') ∧ w'.cell? ⟨bq, o + j * 4 + 1, none⟩ = some (.int .i64 n') ∧ w'.cell? ⟨bq, o + j * 4 + 2, none⟩ = some (.slice la' ls'.len lc') ∧ w'.cell? ⟨bq, o + j * 4 + 3, none⟩ = some (.slice ka' ks.len kc')) w3 from ⟨L3, rqHeld K3.out hbN c0 c3 e0 e1 e2 e3⟩)
          refine hK.out _ _ hH ?_
          clear hK K
          try simp only [Act.put, List.setIfInBounds_toArray, List.set_cons_zero, List.set_cons_succ]
          refine wpAnyL_take (i := 17) (v := ?_) (by simp only [List.getElem?_toArray, List.getElem?_cons_succ, List.getElem?_cons_zero]; rfl) (by kernel_rfl) (by kernel_rfl) (by kernel_rfl) (by kernel_rfl) (by intro _ _ _ h; exact h) (Or.inl ⟨by rfl, ?_⟩) hH ?_
          rotate_left
          · intro w' hSw
            obtain ⟨s0, s1, s2, s3, s4, s5, s6⟩ := hSw
            go_simp
            try with_reducible rfl
          try simp only [Act.put, List.setIfInBounds_toArray, List.set_cons_zero, List.set_cons_succ]
          refine wpAnyL_last (o := _) (by kernel_rfl) (by simp only [List.getElem?_toArray, List.getElem?_cons_succ, List.getElem?_cons_zero]; rfl) (fun K hK => ?_)
          go_simp
          refine hK.out _ _ ?_
          clear hK K hH
          try simp only [Act.put, List.setIfInBounds_toArray, List.set_cons_zero, List.set_cons_succ]
          refine wpAnyL_done (by kernel_rfl) ?_ _
          go_wp2_with fail
          go_roundw
          case rel => exact ⟨j + 1, _, r', _, by go_num, HSN, Lib.hid (by rw [Ft.app_len, HJ.out]; rfl), HN, HBX2⟩
          case measure => simp [intOf]; omega
end Go.Proofs.Ytcnhfoppfihhiaa
/- The contract of the document's own open. No condition but that the terms are well-formed and lie in memory. -/
namespace Go.Proofs.Ytcnhfoppfihhiaa
open Go.RowKit

theorem rqHeld2 {W w' : World} {N b i : Nat} {x0 x3 y0 y1 y2 y3 z0 z1 z2 z3 : Value} (h : ∀ q, q ≤ N + 1 → w'.heap[q]? = W.heap[q]?) (hb : b ≤ N) (q0 : W.cell? ⟨N, 0, none⟩ = some x0) (q3 : W.cell? ⟨N, 3, none⟩ = some x3) (e0 : W.cell? ⟨b, i, none⟩ = some y0) (e1 : W.cell? ⟨b, i + 1, none⟩ = some y1) (e2 : W.cell? ⟨b, i + 2, none⟩ = some y2) (e3 : W.cell? ⟨b, i + 3, none⟩ = some y3)
    (d0 : W.cell? ⟨N + 1, 0, none⟩ = some z0) (d1 : W.cell? ⟨N + 1, 1, none⟩ = some z1) (d2 : W.cell? ⟨N + 1, 2, none⟩ = some z2) (d3 : W.cell? ⟨N + 1, 3, none⟩ = some z3) :
    w'.cell? ⟨N, 0, none⟩ = some x0 ∧ w'.cell? ⟨N, 3, none⟩ = some x3 ∧ w'.cell? ⟨b, i, none⟩ = some y0 ∧ w'.cell? ⟨b, i + 1, none⟩ = some y1 ∧ w'.cell? ⟨b, i + 2, none⟩ = some y2 ∧ w'.cell? ⟨b, i + 3, none⟩ = some y3 ∧
    w'.cell? ⟨N + 1, 0, none⟩ = some z0 ∧ w'.cell? ⟨N + 1, 1, none⟩ = some z1 ∧ w'.cell? ⟨N + 1, 2, none⟩ = some z2 ∧ w'.cell? ⟨N + 1, 3, none⟩ = some z3 := by
  have g : ∀ q, q ≤ N → w'.heap[q]? = W.heap[q]? := fun q hq => h q (by omega)
  have k := h (N + 1) (Nat.le_refl _)
  exact ⟨(World.cell?_of_block (a := ⟨N, 0, none⟩) (g _ (Nat.le_refl _))).trans q0, (World.cell?_of_block (a := ⟨N, 3, none⟩) (g _ (Nat.le_refl _))).trans q3, (World.cell?_of_block (a := ⟨b, i, none⟩) (g _ hb)).trans e0, (World.cell?_of_block (a := ⟨b, i + 1, none⟩) (g _ hb)).trans e1, (World.cell?_of_block (a := ⟨b, i + 2, none⟩) (g _ hb)).trans e2, (World.cell?_of_block (a := ⟨b, i + 3, none⟩) (g _ hb)).trans e3,
    (World.cell?_of_block (a := ⟨N + 1, 0, none⟩) k).trans d0, (World.cell?_of_block (a := ⟨N + 1, 1, none⟩) k).trans d1, (World.cell?_of_block (a := ⟨N + 1, 2, none⟩) k).trans d2, (World.cell?_of_block (a := ⟨N + 1, 3, none⟩) k).trans d3⟩

set_option maxRecDepth 100000 in
set_option maxHeartbeats 8000000 in
theorem r13open_any (U : Tm) (hU : wf1 1030 U.k U.n U.ls U.ks) (hUs : U.ks.size ≤ 1000) (s : Nat) : ∀ (f : Ft), f.size < s → f.size ≤ 1000 → ∀ (k n at' : Int) (ls : Fo) (la ka ua va : Option Addr) (lc kc uc vc B : Nat) (w : World), wf1 1030 k n ls f → 0 ≤ at' → at' + f.size ≤ 2000 → SlIn w (· < B) ls la lc → TlIn w (· < B) f ka kc → SlIn w (· < B) U.ls ua uc → TlIn w (· < B) U.ks va vc → B ≤ w.heap.size →
    Calls Try.prog 29 #[.agg #[.int .i64 k, .int .i64 n, .slice la ls.len lc, .slice ka f.len kc], .int .i64 at', .agg #[.int .i64 U.k, .int .i64 U.n, .slice ua U.ls.len uc, .slice va U.ks.len vc]] w (TmPost B (op1 U k n ls f at') w) := by
  induction s with
  | zero => intro f hs; omega
  | succ s ih =>
    intro f hs hsz k n at' ls la ka ua va lc kc uc vc B w hwf hf0 hf1 hls hsl hul hvl hB
    have IH := Lib.hid ih
    clear ih
    have hlen := hsl.len
    by_cases hk : k = 1
    · subst hk
      obtain ⟨rfl, rfl, hn0, hn1⟩ := wf1_leaf hwf
      have HLS := Lib.hid hls
      by_cases hc : n = at'
      · have e : op1 U 1 n .nil .nil at' = lf1 at' U.k U.n U.ls U.ks 0 := by unfold op1; rw [if_pos ⟨rfl, hc⟩]
        rw [e]
        have hb : Below w.heap.size w (((w.alloc (.cells #[.int .i64 1, .int .i64 n, .slice la 0 lc, .slice ka 0 kc] 29)).alloc (.cells #[.int .i64 U.k, .int .i64 U.n, .slice ua U.ls.len uc, .slice va U.ks.len vc] 29)).alloc (.cells #[.int .i64 0, .int .i64 0, .slice none 0 0, .slice none 0 0] 29)) := (((Below.refl _ _).alloc (Nat.le_refl _) _).alloc (by simp) _).alloc (by simp; omega) _
        have HC := Lib.hid (r13lift_any at' hf0 (by simp [Ft.size] at hf1; omega) (U.ks.size + 1) U.ks (Nat.lt_succ_self _) hUs U.k U.n 0 U.ls ua va uc vc B _ hU (by omega) (by omega) (hul.below (hb.mono hB)) (hvl.below (hb.mono hB)) (Nat.le_trans hB hb.size))
        have HR0 : Hid ((((w.alloc (.cells #[.int .i64 1, .int .i64 n, .slice la 0 lc, .slice ka 0 kc] 29)).alloc (.cells #[.int .i64 U.k, .int .i64 U.n, .slice ua U.ls.len uc, .slice va U.ks.len vc] 29)).alloc (.cells #[.int .i64 0, .int .i64 0, .slice none 0 0, .slice none 0 0] 29)).heap[w.heap.size + 1 + 1]? = some (.cells #[.int .i64 0, .int .i64 0, .slice none 0 0, .slice none 0 0] 29 (0, 0))) := Lib.hid (by
          have := heap_second (w.alloc (.cells #[.int .i64 1, .int .i64 n, .slice la 0 lc, .slice ka 0 kc] 29)) (.cells #[.int .i64 U.k, .int .i64 U.n, .slice ua U.ls.len uc, .slice va U.ks.len vc] 29) (.cells #[.int .i64 0, .int .i64 0, .slice none 0 0, .slice none 0 0] 29); simpa using this)
        have HB := Lib.hid hb
        have d1 : (n == at') = true := beq_iff_eq.2 hc
        generalize lf1 at' U.k U.n U.ls U.ks 0 = T at HC
        clear e hb hls hsl hul hvl hwf IH hc
        simp only [Ft.len, Fo.len]
        go_enter Try.func29, Try.ntmps29
        go_wp2_with fail
        refine HC.out.mono ?_
        rintro e w1 ⟨x1, y1, x2, y2, rfl, hl1, hs1, hb2⟩
        have hR1 := (hb2.block (w.heap.size + 1 + 1) (by simp)).trans HR0.out
        obtain ⟨g0, g1, g2, g3⟩ := cells4 hR1
        have gz := free_of hR1
        have hlt := lt_of_block hR1
        have HE := Lib.hid (TmPost.store (B := B) (w := w) (R := w.heap.size + 1 + 1) (T := T) hl1 hs1 (Below.step HB.out hb2 (Nat.le_refl _)) hB (by omega) (by simp))
        clear hl1 hs1 hb2 hR1
        go_wp2_with fail
        refine bodyPost_ret (v := .agg #[.int .i64 T.k, .int .i64 T.n, .slice x1 T.ls.len y1, .slice x2 T.ks.len y2]) (by simp [results, Try.results29, go_sem, g0, g1, g2, g3]) rfl ?_
        exact HE.out
      · have d1 : (n == at') = false := beq_eq_false_iff_ne.2 hc
        by_cases hd : at' < n
        · have e : op1 U 1 n .nil .nil at' = ⟨1, n - 1, .nil, .nil⟩ := by unfold op1; rw [if_neg (fun h => hc h.2), if_pos ⟨rfl, hd⟩]; rfl
          rw [e]
          obtain ⟨q0, q1, q2, q3⟩ := cells4 ((heap_old ((((w.alloc (.cells #[.int .i64 1, .int .i64 n, .slice la 0 lc, .slice ka 0 kc] 29)).alloc (.cells #[.int .i64 U.k, .int .i64 U.n, .slice ua U.ls.len uc, .slice va U.ks.len vc] 29)).alloc (.cells #[.int .i64 0, .int .i64 0, .slice none 0 0, .slice none 0 0] 29))) (.cells #[.int .i64 1, .int .i64 (n - 1), .slice la 0 lc, .slice none 0 0] 29) (by simp; omega : w.heap.size < _)).trans ((heap_old _ _ (by simp; omega)).trans ((heap_old _ _ (by simp)).trans (heap_new _ _))))
          clear e hls hsl hul hvl hwf IH hc
          simp only [Ft.len, Fo.len]
          go_enter Try.func29, Try.ntmps29
          go_wp2_with fail
          go_loopw [8] (fun i wr => i = .int .i64 0 ∧ wr = ((((w.alloc (.cells #[.int .i64 1, .int .i64 n, .slice la 0 lc, .slice ka 0 kc] 29)).alloc (.cells #[.int .i64 U.k, .int .i64 U.n, .slice ua U.ls.len uc, .slice va U.ks.len vc] 29)).alloc (.cells #[.int .i64 0, .int .i64 0, .slice none 0 0, .slice none 0 0] 29)).alloc (.cells #[.int .i64 1, .int .i64 (n - 1), .slice la 0 lc, .slice none 0 0] 29))) (fun _ _ => 0)
          case atStart => exact ⟨rfl, rfl⟩
          case round =>
            obtain ⟨rfl, rfl⟩ := hrel
            go_wp2_with fail
            refine bodyPost_ret (v := .agg #[.int .i64 1, .int .i64 (n - 1), .slice la 0 lc, .slice none 0 0]) (by simp [results, Try.results29, go_sem]) rfl ?_
            exact ⟨la, lc, none, 0, rfl, ⟨HLS.out.1, HLS.out.2.1, HLS.out.2.2.1, fun h => by simp [Fo.len] at h⟩, TlIn.none _ _, ((((Below.refl _ _).alloc (Nat.le_refl _) _).alloc (by simp) _).alloc (by simp; omega) _).alloc (by simp; omega) _⟩
        · have e : op1 U 1 n .nil .nil at' = ⟨1, n, .nil, .nil⟩ := by unfold op1; rw [if_neg (fun h => hc h.2), if_neg (fun h => hd h.2)]; rfl
          rw [e]
          obtain ⟨q0, q1, q2, q3⟩ := cells4 ((heap_old ((((w.alloc (.cells #[.int .i64 1, .int .i64 n, .slice la 0 lc, .slice ka 0 kc] 29)).alloc (.cells #[.int .i64 U.k, .int .i64 U.n, .slice ua U.ls.len uc, .slice va U.ks.len vc] 29)).alloc (.cells #[.int .i64 0, .int .i64 0, .slice none 0 0, .slice none 0 0] 29))) (.cells #[.int .i64 1, .int .i64 n, .slice la 0 lc, .slice none 0 0] 29) (by simp; omega : w.heap.size < _)).trans ((heap_old _ _ (by simp; omega)).trans ((heap_old _ _ (by simp)).trans (heap_new _ _))))
          have d2 : decide (at' < n) = false := decide_eq_false hd
          clear e hls hsl hul hvl hwf IH hc
          simp only [Ft.len, Fo.len]
          go_enter Try.func29, Try.ntmps29
          go_wp2_with fail
          go_loopw [8] (fun i wr => i = .int .i64 0 ∧ wr = ((((w.alloc (.cells #[.int .i64 1, .int .i64 n, .slice la 0 lc, .slice ka 0 kc] 29)).alloc (.cells #[.int .i64 U.k, .int .i64 U.n, .slice ua U.ls.len uc, .slice va U.ks.len vc] 29)).alloc (.cells #[.int .i64 0, .int .i64 0, .slice none 0 0, .slice none 0 0] 29)).alloc (.cells #[.int .i64 1, .int .i64 n, .slice la 0 lc, .slice none 0 0] 29))) (fun _ _ => 0)
          case atStart => exact ⟨rfl, rfl⟩
          case round =>
            obtain ⟨rfl, rfl⟩ := hrel
            go_wp2_with fail
            refine bodyPost_ret (v := .agg #[.int .i64 1, .int .i64 n, .slice la 0 lc, .slice none 0 0]) (by simp [results, Try.results29, go_sem]) rfl ?_
            exact ⟨la, lc, none, 0, rfl, ⟨HLS.out.1, HLS.out.2.1, HLS.out.2.2.1, fun h => by simp [Fo.len] at h⟩, TlIn.none _ _, ((((Below.refl _ _).alloc (Nat.le_refl _) _).alloc (by simp) _).alloc (by simp; omega) _).alloc (by simp; omega) _⟩
    · have hk' : (k == 1) = false := beq_eq_false_iff_ne.2 hk
      have e : op1 U k n ls f at' = ⟨k, n, ls, opF U f k 0 at'⟩ := by unfold op1; rw [if_neg (fun h => hk h.1), if_neg (fun h => hk h.1)]
      rw [e]
      have HW := Lib.hid hwf.2.2
      have HLS := Lib.hid hls
      have HSL := Lib.hid hsl
      have HUL := Lib.hid hul
      have HVL := Lib.hid hvl
      have HS := Lib.hid (TrQ.start2 (k := k) (n := n) (ls := ls) (la := la) (lc := lc) (.cells #[.int .i64 k, .int .i64 n, .slice la ls.len lc, .slice ka f.len kc] 29) (.cells #[.int .i64 U.k, .int .i64 U.n, .slice ua U.ls.len uc, .slice va U.ks.len vc] 29) hB)
      have HBX : Hid (((((w.alloc (.cells #[.int .i64 k, .int .i64 n, .slice la ls.len lc, .slice ka f.len kc] 29)).alloc (.cells #[.int .i64 U.k, .int .i64 U.n, .slice ua U.ls.len uc, .slice va U.ks.len vc] 29)).alloc (.cells #[.int .i64 0, .int .i64 0, .slice none 0 0, .slice none 0 0] 29)).alloc (.cells #[.int .i64 k, .int .i64 n, .slice la ls.len lc, .slice none 0 0] 29)).heap[w.heap.size]? = some (.cells #[.int .i64 k, .int .i64 n, .slice la ls.len lc, .slice ka f.len kc] 29 (0, 0)) ∧
          ((((w.alloc (.cells #[.int .i64 k, .int .i64 n, .slice la ls.len lc, .slice ka f.len kc] 29)).alloc (.cells #[.int .i64 U.k, .int .i64 U.n, .slice ua U.ls.len uc, .slice va U.ks.len vc] 29)).alloc (.cells #[.int .i64 0, .int .i64 0, .slice none 0 0, .slice none 0 0] 29)).alloc (.cells #[.int .i64 k, .int .i64 n, .slice la ls.len lc, .slice none 0 0] 29)).heap[w.heap.size + 1]? = some (.cells #[.int .i64 U.k, .int .i64 U.n, .slice ua U.ls.len uc, .slice va U.ks.len vc] 29 (0, 0))) := Lib.hid ⟨(heap_old _ _ (by simp; omega)).trans ((heap_old _ _ (by simp; omega)).trans ((heap_old _ _ (by simp)).trans (heap_new _ _))), (heap_old _ _ (by simp)).trans ((heap_old _ _ (by simp)).trans (heap_second _ _ _))⟩
      clear e hk hwf hls hsl hul hvl
      go_enter Try.func29, Try.ntmps29
      go_wp2_with fail
      go_loopw [8] (fun jv wr => ∃ (j : Nat) (H rest : Ft) (v : Value), jv = .int .i64 j ∧ Hid (f = H.app rest) ∧ Hid (H.len = j) ∧ Hid (TrQ w (w.heap.size + 1 + 1) (w.heap.size + 1 + 1 + 1) B k n ls la lc (opF U H k 0 at') v wr) ∧ Hid (wr.heap[w.heap.size]? = some (.cells #[.int .i64 k, .int .i64 n, .slice la ls.len lc, .slice ka f.len kc] 29 (0, 0)) ∧ wr.heap[w.heap.size + 1]? = some (.cells #[.int .i64 U.k, .int .i64 U.n, .slice ua U.ls.len uc, .slice va U.ks.len vc] 29 (0, 0)))) (fun jv _ => f.len - (intOf jv).toNat)
      case atStart => exact ⟨0, .nil, f, _, rfl, Lib.hid rfl, Lib.hid rfl, HS, HBX⟩
      case round =>
        obtain ⟨j, H, rest, v, rfl, hf, hj, hR, hbx⟩ := hrel
        obtain ⟨⟨g0, g1, g2, g3, gz⟩, ⟨q0, q1, q2, q3, qz⟩, hob, hwr⟩ := hR.out.facts
        obtain ⟨c0, _, _, c3⟩ := cells4 hbx.out.1
        obtain ⟨d0, d1, d2, d3⟩ := cells4 hbx.out.2
        cases rest with
        | nil =>
          have hjl : ¬ (j : Int) < (f.len : Int) := by rw [hf.out, Ft.app_nil, hj.out]; omega
          have dj : decide ((j : Int) < (f.len : Int)) = false := by simpa using hjl
          obtain ⟨x, c, rfl, hE⟩ := hR.out.done HLS.out
          have HE := Lib.hid hE
          have HF : Hid (f = H) := Lib.hid (by rw [hf.out, Ft.app_nil])
          clear hE hR hf
          go_wp2_with fail
          refine bodyPost_ret (v := .agg #[.int .i64 k, .int .i64 n, .slice la ls.len lc, .slice x (opF U H k 0 at').len c]) (by simp [results, Try.results29, go_sem, g0, g1, g2, g3]) rfl ?_
          rw [HF.out]
          exact HE.out
        | cons k' n' ls' ks r' =>
          have hjn : j < f.len := by rw [hf.out, Ft.app_len, hj.out]; simp [Ft.len]
          have hjl : (j : Int) < (f.len : Int) := by omega
          obtain ⟨bq, o, rfl, hbB, hf0'⟩ := HSL.out.some (by omega)
          have hfa : FtIn w (· < B) (.cons k' n' ls' ks r') bq (o + j * 4) := by
            have h1 := hf0'
            rw [hf.out] at h1
            rw [← hj.out]
            exact FtIn.behind H _ bq o h1
          obtain ⟨e0, e1, ⟨la', lc', e2, hls'⟩, ⟨ka', kc', e3, hsl'⟩, _⟩ := (hfa.below (hwr.mono hB) _ _ _ hbB).first
          have hfs : f.size = H.size + (ks.size + r'.size + 1) := by rw [hf.out, Ft.app_size]; rfl
          have hks : ks.size < s := by omega
          have hwk' : wf1 1030 k' n' ls' ks := by
            have h1 := HW.out
            rw [hf.out, wfF_app] at h1
            exact (wfF_parts h1.2).1
          have hbi := bindK_le k j
          have hBr : B ≤ wr.heap.size := Nat.le_trans hB hwr.size
          have hbk : Below wr.heap.size wr wr.drew := (Below.refl _ _).drew
          have HC : Hid (Calls Try.prog 29 #[.agg #[.int .i64 k', .int .i64 n', .slice la' ls'.len lc', .slice ka' ks.len kc'], .int .i64 (at' + bindK k j), .agg #[.int .i64 U.k, .int .i64 U.n, .slice ua U.ls.len uc, .slice va U.ks.len vc]] wr.drew (TmPost B (op1 U k' n' ls' ks (at' + bindK k j)) wr.drew)) :=
            Lib.hid (IH.out ks hks (by omega) k' n' (at' + bindK k j) ls' la' ka' ua va lc' kc' uc vc B _ hwk' (by omega) (by omega) (hls'.below (hbk.mono hBr)) (hsl'.below (hbk.mono hBr)) (HUL.out.below ((hwr.mono hB).trans (hbk.mono hBr))) (HVL.out.below ((hwr.mono hB).trans (hbk.mono hBr))) (Nat.le_trans hBr hbk.size))
          have hGl : (opF U H k 0 at').len = j := by rw [opF_len, hj.out]
          have hT' : opF U (H.app (.cons k' n' ls' ks .nil)) k 0 at' = (opF U H k 0 at').app (op1 U k' n' ls' ks (at' + bindK k j)).one := by
            rw [opF_app, opF_cons, hj.out, Nat.zero_add]; rfl
          have HAP : Hid (∀ (e : Ending) (w2 : World), TmPost B (op1 U k' n' ls' ks (at' + bindK k j)) wr.drew e w2 → ∃ (T : Tm) (x1 : Option Addr) (y1 : Nat) (x2 : Option Addr) (y2 : Nat), e = .returned (.agg #[.int .i64 T.k, .int .i64 T.n, .slice x1 T.ls.len y1, .slice x2 T.ks.len y2]) ∧
              w2.cell? ⟨w.heap.size + 1 + 1 + 1, 3, none⟩ = some v ∧ w.heap.size + 1 + 1 + 1 < w2.heap.size ∧ (w2.alloc (.cells #[.int .i64 T.k, .int .i64 T.n, .slice x1 T.ls.len y1, .slice x2 T.ks.len y2] 29)).cell? ⟨w.heap.size + 1 + 1 + 1, 3, none⟩ = some v ∧
              Hid (∀ q, q ≤ w.heap.size + 1 → w2.heap[q]? = wr.heap[q]?) ∧ Hid (∀ q, q ≤ w.heap.size + 1 → (w2.alloc (.cells #[.int .i64 T.k, .int .i64 T.n, .slice x1 T.ls.len y1, .slice x2 T.ks.len y2] 29)).heap[q]? = wr.heap[q]?) ∧
              ∃ g' cap' w3, Hid ((Builtin.append_ #[27, 27] 27 #[v, .slice (some ⟨w2.heap.size, 0, none⟩) 1 1]).run Try.prog (w2.alloc (.cells #[.int .i64 T.k, .int .i64 T.n, .slice x1 T.ls.len y1, .slice x2 T.ks.len y2] 29)) = .ok (.slice (some ⟨g', 0, none⟩) (j + 1) cap') w3) ∧
                w3.cell? ⟨w.heap.size + 1 + 1 + 1, 3, none⟩ = some v ∧ (∀ o, w3.frozen? ⟨w.heap.size + 1 + 1 + 1, o, none⟩ = false) ∧ Hid (∀ q, q ≤ w.heap.size + 1 → w3.heap[q]? = wr.heap[q]?) ∧
                Hid (TrQ w (w.heap.size + 1 + 1) (w.heap.size + 1 + 1 + 1) B k n ls la lc (opF U (H.app (.cons k' n' ls' ks .nil)) k 0 at') (.slice (some ⟨g', 0, none⟩) (j + 1) cap') (w3.setCell ⟨w.heap.size + 1 + 1 + 1, 3, none⟩ (.slice (some ⟨g', 0, none⟩) (j + 1) cap'))) ∧
                Hid ((w3.setCell ⟨w.heap.size + 1 + 1 + 1, 3, none⟩ (.slice (some ⟨g', 0, none⟩) (j + 1) cap')).heap[w.heap.size]? = some (.cells #[.int .i64 k, .int .i64 n, .slice la ls.len lc, .slice (some ⟨bq, o, none⟩) f.len kc] 29 (0, 0)) ∧ (w3.setCell ⟨w.heap.size + 1 + 1 + 1, 3, none⟩ (.slice (some ⟨g', 0, none⟩) (j + 1) cap')).heap[w.heap.size + 1]? = some (.cells #[.int .i64 U.k, .int .i64 U.n, .slice ua U.ls.len uc, .slice va U.ks.len vc] 29 (0, 0)))) := Lib.hid (by
            rintro e w2 ⟨x1, y1, x2, y2, rfl, t0, t1, t2⟩
            have hG1 : (opF U H k 0 at').len ≤ 1000 := by rw [hGl]; have h1 := Ft.len_le_size f; omega
            have t4 : Below wr.heap.size wr w2 := Below.trans (Below.refl _ _).drew t2
            have hz4 := t4.size
            have hw4 := hwr.size
            obtain ⟨L2, hlb2, g', cap', w3, hrun, L3, Z3, hq, hN⟩ := TrQ.next hR.out hG1 t0 t1 t4
            rw [hGl] at hrun hN
            rw [hT']
            refine ⟨_, x1, y1, x2, y2, rfl, L2, hlb2, (World.cell?_of_block (w := w2) (a := ⟨w.heap.size + 1 + 1 + 1, 3, none⟩) (heap_old w2 _ hlb2)).trans L2, Lib.hid (fun q hq => t4.block q (by omega)), Lib.hid (fun q hq => (heap_old w2 _ (by omega)).trans (t4.block q (by omega))), g', cap', w3, Lib.hid hrun, L3, Z3, Lib.hid (fun q h => hq q (by omega)), Lib.hid hN, Lib.hid ⟨?_, ?_⟩⟩
            · have nq : w.heap.size ≠ w.heap.size + 1 + 1 + 1 := by omega
              rw [Below.heap_setCell _ _ _ _ nq]
              exact (hq _ (by omega)).trans hbx.out.1
            · have nq : w.heap.size + 1 ≠ w.heap.size + 1 + 1 + 1 := by omega
              rw [Below.heap_setCell _ _ _ _ nq]
              exact (hq _ (by omega)).trans hbx.out.2)
          have HSN : Hid (f = (H.app (.cons k' n' ls' ks .nil)).app r') := Lib.hid (by rw [hf.out, Ft.app_assoc]; rfl)
          have HJ := Lib.hid hj.out
          have HW1 : Hid (IntKind.i64.wrap (at' + bindK k j) = at' + bindK k j) := Lib.hid (IntWalk.i64_in _ (by omega))
          have HBI : Hid (∀ W, Calls Try.prog 46 #[.int .i64 k, .int .i64 j] W fun e w' => e = .returned (.int .i64 (bindK k j)) ∧ w' = W) := Lib.hid (r13binds_any k j)
          have hbN : bq ≤ w.heap.size := by omega
          generalize bindK k j = Y at HC HAP HW1 HBI
          generalize op1 U k' n' ls' ks (at' + Y) = TT at HC HAP
          clear hf hR hfa hf0' hGl hT' g0 g1 g2 g3 gz q0 q1 q2 qz hls' hsl' hwk' hbi hfs hbk
          go_wp2_with fail
          refine wp_region_L (fun (w' : World) => w'.cell? ⟨w.heap.size + 1 + 1 + 1, 3, none⟩ = some v ∧ w'.cell? ⟨w.heap.size, 0, none⟩ = some (.int .i64 k) ∧ w'.cell? ⟨w.heap.size, 3, none⟩ = some (.slice (some ⟨bq, o, none⟩) f.len kc) ∧ w'.cell? ⟨bq, o + j * 4, none⟩ = some (.int .i64 k') ∧ w'.cell? ⟨bq, o + j * 4 + 1, none⟩ = some (.int .i64 n') ∧ w'.cell? ⟨bq, o + j * 4 + 2, none⟩ = some (.slice la' ls'.len lc') ∧ w'.cell? ⟨bq, o + j * 4 + 3, none⟩ = some (.slice ka' ks.len kc') ∧ w'.cell? ⟨w.heap.size + 1, 0, none⟩ = some (.int .i64 U.k) ∧ w'.cell? ⟨w.heap.size + 1, 1, none⟩ = some (.int .i64 U.n) ∧ w'.cell? ⟨w.heap.size + 1, 2, none⟩ = some (.slice ua U.ls.len uc) ∧ w'.cell? ⟨w.heap.size + 1, 3, none⟩ = some (.slice va U.ks.len vc)) 18 (by kernel_rfl) ?_
          have hH := (show (fun (w' : World) => w'.cell? ⟨w.heap.size + 1 + 1 + 1, 3, none⟩ = some v ∧ w'.cell? ⟨w.heap.size, 0, none⟩ = some (.int .i64 k) ∧ w'.cell? ⟨w.heap.size, 3, none⟩ = some (.slice (some ⟨bq, o, none⟩) f.len kc) ∧ w'.cell? ⟨bq, o + j * 4, none⟩ = some (.int .i64 k') ∧ w'.cell? ⟨bq, o + j * 4 + 1, none⟩ = some (.int .i64 n') ∧ w'.cell? ⟨bq, o + j * 4 + 2, none⟩ = some (.slice la' ls'.len lc') ∧ w'.cell? ⟨bq, o + j * 4 + 3, none⟩ = some (.slice ka' ks.len kc') ∧ w'.cell? ⟨w.heap.size + 1, 0, none⟩ = some (.int .i64 U.k) ∧ w'.cell? ⟨w.heap.size + 1, 1, none⟩ = some (.int .i64 U.n) ∧ w'.cell? ⟨w.heap.size + 1, 2, none⟩ = some (.slice ua U.ls.len uc) ∧ w'.cell? ⟨w.heap.size + 1, 3, none⟩ = some (.slice va U.ks.len vc)) wr.drew from ⟨q3, c0, c3, e0, e1, e2, e3, d0, d1, d2, d3⟩)
          try simp only [Act.put, List.setIfInBounds_toArray, List.set_cons_zero, List.set_cons_succ]
          refine wpAnyL_take (i := 0) (v := ?_) (by simp only [List.getElem?_toArray, List.getElem?_cons_zero]; rfl) (by kernel_rfl) (by kernel_rfl) (by kernel_rfl) (by kernel_rfl) (by intro _ _ _ h; exact h) (Or.inl ⟨by rfl, ?_⟩) hH ?_
          rotate_left
          · intro w' hSw
            obtain ⟨s0, s1, s2, s3, s4, s5, s6, s7, s8, s9, s10⟩ := hSw
            go_simp
            try with_reducible rfl
          try simp only [Act.put, List.setIfInBounds_toArray, List.set_cons_zero, List.set_cons_succ]
          refine wpAnyL_take (i := 1) (v := ?_) (by simp only [List.getElem?_toArray, List.getElem?_cons_succ, List.getElem?_cons_zero]; rfl) (by kernel_rfl) (by kernel_rfl) (by kernel_rfl) (by kernel_rfl) (by intro _ _ _ h; exact h) (Or.inl ⟨by rfl, ?_⟩) hH ?_
          rotate_left
          · intro w' hSw
            obtain ⟨s0, s1, s2, s3, s4, s5, s6, s7, s8, s9, s10⟩ := hSw
            go_simp
            try with_reducible rfl
          try simp only [Act.put, List.setIfInBounds_toArray, List.set_cons_zero, List.set_cons_succ]
          refine wpAnyL_take (i := 2) (v := ?_) (by simp only [List.getElem?_toArray, List.getElem?_cons_succ, List.getElem?_cons_zero]; rfl) (by kernel_rfl) (by kernel_rfl) (by kernel_rfl) (by kernel_rfl) (by intro _ _ _ h; exact h) (Or.inl ⟨by rfl, ?_⟩) hH ?_
          rotate_left
          · intro w' hSw
            obtain ⟨s0, s1, s2, s3, s4, s5, s6, s7, s8, s9, s10⟩ := hSw
            go_simp
            try with_reducible rfl
          try simp only [Act.put, List.setIfInBounds_toArray, List.set_cons_zero, List.set_cons_succ]
          refine wpAnyL_take (i := 3) (v := ?_) (by simp only [List.getElem?_toArray, List.getElem?_cons_succ, List.getElem?_cons_zero]; rfl) (by kernel_rfl) (by kernel_rfl) (by kernel_rfl) (by kernel_rfl) (by intro _ _ _ h; exact h) (Or.inl ⟨by rfl, ?_⟩) hH ?_
          rotate_left
          · intro w' hSw
            obtain ⟨s0, s1, s2, s3, s4, s5, s6, s7, s8, s9, s10⟩ := hSw
            go_simp
            try with_reducible rfl
          try simp only [Act.put, List.setIfInBounds_toArray, List.set_cons_zero, List.set_cons_succ]
          refine wpAnyL_take (i := 4) (v := ?_) (by simp only [List.getElem?_toArray, List.getElem?_cons_succ, List.getElem?_cons_zero]; rfl) (by kernel_rfl) (by kernel_rfl) (by kernel_rfl) (by kernel_rfl) (by intro _ _ _ h; exact h) (Or.inl ⟨by rfl, ?_⟩) hH ?_
          rotate_left
          · intro w' hSw
            obtain ⟨s0, s1, s2, s3, s4, s5, s6, s7, s8, s9, s10⟩ := hSw
            go_simp
            try with_reducible rfl
          try simp only [Act.put, List.setIfInBounds_toArray, List.set_cons_zero, List.set_cons_succ]
          refine wpAnyL_take (i := 5) (v := ?_) (by simp only [List.getElem?_toArray, List.getElem?_cons_succ, List.getElem?_cons_zero]; rfl) (by kernel_rfl) (by kernel_rfl) (by kernel_rfl) (by kernel_rfl) (by intro _ _ _ h; exact h) (Or.inl ⟨by rfl, ?_⟩) hH ?_
          rotate_left
          · intro w' hSw
            obtain ⟨s0, s1, s2, s3, s4, s5, s6, s7, s8, s9, s10⟩ := hSw
            go_simp
            try with_reducible rfl
          try simp only [Act.put, List.setIfInBounds_toArray, List.set_cons_zero, List.set_cons_succ]
          refine wpAnyL_take (i := 6) (v := ?_) (by simp only [List.getElem?_toArray, List.getElem?_cons_succ, List.getElem?_cons_zero]; rfl) (by kernel_rfl) (by kernel_rfl) (by kernel_rfl) (by kernel_rfl) (by intro _ _ _ h; exact h) (Or.inl ⟨by rfl, ?_⟩) hH ?_
          rotate_left
          · intro w' hSw
            obtain ⟨s0, s1, s2, s3, s4, s5, s6, s7, s8, s9, s10⟩ := hSw
            go_simp
            try with_reducible rfl
          try simp only [Act.put, List.setIfInBounds_toArray, List.set_cons_zero, List.set_cons_succ]
          refine wpAnyL_take (i := 7) (v := ?_) (by simp only [List.getElem?_toArray, List.getElem?_cons_succ, List.getElem?_cons_zero]; rfl) (by kernel_rfl) (by kernel_rfl) (by kernel_rfl) (by kernel_rfl) (by intro _ _ _ h; exact h) (Or.inl ⟨by rfl, ?_⟩) hH ?_
          rotate_left
          · intro w' hSw
            obtain ⟨s0, s1, s2, s3, s4, s5, s6, s7, s8, s9, s10⟩ := hSw
            go_simp
            try with_reducible rfl
          try simp only [Act.put, List.setIfInBounds_toArray, List.set_cons_zero, List.set_cons_succ]
          refine wpAnyL_take (i := 8) (v := ?_) (by simp only [List.getElem?_toArray, List.getElem?_cons_succ, List.getElem?_cons_zero]; rfl) (by kernel_rfl) (by kernel_rfl) (by kernel_rfl) (by kernel_rfl) (by intro _ _ _ h; exact h) (Or.inl ⟨by rfl, ?_⟩) hH ?_
          rotate_left
          · intro w' hSw
            obtain ⟨s0, s1, s2, s3, s4, s5, s6, s7, s8, s9, s10⟩ := hSw
            go_simp
            try with_reducible rfl
          try simp only [Act.put, List.setIfInBounds_toArray, List.set_cons_zero, List.set_cons_succ]
          refine wpAnyL_take (i := 9) (v := ?_) (by simp only [List.getElem?_toArray, List.getElem?_cons_succ, List.getElem?_cons_zero]; rfl) (by kernel_rfl) (by kernel_rfl) (by kernel_rfl) (by kernel_rfl) (by intro _ _ _ h; exact h) (Or.inl ⟨by rfl, ?_⟩) hH ?_
          rotate_left
          · intro w' hSw
            obtain ⟨s0, s1, s2, s3, s4, s5, s6, s7, s8, s9, s10⟩ := hSw
            go_simp
            try with_reducible rfl
          try simp only [Act.put, List.setIfInBounds_toArray, List.set_cons_zero, List.set_cons_succ]
          refine wpAnyL_take (i := 10) (v := ?_) (by simp only [List.getElem?_toArray, List.getElem?_cons_succ, List.getElem?_cons_zero]; rfl) (by kernel_rfl) (by kernel_rfl) (by kernel_rfl) (by kernel_rfl) (by intro _ _ _ h; exact h) (Or.inl ⟨by rfl, ?_⟩) hH ?_
          rotate_left
          · intro w' hSw
            obtain ⟨s0, s1, s2, s3, s4, s5, s6, s7, s8, s9, s10⟩ := hSw
            go_simp
            try with_reducible rfl
          try simp only [Act.put, List.setIfInBounds_toArray, List.set_cons_zero, List.set_cons_succ]
          refine wpAnyL_take (i := 13) (v := ?_) (by simp only [List.getElem?_toArray, List.getElem?_cons_succ, List.getElem?_cons_zero]; rfl) (by kernel_rfl) (by kernel_rfl) (by kernel_rfl) (by kernel_rfl) (by intro _ _ _ h; exact h) (Or.inl ⟨by rfl, ?_⟩) hH ?_
          rotate_left
          · intro w' hSw
            obtain ⟨s0, s1, s2, s3, s4, s5, s6, s7, s8, s9, s10⟩ := hSw
            go_simp
            try with_reducible rfl
          try simp only [Act.put, List.setIfInBounds_toArray, List.set_cons_zero, List.set_cons_succ]
          refine wpAnyL_one (i := 11) (o := _) (by kernel_rfl) (by simp only [List.getElem?_toArray, List.getElem?_cons_succ, List.getElem?_cons_zero]; rfl) (by decide) (fun K hK => ?_)
          go_simp
          go_at_call 46
          refine (HBI.out _).mono ?_
          rintro e wM ⟨rfl, rfl⟩
          refine hK.out _ _ hH ?_
          clear hK K
          try simp only [Act.put, List.setIfInBounds_toArray, List.set_cons_zero, List.set_cons_succ]
          refine wpAnyL_take (i := 12) (v := ?_) (by simp only [List.getElem?_toArray, List.getElem?_cons_succ, List.getElem?_cons_zero]; rfl) (by kernel_rfl) (by kernel_rfl) (by kernel_rfl) (by kernel_rfl) (by intro _ _ _ h; exact h) (Or.inl ⟨by rfl, ?_⟩) hH ?_
          rotate_left
          · intro w' hSw
            obtain ⟨s0, s1, s2, s3, s4, s5, s6, s7, s8, s9, s10⟩ := hSw
            go_simp
            try with_reducible rfl
          try simp only [Act.put, List.setIfInBounds_toArray, List.set_cons_zero, List.set_cons_succ]
          refine wpAnyL_one (i := 14) (o := _) (by kernel_rfl) (by simp only [List.getElem?_toArray, List.getElem?_cons_succ, List.getElem?_cons_zero]; rfl) (by decide) (fun K hK => ?_)
          go_simp
          go_at_call 29
          rw [HW1.out]
          refine HC.out.mono ?_
          intro e w2 hP
          obtain ⟨T, x1, y1, x2, y2, rfl, L2, hlb2, L2a, K2, K2a, g', cap', w3, HRUN, L3, Z3, K3, HN, HBX2⟩ := HAP.out e w2 hP
          clear hP hH
          have hH := (show (fun (w' : World) => w'.cell? ⟨w.heap.size + 1 + 1 + 1, 3, none⟩ = some v ∧ w'.cell? ⟨w.heap.size, 0, none⟩ = some (.int .i64 k) ∧ w'.cell? ⟨w.heap.size, 3, none⟩ = some (.slice (some ⟨bq, o, none⟩) f.len kc) ∧ w'.cell? ⟨bq, o + j * 4, none⟩ = some (.int .i64 k') ∧ w'.cell? ⟨bq, o + j * 4 + 1, none⟩ = some (.int .i64 n') ∧ w'.cell? ⟨bq, o + j * 4 + 2, none⟩ = some (.slice la' ls'.len lc') ∧ w'.cell? ⟨bq, o + j * 4 + 3, none⟩ = some (.slice ka' ks.len kc') ∧ w'.cell? ⟨w.heap.size + 1, 0, none⟩ = some (.int .i64 U.k) ∧ w'.cell? ⟨w.heap.size + 1, 1, none⟩ = some (.int .i64 U.n) ∧ w'.cell? ⟨w.heap.size + 1, 2, none⟩ = some (.slice ua U.ls.len uc) ∧ w'.cell? ⟨w.heap.size + 1, 3, none⟩ = some (.slice va U.ks.len vc)) w2 from ⟨L2, rqHeld2 K2.out hbN c0 c3 e0 e1 e2 e3 d0 d1 d2 d3⟩)
          refine hK.out _ _ hH ?_
          clear hK K
          try simp only [Act.put, List.setIfInBounds_toArray, List.set_cons_zero, List.set_cons_succ]
          refine wpAnyL_one (i := 15) (o := _) (by kernel_rfl) (by simp only [List.getElem?_toArray, List.getElem?_cons_succ, List.getElem?_cons_zero]; rfl) (by decide) (fun K hK => ?_)
          go_simp
          clear hH
          have hH := (show (fun (w' : World) => w'.cell? ⟨w.heap.size + 1 + 1 + 1, 3, none⟩ = some v ∧ w'.cell? ⟨w.heap.size, 0, none⟩ = some (.int .i64 k) ∧ w'.cell? ⟨w.heap.size, 3, none⟩ = some (.slice (some ⟨bq, o, none⟩) f.len kc) ∧ w'.cell? ⟨bq, o + j * 4, none⟩ = some (.int .i64 k') ∧ w'.cell? ⟨bq, o + j * 4 + 1, none⟩ = some (.int .i64 n') ∧ w'.cell? ⟨bq, o + j * 4 + 2, none⟩ = some (.slice la' ls'.len lc') ∧ w'.cell? ⟨bq, o + j * 4 + 3, none⟩ = some (.slice ka' ks.len kc') ∧ w'.cell? ⟨w.heap.size + 1, 0, none⟩ = some (.int .i64 U.k) ∧ w'.cell? ⟨w.heap.size + 1, 1, none⟩ = some (.int .i64 U.n) ∧ w'.cell? ⟨w.heap.size + 1, 2, none⟩ = some (.slice ua U.ls.len uc) ∧ w'.cell? ⟨w.heap.size + 1, 3, none⟩ = some (.slice va U.ks.len vc)) _ from ⟨L2a, rqHeld2 K2a.out hbN c0 c3 e0 e1 e2 e3 d0 d1 d2 d3⟩)
          refine hK.out _ _ hH ?_
          clear hK K
          try simp only [Act.put, List.setIfInBounds_toArray, List.set_cons_zero, List.set_cons_succ]
          refine wpAnyL_one (i := 16) (o := _) (by kernel_rfl) (by simp only [List.getElem?_toArray, List.getElem?_cons_succ, List.getElem?_cons_zero]; rfl) (by decide) (fun K hK => ?_)
          refine step_append (by rfl) _ _ _ (by rfl) (by rfl) (by rfl) HRUN.out ?_
          clear hH
          have hH := (show (fun (w' : World) => w'.cell? ⟨w.heap.size + 1 + 1 + 1, 3, none⟩ = some v ∧ w'.cell? ⟨w.heap.size, 0, none⟩ = some (.int .i64 k) ∧ w'.cell? ⟨w.heap.size, 3, none⟩ = some (.slice (some ⟨bq, o, none⟩) f.len kc) ∧ w'.cell? ⟨bq, o + j * 4, none⟩ = some (.int .i64 k') ∧ w'.cell? ⟨bq, o + j * 4 + 1, none⟩ = some (.int .i64 n') ∧ w'.cell? ⟨bq, o + j * 4 + 2, none⟩ = some (.slice la' ls'.len lc') ∧ w'.cell? ⟨bq, o + j * 4 + 3, none⟩ = some (.slice ka' ks.len kc') ∧ w'.cell? ⟨w.heap.size + 1, 0, none⟩ = some (.int .i64 U.k) ∧ w'.cell? ⟨w.heap.size + 1, 1, none⟩ = some (.int .i64 U.n) ∧ w'.cell? ⟨w.heap.size + 1, 2, none⟩ = some (.slice ua U.ls.len uc) ∧ w'.cell? ⟨w.heap.size + 1, 3, none⟩ = some (.slice va U.ks.len vc)) w3 from ⟨L3, rqHeld2 K3.out hbN c0 c3 e0 e1 e2 e3 d0 d1 d2 d3⟩)
          refine hK.out _ _ hH ?_
          clear hK K
          try simp only [Act.put, List.setIfInBounds_toArray, List.set_cons_zero, List.set_cons_succ]
          refine wpAnyL_take (i := 17) (v := ?_) (by simp only [List.getElem?_toArray, List.getElem?_cons_succ, List.getElem?_cons_zero]; rfl) (by kernel_rfl) (by kernel_rfl) (by kernel_rfl) (by kernel_rfl) (by intro _ _ _ h; exact h) (Or.inl ⟨by rfl, ?_⟩) hH ?_
          rotate_left
          · intro w' hSw
            obtain ⟨s0, s1, s2, s3, s4, s5, s6, s7, s8, s9, s10⟩ := hSw
            go_simp
            try with_reducible rfl
          try simp only [Act.put, List.setIfInBounds_toArray, List.set_cons_zero, List.set_cons_succ]
          refine wpAnyL_last (o := _) (by kernel_rfl) (by simp only [List.getElem?_toArray, List.getElem?_cons_succ, List.getElem?_cons_zero]; rfl) (fun K hK => ?_)
          go_simp
          refine hK.out _ _ ?_
          clear hK K hH
          try simp only [Act.put, List.setIfInBounds_toArray, List.set_cons_zero, List.set_cons_succ]
          refine wpAnyL_done (by kernel_rfl) ?_ _
          go_wp2_with fail
          go_roundw
          case rel => exact ⟨j + 1, _, r', _, by go_num, HSN, Lib.hid (by rw [Ft.app_len, HJ.out]; rfl), HN, HBX2⟩
          case measure => simp [intOf]; omega
end Go.Proofs.Ytcnhfoppfihhiaa
/- The contract of the document's own Open. No condition but that the terms lie in memory. -/
namespace Go.Proofs.Ytcnhfoppfihhiaa
open Go.RowKit

theorem lvsz_mono8 {N M : Nat} (h : N ≤ M) : ∀ {f : Ft}, f.lvsz N → f.lvsz M
  | .nil, _ => trivial
  | .cons .., hf => ⟨Nat.le_trans hf.1 h, lvsz_mono8 h hf.2.1, lvsz_mono8 h hf.2.2⟩
theorem sh_small8 {k n : Int} {ls : Fo} {f : Ft} (h : shB k n ls f = true) : f.size ≤ 1000 ∧ f.lvsz 1000 ∧ ls.size ≤ 1000 := by
  obtain ⟨h1, h2, h3⟩ := shB_parts h
  exact ⟨by omega, lvsz_mono8 (by omega) (tAll_lvsz h3), by have := tfits_lvsz h2; omega⟩
theorem openA_no8 {t u : Tm} (h : t.sh = false ∨ u.sh = false) : openA t u = (tZ, 1) := by
  unfold openA; rw [if_neg]
  rintro ⟨h1, h2⟩
  rcases h with h | h
  · rw [h] at h1; cases h1
  · rw [h] at h2; cases h2
theorem openA_yes8 {t u : Tm} (h : t.sh = true) (h1 : u.sh = true) : openA t u = fin1 (rep1 (gO u) t.k t.n t.ls t.ks 0) := by
  unfold openA; rw [if_pos ⟨h, h1⟩]
/-- What the document's own Lift and Open answer: the term's slices may lie in old memory. -/
def RePost (A : Tm × Int) (w : World) (e : Ending) (w' : World) : Prop :=
  ∃ (la : Option Addr) (lc : Nat) (x : Option Addr) (c : Nat), e = .returned (.tuple #[.agg #[.int .i64 A.1.k, .int .i64 A.1.n, .slice la A.1.ls.len lc, .slice x A.1.ks.len c], .int .i64 A.2]) ∧ SlIn w' (· < w'.heap.size) A.1.ls la lc ∧ TlIn w' (· < w'.heap.size) A.1.ks x c ∧ Below w.heap.size w w'
theorem RePost.store {R : Nat} {T : Tm} {E : Int} {w w3 : World} {P : Nat → Prop} {la x : Option Addr} {lc c : Nat} (hP : ∀ b, P b → b < w3.heap.size ∧ b ≠ R) (hl : SlIn w3 P T.ls la lc) (hs : TlIn w3 P T.ks x c) (hb : Below w.heap.size w w3) (h1 : w.heap.size ≤ R) :
    RePost (T, E) w (.returned (.tuple #[.agg #[.int .i64 T.k, .int .i64 T.n, .slice la T.ls.len lc, .slice x T.ks.len c], .int .i64 E])) ((((w3.setCell ⟨R, 0, none⟩ (.int .i64 T.k)).setCell ⟨R, 1, none⟩ (.int .i64 T.n)).setCell ⟨R, 2, none⟩ (.slice la T.ls.len lc)).setCell ⟨R, 3, none⟩ (.slice x T.ks.len c)) := by
  have hg := set4_only (w := w3) R (.int .i64 T.k) (.int .i64 T.n) (.slice la T.ls.len lc) (.slice x T.ks.len c)
  refine ⟨la, lc, x, c, rfl, ?_, ?_, ?_⟩
  · exact (hl.keep (fun b hb => Only.block hg (hP b hb).1 (hP b hb).2)).weak (fun b hb => Nat.lt_of_lt_of_le (hP b hb).1 hg.size)
  · exact hs.turn (fun b hb => Only.block hg (hP b hb).1 (hP b hb).2) (fun b hb => Nat.lt_of_lt_of_le (hP b hb).1 hg.size)
  · exact ⟨hg.os.trans hb.os, hg.tape.trans hb.tape, hg.output.trans hb.output, Nat.le_trans hb.size hg.size, fun q hq => (Only.block hg (by have := hb.size; omega) (by omega)).trans (hb.block q hq)⟩

set_option maxRecDepth 100000 in
set_option maxHeartbeats 4000000 in
theorem r13Open_any (t u : Tm) (la ka la' ka' : Option Addr) (lc kc lc' kc' B : Nat) (w : World) (hls : SlIn w (· < B) t.ls la lc) (hsl : TlIn w (· < B) t.ks ka kc) (hls' : SlIn w (· < B) u.ls la' lc') (hsl' : TlIn w (· < B) u.ks ka' kc') (hB : B ≤ w.heap.size) :
    Calls Try.prog 13 #[.agg #[.int .i64 t.k, .int .i64 t.n, .slice la t.ls.len lc, .slice ka t.ks.len kc], .agg #[.int .i64 u.k, .int .i64 u.n, .slice la' u.ls.len lc', .slice ka' u.ks.len kc']] w (RePost (openA t u) w) := by
  obtain ⟨OT, hOT⟩ : ∃ o : Obj, o = .cells #[.int .i64 t.k, .int .i64 t.n, .slice la t.ls.len lc, .slice ka t.ks.len kc] 29 (0, 0) := ⟨_, rfl⟩
  obtain ⟨OU, hOU⟩ : ∃ o : Obj, o = .cells #[.int .i64 u.k, .int .i64 u.n, .slice la' u.ls.len lc', .slice ka' u.ks.len kc'] 29 (0, 0) := ⟨_, rfl⟩
  obtain ⟨OZ, hOZ⟩ : ∃ o : Obj, o = .cells #[.int .i64 0, .int .i64 0, .slice none 0 0, .slice none 0 0] 29 (0, 0) := ⟨_, rfl⟩
  have hb : Below w.heap.size w (((w.alloc OT).alloc OU).alloc OZ) := (((Below.refl _ _).alloc (Nat.le_refl _) _).alloc (by simp) _).alloc (by simp; omega) _
  have hT0 : (((w.alloc OT).alloc OU).alloc OZ).heap[w.heap.size]? = some OT := (heap_old _ _ (by simp; omega)).trans ((heap_old _ _ (by simp)).trans (heap_new _ _))
  have hU0 : (((w.alloc OT).alloc OU).alloc OZ).heap[w.heap.size + 1]? = some OU := (heap_old _ _ (by simp)).trans (heap_second _ _ _)
  have hZ0 : (((w.alloc OT).alloc OU).alloc OZ).heap[w.heap.size + 1 + 1]? = some OZ := by have := heap_second (w.alloc OT) OU OZ; simpa using this
  subst hOT hOU hOZ
  have HB := Lib.hid hb
  have HT0 := Lib.hid hT0
  have HU0 := Lib.hid hU0
  have HZ0 := Lib.hid hZ0
  have HS1 : Hid (∀ W : World, Below w.heap.size w W → Calls Try.prog 28 #[.agg #[.int .i64 t.k, .int .i64 t.n, .slice la t.ls.len lc, .slice ka t.ks.len kc]] W fun e w' => e = .returned (.bool t.sh) ∧ Below W.heap.size W w') := Lib.hid (by
    intro W h
    exact r13Shape_any t.k t.n t.ls t.ks la ka lc kc B W (hls.below (h.mono hB)) (hsl.below (h.mono hB)) (Nat.le_trans hB h.size))
  have HS2 : Hid (∀ W : World, Below w.heap.size w W → Calls Try.prog 28 #[.agg #[.int .i64 u.k, .int .i64 u.n, .slice la' u.ls.len lc', .slice ka' u.ks.len kc']] W fun e w' => e = .returned (.bool u.sh) ∧ Below W.heap.size W w') := Lib.hid (by
    intro W h
    exact r13Shape_any u.k u.n u.ls u.ks la' ka' lc' kc' B W (hls'.below (h.mono hB)) (hsl'.below (h.mono hB)) (Nat.le_trans hB h.size))
  have HOP : Hid (t.sh = true → u.sh = true → ∀ (W : World), Below w.heap.size w W → Calls Try.prog 29 #[.agg #[.int .i64 t.k, .int .i64 t.n, .slice la t.ls.len lc, .slice ka t.ks.len kc], .int .i64 0, .agg #[.int .i64 u.k, .int .i64 u.n, .slice la' u.ls.len lc', .slice ka' u.ks.len kc']] W (TmPost B (rep1 (gO u) t.k t.n t.ls t.ks 0) W)) := Lib.hid (by
    intro h1 h2 W h
    rw [← op1_rep (wf_of_sh h2) (wf_of_sh h1)]
    exact r13open_any u (wf_of_sh h2) (sh_small8 h2).1 (t.ks.size + 1) t.ks (Nat.lt_succ_self _) (sh_small8 h1).1 t.k t.n 0 t.ls la ka la' ka' lc kc lc' kc' B W (wf_of_sh h1) (by omega) (by have := (sh_small8 h1).1; omega) (hls.below (h.mono hB)) (hsl.below (h.mono hB)) (hls'.below (h.mono hB)) (hsl'.below (h.mono hB)) (Nat.le_trans hB h.size))
  have HNO : Hid (t.sh = false ∨ u.sh = false → openA t u = (tZ, 1)) := Lib.hid openA_no8
  have HYES : Hid (t.sh = true → u.sh = true → openA t u = fin1 (rep1 (gO u) t.k t.n t.ls t.ks 0)) := Lib.hid openA_yes8
  generalize t.sh = x at HS1 HOP HNO HYES
  generalize u.sh = y at HS2 HOP HNO HYES
  generalize rep1 (gO u) t.k t.n t.ls t.ks 0 = T at HOP HYES
  generalize openA t u = A at HNO HYES
  clear hls hsl hls' hsl' hb hT0 hU0 hZ0
  have hbad : Hid (∀ w3 : World, Below w.heap.size w w3 → A = (tZ, 1) → RePost A w (.returned (.tuple #[.agg #[.int .i64 0, .int .i64 0, .slice none 0 0, .slice none 0 0], .int .i64 1])) ((((w3.setCell ⟨w.heap.size + 1 + 1, 0, none⟩ (.int .i64 0)).setCell ⟨w.heap.size + 1 + 1, 1, none⟩ (.int .i64 0)).setCell ⟨w.heap.size + 1 + 1, 2, none⟩ (.slice none 0 0)).setCell ⟨w.heap.size + 1 + 1, 3, none⟩ (.slice none 0 0))) := Lib.hid (by
    rintro w3 h rfl
    exact RePost.store (R := w.heap.size + 1 + 1) (T := tZ) (E := 1) (w := w) (w3 := w3) (P := fun _ => False) (la := none) (lc := 0) (x := none) (c := 0) (fun _ h => h.elim) (SlIn.none _ _) (TlIn.none _ _) h (by omega))
  go_enter Try.func13, Try.ntmps13
  go_wp2_with fail
  refine (HS1.out _ HB.out).mono ?_
  rintro e w1 ⟨rfl, hb1⟩
  have HB1 := Lib.hid (Below.step HB.out hb1 (Nat.le_refl _))
  have HZ1 := Lib.hid ((hb1.block (w.heap.size + 1 + 1) (by simp)).trans HZ0.out)
  have HU1 := Lib.hid ((hb1.block (w.heap.size + 1) (by simp)).trans HU0.out)
  have HT1 := Lib.hid ((hb1.block w.heap.size (by simp; omega)).trans HT0.out)
  obtain ⟨g0, g1, g2, g3⟩ := cells4 HZ1.out
  have gz := free_of HZ1.out
  have hz1 := lt_of_block HZ1.out
  obtain ⟨q0, q1, q2, q3⟩ := cells4 HU1.out
  clear hb1
  cases x with
  | false =>
    have HA := Lib.hid (HNO.out (.inl rfl))
    go_wp2_with fail
    refine bodyPost_ret (v := .tuple #[.agg #[.int .i64 0, .int .i64 0, .slice none 0 0, .slice none 0 0], .int .i64 1]) (by simp [results, Try.results13, go_sem, g0, g1, g2, g3]) rfl ?_
    exact hbad.out _ HB1.out HA.out
  | true =>
    go_wp2_with fail
    refine (HS2.out _ HB1.out).mono ?_
    rintro e w2 ⟨rfl, hb2⟩
    have HB2 := Lib.hid (Below.step HB1.out hb2 (Nat.le_refl _))
    have HZ2 := Lib.hid ((hb2.block (w.heap.size + 1 + 1) hz1).trans HZ1.out)
    have HU2 := Lib.hid ((hb2.block (w.heap.size + 1) (by omega)).trans HU1.out)
    have HT2 := Lib.hid ((hb2.block w.heap.size (by omega)).trans HT1.out)
    clear g0 g1 g2 g3 gz q0 q1 q2 q3 hb2
    obtain ⟨g0, g1, g2, g3⟩ := cells4 HZ2.out
    have gz := free_of HZ2.out
    have hz2 := lt_of_block HZ2.out
    obtain ⟨q0, q1, q2, q3⟩ := cells4 HU2.out
    obtain ⟨p0, p1, p2, p3⟩ := cells4 HT2.out
    cases y with
    | false =>
      have HA := Lib.hid (HNO.out (.inr rfl))
      go_wp2_with fail
      refine bodyPost_ret (v := .tuple #[.agg #[.int .i64 0, .int .i64 0, .slice none 0 0, .slice none 0 0], .int .i64 1]) (by simp [results, Try.results13, go_sem, g0, g1, g2, g3]) rfl ?_
      exact hbad.out _ HB2.out HA.out
    | true =>
      have HA := Lib.hid (HYES.out (by first | rfl | trivial) (by first | rfl | trivial))
      have HC := Lib.hid (HOP.out (by first | rfl | trivial) (by first | rfl | trivial) w2 HB2.out)
      clear HNO HYES HOP hbad HS1 HS2
      go_wp2_with fail
      refine HC.out.mono ?_
      rintro e w3 ⟨x1, y1, x2, y2, rfl, hl2, hs2, hb3⟩
      have HB3 := Lib.hid (Below.step HB2.out hb3 (Nat.le_refl _))
      have HZ3 := Lib.hid ((hb3.block (w.heap.size + 1 + 1) hz2).trans HZ2.out)
      have hz3 := lt_of_block HZ3.out
      have HO := Lib.hid (heap_new w3 (.cells #[.int .i64 T.k, .int .i64 T.n, .slice x1 T.ls.len y1, .slice x2 T.ks.len y2] 29))
      have hal : Below w3.heap.size w3 (w3.alloc (.cells #[.int .i64 T.k, .int .i64 T.n, .slice x1 T.ls.len y1, .slice x2 T.ks.len y2] 29)) := (Below.refl _ _).alloc (Nat.le_refl _) _
      have hlw : SlIn w3 (· < w3.heap.size) T.ls x1 y1 := hl2.weak (fun b h => h.2)
      have hsw : TlIn w3 (· < w3.heap.size) T.ks x2 y2 := hs2.weak (fun b h => h.2)
      have HSH := Lib.hid (r13Shape_any T.k T.n T.ls T.ks x1 x2 y1 y2 w3.heap.size (w3.alloc (.cells #[.int .i64 T.k, .int .i64 T.n, .slice x1 T.ls.len y1, .slice x2 T.ks.len y2] 29)) (hlw.below hal) (hsw.below hal) (by simp))
      have HL2 : Hid (SlIn w3 (fun b => (b < B ∨ w2.heap.size ≤ b) ∧ b < w3.heap.size) T.ls x1 y1 ∧ TlIn w3 (fun b => (b < B ∨ w2.heap.size ≤ b) ∧ b < w3.heap.size) T.ks x2 y2) := Lib.hid ⟨hl2, hs2⟩
      have HFI : Hid (∀ x, shB T.k T.n T.ls T.ks = x → fin1 T = if x = true then (T, 0) else (tZ, 2)) := Lib.hid (fun x hx => by unfold fin1 Tm.sh; rw [hx])
      clear hl2 hs2 hb3 hal hlw hsw HC g0 g1 g2 g3 gz q0 q1 q2 q3 p0 p1 p2 p3
      generalize shB T.k T.n T.ls T.ks = z at HSH HFI
      have HF := Lib.hid (HA.out.trans (HFI.out z rfl))
      clear HFI HA
      go_wp2_with fail
      refine HSH.out.mono ?_
      rintro e w4 ⟨rfl, hb4⟩
      have HB4 := Lib.hid ((HB3.out.alloc HB3.out.size _).trans (hb4.mono (by have := HB3.out.size; simp; omega)))
      have HZ4 := Lib.hid ((hb4.block (w.heap.size + 1 + 1) (by simp; omega)).trans ((heap_old _ _ hz3).trans HZ3.out))
      obtain ⟨g0, g1, g2, g3⟩ := cells4 HZ4.out
      have gz := free_of HZ4.out
      have hz4 := lt_of_block HZ4.out
      cases z with
      | false =>
        have HA2 : Hid (A = (tZ, 2)) := Lib.hid (by rw [HF.out]; rfl)
        have HE := Lib.hid (RePost.store (R := w.heap.size + 1 + 1) (T := tZ) (E := 2) (w := w) (w3 := w4) (P := fun _ => False) (la := none) (lc := 0) (x := none) (c := 0) (fun _ h => h.elim) (SlIn.none _ _) (TlIn.none _ _) HB4.out (by omega))
        clear hb4
        go_wp2_with fail
        refine bodyPost_ret (v := .tuple #[.agg #[.int .i64 0, .int .i64 0, .slice none 0 0, .slice none 0 0], .int .i64 2]) (by simp [results, Try.results13, go_sem, g0, g1, g2, g3]) rfl ?_
        rw [HA2.out]
        exact HE.out
      | true =>
        have HA2 : Hid (A = (T, 0)) := Lib.hid (by rw [HF.out]; rfl)
        have hkeep : ∀ b, (b < B ∨ w2.heap.size ≤ b) ∧ b < w3.heap.size → w4.heap[b]? = w3.heap[b]? := fun b hb => (hb4.block b (by simp; omega)).trans (heap_old _ _ hb.2)
        have hz34 : w3.heap.size + 1 ≤ w4.heap.size := by have := hb4.size; simp at this; omega
        have HE := Lib.hid (RePost.store (R := w.heap.size + 1 + 1) (T := T) (E := 0) (w := w) (w3 := w4) (P := fun b => (b < B ∨ w2.heap.size ≤ b) ∧ b < w3.heap.size) (fun b h => ⟨by omega, by omega⟩) (HL2.out.1.keep hkeep) (HL2.out.2.keep hkeep) HB4.out (by omega))
        have t0 := (hb4.block w3.heap.size (by simp)).trans HO.out
        obtain ⟨q0, q1, q2, q3⟩ := cells4 t0
        have hlt2 := lt_of_block t0
        clear hb4 hkeep t0
        go_wp2_with fail
        refine bodyPost_ret (v := .tuple #[.agg #[.int .i64 T.k, .int .i64 T.n, .slice x1 T.ls.len y1, .slice x2 T.ks.len y2], .int .i64 0]) (by simp [results, Try.results13, go_sem, g0, g1, g2, g3]) rfl ?_
        rw [HA2.out]
        exact HE.out
end Go.Proofs.Ytcnhfoppfihhiaa
/- The walk of the law TsubOpen. The conditions: what the program's Sub answers (QSubC), and that the law's sample calls return true (QAwkC). -/
namespace Go.Proofs.Ytcnhfoppfihhiaa.tsubOpen
open Go.RowKit

theorem qA_two {P Q : Fo} {T : Tm} (hT : T.sh = true) (hp : parB P Q = true) : (qA P Q T).2 = 0 ∨ (qA P Q T).2 = 2 := by
  unfold qA
  rw [if_pos ⟨hT, hp⟩]
  split
  · exact .inl rfl
  · exact .inr rfl
theorem openA_two {T U : Tm} (hT : T.sh = true) (hU : U.sh = true) : ((openA T U).2 = 0 ∧ (openA T U).1.sh = true) ∨ (openA T U).2 = 2 := by
  unfold openA
  rw [if_pos ⟨hT, hU⟩]
  unfold fin1
  split
  · rename_i h; exact .inl ⟨rfl, h⟩
  · exact .inr rfl
theorem parB_two {A : Fo} (h1 : A.len ≤ 3) (h2 : allR A = true) : parB A A = true := by
  unfold parB
  rw [decide_eq_true (by omega : A.len ≤ 5), decide_eq_true (by omega : A.len ≤ 10), h2]
  rfl

set_option maxRecDepth 100000 in
set_option maxHeartbeats 8000000 in
theorem walk (hA : QAwkC) (hS : QSubC) (l1 c1 l2 c2 l3 c3 : Nat) (a1 a2 a3 : Option Addr) (w : World) (h1 : U8In w (· < w.heap.size) l1 a1 c1) (h2 : U8In w (· < w.heap.size) l2 a2 c2) (h3 : RowsIn w (· < w.heap.size) l3 a3 c3) :
    Calls Try.prog 5 #[.slice a1 l1 c1, .slice a2 l2 c2, .slice a3 l3 c3] w fun e w' => e = .returned (.bool true) ∧ Below w.heap.size w w' := by
  have HM1 : Hid (∀ W, Below w.heap.size w W → Calls Try.prog 8 #[.slice a1 l1 c1] W (MdOk 3 3 W)) := Lib.hid (fun W h => tMade_any l1 c1 a1 w.heap.size W (h1.keep' (fun b hb => h.block b hb)) h.size)
  have HM2 : Hid (∀ W, Below w.heap.size w W → Calls Try.prog 8 #[.slice a2 l2 c2] W (MdOk 3 3 W)) := Lib.hid (fun W h => tMade_any l2 c2 a2 w.heap.size W (h2.keep' (fun b hb => h.block b hb)) h.size)
  have HP : Hid (∀ W, Below w.heap.size w W → 1 ≤ W.heap.size → Calls Try.prog 9 #[.slice a3 l3 c3, .int .i64 3] W (LsPost 3 W)) := Lib.hid (fun W h h0 => levels5_any 3 l3 c3 w.heap.size (by omega) a3 W (h3.below h) h.size h0)
  clear h1 h2 h3
  go_enter Try.func5, Try.ntmps5
  go_wp2_with fail
  refine (hA _).mono ?_
  rintro e w1 ⟨rfl, b1, z1⟩
  go_wp2_with fail
  refine (HM1.out _ b1).mono ?_
  rintro e w2 ⟨T, la, lc, ka, kc, rfl, hok, s1, s2, b2⟩
  have HB2 := Lib.hid (Below.step b1 b2 (Nat.le_refl _))
  have HZ2 := Lib.hid (Nat.le_trans z1 b2.size)
  have T2 : Hid (TmIn w2 w2.heap.size T la lc ka kc) := Lib.hid ⟨s1.weak (fun b h => h.2), s2.weak (fun b h => h.2), Nat.le_refl _⟩
  have HT : Hid (T.sh = true) := Lib.hid (hok.sh (by omega) (by omega))
  clear hok s1 s2 b2 b1 z1
  go_wp2_with fail
  refine (HM2.out _ HB2.out).mono ?_
  rintro e w3 ⟨U, ua, uc, va, vc, rfl, hok, s1, s2, b3⟩
  have HB3 := Lib.hid (Below.step HB2.out b3 (Nat.le_refl _))
  have HZ3 := Lib.hid (Nat.le_trans HZ2.out b3.size)
  have T3 := Lib.hid (T2.out.later b3)
  have HU : Hid (U.sh = true) := Lib.hid (hok.sh (by omega) (by omega))
  have U3 : Hid (TmIn w3 w3.heap.size U ua uc va vc) := Lib.hid ⟨s1.weak (fun b h => h.2), s2.weak (fun b h => h.2), Nat.le_refl _⟩
  clear hok s1 s2 b3 HB2 HZ2 T2
  have hal1 : Below w3.heap.size w3 (w3.alloc (.cells #[.int .i64 T.k, .int .i64 T.n, .slice la T.ls.len lc, .slice ka T.ks.len kc] 29)) := (Below.refl _ _).alloc (Nat.le_refl _) _
  have hal2 : Below (w3.alloc (.cells #[.int .i64 T.k, .int .i64 T.n, .slice la T.ls.len lc, .slice ka T.ks.len kc] 29)).heap.size (w3.alloc (.cells #[.int .i64 T.k, .int .i64 T.n, .slice la T.ls.len lc, .slice ka T.ks.len kc] 29)) ((w3.alloc (.cells #[.int .i64 T.k, .int .i64 T.n, .slice la T.ls.len lc, .slice ka T.ks.len kc] 29)).alloc (.cells #[.int .i64 U.k, .int .i64 U.n, .slice ua U.ls.len uc, .slice va U.ks.len vc] 29)) := (Below.refl _ _).alloc (Nat.le_refl _) _
  have T4 := Lib.hid ((TmBox.new (show TmIn w3 w3.heap.size T la lc ka kc from ⟨T3.out.1.mono T3.out.2.2, T3.out.2.1.mono T3.out.2.2, Nat.le_refl _⟩)).later hal2)
  have u1 : TmIn (w3.alloc (.cells #[.int .i64 T.k, .int .i64 T.n, .slice la T.ls.len lc, .slice ka T.ks.len kc] 29)) (w3.alloc (.cells #[.int .i64 T.k, .int .i64 T.n, .slice la T.ls.len lc, .slice ka T.ks.len kc] 29)).heap.size U ua uc va vc := by
    have h := U3.out.later hal1
    exact ⟨h.1.mono (by simp), h.2.1.mono (by simp), Nat.le_refl _⟩
  have u2 := TmBox.new u1
  rw [World.size_alloc] at u2
  have U4 := Lib.hid u2
  have HB4 := Lib.hid (Below.step (Below.step HB3.out hal1 (Nat.le_refl _)) hal2 (Nat.le_refl _))
  have HZ4 := Lib.hid (Nat.le_trans HZ3.out (Nat.le_trans hal1.size hal2.size))
  clear hal1 hal2 u1 u2 T3 U3 HB3 HZ3
  go_upto_region 5 with fail
  generalize (w3.alloc (.cells #[.int .i64 T.k, .int .i64 T.n, .slice la T.ls.len lc, .slice ka T.ks.len kc] 29)).alloc (.cells #[.int .i64 U.k, .int .i64 U.n, .slice ua U.ls.len uc, .slice va U.ks.len vc] 29) = W4 at T4 U4 HB4 HZ4 ⊢
  generalize w3.heap.size + 1 = N9 at U4 ⊢
  generalize w3.heap.size = N8 at T4 ⊢
  go_wp2_with fail
  refine (HP.out _ HB4.out HZ4.out).mono ?_
  rintro e w5 ⟨A, y, yc, rfl, hA3, hAR, sA, b5⟩
  have HB5 := Lib.hid (Below.step HB4.out b5 (Nat.le_refl _))
  have T5 := Lib.hid (T4.out.later b5)
  have U5 := Lib.hid (U4.out.later b5)
  have A5 := Lib.hid sA
  have HPAR := Lib.hid (parB_two hA3 hAR)
  have hN5 : w5.heap.size ≤ w5.heap.size := Nat.le_refl _
  clear sA b5 hA3 hAR T4 U4 HB4 HZ4 hN5
  have HO := r13Open_any T U la ka ua va lc kc uc vc w5.heap.size w5 (T5.out.2.1.mono T5.out.2.2.2) (T5.out.2.2.1.mono T5.out.2.2.2) (U5.out.2.1.mono U5.out.2.2.2) (U5.out.2.2.1.mono U5.out.2.2.2) (Nat.le_refl _)
  have HTW := openA_two HT.out HU.out
  obtain ⟨⟨X, E⟩, hXE⟩ : ∃ p, openA T U = p := ⟨_, rfl⟩
  rw [hXE] at HO HTW
  have HOH := Lib.hid HO
  have HXE := Lib.hid hXE
  clear HO hXE
  obtain ⟨t0, t1, t2, t3⟩ := T5.out.cells
  obtain ⟨u0, u1, u2, u3⟩ := U5.out.cells
  go_wp2_with fail
  refine HOH.out.mono ?_
  rintro e w6 ⟨xa, xc, xb, xd, rfl, s1, s2, b6⟩
  have hbx : Below w6.heap.size w6 (w6.alloc (.cells #[.int .i64 X.k, .int .i64 X.n, .slice xa X.ls.len xc, .slice xb X.ks.len xd] 29)) := (Below.refl _ _).alloc (Nat.le_refl _) _
  have b67 := Below.step b6 hbx (Nat.le_refl _)
  have HB7 := Lib.hid (Below.step HB5.out b67 (Nat.le_refl _))
  rcases HTW with ⟨hE, hX⟩ | hE
  case inr =>
    have hE : E = 2 := hE
    subst hE
    clear t0 t1 t2 t3 u0 u1 u2 u3 s1 s2 b6 hbx b67
    go_wp2_with fail
    go_ret
    exact ⟨rfl, HB7.out⟩
  case inl =>
    have hE : E = 0 := hE
    subst hE
    have HXS : Hid (X.sh = true) := Lib.hid hX
    have X7 := Lib.hid (TmBox.new (show TmIn w6 w6.heap.size X xa xc xb xd from ⟨s1, s2, Nat.le_refl _⟩))
    have T7 := Lib.hid (T5.out.later b67)
    have U7 := Lib.hid (U5.out.later b67)
    have A7 := Lib.hid ((A5.out.below b67).mono b67.size)
    clear t0 t1 t2 t3 u0 u1 u2 u3 s1 s2 b6 hbx b67 T5 U5 A5 hX HOH HB5
    go_upto_region 9 with fail
    generalize w6.alloc (.cells #[.int .i64 X.k, .int .i64 X.n, .slice xa X.ls.len xc, .slice xb X.ks.len xd] 29) = w7 at HB7 X7 T7 U7 A7 ⊢
    generalize w6.heap.size = N11 at X7 ⊢
    -- the three answers
    have H1 := qA_two HXS.out HPAR.out
    have H2 := qA_two HT.out HPAR.out
    have H3 := qA_two HU.out HPAR.out
    have HQ := Lib.hid (fun (V : Tm) (va ka : Option Addr) (vc kc N M : Nat) (W : World) (hv : TmBox W N V va vc ka kc) (ha : SlIn W (· < M) A y yc) (hM : M ≤ W.heap.size) => hS A A V va ka y y vc kc yc yc W.heap.size W (hv.2.1.mono hv.2.2.2) (hv.2.2.1.mono hv.2.2.2) (ha.mono hM) (ha.mono hM) (Nat.le_refl _))
    have HOQ : Hid ((qA A A X).2 = 0 → (qA A A T).2 = 0 → (qA A A U).2 = 0 → openA (qA A A T).1 (qA A A U).1 = ((qA A A X).1, 0)) := Lib.hid (fun e1 e2 e3 => by
      rw [(qA_no e1).2.2.2, (qA_no e2).2.2.2, (qA_no e3).2.2.2]
      exact open_q HXE.out e1 e2 e3)
    have C1 := HQ.out X xa xb xc xd N11 w7.heap.size w7 X7.out A7.out (Nat.le_refl _)
    have CT := Lib.hid (fun W (hb : Below w7.heap.size w7 W) => HQ.out T la ka lc kc N8 w7.heap.size W (T7.out.later hb) (A7.out.below hb) hb.size)
    have CU := Lib.hid (fun W (hb : Below w7.heap.size w7 W) => HQ.out U ua va uc vc N9 w7.heap.size W (U7.out.later hb) (A7.out.below hb) hb.size)
    obtain ⟨⟨Y, f⟩, hY⟩ : ∃ p, qA A A X = p := ⟨_, rfl⟩
    obtain ⟨⟨V, g⟩, hV⟩ : ∃ p, qA A A T = p := ⟨_, rfl⟩
    obtain ⟨⟨Z, h⟩, hZ⟩ : ∃ p, qA A A U = p := ⟨_, rfl⟩
    rw [hY] at C1 H1 HOQ
    rw [hV] at CT H2 HOQ
    rw [hZ] at CU H3 HOQ
    have C1H := Lib.hid C1
    have HOP : Hid (f = 0 → g = 0 → h = 0 → openA V Z = (Y, 0)) := HOQ
    clear hY hV hZ C1 HQ HOQ
    obtain ⟨t0, t1, t2, t3⟩ := X7.out.cells
    go_wp2_with fail
    refine C1H.out.mono ?_
    rintro e w8 ⟨pa, pc, pb, pd, rfl, s1, s2, b8⟩
    have hbx : Below w8.heap.size w8 (w8.alloc (.cells #[.int .i64 Y.k, .int .i64 Y.n, .slice pa Y.ls.len pc, .slice pb Y.ks.len pd] 29)) := (Below.refl _ _).alloc (Nat.le_refl _) _
    have HB9 := Lib.hid (Below.step b8 hbx (Nat.le_refl _))
    have Y9 := Lib.hid (TmBox.new (show TmIn w8 w8.heap.size Y pa pc pb pd from ⟨s1, s2, Nat.le_refl _⟩))
    have T9 := Lib.hid (T7.out.later HB9.out)
    clear t0 t1 t2 t3 s1 s2 b8 hbx C1H
    go_upto_region 10 with fail
    generalize w8.alloc (.cells #[.int .i64 Y.k, .int .i64 Y.n, .slice pa Y.ls.len pc, .slice pb Y.ks.len pd] 29) = w9 at HB9 Y9 T9 ⊢
    generalize w8.heap.size = N13 at Y9 ⊢
    obtain ⟨t0, t1, t2, t3⟩ := T9.out.cells
    have CTH := Lib.hid (CT.out w9 HB9.out)
    go_wp2_with fail
    refine CTH.out.mono ?_
    rintro e w10 ⟨qa, qc, qb, qd, rfl, s1, s2, b10⟩
    have hbx : Below w10.heap.size w10 (w10.alloc (.cells #[.int .i64 V.k, .int .i64 V.n, .slice qa V.ls.len qc, .slice qb V.ks.len qd] 29)) := (Below.refl _ _).alloc (Nat.le_refl _) _
    have b911 := Below.step b10 hbx (Nat.le_refl _)
    have HB11 := Lib.hid (Below.step HB9.out b911 (Nat.le_refl _))
    have V11 := Lib.hid (TmBox.new (show TmIn w10 w10.heap.size V qa qc qb qd from ⟨s1, s2, Nat.le_refl _⟩))
    have U11 := Lib.hid (U7.out.later HB11.out)
    have Y11 := Lib.hid (Y9.out.later b911)
    clear t0 t1 t2 t3 s1 s2 b10 hbx b911 CTH CT Y9 T9 T7
    go_upto_region 11 with fail
    generalize w10.alloc (.cells #[.int .i64 V.k, .int .i64 V.n, .slice qa V.ls.len qc, .slice qb V.ks.len qd] 29) = w11 at HB11 V11 U11 Y11 ⊢
    generalize w10.heap.size = N15 at V11 ⊢
    obtain ⟨t0, t1, t2, t3⟩ := U11.out.cells
    have CUH := Lib.hid (CU.out w11 HB11.out)
    go_wp2_with fail
    refine CUH.out.mono ?_
    rintro e w12 ⟨ra, rc, rb, rd, rfl, s1, s2, b12⟩
    have hbx : Below w12.heap.size w12 (w12.alloc (.cells #[.int .i64 Z.k, .int .i64 Z.n, .slice ra Z.ls.len rc, .slice rb Z.ks.len rd] 29)) := (Below.refl _ _).alloc (Nat.le_refl _) _
    have b1113 := Below.step b12 hbx (Nat.le_refl _)
    have HB13 := Lib.hid (Below.step HB7.out (Below.step HB11.out b1113 (Nat.le_refl _)) (Nat.le_refl _))
    have Z13 := Lib.hid (TmBox.new (show TmIn w12 w12.heap.size Z ra rc rb rd from ⟨s1, s2, Nat.le_refl _⟩))
    have V13 := Lib.hid (V11.out.later b1113)
    have Y13 := Lib.hid (Y11.out.later b1113)
    clear t0 t1 t2 t3 s1 s2 b12 hbx b1113 CUH CU U11 U7 V11 Y11 HB11 HB9 X7 A7
    go_upto_region 12 with fail
    generalize w12.alloc (.cells #[.int .i64 Z.k, .int .i64 Z.n, .slice ra Z.ls.len rc, .slice rb Z.ks.len rd] 29) = w13 at HB13 Z13 V13 Y13 ⊢
    generalize w12.heap.size = N17 at Z13 ⊢
    have H1 : f = 0 ∨ f = 2 := H1
    have H2 : g = 0 ∨ g = 2 := H2
    have H3 : h = 0 ∨ h = 2 := H3
    rcases H1 with rfl | rfl
    case inr =>
      clear H2 H3
      go_wp2_with fail
      go_ret
      exact ⟨rfl, HB13.out⟩
    rcases H2 with rfl | rfl
    case inr =>
      clear H3
      go_wp2_with fail
      go_ret
      exact ⟨rfl, HB13.out⟩
    rcases H3 with rfl | rfl
    case inr =>
      go_wp2_with fail
      go_ret
      exact ⟨rfl, HB13.out⟩
    have HO2 := r13Open_any V Z qa qb ra rb qc qd rc rd w13.heap.size w13 (V13.out.2.1.mono V13.out.2.2.2) (V13.out.2.2.1.mono V13.out.2.2.2) (Z13.out.2.1.mono Z13.out.2.2.2) (Z13.out.2.2.1.mono Z13.out.2.2.2) (Nat.le_refl _)
    rw [HOP.out rfl rfl rfl] at HO2
    have HO2H := Lib.hid HO2
    clear HO2
    obtain ⟨t0, t1, t2, t3⟩ := V13.out.cells
    obtain ⟨u0, u1, u2, u3⟩ := Z13.out.cells
    go_wp2_with fail
    refine HO2H.out.mono ?_
    rintro e w14 ⟨ma, mc, mb, md, rfl, s1, s2, b14⟩
    have hbx : Below w14.heap.size w14 (w14.alloc (.cells #[.int .i64 Y.k, .int .i64 Y.n, .slice ma Y.ls.len mc, .slice mb Y.ks.len md] 29)) := (Below.refl _ _).alloc (Nat.le_refl _) _
    have b15 := Below.step b14 hbx (Nat.le_refl _)
    have HB15 := Lib.hid (Below.step HB13.out b15 (Nat.le_refl _))
    have M15 := Lib.hid (TmBox.new (show TmIn w14 w14.heap.size Y ma mc mb md from ⟨s1, s2, Nat.le_refl _⟩))
    have Y15 := Lib.hid (Y13.out.later b15)
    clear t0 t1 t2 t3 u0 u1 u2 u3 s1 s2 b14 hbx b15 HO2H Z13 V13 Y13
    go_upto_region 15 with fail
    generalize w14.alloc (.cells #[.int .i64 Y.k, .int .i64 Y.n, .slice ma Y.ls.len mc, .slice mb Y.ks.len md] 29) = w15 at HB15 M15 Y15 ⊢
    generalize w14.heap.size = N19 at M15 ⊢
    obtain ⟨t0, t1, t2, t3⟩ := Y15.out.cells
    obtain ⟨u0, u1, u2, u3⟩ := M15.out.cells
    have HSM := Lib.hid (r13same_two Y15.out.2 M15.out.2)
    go_wp2_with fail
    refine HSM.out.mono ?_
    rintro e w16 ⟨rfl, b16⟩
    have HB16 := Lib.hid (Below.step HB15.out b16 (Nat.le_refl _))
    clear b16
    go_wp2_with fail
    go_ret
    exact ⟨rfl, HB16.out⟩
end Go.Proofs.Ytcnhfoppfihhiaa.tsubOpen
