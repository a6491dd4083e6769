/- The law's own sample calls answer as any right program does: awake returns true and only makes new memory. -/
import Derived.Test.YtlbflfijihbmdaaEval
import Derived.Test.YtlbflfijihbmdaaSame
import Derived.Test.YtlbflfijihbmdaaNum
namespace Go.Proofs.Ytlbflfijihbmdaa
open Go.RowKit

/-- The sample level's Kids: 3, and the parameter 0. -/
def awF : Fo := .cons (numK 3) 0 (numF 3) (.cons 5 0 .nil .nil)
theorem evV_is {ps ms : List Int} {k n : Int} {f : Fo} {v : Int} (h : evOk ps ms k n f = true) (hv : vNode ps ms k n (vals ps ms f) = v) : evV ps ms k n f = .tuple #[.int .i64 v, .int .i64 0] := by
  unfold evV; rw [if_pos h, hv]
theorem evV_not {ps ms : List Int} {k n : Int} {f : Fo} (h : evOk ps ms k n f = false) : evV ps ms k n f = .tuple #[.int .i64 0, .int .i64 1] := by
  unfold evV; rw [h]; rfl
theorem aw1 : evV [0] [] 4 0 awF = .tuple #[.int .i64 0, .int .i64 0] := evV_is (by decide +kernel) (by decide +kernel)
theorem aw2 : evV [2] [] 4 0 awF = .tuple #[.int .i64 3, .int .i64 0] := evV_is (by decide +kernel) (by decide +kernel)
theorem aw3 : evV [] [] 4 0 awF = .tuple #[.int .i64 0, .int .i64 1] := evV_not (by decide +kernel)
theorem aw4 : rightB 1 0 4 0 awF = true := by decide +kernel
theorem aw5 : rightB 0 0 4 0 awF = false := by decide +kernel
theorem aw6 : decide ((4 : Int) = 4 ∧ (0 : Int) = 0 ∧ awF = awF) = true := by decide +kernel
theorem aw7 : decide ((4 : Int) = numK 3 ∧ (0 : Int) = 0 ∧ awF = numF 3) = false := by decide +kernel
theorem aw8 : awF.len = 2 := rfl

theorem cell_at {w : World} {b : Nat} {cs : Array Value} {t : TypeId} (h : w.heap[b]? = some (.cells cs t (0, 0))) (i : Nat) : w.cell? ⟨b, i, none⟩ = cs[i]? := by simp [World.cell?, h]
/-- One number in a new block. -/
theorem ints_new (W : World) (x : Int) : IntsIn (W.alloc (.cells #[.int .i64 x] 3)) (· < W.heap.size + 1) [x] (some ⟨W.heap.size, 0, none⟩) 1 := by
  refine IntsIn.mk (by simp) (by omega) (by omega) (fun i hi => ?_)
  have : i = 0 := by simpa using hi
  subst this
  simp
/-- The sample level in its variables: what lies there. -/
structure AwAt (N : Nat) (a : Option Addr) (cap : Nat) (W : World) : Prop where
  t0 : W.cell? ⟨N, 0, none⟩ = some (.int .i64 (numK 3))
  t1 : W.cell? ⟨N, 1, none⟩ = some (.int .i64 0)
  t2 : W.cell? ⟨N, 2, none⟩ = some (.slice a (numF 3).len cap)
  l0 : W.cell? ⟨N + 1 + 1, 0, none⟩ = some (.int .i64 4)
  l1 : W.cell? ⟨N + 1 + 1, 1, none⟩ = some (.int .i64 0)
  l2 : W.cell? ⟨N + 1 + 1, 2, none⟩ = some (.slice (some ⟨N + 1, 0, none⟩) 2 2)
  sl : SlIn W (· < N + 1 + 1 + 1) awF (some ⟨N + 1, 0, none⟩) 2
  st : SlIn W (· < N + 1 + 1 + 1) (numF 3) a cap
  sz : N + 1 + 1 + 1 ≤ W.heap.size
theorem AwAt.below {N cap : Nat} {a : Option Addr} {W W' : World} (h : AwAt N a cap W) (hb : Below W.heap.size W W') : AwAt N a cap W' := by
  have hz := h.sz
  have hb' : Below (N + 1 + 1 + 1) W W' := hb.mono hz
  exact ⟨(bcell hb' _ _ (by omega)).trans h.t0, (bcell hb' _ _ (by omega)).trans h.t1, (bcell hb' _ _ (by omega)).trans h.t2, (bcell hb' _ _ (by omega)).trans h.l0, (bcell hb' _ _ (by omega)).trans h.l1, (bcell hb' _ _ (by omega)).trans h.l2,
    h.sl.below hb', h.st.below hb', Nat.le_trans hz hb.size⟩
theorem AwAt.alloc {N cap : Nat} {a : Option Addr} {W : World} (h : AwAt N a cap W) (o : Obj) : AwAt N a cap (W.alloc o) := h.below ((Below.refl _ _).alloc (Nat.le_refl _) o)
theorem AwAt.start {w1 : World} {a : Option Addr} {cap : Nat} (hs : SlIn w1 (· < w1.heap.size) (numF 3) a cap) :
    AwAt w1.heap.size a cap (((w1.alloc (.cells #[.int .i64 (numK 3), .int .i64 0, .slice a (numF 3).len cap] 24)).alloc (.cells #[.int .i64 (numK 3), .int .i64 0, .slice a (numF 3).len cap, .int .i64 5, .int .i64 0, .slice none 0 0] 24)).alloc
      (.cells #[.int .i64 4, .int .i64 0, .slice (some ⟨w1.heap.size + 1, 0, none⟩) 2 2] 24)) := by
  have hb : Below w1.heap.size w1 (((w1.alloc (.cells #[.int .i64 (numK 3), .int .i64 0, .slice a (numF 3).len cap] 24)).alloc (.cells #[.int .i64 (numK 3), .int .i64 0, .slice a (numF 3).len cap, .int .i64 5, .int .i64 0, .slice none 0 0] 24)).alloc
      (.cells #[.int .i64 4, .int .i64 0, .slice (some ⟨w1.heap.size + 1, 0, none⟩) 2 2] 24)) := (((Below.refl _ _).alloc (Nat.le_refl _) _).alloc (by simp) _).alloc (by simp; omega) _
  have st := (hs.below hb).mono (B' := w1.heap.size + 1 + 1 + 1) (by omega)
  generalize hT : Obj.cells #[.int .i64 (numK 3), .int .i64 0, .slice a (numF 3).len cap] 24 = oT at st hb ⊢
  generalize hS : Obj.cells #[.int .i64 (numK 3), .int .i64 0, .slice a (numF 3).len cap, .int .i64 5, .int .i64 0, .slice none 0 0] 24 = oS at st hb ⊢
  generalize hL : Obj.cells #[.int .i64 4, .int .i64 0, .slice (some ⟨w1.heap.size + 1, 0, none⟩) 2 2] 24 = oL at st hb ⊢
  have bT : (((w1.alloc oT).alloc oS).alloc oL).heap[w1.heap.size]? = some oT := by rw [heap_old _ _ (by simp; omega), heap_old _ _ (by simp), heap_new]
  have bS : (((w1.alloc oT).alloc oS).alloc oL).heap[w1.heap.size + 1]? = some oS := by rw [heap_old _ _ (by simp)]; exact heap_second _ _ _
  have bL : (((w1.alloc oT).alloc oS).alloc oL).heap[w1.heap.size + 1 + 1]? = some oL := by have := heap_new ((w1.alloc oT).alloc oS) oL; simpa using this
  subst hT hS hL
  refine ⟨cell_at bT 0, cell_at bT 1, cell_at bT 2, cell_at bL 0, cell_at bL 1, cell_at bL 2, ?_, st, by simp⟩
  refine SlIn.mk (by rw [aw8]; omega) (by omega) (by omega) ?_
  exact FoIn.push (cell_at bS 0) (cell_at bS 1) (cell_at bS 2) st (FoIn.push (cell_at bS 3) (cell_at bS 4) (cell_at bS 5) (SlIn.none _ _) trivial)

set_option maxRecDepth 100000 in
set_option maxHeartbeats 8000000 in
theorem awake_any (w : World) : Calls Try.prog 8 #[] w fun e w' => e = .returned (.bool true) ∧ Below w.heap.size w w' := by
  go_enter Try.func8, Try.ntmps8
  go_wp2_with fail
  refine (num_any _ 3 (by omega)).mono ?_
  rintro e w1 ⟨a, cap, rfl, hs, hb1⟩
  go_wp2_with fail
  have h0 := AwAt.start hs
  have hW : Below w.heap.size w (((w1.alloc (.cells #[.int .i64 (numK 3), .int .i64 0, .slice a (numF 3).len cap] 24)).alloc (.cells #[.int .i64 (numK 3), .int .i64 0, .slice a (numF 3).len cap, .int .i64 5, .int .i64 0, .slice none 0 0] 24)).alloc
      (.cells #[.int .i64 4, .int .i64 0, .slice (some ⟨w1.heap.size + 1, 0, none⟩) 2 2] 24)) := hb1.trans ((((Below.refl _ _).alloc hb1.size _).alloc (by have := hb1.size; simp; omega) _).alloc (by have := hb1.size; simp; omega) _)
  have hWs : w1.heap.size + 1 + 1 + 1 = (((w1.alloc (.cells #[.int .i64 (numK 3), .int .i64 0, .slice a (numF 3).len cap] 24)).alloc (.cells #[.int .i64 (numK 3), .int .i64 0, .slice a (numF 3).len cap, .int .i64 5, .int .i64 0, .slice none 0 0] 24)).alloc
      (.cells #[.int .i64 4, .int .i64 0, .slice (some ⟨w1.heap.size + 1, 0, none⟩) 2 2] 24)).heap.size := by simp
  rw [hWs]
  generalize (((w1.alloc (.cells #[.int .i64 (numK 3), .int .i64 0, .slice a (numF 3).len cap] 24)).alloc (.cells #[.int .i64 (numK 3), .int .i64 0, .slice a (numF 3).len cap, .int .i64 5, .int .i64 0, .slice none 0 0] 24)).alloc
      (.cells #[.int .i64 4, .int .i64 0, .slice (some ⟨w1.heap.size + 1, 0, none⟩) 2 2] 24)) = W0 at h0 hW hWs ⊢
  clear hWs hs
  generalize w1.heap.size = N at h0 ⊢
  have HE := Lib.hid (fun ps k n ap cp B W h1 h2 h3 => Eval_any ps [] k n awF (some ⟨N + 1, 0, none⟩) ap none 2 cp 0 B W h1 h2 (IntsIn.none _ _) h3)
  have E1 := Lib.hid (HE.out [0] 4 0)
  have E2 := Lib.hid (HE.out [2] 4 0)
  have E3 := Lib.hid (HE.out [] 4 0)
  rw [aw1] at E1
  rw [aw2] at E2
  rw [aw3] at E3
  rw [aw8] at E1 E2 E3
  clear HE
  refine (E1.out _ _ (W0.heap.size + 1) _ ((h0.alloc _).sl.mono (Nat.le_succ_of_le h0.sz)) (ints_new _ _) (by simp)).mono ?_
  rintro e w2 ⟨rfl, hb2⟩
  have h2P := (h0.alloc _).below hb2
  have hW2 := Lib.hid (Below.step (hW.alloc hW.size _) hb2 (Nat.le_refl _))
  have HP2 := Lib.hid h2P
  clear hb2 hW
  obtain ⟨q0, q1, q2, p0, p1, p2, ps, pt, pz⟩ := h2P
  go_wp2_with fail
  refine (E2.out _ _ (w2.heap.size + 1) _ ((HP2.out.alloc _).sl.mono (Nat.le_succ_of_le pz)) (ints_new _ _) (by simp)).mono ?_
  rintro e w3 ⟨rfl, hb3⟩
  have h3P := (HP2.out.alloc _).below hb3
  have HP3 := Lib.hid h3P
  have hW3 := Lib.hid (Below.step (hW2.out.alloc hW2.out.size _) hb3 (Nat.le_refl _))
  clear q0 q1 q2 p0 p1 p2 ps pt pz hb3
  obtain ⟨q0, q1, q2, p0, p1, p2, ps, pt, pz⟩ := h3P
  go_wp2_with fail
  refine (E3.out _ _ w3.heap.size _ (HP3.out.sl.mono pz) (IntsIn.none _ _) (Nat.le_refl _)).mono ?_
  rintro e w4 ⟨rfl, hb4⟩
  have h4P := HP3.out.below hb4
  have HP4 := Lib.hid h4P
  have hW4 := Lib.hid (Below.step hW3.out hb4 (Nat.le_refl _))
  clear q0 q1 q2 p0 p1 p2 ps pt pz hb4
  obtain ⟨q0, q1, q2, p0, p1, p2, ps, pt, pz⟩ := h4P
  go_wp2_with fail
  refine (num_no _ 12 (by omega)).mono ?_
  rintro e w5 ⟨rfl, hb5⟩
  have h5P := HP4.out.below hb5
  have HP5 := Lib.hid h5P
  have hW5 := Lib.hid (Below.step hW4.out hb5 (Nat.le_refl _))
  clear q0 q1 q2 p0 p1 p2 ps pt pz hb5
  obtain ⟨q0, q1, q2, p0, p1, p2, ps, pt, pz⟩ := h5P
  have hlt1 : N < w5.heap.size := by omega
  have hlt2 : N + 1 + 1 < w5.heap.size := by omega
  have R1 := Lib.hid (fun B W h1 h2 => Right_any 1 0 4 0 awF (some ⟨N + 1, 0, none⟩) 2 B W h1 h2)
  have R2 := Lib.hid (fun B W h1 h2 => Right_any 0 0 4 0 awF (some ⟨N + 1, 0, none⟩) 2 B W h1 h2)
  have S1 := Lib.hid (fun B W h1 h2 h3 => Same_any awF awF 4 0 4 0 (some ⟨N + 1, 0, none⟩) (some ⟨N + 1, 0, none⟩) 2 2 B W h1 h2 h3 (by decide) (by decide))
  have S2 := Lib.hid (fun B W h1 h2 h3 => Same_any awF (numF 3) 4 0 (numK 3) 0 (some ⟨N + 1, 0, none⟩) a 2 cap B W h1 h2 h3 (by decide) (by decide))
  rw [aw4, aw8] at R1
  rw [aw5, aw8] at R2
  rw [aw6, aw8] at S1
  rw [aw7, aw8] at S2
  go_wp2_with fail
  refine (R1.out _ _ ((HP5.out.alloc _).sl.mono (HP5.out.alloc _).sz) (Nat.le_refl _)).mono ?_
  rintro e w6 ⟨rfl, hb6⟩
  have h6P := (HP5.out.alloc _).below hb6
  have HP6 := Lib.hid h6P
  have hW6 := Lib.hid (Below.step (hW5.out.alloc hW5.out.size _) hb6 (Nat.le_refl _))
  clear q0 q1 q2 p0 p1 p2 ps pt pz hb6
  obtain ⟨q0, q1, q2, p0, p1, p2, ps, pt, pz⟩ := h6P
  go_wp2_with fail
  refine (R2.out _ _ (HP6.out.sl.mono pz) (Nat.le_refl _)).mono ?_
  rintro e w7 ⟨rfl, hb7⟩
  have h7P := HP6.out.below hb7
  have HP7 := Lib.hid h7P
  have hW7 := Lib.hid (Below.step hW6.out hb7 (Nat.le_refl _))
  clear q0 q1 q2 p0 p1 p2 ps pt pz hb7
  obtain ⟨q0, q1, q2, p0, p1, p2, ps, pt, pz⟩ := h7P
  go_wp2_with fail
  refine (S1.out _ _ (HP7.out.sl.mono pz) (HP7.out.sl.mono pz) (Nat.le_refl _)).mono ?_
  rintro e w8 ⟨rfl, hb8⟩
  have h8P := HP7.out.below hb8
  have HP8 := Lib.hid h8P
  have hW8 := Lib.hid (Below.step hW7.out hb8 (Nat.le_refl _))
  clear q0 q1 q2 p0 p1 p2 ps pt pz hb8
  obtain ⟨q0, q1, q2, p0, p1, p2, ps, pt, pz⟩ := h8P
  go_wp2_with fail
  refine (S2.out _ _ (HP8.out.sl.mono pz) (HP8.out.st.mono pz) (Nat.le_refl _)).mono ?_
  rintro e w9 ⟨rfl, hb9⟩
  have hW9 := Lib.hid (Below.step hW8.out hb9 (Nat.le_refl _))
  clear q0 q1 q2 p0 p1 p2 ps pt pz hb9
  go_wp2_with fail
  go_ret
  exact ⟨rfl, hW9.out⟩
end Go.Proofs.Ytlbflfijihbmdaa
