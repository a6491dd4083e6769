/- The walk of LevelMore. -/
import Derived.Test.YtlbflfijihbmdaaMore1
import Derived.Test.YtlbflfijihbmdaaMadeWalk
namespace Go.Proofs.Ytlbflfijihbmdaa.levelMore
open Go.RowKit Go.Proofs.Ytlbflfijihbmdaa.levelMade

section
variable {NA NB gp gq : Nat} {ka na : Int} {Fa : Fo} {xa : Option Addr} {ca : Nat} {kb nb : Int} {Fb : Fo} {xb : Option Addr} {cb : Nat} {p0 p1 p2 q0 q1 : Int} {W W' : World}
theorem MdAt.low (h : MdAt NA NB gp gq ka na Fa xa ca kb nb Fb xb cb p0 p1 p2 q0 q1 W) {B : Nat} (hb : Below B W W') (hB : gq < B) : MdAt NA NB gp gq ka na Fa xa ca kb nb Fb xb cb p0 p1 p2 q0 q1 W' := by
  have hl := h.lo
  have hz := hb.size
  exact ⟨(bcell hb _ _ (by omega)).trans h.a0, (bcell hb _ _ (by omega)).trans h.a1, (bcell hb _ _ (by omega)).trans h.a2, (bcell hb _ _ (by omega)).trans h.b0, (bcell hb _ _ (by omega)).trans h.b1, (bcell hb _ _ (by omega)).trans h.b2,
    (hb.block gp (by omega)).trans h.vp, (hb.block gq (by omega)).trans h.vq, h.sa.below (hb.mono (by omega)), h.sb.below (hb.mono (by omega)), by omega⟩
theorem MdAt.ab (h : MdAt NA NB gp gq ka na Fa xa ca kb nb Fb xb cb p0 p1 p2 q0 q1 W) : MdAt NA NB gp gq ka na Fa xa ca kb nb Fb xb cb p0 p1 p2 q0 q1 (W.alloc (.cells #[.int .i64 ka, .int .i64 na, .slice xa Fa.len ca, .int .i64 kb, .int .i64 nb, .slice xb Fb.len cb] 24)) ∧ SlIn (W.alloc (.cells #[.int .i64 ka, .int .i64 na, .slice xa Fa.len ca, .int .i64 kb, .int .i64 nb, .slice xb Fb.len cb] 24)) (· < (W.alloc (.cells #[.int .i64 ka, .int .i64 na, .slice xa Fa.len ca, .int .i64 kb, .int .i64 nb, .slice xb Fb.len cb] 24)).heap.size) (.cons ka na Fa (.cons kb nb Fb .nil)) (some ⟨W.heap.size, 0, none⟩) 2 := by
  have hl := h.lo
  have hb : Below W.heap.size W (W.alloc (.cells #[.int .i64 ka, .int .i64 na, .slice xa Fa.len ca, .int .i64 kb, .int .i64 nb, .slice xb Fb.len cb] 24)) := (Below.refl _ _).alloc (Nat.le_refl _) _
  have u1 := heap_new W (.cells #[.int .i64 ka, .int .i64 na, .slice xa Fa.len ca, .int .i64 kb, .int .i64 nb, .slice xb Fb.len cb] 24)
  have us : (W.alloc (.cells #[.int .i64 ka, .int .i64 na, .slice xa Fa.len ca, .int .i64 kb, .int .i64 nb, .slice xb Fb.len cb] 24)).heap.size = W.heap.size + 1 := by simp
  generalize W.alloc (.cells #[.int .i64 ka, .int .i64 na, .slice xa Fa.len ca, .int .i64 kb, .int .i64 nb, .slice xb Fb.len cb] 24) = W9 at hb u1 us ⊢
  have h9 := h.below hb
  have s1 := h9.sa.mono (B' := W9.heap.size) (by omega)
  have s2 := h9.sb.mono (B' := W9.heap.size) (by omega)
  exact ⟨h9, SlIn.mk (by simp [Fo.len]) (by omega) (by omega) (FoIn.push (cell_at u1 0) (cell_at u1 1) (cell_at u1 2) s1 (FoIn.push (cell_at u1 3) (cell_at u1 4) (cell_at u1 5) s2 trivial))⟩
theorem MdAt.ba (h : MdAt NA NB gp gq ka na Fa xa ca kb nb Fb xb cb p0 p1 p2 q0 q1 W) : MdAt NA NB gp gq ka na Fa xa ca kb nb Fb xb cb p0 p1 p2 q0 q1 (W.alloc (.cells #[.int .i64 kb, .int .i64 nb, .slice xb Fb.len cb, .int .i64 ka, .int .i64 na, .slice xa Fa.len ca] 24)) ∧ SlIn (W.alloc (.cells #[.int .i64 kb, .int .i64 nb, .slice xb Fb.len cb, .int .i64 ka, .int .i64 na, .slice xa Fa.len ca] 24)) (· < (W.alloc (.cells #[.int .i64 kb, .int .i64 nb, .slice xb Fb.len cb, .int .i64 ka, .int .i64 na, .slice xa Fa.len ca] 24)).heap.size) (.cons kb nb Fb (.cons ka na Fa .nil)) (some ⟨W.heap.size, 0, none⟩) 2 := by
  have hl := h.lo
  have hb : Below W.heap.size W (W.alloc (.cells #[.int .i64 kb, .int .i64 nb, .slice xb Fb.len cb, .int .i64 ka, .int .i64 na, .slice xa Fa.len ca] 24)) := (Below.refl _ _).alloc (Nat.le_refl _) _
  have u1 := heap_new W (.cells #[.int .i64 kb, .int .i64 nb, .slice xb Fb.len cb, .int .i64 ka, .int .i64 na, .slice xa Fa.len ca] 24)
  have us : (W.alloc (.cells #[.int .i64 kb, .int .i64 nb, .slice xb Fb.len cb, .int .i64 ka, .int .i64 na, .slice xa Fa.len ca] 24)).heap.size = W.heap.size + 1 := by simp
  generalize W.alloc (.cells #[.int .i64 kb, .int .i64 nb, .slice xb Fb.len cb, .int .i64 ka, .int .i64 na, .slice xa Fa.len ca] 24) = W9 at hb u1 us ⊢
  have h9 := h.below hb
  have s1 := h9.sa.mono (B' := W9.heap.size) (by omega)
  have s2 := h9.sb.mono (B' := W9.heap.size) (by omega)
  exact ⟨h9, SlIn.mk (by simp [Fo.len]) (by omega) (by omega) (FoIn.push (cell_at u1 0) (cell_at u1 1) (cell_at u1 2) s2 (FoIn.push (cell_at u1 3) (cell_at u1 4) (cell_at u1 5) s1 trivial))⟩
theorem MdAt.one (h : MdAt NA NB gp gq ka na Fa xa ca kb nb Fb xb cb p0 p1 p2 q0 q1 W) : MdAt NA NB gp gq ka na Fa xa ca kb nb Fb xb cb p0 p1 p2 q0 q1 (W.alloc (.cells #[.int .i64 ka, .int .i64 na, .slice xa Fa.len ca] 24)) ∧ SlIn (W.alloc (.cells #[.int .i64 ka, .int .i64 na, .slice xa Fa.len ca] 24)) (· < (W.alloc (.cells #[.int .i64 ka, .int .i64 na, .slice xa Fa.len ca] 24)).heap.size) (.cons ka na Fa .nil) (some ⟨W.heap.size, 0, none⟩) 1 := by
  have hl := h.lo
  have hb : Below W.heap.size W (W.alloc (.cells #[.int .i64 ka, .int .i64 na, .slice xa Fa.len ca] 24)) := (Below.refl _ _).alloc (Nat.le_refl _) _
  have u1 := heap_new W (.cells #[.int .i64 ka, .int .i64 na, .slice xa Fa.len ca] 24)
  have us : (W.alloc (.cells #[.int .i64 ka, .int .i64 na, .slice xa Fa.len ca] 24)).heap.size = W.heap.size + 1 := by simp
  generalize W.alloc (.cells #[.int .i64 ka, .int .i64 na, .slice xa Fa.len ca] 24) = W9 at hb u1 us ⊢
  have h9 := h.below hb
  have s1 := h9.sa.mono (B' := W9.heap.size) (by omega)
  exact ⟨h9, SlIn.mk (by simp [Fo.len]) (by omega) (by omega) (FoIn.push (cell_at u1 0) (cell_at u1 1) (cell_at u1 2) s1 trivial)⟩
end
/-- The values of more, when so many have been gone through. -/
def MoS (j : Nat) (p0 p1 p2 m0 m1 m2 : Int) : Prop := (p0 ≤ m0 ∧ m0 ≤ 8 + 3 * j) ∧ (p1 ≤ m1 ∧ m1 ≤ 8 + 3 * j) ∧ (p2 ≤ m2 ∧ m2 ≤ 8 + 3 * j)
theorem MoS.step {j : Nat} {p0 p1 p2 m0 m1 m2 e : Int} (h : MoS j p0 p1 p2 m0 m1 m2) (hj : j < 3) (e0 : 0 ≤ e) (e1 : e < 4) :
    MoS (j + 1) p0 p1 p2 (if j = 0 then [m0, m1, m2].getD j 0 + e else m0) (if j = 1 then [m0, m1, m2].getD j 0 + e else m1) (if j = 2 then [m0, m1, m2].getD j 0 + e else m2) := by
  unfold MoS at *
  match j, hj with
  | 0, _ => simp at *; omega
  | 1, _ => simp at *; omega
  | 2, _ => simp at *; omega
theorem MoS.next {j : Nat} {p0 p1 p2 m0 m1 m2 : Int} (h : MoS j p0 p1 p2 m0 m1 m2) : MoS (j + 1) p0 p1 p2 m0 m1 m2 := by
  unfold MoS at *
  omega
theorem MoS.get {j : Nat} {p0 p1 p2 m0 m1 m2 : Int} (h : MoS j p0 p1 p2 m0 m1 m2) (hj : j < 3) (h0 : Small p0) (h1 : Small p1) (h2 : Small p2) : 0 ≤ [m0, m1, m2].getD j 0 ∧ [m0, m1, m2].getD j 0 ≤ 20 := by
  unfold MoS Small at *
  match j, hj with
  | 0, _ => simp at *; omega
  | 1, _ => simp at *; omega
  | 2, _ => simp at *; omega

set_option maxRecDepth 100000 in
set_option maxHeartbeats 16000000 in
theorem walk (l1 l2 l3 l4 c1 c2 c3 c4 B : Nat) (a1 a2 a3 a4 : Option Addr) (w : World) (h1 : U8In w (· < B) l1 a1 c1) (h2 : U8In w (· < B) l2 a2 c2) (h3 : U8In w (· < B) l3 a3 c3) (h4 : U8In w (· < B) l4 a4 c4) (hB : B ≤ w.heap.size) :
    Calls Try.prog 6 #[.slice a1 l1 c1, .slice a2 l2 c2, .slice a3 l3 c3, .slice a4 l4 c4] w fun e w' => e = .returned (.bool true) ∧ Below w.heap.size w w' := by
  have hl4 : l4 ≤ 9223372036854775807 := by have h1 := h4.1; have h2 := h4.2.1; unfold maxLen at h2; omega
  go_enter Try.func6, Try.ntmps6
  go_wp2_with fail
  refine (awake_any _).mono ?_
  rintro e w0 ⟨rfl, hw0⟩
  go_wp2_with fail
  refine (made_any l1 c1 B a1 _ (h1.below (hw0.mono hB)) (Nat.le_trans hB hw0.size)).mono ?_
  rintro e w1 ⟨ka, na, Fa, xa, ca, rfl, hoka, hsa, hb1⟩
  have hw1 := Below.step hw0 hb1 (Nat.le_refl _)
  have HSA := Lib.hid hsa
  have HOA := Lib.hid hoka
  clear hb1 hsa hoka hw0
  go_wp2_with fail
  refine (made_any l2 c2 B a2 _ (h2.below (hw1.mono hB)) (Nat.le_trans hB hw1.size)).mono ?_
  rintro e w2 ⟨kb, nb, Fb, xb, cb, rfl, hokb, hsb, hb2⟩
  have hw2 : Below w.heap.size w w2 := hw1.trans (hb2.mono hw1.size)
  have HSA2 := Lib.hid (((HSA.out.weak (Q := (· < w1.heap.size)) (fun _ hb => hb.2)).below hb2).mono (B' := w2.heap.size) hb2.size)
  have HSB2 := Lib.hid (hsb.weak (Q := (· < w2.heap.size)) (fun _ hb => hb.2))
  have HOB := Lib.hid hokb
  clear hb2 hsb hokb HSA
  have bx : Below w2.heap.size w2 ((w2.alloc (.cells #[.int .i64 ka, .int .i64 na, .slice xa Fa.len ca] 24)).alloc (.cells #[.int .i64 kb, .int .i64 nb, .slice xb Fb.len cb] 24)) := ((Below.refl _ _).alloc (Nat.le_refl _) _).alloc (by simp) _
  have hwx : Below w.heap.size w ((w2.alloc (.cells #[.int .i64 ka, .int .i64 na, .slice xa Fa.len ca] 24)).alloc (.cells #[.int .i64 kb, .int .i64 nb, .slice xb Fb.len cb] 24)) := hw2.trans (bx.mono hw2.size)
  go_wp2_with fail
  refine (values3_any l3 c3 B a3 _ (h3.below (hwx.mono hB)) (Nat.le_trans hB hwx.size)).mono ?_
  rintro e w4 ⟨p0, p1, p2, rfl, hp0, hp1, hp2, hvp, hb4⟩
  have hw4 : Below w.heap.size w w4 := Below.step hwx hb4 (Nat.le_refl _)
  have HVP := Lib.hid hvp
  have hb4' : Below (w2.heap.size + 2) ((w2.alloc (.cells #[.int .i64 ka, .int .i64 na, .slice xa Fa.len ca] 24)).alloc (.cells #[.int .i64 kb, .int .i64 nb, .slice xb Fb.len cb] 24)) w4 := by simpa using hb4
  clear hvp hb4
  go_wp2_with fail
  refine (values2_any l4 c4 B a4 _ (h4.below (hw4.mono hB)) (Nat.le_trans hB hw4.size)).mono ?_
  rintro e w5 ⟨q0, q1, rfl, hq0, hq1, hvq, hb5⟩
  have hw5 : Below w.heap.size w w5 := Below.step hw4 hb5 (Nat.le_refl _)
  have hNA := hw2.size
  have HMD := Lib.hid (mdAt_start HSA2.out HSB2.out hb4' (by simpa using HVP.out) hvq hb5)
  have HSM := Lib.hid (And.intro hp0 (And.intro hp1 (And.intro hp2 (And.intro hq0 hq1))))
  clear hvq hb5 hb4' HSA2 HSB2 HVP bx hwx hw1 hw2 hw4 h1 h2 h3 hp0 hp1 hp2 hq0 hq1
  generalize w2.heap.size = NA at HMD hNA ⊢
  generalize w4.heap.size = gq at HMD ⊢
  obtain ⟨gm, cm, w6, hrun, hb6, hgm, hc1, hc2, hmo⟩ := append_copy 25 HMD.out.vp
  have HRUN := Lib.hid hrun
  have HM6 := Lib.hid (HMD.out.below hb6)
  have HMo := Lib.hid hmo
  have hw6 := Below.step hw5 hb6 (Nat.le_refl _)
  have hgq : gq < gm ∧ w.heap.size ≤ gm := ⟨by have := HMD.out.lo; omega, by have := hw5.size; omega⟩
  clear hrun hb6 hmo hw5 hgm
  go_wp2_with (at_builtin; refine wpList_append_run (by rfl) _ _ _ (by rfl) (by rfl) (by rfl) HRUN.out ?_)
  go_loopw [15] (fun i wr => ∃ (j : Nat) (m0 m1 m2 : Int), i = .int .i64 j ∧ j ≤ 3 ∧ Hid (MoS j p0 p1 p2 m0 m1 m2) ∧ Hid (MoAt wr gm m0 m1 m2) ∧ Hid (MdAt NA (NA + 1) (NA + 1 + 1) gq ka na Fa xa ca kb nb Fb xb cb p0 p1 p2 q0 q1 wr) ∧ Below w.heap.size w wr) (fun i _ => 3 - (intOf i).toNat)
  case atStart =>
    refine ⟨0, p0, p1, p2, rfl, by omega, Lib.hid ?_, HMo, HM6, hw6⟩
    obtain ⟨s0, s1, s2, _, _⟩ := HSM.out
    unfold Small at s0 s1 s2
    unfold MoS
    omega
  case round =>
    obtain ⟨j, m0, m1, m2, rfl, hj, hms, hmo, hmd, hb⟩ := hrel
    by_cases h2 : j < 3
    · have d2 : decide ((j : Int) < 3) = true := by simp; omega
      have h2' : (j : Int) < 3 := by omega
      by_cases h1 : j < l4
      · obtain ⟨y0, y1, y2⟩ := hmo.out.at h2
        obtain ⟨b, o, u, rfl, hbB, u0, u1, hu⟩ := (h4.below (hb.mono hB)).at h1
        have e0 := Int.emod_nonneg u (b := 4) (by omega)
        have e1 := Int.emod_lt_of_pos u (b := 4) (by omega)
        have d1 : decide ((j : Int) < (l4 : Int)) = true := by simp; omega
        obtain ⟨g0, g1⟩ := hms.out.get h2 HSM.out.1 HSM.out.2.1 HSM.out.2.2.1
        have HW := Lib.hid (hmo.out.set h2 ([m0, m1, m2].getD j 0 + u % 4))
        have HS := Lib.hid (hms.out.step h2 e0 e1)
        generalize [m0, m1, m2].getD j 0 = z at y0 g0 g1 HW HS
        go_wp2_with fail
        go_region
        go_wp2_with fail
        go_roundw
        case rel => exact ⟨j + 1, _, _, _, by go_num, by omega, HS, Lib.hid (show MoAt (wr.setCell _ _) _ _ _ _ from HW.out), Lib.hid (MdAt.low hmd.out (((Below.refl gm wr).setCell (Nat.le_refl _) _).drew) hgq.1), (hb.setCell hgq.2 _).drew⟩
        case measure => simp [intOf]; omega
      · have d1 : decide ((j : Int) < (l4 : Int)) = false := by simp; omega
        have HS := Lib.hid hms.out.next
        go_wp2_with fail
        go_roundw
        case rel => exact ⟨j + 1, m0, m1, m2, by go_num, by omega, HS, hmo, hmd, hb⟩
        case measure => simp [intOf]; omega
    · have d2 : decide ((j : Int) < 3) = false := by simp; omega
      obtain ⟨t0, t1, t2⟩ := hms.out
      obtain ⟨s0, s1, s2, s3, s4⟩ := HSM.out
      obtain ⟨x, y, s, v1, v2, v3, v4, v5, x0, x13, xy, xs⟩ := more_facts HOA.out HOB.out s0 s1 s2 s3 s4 ⟨t0.1, by omega⟩ ⟨t1.1, by omega⟩ ⟨t2.1, by omega⟩
      have HV1 := Lib.hid v1
      have HV2 := Lib.hid v2
      have HV3 := Lib.hid v3
      have HV4 := Lib.hid v4
      have HV5 := Lib.hid v5
      have d3 : decide (x ≤ y) = true := by simp; omega
      have d4 : decide (x ≤ s) = true := by simp; omega
      have d5 : decide (x ≤ 13) = true := by simp; omega
      clear v1 v2 v3 v4 v5 t0 t1 t2 s0 s1 s2 s3 s4 hms
      obtain ⟨r0, r1, r2, r3, r4, r5, rp, rq, ra, rb, rl⟩ := hmd.out
      go_wp2_with fail
      refine (Eval_is [p0, p1, p2] [q0, q1] ka na x Fa xa _ _ ca 3 2 wr.heap.size _ (hmd.out.sa.mono (by have := hmd.out.lo; omega)) (Vs3.ints hmd.out.vp) (Vs2.ints hmd.out.vq) (Nat.le_refl _) HV1.out).mono ?_
      rintro e w8 ⟨rfl, hb8⟩
      have HM8 := Lib.hid (hmd.out.below hb8)
      have HO8 := Lib.hid (hmo.out.below hb8)
      have hw8 := Below.step hb hb8 (Nat.le_refl _)
      clear r0 r1 r2 r3 r4 r5 rp rq ra rb rl hb8
      obtain ⟨r0, r1, r2, r3, r4, r5, rp, rq, ra, rb, rl⟩ := HM8.out
      go_wp2_with fail
      refine (Eval_is [m0, m1, m2] [q0, q1] ka na y Fa xa _ _ ca cm 2 w8.heap.size _ (HM8.out.sa.mono (by have := HM8.out.lo; omega)) (HO8.out.ints hc1 hc2) (Vs2.ints HM8.out.vq) (Nat.le_refl _) HV2.out).mono ?_
      rintro e w9 ⟨rfl, hb9⟩
      have HM9 := Lib.hid (HM8.out.below hb9)
      have hw9 := Below.step hw8 hb9 (Nat.le_refl _)
      clear r0 r1 r2 r3 r4 r5 rp rq ra rb rl hb9
      obtain ⟨r0, r1, r2, r3, r4, r5, rp, rq, ra, rb, rl⟩ := HM9.out
      have HX9 := Lib.hid (MdAt.ab HM9.out)
      go_wp2_with fail
      refine (Eval_is [p0, p1, p2] [q0, q1] 3 0 s (.cons ka na Fa (.cons kb nb Fb .nil)) (some ⟨w9.heap.size, 0, none⟩) _ _ 2 3 2 (w9.alloc (.cells #[.int .i64 ka, .int .i64 na, .slice xa Fa.len ca, .int .i64 kb, .int .i64 nb, .slice xb Fb.len cb] 24)).heap.size _ HX9.out.2 (Vs3.ints HX9.out.1.vp) (Vs2.ints HX9.out.1.vq) (Nat.le_refl _) HV3.out).mono ?_
      rintro e w10 ⟨rfl, hb10⟩
      have HM10 := Lib.hid (HX9.out.1.below hb10)
      have hw10 := Below.step (hw9.alloc hw9.size _) hb10 (Nat.le_refl _)
      clear r0 r1 r2 r3 r4 r5 rp rq ra rb rl hb10
      obtain ⟨r0, r1, r2, r3, r4, r5, rp, rq, ra, rb, rl⟩ := HM10.out
      have HX10 := Lib.hid (MdAt.ba HM10.out)
      go_wp2_with fail
      refine (Eval_is [p0, p1, p2] [q0, q1] 3 0 s (.cons kb nb Fb (.cons ka na Fa .nil)) (some ⟨w10.heap.size, 0, none⟩) _ _ 2 3 2 (w10.alloc (.cells #[.int .i64 kb, .int .i64 nb, .slice xb Fb.len cb, .int .i64 ka, .int .i64 na, .slice xa Fa.len ca] 24)).heap.size _ HX10.out.2 (Vs3.ints HX10.out.1.vp) (Vs2.ints HX10.out.1.vq) (Nat.le_refl _) HV4.out).mono ?_
      rintro e w11 ⟨rfl, hb11⟩
      have HM11 := Lib.hid (HX10.out.1.below hb11)
      have hw11 := Below.step (hw10.alloc hw10.size _) hb11 (Nat.le_refl _)
      clear r0 r1 r2 r3 r4 r5 rp rq ra rb rl hb11
      obtain ⟨r0, r1, r2, r3, r4, r5, rp, rq, ra, rb, rl⟩ := HM11.out
      have HX11 := Lib.hid (MdAt.one HM11.out)
      go_wp2_with fail
      refine (Eval_is [p0, p1, p2] [q0, q1] 2 0 (x + 1) (.cons ka na Fa .nil) (some ⟨w11.heap.size, 0, none⟩) _ _ 1 3 2 (w11.alloc (.cells #[.int .i64 ka, .int .i64 na, .slice xa Fa.len ca] 24)).heap.size _ HX11.out.2 (Vs3.ints HX11.out.1.vp) (Vs2.ints HX11.out.1.vq) (Nat.le_refl _) HV5.out).mono ?_
      rintro e w12 ⟨rfl, hb12⟩
      have hw12 := Below.step (hw11.alloc hw11.size _) hb12 (Nat.le_refl _)
      clear r0 r1 r2 r3 r4 r5 rp rq ra rb rl hb12
      go_wp2_with fail
      go_ret
      exact ⟨rfl, hw12⟩
end Go.Proofs.Ytlbflfijihbmdaa.levelMore
