/- Of any arena, level and place in memory, told returns true: the program and the document's own answer tell the same. No condition but that they lie in memory, and there are no more than 90000 nodes. -/
import Derived.Test.YtmbopdlmkbbbiaaArPut
import Derived.Test.YtmbopdlmkbbbiaaArGet
import Derived.Test.YtmbopdlmkbbbiaaRSame
import Derived.Deep.RegionHeld3
namespace Go.Proofs.Ytmbopdlmkbbbiaa
open Go.RowKit

theorem rSame_true (F : Fo) (k n : Int) (a a' : Option Addr) (cap cap' B : Nat) (w : World) (h1 : SlIn w (· < B) F a cap) (h2 : SlIn w (· < B) F a' cap') (hB : B ≤ w.heap.size) :
    Calls Try.prog 15 #[.agg #[.int .i64 k, .int .i64 n, .slice a F.len cap], .agg #[.int .i64 k, .int .i64 n, .slice a' F.len cap']] w fun e w' => e = .returned (.bool true) ∧ Below w.heap.size w w' := by
  have := rSame_any (F.size + 1) F F (Nat.lt_succ_self _) k n k n a a' cap cap' B w h1 h2 hB
  rwa [show decide (k = k ∧ n = n ∧ F = F) = true by simp] at this
theorem gt_same {T : Fo} {er : Int} {k n k' n' : Int} {F F' : Fo} (h : if er = 0 then T = .cons k n F .nil else k = 0 ∧ n = 0 ∧ F = .nil) (h' : if er = 0 then T = .cons k' n' F' .nil else k' = 0 ∧ n' = 0 ∧ F' = .nil) : k' = k ∧ n' = n ∧ F' = F := by
  split at h
  · rename_i he
    rw [if_pos he, h] at h'
    injection h' with h1 h2 h3 _
    exact ⟨h1.symm, h2.symm, h3.symm⟩
  · rename_i he
    rw [if_neg he] at h'
    exact ⟨h'.1.trans h.1.symm, h'.2.1.trans h.2.1.symm, h'.2.2.trans h.2.2.symm⟩
theorem NOwn.later {w : World} {base c : Nat} {x : Option Addr} {ns : List Nd} (h : NOwn w base (.slice x ns.length c) ns) (W : World) (hb : Below w.heap.size w W) : NsIn W (· < w.heap.size) ns x c := by
  obtain ⟨a, cap, hv, hin⟩ := h.cases
  injection hv with h1 _ h2
  subst h1 h2
  exact (hin.weak (fun b hb => hb.2)).below hb
theorem SlIn.later {w : World} {lo c : Nat} {x : Option Addr} {F : Fo} (h : SlIn w (fun b => lo ≤ b ∧ b < w.heap.size) F x c) (W : World) (hb : Below w.heap.size w W) : SlIn W (· < w.heap.size) F x c := (h.weak (fun _ hb => hb.2)).below hb
/-- What the last line reads: the arena, two arenas that hold the same nodes, two copies of one level. -/
def TdAt (N nb nc nx ny : Nat) (len : Nat) (a : Option Addr) (cap m : Nat) (xb : Option Addr) (cb : Nat) (xc : Option Addr) (cc : Nat) (k n : Int) (l : Nat) (x1 : Option Addr) (d1 : Nat) (x2 : Option Addr) (d2 : Nat) (W0 W : World) : Prop :=
  Hid (Below W0.heap.size W0 W) ∧ W.cell? ⟨N, 0, none⟩ = some (.slice a len cap) ∧ W.cell? ⟨nb, 0, none⟩ = some (.slice xb m cb) ∧ W.cell? ⟨nc, 0, none⟩ = some (.slice xc m cc) ∧
  W.cell? ⟨nx, 0, none⟩ = some (.int .i64 k) ∧ W.cell? ⟨nx, 1, none⟩ = some (.int .i64 n) ∧ W.cell? ⟨nx, 2, none⟩ = some (.slice x1 l d1) ∧
  W.cell? ⟨ny, 0, none⟩ = some (.int .i64 k) ∧ W.cell? ⟨ny, 1, none⟩ = some (.int .i64 n) ∧ W.cell? ⟨ny, 2, none⟩ = some (.slice x2 l d2)
theorem TdAt.below {N nb nc nx ny : Nat} {len : Nat} {a : Option Addr} {cap m : Nat} {xb : Option Addr} {cb : Nat} {xc : Option Addr} {cc : Nat} {k n : Int} {l : Nat} {x1 : Option Addr} {d1 : Nat} {x2 : Option Addr} {d2 : Nat} {W0 W : World} (h : TdAt N nb nc nx ny len a cap m xb cb xc cc k n l x1 d1 x2 d2 W0 W0) (hb : Below W0.heap.size W0 W) (h1 : N < W0.heap.size) (h2 : nb < W0.heap.size) (h3 : nc < W0.heap.size) (h4 : nx < W0.heap.size) (h5 : ny < W0.heap.size) :
    TdAt N nb nc nx ny len a cap m xb cb xc cc k n l x1 d1 x2 d2 W0 W := by
  obtain ⟨_, q1, q2, q3, q4, q5, q6, q7, q8, q9⟩ := h
  exact ⟨Lib.hid hb, (bcell hb _ _ h1).trans q1, (bcell hb _ _ h2).trans q2, (bcell hb _ _ h3).trans q3, (bcell hb _ _ h4).trans q4, (bcell hb _ _ h4).trans q5, (bcell hb _ _ h4).trans q6, (bcell hb _ _ h5).trans q7, (bcell hb _ _ h5).trans q8, (bcell hb _ _ h5).trans q9⟩

set_option maxRecDepth 100000 in
set_option maxHeartbeats 8000000 in
theorem told4_any (ns : List Nd) (a : Option Addr) (cap : Nat) (k n : Int) (F : Fo) (xa : Option Addr) (ca : Nat) (i : Int) (B : Nat) (w : World) (hin : NsIn w (· < B) ns a cap) (hsl : SlIn w (· < B) F xa ca) (hB : B ≤ w.heap.size) (hn : ns.length ≤ 90000) :
    Calls Try.prog 10 #[.agg #[.slice a ns.length cap], .agg #[.int .i64 k, .int .i64 n, .slice xa F.len ca], .int .i64 i] w fun e w' => e = .returned (.bool true) ∧ Below w.heap.size w w' := by
  have hbx : Below w.heap.size w ((w.alloc (.cells #[.slice a ns.length cap] 26)).alloc (.cells #[.int .i64 k, .int .i64 n, .slice xa F.len ca] 30)) := ((Below.refl _ _).alloc (Nat.le_refl _) _).alloc (by simp) _
  have u0 : ((w.alloc (.cells #[.slice a ns.length cap] 26)).alloc (.cells #[.int .i64 k, .int .i64 n, .slice xa F.len ca] 30)).heap[w.heap.size]? = some (.cells #[.slice a ns.length cap] 26 (0, 0)) := (heap_old _ _ (by simp)).trans (heap_new _ _)
  have u1 : ((w.alloc (.cells #[.slice a ns.length cap] 26)).alloc (.cells #[.int .i64 k, .int .i64 n, .slice xa F.len ca] 30)).heap[w.heap.size + 1]? = some (.cells #[.int .i64 k, .int .i64 n, .slice xa F.len ca] 30 (0, 0)) := heap_second _ _ _
  have HU0 := Lib.hid u0
  have HU1 := Lib.hid u1
  have HBX := Lib.hid hbx
  have HIN := Lib.hid hin
  have HSL := Lib.hid hsl
  have CP := Lib.hid (fun W (h : Below w.heap.size w W) => aPut_any ns a cap k n F xa ca B W (HIN.out.below (h.mono hB)) (HSL.out.below (h.mono hB)) (Nat.le_trans hB h.size) hn)
  have CQ := Lib.hid (fun W (h : Below w.heap.size w W) => r4Put_any ns a cap k n F xa ca B W (HIN.out.below (h.mono hB)) (HSL.out.below (h.mono hB)) (Nat.le_trans hB h.size) hn)
  have CG := Lib.hid (fun W (h : Below w.heap.size w W) => aGet_any ns a cap i B W (HIN.out.below (h.mono hB)) (Nat.le_trans hB h.size))
  have CH := Lib.hid (fun W (h : Below w.heap.size w W) => r4Get_any ns a cap i B W (HIN.out.below (h.mono hB)) (Nat.le_trans hB h.size))
  have C1 := Lib.hid (fun W (h : Below w.heap.size w W) => aRight_any ns a cap B W (HIN.out.below (h.mono hB)) (Nat.le_trans hB h.size))
  have C2 := Lib.hid (fun W (h : Below w.heap.size w W) => r4Right_any ns a cap B W (HIN.out.below (h.mono hB)) (Nat.le_trans hB h.size))
  generalize putV ns k n F = P at CP CQ
  obtain ⟨pn, pi, pe⟩ := P
  generalize tr ns i.toNat = T at CG CH
  generalize getE ns i = ge at CG CH
  generalize rightN ns = v at C1 C2
  have dv : (v == v) = true := by simp
  have di : (((pi : Nat) : Int) == ((pi : Nat) : Int)) = true := by simp
  have de : (pe == pe) = true := by simp
  have dg : (ge == ge) = true := by simp
  clear hin hsl u0 u1 hbx
  go_enter Try.func10, Try.ntmps10
  go_wp2_with fail
  refine (CP.out _ HBX.out).mono ?_
  rintro e w1 ⟨xb, cb, rfl, o1, b1⟩
  have HB1 := Lib.hid (Below.step HBX.out b1 (Nat.le_refl _))
  have v0 := (b1.block _ (lt_of_block HU0.out)).trans HU0.out
  have v1 := (b1.block _ (lt_of_block HU1.out)).trans HU1.out
  have HV0 := Lib.hid v0
  have HV1 := Lib.hid v1
  have c0 := cell_at v0 0
  have c1 := cell_at v1 0
  have c2 := cell_at v1 1
  have c3 := cell_at v1 2
  have hz1 : w.heap.size < w1.heap.size := lt_of_block v0
  have hz1' : w.heap.size + 1 < w1.heap.size := lt_of_block v1
  have O1 := Lib.hid o1
  clear b1 v0 v1 o1
  go_wp2_with fail
  refine (CQ.out _ (by exact HB1.out.alloc HB1.out.size _)).mono ?_
  rintro e w2 ⟨xc, cc, rfl, o2, b2⟩
  have B12 : Hid (Below w1.heap.size w1 w2) := Lib.hid (((Below.refl _ _).alloc (Nat.le_refl _) _).trans (b2.mono (by simp)))
  have HB2 := Lib.hid (Below.step HB1.out B12.out (Nat.le_refl _))
  have v0 := (B12.out.block _ (lt_of_block HV0.out)).trans HV0.out
  have vb := (b2.block w1.heap.size (by simp)).trans (heap_new w1 _)
  have HV02 := Lib.hid v0
  have HVb := Lib.hid vb
  have O2 := Lib.hid o2
  clear c0 c1 c2 c3 hz1 hz1' b2 o2
  have c0 := cell_at v0 0
  have hz2 : w.heap.size < w2.heap.size := lt_of_block v0
  clear v0 vb
  go_wp2_with fail
  refine (CG.out _ (by exact HB2.out.alloc HB2.out.size _)).mono ?_
  rintro e w3 ⟨k1, n1, F1, x1, d1, rfl, t1, s3, b3⟩
  have B23 : Hid (Below w2.heap.size w2 w3) := Lib.hid (((Below.refl _ _).alloc (Nat.le_refl _) _).trans (b3.mono (by simp)))
  have HB3 := Lib.hid (Below.step HB2.out B23.out (Nat.le_refl _))
  have v0 := (B23.out.block _ (lt_of_block HV02.out)).trans HV02.out
  have vc := (b3.block w2.heap.size (by simp)).trans (heap_new w2 _)
  have HV03 := Lib.hid v0
  have HVc := Lib.hid vc
  have S3 := Lib.hid s3
  have T1 := Lib.hid t1
  clear c0 hz2 b3 s3 t1
  have c0 := cell_at v0 0
  have hz3 : w.heap.size < w3.heap.size := lt_of_block v0
  clear v0 vc
  go_wp2_with fail
  refine (CH.out _ (by exact HB3.out.alloc HB3.out.size _)).mono ?_
  rintro e w4 ⟨k2, n2, F2, x2, d2, rfl, t2, s4, b4⟩
  obtain ⟨rfl, rfl, rfl⟩ := gt_same T1.out t2
  have B34 : Hid (Below w3.heap.size w3 w4) := Lib.hid (((Below.refl _ _).alloc (Nat.le_refl _) _).trans (b4.mono (by simp)))
  have HB4 := Lib.hid (Below.step HB3.out B34.out (Nat.le_refl _))
  have v0 := (B34.out.block _ (lt_of_block HV03.out)).trans HV03.out
  have vx := (b4.block w3.heap.size (by simp)).trans (heap_new w3 _)
  have vb4 := ((Below.step B23.out B34.out (Nat.le_refl _)).block _ (lt_of_block HVb.out)).trans HVb.out
  have vc4 := (B34.out.block _ (lt_of_block HVc.out)).trans HVc.out
  have hold : ∀ o, Below w4.heap.size w4 (w4.alloc o) := fun o => (Below.refl _ _).alloc (Nat.le_refl _) o
  have l0 := lt_of_block v0
  have lb := lt_of_block vb4
  have lc := lt_of_block vc4
  have lx := lt_of_block vx
  have HT0 : Hid (TdAt w.heap.size w1.heap.size w2.heap.size w3.heap.size w4.heap.size ns.length a cap pn.length xb cb xc cc k2 n2 F2.len x1 d1 x2 d2 (w4.alloc (.cells #[.int .i64 k2, .int .i64 n2, .slice x2 F2.len d2] 30)) (w4.alloc (.cells #[.int .i64 k2, .int .i64 n2, .slice x2 F2.len d2] 30))) := Lib.hid
    ⟨Lib.hid (Below.refl _ _), (bcell (hold _) _ _ l0).trans (cell_at v0 0), (bcell (hold _) _ _ lb).trans (cell_at vb4 0), (bcell (hold _) _ _ lc).trans (cell_at vc4 0), (bcell (hold _) _ _ lx).trans (cell_at vx 0), (bcell (hold _) _ _ lx).trans (cell_at vx 1), (bcell (hold _) _ _ lx).trans (cell_at vx 2), cell_at (heap_new _ _) 0, cell_at (heap_new _ _) 1, cell_at (heap_new _ _) 2⟩
  have HC3 : Hid (∀ W, Below (w4.alloc (.cells #[.int .i64 k2, .int .i64 n2, .slice x2 F2.len d2] 30)).heap.size (w4.alloc (.cells #[.int .i64 k2, .int .i64 n2, .slice x2 F2.len d2] 30)) W → Calls Try.prog 29 #[.agg #[.slice xb pn.length cb], .agg #[.slice xc pn.length cc]] W fun e w' => e = .returned (.bool true) ∧ Below W.heap.size W w') := Lib.hid (fun W h => by
    have h4 : Below w4.heap.size w4 W := (hold _).trans (h.mono (by simp))
    have h2 : Below w2.heap.size w2 W := Below.step (Below.step B23.out B34.out (Nat.le_refl _)) h4 (Nat.le_refl _)
    have h1 : Below w1.heap.size w1 W := Below.step B12.out h2 (Nat.le_refl _)
    exact r4Same_yes pn xb cb xc cc w2.heap.size W ((O1.out.later W h1).mono B12.out.size) (O2.out.later W h2) h2.size)
  have HC4 : Hid (∀ W, Below (w4.alloc (.cells #[.int .i64 k2, .int .i64 n2, .slice x2 F2.len d2] 30)).heap.size (w4.alloc (.cells #[.int .i64 k2, .int .i64 n2, .slice x2 F2.len d2] 30)) W → Calls Try.prog 15 #[.agg #[.int .i64 k2, .int .i64 n2, .slice x1 F2.len d1], .agg #[.int .i64 k2, .int .i64 n2, .slice x2 F2.len d2]] W fun e w' => e = .returned (.bool true) ∧ Below W.heap.size W w') := Lib.hid (fun W h => by
    have h4 : Below w4.heap.size w4 W := (hold _).trans (h.mono (by simp))
    have h3 : Below w3.heap.size w3 W := Below.step B34.out h4 (Nat.le_refl _)
    exact rSame_true F2 k2 n2 x1 x2 d1 d2 w4.heap.size W ((S3.out.later W h3).mono B34.out.size) (s4.later W h4) h4.size)
  have HW4 : Hid (Below w.heap.size w (w4.alloc (.cells #[.int .i64 k2, .int .i64 n2, .slice x2 F2.len d2] 30))) := Lib.hid (HB4.out.alloc HB4.out.size _)
  have HLT : Hid (w.heap.size < (w4.alloc (.cells #[.int .i64 k2, .int .i64 n2, .slice x2 F2.len d2] 30)).heap.size ∧ w1.heap.size < (w4.alloc (.cells #[.int .i64 k2, .int .i64 n2, .slice x2 F2.len d2] 30)).heap.size ∧ w2.heap.size < (w4.alloc (.cells #[.int .i64 k2, .int .i64 n2, .slice x2 F2.len d2] 30)).heap.size ∧ w3.heap.size < (w4.alloc (.cells #[.int .i64 k2, .int .i64 n2, .slice x2 F2.len d2] 30)).heap.size ∧ w4.heap.size < (w4.alloc (.cells #[.int .i64 k2, .int .i64 n2, .slice x2 F2.len d2] 30)).heap.size) := Lib.hid (by simp; omega)
  clear c0 hz3 b4 s4 t2 v0 vx vb4 vc4 hold l0 lb lc lx
  go_wp2_with fail
  generalize w4.alloc (.cells #[.int .i64 k2, .int .i64 n2, .slice x2 F2.len d2] 30) = W0 at HT0 HC3 HC4 HW4 HLT ⊢
  obtain ⟨_, q1, q2, q3, q4, q5, q6, q7, q8, q9⟩ := HT0.out
  obtain ⟨m1, m2, m3, m4, m5⟩ := HLT.out
  go_region_held3 (fun w' => Hid (Below W0.heap.size W0 w') ∧ w'.cell? ⟨w.heap.size, 0, none⟩ = some (.slice a ns.length cap) ∧ w'.cell? ⟨w1.heap.size, 0, none⟩ = some (.slice xb pn.length cb) ∧ w'.cell? ⟨w2.heap.size, 0, none⟩ = some (.slice xc pn.length cc) ∧
      w'.cell? ⟨w3.heap.size, 0, none⟩ = some (.int .i64 k2) ∧ w'.cell? ⟨w3.heap.size, 1, none⟩ = some (.int .i64 n2) ∧ w'.cell? ⟨w3.heap.size, 2, none⟩ = some (.slice x1 F2.len d1) ∧
      w'.cell? ⟨w4.heap.size, 0, none⟩ = some (.int .i64 k2) ∧ w'.cell? ⟨w4.heap.size, 1, none⟩ = some (.int .i64 n2) ∧ w'.cell? ⟨w4.heap.size, 2, none⟩ = some (.slice x2 F2.len d2))
    (first | exact ⟨Lib.hid (Below.refl _ _).drew, q1, q2, q3, q4, q5, q6, q7, q8, q9⟩ | (go_split_ands; exact HT0.out.below (Below.step (Hid.out (by assumption)) hbN (Nat.le_refl _)) m1 m2 m3 m4 m5))
    (first | (go_at_call 13; go_split_ands; refine (C1.out _ (by exact HW4.out.trans (Below.mono (Hid.out (by assumption)) HW4.out.size))).mono ?_; rintro e wN ⟨rfl, hbN⟩) | (go_at_call 28; go_split_ands; refine (C2.out _ (by exact HW4.out.trans (Below.mono (Hid.out (by assumption)) HW4.out.size))).mono ?_; rintro e wN ⟨rfl, hbN⟩) | (go_at_call 29; go_split_ands; refine (HC3.out _ (Hid.out (by assumption))).mono ?_; rintro e wN ⟨rfl, hbN⟩) | (go_at_call 15; go_split_ands; refine (HC4.out _ (Hid.out (by assumption))).mono ?_; rintro e wN ⟨rfl, hbN⟩))
  all_goals go_split_ands
  all_goals have hEE := Lib.hid (Below.step HW4.out (Hid.out (by assumption : Hid (Below W0.heap.size W0 wN))) (Nat.le_refl _))
  all_goals go_wp2_with fail
  all_goals go_ret
  all_goals exact ⟨rfl, hEE.out⟩
end Go.Proofs.Ytmbopdlmkbbbiaa
