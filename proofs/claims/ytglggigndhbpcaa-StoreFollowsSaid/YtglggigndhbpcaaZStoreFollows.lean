/- For all numbers the law StoreFollows returns true: what follows from a store holds of each model, makes no difference if it is added, follows still behind more; what does not follow can be added turned round. No condition. -/
import Derived.Test.YtglggigndhbpcaaZFomem
import Derived.Test.YtglggigndhbpcaaZHopen
import Derived.Carry
namespace Go.Proofs.Ytglggigndhbpcaa.storeFollows
open Go.ChangeShapes Go.WideShapes Go.ChangeAt Go.RowKit

set_option maxRecDepth 100000 in
set_option maxHeartbeats 32000000 in
theorem walk (n : Int) (h0 : 0 ≤ n) (h1 : n < 256) (ll cl lb cb lv cv lk ck B : Nat) (al ab avv ak : Option Addr) (w : World) (hl : ByIn w (· < B) ll al cl) (hbb : ByIn w (· < B) lb ab cb) (hv : ByIn w (· < B) lv avv cv) (hk : ByIn w (· < B) lk ak ck) (hB : B ≤ w.heap.size) :
    Calls Try.prog 7 #[.int .u8 n, .slice al ll cl, .slice ab lb cb, .slice avv lv cv, .slice ak lk ck] w fun e w' => e = .returned (.bool true) ∧ Below w.heap.size w w' := by
  have CS := Lib.hid (fun W (h : Below w.heap.size w W) => made11_any n h0 h1 ll cl B al W (hl.below (h.mono hB)) (Nat.le_trans hB h.size))
  have CA := Lib.hid (fun W (h : Below w.heap.size w W) => atoms11_any n h0 h1 lb cb B ab W (hbb.below (h.mono hB)) (Nat.le_trans hB h.size))
  have CV := Lib.hid (fun W (h : Below w.heap.size w W) => model8_any n h0 h1 lv cv B avv W (hv.below (h.mono hB)) (Nat.le_trans hB h.size))
  have CM := Lib.hid (fun W (h : Below w.heap.size w W) => made8_any n h0 h1 lk ck B ak W (hk.below (h.mono hB)) (Nat.le_trans hB h.size))
  have CW := Lib.hid (awake11_any w)
  generalize varsN n = V at CS CA CV CM
  clear hl hbb hv hk
  go_enter Try.func7, Try.ntmps7
  go_wp2_with fail
  refine CW.out.mono ?_
  rintro e w1 ⟨rfl, b1⟩
  have CS1 := Lib.hid (CS.out w1 b1)
  have B1 := Lib.hid b1
  clear b1 CW CS
  go_wp2_with fail
  refine CS1.out.mono ?_
  rintro e w2 ⟨l, m, x, c, xm, cm, rfl, hs, hr, hl15, b2⟩
  have hbx := heap_new w2 (.cells #[.int .i64 V, .slice x l.length c, .slice xm m.length cm] 25)
  have b2' := b2.alloc b2.size (.cells #[.int .i64 V, .slice x l.length c, .slice xm m.length cm] 25)
  have B2 := Lib.hid (Below.step B1.out b2' (Nat.le_refl _))
  have HL := Lib.hid ((hs.cls.keep (w' := w2.alloc (.cells #[.int .i64 V, .slice x l.length c, .slice xm m.length cm] 25)) (fun b hb => heap_old _ _ hb)).mono (B' := (w2.alloc (.cells #[.int .i64 V, .slice x l.length c, .slice xm m.length cm] 25)).heap.size) (by simp))
  have HM := Lib.hid ((hs.ints.keep (w' := w2.alloc (.cells #[.int .i64 V, .slice x l.length c, .slice xm m.length cm] 25)) (fun b hb => heap_old _ _ hb)).mono (B' := (w2.alloc (.cells #[.int .i64 V, .slice x l.length c, .slice xm m.length cm] 25)).heap.size) (by simp))
  have HX := Lib.hid hbx
  have HR := Lib.hid hr
  have HL15 := Lib.hid hl15
  clear hs hr hbx b2 b2' CS1 hl15 B1
  go_wp2_with fail
  generalize w2.alloc (.cells #[.int .i64 V, .slice x l.length c, .slice xm m.length cm] 25) = W2 at *
  generalize w2.heap.size = X at *
  have CA2 := Lib.hid (CA.out W2 B2.out)
  refine CA2.out.mono ?_
  rintro e w3 ⟨b, z, e9, rfl, hbo, hball, hb4, b3⟩
  have HBI := Lib.hid (hbo.ats.weak (Q := (· < w3.heap.size)) (fun q hq => hq.2))
  have B3 := Lib.hid (Below.step B2.out b3 (Nat.le_refl _))
  have A3 := Lib.hid b3
  have HBA := Lib.hid hball
  clear hbo hball b3 CA CA2
  match b, hb4 with
  | [], _ =>
    go_wp2_with fail
    go_ret
    exact ⟨rfl, B3.out⟩
  | [a0], _ =>
    go_wp2_with fail
    go_ret
    exact ⟨rfl, B3.out⟩
  | (av, aw) :: r0 :: rs, hb4 =>
    obtain ⟨g, o, rfl, hg, _⟩ := HBI.out.some (by simp)
    have F3 : Hid (FoSt w X V l m x c xm cm g o e9 (av, aw) (r0 :: rs) w3) := Lib.hid ⟨(A3.out.block _ (lt_of_block HX.out)).trans HX.out, (HL.out.below A3.out).mono A3.out.size, (HM.out.below A3.out).mono A3.out.size, HBI.out, hg, B3.out⟩
    have HRA : Hid ((r0 :: rs).all (atS V) = true ∧ atS V (av, aw) = true) := Lib.hid (by have := HBA.out; simp only [List.all_cons, Bool.and_eq_true] at this ⊢; exact ⟨this.2, this.1⟩)
    obtain ⟨rl, hrl⟩ : ∃ k, k = (r0 :: rs).length := ⟨_, rfl⟩
    have hrl1 : 1 ≤ rl := by rw [hrl]; simp
    have hrl3 : rl ≤ 3 := by rw [hrl]; simp at hb4 ⊢; omega
    have hlen : ((av, aw) :: r0 :: rs).length = rl + 1 := by rw [hrl]; rfl
    rw [hlen]
    generalize r0 :: rs = r at F3 HRA hrl
    clear HBI HBA HX HL HM A3 B2 hlen hb4 hg
    have HRL := Lib.hid hrl.symm
    have hbd := rgS_bd HR.out
    obtain ⟨fo1, fo2⟩ := fo_right hbd.2.2.2.2.1 hbd.2.2.2.2.2.1 HRA.out.2 HRA.out.1 (by omega) (by omega)
    obtain ⟨fe, fb⟩ := fo_ask HR.out (by have := HL15.out; omega) fo1 fo2 (by omega)
    have p0 := F3.out.cells.1
    have p1 := F3.out.cells.2.1
    have p2 := F3.out.cells.2.2
    have q0 := F3.out.atom.1
    have q1 := F3.out.atom.2
    simp only at q0 q1
    have hTL := F3.out.tail (by omega)
    have hle : rl + 1 ≤ e9 := by rw [hrl]; exact hTL.2.1
    have hlm := hTL.2.2
    unfold maxLen at hlm
    have s0 : (0 : Int) ≤ (rl : Int) := by omega
    have s1 : (0 : Int) < (rl : Int) + 1 := by omega
    have s2 : (1 : Int) ≤ (rl : Int) + 1 := by omega
    have s3 : 1 ≤ e9 := by omega
    have s4 : (1 : Int) ≤ (e9 : Int) := by omega
    have s5 : (rl : Int) + 1 ≤ (e9 : Int) := by omega
    have s6 : ¬ e9 = 1 := by omega
    have s7 : ¬ (rl : Int) + 1 < 2 := by omega
    have HF := Lib.hid (fun (W : World) (R : Bool) (hb : Below w3.heap.size w3 W) (hR : folB V l m (av, aw) r = R) => fo_fol (rl := rl) (F3.out.next hb) (F3.out.next hb).2.1 (F3.out.next hb).2.2.1 (by omega) HRL.out (by omega) (by have := HL15.out; omega) fe hR)
    simp only at HF
    obtain ⟨P, hP⟩ : ∃ P, P = posB V (l ++ notK (av, aw) r) := ⟨_, rfl⟩
    rw [← hP] at fb
    have HPP := Lib.hid hP.symm
    have HO1 := Lib.hid fo1
    have HO2 := Lib.hid fo2
    have HF3 := Lib.hid (HF.out w3.drew (!P) ((Below.refl _ _).drew) fb)
    clear hTL hrl hP fb fe fo1 fo2 hbd HF
    go_upto_region 8 with fail
    go_cut [14, 15] from 51 to 60 (fun s14 s15 wx => s14 = .bool (!P) ∧ s15 = .int .i64 0 ∧ Hid (Below w3.heap.size w3 wx))
    case first =>
      go_region_law (go_simp; go_at_call 20; refine HF3.out.mono ?_; rintro e w4 ⟨rfl, b4⟩; have B4 : Hid (Below w3.heap.size w3 w4) := Lib.hid ((Below.refl _ _).drew.trans b4))
      all_goals go_wp2_with fail
      all_goals go_meet
      all_goals exact ⟨rfl, rfl, B4⟩
    case rest =>
      obtain ⟨rfl, rfl, hb4⟩ := hcut
      have F4 := Lib.hid (F3.out.next hb4.out)
      clear hb4 HF3 F3 p0 p1 p2 q0 q1 B3
      obtain ⟨w4, rfl⟩ : ∃ W, W = wc := ⟨_, rfl⟩
      have p0 := F4.out.cells.1
      have p1 := F4.out.cells.2.1
      have p2 := F4.out.cells.2.2
      have q0 := F4.out.atom.1
      have q1 := F4.out.atom.2
      have k0 := fun p => (F4.out.alloc p).atom.1
      have k1 := fun p => (F4.out.alloc p).atom.2
      simp only at q0 q1 k0 k1
      have HY : Hid (∀ Y, Y = w4.heap.size → FoC Y g o e9 (av, aw) r (w4.alloc (.cells #[.slice (some ⟨g, o + 2, none⟩) rl (e9 - 1), .int .i64 av, .int .i64 aw] 35))) := Lib.hid (fun Y hY => by
        subst hY
        have := heap_new w4 (.cells #[.slice (some ⟨g, o + 2, none⟩) rl (e9 - 1), .int .i64 av, .int .i64 aw] 35)
        unfold FoC
        rw [HRL.out]
        exact this)
      go_upto_region 9 with fail
      go_region
      have bb5 : Below w4.heap.size w4 (w4.alloc (.cells #[.slice (some ⟨g, o + 2, none⟩) rl (e9 - 1), .int .i64 av, .int .i64 aw] 35)).drew := ((Below.refl _ _).alloc (Nat.le_refl _) _).drew
      have F5 := Lib.hid (F4.out.next bb5)
      have C5 : Hid (FoC w4.heap.size g o e9 (av, aw) r (w4.alloc (.cells #[.slice (some ⟨g, o + 2, none⟩) rl (e9 - 1), .int .i64 av, .int .i64 aw] 35)).drew) := Lib.hid (HY.out _ rfl)
      generalize (w4.alloc (.cells #[.slice (some ⟨g, o + 2, none⟩) rl (e9 - 1), .int .i64 av, .int .i64 aw] 35)).drew = w5 at F5 C5 ⊢
      generalize w4.heap.size = Y at C5 ⊢
      clear bb5 HY F4 p0 p1 p2 q0 q1 k0 k1
      cases P with
      | true =>
        obtain ⟨n1, n2, n3⟩ := fo_not HR.out (by have := HL15.out; omega) HO1.out (by rw [HRL.out]; exact hrl3) HPP.out
        have HNL := notK_len (av, aw) r
        rw [HRL.out] at HNL
        have HAD := Lib.hid (fun (W : World) (y : Option Addr) (d : Nat) (hb : Below w5.heap.size w5 W) (hk : ClsIn W (· < W.heap.size) (notK (av, aw) r) y d) => fo_add (n := rl) (F5.out.next hb) HR.out hk HNL (by have := HL15.out; omega) (by omega) (fun c hc => by
          obtain ⟨q, _, rfl⟩ := List.mem_map.1 hc
          simp) rfl rfl n1)
        generalize addL V l m (notK (av, aw) r) = L' at HAD
        generalize addM V l m (notK (av, aw) r) = M' at HAD n2 n3
        have HN2 := Lib.hid n2
        have HN3 := Lib.hid n3
        clear n1 n2 n3 HPP HO1 HO2 CV CM
        go_wp2_with fail
        go_loopw [17, 18] (fun uv iv wr => ∃ (j : Nat) (y : Option Addr) (d : Nat), uv = .slice y j d ∧ iv = .int .i64 ((j : Int) + 1) ∧ j ≤ rl ∧ Hid (GRow wr (fun _ => True) w5.heap.size (.slice y j d) (notK (av, aw) (r.take j))) ∧ Hid (Below w5.heap.size w5 wr)) (fun _ iv _ => rl + 1 - (intOf iv).toNat)
        case atStart => exact ⟨0, none, 0, rfl, rfl, Nat.zero_le _, Lib.hid (GRow.nil _ _ _), Lib.hid (Below.refl _ _)⟩
        case round =>
          obtain ⟨j, y, d, rfl, rfl, hj, hG, hB5⟩ := hrel
          have hj0 : (0 : Int) ≤ (j : Int) := by omega
          have hj1 : (0 : Int) ≤ (j : Int) + 1 := by omega
          by_cases hlt : j < rl
          · have hlt' : (j : Int) + 1 < (rl : Int) + 1 := by omega
            have hjr : j < r.length := by rw [HRL.out]; exact hlt
            have FW := F5.out.next hB5.out
            obtain ⟨c0, c1⟩ := FW.each hjr
            have hgw := FW.2.2.2.2.1
            have HT := notK_take (av, aw) hjr
            have hS := atS_of (all_getD HRA.out.1 at0 hjr)
            have hS2 := atB_of hS.1
            have hown : ∀ b, OwnB (.slice y j d) b → w5.heap.size ≤ b := fun b hO => (hG.out.lt b hO).1
            have hat := ((F5.out.head.below hB5.out).keep (w' := wr.drew) (fun _ _ => rfl)).weak (Q := fun b => True ∧ b < wr.drew.heap.size ∧ ¬ OwnB (.slice y j d) b) (fun b hb => ⟨trivial, Nat.lt_of_lt_of_le hb hB5.out.size, fun hO => by have := hown b hO; omega⟩)
            generalize (r.getD j at0).1 = tv at c0 HT hS2
            generalize (r.getD j at0).2 = tw at c1 HT hS hS2
            have hGl : (notK (av, aw) (r.take j)).length = j := by rw [notK_len, List.length_take]; omega
            obtain ⟨g2, k2, w6, hrun, hG2, ht⟩ := (show GRow wr.drew (fun _ => True) w5.heap.size (.slice y j d) (notK (av, aw) (r.take j)) from hG.out.below ((Below.refl _ _).drew)).push 22 ([(av, aw)], (tv, tw + 1)) trivial hat (by rw [hGl]; omega) hB5.out.size
            rw [hGl] at hrun hG2 ht
            rw [← HT] at hG2
            have HRUN := Lib.hid hrun
            have HG2 := Lib.hid hG2
            have HB6 : Hid (Below w5.heap.size w5 w6) := Lib.hid (hB5.out.drew.trans (ht.low (B := w5.heap.size) hB5.out.size hown))
            have hw := IntWalk.i64_in (tw + 1) (by omega)
            have n0 := fun p => (bcell ((Below.refl wr.heap.size wr).alloc (Nat.le_refl _) p) g (o + (j + 1) * 2) hgw).trans c0
            have n1 := fun p => (bcell ((Below.refl wr.heap.size wr).alloc (Nat.le_refl _) p) g (o + (j + 1) * 2 + 1) hgw).trans c1
            clear FW HT hS hS2 hown hat hGl hrun hG2 ht hG hB5 hjr
            simp only [List.length_singleton] at HRUN
            go_upto_region 17 with fail
            go_region_law (refine step_append (by rfl) _ _ _ (by rfl) (by rfl) (by rfl) HRUN.out ?_)
            all_goals go_wp2_with fail
            all_goals go_roundw
            all_goals first
              | exact ⟨j + 1, _, _, rfl, by go_num, by omega, HG2, HB6⟩
              | (simp [intOf]; omega)
          · obtain rfl : j = rl := by omega
            have htk : r.take j = r := List.take_of_length_le (by rw [HRL.out]; exact Nat.le_refl _)
            rw [htk] at hG
            have FW := F5.out.next hB5.out
            have CW5 := C5.out.next hB5.out
            have HA := Lib.hid (HAD.out wr y d hB5.out (GRow.cls (by rw [HNL]; exact hG.out)))
            have p0 := FW.cells.1
            have p1 := FW.cells.2.1
            have p2 := FW.cells.2.2
            have HFW := Lib.hid FW
            have HCW := Lib.hid CW5
            clear htk hG FW CW5 HAD C5 F5 hB5 HNL
            go_wp2_with fail
            refine HA.out.mono ?_
            rintro e w7 ⟨y', d', ym', dm', xp, n', cp, rfl, kL, kM, b7⟩
            have b8 := b7.alloc b7.size (.cells #[.int .i64 V, .slice y' L'.length d', .slice ym' M'.length dm'] 25)
            have F8 := HFW.out.next b8
            have C8 := HCW.out.next b8
            have hbx := heap_new w7 (.cells #[.int .i64 V, .slice y' L'.length d', .slice ym' M'.length dm'] 25)
            have hbx2 := fun p => (heap_old (w7.alloc (.cells #[.int .i64 V, .slice y' L'.length d', .slice ym' M'.length dm'] 25)) p (lt_of_block hbx)).trans hbx
            have u2 := cell_at hbx 2
            have u3 := fun p => cell_at (hbx2 p) 2
            unfold FoC at C8
            rw [HRL.out] at C8
            have v0 := cell_at C8 0
            have v1 := cell_at C8 1
            have v2 := cell_at C8 2
            simp at u2 u3 v0 v1 v2
            have HB := Lib.hid (fo_brkc (s := w7.heap.size + 1) (rl := j) F8 (by rw [HRL.out]; exact hrl1) HRL.out (by simp) ((kM.keep (w' := w7.alloc (.cells #[.int .i64 V, .slice y' L'.length d', .slice ym' M'.length dm'] 25)) (fun b hb => heap_old _ _ hb)).mono (by simp)) rfl)
            rw [HN2.out, HN3.out] at HB
            have HE8 := Lib.hid F8.2.2.2.2.2
            clear kL kM b7 b8 F8 C8 hbx hbx2 HA HFW HCW p0 p1 p2
            go_wp2_with fail
            refine HB.out.mono ?_
            rintro e w9 ⟨z9, q9, rfl, b9⟩
            have HE9 := Lib.hid (Below.step HE8.out b9 (Nat.le_refl _))
            clear b9 HB HE8 u2 u3 v0 v1 v2
            go_wp2_with fail
            go_ret
            exact ⟨rfl, HE9.out⟩
      | false =>
        obtain ⟨n1, n2⟩ := fo_same HR.out (by have := HL15.out; omega) HO1.out HO2.out (by rw [HRL.out]; exact hrl3) HPP.out
        have HHO := Lib.hid (fun (M : List Int) (h1 : M.length = V) (h2 : natsB M = true) => fo_holds HR.out (by have := HL15.out; omega) HO1.out HO2.out (by rw [HRL.out]; exact hrl3) HPP.out h1 h2)
        have HMO := Lib.hid (fun (K : List Cl) (h1 : K.all (clB V) = true) (h2 : K.length ≤ 5) => fo_more HR.out (by have := HL15.out; omega) HO1.out HO2.out (by rw [HRL.out]; exact hrl3) HPP.out h1 h2)
        have HA := Lib.hid (fo_addc (s := w5.heap.size) (rl := rl) F5.out HR.out (by rw [HRL.out]; exact hrl1) (by rw [HRL.out]; omega) HRL.out rfl (by have := HL15.out; omega) rfl n2 n1)
        generalize addL V l m [(r, (av, aw))] = L' at HA
        have p0 := F5.out.cells.1
        have p1 := F5.out.cells.2.1
        have p2 := F5.out.cells.2.2
        have c5 := C5.out
        unfold FoC at c5
        rw [HRL.out] at c5
        have v0 := cell_at c5 0
        have v1 := cell_at c5 1
        have v2 := cell_at c5 2
        simp at v0 v1 v2
        clear c5 n1 n2 HPP HO1 HO2
        go_wp2_with fail
        refine HA.out.mono ?_
        rintro e w6 ⟨y', d', ym', dm', xp, n', cp, rfl, kM, b6⟩
        have b7 := b6.alloc b6.size (.cells #[.int .i64 V, .slice y' L'.length d', .slice ym' m.length dm'] 25)
        have F7 := Lib.hid (F5.out.next b7)
        have C7 := Lib.hid (C5.out.next b7)
        have hbx := heap_new w6 (.cells #[.int .i64 V, .slice y' L'.length d', .slice ym' m.length dm'] 25)
        have u2 := cell_at hbx 2
        simp at u2
        have HI := Lib.hid (fo_ints (n := m.length) (k := m.length) ((kM.keep (w' := w6.alloc (.cells #[.int .i64 V, .slice y' L'.length d', .slice ym' m.length dm'] 25)) (fun b hb => heap_old _ _ hb)).mono (by simp)) F7.out.2.2.1 rfl rfl)
        clear kM b6 b7 hbx HA F5 C5 p0 p1 p2 v0 v1 v2
        have p2 := F7.out.cells.2.2
        go_wp2_with fail
        refine HI.out.mono ?_
        rintro e w8 ⟨rfl, b8⟩
        have F8 := Lib.hid (F7.out.next b8)
        have C8 := Lib.hid (C7.out.next b8)
        clear b8 HI F7 C7 p2 u2
        have CV8 := Lib.hid (CV.out w8 F8.out.2.2.2.2.2)
        clear CV
        go_wp2_with fail
        refine CV8.out.mono ?_
        rintro e w9 ⟨M2, hml, hlow, rfl, hnb, b9⟩
        have F9 := Lib.hid (F8.out.next b9)
        have C9 := Lib.hid (C8.out.next b9)
        have HM2 := Lib.hid (hnb.ints (cap := V) (by omega) (by have := rgS_bd HR.out; omega))
        obtain ⟨ho1, ho2⟩ := HHO.out M2 hml hlow.nats
        have HB := Lib.hid (fo_brk (n := l.length) (k := V) F9.out.2.1 HM2.out rfl hml)
        rw [ho1] at HB
        have HHL := Lib.hid ho2
        have HML := Lib.hid hml
        clear b9 hnb hlow hml ho1 ho2 HHO CV8 F8 C8
        have p1 := F9.out.cells.2.1
        go_wp2_with fail
        refine HB.out.mono ?_
        rintro e w10 ⟨zb, qb, rfl, b10⟩
        have F10 := Lib.hid (F9.out.next b10)
        have C10 := Lib.hid (C9.out.next b10)
        have HB2 := Lib.hid (fo_brkc (s := w10.heap.size) (rl := rl) F10.out (by rw [HRL.out]; exact hrl1) HRL.out rfl ((HM2.out.below b10).mono b10.size) HML.out)
        have c10 := C10.out
        unfold FoC at c10
        rw [HRL.out] at c10
        have v0 := cell_at c10 0
        have v1 := cell_at c10 1
        have v2 := cell_at c10 2
        simp at v0 v1 v2
        clear b10 c10 HB F9 C9 p1 C10
        go_wp2_with fail
        refine HB2.out.mono ?_
        rintro e w11 ⟨zc, qc, rfl, b11⟩
        have F11 := Lib.hid (F10.out.next b11)
        clear b11 HB2 F10 v0 v1 v2 HM2 HML
        have CM11 := Lib.hid (CM.out w11 F11.out.2.2.2.2.2)
        clear CM
        have hAB : (bkR M2 l).length = 0 → (bkR M2 [(r, av, aw)]).length = 0 := fun h => by
          have := HHL.out (List.eq_nil_of_length_eq_zero h)
          rw [this]; rfl
        generalize (bkR M2 l).length = A1 at hAB ⊢
        generalize (bkR M2 [(r, av, aw)]).length = A2 at hAB ⊢
        generalize bkE M2 [(r, av, aw)] = A3
        clear HHL
        have hcase : (A1 = 0 ∧ A2 = 0) ∨ ¬ A1 = 0 := by
          by_cases h : A1 = 0
          · exact .inl ⟨h, hAB h⟩
          · exact .inr h
        clear hAB
        rcases hcase with ⟨rfl, rfl⟩ | hA1
        all_goals
          go_wp2_with fail
          refine CM11.out.mono ?_
          rintro e w12 ⟨K, y, d, rfl, hK, hKall, hK30, b12⟩
          have F12 := Lib.hid (F11.out.next b12)
          have HC := Lib.hid (hK.cls.weak (Q := (· < w12.heap.size)) (fun b hb => hb.2))
          have hdm := hK.cls.2.1
          unfold maxLen at hdm
          obtain ⟨K', N, hNK, hcls, hall, hN5, hmin, hNd⟩ : ∃ (K' : List Cl) (N : Nat), K'.length = N ∧ ClsIn w12 (· < w12.heap.size) K' y d ∧ K'.all (clB V) = true ∧ N ≤ 5 ∧ min (K.length : Int) 5 = (N : Int) ∧ N ≤ d := by
            have hd := HC.out.1
            by_cases h5 : 5 < K.length
            · exact ⟨K.take 5, 5, by rw [List.length_take]; omega, cls_take HC.out (by omega), all_take hKall 5, by omega, by omega, by omega⟩
            · exact ⟨K, K.length, rfl, HC.out, hKall, by omega, by omega, hd⟩
          have HMK := HMO.out K' hall (by omega)
          have HA1 := Lib.hid (fo_A1 F12.out HR.out hcls hNK (by have := HL15.out; omega) (by omega) (cl_thousand hall) rfl rfl rfl)
          have HA2 := Lib.hid (fo_A2 F12.out HR.out hcls hNK (by have := HL15.out; omega) (by omega) (cl_thousand hall) rfl rfl rfl)
          generalize addL V l m K' = L2 at HMK HA1 HA2
          generalize addM V l m K' = N2 at HMK HA1 HA2
          generalize addE V l m K' = E2 at HMK HA1 HA2
          have HMKH := Lib.hid HMK
          have p0 := F12.out.cells.1
          have p1 := F12.out.cells.2.1
          have p2 := F12.out.cells.2.2
          have t0 := fun p => (F12.out.alloc p).cells.1
          have t1 := fun p => (F12.out.alloc p).cells.2.1
          have t2 := fun p => (F12.out.alloc p).cells.2.2
          have z0 : (0 : Int) ≤ (N : Int) := by omega
          have z1 : (N : Int) ≤ (d : Int) := by omega
          clear hK hKall hK30 b12 hcls hall hNK HMK HC CM11 F11 HMO hNd
          generalize K.length = KL at hmin ⊢
          go_upto_region 30 with fail
          go_cut [33, 34, 35] from 170 to 180 (fun s33 s34 s35 wx => ∃ Z x' c' xm' cm' xp n' cp, s33 = .pointer (some ⟨Z, 0, none⟩) ∧ s34 = .slice xp n' cp ∧ s35 = .int .i64 E2 ∧ Hid (FoMid w12 Z V L2 N2 x' c' xm' cm' wx))
          case first =>
            go_region_law (first
              | (go_simp; go_at_call 19; (with_reducible refine HA1.out.mono ?_); rintro e wC ⟨x', c', xm', cm', xp, n', cp, rfl, HMID⟩)
              | (go_simp; go_at_call 19; (with_reducible refine HA2.out.mono ?_); rintro e wC ⟨x', c', xm', cm', xp, n', cp, rfl, HBZ, HMID⟩; obtain ⟨m0, m1, m2, m3⟩ := HBZ.out.facts))
            all_goals go_wp2_with fail
            all_goals go_meet
            all_goals exact ⟨_, x', c', xm', cm', xp, n', cp, rfl, rfl, rfl, HMID⟩
          case rest =>
            obtain ⟨Z, x', c', xm', cm', xp', n', cp', rfl, rfl, rfl, hMID⟩ := hcut
            clear p0 p1 p2 t0 t1 t2 HA1 HA2 hmin z0 z1
            obtain ⟨w13, rfl⟩ : ∃ W, W = wc := ⟨_, rfl⟩
            have F13 := Lib.hid (F12.out.next hMID.out.2.2.2)
            rcases HMKH.out with rfl | ⟨rfl, hLl, hLf, hM16, hfe, hfb⟩
            · clear HMKH hMID F12
              go_wp2_with fail
              go_ret
              exact ⟨rfl, F13.out.2.2.2.2.2⟩
            · have hMC := hMID.out.2.1
              have hMI := hMID.out.2.2.1
              have u0 := cell_at hMID.out.1 0
              have u1 := cell_at hMID.out.1 1
              have u2 := cell_at hMID.out.1 2
              simp at u0 u1 u2
              have q0 := F13.out.atom.1
              have q1 := F13.out.atom.2
              simp only at q0 q1
              have HFL := Lib.hid (fo_fol (W := w13.drew) (rl := rl) (F13.out.next ((Below.refl _ _).drew)) (hMC.keep (fun _ _ => rfl)) (hMI.keep (fun _ _ => rfl)) (by rw [HRL.out]; exact hrl1) HRL.out (by omega) (by have := HL15.out; omega) hfe hfb)
              simp only at HFL
              clear HMKH hMID F12 hMC hMI hLl hLf hM16 hfe hfb
              go_upto_region 33 with fail
              go_cut [36, 37] from 188 to 197 (fun s36 s37 wx => s36 = .bool true ∧ s37 = .int .i64 0 ∧ Hid (Below w13.heap.size w13 wx))
              case first =>
                go_region_law (go_simp; go_at_call 20; refine HFL.out.mono ?_; rintro e w4 ⟨rfl, b4⟩; have B4 : Hid (Below w13.heap.size w13 w4) := Lib.hid ((Below.refl _ _).drew.trans b4))
                all_goals go_wp2_with fail
                all_goals go_meet
                all_goals exact ⟨rfl, rfl, B4⟩
              case rest =>
                obtain ⟨rfl, rfl, hb4⟩ := hcut
                clear u0 u1 u2 q0 q1 HFL
                go_wp2_with fail
                go_ret
                exact ⟨rfl, Below.step F13.out.2.2.2.2.2 hb4.out (Nat.le_refl _)⟩

theorem own : ownKnob Try.prog.godebug = none := by kernel_rfl

set_option maxRecDepth 100000 in
theorem lifted (os : Os) (started : os.Started) (H : Type) (enc : TypeId × Value → H) :
    ReturnsInHanded {} Try.checked os 7 .any (Rows.storeFollowsSpec.pre6 enc Try.prog Try.f7 Rows.storeFollowsRow.domain false) (Rows.storeFollowsSpec.post enc Try.prog Try.f7 false true false false) := by
  refine returnsInHanded_of_change (C := Try.checked) own started (by kernel_rfl) Try.func7
    (ChangeSpec.witness6 (enc := enc) (C := Try.checked) false ⟨#[], #[.int .u8 0, .slice none 0 0, .slice none 0 0, .slice none 0 0, .slice none 0 0], []⟩ 8 (by kernel_rfl) (by kernel_rfl) (by kernel_rfl) (by kernel_rfl)) ?_
  intro W base args ds gs before hval0 hW hcnd _
  have hval : ∀ (j : Nat) t v, Try.f7.params[j]? = some t → args[j]? = some v → Value.okWide Try.prog W .any base t v := hval0
  have hW' := hW
  obtain ⟨p, q, hA0, hV, rfl, hfz, hnd⟩ := hW
  have hA : DataW.TrodAll enc Try.prog W 0 (fun _ => true) true Try.f7.params.toList args.toList ds p := hA0
  rw [Try.params7] at hA hval
  obtain ⟨v0, vs0, d0, ds0, p0, q0, hargs, rfl, rfl, h0, hr0⟩ := trodAll_cons hA
  obtain ⟨v1, vs1, d1, ds1, p1, q1, rfl, rfl, rfl, h1, hr1⟩ := trodAll_cons hr0
  obtain ⟨v2, vs2, d2, ds2, p2, q2, rfl, rfl, rfl, h2, hr2⟩ := trodAll_cons hr1
  obtain ⟨v3, vs3, d3, ds3, p3, q3, rfl, rfl, rfl, h3, hr3⟩ := trodAll_cons hr2
  obtain ⟨v4, vs4, d4, ds4, p4, q4, rfl, rfl, rfl, h4, hr4⟩ := trodAll_cons hr3
  obtain ⟨rfl, rfl, rfl⟩ := trodAll_nil hr4
  obtain rfl : args = #[v0, v1, v2, v3, v4] := by cases args; simp_all
  obtain ⟨rfl, rfl⟩ := trodVars_none hV
  obtain ⟨N, rfl, rfl, rfl, w0⟩ := open_int Try.underlying5 (hval 0 5 v0 rfl rfl) h0
  obtain ⟨ll, al, cl, rfl, hs1⟩ := h_arg_bytes (hval 1 39 v1 rfl rfl) h1
  obtain ⟨lb, ab, cb, rfl, hs2⟩ := h_arg_bytes (hval 2 39 v2 rfl rfl) h2
  obtain ⟨lv, av, cv, rfl, hs3⟩ := h_arg_bytes (hval 3 39 v3 rfl rfl) h3
  obtain ⟨lk, ak, ck, rfl, hs4⟩ := h_arg_bytes (hval 4 39 v4 rfl rfl) h4
  have hN := h_u8_range w0
  have hlt := hW'.lt
  refine (walk N hN.1 hN.2 ll cl lb cb lv cv lk ck W.heap.size al ab av ak W hs1 hs2 hs3 hs4 (Nat.le_refl _)).mono fun e W' ⟨he, hb⟩ => ?_
  subst he
  have t1 := Below.trod h_laidOut (by kernel_rfl) (of_decide_eq_true (by kernel_rfl)) h1 hb (fun x hx => hlt x (by simp [hx]))
  have t2 := Below.trod h_laidOut (by kernel_rfl) (of_decide_eq_true (by kernel_rfl)) h2 hb (fun x hx => hlt x (by simp [hx]))
  have t3 := Below.trod h_laidOut (by kernel_rfl) (of_decide_eq_true (by kernel_rfl)) h3 hb (fun x hx => hlt x (by simp [hx]))
  have t4 := Below.trod h_laidOut (by kernel_rfl) (of_decide_eq_true (by kernel_rfl)) h4 hb (fun x hx => hlt x (by simp [hx]))
  exact ⟨_, rfl, ⟨_, _, _, [], _, [], hW', trodAll_mk1 (shut_bool Try.underlying4 _), ⟨_, _, shut_int Try.underlying5 w0, ⟨_, _, t1, ⟨_, _, t2, trodAll_mk2 t3 t4, rfl⟩, rfl⟩, rfl⟩, rfl, hb.frame _, fun h => by cases h⟩⟩

theorem over : Rows.storeFollowsRow.holds Try.pinned (OpenSpec.ofChange Rows.storeFollowsSpec) :=
  OpenClaim.holds_of_wide 7 Try.f7 rfl rfl rfl rfl rfl rfl rfl ⟨rfl, rfl, rfl, rfl, rfl⟩ rfl rfl rfl rfl rfl (by kernel_rfl) Try.func7 (by kernel_rfl)
    (of_decide_eq_true (by kernel_rfl)) (by unfold Func.isWrapper; first | (rw [if_pos (by decide +kernel)]; kernel_rfl) | (rw [if_neg (by decide +kernel)]; exact ⟨rfl, rfl⟩))
    (fun os started H enc _ => lifted os started H enc)

/-- THE STATEMENT -/
theorem proved : Rows.StoreFollowsSaid :=
  over
#print axioms proved
end Go.Proofs.Ytglggigndhbpcaa.storeFollows
