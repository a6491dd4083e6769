/- The contract of the document's own Get of an arena: the level of a node, or the refusal. No condition but that the nodes lie in memory. -/
import Derived.Test.YtmbopdlmkbbbiaaAmeas
import Derived.Test.YtmbopdlmkbbbiaaArget
import Derived.Test.YtmbopdlmkbbbiaaArr
import Derived.Test.YtmbopdlmkbbbiaaAget2
namespace Go.Proofs.Ytmbopdlmkbbbiaa
open Go.RowKit

set_option maxRecDepth 100000 in
set_option maxHeartbeats 4000000 in
theorem r4Get_any (ns : List Nd) (a : Option Addr) (cap : Nat) (i : Int) (B : Nat) (w : World) (hin : NsIn w (· < B) ns a cap) (hB : B ≤ w.heap.size) :
    Calls Try.prog 27 #[.agg #[.slice a ns.length cap], .int .i64 i] w (GtPost (tr ns i.toNat) (getE ns i) w) := by
  have hb0 : Below w.heap.size w ((w.alloc (.cells #[.slice a ns.length cap] 26)).alloc (.cells #[.int .i64 0, .int .i64 0, .slice none 0 0] 30)) := ((Below.refl _ _).alloc (Nat.le_refl _) _).alloc (by simp) _
  have hat : GvAt ns.length a cap w.heap.size ((w.alloc (.cells #[.slice a ns.length cap] 26)).alloc (.cells #[.int .i64 0, .int .i64 0, .slice none 0 0] 30)) := ⟨(heap_old _ _ (by simp)).trans (heap_new _ _), heap_second _ _ _⟩
  have HAT := Lib.hid hat
  have HB0 := Lib.hid hb0
  have HIN := Lib.hid hin
  have hlen := hin.len
  have HRN : Hid (∀ (W : World), Below w.heap.size w W → Calls Try.prog 28 #[.agg #[.slice a ns.length cap]] W fun e w' => e = .returned (.bool (rightN ns)) ∧ Below W.heap.size W w') := Lib.hid (fun W h => r4Right_any ns a cap B W (HIN.out.below (h.mono hB)) (Nat.le_trans hB h.size))
  obtain ⟨c0, c1, c2, c3, c4, c5, c6⟩ := hat.facts
  clear hat hb0 hin
  have HXE : Hid (∀ (er : Int) (W : World), er ≠ 0 → Below w.heap.size w W → GtPost (tr ns i.toNat) er w (.returned (.tuple #[.agg #[.int .i64 0, .int .i64 0, .slice none 0 0], .int .i64 er])) (((W.setCell ⟨w.heap.size + 1, 0, none⟩ (.int .i64 0)).setCell ⟨w.heap.size + 1, 1, none⟩ (.int .i64 0)).setCell ⟨w.heap.size + 1, 2, none⟩ (.slice none 0 0))) := Lib.hid (fun er W he h1 =>
    gt_no he (((h1.setCell (by simp) _).setCell (by simp) _).setCell (by simp) _))
  cases hr : rightN ns with
  | false =>
    have hE : getE ns i = 1 := by unfold getE; rw [if_neg (by rw [hr]; simp)]
    rw [hE]
    rw [hr] at HRN
    clear hE hr
    go_enter Try.func27, Try.ntmps27
    go_wp2_with fail
    refine (HRN.out _ HB0.out).mono ?_
    rintro e w1 ⟨rfl, hb1⟩
    clear c0 c1 c2 c3 c4 c5 c6
    obtain ⟨c0, c1, c2, c3, c4, c5, c6⟩ := (HAT.out.below hb1).facts
    have HE := Lib.hid (HXE.out 1 w1 (by omega) (Below.step HB0.out hb1 (Nat.le_refl _)))
    clear hb1
    go_wp2_with fail
    refine bodyPost_ret (v := .tuple #[.agg #[.int .i64 0, .int .i64 0, .slice none 0 0], .int .i64 1]) (by simp [results, Try.results27, go_sem, c1, c2, c3]) rfl ?_
    exact HE.out
  | true =>
    rw [hr] at HRN
    by_cases h0 : 0 ≤ i
    · by_cases h1 : i < ns.length
      · obtain ⟨j, rfl⟩ := Int.eq_ofNat_of_zero_le h0
        rw [Int.toNat_natCast]
        rw [Int.toNat_natCast] at HXE
        have hj : j < ns.length := by omega
        have h1' : decide ((j : Int) < 0) = false := by simp
        have h2' : decide (ns.length ≤ j) = false := by simp; omega
        have h3' : ¬ ns.length ≤ j := by omega
        have hj0 : (0 : Int) ≤ (j : Int) := by omega
        have hj1 : (j : Int) < (ns.length : Int) := by omega
        have hE : getE ns j = if dF (tr ns j) ≤ 12 ∧ (tr ns j).size ≤ 100 then 0 else 2 := by unfold getE; rw [if_pos ⟨hr, by omega, by omega⟩, Int.toNat_natCast]
        have HMS : Hid (∀ (W : World), Below w.heap.size w W → Calls Try.prog 51 #[.agg #[.slice a ns.length cap]] W (MsPost ns W)) := Lib.hid (fun W h => r4measure_any ns hr a cap B W (HIN.out.below (h.mono hB)) (Nat.le_trans hB h.size))
        have HGT : Hid (∀ (W : World), Below w.heap.size w W → Calls Try.prog 52 #[.agg #[.slice a ns.length cap], .int .i64 j] W (GgPost (tr ns j) W)) := Lib.hid (fun W h => r4get_any ns hr a cap B j hj W (HIN.out.below (h.mono hB)) (Nat.le_trans hB h.size))
        have HAT9 : Hid (∀ (W : World) (x1 x2 : Option Addr) (c1 c2 : Nat), IOwn W w.heap.size (.slice x1 ns.length c1) (deeps ns ns.length) → IOwn W w.heap.size (.slice x2 ns.length c2) (sizes ns ns.length) →
            ∃ g1 g2, x1 = some ⟨g1, 0, none⟩ ∧ x2 = some ⟨g2, 0, none⟩ ∧ W.cell? ⟨g1, j, none⟩ = some (.int .i64 (dF (tr ns j) : Nat)) ∧ W.cell? ⟨g2, j, none⟩ = some (.int .i64 (min (tr ns j).size 1000 : Nat))) := Lib.hid (fun W x1 x2 c1 c2 h1 h2 => by
          obtain ⟨g1, d1, e1, _, _, y1⟩ := h1.at (i := j) (by rw [deeps_len]; exact hj)
          obtain ⟨g2, d2, e2, _, _, y2⟩ := h2.at (i := j) (by rw [sizes_len]; exact hj)
          injection e1 with e1 _ _
          injection e2 with e2 _ _
          rw [deeps_at ns hj] at y1
          rw [sizes_at ns hj] at y2
          exact ⟨g1, g2, e1, e2, y1, y2⟩)
        have hmn : min (tr ns j).size 1000 ≤ 100 ↔ (tr ns j).size ≤ 100 := by omega
        generalize hdd : dF (tr ns j) = dd at hE HAT9
        obtain ⟨ss, hss⟩ : ∃ ss, min (tr ns j).size 1000 = ss := ⟨_, rfl⟩
        rw [hss] at HAT9 hmn
        simp only [← hmn] at hE
        have HE0 := Lib.hid hE
        clear hss hmn hdd h0 h1 hr hj hE
        go_enter Try.func27, Try.ntmps27
        go_wp2_with fail
        refine (HRN.out _ HB0.out).mono ?_
        rintro e w1 ⟨rfl, hb1⟩
        have HAT1 := Lib.hid (HAT.out.below hb1)
        have HB1 := Lib.hid (Below.step HB0.out hb1 (Nat.le_refl _))
        clear c0 c1 c2 c3 c4 c5 c6 hb1
        obtain ⟨c0, c1, c2, c3, c4, c5, c6⟩ := HAT1.out.facts
        go_wp2_with fail
        refine (HMS.out _ HB1.out).mono ?_
        rintro e w2 ⟨x1, d1, x2, d2, rfl, hi1, hi2, hb2⟩
        obtain ⟨g1, g2, rfl, rfl, y1, y2⟩ := HAT9.out w2 x1 x2 d1 d2 (hi1.low HB1.out.size) (hi2.low HB1.out.size)
        have HAT2 := Lib.hid (HAT1.out.below hb2)
        have HB2 := Lib.hid (Below.step HB1.out hb2 (Nat.le_refl _))
        clear c0 c1 c2 c3 c4 c5 c6 hb2 hi1 hi2
        obtain ⟨c0, c1, c2, c3, c4, c5, c6⟩ := HAT2.out.facts
        by_cases k1 : dd ≤ 12
        · have k1' : decide ((12 : Int) < (dd : Int)) = false := by simp; omega
          have k1'' : ¬ (12 : Int) < (dd : Int) := by omega
          by_cases k2 : ss ≤ 100
          · have k2' : decide ((100 : Int) < (ss : Int)) = false := by simp; omega
            have k2'' : ¬ (100 : Int) < (ss : Int) := by omega
            have hE := HE0.out
            rw [if_pos ⟨k1, k2⟩] at hE
            have HEE := Lib.hid hE
            clear hE k1 k2
            go_wp2_with fail
            refine (HGT.out _ HB2.out).mono ?_
            rintro e w3 ⟨k, n, F, x, c, rfl, t1, t2, t3⟩
            obtain ⟨d0, d1', d2', d3, d4, d5, d6⟩ := (HAT2.out.below t3).facts
            have HF : Hid (GtPost (tr ns j) 0 w (.returned (.tuple #[.agg #[.int .i64 k, .int .i64 n, .slice x F.len c], .int .i64 0])) (((w3.setCell ⟨w.heap.size + 1, 0, none⟩ (.int .i64 k)).setCell ⟨w.heap.size + 1, 1, none⟩ (.int .i64 n)).setCell ⟨w.heap.size + 1, 2, none⟩ (.slice x F.len c))) := Lib.hid
              ⟨k, n, F, x, c, rfl, by rw [if_pos rfl]; exact t1, t2.carry (set3_only _ _ _ _) c5 (by omega), ((((Below.step HB2.out t3 (Nat.le_refl _))).setCell (by simp) _).setCell (by simp) _).setCell (by simp) _⟩
            clear t1 t2 t3 c0 c1 c2 c3 c4 c5 c6 y1 y2
            go_wp2_with fail
            refine bodyPost_ret (v := .tuple #[.agg #[.int .i64 k, .int .i64 n, .slice x F.len c], .int .i64 0]) (by simp [results, Try.results27, go_sem, d1', d2', d3]) rfl ?_
            rw [HEE.out]
            exact HF.out
          · have k2'' : (100 : Int) < (ss : Int) := by omega
            have k2' : decide ((100 : Int) < (ss : Int)) = true := by simp; omega
            have k2n : 100 < ss := by omega
            have k1n : ¬ 12 < dd := by omega
            have hE := HE0.out
            rw [if_neg (fun h => k2 h.2)] at hE
            have HEE := Lib.hid hE
            have HE := Lib.hid (HXE.out 2 w2 (by omega) HB2.out)
            clear hE k1 k2
            go_wp2_with fail
            refine bodyPost_ret (v := .tuple #[.agg #[.int .i64 0, .int .i64 0, .slice none 0 0], .int .i64 2]) (by simp [results, Try.results27, go_sem, c1, c2, c3]) rfl ?_
            rw [HEE.out]
            exact HE.out
        · have k1'' : (12 : Int) < (dd : Int) := by omega
          have k1' : decide ((12 : Int) < (dd : Int)) = true := by simp; omega
          have k1n : 12 < dd := by omega
          have hE := HE0.out
          rw [if_neg (fun h => k1 h.1)] at hE
          have HEE := Lib.hid hE
          have HE := Lib.hid (HXE.out 2 w2 (by omega) HB2.out)
          clear hE k1
          go_wp2_with fail
          refine bodyPost_ret (v := .tuple #[.agg #[.int .i64 0, .int .i64 0, .slice none 0 0], .int .i64 2]) (by simp [results, Try.results27, go_sem, c1, c2, c3]) rfl ?_
          rw [HEE.out]
          exact HE.out
      · have h1' : (ns.length : Int) ≤ i := by omega
        have hE : getE ns i = 1 := by unfold getE; rw [if_neg (by omega)]
        rw [hE]
        have h2' : decide (i < 0) = false := by simpa using h0
        clear hE hr
        go_enter Try.func27, Try.ntmps27
        go_wp2_with fail
        refine (HRN.out _ HB0.out).mono ?_
        rintro e w1 ⟨rfl, hb1⟩
        clear c0 c1 c2 c3 c4 c5 c6
        obtain ⟨c0, c1, c2, c3, c4, c5, c6⟩ := (HAT.out.below hb1).facts
        have HE := Lib.hid (HXE.out 1 w1 (by omega) (Below.step HB0.out hb1 (Nat.le_refl _)))
        clear hb1
        go_wp2_with fail
        refine bodyPost_ret (v := .tuple #[.agg #[.int .i64 0, .int .i64 0, .slice none 0 0], .int .i64 1]) (by simp [results, Try.results27, go_sem, c1, c2, c3]) rfl ?_
        exact HE.out
    · have h0' : i < 0 := by omega
      have hE : getE ns i = 1 := by unfold getE; rw [if_neg (by omega)]
      rw [hE]
      clear hE hr
      go_enter Try.func27, Try.ntmps27
      go_wp2_with fail
      refine (HRN.out _ HB0.out).mono ?_
      rintro e w1 ⟨rfl, hb1⟩
      clear c0 c1 c2 c3 c4 c5 c6
      obtain ⟨c0, c1, c2, c3, c4, c5, c6⟩ := (HAT.out.below hb1).facts
      have HE := Lib.hid (HXE.out 1 w1 (by omega) (Below.step HB0.out hb1 (Nat.le_refl _)))
      clear hb1
      go_wp2_with fail
      refine bodyPost_ret (v := .tuple #[.agg #[.int .i64 0, .int .i64 0, .slice none 0 0], .int .i64 1]) (by simp [results, Try.results27, go_sem, c1, c2, c3]) rfl ?_
      exact HE.out
end Go.Proofs.Ytmbopdlmkbbbiaa
