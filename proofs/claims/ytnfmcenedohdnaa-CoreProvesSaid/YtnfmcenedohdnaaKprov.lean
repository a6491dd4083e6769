/- The contract of the program's own Proves. Conditions: the clauses and the places lie in memory; at most 1000 places. -/
import Derived.Test.YtnfmcenedohdnaaKcore
namespace Go.Proofs.Ytnfmcenedohdnaa
open Go.RowKit

set_option maxRecDepth 100000 in
set_option maxHeartbeats 8000000 in
theorem provC : ProvC := fun vars l ps a ap cap cp B w hin hip hB hpl => by
  have hlen := hin.len
  have CR := hRight_any vars l a cap B w hin hB
  have HN : Hid (hrB vars l = false → provB vars l ps = false) := Lib.hid (fun h => by unfold provB; rw [h]; rfl)
  have HK : Hid (decide (okP l.length ps) = false → provB vars l ps = false) := Lib.hid (fun h => by unfold provB; rw [h]; simp)
  have HY : Hid (hrB vars l = true → decide (okP l.length ps) = true → provB vars l ps = !posB vars (pickL l ps)) := Lib.hid (fun h1 h2 => by unfold provB; rw [h1, h2]; simp)
  have HL60 : Hid (hrB vars l = true → l.length ≤ 60) := Lib.hid (fun h => (hrB_of h).2.2.1)
  have AS := Lib.hid (fun (W : World) (hW : Below w.heap.size w W) => ascend_any l.length ps ap cp B W (hip.below (hW.mono hB)) (Nat.le_trans hB hW.size))
  have HP := Lib.hid (hip.mono hB)
  generalize provB vars l ps = R at HN HK HY ⊢
  cases hr : hrB vars l with
  | false => as_aux_lemma =>
    obtain rfl := HN.out hr
    rw [hr] at CR
    have CR2 := Lib.hid CR
    clear CR HN HK HY hr hin HL60 AS HP hip
    go_enter Try.func13, Try.ntmps13
    go_wp2_with (go_at_call 17; refine CR2.out.mono ?_; rintro e w1 ⟨rfl, hb1⟩)
    go_ret
    exact ⟨rfl, hb1⟩
  | true =>
    rw [hr] at CR
    have CR2 := Lib.hid CR
    have hl60 := HL60.out hr
    cases hk : decide (okP l.length ps) with
    | false => as_aux_lemma =>
      obtain rfl := HK.out hk
      rw [hk] at AS
      clear CR HN HK HY hr hin HL60 HP hip hk
      go_enter Try.func13, Try.ntmps13
      go_wp2_with (first | (go_at_call 17; refine CR2.out.mono ?_; rintro e w1 ⟨rfl, hb1⟩) | (go_at_call 25; refine (AS.out _ hb1).mono ?_; rintro e w3 ⟨rfl, hb3⟩))
      go_ret
      exact ⟨rfl, Below.step hb1 hb3 (Nat.le_refl _)⟩
    | true =>
      have hok : okP l.length ps := of_decide_eq_true hk
      obtain rfl := HY.out hr hk
      rw [hk] at AS
      have HLE := Lib.hid (fun k (hk : k < ps.length) => hok.less hk)
      have HIN := Lib.hid hok.in
      have SL := Lib.hid (fun (s : Nat) (W : World) (hs : s < 18446744073709551616) (hi : idxK 64 s = ps) (hW : Below w.heap.size w W) => by
        have := solvable_any vars l s a cap B W hs (by rw [hi]; exact hok.in) (hin.below (hW.mono hB)) (Nat.le_trans hB hW.size)
        rw [hi] at this
        exact this)
      generalize posB vars (pickL l ps) = V at SL ⊢
      clear CR HN HK HY hr hin HL60 hip hk hok
      go_enter Try.func13, Try.ntmps13
      go_wp2_with (first | (go_at_call 17; refine CR2.out.mono ?_; rintro e w1 ⟨rfl, hb1⟩) | (go_at_call 25; refine (AS.out _ hb1).mono ?_; rintro e w3 ⟨rfl, hb3⟩))
      have HB3 := Lib.hid (Below.step hb1 hb3 (Nat.le_refl _))
      clear hb1 hb3 AS CR2
      go_loopw [7, 23] (fun sv iv wr => ∃ (k s : Nat), sv = .int .u64 s ∧ iv = .int .i64 k ∧ k ≤ ps.length ∧ s < 18446744073709551616 ∧ Hid (idxK 64 s = ps.take k) ∧ Hid (Below w.heap.size w wr)) (fun _ iv _ => ps.length - (intOf iv).toNat)
      case atStart => exact ⟨0, 0, rfl, rfl, Nat.zero_le _, by omega, Lib.hid (show idxK 64 0 = [] by decide), HB3⟩
      case round =>
        obtain ⟨k, s, rfl, rfl, hk, hs, HS, hb⟩ := hrel
        by_cases hlt : k < ps.length
        · obtain ⟨g, o, rfl, _, hc⟩ := (HP.out.below hb.out).some (by omega)
          have ek := hc k hlt
          have hlt' : (k : Int) < (ps.length : Int) := by omega
          have hk0 : (0 : Int) ≤ (k : Int) := by omega
          have hp := HIN.out _ (getD_mem 0 hlt)
          have hle := HLE.out k hlt
          have HT := Lib.hid (take_getD ps 0 hlt)
          generalize ps.getD k 0 = p at ek hp hle HT
          obtain ⟨p0, p1⟩ := hp
          obtain ⟨i, rfl⟩ : ∃ i : Nat, p = (i : Int) := ⟨p.toNat, by omega⟩
          have HO := Lib.hid (one_any i (by omega))
          obtain ⟨hput, hp2⟩ := put_bits hs (show i < 64 by omega)
          have HN2 : Hid (idxK 64 (s ||| 2 ^ i) = ps.take (k + 1)) := Lib.hid (by rw [put_idx (show i < 64 by omega) (by rw [HS.out]; exact hle), HS.out, HT.out])
          clear hc hle HT HS
          generalize s ||| 2 ^ i = d at hput hp2 HN2
          generalize ((2 ^ i : Nat) : Int) = q at HO hput
          go_wp2_with (go_at_call 20; refine (HO.out _).mono ?_; rintro e w2 ⟨rfl, rfl⟩)
          go_roundw
          case rel => exact ⟨k + 1, d, rfl, by go_num, by omega, hp2, HN2, hb⟩
          case measure => simp [intOf]; omega
        · obtain rfl : k = ps.length := by omega
          have hlt' : ¬ (ps.length : Int) < (ps.length : Int) := by omega
          have HX := Lib.hid (SL.out s wr hs (by rw [HS.out, List.take_length]) hb.out)
          clear HS SL HIN HLE HP
          cases V with
          | true =>
            go_wp2_with (go_at_call 19; refine HX.out.mono ?_; rintro e w1 ⟨rfl, hb1⟩)
            go_ret
            exact ⟨rfl, Below.step hb.out hb1 (Nat.le_refl _)⟩
          | false =>
            go_wp2_with (go_at_call 19; refine HX.out.mono ?_; rintro e w1 ⟨rfl, hb1⟩)
            go_ret
            exact ⟨rfl, Below.step hb.out hb1 (Nat.le_refl _)⟩
end Go.Proofs.Ytnfmcenedohdnaa
