/- The contract of the document's own Broken: the places of the clauses that don't hold, or the refusal. Condition: the clauses and the values lie in memory. -/
import Derived.Test.YtglggigndhbpcaaZHbk
import Derived.Test.YtglggigndhbpcaaZHnat
import Derived.Test.YtglggigndhbpcaaZHr
namespace Go.Proofs.Ytglggigndhbpcaa
open Go.RowKit

set_option maxRecDepth 100000 in
set_option maxHeartbeats 16000000 in
theorem r8Broken_any (m : List Int) (l : List Cl) (a am : Option Addr) (cap cm B : Nat) (w : World) (hin : ClsIn w (· < B) l a cap) (him : IntsIn w (· < B) m am cm) (hB : B ≤ w.heap.size) :
    Calls Try.prog 21 #[.slice a l.length cap, .slice am m.length cm] w (RowPost (bkR m l) (bkE m l) w) := by
  have hlen := hin.len
  have hlm := him.len
  have CR := Lib.hid (fun W (h : Below w.heap.size w W) => r8Right_any m.length l a cap B W (hin.below (h.mono hB)) (Nat.le_trans hB h.size))
  have CN := Lib.hid (fun W (h : Below w.heap.size w W) => r8natural_any m am cm B W (him.below (h.mono hB)))
  have HI := Lib.hid hin
  have HIM := Lib.hid him
  have HR : Hid (hrB m.length l = false → bkR m l = [] ∧ bkE m l = 1) := Lib.hid (fun h => by simp [bkR, bkE, brkOk, h])
  have HN : Hid (natsB m = false → bkR m l = [] ∧ bkE m l = 1) := Lib.hid (fun h => by simp [bkR, bkE, brkOk, h])
  have HY : Hid (hrB m.length l = true → natsB m = true → bkR m l = brkL m l ∧ bkE m l = 0) := Lib.hid (fun h1 h2 => by simp [bkR, bkE, brkOk, h1, h2])
  have HC : Hid (hrB m.length l = true → l.length ≤ 60 ∧ l.all (clB m.length) = true) := Lib.hid (fun h => ⟨(hrB_of h).2.2.1, (hrB_of h).2.2.2⟩)
  have HM : Hid (natsB m = true → natsB m = true) := Lib.hid id
  generalize bkR m l = R at HR HN HY ⊢
  generalize bkE m l = E at HR HN HY ⊢
  clear hin him
  cases hr : hrB m.length l with
  | false =>
    obtain ⟨rfl, rfl⟩ := HR.out hr
    rw [hr] at CR
    clear hr HR HN HY HC
    go_enter Try.func21, Try.ntmps21
    go_wp2_with (go_at_call 36; refine (CR.out _ (Below.refl _ _)).mono ?_; rintro e w1 ⟨rfl, hb1⟩)
    go_ret2
    exact RowPost.nil rfl hb1
  | true =>
    rw [hr] at CR
    have HC1 := Lib.hid (HC.out hr)
    have HY1 := Lib.hid (HY.out hr)
    clear hr HR HC HY
    cases hn : natsB m with
    | false =>
      obtain ⟨rfl, rfl⟩ := HN.out hn
      rw [hn] at CN
      clear hn HN HY1 HM
      go_enter Try.func21, Try.ntmps21
      go_wp2_with (first | (go_at_call 36; refine (CR.out _ (Below.refl _ _)).mono ?_; rintro e w1 ⟨rfl, hb1⟩) | (go_at_call 37; refine (CN.out _ hb1).mono ?_; rintro e w2 ⟨rfl, rfl⟩))
      go_ret2
      exact RowPost.nil rfl hb1
    | true =>
      rw [hn] at CN
      obtain ⟨rfl, rfl⟩ := HY1.out hn
      have HM1 := Lib.hid hn
      clear hn HN HY1 HM
      have hl60 := HC1.out.1
      go_enter Try.func21, Try.ntmps21
      go_wp2_with (first | (go_at_call 36; refine (CR.out _ (Below.refl _ _)).mono ?_; rintro e w1 ⟨rfl, hb1⟩) | (go_at_call 37; refine (CN.out _ hb1).mono ?_; rintro e w2 ⟨rfl, rfl⟩))
      go_loopw [6, 7] (fun v i wr => ∃ (k : Nat) (u : Value), v = u ∧ i = .int .i64 k ∧ k ≤ l.length ∧ Hid (IOwn wr w.heap.size u (brkTo m l k)) ∧ Below w.heap.size w wr) (fun _ i _ => l.length - (intOf i).toNat)
      case atStart => exact ⟨0, _, rfl, rfl, Nat.zero_le _, Lib.hid (IOwn.nil _ _), hb1⟩
      case round =>
        obtain ⟨k, u, rfl, rfl, hk, hown, hb⟩ := hrel
        by_cases hlt : k < l.length
        · obtain ⟨b, o, fr, tv, to, a', c', rfl, hbB, hget, e0, hat, e1, e2⟩ := (HI.out.below (hb.mono hB)).at hlt
          have hcl := all_getD HC1.out.2 cl0 hlt
          rw [hget] at hcl
          obtain ⟨q1, q2, q3, q4⟩ := atB_of (clB_of hcl).1
          simp only at q1 q2 q3 q4
          obtain ⟨h, r, rfl, hhB, hcm⟩ := (HIM.out.below (hb.mono hB)).some (by omega)
          have hy := hcm tv.toNat (by omega)
          have hhl : h < wr.heap.size := by have := hb.size; omega
          have HBK : Hid (brkB m (l.getD k cl0) = decide (m.getD tv.toNat 0 < askC (fr, (tv, to)) m)) := Lib.hid (by rw [hget]; rfl)
          have CD := Lib.hid (fun W (hW : Below B wr W) => r8Asks_any m fr tv to a' (some ⟨h, r, none⟩) c' cm B W HM1.out hcl (hat.below hW) ((HIM.out.below (hb.mono hB)).below hW) (Nat.le_trans (Nat.le_trans hB hb.size) hW.size))
          have hbl : b < wr.heap.size := by have := hb.size; omega
          have HS : Hid (wr.cell? ⟨b, o + k * 3, none⟩ = some (.slice a' fr.length c') ∧ wr.cell? ⟨b, o + k * 3 + 1, none⟩ = some (.int .i64 tv) ∧ wr.cell? ⟨b, o + k * 3 + 2, none⟩ = some (.int .i64 to) ∧ wr.cell? ⟨h, r + tv.toNat, none⟩ = some (.int .i64 (m.getD tv.toNat 0))) := Lib.hid ⟨e0, e1, e2, hy⟩
          have HBB := Lib.hid hb
          have HOW := Lib.hid hown.out
          have hk0 : (0 : Int) ≤ (k : Int) := by omega
          have hkl : (k : Int) < (l.length : Int) := by omega
          have HSC := Lib.hid (brkTo_succ m l k)
          have HLE := Lib.hid (brkTo_len m l k)
          generalize hyv : m.getD tv.toNat 0 = y at HBK HS
          generalize askC (fr, (tv, to)) m = q at HBK CD
          clear hget hat hcl hcm hy hyv hown
          go_wp2_with fail
          obtain ⟨W, rfl⟩ : ∃ W, W = wr := ⟨_, rfl⟩
          clear e0 e1 e2
          by_cases hyq : y < q
          · have dyq : decide (y < q) = true := decide_eq_true hyq
            have HNX : Hid (brkTo m l (k + 1) = brkTo m l k ++ [(k : Int)]) := Lib.hid (by rw [HSC.out, if_pos (by rw [HBK.out]; exact dyq)])
            go_region_held3 (fun w' => Hid (Below W.heap.size W w') ∧ w'.cell? ⟨b, o + k * 3, none⟩ = some (.slice a' fr.length c') ∧ w'.cell? ⟨b, o + k * 3 + 1, none⟩ = some (.int .i64 tv) ∧ w'.cell? ⟨b, o + k * 3 + 2, none⟩ = some (.int .i64 to) ∧ w'.cell? ⟨h, r + tv.toNat, none⟩ = some (.int .i64 y))
              (first | exact ⟨Lib.hid (Below.refl _ _).drew, HS.out⟩ | (go_split_ands; exact held4 (Below.step (Hid.out (by assumption)) hbN (Nat.le_refl _)) hbl hhl HS.out))
              (first | (go_at_call 38; go_split_ands; refine (CD.out _ (Below.mono (Hid.out (by assumption)) (Nat.le_trans hB HBB.out.size))).mono ?_; rintro e wN ⟨rfl, hbN⟩))
            go_split_ands
            have hW2 : Below W.heap.size W wN := Hid.out (by assumption)
            obtain ⟨g2, c2, w3, HRUN, HOW3, HB3⟩ := IOwn.more (HOW.out.keep (fun g hg => hW2.block g (HOW.out.lt g hg).2)) (Below.step HBB.out hW2 (Nat.le_refl _)) 23 k (by have := HLE.out; omega)
            go_wp2_with (at_builtin; refine wpList_append_run (by rfl) _ _ _ (by rfl) (by rfl) (by rfl) HRUN.out ?_)
            go_roundw
            case rel => exact ⟨k + 1, _, rfl, by go_num, by omega, Lib.hid (by rw [HNX.out]; exact HOW3.out), HB3.out⟩
            case measure => simp [intOf]; omega
          · have dyq : decide (y < q) = false := decide_eq_false hyq
            have HNX : Hid (brkTo m l (k + 1) = brkTo m l k) := Lib.hid (by rw [HSC.out, if_neg (by rw [HBK.out, dyq]; decide), List.append_nil])
            go_region_held3 (fun w' => Hid (Below W.heap.size W w') ∧ w'.cell? ⟨b, o + k * 3, none⟩ = some (.slice a' fr.length c') ∧ w'.cell? ⟨b, o + k * 3 + 1, none⟩ = some (.int .i64 tv) ∧ w'.cell? ⟨b, o + k * 3 + 2, none⟩ = some (.int .i64 to) ∧ w'.cell? ⟨h, r + tv.toNat, none⟩ = some (.int .i64 y))
              (first | exact ⟨Lib.hid (Below.refl _ _).drew, HS.out⟩ | (go_split_ands; exact held4 (Below.step (Hid.out (by assumption)) hbN (Nat.le_refl _)) hbl hhl HS.out))
              (first | (go_at_call 38; go_split_ands; refine (CD.out _ (Below.mono (Hid.out (by assumption)) (Nat.le_trans hB HBB.out.size))).mono ?_; rintro e wN ⟨rfl, hbN⟩))
            go_split_ands
            have hW2 : Below W.heap.size W wN := Hid.out (by assumption)
            have HOW3 := Lib.hid (HOW.out.keep (fun g hg => hW2.block g (HOW.out.lt g hg).2))
            have HB3 := Lib.hid (Below.step HBB.out hW2 (Nat.le_refl _))
            go_wp2_with fail
            go_roundw
            case rel => exact ⟨k + 1, _, rfl, by go_num, by omega, Lib.hid (by rw [HNX.out]; exact HOW3.out), HB3.out⟩
            case measure => simp [intOf]; omega
        · obtain rfl : k = l.length := by omega
          obtain ⟨x, c, rfl⟩ := hown.out.form
          have HE : Hid (RowPost (brkL m l) 0 w (.returned (.tuple #[.slice x (brkTo m l l.length).length c, .int .i64 0])) wr) := Lib.hid ⟨x, c, rfl, hown.out, hb⟩
          clear hown
          go_wp2_with fail
          go_ret2
          exact HE.out
end Go.Proofs.Ytglggigndhbpcaa
