/- For all numbers the law HornLesser returns true: where clauses hold of two models, they hold of the lesser ones of their values, and of values that are all more by the same. No condition. -/
import Derived.Test.YtkadbllabeobeaaHawake
import Derived.Test.YtkadbllabeobeaaHmade
import Derived.Test.YtkadbllabeobeaaHopen
import Derived.Test.YtkadbllabeobeaaHless
import Derived.Test.YtkadbllabeobeaaHrow2
import Derived.RegionTactic
import Derived.ChangeAlike
import Derived.Carry
namespace Go.Proofs.Ytkadbllabeobeaa.hornLesser
open Go.ChangeShapes Go.WideShapes Go.ChangeAt Go.RowKit

theorem brk_ok {V : Nat} {m : List Int} {l : List Cl} (hV1 : 1 ≤ V) (hV2 : V ≤ 8) (hm : m.length = V) (hn : natsB m = true) (hl : l.all (clB V) = true) (hl2 : l.length ≤ 30) : bkR m l = brkL m l ∧ bkE m l = 0 := by
  have h : brkOk m l = true := by
    simp only [brkOk, hrB, cntB, hm, hn, hl, Bool.and_true, Bool.and_eq_true, decide_eq_true_eq]
    omega
  simp [bkR, bkE, h]
theorem broken_made {W1 W2 W : World} {l : List Cl} {m : List Int} {x am : Option Addr} {c cm V : Nat} (hc : ClsIn W1 (· < W1.heap.size) l x c) (b1 : Below W1.heap.size W1 W) (hi : IntsIn W2 (· < W2.heap.size) m am cm) (b2 : Below W2.heap.size W2 W) (hV1 : 1 ≤ V) (hV2 : V ≤ 8) (hm : m.length = V) (hn : natsB m = true) (hl : l.all (clB V) = true) (hl2 : l.length ≤ 30) :
    Calls Try.prog 12 #[.slice x l.length c, .slice am V cm] W (RowPost (brkL m l) 0 W) := by
  obtain ⟨h1, h2⟩ := brk_ok hV1 hV2 hm hn hl hl2
  rw [← h1, ← h2]
  subst hm
  exact hBroken_any m l x am c cm W.heap.size W ((hc.below b1).mono b1.size) ((hi.below b2).mono b2.size) (Nat.le_refl _)
/-- What is read after both models have been asked. -/
def LsAt (B : Nat) (l : List Cl) (x : Option Addr) (c ga gb : Nat) (a b xs ys : List Int) (x5 x6 : Option Addr) (c5 c6 : Nat) (W : World) : Prop :=
  ClsIn W (· < B) l x c ∧ NumB W ga a ∧ NumB W gb b ∧ IntsIn W (· < B) xs x5 c5 ∧ IntsIn W (· < B) ys x6 c6 ∧ ga < B ∧ gb < B
theorem LsAt.below {B : Nat} {l : List Cl} {x : Option Addr} {c ga gb : Nat} {a b xs ys : List Int} {x5 x6 : Option Addr} {c5 c6 : Nat} {W W' : World} (h : LsAt B l x c ga gb a b xs ys x5 x6 c5 c6 W) (hb : Below B W W') : LsAt B l x c ga gb a b xs ys x5 x6 c5 c6 W' :=
  ⟨h.1.below hb, (hb.block _ h.2.2.2.2.2.1).trans h.2.1, (hb.block _ h.2.2.2.2.2.2).trans h.2.2.1, h.2.2.2.1.below hb, h.2.2.2.2.1.below hb, h.2.2.2.2.2⟩

theorem pt_step {f : Nat → Int} {g : Nat → Int} {i j : Nat} {z : Int} (h : z = f j) : (if i = j then z else if i < j then f i else g i) = if i < j + 1 then f i else g i := by
  by_cases e : i = j
  · subst e; rw [if_pos rfl, if_pos (Nat.lt_succ_self _)]; exact h
  · rw [if_neg e]
    by_cases e2 : i < j
    · rw [if_pos e2, if_pos (by omega)]
    · rw [if_neg e2, if_neg (by omega)]

theorem pt_next {m : List Int} {V j : Nat} {f g : Nat → Int} {z : Int} (h : PtM m V (fun i => if i < j then f i else g i)) (hz : z = f j) : PtM (m.set j z) V (fun i => if i < j + 1 then f i else g i) := (h.set j z).congr fun _ _ => pt_step hz

set_option maxRecDepth 100000 in
set_option maxHeartbeats 16000000 in
theorem walk (n more : Int) (h0 : 0 ≤ n) (h1 : n < 256) (k0 : 0 ≤ more) (k1 : more < 256) (ll cl lv cv lw cw B : Nat) (al av aw : Option Addr) (w : World) (hl : ByIn w (· < B) ll al cl) (hv : ByIn w (· < B) lv av cv) (hw : ByIn w (· < B) lw aw cw) (hB : B ≤ w.heap.size) :
    Calls Try.prog 6 #[.int .u8 n, .slice al ll cl, .slice av lv cv, .slice aw lw cw, .int .u8 more] w fun e w' => e = .returned (.bool true) ∧ Below w.heap.size w w' := by
  have CM := Lib.hid (fun W (h : Below w.heap.size w W) => made8_any n h0 h1 ll cl B al W (hl.below (h.mono hB)) (Nat.le_trans hB h.size))
  have CD := Lib.hid (fun W (h : Below w.heap.size w W) => model8_any n h0 h1 lv cv B av W (hv.below (h.mono hB)) (Nat.le_trans hB h.size))
  have CE := Lib.hid (fun W (h : Below w.heap.size w W) => model8_any n h0 h1 lw cw B aw W (hw.below (h.mono hB)) (Nat.le_trans hB h.size))
  obtain ⟨hV1, hV2⟩ := varsN_bd n
  generalize varsN n = V at CM CD CE hV1 hV2
  clear hl hv hw
  go_enter Try.func6, Try.ntmps6
  go_wp2_with fail
  refine (awake8_any _).mono ?_
  rintro e w1 ⟨rfl, b1⟩
  have B1 := Lib.hid b1
  clear b1
  go_wp2_with fail
  refine (CM.out _ B1.out).mono ?_
  rintro e w2 ⟨l, x, c, rfl, hco, hall, hl30, b2⟩
  have HC := Lib.hid (hco.cls.weak (Q := (· < w2.heap.size)) (fun b hb => hb.2))
  have B2 := Lib.hid (Below.step B1.out b2 (Nat.le_refl _))
  have HALL := Lib.hid hall
  clear hco b2 hall CM
  go_wp2_with fail
  refine (CD.out _ B2.out).mono ?_
  rintro e w3 ⟨a, ha, hla, rfl, hna, b3⟩
  have HA := Lib.hid hna
  have D3 := Lib.hid b3
  have B3 := Lib.hid (Below.step B2.out b3 (Nat.le_refl _))
  have HAL := Lib.hid ha
  have HLA := Lib.hid hla
  clear hna b3 hla ha CD
  go_wp2_with fail
  refine (CE.out _ B3.out).mono ?_
  rintro e w4 ⟨b, hbl, hlb, rfl, hnb, b4⟩
  have HB := Lib.hid hnb
  have D4 := Lib.hid b4
  have B4 := Lib.hid (Below.step B3.out b4 (Nat.le_refl _))
  have HBL := Lib.hid hbl
  have HLB := Lib.hid hlb
  clear hnb b4 hlb hbl CE
  go_wp2_with fail
  refine (broken_made HC.out (Below.step D3.out D4.out (Nat.le_refl _)) (HA.out.ints (cap := V) (by have := HAL.out; omega) (by omega)) D4.out hV1 hV2 HAL.out HLA.out.nats HALL.out hl30).mono ?_
  rintro e w5 ⟨x5, c5, rfl, i5, b5⟩
  have I5 := Lib.hid (RowL.of i5)
  have D5 := Lib.hid b5
  have B5 := Lib.hid (Below.step B4.out b5 (Nat.le_refl _))
  have E5 := Lib.hid (Below.step D3.out (Below.step D4.out b5 (Nat.le_refl _)) (Nat.le_refl _))
  clear i5 b5
  go_wp2_with fail
  refine (broken_made HC.out E5.out (HB.out.ints (cap := V) (by have := HBL.out; omega) (by omega)) D5.out hV1 hV2 HBL.out HLB.out.nats HALL.out hl30).mono ?_
  rintro e w6 ⟨x6, c6, rfl, i6, b6⟩
  have B6 := Lib.hid (Below.step B5.out b6 (Nat.le_refl _))
  have D6 := Lib.hid b6
  have hgb0 := HB.out.lt
  have hga0 := HA.out.lt
  have hz4 := D4.out.size
  have hz5 := D5.out.size
  have hz6 := b6.size
  have LS : Hid (LsAt w6.heap.size l x c w2.heap.size w3.heap.size a b (brkL a l) (brkL b l) x5 x6 c5 c6 w6) := Lib.hid
    ⟨(HC.out.below (Below.step E5.out b6 (Nat.le_refl _))).mono (by have := HC.out; have := D3.out.size; omega),
     (b6.block _ (by omega)).trans ((D5.out.block _ (by omega)).trans ((D4.out.block _ (by omega)).trans HA.out)),
     (b6.block _ (by omega)).trans ((D5.out.block _ (by omega)).trans HB.out),
     ((I5.out _ b6).1.weak (fun _ h => Nat.lt_of_lt_of_le h b6.size)), i6.ints, by omega, by omega⟩
  have hlen := HC.out.len
  have HXL : Hid ((brkL a l).length ≤ l.length) := Lib.hid (brkTo_len a l l.length)
  have HYL : Hid ((brkL b l).length ≤ l.length) := Lib.hid (brkTo_len b l l.length)
  clear i6 b6 HC E5 D4 D3 hga0 hgb0 hz4 hz5 hz6 HA HB
  generalize hxs : brkL a l = xs at I5 LS HXL ⊢
  generalize hys : brkL b l = ys at LS HYL ⊢
  have HXS := Lib.hid hxs
  have HYS := Lib.hid hys
  have hxl : xs.length ≤ 30 := Nat.le_trans HXL.out hl30
  have hyl : ys.length ≤ 30 := Nat.le_trans HYL.out hl30
  clear hxs hys HXL HYL
  go_wp2_with fail
  go_loopw [19, 20] (fun uv iv wr => ∃ (i : Nat) (u : Value), uv = u ∧ iv = .int .i64 i ∧ i ≤ l.length ∧ Hid (CRow wr w6.heap.size w6.heap.size u (bothL a b (l.take i))) ∧ Hid (Below w6.heap.size w6 wr)) (fun _ iv _ => l.length - (intOf iv).toNat)
  case atStart => exact ⟨0, _, rfl, rfl, Nat.zero_le _, Lib.hid (CRow.nil _ _ _), Lib.hid (Below.refl _ _)⟩
  case round =>
    obtain ⟨i, u, rfl, rfl, hi, hrow, hb⟩ := hrel
    have HL := Lib.hid (LS.out.below hb.out)
    obtain ⟨W0, rfl⟩ : ∃ W0, W0 = wr := ⟨_, rfl⟩
    have hi0 : (0 : Int) ≤ (i : Int) := by omega
    by_cases hil : i < l.length
    · have hil' : (i : Int) < (l.length : Int) := by omega
      obtain ⟨bb, o, fr, tv, to, a', c', rfl, hbB, hget, e0, hat, e1, e2⟩ := HL.out.1.at hil
      have HG := Lib.hid hget
      have HAT := Lib.hid hat
      have HTX : Hid (notIn xs (i : Int) = !brkB a (l.getD i cl0)) := Lib.hid (by rw [← HXS.out]; exact notIn_brk hil)
      have HTY : Hid (notIn ys (i : Int) = !brkB b (l.getD i cl0)) := Lib.hid (by rw [← HYS.out]; exact notIn_brk hil)
      clear hget hat
      go_wp2_with fail
      go_loop [21, 22] (fun bv kv => ∃ (k : Nat) (js : Bool), bv = .bool js ∧ kv = .int .i64 k ∧ k ≤ xs.length ∧ Hid (js = notIn (xs.take k) (i : Int))) (fun _ kv => xs.length - (intOf kv).toNat)
      case atStart => exact ⟨0, true, rfl, rfl, Nat.zero_le _, Lib.hid rfl⟩
      case round =>
        obtain ⟨k, js, rfl, rfl, hk, hjs⟩ := hrel
        have hk0 : (0 : Int) ≤ (k : Int) := by omega
        by_cases hkl : k < xs.length
        · have hkl' : (k : Int) < (xs.length : Int) := by omega
          obtain ⟨g, p, rfl, hgB, hcx⟩ := HL.out.2.2.2.1.some (by omega)
          have hz := hcx k hkl
          have HN := Lib.hid (notIn_take (i := (i : Int)) hkl)
          clear hcx
          generalize xs.getD k 0 = z at hz HN
          cases hisv : js with
          | false =>
            have HNN : Hid (false = notIn (xs.take (k + 1)) (i : Int)) := Lib.hid (by rw [HN.out]; have e := hjs.out; rw [hisv] at e; rw [← e]; rfl)
            clear hisv
            go_wp2_with fail
            go_round
            case rel => exact ⟨k + 1, false, rfl, by go_num, by omega, HNN⟩
            case measure => simp [intOf]; omega
          | true =>
            cases hzi : (z != (i : Int)) with
            | true =>
              have HNN : Hid (true = notIn (xs.take (k + 1)) (i : Int)) := Lib.hid (by rw [HN.out, hzi]; have e := hjs.out; rw [hisv] at e; rw [← e]; rfl)
              clear hisv
              go_wp2_with fail
              go_round
              case rel => exact ⟨k + 1, true, rfl, by go_num, by omega, HNN⟩
              case measure => simp [intOf]; omega
            | false =>
              have HNN : Hid (false = notIn (xs.take (k + 1)) (i : Int)) := Lib.hid (by rw [HN.out, hzi]; simp)
              clear hisv
              go_wp2_with fail
              go_round
              case rel => exact ⟨k + 1, false, rfl, by go_num, by omega, HNN⟩
              case measure => simp [intOf]; omega
        · have HX : Hid (js = notIn xs (i : Int)) := Lib.hid (by have e := hjs.out; rwa [List.take_of_length_le (by omega)] at e)
          clear hjs
          obtain ⟨is, rfl⟩ : ∃ is, is = js := ⟨_, rfl⟩
          go_wp2_with fail
          go_loop [21, 23] (fun bv kv => ∃ (k : Nat) (js : Bool), bv = .bool js ∧ kv = .int .i64 k ∧ k ≤ ys.length ∧ Hid (js = (is && notIn (ys.take k) (i : Int)))) (fun _ kv => ys.length - (intOf kv).toNat)
          case atStart => exact ⟨0, is, rfl, rfl, Nat.zero_le _, Lib.hid (by simp [notIn])⟩
          case round =>
            obtain ⟨k, js, rfl, rfl, hk, hjs⟩ := hrel
            have hk0 : (0 : Int) ≤ (k : Int) := by omega
            by_cases hkl : k < ys.length
            · have hkl' : (k : Int) < (ys.length : Int) := by omega
              obtain ⟨g, p, rfl, hgB, hcx⟩ := HL.out.2.2.2.2.1.some (by omega)
              have hz := hcx k hkl
              have HN : Hid ((is && notIn (ys.take (k + 1)) (i : Int)) = (is && (notIn (ys.take k) (i : Int) && (ys.getD k 0 != (i : Int))))) := Lib.hid (by rw [notIn_take hkl])
              clear hcx
              generalize ys.getD k 0 = z at hz HN
              cases hisv : js with
              | false =>
                have HNN : Hid (false = (is && notIn (ys.take (k + 1)) (i : Int))) := Lib.hid (by rw [HN.out]; have e := hjs.out; rw [hisv] at e; rw [← Bool.and_assoc, ← e]; rfl)
                clear hisv
                go_wp2_with fail
                go_round
                case rel => exact ⟨k + 1, false, rfl, by go_num, by omega, HNN⟩
                case measure => simp [intOf]; omega
              | true =>
                cases hzi : (z != (i : Int)) with
                | true =>
                  have HNN : Hid (true = (is && notIn (ys.take (k + 1)) (i : Int))) := Lib.hid (by rw [HN.out, hzi]; have e := hjs.out; rw [hisv] at e; rw [← Bool.and_assoc, ← e]; rfl)
                  clear hisv
                  go_wp2_with fail
                  go_round
                  case rel => exact ⟨k + 1, true, rfl, by go_num, by omega, HNN⟩
                  case measure => simp [intOf]; omega
                | false =>
                  have HNN : Hid (false = (is && notIn (ys.take (k + 1)) (i : Int))) := Lib.hid (by rw [HN.out, hzi]; simp)
                  clear hisv
                  go_wp2_with fail
                  go_round
                  case rel => exact ⟨k + 1, false, rfl, by go_num, by omega, HNN⟩
                  case measure => simp [intOf]; omega
            · have HF : Hid (js = (!brkB a (l.getD i cl0) && !brkB b (l.getD i cl0))) := Lib.hid (by
                have e := hjs.out
                rw [List.take_of_length_le (by omega)] at e
                rw [e, HX.out, HTX.out, HTY.out])
              have HSN : Hid (bothL a b (l.take (i + 1)) = bothL a b (l.take i) ++ if js = true then [l.getD i cl0] else []) := Lib.hid (by rw [take_getD l cl0 hil, bothL_snoc, HF.out])
              have HBL : Hid ((bothL a b (l.take i)).length ≤ 30) := Lib.hid (Nat.le_trans (bothL_len a b (l.take i)) (by simp; omega))
              clear hjs
              cases hjv : js with
              | true =>
                rw [hjv] at HSN
                obtain ⟨g2, k2, w7, hrun, hrow7, ht7⟩ := hrow.out.push (Nat.le_refl _) 22 (fr, (tv, to)) HAT.out (by have := HBL.out; omega) hb.out.size
                have HRUN := Lib.hid hrun
                have HROW : Hid (CRow w7 w6.heap.size w6.heap.size (.slice (some ⟨g2, 0, none⟩) ((bothL a b (l.take i)).length + 1) k2) (bothL a b (l.take (i + 1)))) := Lib.hid (by rw [HSN.out, HG.out]; exact hrow7)
                have HB7 := Lib.hid (hb.out.trans (ht7.low hb.out.size (fun b hO => (hrow.out.lt b hO).1)))
                obtain ⟨xu, cu, hu⟩ := hrow.out.form
                subst hu
                clear hjv hrun hrow7 ht7
                go_wp2_with (at_builtin; refine wpList_append_run (by rfl) _ _ _ (by rfl) (by rfl) (by rfl) HRUN.out ?_)
                go_roundw
                case rel => exact ⟨i + 1, _, rfl, by go_num, by omega, HROW, HB7⟩
                case measure => simp [intOf]; omega
              | false =>
                rw [hjv] at HSN
                have HROW : Hid (CRow W0 w6.heap.size w6.heap.size u19 (bothL a b (l.take (i + 1)))) := Lib.hid (by rw [HSN.out]; simp only [Bool.false_eq_true, if_false, List.append_nil]; exact hrow.out)
                clear hjv
                go_wp2_with fail
                go_roundw
                case rel => exact ⟨i + 1, _, rfl, by go_num, by omega, HROW, hb⟩
                case measure => simp [intOf]; omega
    · have hfull : l.take i = l := List.take_of_length_le (by omega)
      rw [hfull] at hrow
      clear hfull
      generalize hbl : bothL a b l = bl at hrow
      have HBO := Lib.hid hbl
      obtain ⟨xu, cu, rfl⟩ := hrow.out.form
      obtain ⟨g1, k1', w7, hrun1, hi7, hb7⟩ := int_copy (W := W0) 23 HAL.out (by omega) (by omega) HL.out.2.1
      have hna7 : NumB w7 w2.heap.size a := (hb7.block _ HL.out.2.1.lt).trans HL.out.2.1
      obtain ⟨g2, k2', w8, hrun2, hi8, hb8⟩ := int_copy (W := w7) 23 HAL.out (by omega) (by omega) hna7
      have hg1 := hi7.lt g1 rfl
      have hg2 := hi8.lt g2 rfl
      have hz7 := hb7.size
      have hz8 := hb8.size
      have HRUN1 := Lib.hid hrun1
      have HRUN2 := Lib.hid hrun2
      have HI1 : Hid (IOwn w8 W0.heap.size (.slice (some ⟨g1, 0, none⟩) V k1') a) := Lib.hid (hi7.keep (fun g hg => hb8.block g (hi7.lt g hg).2))
      have HI2 : Hid (IOwn w8 W0.heap.size (.slice (some ⟨g2, 0, none⟩) V k2') a) := Lib.hid (hi8.low hz7)
      have hb08 : Below W0.heap.size W0 w8 := Below.step hb7 hb8 (Nat.le_refl _)
      have HR8 : Hid (∀ W, Below W0.heap.size w8 W → CRow W w6.heap.size w6.heap.size (.slice xu bl.length cu) bl ∧ LsAt w6.heap.size l x c w2.heap.size w3.heap.size a b xs ys x5 x6 c5 c6 W ∧ Below w6.heap.size w6 W) := Lib.hid (fun W hW => by
        have h := hb08.trans hW
        exact ⟨hrow.out.keep (fun b hb2 => h.block b (by have := hb.out.size; omega)) (fun g hg => h.block g (hrow.out.lt g hg).2), HL.out.below (h.mono hb.out.size), hb.out.trans (h.mono hb.out.size)⟩)
      have hne : g1 ≠ g2 := by omega
      have hng1 : w2.heap.size ≠ g1 := by have := HL.out.2.1.lt; omega
      have hng2 : w3.heap.size ≠ g1 := by have := HL.out.2.2.1.lt; omega
      have hW0 : w6.heap.size ≤ W0.heap.size := hb.out.size
      have HG1 : Hid (W0.heap.size ≤ g1 ∧ W0.heap.size ≤ g2) := Lib.hid (by omega)
      clear hrun1 hi7 hb7 hna7 hrun2 hi8 hb8 hg1 hg2 hz7 hz8 hb08 hrow hbl
      go_wp2_with (first | (at_builtin; refine wpList_append_run (by rfl) _ _ _ (by rfl) (by rfl) (by rfl) HRUN1.out ?_; clear HRUN1) | (at_builtin; refine wpList_append_run (by rfl) _ _ _ (by rfl) (by rfl) (by rfl) HRUN2.out ?_; clear HRUN2))
      go_loopw [26] (fun jv wr => ∃ (j : Nat) (p q : List Int), jv = .int .i64 j ∧ j ≤ V ∧ Hid (IOwn wr W0.heap.size (.slice (some ⟨g1, 0, none⟩) V k1') p ∧ IOwn wr W0.heap.size (.slice (some ⟨g2, 0, none⟩) V k2') q) ∧ Hid (PtM p V (fun i => if i < j then min (a.getD i 0) (b.getD i 0) else a.getD i 0) ∧ PtM q V (fun i => if i < j then a.getD i 0 + more else a.getD i 0)) ∧ Hid (Below W0.heap.size w8 wr)) (fun jv _ => V - (intOf jv).toNat)
      case atStart => exact ⟨0, a, a, rfl, by omega, Lib.hid ⟨HI1.out, HI2.out⟩, Lib.hid ⟨⟨HAL.out, fun _ _ => by simp⟩, ⟨HAL.out, fun _ _ => by simp⟩⟩, Lib.hid (Below.refl _ _)⟩
      case round =>
        obtain ⟨j, p, q, rfl, hj, hio, hpt, hb8⟩ := hrel
        have hj0 : (0 : Int) ≤ (j : Int) := by omega
        obtain ⟨hr8, hls8, hbb8⟩ := HR8.out _ hb8.out
        by_cases hjl : j < V
        · have hjl' : (j : Int) < (V : Int) := by omega
          have ca := hls8.2.1.at (i := j) (by have := HAL.out; omega)
          have cb := hls8.2.2.1.at (i := j) (by have := HBL.out; omega)
          obtain ⟨cL, fL⟩ := hio.out.1.cell hpt.out.1.1 hjl
          obtain ⟨cU, fU⟩ := hio.out.2.cell hpt.out.2.1 hjl
          have hla := HLA.out j
          have hlb := HLB.out j
          obtain ⟨xa, hxa⟩ : ∃ xa, xa = a.getD j 0 := ⟨_, rfl⟩
          obtain ⟨yb, hyb⟩ : ∃ yb, yb = b.getD j 0 := ⟨_, rfl⟩
          have HXA := Lib.hid hxa
          have HYB := Lib.hid hyb
          rw [← hxa] at ca hla
          rw [← hyb] at cb hlb
          obtain ⟨la0, la1⟩ := hla
          obtain ⟨lb0, lb1⟩ := hlb
          clear hxa hyb hr8 hls8 hbb8
          by_cases hyx : yb < xa
          · have HMN : Hid (min xa yb = yb) := Lib.hid (by omega)
            have ha2 : (wr.setCell ⟨g1, j, none⟩ (.int .i64 yb)).cell? ⟨w2.heap.size, j, none⟩ = some (.int .i64 xa) := (World.cell?_of_block (w := wr) (a := ⟨w2.heap.size, j, none⟩) (Below.heap_setCell _ _ _ _ hng1)).trans ca
            have hu2 : (wr.setCell ⟨g1, j, none⟩ (.int .i64 yb)).cell? ⟨g2, j, none⟩ = some (.int .i64 (q.getD j 0)) := (World.cell?_of_block (w := wr) (a := ⟨g2, j, none⟩) (Below.heap_setCell _ _ _ _ (show g2 ≠ g1 from Ne.symm hne))).trans cU
            have hf2 : (wr.setCell ⟨g1, j, none⟩ (.int .i64 yb)).frozen? ⟨g2, j, none⟩ = false := by rw [World.frozen?_setCell]; exact fU
            have HIO := Lib.hid (two_set hio.out.1 hio.out.2 hpt.out.1.1 hpt.out.2.1 hne j yb (xa + more))
            have HPT : Hid (PtM (p.set j yb) V (fun i => if i < j + 1 then min (a.getD i 0) (b.getD i 0) else a.getD i 0) ∧ PtM (q.set j (xa + more)) V (fun i => if i < j + 1 then a.getD i 0 + more else a.getD i 0)) := Lib.hid
              ⟨pt_next (f := fun i => min (a.getD i 0) (b.getD i 0)) (g := fun i => a.getD i 0) hpt.out.1 (by show _ = min (a.getD j 0) (b.getD j 0); rw [← HXA.out, ← HYB.out]; exact HMN.out.symm), pt_next (f := fun i => a.getD i 0 + more) (g := fun i => a.getD i 0) hpt.out.2 (by show _ = a.getD j 0 + more; rw [← HXA.out])⟩
            have HB8 : Hid (Below W0.heap.size w8 (((wr.setCell ⟨g1, j, none⟩ (.int .i64 yb)).setCell ⟨g2, j, none⟩ (.int .i64 (xa + more))).drew)) := Lib.hid ((((hb8.out.setCell (p := ⟨g1, j, none⟩) HG1.out.1 _).setCell (p := ⟨g2, j, none⟩) HG1.out.2 _)).drew)
            generalize q.getD j 0 = uq at cU hu2
            generalize p.getD j 0 = up at cL
            go_wp2_with fail
            go_region
            go_wp2_with fail
            go_roundw
            case rel => exact ⟨j + 1, _, _, by go_num, by omega, HIO, HPT, HB8⟩
            case measure => simp [intOf]; omega
          · have HMN : Hid (min xa yb = xa) := Lib.hid (by omega)
            have ha2 : (wr.setCell ⟨g1, j, none⟩ (.int .i64 xa)).cell? ⟨w2.heap.size, j, none⟩ = some (.int .i64 xa) := (World.cell?_of_block (w := wr) (a := ⟨w2.heap.size, j, none⟩) (Below.heap_setCell _ _ _ _ hng1)).trans ca
            have hu2 : (wr.setCell ⟨g1, j, none⟩ (.int .i64 xa)).cell? ⟨g2, j, none⟩ = some (.int .i64 (q.getD j 0)) := (World.cell?_of_block (w := wr) (a := ⟨g2, j, none⟩) (Below.heap_setCell _ _ _ _ (show g2 ≠ g1 from Ne.symm hne))).trans cU
            have hf2 : (wr.setCell ⟨g1, j, none⟩ (.int .i64 xa)).frozen? ⟨g2, j, none⟩ = false := by rw [World.frozen?_setCell]; exact fU
            have HIO := Lib.hid (two_set hio.out.1 hio.out.2 hpt.out.1.1 hpt.out.2.1 hne j xa (xa + more))
            have HPT : Hid (PtM (p.set j xa) V (fun i => if i < j + 1 then min (a.getD i 0) (b.getD i 0) else a.getD i 0) ∧ PtM (q.set j (xa + more)) V (fun i => if i < j + 1 then a.getD i 0 + more else a.getD i 0)) := Lib.hid
              ⟨pt_next (f := fun i => min (a.getD i 0) (b.getD i 0)) (g := fun i => a.getD i 0) hpt.out.1 (by show _ = min (a.getD j 0) (b.getD j 0); rw [← HXA.out, ← HYB.out]; exact HMN.out.symm), pt_next (f := fun i => a.getD i 0 + more) (g := fun i => a.getD i 0) hpt.out.2 (by show _ = a.getD j 0 + more; rw [← HXA.out])⟩
            have HB8 : Hid (Below W0.heap.size w8 (((wr.setCell ⟨g1, j, none⟩ (.int .i64 xa)).setCell ⟨g2, j, none⟩ (.int .i64 (xa + more))).drew)) := Lib.hid ((((hb8.out.setCell (p := ⟨g1, j, none⟩) HG1.out.1 _).setCell (p := ⟨g2, j, none⟩) HG1.out.2 _)).drew)
            generalize q.getD j 0 = uq at cU hu2
            generalize p.getD j 0 = up at cL
            go_wp2_with fail
            go_region
            go_wp2_with fail
            go_roundw
            case rel => exact ⟨j + 1, _, _, by go_num, by omega, HIO, HPT, HB8⟩
            case measure => simp [intOf]; omega
        · have hjV : j = V := by omega
          have HP : Hid (PtM p V (fun i => min (a.getD i 0) (b.getD i 0))) := Lib.hid (hpt.out.1.congr (fun i hi => by rw [hjV, if_pos hi]))
          have HQ : Hid (PtM q V (fun i => a.getD i 0 + more)) := Lib.hid (hpt.out.2.congr (fun i hi => by rw [hjV, if_pos hi]))
          have hnp : natsB p = true := HP.out.nats (fun i _ => by have h1 := HLA.out i; have h2 := HLB.out i; omega)
          have hnq : natsB q = true := HQ.out.nats (fun i _ => by have h1 := HLA.out i; omega)
          have hbl30 : bl.length ≤ 30 := by rw [← HBO.out]; exact Nat.le_trans (bothL_len a b l) hl30
          have hball : bl.all (clB V) = true := by rw [← HBO.out]; exact bothL_all HALL.out
          have CB1 := Lib.hid (broken_made (hr8.cls hbb8.size) (Below.refl _ _) (hio.out.1.ints2 HP.out.1) (Below.refl _ _) hV1 hV2 HP.out.1 hnp hball hbl30)
          have hz : brkL p bl = [] := by rw [← HBO.out]; exact bothL_none HALL.out HAL.out HBL.out HP.out
          have hup : brkL q l = xs := by rw [← HXS.out]; exact brkL_up HALL.out HAL.out HQ.out
          have CB2 := Lib.hid (fun W (h : Below wr.heap.size wr W) => broken_made (W1 := wr) (W2 := wr) (W := W) (hls8.1.mono hbb8.size) h (hio.out.2.ints2 HQ.out.1) h hV1 hV2 HQ.out.1 hnq HALL.out hl30)
          rw [hz] at CB1
          rw [hup] at CB2
          have HBB := Lib.hid hbb8
          clear hz hup hnp hnq hball hr8 hls8 hbb8
          go_wp2_with fail
          refine CB1.out.mono ?_
          rintro e w9 ⟨x9, c9, rfl, i9, b9⟩
          have B9 := Lib.hid b9
          clear i9 b9 CB1
          go_wp2_with fail
          refine (CB2.out _ B9.out).mono ?_
          rintro e w10 ⟨x10, c10, rfl, i10, b10⟩
          have I10 := Lib.hid (RowL.of i10)
          have B10 := Lib.hid (Below.step HBB.out (Below.step B9.out b10 (Nat.le_refl _)) (Nat.le_refl _))
          have B10' := Lib.hid (Below.step B9.out b10 (Nat.le_refl _))
          clear i10 b10 CB2
          go_wp2_with fail
          refine (rows8_yes I10.out I5.out (Below.refl _ _) (Below.step D6.out B10.out (Nat.le_refl _))).mono ?_
          rintro e w11 ⟨rfl, b11⟩
          have B11 := Lib.hid (Below.step B6.out (Below.step B10.out b11 (by have := B10.out.size; omega)) (Nat.le_refl _))
          clear b11
          go_wp2_with fail
          go_ret
          exact ⟨rfl, B11.out⟩

theorem own : ownKnob Try.prog.godebug = none := by kernel_rfl

set_option maxRecDepth 100000 in
theorem lifted (os : Os) (started : os.Started) (H : Type) (enc : TypeId × Value → H) :
    ReturnsInHanded {} Try.checked os 6 .any (Rows.hornLesserSpec.pre6 enc Try.prog Try.f6 Rows.hornLesserRow.domain false) (Rows.hornLesserSpec.post enc Try.prog Try.f6 false true false false) := by
  refine returnsInHanded_of_change (C := Try.checked) own started (by kernel_rfl) Try.func6
    (ChangeSpec.witness6 (enc := enc) (C := Try.checked) false ⟨#[], #[.int .u8 0, .slice none 0 0, .slice none 0 0, .slice none 0 0, .int .u8 0], []⟩ 8 (by kernel_rfl) (by kernel_rfl) (by kernel_rfl) (by kernel_rfl)) ?_
  intro W base args ds gs before hval0 hW hcnd _
  have hval : ∀ (j : Nat) t v, Try.f6.params[j]? = some t → args[j]? = some v → Value.okWide Try.prog W .any base t v := hval0
  have hW' := hW
  obtain ⟨p, q, hA0, hV, rfl, hfz, hnd⟩ := hW
  have hA : DataW.TrodAll enc Try.prog W 0 (fun _ => true) true Try.f6.params.toList args.toList ds p := hA0
  rw [Try.params6] at hA hval
  obtain ⟨v0, vs0, d0, ds0, p0, q0, hargs, rfl, rfl, h0, hr0⟩ := trodAll_cons hA
  obtain ⟨v1, vs1, d1, ds1, p1, q1, rfl, rfl, rfl, h1, hr1⟩ := trodAll_cons hr0
  obtain ⟨v2, vs2, d2, ds2, p2, q2, rfl, rfl, rfl, h2, hr2⟩ := trodAll_cons hr1
  obtain ⟨v3, vs3, d3, ds3, p3, q3, rfl, rfl, rfl, h3, hr3⟩ := trodAll_cons hr2
  obtain ⟨v4, vs4, d4, ds4, p4, q4, rfl, rfl, rfl, h4, hr4⟩ := trodAll_cons hr3
  obtain ⟨rfl, rfl, rfl⟩ := trodAll_nil hr4
  obtain rfl : args = #[v0, v1, v2, v3, v4] := by cases args; simp_all
  obtain ⟨rfl, rfl⟩ := trodVars_none hV
  obtain ⟨N, rfl, rfl, rfl, w0⟩ := open_int Try.underlying5 (hval 0 5 v0 rfl rfl) h0
  obtain ⟨ll, al, cl, rfl, hs1⟩ := h_arg_bytes (hval 1 31 v1 rfl rfl) h1
  obtain ⟨lv, av, cv, rfl, hs2⟩ := h_arg_bytes (hval 2 31 v2 rfl rfl) h2
  obtain ⟨lw, aw, cw, rfl, hs3⟩ := h_arg_bytes (hval 3 31 v3 rfl rfl) h3
  obtain ⟨K, rfl, rfl, rfl, w4⟩ := open_int Try.underlying5 (hval 4 5 v4 rfl rfl) h4
  have hN := h_u8_range w0
  have hK := h_u8_range w4
  have hlt := hW'.lt
  refine (walk N K hN.1 hN.2 hK.1 hK.2 ll cl lv cv lw cw W.heap.size al av aw W hs1 hs2 hs3 (Nat.le_refl _)).mono fun e W' ⟨he, hb⟩ => ?_
  subst he
  have t1 := Below.trod h_laidOut (by kernel_rfl) (of_decide_eq_true (by kernel_rfl)) h1 hb (fun x hx => hlt x (by simp [hx]))
  have t2 := Below.trod h_laidOut (by kernel_rfl) (of_decide_eq_true (by kernel_rfl)) h2 hb (fun x hx => hlt x (by simp [hx]))
  have t3 := Below.trod h_laidOut (by kernel_rfl) (of_decide_eq_true (by kernel_rfl)) h3 hb (fun x hx => hlt x (by simp [hx]))
  exact ⟨_, rfl, ⟨_, _, _, [], _, [], hW', trodAll_mk1 (shut_bool Try.underlying4 _), ⟨_, _, shut_int Try.underlying5 w0, trodAll_mk4 t1 t2 t3 (shut_int Try.underlying5 w4), rfl⟩, rfl, hb.frame _, fun h => by cases h⟩⟩

theorem over : Rows.hornLesserRow.holds Try.pinned (OpenSpec.ofChange Rows.hornLesserSpec) :=
  OpenClaim.holds_of_wide 6 Try.f6 rfl rfl rfl rfl rfl rfl rfl ⟨rfl, rfl, rfl, rfl, rfl⟩ rfl rfl rfl rfl rfl (by kernel_rfl) Try.func6 (by kernel_rfl)
    (of_decide_eq_true (by kernel_rfl)) (by unfold Func.isWrapper; first | (rw [if_pos (by decide +kernel)]; kernel_rfl) | (rw [if_neg (by decide +kernel)]; exact ⟨rfl, rfl⟩))
    (fun os started H enc _ => lifted os started H enc)

/-- THE STATEMENT -/
theorem proved : Rows.HornLesserSaid :=
  over
#print axioms proved
end Go.Proofs.Ytkadbllabeobeaa.hornLesser
