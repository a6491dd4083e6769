/- The contract of the document's own rounds from a model on. Conditions: the clauses are right for as many variables as there are values, these are from 0 to the limit, and the limit is at most 100000. -/
import Derived.Test.YtglggigndhbpcaaZJd
import Derived.Test.YtglggigndhbpcaaZJround
import Derived.Test.YtglggigndhbpcaaZJclone
import Derived.Test.YtglggigndhbpcaaZHro
namespace Go.Proofs.Ytglggigndhbpcaa
open Go.RowKit

/-- What rounds answer. -/
def RdPost (l : List Cl) (m : List Int) (most : Int) (w : World) (e : Ending) (w' : World) : Prop :=
  ∃ (a : List Int) (is : Bool) (n : Int) (x : Option Addr) (c : Nat), e = .returned (.tuple #[.slice x a.length c, .bool is, .int .i64 n]) ∧ TellJ l m most a is n ∧ IOwn w' w.heap.size (.slice x a.length c) a ∧ Below w.heap.size w w'
theorem ge_slice {w : World} {base : Nat} {v : Value} {zs : List Int} (h : IOwn w base v zs) (h1 : 1 ≤ zs.length) : ∃ g c, v = .slice (some ⟨g, 0, none⟩) zs.length c := by
  obtain ⟨g, c, hv, _⟩ := h.at (i := 0) (by omega)
  exact ⟨g, c, hv⟩

set_option maxRecDepth 100000 in
set_option maxHeartbeats 16000000 in
theorem r9rounds_any (m : List Int) (l : List Cl) (most : Int) (a am : Option Addr) (cap cm B : Nat) (w : World) (hr : hrB m.length l = true) (h0m : ∀ i, 0 ≤ m.getD i 0) (hmm : ∀ i, i < m.length → m.getD i 0 ≤ most) (hm0 : 0 ≤ most) (hmx : most ≤ 100000)
    (hin : ClsIn w (· < B) l a cap) (him : IntsIn w (· < B) m am cm) (hB : B ≤ w.heap.size) :
    Calls Try.prog 53 #[.slice a l.length cap, .slice am m.length cm, .int .i64 most] w (RdPost l m most w) := by
  have hlen := hin.len
  have hlm := him.len
  obtain ⟨v1, v2, v3, v4⟩ := hrB_of hr
  have hV1 : 1 ≤ m.length := by omega
  have hV : m.length ≤ 16 := by omega
  have hRJ := RightJ.of v4
  obtain ⟨vv, w1, hrun, ho1, hg1, _⟩ := (IOwn.nil w w.heap.size).appendIn him hV1 23 (by simp; omega) (Nat.le_refl _)
  rw [List.nil_append] at ho1
  obtain ⟨g, c, rfl⟩ := ge_slice ho1 hV1
  have HRUN := Lib.hid hrun
  have HO1 := Lib.hid ho1
  have HB1 : Hid (Below w.heap.size w w1) := Lib.hid ⟨hg1.os, hg1.tape, hg1.output, hg1.size, fun b hb => hg1.block b hb (by simp [Value.ownBlock])⟩
  have CG := Lib.hid (fun (W : World) (zs : List Int) (hl : zs.length = m.length) (h : IOwn W w.heap.size (.slice (some ⟨g, 0, none⟩) m.length c) zs) => by have := r9great_any zs most (some ⟨g, 0, none⟩) c W.heap.size W (h.ints2 hl); rwa [hl] at this)
  have CA := Lib.hid (fun (W : World) (zs : List Int) (hl : zs.length = m.length) (hn : natsB zs = true) (h : IOwn W w.heap.size (.slice (some ⟨g, 0, none⟩) m.length c) zs) (fr : List At) (tv to : Int) (a' : Option Addr) (c' : Nat) (hc : clB m.length (fr, (tv, to)) = true) (hat : AtsIn W (· < B) fr a' c') (hW : B ≤ W.heap.size) => by
    have := r8Asks_any zs fr tv to a' (some ⟨g, 0, none⟩) c' c W.heap.size W hn (by rw [hl]; exact hc) (hat.weak (fun b hb => by omega)) (h.ints2 hl) (Nat.le_refl _)
    rwa [hl] at this)
  have HR := Lib.hid hRJ
  have HZ := Lib.hid h0m
  have HM := Lib.hid hmm
  have HI := Lib.hid hin
  have HG0 := Lib.hid (GoJ.zero l m most)
  have HNG : Hid (∀ j, GoJ l m most j → (j : Int) * l.length ≤ 100000000) := Lib.hid (fun j h => by
    have h1 := (h.bd hRJ h0m hmm hm0).1
    have h2 : (m.length : Int) * most ≤ 16 * 100000 := by
      have := Int.mul_le_mul_of_nonneg_right (show (m.length : Int) ≤ 16 by omega) hm0
      omega
    have h3 := Int.mul_le_mul_of_nonneg_right (show (j : Int) ≤ 1600000 by omega) (show (0 : Int) ≤ l.length by omega)
    omega)
  obtain ⟨MX, hMX⟩ : ∃ MX : Int, MX = 100000000 := ⟨_, rfl⟩
  clear hrun ho1 hg1 hin him hr hRJ h0m hmm v1 v2 v4
  go_enter Try.func53, Try.ntmps53
  go_wp2_with (at_builtin; refine wpList_append_run (by rfl) _ _ _ (by rfl) (by rfl) (by rfl) HRUN.out ?_)
  go_loopw [10] (fun lv wr => ∃ (j n : Nat), lv = .int .i64 n ∧ n ≤ 100000000 ∧ Hid (n = j * l.length) ∧ Hid (GoJ l m most j) ∧ Hid (IOwn wr w.heap.size (.slice (some ⟨g, 0, none⟩) m.length c) (itJ l m j)) ∧ Hid (Below w.heap.size w wr)) (fun lv _ => 200000000 - (intOf lv).toNat)
  case atStart => exact ⟨0, 0, rfl, by omega, Lib.hid (by simp), HG0, HO1, HB1⟩
  case round =>
    obtain ⟨j, n, rfl, hn, hnj, hgo, hown, hbw⟩ := hrel
    obtain ⟨W0, rfl⟩ : ∃ W0, W0 = wr := ⟨_, rfl⟩
    have HBD := Lib.hid (hgo.out.bd HR.out HZ.out HM.out hm0).2
    have HLK := Lib.hid (itJ_len l m j)
    have HGR := Lib.hid (fun h => hgo.out.great h)
    have HSM := Lib.hid (fun h1 h2 => hgo.out.same h1 h2)
    have HNX := Lib.hid (fun h1 h2 => hgo.out.next h1 h2)
    have HIT : Hid (itJ l m (j + 1) = rndJ l (itJ l m j)) := Lib.hid rfl
    obtain ⟨mj, hmj⟩ : ∃ mj, mj = itJ l m j := ⟨_, rfl⟩
    rw [← hmj] at hown HBD HLK HGR HSM HNX HIT
    have HRK : Hid (RightJ mj.length l) := Lib.hid (by rw [HLK.out]; exact HR.out)
    have HVB : Hid (∀ k, k ≤ l.length → natsB (rndJ (l.take k) mj) = true) := Lib.hid (fun k hk => nats_of fun i => by
      have h1 := rndJ_bd (HRK.out.take k) HBD.out i
      rw [List.length_take] at h1
      omega)
    clear hmj
    go_wp2_with fail
    go_loopw [10, 11, 12] (fun lv cv iv wq => ∃ (k : Nat) (ch : Bool), lv = .int .i64 ((n : Int) + k) ∧ cv = .bool ch ∧ Hid (ch = decide (rndJ (l.take k) mj ≠ mj)) ∧ iv = .int .i64 k ∧ k ≤ l.length ∧ Hid (IOwn wq w.heap.size (.slice (some ⟨g, 0, none⟩) m.length c) (rndJ (l.take k) mj)) ∧ Hid (Below w.heap.size w wq)) (fun _ _ iv _ => l.length - (intOf iv).toNat)
    case atStart => exact ⟨0, false, by simp, rfl, Lib.hid (by simp [rndJ]), rfl, Nat.zero_le _, Lib.hid (by simpa [rndJ] using hown.out), hbw⟩
    case round =>
      obtain ⟨k, ch, rfl, rfl, hch, rfl, hk, hoq, hbq⟩ := hrel
      by_cases hlt : k < l.length
      · obtain ⟨b, o, fr, tv, to, a', c', rfl, hbB, hget, e0, hat, e1, e2⟩ := (HI.out.below (hbq.out.mono hB)).at hlt
        have hcl := HRK.out _ (getD_mem cl0 hlt)
        have hchg := rndJ_chg (l := l.take k) (c := l.getD k cl0) (m := mj) (by rw [← take_getD l cl0 hlt]; exact HRK.out.take _)
        rw [← take_getD l cl0 hlt] at hchg
        have hstp := rndJ_take (m := mj) hlt
        have hRl : (rndJ (l.take k) mj).length = m.length := (rndJ_len _ _).trans HLK.out
        have hvb := HVB.out k (by omega)
        rw [HLK.out] at hcl
        rw [hget] at hcl hchg hstp
        obtain ⟨q1, q2, q3, q4⟩ := atB_of (clB_of hcl).1
        simp only at q1 q2 q3 q4
        obtain ⟨cg, fg⟩ := hoq.out.cell hRl (i := tv.toNat) (by omega)
        have CD := Lib.hid (CA.out wr _ hRl hvb hoq.out fr tv to a' c' hcl hat (Nat.le_trans hB hbq.out.size))
        have hbl : b < wr.heap.size := by have := hbq.out.size; omega
        have hgl := (hoq.out.lt g rfl).2
        obtain ⟨R1, hR1⟩ : ∃ R1, R1 = rndJ (l.take (k + 1)) mj := ⟨_, rfl⟩
        rw [← hR1] at hchg hstp
        have HR1 := Lib.hid hR1.symm
        generalize rndJ (l.take k) mj = R at hchg hstp hRl hvb cg fg CD hoq hch
        rw [← hch.out] at hchg
        have HCH : Hid (decide (R1 ≠ mj) = (ch || decide (R.getD tv.toNat 0 < askC (fr, (tv, to)) R))) := Lib.hid hchg
        have HST : Hid (R1 = if R.getD tv.toNat 0 < askC (fr, (tv, to)) R then R.set tv.toNat (askC (fr, (tv, to)) R) else R) := Lib.hid hstp
        have HCG := Lib.hid (And.intro cg fg)
        have HE : Hid (wr.cell? ⟨b, o + k * 3, none⟩ = some (.slice a' fr.length c') ∧ wr.cell? ⟨b, o + k * 3 + 1, none⟩ = some (.int .i64 tv) ∧ wr.cell? ⟨b, o + k * 3 + 2, none⟩ = some (.int .i64 to)) := Lib.hid ⟨e0, e1, e2⟩
        have hk0 : (0 : Int) ≤ (k : Int) := by omega
        have hkl : (k : Int) < (l.length : Int) := by omega
        have HRL := Lib.hid hRl
        have HOQ := Lib.hid hoq.out
        have KEEP : Hid (∀ w2, Below wr.heap.size wr w2 → (w2.cell? ⟨b, o + k * 3 + 1, none⟩ = some (.int .i64 tv)) ∧ w2.cell? ⟨g, tv.toNat, none⟩ = some (.int .i64 (R.getD tv.toNat 0)) ∧ w2.frozen? ⟨g, tv.toNat, none⟩ = false ∧ Hid (IOwn w2 w.heap.size (.slice (some ⟨g, 0, none⟩) m.length c) R) ∧ Hid (Below w.heap.size w w2)) := Lib.hid (fun w2 h2 => by
          have ho2 := HOQ.out.keep (w' := w2) (fun g' hg' => h2.block g' (HOQ.out.lt g' hg').2)
          obtain ⟨x1, x2⟩ := ho2.cell HRL.out (i := tv.toNat) (by omega)
          exact ⟨(bcell h2 _ _ hbl).trans e1, x1, x2, Lib.hid ho2, Lib.hid (Below.step hbq.out h2 (Nat.le_refl _))⟩)
        have HLT : Hid (g < wr.heap.size) := Lib.hid hgl
        clear hchg hstp hget hcl hat hvb cg fg hoq hgl hRl hR1 hch
        generalize R.getD tv.toNat 0 = y at HCH HST HCG KEEP
        generalize askC (fr, (tv, to)) R = q at HCH HST CD
        obtain ⟨W1, rfl⟩ : ∃ W1, W1 = wr := ⟨_, rfl⟩
        by_cases hyq : y < q
        · have HS1 : Hid (R1 = R.set tv.toNat q) := Lib.hid (by rw [HST.out, if_pos hyq])
          have HC1 : Hid (decide (R1 ≠ mj) = true) := Lib.hid (by rw [HCH.out, decide_eq_true hyq, Bool.or_true])
          clear HCH HST
          go_wp2_with (go_at_call 38; refine CD.out.mono ?_; rintro e w2 ⟨rfl, hb2⟩; obtain ⟨x1, x2, x3, x4, x5⟩ := KEEP.out w2 hb2)
          go_roundw
          case rel => exact ⟨k + 1, true, by go_num, rfl, Lib.hid (by rw [HR1.out, HC1.out]), by go_num, by omega, Lib.hid (by rw [HR1.out, HS1.out]; exact x4.out.setAt HRL.out _ _), Lib.hid (x5.out.setCell (p := ⟨g, tv.toNat, none⟩) (HOQ.out.lt g rfl).1 _)⟩
          case measure => simp [intOf]; omega
        · have HS1 : Hid (R1 = R) := Lib.hid (by rw [HST.out, if_neg hyq])
          have HC1 : Hid (decide (R1 ≠ mj) = ch) := Lib.hid (by rw [HCH.out, decide_eq_false hyq, Bool.or_false])
          clear HCH HST
          go_wp2_with (go_at_call 38; refine CD.out.mono ?_; rintro e w2 ⟨rfl, hb2⟩; obtain ⟨x1, x2, x3, x4, x5⟩ := KEEP.out w2 hb2)
          go_roundw
          case rel => exact ⟨k + 1, ch, by go_num, rfl, Lib.hid (by rw [HR1.out, HC1.out]), by go_num, by omega, Lib.hid (by rw [HR1.out, HS1.out]; exact x4.out), x5⟩
          case measure => simp [intOf]; omega
      · obtain rfl : k = l.length := by omega
        rw [List.take_length] at hoq hch
        have hRl : (rndJ l mj).length = m.length := (rndJ_len _ _).trans HLK.out
        have CG2 := Lib.hid (CG.out wr _ hRl hoq.out)
        have HEND : Hid ((n : Int) + l.length = ((j + 1 : Nat) : Int) * l.length) := Lib.hid (by rw [hnj.out]; simp [Int.add_mul])
        rw [← HEND.out] at HGR HSM
        obtain ⟨W1, rfl⟩ : ∃ W1, W1 = wr := ⟨_, rfl⟩
        cases hgr : grB most (rndJ l mj) with
        | true =>
          rw [hgr] at CG2
          have HF := Lib.hid (HGR.out hgr)
          go_wp2_with (go_at_call 64; refine CG2.out.mono ?_; rintro e w2 ⟨rfl, rfl⟩)
          refine bodyPost_ret (v := .tuple #[.slice none 0 0, .bool false, .int .i64 ((n : Int) + l.length)]) (by simp [results, Try.f53, go_sem]) rfl ?_
          exact ⟨[], false, _, none, 0, rfl, HF.out, IOwn.nil _ _, hbq.out⟩
        | false =>
          rw [hgr] at CG2
          by_cases hsm : rndJ l mj = mj
          · have HF := Lib.hid (HSM.out hgr hsm)
            obtain rfl : ch = false := by rw [hch.out, hsm]; simp
            have HOQ : Hid (RdPost l m most w (.returned (.tuple #[.slice (some ⟨g, 0, none⟩) m.length c, .bool true, .int .i64 ((n : Int) + l.length)])) W1) := Lib.hid ⟨mj, true, _, some ⟨g, 0, none⟩, c, by rw [HLK.out], HF.out, by rw [HLK.out, ← hsm]; exact hoq.out, hbq.out⟩
            clear hoq hch hsm hgr
            go_wp2_with (go_at_call 64; refine CG2.out.mono ?_; rintro e w2 ⟨rfl, rfl⟩)
            refine bodyPost_ret (v := .tuple #[.slice (some ⟨g, 0, none⟩) m.length c, .bool true, .int .i64 ((n : Int) + l.length)]) (by simp [results, Try.f53, go_sem]) rfl HOQ.out
          · have HG2 := Lib.hid (HNX.out hgr hsm)
            obtain rfl : ch = true := by rw [hch.out]; exact decide_eq_true hsm
            have hlpos : 1 ≤ l.length := by
              rcases Nat.eq_zero_or_pos l.length with h | h
              · exact absurd (by rw [List.eq_nil_of_length_eq_zero h]; rfl) hsm
              · exact h
            have HOQ : Hid (IOwn W1 w.heap.size (.slice (some ⟨g, 0, none⟩) m.length c) (itJ l m (j + 1))) := Lib.hid (by rw [HIT.out]; exact hoq.out)
            have HNL : n + l.length ≤ 100000000 := by have := HNG.out _ HG2.out; rw [← HEND.out] at this; omega
            clear hoq hch hsm
            go_wp2_with (go_at_call 64; refine CG2.out.mono ?_; rintro e w2 ⟨rfl, rfl⟩)
            go_roundw
            case rel => exact ⟨j + 1, n + l.length, by go_num, HNL, Lib.hid (by rw [hnj.out, Nat.add_mul]; simp), HG2, HOQ, hbq⟩
            case measure => simp [intOf]; omega
end Go.Proofs.Ytglggigndhbpcaa
