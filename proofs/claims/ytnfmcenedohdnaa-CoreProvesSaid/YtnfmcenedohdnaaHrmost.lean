/- The contract of the document's own Most: the most that a clause adds, or the refusal. Condition: the clauses lie in memory. -/
import Derived.Test.YtnfmcenedohdnaaHmost
import Derived.Test.YtnfmcenedohdnaaHrright
import Derived.Deep.QuietTactic
import Derived.BigQuiet
namespace Go.Proofs.Ytnfmcenedohdnaa
open Go.RowKit

theorem mostF_take {s : Int} {c : Cl} {l : List At} {k : Nat} (hk : k < l.length) : mostF s c (l.take (k + 1)) = max (mostF s c (l.take k)) (c.2.2 - (l.getD k at0).2) := by rw [take_getD l at0 hk, mostF_snoc]
theorem mostD_take {s : Int} {l : List Cl} {k : Nat} (hk : k < l.length) : mostD s (l.take (k + 1)) = mostF (mostD s (l.take k)) (l.getD k cl0) (l.getD k cl0).1 := by rw [take_getD l cl0 hk, mostD_snoc]

set_option maxRecDepth 100000 in
set_option maxHeartbeats 8000000 in
theorem r8Most_any (vars : Int) (l : List Cl) (a : Option Addr) (cap B : Nat) (w : World) (hin : ClsIn w (· < B) l a cap) (hB : B ≤ w.heap.size) :
    Calls Try.prog 34 #[.int .i64 vars, .slice a l.length cap] w fun e w' => e = .returned (.tuple #[.int .i64 (mostV vars l), .int .i64 (mostE vars l)]) ∧ Below w.heap.size w w' := by
  have hlen := hin.len
  have CR := Lib.hid (r8Right_any vars l a cap B w hin hB)
  have HI := Lib.hid hin
  have HN : Hid (hrB vars l = false → mostV vars l = 0 ∧ mostE vars l = 1) := Lib.hid (fun h => by simp [mostV, mostE, h])
  have HY : Hid (hrB vars l = true → mostV vars l = mostD 0 l ∧ mostE vars l = 0) := Lib.hid (fun h => by simp [mostV, mostE, h])
  have HC : Hid (hrB vars l = true → l.all (clB vars) = true) := Lib.hid (fun h => (hrB_of h).2.2.2)
  generalize mostV vars l = V at HN HY ⊢
  generalize mostE vars l = E at HN HY ⊢
  clear hin
  cases hr : hrB vars l with
  | false =>
    obtain ⟨rfl, rfl⟩ := HN.out hr
    rw [hr] at CR
    clear hr HN HY HC
    go_enter Try.func34, Try.ntmps34
    go_wp2_with (go_at_call 22; refine CR.out.mono ?_; rintro e w1 ⟨rfl, hb1⟩)
    go_ret2
    exact ⟨rfl, hb1⟩
  | true =>
    have HV := Lib.hid (HY.out hr).1
    obtain rfl := (HY.out hr).2
    rw [hr] at CR
    have HC1 := Lib.hid (HC.out hr)
    clear hr HN HY HC
    go_enter Try.func34, Try.ntmps34
    go_wp2_with (go_at_call 22; refine CR.out.mono ?_; rintro e w1 ⟨rfl, hb1⟩)
    go_loopw [6, 7] (fun nv iv wr => ∃ (k : Nat) (n : Int), nv = .int .i64 n ∧ iv = .int .i64 k ∧ k ≤ l.length ∧ 0 ≤ n ∧ n ≤ 1000 ∧ Hid (n = mostD 0 (l.take k)) ∧ Below w.heap.size w wr) (fun _ iv _ => l.length - (intOf iv).toNat)
    case atStart => exact ⟨0, 0, rfl, rfl, Nat.zero_le _, by omega, by omega, Lib.hid rfl, hb1⟩
    case round =>
      obtain ⟨k, n, rfl, rfl, hk, hn0, hn1, hn, hb⟩ := hrel
      by_cases hlt : k < l.length
      · obtain ⟨b, o, fr, tv, to, a', c', rfl, hbB, hget, e0, hat, e1, e2⟩ := (HI.out.below (hb.mono hB)).at hlt
        have hfl := hat.len
        have hcl := all_getD HC1.out cl0 hlt
        rw [hget] at hcl
        obtain ⟨a1, a2, a3⟩ := clB_of hcl
        have HA3 := Lib.hid a3
        obtain ⟨q1, q2, q3, q4⟩ := atB_of a1
        simp only at q1 q2 q3 q4
        have HG := Lib.hid hget
        have HAT := Lib.hid hat
        have HE0 := Lib.hid e0
        have HE2 := Lib.hid e2
        have hbl : b < wr.heap.size := by have := hb.size; omega
        obtain ⟨W0, rfl⟩ : ∃ W0, W0 = wr := ⟨_, rfl⟩
        have hk0 : (0 : Int) ≤ (k : Int) := by omega
        have hkl : (k : Int) < (l.length : Int) := by omega
        clear hget hat hcl a1 a2 a3 e1 e2
        go_wp2_with fail
        clear e0
        go_loopw [6, 8] (fun nv iv wr => ∃ (q : Nat) (n : Int), nv = .int .i64 n ∧ iv = .int .i64 q ∧ q ≤ fr.length ∧ 0 ≤ n ∧ n ≤ 1000 ∧ Hid (n = mostF (mostD 0 (l.take k)) (fr, (tv, to)) (fr.take q)) ∧ Below W0.heap.size W0 wr) (fun _ iv _ => fr.length - (intOf iv).toNat)
        case atStart => exact ⟨0, n, rfl, rfl, Nat.zero_le _, hn0, hn1, Lib.hid hn.out, Below.refl _ _⟩
        case round =>
          obtain ⟨q, s, rfl, rfl, hq, hs0, hs1, hs, hb2⟩ := hrel
          have e0 := (bcell hb2 b (o + k * 3) hbl).trans HE0.out
          have e2 := (bcell hb2 b (o + k * 3 + 2) hbl).trans HE2.out
          by_cases hql : q < fr.length
          · obtain ⟨g, p, xv, xo, rfl, hgB, hgx, x0, x1⟩ := (HAT.out.below (hb2.mono (Nat.le_trans hB hb.size))).at hql
            have hat := all_getD HA3.out at0 hql
            rw [hgx] at hat
            obtain ⟨r1, r2, r3, r4⟩ := atB_of hat
            simp only at r1 r2 r3 r4
            have HN := Lib.hid (mostF_take (s := mostD 0 (l.take k)) (c := (fr, (tv, to))) hql)
            have HX := Lib.hid hgx
            have hw1 : IntKind.i64.wrap (to - xo) = to - xo := IntWalk.i64_in _ (by omega)
            have hq0 : (0 : Int) ≤ (q : Int) := by omega
            have hql' : (q : Int) < (fr.length : Int) := by omega
            clear hgx hat
            by_cases hmx : s < to - xo
            · have HS : Hid (to - xo = mostF (mostD 0 (l.take k)) (fr, (tv, to)) (fr.take (q + 1))) := Lib.hid (by rw [HN.out, ← hs.out, HX.out]; show _ = max s (to - xo); omega)
              go_wp2_with fail
              go_quiet (fail)
              go_wp2_with fail
              go_roundw
              case rel => exact ⟨q + 1, to - xo, rfl, by go_num, by omega, by omega, by omega, HS, Below.draws hb2 _⟩
              case measure => simp [intOf]; omega
            · have HS : Hid (s = mostF (mostD 0 (l.take k)) (fr, (tv, to)) (fr.take (q + 1))) := Lib.hid (by rw [HN.out, ← hs.out, HX.out]; show _ = max s (to - xo); omega)
              go_wp2_with fail
              go_quiet (fail)
              go_wp2_with fail
              go_roundw
              case rel => exact ⟨q + 1, s, rfl, by go_num, by omega, hs0, hs1, HS, Below.draws hb2 _⟩
              case measure => simp [intOf]; omega
          · have HS : Hid (s = mostD 0 (l.take (k + 1))) := Lib.hid (by
              have e := hs.out
              rw [List.take_of_length_le (l := fr) (by omega)] at e
              rw [mostD_take hlt, HG.out]
              exact e)
            have HB2 := Lib.hid (Below.step hb hb2 (Nat.le_refl _))
            go_wp2_with fail
            go_roundw
            case rel => exact ⟨k + 1, s, rfl, by go_num, by omega, hs0, hs1, HS, HB2.out⟩
            case measure => simp [intOf]; omega
      · have HS : Hid (n = V) := Lib.hid (by rw [HV.out]; have := hn.out; rwa [List.take_of_length_le (by omega)] at this)
        go_wp2_with fail
        go_ret2
        exact ⟨by rw [← HS.out]; rfl, hb⟩
end Go.Proofs.Ytnfmcenedohdnaa
