/- The contract of the document's own Names: the variables that clauses name, or the refusal. Condition: the clauses lie in memory. -/
import Derived.Test.YtkadbllabeobeaaHnames
import Derived.Test.YtkadbllabeobeaaHrright
namespace Go.Proofs.Ytkadbllabeobeaa
open Go.RowKit

theorem nmA_take {v : Int} {l : List At} {k : Nat} (hk : k < l.length) : nmA v (l.take (k + 1)) = (nmA v (l.take k) || ((l.getD k at0).1 == v)) := by rw [take_getD l at0 hk, nmA_snoc]
theorem nmB_take {v : Int} {l : List Cl} {k : Nat} (hk : k < l.length) : nmB v (l.take (k + 1)) = (nmB v (l.take k) || nmC v (l.getD k cl0)) := by rw [take_getD l cl0 hk, nmB_snoc]
/-- What has been found, while atom q of clause i is on. -/
def nmI (v : Int) (l : List Cl) (i : Nat) (tv : Int) (fr : List At) (q : Nat) : Bool := (nmB v (l.take i) || (tv == v)) || nmA v (fr.take q)
theorem nmI_zero (v : Int) (l : List Cl) (i : Nat) (tv : Int) (fr : List At) : nmI v l i tv fr 0 = (nmB v (l.take i) || (tv == v)) := by simp [nmI, nmA]
theorem nmI_next {v : Int} {l : List Cl} {i : Nat} {tv : Int} {fr : List At} {q : Nat} (hq : q < fr.length) : nmI v l i tv fr (q + 1) = (nmI v l i tv fr q || ((fr.getD q at0).1 == v)) := by
  unfold nmI
  rw [nmA_take hq, Bool.or_assoc (nmB v (l.take i) || (tv == v))]
theorem nmI_end {v : Int} {l : List Cl} {i : Nat} {tv to : Int} {fr : List At} {q : Nat} (hi : i < l.length) (hc : l.getD i cl0 = (fr, (tv, to))) (hq : fr.length ≤ q) : nmB v (l.take (i + 1)) = nmI v l i tv fr q := by
  rw [nmB_take hi, hc]
  unfold nmI nmC
  rw [List.take_of_length_le hq, Bool.or_assoc]

set_option maxRecDepth 100000 in
set_option maxHeartbeats 8000000 in
theorem r8Names_any (vars : Int) (l : List Cl) (a : Option Addr) (cap B : Nat) (w : World) (hin : ClsIn w (· < B) l a cap) (hB : B ≤ w.heap.size) :
    Calls Try.prog 19 #[.int .i64 vars, .slice a l.length cap] w (RowPost (namesR vars l) (namesE vars l) w) := by
  have hlen := hin.len
  have CR := Lib.hid (r8Right_any vars l a cap B w hin hB)
  have HI := Lib.hid hin
  have HN : Hid (hrB vars l = false → namesR vars l = [] ∧ namesE vars l = 1) := Lib.hid (fun h => by simp [namesR, namesE, h])
  have HY : Hid (hrB vars l = true → namesR vars l = nmTo l vars.toNat ∧ namesE vars l = 0) := Lib.hid (fun h => by simp [namesR, namesE, h])
  have HC : Hid (hrB vars l = true → 1 ≤ vars ∧ vars ≤ 16) := Lib.hid (fun h => ⟨(hrB_of h).1, (hrB_of h).2.1⟩)
  generalize namesR vars l = R at HN HY ⊢
  generalize namesE vars l = E at HN HY ⊢
  clear hin
  cases hr : hrB vars l with
  | false =>
    obtain ⟨rfl, rfl⟩ := HN.out hr
    rw [hr] at CR
    clear hr HN HY HC
    go_enter Try.func19, Try.ntmps19
    go_wp2_with (go_at_call 20; refine CR.out.mono ?_; rintro e w1 ⟨rfl, hb1⟩)
    go_ret2
    exact RowPost.nil rfl hb1
  | true =>
    have HV := Lib.hid (HY.out hr).1
    obtain rfl := (HY.out hr).2
    rw [hr] at CR
    obtain ⟨hv1, hv2⟩ := HC.out hr
    clear hr HN HY HC
    go_enter Try.func19, Try.ntmps19
    go_wp2_with (go_at_call 20; refine CR.out.mono ?_; rintro e w1 ⟨rfl, hb1⟩)
    go_loopw [6, 7] (fun uv vv wr => ∃ (v : Nat) (u : Value), uv = u ∧ vv = .int .i64 v ∧ (v : Int) ≤ vars ∧ Hid (IOwn wr w.heap.size u (nmTo l v)) ∧ Below w.heap.size w wr) (fun _ vv _ => (vars - intOf vv).toNat)
    case atStart => exact ⟨0, _, rfl, rfl, by omega, Lib.hid (IOwn.nil _ _), hb1⟩
    case round =>
      obtain ⟨v, u, rfl, rfl, hv, hown, hb⟩ := hrel
      have HCL := Lib.hid (HI.out.below (hb.mono hB))
      obtain ⟨W0, rfl⟩ : ∃ W0, W0 = wr := ⟨_, rfl⟩
      have hv0 : (0 : Int) ≤ (v : Int) := by omega
      by_cases hlt : (v : Int) < vars
      · have HNS := Lib.hid (nmTo_succ l v)
        have HB := Lib.hid hb
        clear hb
        go_wp2_with fail
        go_loop [8, 9] (fun bv iv => ∃ (i : Nat) (x : Bool), bv = .bool x ∧ iv = .int .i64 i ∧ i ≤ l.length ∧ Hid (x = nmB (v : Int) (l.take i))) (fun _ iv => l.length - (intOf iv).toNat)
        case atStart => exact ⟨0, false, rfl, rfl, Nat.zero_le _, Lib.hid rfl⟩
        case round =>
          obtain ⟨i, x, rfl, rfl, hi, hx⟩ := hrel
          have hi0 : (0 : Int) ≤ (i : Int) := by omega
          by_cases hil : i < l.length
          · have hil' : (i : Int) < (l.length : Int) := by omega
            obtain ⟨b, o, fr, tv, to, a', c', rfl, hbB, hget, e0, hat, e1, e2⟩ := HCL.out.at hil
            have hfl := hat.len
            have HG := Lib.hid hget
            have HAT := Lib.hid hat
            have HZ := Lib.hid (nmI_zero (v : Int) l i tv fr)
            clear hget hat e2
            cases hxv : x with
            | true =>
              have HY0 : Hid (true = nmI (v : Int) l i tv fr 0) := Lib.hid (by rw [HZ.out, ← hx.out, hxv]; rfl)
              clear hxv e1
              go_wp2_with fail
              go_loop [8, 10] (fun bv kv => ∃ (q : Nat) (y : Bool), bv = .bool y ∧ kv = .int .i64 q ∧ q ≤ fr.length ∧ Hid (y = nmI (v : Int) l i tv fr q)) (fun _ kv => fr.length - (intOf kv).toNat)
              case atStart => exact ⟨0, true, rfl, rfl, Nat.zero_le _, HY0⟩
              case round =>
                obtain ⟨q, y, rfl, rfl, hq, hy⟩ := hrel
                have hq0 : (0 : Int) ≤ (q : Int) := by omega
                by_cases hql : q < fr.length
                · have hql' : (q : Int) < (fr.length : Int) := by omega
                  obtain ⟨g, p, xv, xo, rfl, hgB, hgx, x0, x1⟩ := HAT.out.at hql
                  have HNQ : Hid (nmI (v : Int) l i tv fr (q + 1) = (nmI (v : Int) l i tv fr q || (xv == (v : Int)))) := Lib.hid (by rw [nmI_next hql, hgx])
                  clear hgx x1
                  cases hyv : y with
                  | true =>
                    have HN : Hid (true = nmI (v : Int) l i tv fr (q + 1)) := Lib.hid (by rw [HNQ.out, ← hy.out, hyv]; rfl)
                    clear hyv
                    go_wp2_with fail
                    go_round
                    case rel => exact ⟨q + 1, true, rfl, by go_num, by omega, HN⟩
                    case measure => simp [intOf]; omega
                  | false =>
                    cases hxe : (xv == (v : Int)) with
                    | true =>
                      have HN : Hid (true = nmI (v : Int) l i tv fr (q + 1)) := Lib.hid (by rw [HNQ.out, hxe, Bool.or_true])
                      clear hyv
                      go_wp2_with fail
                      go_round
                      case rel => exact ⟨q + 1, true, rfl, by go_num, by omega, HN⟩
                      case measure => simp [intOf]; omega
                    | false =>
                      have HN : Hid (false = nmI (v : Int) l i tv fr (q + 1)) := Lib.hid (by rw [HNQ.out, hxe, ← hy.out, hyv]; rfl)
                      clear hyv
                      go_wp2_with fail
                      go_round
                      case rel => exact ⟨q + 1, false, rfl, by go_num, by omega, HN⟩
                      case measure => simp [intOf]; omega
                · have HE : Hid (y = nmB (v : Int) (l.take (i + 1))) := Lib.hid (by rw [nmI_end hil HG.out (by omega : fr.length ≤ q)]; exact hy.out)
                  go_wp2_with fail
                  go_round
                  case rel => exact ⟨i + 1, y, rfl, by go_num, by omega, HE⟩
                  case measure => simp [intOf]; omega
            | false =>
              cases htv : (tv == (v : Int)) with
              | true =>
                have HY0 : Hid (true = nmI (v : Int) l i tv fr 0) := Lib.hid (by rw [HZ.out, htv, Bool.or_true])
                clear hxv
                go_wp2_with fail
                go_loop [8, 10] (fun bv kv => ∃ (q : Nat) (y : Bool), bv = .bool y ∧ kv = .int .i64 q ∧ q ≤ fr.length ∧ Hid (y = nmI (v : Int) l i tv fr q)) (fun _ kv => fr.length - (intOf kv).toNat)
                case atStart => exact ⟨0, true, rfl, rfl, Nat.zero_le _, HY0⟩
                case round =>
                  obtain ⟨q, y, rfl, rfl, hq, hy⟩ := hrel
                  have hq0 : (0 : Int) ≤ (q : Int) := by omega
                  by_cases hql : q < fr.length
                  · have hql' : (q : Int) < (fr.length : Int) := by omega
                    obtain ⟨g, p, xv, xo, rfl, hgB, hgx, x0, x1⟩ := HAT.out.at hql
                    have HNQ : Hid (nmI (v : Int) l i tv fr (q + 1) = (nmI (v : Int) l i tv fr q || (xv == (v : Int)))) := Lib.hid (by rw [nmI_next hql, hgx])
                    clear hgx x1
                    cases hyv : y with
                    | true =>
                      have HN : Hid (true = nmI (v : Int) l i tv fr (q + 1)) := Lib.hid (by rw [HNQ.out, ← hy.out, hyv]; rfl)
                      clear hyv
                      go_wp2_with fail
                      go_round
                      case rel => exact ⟨q + 1, true, rfl, by go_num, by omega, HN⟩
                      case measure => simp [intOf]; omega
                    | false =>
                      cases hxe : (xv == (v : Int)) with
                      | true =>
                        have HN : Hid (true = nmI (v : Int) l i tv fr (q + 1)) := Lib.hid (by rw [HNQ.out, hxe, Bool.or_true])
                        clear hyv
                        go_wp2_with fail
                        go_round
                        case rel => exact ⟨q + 1, true, rfl, by go_num, by omega, HN⟩
                        case measure => simp [intOf]; omega
                      | false =>
                        have HN : Hid (false = nmI (v : Int) l i tv fr (q + 1)) := Lib.hid (by rw [HNQ.out, hxe, ← hy.out, hyv]; rfl)
                        clear hyv
                        go_wp2_with fail
                        go_round
                        case rel => exact ⟨q + 1, false, rfl, by go_num, by omega, HN⟩
                        case measure => simp [intOf]; omega
                  · have HE : Hid (y = nmB (v : Int) (l.take (i + 1))) := Lib.hid (by rw [nmI_end hil HG.out (by omega : fr.length ≤ q)]; exact hy.out)
                    go_wp2_with fail
                    go_round
                    case rel => exact ⟨i + 1, y, rfl, by go_num, by omega, HE⟩
                    case measure => simp [intOf]; omega
              | false =>
                have HY0 : Hid (false = nmI (v : Int) l i tv fr 0) := Lib.hid (by rw [HZ.out, htv, ← hx.out, hxv]; rfl)
                clear hxv
                go_wp2_with fail
                go_loop [8, 10] (fun bv kv => ∃ (q : Nat) (y : Bool), bv = .bool y ∧ kv = .int .i64 q ∧ q ≤ fr.length ∧ Hid (y = nmI (v : Int) l i tv fr q)) (fun _ kv => fr.length - (intOf kv).toNat)
                case atStart => exact ⟨0, false, rfl, rfl, Nat.zero_le _, HY0⟩
                case round =>
                  obtain ⟨q, y, rfl, rfl, hq, hy⟩ := hrel
                  have hq0 : (0 : Int) ≤ (q : Int) := by omega
                  by_cases hql : q < fr.length
                  · have hql' : (q : Int) < (fr.length : Int) := by omega
                    obtain ⟨g, p, xv, xo, rfl, hgB, hgx, x0, x1⟩ := HAT.out.at hql
                    have HNQ : Hid (nmI (v : Int) l i tv fr (q + 1) = (nmI (v : Int) l i tv fr q || (xv == (v : Int)))) := Lib.hid (by rw [nmI_next hql, hgx])
                    clear hgx x1
                    cases hyv : y with
                    | true =>
                      have HN : Hid (true = nmI (v : Int) l i tv fr (q + 1)) := Lib.hid (by rw [HNQ.out, ← hy.out, hyv]; rfl)
                      clear hyv
                      go_wp2_with fail
                      go_round
                      case rel => exact ⟨q + 1, true, rfl, by go_num, by omega, HN⟩
                      case measure => simp [intOf]; omega
                    | false =>
                      cases hxe : (xv == (v : Int)) with
                      | true =>
                        have HN : Hid (true = nmI (v : Int) l i tv fr (q + 1)) := Lib.hid (by rw [HNQ.out, hxe, Bool.or_true])
                        clear hyv
                        go_wp2_with fail
                        go_round
                        case rel => exact ⟨q + 1, true, rfl, by go_num, by omega, HN⟩
                        case measure => simp [intOf]; omega
                      | false =>
                        have HN : Hid (false = nmI (v : Int) l i tv fr (q + 1)) := Lib.hid (by rw [HNQ.out, hxe, ← hy.out, hyv]; rfl)
                        clear hyv
                        go_wp2_with fail
                        go_round
                        case rel => exact ⟨q + 1, false, rfl, by go_num, by omega, HN⟩
                        case measure => simp [intOf]; omega
                  · have HE : Hid (y = nmB (v : Int) (l.take (i + 1))) := Lib.hid (by rw [nmI_end hil HG.out (by omega : fr.length ≤ q)]; exact hy.out)
                    go_wp2_with fail
                    go_round
                    case rel => exact ⟨i + 1, y, rfl, by go_num, by omega, HE⟩
                    case measure => simp [intOf]; omega
          · have HX : Hid (x = nmB (v : Int) l) := Lib.hid (by have e := hx.out; rwa [List.take_of_length_le (by omega)] at e)
            cases hxv : x with
            | true =>
              have HNX : Hid (nmTo l (v + 1) = nmTo l v ++ [(v : Int)]) := Lib.hid (by rw [HNS.out, if_pos (by rw [← HX.out, hxv])])
              obtain ⟨g2, c2, w3, HRUN, HOW3, HB3⟩ := IOwn.more hown.out HB.out 23 v (by have := nmTo_len l v; omega)
              clear hxv
              go_wp2_with (at_builtin; refine wpList_append_run (by rfl) _ _ _ (by rfl) (by rfl) (by rfl) HRUN.out ?_)
              go_roundw
              case rel => exact ⟨v + 1, _, rfl, by go_num, by omega, Lib.hid (by rw [HNX.out]; exact HOW3.out), HB3.out⟩
              case measure => simp [intOf]; omega
            | false =>
              have HNX : Hid (nmTo l (v + 1) = nmTo l v) := Lib.hid (by rw [HNS.out, if_neg (by rw [← HX.out, hxv]; decide), List.append_nil])
              clear hxv
              go_wp2_with fail
              go_roundw
              case rel => exact ⟨v + 1, _, rfl, by go_num, by omega, Lib.hid (by rw [HNX.out]; exact hown.out), HB.out⟩
              case measure => simp [intOf]; omega
      · obtain ⟨x, c, rfl⟩ := hown.out.form
        have HE : Hid (RowPost R 0 w (.returned (.tuple #[.slice x (nmTo l v).length c, .int .i64 0])) W0) := Lib.hid (by
          have e : v = vars.toNat := by omega
          rw [HV.out, ← e]
          exact ⟨x, c, rfl, hown.out, hb⟩)
        clear hown
        go_wp2_with fail
        go_ret2
        exact HE.out
end Go.Proofs.Ytkadbllabeobeaa
