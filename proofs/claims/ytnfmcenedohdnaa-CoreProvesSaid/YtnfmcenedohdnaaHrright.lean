/- The contract of the document's own Right of clauses. Condition: the clauses lie in memory. -/
import Derived.Test.YtnfmcenedohdnaaHiter
import Derived.Test.YtnfmcenedohdnaaHright
import Derived.IntWalk
namespace Go.Proofs.Ytnfmcenedohdnaa
open Go.RowKit

theorem clB_no {l : List Cl} {vars : Int} {k : Nat} (hk : k < l.length) (h : clB vars (l.getD k cl0) = false) : l.all (clB vars) = false := by
  cases e : l.all (clB vars) with
  | false => rfl
  | true => have := all_getD e cl0 hk; rw [h] at this; cases this
theorem clB_next {l : List Cl} {vars : Int} {k : Nat} (hk : k < l.length) (h : clB vars (l.getD k cl0) = true) (hp : (l.take k).all (clB vars) = true) : (l.take (k + 1)).all (clB vars) = true := by
  rw [take_getD l cl0 hk, List.all_append, hp]
  simpa using h
theorem atB_next {l : List At} {vars : Int} {k : Nat} (hk : k < l.length) (h : atB vars (l.getD k at0) = true) (hp : (l.take k).all (atB vars) = true) : (l.take (k + 1)).all (atB vars) = true := by
  rw [take_getD l at0 hk, List.all_append, hp]
  simpa using h
theorem atB_no {l : List At} {vars : Int} {k : Nat} (hk : k < l.length) (h : atB vars (l.getD k at0) = false) : l.all (atB vars) = false := by
  cases e : l.all (atB vars) with
  | false => rfl
  | true => have := all_getD e at0 hk; rw [h] at this; cases this
theorem cntB_all {vars : Int} {l : List Cl} (h1 : 1 ≤ vars) (h2 : vars ≤ 16) (h3 : l.length ≤ 60) : hrB vars l = l.all (clB vars) := by
  simp [hrB, cntB, h1, h2, h3]
theorem heap_cell_old (w : World) (o : Obj) {b i : Nat} {v : Value} (hb : b < w.heap.size) (h : w.cell? ⟨b, i, none⟩ = some v) : (w.alloc o).cell? ⟨b, i, none⟩ = some v := (World.cell?_of_block (w := w) (heap_old w o hb)).trans h
theorem clB_is {vars : Int} {fr : List At} {tv to : Int} : clB vars (fr, (tv, to)) = (atB vars (tv, to) && ((decide (1 ≤ fr.length) && decide (fr.length ≤ 6)) && fr.all (atB vars))) := rfl

set_option maxRecDepth 100000 in
set_option maxHeartbeats 4000000 in
theorem r8Right_any (vars : Int) (l : List Cl) (a : Option Addr) (cap B : Nat) (w : World) (hin : ClsIn w (· < B) l a cap) (hB : B ≤ w.heap.size) :
    Calls Try.prog 22 #[.int .i64 vars, .slice a l.length cap] w fun e w' => e = .returned (.bool (hrB vars l)) ∧ Below w.heap.size w w' := by
  have hlen := hin.len
  by_cases h1 : vars < 1
  · have HV := Lib.hid (cntB_1 l h1)
    generalize hrB vars l = V at HV ⊢
    have d1 : decide (vars < 1) = true := decide_eq_true h1
    go_enter Try.func22, Try.ntmps22
    go_wp2_with fail
    go_ret
    exact ⟨by rw [HV.out]; rfl, Below.refl _ _⟩
  · have d1 : decide (vars < 1) = false := decide_eq_false h1
    by_cases h2 : 16 < vars
    · have HV := Lib.hid (cntB_2 l h2)
      generalize hrB vars l = V at HV ⊢
      have d2 : decide (16 < vars) = true := decide_eq_true h2
      go_enter Try.func22, Try.ntmps22
      go_wp2_with fail
      go_ret
      exact ⟨by rw [HV.out]; rfl, Below.refl _ _⟩
    · have d2 : decide (16 < vars) = false := decide_eq_false h2
      by_cases h3 : 60 < l.length
      · have HV := Lib.hid (cntB_3 (vars := vars) l h3)
        generalize hrB vars l = V at HV ⊢
        have d3 : decide ((60 : Int) < (l.length : Int)) = true := by simp; omega
        go_enter Try.func22, Try.ntmps22
        go_wp2_with fail
        go_ret
        exact ⟨by rw [HV.out]; rfl, Below.refl _ _⟩
      · have HV := Lib.hid (cntB_all (vars := vars) (l := l) (by omega) (by omega) (by omega))
        generalize hrB vars l = V at HV ⊢
        have d3 : decide ((60 : Int) < (l.length : Int)) = false := by simp; omega
        have HI := Lib.hid hin
        clear hin
        go_enter Try.func22, Try.ntmps22
        go_wp2_with fail
        go_loopw [5] (fun i wr => ∃ k : Nat, i = .int .i64 k ∧ k ≤ l.length ∧ Hid ((l.take k).all (clB vars) = true) ∧ Below w.heap.size w wr) (fun i _ => l.length - (intOf i).toNat)
        case atStart => exact ⟨0, rfl, Nat.zero_le _, Lib.hid rfl, Below.refl _ _⟩
        case round =>
          obtain ⟨k, rfl, hk, hfr, hb⟩ := hrel
          by_cases hlt : k < l.length
          · obtain ⟨b, o, fr, tv, to, a', c', rfl, hbB, hget, e0, hat, e1, e2⟩ := (HI.out.below (hb.mono hB)).at hlt
            have hfl := hat.len
            have hbl : b < wr.heap.size := by have := hb.size; omega
            have CF := Lib.hid (fun x W => r8atom_any x vars W)
            have HAT := Lib.hid hat
            have HG := Lib.hid hget
            have c0 := heap_cell_old wr (.cells #[.int .i64 tv, .int .i64 to] 26) hbl e0
            have HBA := Lib.hid (hb.alloc hb.size (.cells #[.int .i64 tv, .int .i64 to] 26))
            have hbl2 : b < (wr.alloc (.cells #[.int .i64 tv, .int .i64 to] 26)).heap.size := by simp; omega
            have CF1 : Hid (∀ W, Calls Try.prog 31 #[.agg #[.int .i64 tv, .int .i64 to], .int .i64 vars] W fun e w' => e = .returned (.bool (atB vars (tv, to))) ∧ w' = W.alloc (.cells #[.int .i64 tv, .int .i64 to] 26)) := Lib.hid (fun W => CF.out (tv, to) W)
            have HT : Hid (∀ V, atB vars (tv, to) = V → clB vars (l.getD k cl0) = (V && ((decide (1 ≤ fr.length) && decide (fr.length ≤ 6)) && fr.all (atB vars)))) := Lib.hid (fun V hV => by rw [HG.out, clB_is, hV])
            clear hget hat
            generalize atB vars (tv, to) = V1 at CF1 HT
            cases V1 with
            | false =>
              have HF := Lib.hid (clB_no hlt (by rw [HT.out false rfl]; rfl))
              go_wp2_with (go_at_call 31; refine (CF1.out _).mono ?_; rintro e w' ⟨rfl, rfl⟩)
              go_ret
              exact ⟨by rw [HV.out, HF.out]; rfl, HBA.out⟩
            | true =>
              by_cases g1 : (fr.length : Int) < 1
              · have HF := Lib.hid (clB_no hlt (by rw [HT.out true rfl, decide_eq_false (p := 1 ≤ fr.length) (by omega)]; rfl))
                go_wp2_with (go_at_call 31; refine (CF1.out _).mono ?_; rintro e w' ⟨rfl, rfl⟩)
                go_ret
                exact ⟨by rw [HV.out, HF.out]; rfl, HBA.out⟩
              · have g1' : decide ((fr.length : Int) < 1) = false := decide_eq_false g1
                by_cases g2 : (6 : Int) < (fr.length : Int)
                · have HF := Lib.hid (clB_no hlt (by rw [HT.out true rfl, decide_eq_false (p := fr.length ≤ 6) (by omega), Bool.and_false]; rfl))
                  have g2' : decide ((6 : Int) < (fr.length : Int)) = true := decide_eq_true g2
                  go_wp2_with (go_at_call 31; refine (CF1.out _).mono ?_; rintro e w' ⟨rfl, rfl⟩)
                  go_ret
                  exact ⟨by rw [HV.out, HF.out]; rfl, HBA.out⟩
                · have g2' : decide ((6 : Int) < (fr.length : Int)) = false := decide_eq_false g2
                  have HC1 : Hid (clB vars (l.getD k cl0) = fr.all (atB vars)) := Lib.hid (by rw [HT.out true rfl, decide_eq_true (p := 1 ≤ fr.length) (by omega), decide_eq_true (p := fr.length ≤ 6) (by omega)]; rfl)
                  have HE0 := Lib.hid e0
                  obtain ⟨W0, rfl⟩ : ∃ W0, W0 = wr := ⟨_, rfl⟩
                  go_wp2_with (go_at_call 31; refine (CF1.out _).mono ?_; rintro e w' ⟨rfl, rfl⟩)
                  clear c0 e0 e1 e2
                  go_loopw [6] (fun i wr => ∃ q : Nat, i = .int .i64 q ∧ q ≤ fr.length ∧ Hid ((fr.take q).all (atB vars) = true) ∧ Below W0.heap.size W0 wr) (fun i _ => fr.length - (intOf i).toNat)
                  case atStart => exact ⟨0, rfl, Nat.zero_le _, Lib.hid rfl, (Below.refl _ _).alloc (Nat.le_refl _) _⟩
                  case round =>
                    obtain ⟨q, rfl, hq, hfq, hb2⟩ := hrel
                    have e0 := (bcell hb2 b (o + k * 3) hbl).trans HE0.out
                    by_cases hql : q < fr.length
                    · obtain ⟨g, p, xv, xo, rfl, hgB, hgx, x0, x1⟩ := (HAT.out.below (hb2.mono (Nat.le_trans hB hb.size))).at hql
                      have HX := Lib.hid hgx
                      have CF2 : Hid (∀ W, Calls Try.prog 31 #[.agg #[.int .i64 xv, .int .i64 xo], .int .i64 vars] W fun e w' => e = .returned (.bool (atB vars (xv, xo))) ∧ w' = W.alloc (.cells #[.int .i64 xv, .int .i64 xo] 26)) := Lib.hid (fun W => CF.out (xv, xo) W)
                      have HT2 : Hid (∀ V, atB vars (xv, xo) = V → atB vars (fr.getD q at0) = V) := Lib.hid (fun V hV => by rw [HX.out, hV])
                      have HB2 := Lib.hid (hb2.alloc hb2.size (.cells #[.int .i64 xv, .int .i64 xo] 26))
                      clear hgx
                      generalize atB vars (xv, xo) = V2 at CF2 HT2
                      cases V2 with
                      | false =>
                        have HF := Lib.hid (clB_no (vars := vars) hlt (by rw [HC1.out, atB_no hql (HT2.out false rfl)]))
                        go_wp2_with (go_at_call 31; refine (CF2.out _).mono ?_; rintro e w' ⟨rfl, rfl⟩)
                        go_ret
                        exact ⟨by rw [HV.out, HF.out]; rfl, Below.step hb HB2.out (Nat.le_refl _)⟩
                      | true =>
                        have HN := Lib.hid (atB_next hql (HT2.out true rfl) hfq.out)
                        go_wp2_with (go_at_call 31; refine (CF2.out _).mono ?_; rintro e w' ⟨rfl, rfl⟩)
                        go_roundw
                        case rel => exact ⟨q + 1, by go_num, by omega, HN, HB2.out⟩
                        case measure => simp [intOf]; omega
                    · have HN := Lib.hid (clB_next hlt (by rw [HC1.out]; have := hfq.out; rwa [List.take_of_length_le (by omega)] at this) hfr.out)
                      have HB2 := Lib.hid (Below.step hb hb2 (Nat.le_refl _))
                      go_wp2_with fail
                      go_roundw
                      case rel => exact ⟨k + 1, by go_num, by omega, HN, HB2.out⟩
                      case measure => simp [intOf]; omega
          · have HF : Hid (l.all (clB vars) = true) := Lib.hid (by have := hfr.out; rwa [List.take_of_length_le (by omega)] at this)
            go_wp2_with fail
            go_ret
            exact ⟨by rw [HV.out, HF.out]; rfl, hb⟩
end Go.Proofs.Ytnfmcenedohdnaa
