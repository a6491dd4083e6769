/- The contract of the program's test whether the clauses of a set have a model. Conditions stand in the statement. -/
import Derived.Test.YtglggigndhbpcaaZKbit
import Derived.Test.YtglggigndhbpcaaZHro
import Derived.Test.YtglggigndhbpcaaZHs
namespace Go.Proofs.Ytglggigndhbpcaa
open Go.RowKit

theorem jsolve_at {vars : Int} {N : Nat} {l : List Cl} {x : Option Addr} {c : Nat} {W1 W : World} (hc : ClsIn W1 (· < W1.heap.size) l x c) (b1 : Below W1.heap.size W1 W) (hl : l.length = N) : Calls Try.prog 33 #[.int .i64 vars, .slice x N c] W (SiPost vars l W) := by
  subst hl
  exact jSolve_int vars l x c W.heap.size W ((hc.below b1).mono b1.size) (Nat.le_refl _)
set_option maxRecDepth 100000 in
set_option maxHeartbeats 8000000 in
theorem solvable_any (vars : Int) (l : List Cl) (s : Nat) (a : Option Addr) (cap B : Nat) (w : World) (hs : s < 18446744073709551616) (hi : InP l.length (idxK 64 s)) (hin : ClsIn w (· < B) l a cap) (hB : B ≤ w.heap.size) :
    Calls Try.prog 57 #[.int .i64 vars, .slice a l.length cap, .int .u64 s] w fun e w' => e = .returned (.bool (posB vars (pickL l (idxK 64 s)))) ∧ Below w.heap.size w w' := by
  have hll := hin.len
  have HX := Lib.hid (idx_any s hs w)
  have h64 := idxK_len 64 s
  generalize idxK 64 s = ps at hi HX h64 ⊢
  obtain ⟨V, hV⟩ : ∃ V, V = posB vars (pickL l ps) := ⟨_, rfl⟩
  have HV := Lib.hid hV
  rw [← hV]
  clear hV
  have HI := Lib.hid (hin.mono hB)
  have HIN := Lib.hid hi
  have HPT := Lib.hid (fun k (hk : k < ps.length) => pickL_take l hk)
  have HPL := Lib.hid (pickL_len l ps)
  clear hin hi hB
  go_enter Try.func57, Try.ntmps57
  go_wp2_with (go_at_call 59; refine HX.out.mono ?_; rintro e w1 ⟨xp, cp, rfl, hown1, hb1⟩)
  have HIP := Lib.hid hown1.ints
  have HB1 := Lib.hid hb1
  have HI1 : Hid (ClsIn w1 (· < w1.heap.size) l a cap) := Lib.hid ((HI.out.below hb1).mono hb1.size)
  clear hown1 hb1 HI HX
  go_loopw [7, 17] (fun uv iv wr => ∃ (k : Nat) (u : Value), uv = u ∧ iv = .int .i64 k ∧ k ≤ ps.length ∧ Hid (CRow wr w1.heap.size w1.heap.size u (pickL l (ps.take k))) ∧ Hid (Below w1.heap.size w1 wr)) (fun _ iv _ => ps.length - (intOf iv).toNat)
  case atStart => exact ⟨0, _, rfl, rfl, Nat.zero_le _, Lib.hid (CRow.nil _ _ _), Lib.hid (Below.refl _ _)⟩
  case round =>
    obtain ⟨k, u, rfl, rfl, hk, hown, hb⟩ := hrel
    by_cases hlt : k < ps.length
    · obtain ⟨gp, op, rfl, hgB, hcp⟩ := (HIP.out.below hb.out).some (by omega)
      have hp := HIN.out _ (getD_mem 0 hlt)
      have ep := hcp k hlt
      have HN := Lib.hid (HPT.out k hlt)
      generalize ps.getD k 0 = p at hp ep HN
      obtain ⟨p0, p1⟩ := hp
      obtain ⟨q, rfl⟩ : ∃ q : Nat, p = (q : Int) := ⟨p.toNat, by omega⟩
      rw [Int.toNat_natCast] at HN
      obtain ⟨b, o, fr, tv, to, a', c', rfl, hbB, hget, e0, hat, e1, e2⟩ := (HI1.out.below hb.out).at (k := q) (by omega)
      rw [hget] at HN
      have hlt' : (k : Int) < (ps.length : Int) := by omega
      have hk0 : (0 : Int) ≤ (k : Int) := by omega
      obtain ⟨g2, c2, w3, hrun, hrow3, ht3⟩ := hown.out.push (Nat.le_refl _) 22 (fr, (tv, to)) hat (by rw [pickL_len, List.length_take]; omega) hb.out.size
      have hkl : (pickL l (ps.take k)).length = k := by rw [pickL_len, List.length_take]; omega
      rw [hkl] at hrun hrow3 ht3
      have HRUN := Lib.hid hrun
      have HROW : Hid (CRow w3 w1.heap.size w1.heap.size (.slice (some ⟨g2, 0, none⟩) (k + 1) c2) (pickL l (ps.take (k + 1)))) := Lib.hid (by rw [HN.out]; exact hrow3)
      have HB3 := Lib.hid (hb.out.trans (ht3.low hb.out.size (fun b hO => (hown.out.lt b hO).1)))
      clear hget hat hcp hrun hrow3 ht3 hown hkl HN
      go_wp2_with (at_builtin; refine wpList_append_run (by rfl) _ _ _ (by rfl) (by rfl) (by rfl) HRUN.out ?_)
      go_roundw
      case rel => exact ⟨k + 1, _, rfl, by go_num, by omega, HROW, HB3⟩
      case measure => simp [intOf]; omega
    · obtain rfl : k = ps.length := by omega
      have hlt' : ¬ (ps.length : Int) < (ps.length : Int) := by omega
      have HROW : Hid (CRow wr w1.heap.size w1.heap.size _ (pickL l ps)) := Lib.hid (by have := hown.out; rwa [List.take_length] at this)
      obtain ⟨x, c, rfl⟩ := HROW.out.form
      have HCL := Lib.hid (HROW.out.cls hb.out.size)
      have HBE := Lib.hid (Below.step HB1.out hb.out (Nat.le_refl _))
      rw [HPL.out]
      clear hown HROW
      go_wp2_with fail
      refine (jsolve_at HCL.out (Below.refl _ _) HPL.out).mono ?_
      rintro e w7 ⟨z7, is7, n7, er7, x7, c7, rfl, hs7, _, b7⟩
      have h7 := hs7.told.1
      have B7 := Lib.hid (Below.step HBE.out b7 (Nat.le_refl _))
      rw [← HV.out] at h7
      subst h7
      clear hs7 b7
      go_wp2_with fail
      go_ret
      exact ⟨rfl, B7.out⟩
end Go.Proofs.Ytglggigndhbpcaa
