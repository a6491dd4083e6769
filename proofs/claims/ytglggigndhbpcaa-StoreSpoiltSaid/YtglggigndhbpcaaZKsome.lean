/- The contract of the document's list of the clauses of places. Condition: the clauses and the places lie in memory, and the places are places of the list; at most 1000. -/
import Derived.Test.YtglggigndhbpcaaZJk
import Derived.Test.YtglggigndhbpcaaZHro
import Derived.Test.YtglggigndhbpcaaZWpl
namespace Go.Proofs.Ytglggigndhbpcaa
open Go.RowKit

/-- What it answers. -/
def SmPost (B : Nat) (q : List Cl) (n : Nat) (w : World) (e : Ending) (w' : World) : Prop := ∃ x c, e = .returned (.slice x n c) ∧ CRow w' B w.heap.size (.slice x n c) q ∧ Below w.heap.size w w'
set_option maxRecDepth 100000 in
set_option maxHeartbeats 8000000 in
theorem r10some_any (l : List Cl) (ps : List Int) (a ap : Option Addr) (cap cp B : Nat) (w : World) (hi : InP l.length ps) (hlen : ps.length ≤ 1000) (hin : ClsIn w (· < B) l a cap) (hip : IntsIn w (· < B) ps ap cp) (hB : B ≤ w.heap.size) :
    Calls Try.prog 55 #[.slice a l.length cap, .slice ap ps.length cp] w (SmPost B (pickL l ps) ps.length w) := by
  have hll := hin.len
  have hpl := hip.len
  have HI := Lib.hid hin
  have HIP := Lib.hid hip
  have HIN := Lib.hid hi
  have HPT := Lib.hid (fun k (hk : k < ps.length) => pickL_take l hk)
  have HPL := Lib.hid (pickL_len l ps)
  clear hin hip hi
  go_enter Try.func55, Try.ntmps55
  go_wp2_with fail
  go_loopw [5, 6] (fun uv iv wr => ∃ (k : Nat) (u : Value), uv = u ∧ iv = .int .i64 k ∧ k ≤ ps.length ∧ Hid (CRow wr B w.heap.size u (pickL l (ps.take k))) ∧ Hid (Below w.heap.size w wr)) (fun _ iv _ => ps.length - (intOf iv).toNat)
  case atStart => exact ⟨0, _, rfl, rfl, Nat.zero_le _, Lib.hid (CRow.nil _ _ _), Lib.hid (Below.refl _ _)⟩
  case round =>
    obtain ⟨k, u, rfl, rfl, hk, hown, hb⟩ := hrel
    by_cases hlt : k < ps.length
    · obtain ⟨gp, op, rfl, hgB, hcp⟩ := (HIP.out.below (hb.out.mono hB)).some (by omega)
      have hp := HIN.out _ (getD_mem 0 hlt)
      have ep := hcp k hlt
      have HN := Lib.hid (HPT.out k hlt)
      generalize ps.getD k 0 = p at hp ep HN
      obtain ⟨p0, p1⟩ := hp
      obtain ⟨q, rfl⟩ : ∃ q : Nat, p = (q : Int) := ⟨p.toNat, by omega⟩
      rw [Int.toNat_natCast] at HN
      obtain ⟨b, o, fr, tv, to, a', c', rfl, hbB, hget, e0, hat, e1, e2⟩ := (HI.out.below (hb.out.mono hB)).at (k := q) (by omega)
      rw [hget] at HN
      have hlt' : (k : Int) < (ps.length : Int) := by omega
      have hk0 : (0 : Int) ≤ (k : Int) := by omega
      obtain ⟨g2, c2, w3, hrun, hrow3, ht3⟩ := hown.out.push hB 22 (fr, (tv, to)) hat (by rw [pickL_len, List.length_take]; omega) hb.out.size
      have hkl : (pickL l (ps.take k)).length = k := by rw [pickL_len, List.length_take]; omega
      rw [hkl] at hrun hrow3 ht3
      have HRUN := Lib.hid hrun
      have HROW : Hid (CRow w3 B w.heap.size (.slice (some ⟨g2, 0, none⟩) (k + 1) c2) (pickL l (ps.take (k + 1)))) := Lib.hid (by rw [HN.out]; exact hrow3)
      have HB3 := Lib.hid (hb.out.trans (ht3.low hb.out.size (fun b hO => (hown.out.lt b hO).1)))
      clear hget hat hcp hrun hrow3 ht3 hown hkl HN
      go_wp2_with (at_builtin; refine wpList_append_run (by rfl) _ _ _ (by rfl) (by rfl) (by rfl) HRUN.out ?_)
      go_roundw
      case rel => exact ⟨k + 1, _, rfl, by go_num, by omega, HROW, HB3⟩
      case measure => simp [intOf]; omega
    · obtain rfl : k = ps.length := by omega
      have HROW : Hid (CRow wr B w.heap.size _ (pickL l ps)) := Lib.hid (by have := hown.out; rwa [List.take_length] at this)
      obtain ⟨x, c, rfl⟩ := HROW.out.form
      rw [HPL.out] at HROW
      have HE : Hid (SmPost B (pickL l ps) ps.length w (.returned (.slice x ps.length c)) wr) := Lib.hid ⟨x, c, rfl, HROW.out, hb.out⟩
      rw [HPL.out]
      clear hown HROW
      go_wp2_with fail
      go_ret
      exact HE.out
end Go.Proofs.Ytglggigndhbpcaa
