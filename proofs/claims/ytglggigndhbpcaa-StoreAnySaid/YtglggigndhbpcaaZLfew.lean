/- The contract of the law's count of clauses: where it tells true, there are few, and few atoms. Condition: the clauses lie in memory, and no clause has more atoms than there can be. -/
import Derived.Test.YtglggigndhbpcaaZHs
import Derived.Test.YtglggigndhbpcaaZBase
import Derived.Test.YtglggigndhbpcaaZJk
import Derived.Test.YtglggigndhbpcaaZLrows
namespace Go.Proofs.Ytglggigndhbpcaa
open Go.RowKit

/-- Few clauses, and few atoms. -/
def FewL (l : List Cl) : Prop := l.length ≤ 150 ∧ ∀ c ∈ l, c.1.length ≤ 150
/-- What few answers. -/
def FwPost (l : List Cl) (w : World) (e : Ending) (w' : World) : Prop := ∃ r : Bool, e = .returned (.bool r) ∧ (r = true → FewL l) ∧ Below w.heap.size w w'
set_option maxRecDepth 100000 in
set_option maxHeartbeats 4000000 in
theorem few11_any (l : List Cl) (a : Option Addr) (cap B : Nat) (w : World) (hin : ClsIn w (· < B) l a cap) (hs : ∀ c ∈ l, c.1.length ≤ 140737488355328) :
    Calls Try.prog 11 #[.slice a l.length cap] w (FwPost l w) := by
  have hlen := hin.len
  have HI := Lib.hid hin
  have HS := Lib.hid hs
  clear hin hs
  go_enter Try.func11, Try.ntmps11
  go_wp2_with fail
  go_loop [3, 4] (fun nv iv => ∃ (n : Int) (i : Nat), nv = .int .i64 n ∧ iv = .int .i64 i ∧ i ≤ l.length ∧ (i : Int) ≤ n ∧ n ≤ 140737488355479 ∧ Hid (∀ c ∈ l.take i, (c.1.length : Int) ≤ n)) (fun _ iv => l.length - (intOf iv).toNat)
  case atStart => exact ⟨0, 0, rfl, rfl, Nat.zero_le _, by omega, by omega, Lib.hid (fun c hc => by simp at hc)⟩
  case round =>
    obtain ⟨n, i, rfl, rfl, hi, hin0, hn1, hall⟩ := hrel
    have hi0 : (0 : Int) ≤ (i : Int) := by omega
    by_cases hgo : i < l.length ∧ n ≤ 150
    · obtain ⟨hil, hn⟩ := hgo
      have d1 : decide (n ≤ 150) = true := decide_eq_true hn
      have hil' : (i : Int) < (l.length : Int) := by omega
      obtain ⟨b, o, fr, tv, to, a', c', rfl, hbB, hget, e0, hat, e1, e2⟩ := HI.out.at hil
      have hfl := hat.len
      have hfs : fr.length ≤ 140737488355328 := by have := HS.out _ (getD_mem cl0 hil); rwa [hget] at this
      have HNX : Hid (∀ c ∈ l.take (i + 1), (c.1.length : Int) ≤ n + 1 + (fr.length : Int)) := Lib.hid (fun c hc => by
        rw [take_getD l cl0 hil, hget] at hc
        rcases List.mem_append.1 hc with h | h
        · have := hall.out c h; omega
        · rw [List.mem_singleton.1 h]; show (fr.length : Int) ≤ _; omega)
      clear hget hat e1 hall
      by_cases hto : 20 < to ∧ to ≤ 1000
      · have d4 : decide (20 < to) = true := decide_eq_true hto.1
        have d5 : decide (to ≤ 1000) = true := decide_eq_true hto.2
        clear hto
        go_wp2_with fail
        go_ret
        exact ⟨false, rfl, (fun h => by cases h), Below.refl _ _⟩
      · by_cases h20 : 20 < to
        · have d4 : decide (20 < to) = true := decide_eq_true h20
          have d5 : decide (to ≤ 1000) = false := decide_eq_false (fun h => hto ⟨h20, h⟩)
          clear hto
          go_wp2_with fail
          go_round
          case rel => exact ⟨n + 1 + fr.length, i + 1, by go_num, by go_num, by omega, by omega, by omega, HNX⟩
          case measure => simp [intOf]; omega
        · have d4 : decide (20 < to) = false := decide_eq_false h20
          clear hto
          go_wp2_with fail
          go_round
          case rel => exact ⟨n + 1 + fr.length, i + 1, by go_num, by go_num, by omega, by omega, by omega, HNX⟩
          case measure => simp [intOf]; omega
    · by_cases hil : i < l.length
      · have hil' : (i : Int) < (l.length : Int) := by omega
        have d1 : decide (n ≤ 150) = false := decide_eq_false (fun h => hgo ⟨hil, h⟩)
        clear hgo hall
        go_wp2_with fail
        go_ret
        exact ⟨false, rfl, (fun h => by cases h), Below.refl _ _⟩
      · have hil' : decide ((i : Int) < (l.length : Int)) = false := by simp; omega
        obtain rfl : i = l.length := by omega
        have HE : Hid (n ≤ 150 → FewL l) := Lib.hid (fun h => ⟨by omega, fun c hc => by have := hall.out c (by rw [List.take_length]; exact hc); omega⟩)
        clear hgo hall
        by_cases hn : n ≤ 150
        · have d1 : decide (n ≤ 150) = true := decide_eq_true hn
          go_wp2_with fail
          go_ret
          exact ⟨true, rfl, (fun _ => HE.out hn), Below.refl _ _⟩
        · have d1 : decide (n ≤ 150) = false := decide_eq_false hn
          go_wp2_with fail
          go_ret
          exact ⟨false, rfl, (fun h => by cases h), Below.refl _ _⟩
end Go.Proofs.Ytglggigndhbpcaa
