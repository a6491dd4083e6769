/- The contracts of the law's makers of how many variables, and of values: by numbers. Condition: the numbers lie in memory. -/
import Derived.Test.YtglggigndhbpcaaZHvars
namespace Go.Proofs.Ytglggigndhbpcaa
open Go.RowKit

/-- Values from 0 to 11. -/
def LowM (m : List Int) : Prop := ∀ i, 0 ≤ m.getD i 0 ∧ m.getD i 0 < 12
theorem LowM.start (V : Nat) : LowM (List.replicate V 0) := fun i => by
  rw [List.getD_eq_getElem?_getD, List.getElem?_replicate]
  split <;> simp
theorem LowM.set {m : List Int} (h : LowM m) (i : Nat) {z : Int} (h0 : 0 ≤ z) (h1 : z < 12) : LowM (m.set i z) := fun j => by
  have := h j
  rw [List.getD_eq_getElem?_getD] at this ⊢
  rw [List.getElem?_set]
  split
  · split
    · simp; omega
    · simp
  · exact this
theorem LowM.nats {m : List Int} (h : LowM m) : natsB m = true := by
  refine List.all_eq_true.2 fun x hx => ?_
  obtain ⟨i, hi, rfl⟩ := List.getElem_of_mem hx
  have := h i
  rw [List.getD_eq_getElem?_getD, List.getElem?_eq_getElem hi] at this
  simp only [Option.getD_some] at this
  simp only [Bool.and_eq_true, decide_eq_true_eq]
  omega
/-- What Model answers. -/
def MdPost (V : Nat) (w : World) (e : Ending) (w' : World) : Prop :=
  ∃ m : List Int, m.length = V ∧ LowM m ∧ e = .returned (.slice (some ⟨w.heap.size, 0, none⟩) V V) ∧ NumB w' w.heap.size m ∧ Below w.heap.size w w'

set_option maxRecDepth 100000 in
set_option maxHeartbeats 4000000 in
theorem model8_any (n : Int) (h0 : 0 ≤ n) (h1 : n < 256) (len cap B : Nat) (a : Option Addr) (w : World) (hin : ByIn w (· < B) len a cap) (hB : B ≤ w.heap.size) :
    Calls Try.prog 23 #[.int .u8 n, .slice a len cap] w (MdPost (varsN n) w) := by
  have hlen := hin.lenLe
  have CV := Lib.hid (vars8_any n h0 h1 w)
  obtain ⟨hV1, hV2⟩ := varsN_bd n
  generalize varsN n = V at CV hV1 hV2 ⊢
  have hmk := make_nums V (by omega) w
  have hN0 : NumB (w.alloc (.cells ((List.replicate V (0 : Int)).map (Value.int .i64)).toArray 3)) w.heap.size (List.replicate V 0) := heap_new _ _
  have HN0 := Lib.hid hN0
  have HB0 := Lib.hid ((Below.refl w.heap.size w).alloc (Nat.le_refl _) (.cells ((List.replicate V (0 : Int)).map (Value.int .i64)).toArray 3))
  have HI := Lib.hid hin
  clear hN0 hin
  generalize w.alloc (.cells ((List.replicate V (0 : Int)).map (Value.int .i64)).toArray 3) = W0 at hmk HN0 HB0
  go_enter Try.func23, Try.ntmps23
  go_wp2_with (go_at_call 18; refine CV.out.mono ?_; rintro e w' ⟨rfl, rfl⟩)
  clear hmk
  go_loopw [6] (fun iv wr => ∃ (i : Nat) (m : List Int), iv = .int .i64 i ∧ i ≤ V ∧ Hid (m.length = V) ∧ Hid (LowM m) ∧ Hid (NumB wr w.heap.size m) ∧ Below w.heap.size w wr) (fun iv _ => V - (intOf iv).toNat)
  case atStart => exact ⟨0, _, rfl, by omega, Lib.hid (by simp), Lib.hid (LowM.start V), HN0, HB0.out⟩
  case round =>
    obtain ⟨i, m, rfl, hi, hml, hlow, hnb, hb⟩ := hrel
    have hi0 : (0 : Int) ≤ (i : Int) := by omega
    by_cases h2 : i < len
    · by_cases h3 : i < V
      · obtain ⟨g, o, u, rfl, hgB, u0, u1, hu⟩ := (HI.out.below (hb.mono hB)).at h2
        have d1 : decide ((i : Int) < (len : Int)) = true := by simp; omega
        have d2 : decide ((i : Int) < (V : Int)) = true := by simp; omega
        have e0 := Int.emod_nonneg u (b := 12) (by omega)
        have e1 := Int.emod_lt_of_pos u (b := 12) (by omega)
        have cO := hnb.out.at (i := i) (by have := hml.out; omega)
        have fO := free_of hnb.out i
        have HN := Lib.hid (hnb.out.set i (u % 12))
        have HL := Lib.hid (hlow.out.set i e0 e1)
        have HM : Hid ((m.set i (u % 12)).length = V) := Lib.hid (by rw [List.length_set]; exact hml.out)
        generalize m.getD i 0 = z at cO
        go_wp2_with fail
        go_roundw
        case rel => exact ⟨i + 1, _, by go_num, by omega, HM, HL, HN, hb.setCell (p := ⟨w.heap.size, i, none⟩) (Nat.le_refl _) _⟩
        case measure => simp [intOf]; omega
      · have d1 : decide ((i : Int) < (len : Int)) = true := by simp; omega
        have d2 : decide ((i : Int) < (V : Int)) = false := by simp; omega
        go_wp2_with fail
        go_ret
        exact ⟨m, hml.out, hlow.out, rfl, hnb.out, hb⟩
    · have d1 : decide ((i : Int) < (len : Int)) = false := by simp; omega
      go_wp2_with fail
      go_ret
      exact ⟨m, hml.out, hlow.out, rfl, hnb.out, hb⟩
end Go.Proofs.Ytglggigndhbpcaa
