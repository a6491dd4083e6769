/- The contract of the program's Solve: what the rounds tell, or the refusal. Condition: the clauses lie in memory; at most 1000 variables. -/
import Derived.Test.YtnfmcenedohdnaaJleast
import Derived.Test.YtnfmcenedohdnaaHvars
namespace Go.Proofs.Ytnfmcenedohdnaa
open Go.RowKit

/-- What Solve tells. -/
def SvIs (V : Nat) (l : List Cl) (a : List Int) (is : Bool) (n er : Int) : Prop :=
  (hrB V l = true ∧ TellJ l (zerosJ V) (((V : Int) - 1) * mostD 0 l) a is n ∧ er = 0) ∨ (hrB V l = false ∧ a = [] ∧ is = false ∧ n = 0 ∧ er = 1)
def SvPost (V : Nat) (l : List Cl) (w : World) (e : Ending) (w' : World) : Prop :=
  ∃ (a : List Int) (is : Bool) (n er : Int) (x : Option Addr) (c : Nat), e = .returned (.tuple #[.slice x a.length c, .bool is, .int .i64 n, .int .i64 er]) ∧ SvIs V l a is n er ∧ IOwn w' w.heap.size (.slice x a.length c) a ∧ Below w.heap.size w w'
theorem SvIs.uniq {V : Nat} {l : List Cl} {a b : List Int} {is are : Bool} {n m e f : Int} (h : SvIs V l a is n e) (k : SvIs V l b are m f) : a = b ∧ is = are ∧ n = m ∧ e = f := by
  rcases h with ⟨h0, h1, rfl⟩ | ⟨h0, rfl, rfl, rfl, rfl⟩
  · rcases k with ⟨_, k1, rfl⟩ | ⟨k0, _⟩
    · obtain ⟨rfl, rfl, rfl⟩ := h1.uniq k1
      exact ⟨rfl, rfl, rfl, rfl⟩
    · rw [h0] at k0; cases k0
  · rcases k with ⟨k0, _⟩ | ⟨_, rfl, rfl, rfl, rfl⟩
    · rw [h0] at k0; cases k0
    · exact ⟨rfl, rfl, rfl, rfl⟩
theorem hiJ_zeros {V : Nat} (h : 1 ≤ V) (l : List Cl) : hiJ (zerosJ V) l = ((V : Int) - 1) * mostD 0 l := by
  unfold hiJ
  rw [maxL_zeros h, zerosJ_len]
  omega
theorem looks_lt {j : Nat} {n : Nat} (h : (j : Int) * n ≤ 100000000) : IntKind.i64.wrap ((j : Int) * (n : Int)) = (j : Int) * n := by
  have h0 : 0 ≤ (j : Int) * n := Int.mul_nonneg (by omega) (by omega)
  generalize (j : Int) * n = q at h h0 ⊢
  exact IntWalk.i64_in _ (by omega)

set_option maxRecDepth 100000 in
set_option maxHeartbeats 4000000 in
theorem jSolve_any (V : Nat) (hV : V ≤ 1000) (l : List Cl) (a : Option Addr) (cap B : Nat) (w : World) (hin : ClsIn w (· < B) l a cap) (hB : B ≤ w.heap.size) :
    Calls Try.prog 29 #[.int .i64 V, .slice a l.length cap] w (SvPost V l w) := by
  have hlen := hin.len
  have CR := hRight_any V l a cap B w hin hB
  cases hr : hrB V l with
  | false =>
    rw [hr] at CR
    have HR := Lib.hid hr
    have CR2 := Lib.hid CR
    clear CR hin hr
    go_enter Try.func29, Try.ntmps29
    go_wp2_with (go_at_call 17; refine CR2.out.mono ?_; rintro e w1 ⟨rfl, hb1⟩)
    refine bodyPost_ret (v := .tuple #[.slice none 0 0, .bool false, .int .i64 0, .int .i64 1]) (by simp [results, Try.f29, go_sem]) rfl ?_
    exact ⟨[], false, 0, 1, none, 0, rfl, .inr ⟨HR.out, rfl, rfl, rfl, rfl⟩, IOwn.nil _ _, hb1⟩
  | true =>
    rw [hr] at CR
    have HR := Lib.hid hr
    have CR2 := Lib.hid CR
    obtain ⟨v1, v2, _, _⟩ := hrB_of hr
    have hV1 : 1 ≤ V := by omega
    have CL : Hid (∀ (w1 : World), Below w.heap.size w w1 → ∃ W0, (Instr.makeSlice 23 (.int .i64 V) (.int .i64 V)).run Try.prog w1 = .ok (.slice (some ⟨w1.heap.size, 0, none⟩) V V) W0 ∧ Hid (Below w.heap.size w W0) ∧ Hid (Calls Try.prog 36 #[.slice a l.length cap, .slice (some ⟨w1.heap.size, 0, none⟩) V V] W0 (LtPost l (zerosJ V) (((V : Int) - 1) * mostD 0 l) W0))) := Lib.hid (fun w1 hb1 => by
      have hn : NumB (w1.alloc (.cells ((List.replicate V (0 : Int)).map (Value.int .i64)).toArray 3)) w1.heap.size (zerosJ V) := heap_new _ _
      have := jleast_any (zerosJ V) l a (some ⟨w1.heap.size, 0, none⟩) cap V (w1.heap.size + 1) (w1.alloc (.cells ((List.replicate V (0 : Int)).map (Value.int .i64)).toArray 3)) (by rw [zerosJ_len]; exact hr) (fun i => by rw [zerosJ_at]; omega) (by rw [maxL_zeros hV1]; omega)
        (((hin.below (hb1.mono hB)).keep (fun b hb => heap_old _ _ (by have := hb1.size; omega))).mono (by have := hb1.size; omega)) ((hn.ints (cap := V) (by rw [zerosJ_len]; omega) (by omega)).weak (fun b hb => by simpa using hb)) (by simp)
      rw [zerosJ_len, hiJ_zeros hV1] at this
      exact ⟨_, make_nums V hV w1, Lib.hid (hb1.alloc hb1.size _), Lib.hid this⟩)
    clear CR hin hr
    go_enter Try.func29, Try.ntmps29
    go_wp2_with (first | (go_at_call 17; refine CR2.out.mono ?_; rintro e w1 ⟨rfl, hb1⟩; obtain ⟨W0, hmk, HB0, HC⟩ := CL.out w1 hb1) | (go_at_call 36; refine HC.out.mono ?_; rintro e w3 ⟨a', is, j, x, c, rfl, ht, hbd, hown, hb3⟩; have hwr := looks_lt hbd; have HT := Lib.hid ht; have HO := Lib.hid hown; have HB3 := Lib.hid hb3; clear ht hown hb3))
    refine bodyPost_ret (v := .tuple #[.slice x a'.length c, .bool is, .int .i64 ((j : Int) * l.length), .int .i64 0]) (by simp [results, Try.f29, go_sem]) rfl ?_
    exact ⟨a', is, _, 0, x, c, rfl, .inl ⟨HR.out, HT.out, rfl⟩, HO.out.low HB0.out.size, Below.step HB0.out HB3.out (Nat.le_refl _)⟩

/-- What Solve tells, whatever is said of how many variables there are. -/
def SvI (vars : Int) (l : List Cl) (a : List Int) (is : Bool) (n er : Int) : Prop :=
  (hrB vars l = true ∧ TellJ l (zerosJ vars.toNat) ((vars - 1) * mostD 0 l) a is n ∧ er = 0) ∨ (hrB vars l = false ∧ a = [] ∧ is = false ∧ n = 0 ∧ er = 1)
def SiPost (vars : Int) (l : List Cl) (w : World) (e : Ending) (w' : World) : Prop :=
  ∃ (a : List Int) (is : Bool) (n er : Int) (x : Option Addr) (c : Nat), e = .returned (.tuple #[.slice x a.length c, .bool is, .int .i64 n, .int .i64 er]) ∧ SvI vars l a is n er ∧ IOwn w' w.heap.size (.slice x a.length c) a ∧ Below w.heap.size w w'
theorem SvPost.int {V : Nat} {l : List Cl} {w w' : World} {e : Ending} (h : SvPost V l w e w') : SiPost (V : Int) l w e w' := h
set_option maxRecDepth 100000 in
set_option maxHeartbeats 4000000 in
theorem jSolve_int (vars : Int) (l : List Cl) (a : Option Addr) (cap B : Nat) (w : World) (hin : ClsIn w (· < B) l a cap) (hB : B ≤ w.heap.size) :
    Calls Try.prog 29 #[.int .i64 vars, .slice a l.length cap] w (SiPost vars l w) := by
  cases hr : hrB vars l with
  | true =>
    obtain ⟨v1, v2, _, _⟩ := hrB_of hr
    obtain ⟨V, rfl⟩ : ∃ V : Nat, vars = (V : Int) := ⟨vars.toNat, by omega⟩
    exact (jSolve_any V (by omega) l a cap B w hin hB).mono fun e w' h => h.int
  | false =>
    have hlen := hin.len
    have CR := hRight_any vars l a cap B w hin hB
    rw [hr] at CR
    have HR := Lib.hid hr
    have CR2 := Lib.hid CR
    clear CR hin hr
    go_enter Try.func29, Try.ntmps29
    go_wp2_with (go_at_call 17; refine CR2.out.mono ?_; rintro e w1 ⟨rfl, hb1⟩)
    refine bodyPost_ret (v := .tuple #[.slice none 0 0, .bool false, .int .i64 0, .int .i64 1]) (by simp [results, Try.f29, go_sem]) rfl ?_
    exact ⟨[], false, 0, 1, none, 0, rfl, .inr ⟨HR.out, rfl, rfl, rfl, rfl⟩, IOwn.nil _ _, hb1⟩
end Go.Proofs.Ytnfmcenedohdnaa
