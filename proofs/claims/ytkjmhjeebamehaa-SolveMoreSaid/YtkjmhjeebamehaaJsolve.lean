/- The contracts of the program's Solve and From: what the rounds tell, or the refusals. Condition: the clauses and the values lie in memory; at most 1000 variables. -/
import Derived.Test.YtkjmhjeebamehaaJleast
import Derived.Test.YtkjmhjeebamehaaHbroken
import Derived.Test.YtkjmhjeebamehaaHmodel
namespace Go.Proofs.Ytkjmhjeebamehaa
open Go.RowKit

/-- What Solve tells. -/
def SvIs (V : Nat) (l : List Cl) (a : List Int) (is : Bool) (n er : Int) : Prop :=
  (hrB V l = true ∧ TellJ l (zerosJ V) (((V : Int) - 1) * mostD 0 l) a is n ∧ er = 0) ∨ (hrB V l = false ∧ a = [] ∧ is = false ∧ n = 0 ∧ er = 1)
def SvPost (V : Nat) (l : List Cl) (w : World) (e : Ending) (w' : World) : Prop :=
  ∃ (a : List Int) (is : Bool) (n er : Int) (x : Option Addr) (c : Nat), e = .returned (.tuple #[.slice x a.length c, .bool is, .int .i64 n, .int .i64 er]) ∧ SvIs V l a is n er ∧ IOwn w' w.heap.size (.slice x a.length c) a ∧ Below w.heap.size w w'
theorem SvIs.uniq {V : Nat} {l : List Cl} {a b : List Int} {is are : Bool} {n m e f : Int} (h : SvIs V l a is n e) (k : SvIs V l b are m f) : a = b ∧ is = are ∧ n = m ∧ e = f := by
  rcases h with ⟨h0, h1, rfl⟩ | ⟨h0, rfl, rfl, rfl, rfl⟩
  · rcases k with ⟨_, k1, rfl⟩ | ⟨k0, _⟩
    · obtain ⟨rfl, rfl, rfl⟩ := h1.uniq k1
      exact ⟨rfl, rfl, rfl, rfl⟩
    · rw [h0] at k0; cases k0
  · rcases k with ⟨k0, _⟩ | ⟨_, rfl, rfl, rfl, rfl⟩
    · rw [h0] at k0; cases k0
    · exact ⟨rfl, rfl, rfl, rfl⟩
/-- What From tells. -/
def FmIs (l : List Cl) (m : List Int) (a : List Int) (is : Bool) (er : Int) : Prop :=
  (brkOk m l = true ∧ maxL m ≤ 1000 ∧ (∃ n, TellJ l m (hiJ m l) a is n) ∧ er = 0) ∨ (brkOk m l = true ∧ ¬ maxL m ≤ 1000 ∧ a = [] ∧ is = false ∧ er = 2) ∨ (brkOk m l = false ∧ a = [] ∧ is = false ∧ er = 1)
def FmPost (l : List Cl) (m : List Int) (w : World) (e : Ending) (w' : World) : Prop :=
  ∃ (a : List Int) (is : Bool) (er : Int) (x : Option Addr) (c : Nat), e = .returned (.tuple #[.slice x a.length c, .bool is, .int .i64 er]) ∧ FmIs l m a is er ∧ IOwn w' w.heap.size (.slice x a.length c) a ∧ Below w.heap.size w w'
theorem FmIs.uniq {l : List Cl} {m a b : List Int} {is are : Bool} {e f : Int} (h : FmIs l m a is e) (k : FmIs l m b are f) : a = b ∧ is = are ∧ e = f := by
  rcases h with ⟨h0, h1, ⟨n, h2⟩, rfl⟩ | ⟨h0, h1, rfl, rfl, rfl⟩ | ⟨h0, rfl, rfl, rfl⟩
  · rcases k with ⟨_, _, ⟨n', k2⟩, rfl⟩ | ⟨_, k1, _⟩ | ⟨k0, _⟩
    · obtain ⟨rfl, rfl, rfl⟩ := h2.uniq k2
      exact ⟨rfl, rfl, rfl⟩
    · exact absurd h1 k1
    · rw [h0] at k0; cases k0
  · rcases k with ⟨_, k1, _⟩ | ⟨_, _, rfl, rfl, rfl⟩ | ⟨k0, _⟩
    · exact absurd k1 h1
    · exact ⟨rfl, rfl, rfl⟩
    · rw [h0] at k0; cases k0
  · rcases k with ⟨k0, _⟩ | ⟨k0, _⟩ | ⟨_, rfl, rfl, rfl⟩
    · rw [h0] at k0; cases k0
    · rw [h0] at k0; cases k0
    · exact ⟨rfl, rfl, rfl⟩
theorem hiJ_zeros {V : Nat} (h : 1 ≤ V) (l : List Cl) : hiJ (zerosJ V) l = ((V : Int) - 1) * mostD 0 l := by
  unfold hiJ
  rw [maxL_zeros h, zerosJ_len]
  omega
theorem looks_lt {j : Nat} {n : Nat} (h : (j : Int) * n ≤ 100000000) : IntKind.i64.wrap ((j : Int) * (n : Int)) = (j : Int) * n := by
  have h0 : 0 ≤ (j : Int) * n := Int.mul_nonneg (by omega) (by omega)
  generalize (j : Int) * n = q at h h0 ⊢
  exact IntWalk.i64_in _ (by omega)

set_option maxRecDepth 100000 in
set_option maxHeartbeats 4000000 in
theorem jSolve_any (V : Nat) (hV : V ≤ 1000) (l : List Cl) (a : Option Addr) (cap B : Nat) (w : World) (hin : ClsIn w (· < B) l a cap) (hB : B ≤ w.heap.size) :
    Calls Try.prog 13 #[.int .i64 V, .slice a l.length cap] w (SvPost V l w) := by
  have hlen := hin.len
  have CR := hRight_any V l a cap B w hin hB
  cases hr : hrB V l with
  | false =>
    rw [hr] at CR
    have HR := Lib.hid hr
    have CR2 := Lib.hid CR
    clear CR hin hr
    go_enter Try.func13, Try.ntmps13
    go_wp2_with (go_at_call 20; refine CR2.out.mono ?_; rintro e w1 ⟨rfl, hb1⟩)
    refine bodyPost_ret (v := .tuple #[.slice none 0 0, .bool false, .int .i64 0, .int .i64 1]) (by simp [results, Try.f13, go_sem]) rfl ?_
    exact ⟨[], false, 0, 1, none, 0, rfl, .inr ⟨HR.out, rfl, rfl, rfl, rfl⟩, IOwn.nil _ _, hb1⟩
  | true =>
    rw [hr] at CR
    have HR := Lib.hid hr
    have CR2 := Lib.hid CR
    obtain ⟨v1, v2, _, _⟩ := hrB_of hr
    have hV1 : 1 ≤ V := by omega
    have CL : Hid (∀ (w1 : World), Below w.heap.size w w1 → ∃ W0, (Instr.makeSlice 28 (.int .i64 V) (.int .i64 V)).run Try.prog w1 = .ok (.slice (some ⟨w1.heap.size, 0, none⟩) V V) W0 ∧ Hid (Below w.heap.size w W0) ∧ Hid (Calls Try.prog 21 #[.slice a l.length cap, .slice (some ⟨w1.heap.size, 0, none⟩) V V] W0 (LtPost l (zerosJ V) (((V : Int) - 1) * mostD 0 l) W0))) := Lib.hid (fun w1 hb1 => by
      have hn : NumB (w1.alloc (.cells ((List.replicate V (0 : Int)).map (Value.int .i64)).toArray 3)) w1.heap.size (zerosJ V) := heap_new _ _
      have := jleast_any (zerosJ V) l a (some ⟨w1.heap.size, 0, none⟩) cap V (w1.heap.size + 1) (w1.alloc (.cells ((List.replicate V (0 : Int)).map (Value.int .i64)).toArray 3)) (by rw [zerosJ_len]; exact hr) (fun i => by rw [zerosJ_at]; omega) (by rw [maxL_zeros hV1]; omega)
        (((hin.below (hb1.mono hB)).keep (fun b hb => heap_old _ _ (by have := hb1.size; omega))).mono (by have := hb1.size; omega)) ((hn.ints (cap := V) (by rw [zerosJ_len]; omega) (by omega)).weak (fun b hb => by simpa using hb)) (by simp)
      rw [zerosJ_len, hiJ_zeros hV1] at this
      exact ⟨_, make_nums V hV w1, Lib.hid (hb1.alloc hb1.size _), Lib.hid this⟩)
    clear CR hin hr
    go_enter Try.func13, Try.ntmps13
    go_wp2_with (first | (go_at_call 20; refine CR2.out.mono ?_; rintro e w1 ⟨rfl, hb1⟩; obtain ⟨W0, hmk, HB0, HC⟩ := CL.out w1 hb1) | (go_at_call 21; refine HC.out.mono ?_; rintro e w3 ⟨a', is, j, x, c, rfl, ht, hbd, hown, hb3⟩; have hwr := looks_lt hbd; have HT := Lib.hid ht; have HO := Lib.hid hown; have HB3 := Lib.hid hb3; clear ht hown hb3))
    refine bodyPost_ret (v := .tuple #[.slice x a'.length c, .bool is, .int .i64 ((j : Int) * l.length), .int .i64 0]) (by simp [results, Try.f13, go_sem]) rfl ?_
    exact ⟨a', is, _, 0, x, c, rfl, .inl ⟨HR.out, HT.out, rfl⟩, HO.out.low HB0.out.size, Below.step HB0.out HB3.out (Nat.le_refl _)⟩

set_option maxRecDepth 100000 in
set_option maxHeartbeats 4000000 in
theorem jFrom_any (m : List Int) (l : List Cl) (a am : Option Addr) (cap cm B : Nat) (w : World) (hin : ClsIn w (· < B) l a cap) (him : IntsIn w (· < B) m am cm) (hB : B ≤ w.heap.size) :
    Calls Try.prog 16 #[.slice a l.length cap, .slice am m.length cm] w (FmPost l m w) := by
  have hlen := hin.len
  have hlm := him.len
  have CB := hBroken_any m l a am cap cm B w hin him hB
  cases hk : brkOk m l with
  | false =>
    have hE : bkE m l = 1 := by simp [bkE, hk]
    have HK := Lib.hid hk
    rw [hE] at CB
    have CB2 := Lib.hid CB
    clear CB hin him hk hE
    go_enter Try.func16, Try.ntmps16
    go_wp2_with (go_at_call 25; refine CB2.out.mono ?_; rintro e w1 ⟨x1, c1, rfl, ho1, hb1⟩)
    refine bodyPost_ret (v := .tuple #[.slice none 0 0, .bool false, .int .i64 1]) (by simp [results, Try.f16, go_sem]) rfl ?_
    exact ⟨[], false, 1, none, 0, rfl, .inr (.inr ⟨HK.out, rfl, rfl, rfl⟩), IOwn.nil _ _, hb1⟩
  | true =>
    have hE : bkE m l = 0 := by simp [bkE, hk]
    have HK := Lib.hid hk
    rw [hE] at CB
    have CB2 := Lib.hid CB
    have hk2 := hk
    simp only [brkOk, Bool.and_eq_true] at hk2
    obtain ⟨hr, hn⟩ := hk2
    obtain ⟨v1, v2, _, _⟩ := hrB_of hr
    have hV1 : 1 ≤ m.length := by omega
    have CM := Lib.hid (fun (W : World) (hW : Below w.heap.size w W) => maxInts_any m am cm B W hV1 (him.below (hW.mono hB)))
    by_cases hmx : maxL m ≤ 1000
    · have CL := Lib.hid (fun (W : World) (hW : Below w.heap.size w W) => jleast_any m l a am cap cm B W hr (fun i => (natsB_getD hn i).1) hmx (hin.below (hW.mono hB)) (him.below (hW.mono hB)) (Nat.le_trans hB hW.size))
      have HX := Lib.hid hmx
      generalize maxL m = mx at CM hmx
      clear CB hin him hk hE hr hn v1 v2
      go_enter Try.func16, Try.ntmps16
      go_wp2_with (first | (go_at_call 25; refine CB2.out.mono ?_; rintro e w1 ⟨x1, c1, rfl, ho1, hb1⟩; clear ho1) | (go_at_call 26; refine (CM.out w1 hb1).mono ?_; rintro e w2 ⟨rfl, rfl⟩) | (go_at_call 21; refine (CL.out w1 hb1).mono ?_; rintro e w3 ⟨a', is, j, x, c, rfl, ht, hbd, hown, hb3⟩; have HT := Lib.hid ht; have HO := Lib.hid hown; have HB3 := Lib.hid hb3; clear ht hown hb3 hbd))
      refine bodyPost_ret (v := .tuple #[.slice x a'.length c, .bool is, .int .i64 0]) (by simp [results, Try.f16, go_sem]) rfl ?_
      exact ⟨a', is, 0, x, c, rfl, .inl ⟨HK.out, HX.out, ⟨_, HT.out⟩, rfl⟩, HO.out.low hb1.size, Below.step hb1 HB3.out (Nat.le_refl _)⟩
    · have HX := Lib.hid hmx
      generalize maxL m = mx at CM hmx
      clear CB hin him hk hE hr hn v1 v2
      go_enter Try.func16, Try.ntmps16
      go_wp2_with (first | (go_at_call 25; refine CB2.out.mono ?_; rintro e w1 ⟨x1, c1, rfl, ho1, hb1⟩; clear ho1) | (go_at_call 26; refine (CM.out w1 hb1).mono ?_; rintro e w2 ⟨rfl, rfl⟩))
      refine bodyPost_ret (v := .tuple #[.slice none 0 0, .bool false, .int .i64 2]) (by simp [results, Try.f16, go_sem]) rfl ?_
      exact ⟨[], false, 2, none, 0, rfl, .inr (.inl ⟨HK.out, Int.not_le.2 HX.out, rfl, rfl, rfl⟩), IOwn.nil _ _, hb1⟩
end Go.Proofs.Ytkjmhjeebamehaa
