/- The contract of the program's Sub: the level with others in the place of its parameters and unknowns, or what was wrong. No condition but that the levels lie in memory. -/
import Derived.Test.YtcnhfoppfihhiaaSrep
import Derived.Test.YtcnhfoppfihhiaaRight
namespace Go.Proofs.Ytcnhfoppfihhiaa
open Go.RowKit

set_option maxHeartbeats 1000000 in
theorem sright_any (k n : Int) (f : Fo) (a : Option Addr) (cap B : Nat) (w : World) (hsl : SlIn w (· < B) f a cap) (hB : B ≤ w.heap.size) :
    Calls Try.prog 60 #[.agg #[.int .i64 k, .int .i64 n, .slice a f.len cap]] w fun e w' => e = .returned (.bool (rightB 5 10 k n f)) ∧ Below w.heap.size w w' := by
  have hb : Below w.heap.size w (w.alloc (.cells #[.int .i64 k, .int .i64 n, .slice a f.len cap] 38)) := (Below.refl _ _).alloc (Nat.le_refl _) _
  have HC := Lib.hid (Right_any 5 10 k n f a cap B _ (hsl.below (hb.mono hB)) (Nat.le_trans hB hb.size))
  have HB := Lib.hid hb
  clear hb
  generalize rightB 5 10 k n f = v at HC ⊢
  go_enter Try.func60, Try.ntmps60
  go_wp2_with fail
  refine HC.out.mono ?_
  rintro e w2 ⟨rfl, hb2⟩
  go_wp2_with fail
  go_ret
  exact ⟨rfl, Below.step HB.out hb2 (Nat.le_refl _)⟩

theorem node_fits0 {p m k n : Int} {f : Fo} {d : Int} (h : rNode p m k n f.len d (rAll p m f (d - 1)) = true) : 0 ≤ n ∧ rAll p m f (d - 1) = true := by
  have hd : 1 ≤ d := by
    by_cases hd : d < 1
    · simp [rNode, hd] at h
    · omega
  rw [rNode_fits p m k n f.len d _ hd (fun h => rAll_nil_of p m f _ (by omega))] at h
  unfold fitsB at h
  simp only [Bool.and_eq_true, decide_eq_true_eq] at h
  exact ⟨h.1.2.1, h.2⟩
/-- All levels of a list are right. -/
def allR : Fo → Bool
  | .nil => true
  | .cons k n ks r => rightB 5 10 k n ks && allR r

set_option maxRecDepth 100000 in
set_option maxHeartbeats 2000000 in
theorem sallRight_any (f : Fo) (a : Option Addr) (cap B : Nat) (w : World) (hsl : SlIn w (· < B) f a cap) (hB : B ≤ w.heap.size) :
    Calls Try.prog 61 #[.slice a f.len cap] w fun e w' => e = .returned (.bool (allR f)) ∧ Below w.heap.size w w' := by
  have hlen := hsl.len
  have HSL := Lib.hid hsl
  clear hsl
  go_enter Try.func61, Try.ntmps61
  go_wp2_with fail
  go_loopw [7] (fun jv wr => ∃ (j : Nat) (rest : Fo), jv = .int .i64 j ∧ Hid (j + rest.len = f.len) ∧ Hid (∀ b o, a = some ⟨b, o, none⟩ → FoIn w (· < B) rest b (o + j * 3)) ∧ Hid (allR rest = allR f) ∧ Below w.heap.size w wr) (fun jv _ => f.len - (intOf jv).toNat)
  case atStart => exact ⟨0, f, rfl, Lib.hid (by omega), Lib.hid (by rintro b o rfl; simpa using HSL.out.foIn), Lib.hid rfl, Below.refl _ _⟩
  case round =>
    obtain ⟨j, rest, rfl, hj, hin, hall, hb⟩ := hrel
    cases rest with
    | nil =>
      have hlt : ¬ (j : Int) < (f.len : Int) := by have := hj.out; simp [Fo.len] at this; omega
      have dj : decide ((j : Int) < (f.len : Int)) = false := by simpa using hlt
      go_wp2_with fail
      go_ret
      exact ⟨by rw [← hall.out]; rfl, hb⟩
    | cons k' n' ks r' =>
      have hjn : j < f.len := by have := hj.out; simp [Fo.len] at this; omega
      have hjl : (j : Int) < (f.len : Int) := by omega
      obtain ⟨b, o, rfl, hbB, _⟩ := HSL.out.some (by omega)
      have hfa := hin.out b o rfl
      obtain ⟨e0, e1, ⟨a', cap', e2, hsl'⟩, _⟩ := (hfa.below (hb.mono hB) _ _ _ hbB).first
      have hBr : B ≤ wr.heap.size := Nat.le_trans hB hb.size
      have hbk : Below wr.heap.size wr (wr.alloc (.cells #[.int .i64 k', .int .i64 n', .slice a' ks.len cap'] 38)) := (Below.refl _ _).alloc (Nat.le_refl _) _
      have HC := Lib.hid (sright_any k' n' ks a' cap' B _ (hsl'.below (hbk.mono hBr)) (Nat.le_trans hBr hbk.size))
      have hall' := hall.out
      simp only [allR] at hall'
      have HBK := Lib.hid hbk
      clear hbk hsl'
      generalize rightB 5 10 k' n' ks = v at HC hall'
      cases v with
      | true =>
        have HN := Lib.hid hall'
        clear hall' hall
        go_wp2_with fail
        refine HC.out.mono ?_
        rintro e w2 ⟨rfl, hb2⟩
        have HB2 := Lib.hid (Below.step hb (Below.step HBK.out hb2 (Nat.le_refl _)) (Nat.le_refl _))
        clear hb2
        go_wp2_with fail
        go_roundw
        case rel => exact ⟨j + 1, r', by go_num, Lib.hid (by have := hj.out; simp [Fo.len] at this; omega), Lib.hid (by rintro b' o' h; cases h; have := hfa.2.2.2; rwa [show o + (j + 1) * 3 = o + j * 3 + 3 by omega]), Lib.hid (by have h := HN.out; simpa using h), HB2.out⟩
        case measure => simp [intOf]; omega
      | false =>
        have HN := Lib.hid hall'
        clear hall' hall
        go_wp2_with fail
        refine HC.out.mono ?_
        rintro e w2 ⟨rfl, hb2⟩
        have HB2 := Lib.hid (Below.step hb (Below.step HBK.out hb2 (Nat.le_refl _)) (Nat.le_refl _))
        clear hb2
        go_wp2_with fail
        go_ret
        exact ⟨by have h := HN.out; simp at h; rw [← h]; rfl, HB2.out⟩
theorem noneg_of {p m : Int} : ∀ {f : Fo} {d : Int}, rAll p m f d = true → noneg f
  | .nil, _, _ => trivial
  | .cons k n ks r, d, h => by
    simp only [rAll, Bool.and_eq_true] at h
    have h1 := node_fits0 h.1
    exact ⟨h1.1, noneg_of h1.2, noneg_of h.2⟩
theorem right_parts {k n : Int} {f : Fo} (h : rightB 5 10 k n f = true) : 0 ≤ n ∧ noneg f ∧ f.size ≤ 99 := by
  unfold rightB at h
  simp only [Bool.and_eq_true, decide_eq_true_eq] at h
  have h1 := node_fits0 (p := 5) (m := 10) (k := k) (n := n) (f := f) (d := 12) h.2.2
  exact ⟨h1.1, noneg_of h1.2, by omega⟩
theorem allR_size : ∀ {F : Fo}, allR F = true → F.size ≤ 100 * F.len
  | .nil, _ => Nat.zero_le _
  | .cons k n ks r, h => by
    simp only [allR, Bool.and_eq_true] at h
    have h1 := (right_parts h.1).2.2
    have h2 := allR_size (F := r) h.2
    simp only [Fo.size, Fo.len]
    omega
/-- What Sub answers: the error, and the level. -/
def rightT : Fo → Bool
  | .cons k n ks .nil => rightB 5 10 k n ks
  | _ => false
def okS (P Q : Fo) (k n : Int) (f : Fo) : Bool := decide (P.len ≤ 5) && (decide (Q.len ≤ 10) && (rightB 5 10 k n f && (allR P && allR Q)))
def subE (P Q : Fo) (k n : Int) (f : Fo) : Int := if okS P Q k n f = true then (if rightT (sb1 P Q k n (sbF P Q f)) = true then 0 else 2) else 1
def subT (P Q : Fo) (k n : Int) (f : Fo) : Fo := if subE P Q k n f = 0 then sb1 P Q k n (sbF P Q f) else .cons 0 0 .nil .nil
/-- What is answered, in memory. -/
def SuPost (T : Fo) (E : Int) (w : World) (e : Ending) (w' : World) : Prop :=
  ∃ (k n : Int) (F : Fo) (x : Option Addr) (c : Nat), T = .cons k n F .nil ∧ e = .returned (.tuple #[.agg #[.int .i64 k, .int .i64 n, .slice x F.len c], .int .i64 E]) ∧ SlIn w' (· < w'.heap.size) F x c ∧ Below w.heap.size w w'
theorem SuPost.no {E : Int} {w w' : World} (h : Below w.heap.size w w') : SuPost (.cons 0 0 .nil .nil) E w (.returned (.tuple #[.agg #[.int .i64 0, .int .i64 0, .slice none 0 0], .int .i64 E])) w' := ⟨0, 0, .nil, none, 0, rfl, rfl, SlIn.none _ _, h⟩
theorem okS_1 {P Q : Fo} {k n : Int} {f : Fo} (h : okS P Q k n f = false) : subE P Q k n f = 1 ∧ subT P Q k n f = .cons 0 0 .nil .nil := by
  have e : subE P Q k n f = 1 := by unfold subE; rw [h]; rfl
  exact ⟨e, by unfold subT; rw [e]; rfl⟩
end Go.Proofs.Ytcnhfoppfihhiaa
