/- The contract of the document's own look at levels that are to be put in. No condition but that they lie in memory. -/
import Derived.Test.YtcnhfoppfihhiaaR5sub2
namespace Go.Proofs.Ytcnhfoppfihhiaa
open Go.RowKit

set_option maxRecDepth 100000 in
set_option maxHeartbeats 2000000 in
theorem r15right_any (f : Fo) (a : Option Addr) (cap B : Nat) (w : World) (hsl : SlIn w (· < B) f a cap) (hB : B ≤ w.heap.size) :
    Calls Try.prog 34 #[.slice a f.len cap] w fun e w' => e = .returned (.bool (allR f)) ∧ Below w.heap.size w w' := by
  have hlen := hsl.len
  have HSL := Lib.hid hsl
  clear hsl
  go_enter Try.func34, Try.ntmps34
  go_wp2_with fail
  go_loopw [3] (fun jv wr => ∃ (j : Nat) (rest : Fo), jv = .int .i64 j ∧ Hid (j + rest.len = f.len) ∧ Hid (∀ b o, a = some ⟨b, o, none⟩ → FoIn w (· < B) rest b (o + j * 3)) ∧ Hid (allR rest = allR f) ∧ Below w.heap.size w wr) (fun jv _ => f.len - (intOf jv).toNat)
  case atStart => exact ⟨0, f, rfl, Lib.hid (by omega), Lib.hid (by rintro b o rfl; simpa using HSL.out.foIn), Lib.hid rfl, Below.refl _ _⟩
  case round =>
    obtain ⟨j, rest, rfl, hj, hin, hall, hb⟩ := hrel
    cases rest with
    | nil =>
      have hlt : ¬ (j : Int) < (f.len : Int) := by have := hj.out; simp [Fo.len] at this; omega
      have dj : decide ((j : Int) < (f.len : Int)) = false := by simpa using hlt
      go_wp2_with fail
      go_ret
      exact ⟨by rw [← hall.out]; rfl, hb⟩
    | cons k' n' ks r' =>
      have hjn : j < f.len := by have := hj.out; simp [Fo.len] at this; omega
      have hjl : (j : Int) < (f.len : Int) := by omega
      obtain ⟨b, o, rfl, hbB, _⟩ := HSL.out.some (by omega)
      have hfa := hin.out b o rfl
      obtain ⟨e0, e1, ⟨a', cap', e2, hsl'⟩, _⟩ := (hfa.below (hb.mono hB) _ _ _ hbB).first
      have hBr : B ≤ wr.heap.size := Nat.le_trans hB hb.size
      have HC := Lib.hid (rRight_any 5 10 k' n' ks a' cap' B wr hsl' hBr)
      have hall' := hall.out
      simp only [allR] at hall'
      clear hsl'
      generalize rightB 5 10 k' n' ks = v at HC hall'
      cases v with
      | true =>
        have HN := Lib.hid hall'
        clear hall' hall
        go_wp2_with fail
        refine HC.out.mono ?_
        rintro e w2 ⟨rfl, hb2⟩
        have HB2 := Lib.hid (Below.step hb hb2 (Nat.le_refl _))
        clear hb2
        go_wp2_with fail
        go_roundw
        case rel => exact ⟨j + 1, r', by go_num, Lib.hid (by have := hj.out; simp [Fo.len] at this; omega), Lib.hid (by rintro b' o' h; cases h; have := hfa.2.2.2; rwa [show o + (j + 1) * 3 = o + j * 3 + 3 by omega]), Lib.hid (by have h := HN.out; simpa using h), HB2.out⟩
        case measure => simp [intOf]; omega
      | false =>
        have HN := Lib.hid hall'
        clear hall' hall
        go_wp2_with fail
        refine HC.out.mono ?_
        rintro e w2 ⟨rfl, hb2⟩
        have HB2 := Lib.hid (Below.step hb hb2 (Nat.le_refl _))
        clear hb2
        go_wp2_with fail
        go_ret
        exact ⟨by have h := HN.out; simp at h; rw [← h]; rfl, HB2.out⟩
end Go.Proofs.Ytcnhfoppfihhiaa
