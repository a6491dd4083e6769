/- The contract of the law's maker of atoms by numbers: at most four right ones, in a row of its own. Condition: the numbers lie in memory. -/
import Derived.Test.YtglggigndhbpcaaZHvars
import Derived.Test.YtglggigndhbpcaaZHmake
import Derived.Test.YtglggigndhbpcaaZStep
import Derived.Deep.RegionHeld3
import Derived.Deep.RegionLaw
import Derived.Deep.DeepCutAuto
namespace Go.Proofs.Ytglggigndhbpcaa
open Go.RowKit

/-- A right atom with a small Off. -/
def atS (V : Int) (x : At) : Bool := atB V x && decide (x.2 ≤ 3)
/-- What atoms answers. -/
def AsPost (V : Nat) (w : World) (e : Ending) (w' : World) : Prop :=
  ∃ (b : List At) (x : Option Addr) (c : Nat), e = .returned (.slice x b.length c) ∧ AOwn w' w.heap.size (.slice x b.length c) b ∧ b.all (atS V) = true ∧ b.length ≤ 4 ∧ Below w.heap.size w w'
set_option maxRecDepth 100000 in
set_option maxHeartbeats 8000000 in
theorem atoms11_any (n : Int) (h0 : 0 ≤ n) (h1 : n < 256) (len cap B : Nat) (a : Option Addr) (w : World) (hin : ByIn w (· < B) len a cap) (hB : B ≤ w.heap.size) :
    Calls Try.prog 16 #[.int .u8 n, .slice a len cap] w (AsPost (varsN n) w) := by
  have hlen := hin.lenLe
  have CV := Lib.hid (fun W => vars8_any n h0 h1 W)
  obtain ⟨hV1, hV2⟩ := varsN_bd n
  generalize varsN n = V at CV hV1 hV2 ⊢
  have HI := Lib.hid hin
  clear hin
  go_enter Try.func16, Try.ntmps16
  go_wp2_with fail
  go_loopw [5, 6] (fun uv iv wr => ∃ (i : Nat) (u : Value) (l : List At), uv = u ∧ iv = .int .i64 i ∧ i ≤ len ∧ i ≤ 4 ∧ l.length = i ∧ Hid (AOwn wr w.heap.size u l) ∧ Hid (l.all (atS V) = true) ∧ Below w.heap.size w wr) (fun _ iv _ => len - (intOf iv).toNat)
  case atStart => exact ⟨0, _, [], rfl, rfl, by omega, by omega, rfl, Lib.hid (AOwn.nil _ _), Lib.hid rfl, Below.refl _ _⟩
  case round =>
    obtain ⟨i, u, l, rfl, rfl, hi, hi4, hli, hown, hall, hb⟩ := hrel
    obtain ⟨x, c, rfl⟩ := hown.out.form
    have hi0 : (0 : Int) ≤ (i : Int) := by omega
    by_cases hgo : i < len ∧ i < 4
    · obtain ⟨h2, h3⟩ := hgo
      have d1 : decide ((i : Int) < (len : Int)) = true := by simp; omega
      have d2 : decide ((i : Int) < 4) = true := by simp; omega
      have hil : (i : Int) < (len : Int) := by omega
      obtain ⟨g, o, z, rfl, hgB, z0, z1, hz⟩ := (HI.out.below (hb.mono hB)).at h2
      have hgw : g < wr.heap.size := by have := hb.size; omega
      have q1 := Int.emod_nonneg z (b := (V : Int)) (by omega)
      have q2 := Int.emod_lt_of_pos z (b := (V : Int)) (by omega)
      have q3 := Int.emod_nonneg (z / 8) (b := 4) (by omega)
      have q4 := Int.emod_lt_of_pos (z / 8) (b := 4) (by omega)
      have hVn : (V : Int) ≠ 0 := by omega
      have hV0 : (0 : Int) < (V : Int) := by omega
      have hV3 : ¬ V = 0 := by omega
      have e1 : IntKind.i64.wrap z = z := IntWalk.i64_in _ (by omega)
      have e2 : z.tmod (V : Int) = z % (V : Int) := Int.tmod_eq_emod_of_nonneg z0
      have e3 : z.tdiv 8 = z / 8 := Int.tdiv_eq_ediv_of_nonneg z0
      have e4 : IntKind.i64.wrap (z / 8) = z / 8 := IntWalk.i64_in _ (by omega)
      have e5 : (z / 8).tmod 4 = z / 8 % 4 := Int.tmod_eq_emod_of_nonneg (by omega)
      have hx : atS V (z % (V : Int), z / 8 % 4) = true := by simp [atS, atB]; omega
      obtain ⟨g2, k2, w3, hrun, ho3, ht3⟩ := (hown.out.keep (w' := wr.drew) (fun _ _ => rfl)).push 28 (z % (V : Int), z / 8 % 4) (by omega) hb.size
      have HB3 := Lib.hid ((hb.drew).trans (ht3.low hb.size (fun b hO => (hown.out.lt b hO).1)))
      have HO3 := Lib.hid ho3
      have HALL : Hid ((l ++ [(z % (V : Int), z / 8 % 4)]).all (atS V) = true) := Lib.hid (by rw [List.all_append, hall.out]; simpa using hx)
      have HRUN := Lib.hid hrun
      have hza := fun p => (bcell ((Below.refl wr.heap.size wr).alloc (Nat.le_refl _) p) g (o + i) hgw).trans hz
      have hz3 : w3.cell? ⟨g, o + i, none⟩ = some (.int .u8 z) := (bcell HB3.out g (o + i) (by omega)).trans ((bcell hb g (o + i) (by omega)).symm.trans hz)
      clear hx hrun ho3 ht3 hown hall hgB
      rw [hli] at HRUN HO3 ⊢
      go_upto_region 5 with fail
      go_region_law (first | (refine step_append (by rfl) _ _ _ (by rfl) (by rfl) (by rfl) HRUN.out ?_) | (go_simp; go_at_call 18; refine (CV.out _).mono ?_; rintro e wN ⟨rfl, rfl⟩))
      all_goals clear hz hza hz3 HRUN e1 e2 e3 e4 e5
      all_goals go_wp2_with fail
      all_goals go_roundw
      all_goals first
        | exact ⟨i + 1, _, l ++ [(z % (V : Int), z / 8 % 4)], rfl, by go_num, by omega, by omega, by rw [List.length_append, hli]; rfl, HO3, HALL, HB3.out⟩
        | (simp [intOf]; omega)
    · have HE : Hid (AsPost V w (.returned (.slice x l.length c)) wr) := Lib.hid ⟨l, x, c, rfl, hown.out, hall.out, by omega, hb⟩
      have hcase : i = len ∨ (i < len ∧ i = 4) := by
        by_cases h : i < len
        · exact .inr ⟨h, by omega⟩
        · exact .inl (by omega)
      have HE2 := HE
      rw [hli] at HE2
      clear hown hall hgo HI
      rcases hcase with rfl | ⟨hl1, rfl⟩
      · go_wp2_with fail
        go_ret
        first | exact HE.out | exact HE2.out
      · have hl1' : ((4 : Nat) : Int) < (len : Int) := by omega
        go_wp2_with fail
        go_ret
        first | exact HE.out | exact HE2.out
end Go.Proofs.Ytglggigndhbpcaa
