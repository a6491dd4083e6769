/- The law's own maker of arenas by numbers: a row of the call's own that holds at most 800 nodes; it only makes new memory. -/
import Derived.Test.YtcaefdngdmnpmaaArPut
import Derived.Test.YtcaefdngdmnpmaaTold4
import Derived.Test.YtcaefdngdmnpmaaMade
import Derived.Deep.RegionLaw
namespace Go.Proofs.Ytcaefdngdmnpmaa
open Go.RowKit

/-- The slice (a, cap) holds so many lists of bytes. -/
def RowsIn (w : World) (P : Nat → Prop) (len : Nat) (a : Option Addr) (cap : Nat) : Prop :=
  len ≤ cap ∧ cap ≤ maxLen ∧ (a = none → cap = 0) ∧ (0 < len → ∃ b o, a = some ⟨b, o, none⟩ ∧ P b ∧ ∀ i, i < len → ∃ (a' : Option Addr) (len' cap' : Nat), w.cell? ⟨b, o + i, none⟩ = some (.slice a' len' cap') ∧ U8In w P len' a' cap')
theorem U8In.keep' {w w' : World} {P : Nat → Prop} (hP : ∀ b, P b → w'.heap[b]? = w.heap[b]?) {len : Nat} {a : Option Addr} {cap : Nat} (h : U8In w P len a cap) : U8In w' P len a cap := by
  obtain ⟨h1, h2, h3, h4⟩ := h
  refine ⟨h1, h2, h3, fun h0 => ?_⟩
  obtain ⟨b, o, ha, hb, hc⟩ := h4 h0
  refine ⟨b, o, ha, hb, fun i hi => ?_⟩
  obtain ⟨x, h5, h6, h7⟩ := hc i hi
  exact ⟨x, h5, h6, (World.cell?_of_block (w := w) (hP b hb)).trans h7⟩
theorem RowsIn.below {w w' : World} {B len : Nat} {a : Option Addr} {cap : Nat} (hb : Below B w w') (h : RowsIn w (· < B) len a cap) : RowsIn w' (· < B) len a cap := by
  obtain ⟨h1, h2, h3, h4⟩ := h
  refine ⟨h1, h2, h3, fun h0 => ?_⟩
  obtain ⟨b, o, ha, hbB, hc⟩ := h4 h0
  refine ⟨b, o, ha, hbB, fun i hi => ?_⟩
  obtain ⟨a', l', c', h5, h6⟩ := hc i hi
  exact ⟨a', l', c', (bcell hb _ _ hbB).trans h5, h6.keep' (fun b hb' => hb.block b hb')⟩
theorem RowsIn.len {w : World} {P : Nat → Prop} {len : Nat} {a : Option Addr} {cap : Nat} (h : RowsIn w P len a cap) : len ≤ 9223372036854775807 := by
  have h1 := h.1
  have h2 := h.2.1
  unfold maxLen at h2
  omega
theorem putV_len (ns : List Nd) (k n : Int) (F : Fo) : (putV ns k n F).1.length ≤ ns.length + 100 := by
  unfold putV
  split
  · rename_i h
    have h1 := (right_w2 h.2).2.2
    have h2 := putL_len k n F ns
    split
    · show (putL k n F ns).1.length ≤ _
      omega
    · show ns.length ≤ _
      omega
  · show ns.length ≤ _
    omega
/-- What stands in memory while the levels are put. -/
def MaR (w : World) (j : Nat) (wr : World) : Prop := ∃ (ns : List Nd) (x : Option Addr) (c : Nat), ns.length ≤ 100 * j ∧ wr.heap[w.heap.size]? = some (.cells #[.slice none 0 0] 24 (0, 0)) ∧ wr.heap[w.heap.size + 1]? = some (.cells #[.slice x ns.length c] 24 (0, 0)) ∧ NOwn wr (w.heap.size + 1 + 1) (.slice x ns.length c) ns ∧ Below w.heap.size w wr
/-- What the maker answers. -/
def MaPost (w : World) (e : Ending) (w' : World) : Prop := ∃ (ns : List Nd) (x : Option Addr) (c : Nat), e = .returned (.agg #[.slice x ns.length c]) ∧ ns.length ≤ 800 ∧ NOwn w' w.heap.size (.slice x ns.length c) ns ∧ Below w.heap.size w w'
theorem MaR.next {w : World} {j : Nat} {wr w3 : World} {ns ns' : List Nd} {x' : Option Addr} {c' base : Nat} (h0 : wr.heap[w.heap.size]? = some (.cells #[.slice none 0 0] 24 (0, 0))) {x : Option Addr} {c : Nat} (h1 : wr.heap[w.heap.size + 1]? = some (.cells #[.slice x ns.length c] 24 (0, 0))) (hb : Below w.heap.size w wr)
    (hl : ns'.length ≤ 100 * (j + 1)) (h3 : Below wr.heap.size wr w3) (ho : NOwn w3 base (.slice x' ns'.length c') ns') (hbase : wr.heap.size ≤ base) : MaR w (j + 1) (w3.setCell ⟨w.heap.size + 1, 0, none⟩ (.slice x' ns'.length c')) := by
  have l0 := lt_of_block h0
  have l1 := lt_of_block h1
  have e0 := (h3.block _ l0).trans h0
  have e1 := (h3.block _ l1).trans h1
  have n0 : w.heap.size ≠ w.heap.size + 1 := by omega
  exact ⟨ns', x', c', hl, (Below.heap_setCell _ _ _ _ n0).trans e0, set_one e1, (ho.setLow (by omega) 0 _).low (by omega), (Below.step hb h3 (Nat.le_refl _)).setCell (by simp) _⟩

set_option maxRecDepth 100000 in
set_option maxHeartbeats 4000000 in
theorem mArena_any (len cap B : Nat) (a : Option Addr) (w : World) (hin : RowsIn w (· < B) len a cap) (hB : B ≤ w.heap.size) : Calls Try.prog 11 #[.slice a len cap] w (MaPost w) := by
  have hlen := hin.len
  have HIN := Lib.hid hin
  have HS : Hid (MaR w 0 ((w.alloc (.cells #[.slice none 0 0] 24)).alloc (.cells #[.slice none 0 0] 24))) := Lib.hid ⟨[], none, 0, Nat.zero_le _, (heap_old _ _ (by simp)).trans (heap_new _ _), heap_second _ _ _, NOwn.nil _ _, ((Below.refl _ _).alloc (Nat.le_refl _) _).alloc (by simp) _⟩
  clear hin
  go_enter Try.func11, Try.ntmps11
  go_wp2_with fail
  go_loopw [4] (fun i wr => ∃ j : Nat, i = .int .i64 j ∧ j ≤ len ∧ j ≤ 8 ∧ Hid (MaR w j wr)) (fun i _ => 8 - (intOf i).toNat)
  case atStart => exact ⟨0, rfl, Nat.zero_le _, Nat.zero_le _, HS⟩
  case round =>
    obtain ⟨j, rfl, hj, hj8, hR⟩ := hrel
    by_cases hlt : j < len ∧ j < 8
    · obtain ⟨hl1, hl2⟩ := hlt
      have hl1' : (j : Int) < (len : Int) := by omega
      have hl2' : (j : Int) < 8 := by omega
      have hj0 : (0 : Int) ≤ (j : Int) := by omega
      have d1 : decide (j < len) = true := by simpa using hl1
      obtain ⟨ns, x, c, r1, r2, r3, r4, r5⟩ := hR.out
      obtain ⟨b, o, rfl, hbB, hc⟩ := HIN.out.2.2.2 (by omega)
      obtain ⟨a', l', c', e0, hu⟩ := hc j hl1
      have hwB := r5.mono hB
      have e0' := (bcell hwB _ _ hbB).trans e0
      have c0 := cell_at r3 0
      have cz := free_of r3
      simp at c0
      have hlr := lt_of_block r3
      have HM : Hid (Calls Try.prog 12 #[.slice a' l' c', .int .i64 5, .int .i64 10] wr.drew (MadeOk 5 10 wr.drew)) := Lib.hid (made_any 5 10 (by omega) (by omega) (by omega) (by omega) l' c' B a' wr.drew ((hu.keep' (fun b hb => hwB.block b hb)).keep' (w' := wr.drew) (fun _ _ => rfl)) (Nat.le_trans hB r5.size))
      have HP : Hid (∀ (w2 : World) (k n : Int) (F : Fo) (y : Option Addr) (d : Nat), Below wr.heap.size wr w2 → SlIn w2 (fun b => wr.heap.size ≤ b ∧ b < w2.heap.size) F y d → Calls Try.prog 17 #[.agg #[.slice x ns.length c], .agg #[.int .i64 k, .int .i64 n, .slice y F.len d]] w2 (PtPost (putV ns k n F) w2)) := Lib.hid (fun w2 k n F y d h1 h2 =>
        r4Put_any ns x c k n F y d w2.heap.size w2 ((r4.later w2 h1).mono h1.size) (h2.weak (fun _ hb => hb.2)) (Nat.le_refl _) (by omega))
      have HN : Hid (∀ (w2 w3 : World) (k n : Int) (F : Fo) (x' : Option Addr) (c' : Nat), Below wr.heap.size wr w2 → NOwn w3 w2.heap.size (.slice x' (putV ns k n F).1.length c') (putV ns k n F).1 → Below w2.heap.size w2 w3 → MaR w (j + 1) (w3.setCell ⟨w.heap.size + 1, 0, none⟩ (.slice x' (putV ns k n F).1.length c')) ∧ w3.cell? ⟨w.heap.size + 1, 0, none⟩ = some (.slice x ns.length c) ∧ (∀ o, w3.frozen? ⟨w.heap.size + 1, o, none⟩ = false)) := Lib.hid (fun w2 w3 k n F x' c' h1 h2 h3 => by
        have h4 := Below.step h1 h3 (Nat.le_refl _)
        have e1 := (h4.block _ hlr).trans r3
        exact ⟨MaR.next r2 r3 r5 (by have := putV_len ns k n F; omega) h4 h2 h1.size, cell_at e1 0, free_of e1⟩)
      clear r1 r2 r3 r4 r5 hc e0 hu
      go_wp2_with fail
      go_region_law (first
        | (go_simp; go_at_call 12; refine HM.out.mono ?_; rintro e w2 ⟨k, n, F, y, d, rfl, _, s2, b2⟩
           have B2 : Hid (Below wr.heap.size wr w2) := Lib.hid ((Below.draws (Below.refl _ _) 1).trans b2)
           have S2 := Lib.hid s2
           have c2 := (bcell B2.out _ 0 hlr).trans c0
           clear s2 b2)
        | (go_simp; go_at_call 17; refine (HP.out w2 k n F y d B2.out S2.out).mono ?_; rintro e w3 ⟨x', c', rfl, o3, b3⟩
           obtain ⟨n1, n2, n3⟩ := HN.out w2 w3 k n F x' c' B2.out o3 b3
           have N1 := Lib.hid n1
           clear o3 b3 n1))
      all_goals
        go_wp2_with fail
        go_roundw
        case rel => exact ⟨j + 1, by go_num, by omega, by omega, N1⟩
        case measure => simp [intOf]; omega
    · have hE : Hid (MaR w j wr) := hR
      obtain ⟨ns, x, c, r1, r2, r3, r4, r5⟩ := hR.out
      have c0 := cell_at r3 0
      have n0 := cell_at r2 0
      have nz := free_of r2
      simp at c0 n0
      have HE : Hid (MaPost w (.returned (.agg #[.slice x ns.length c])) (wr.setCell ⟨w.heap.size, 0, none⟩ (.slice x ns.length c))) := Lib.hid ⟨ns, x, c, rfl, by omega, (r4.setLow (by omega) 0 _).low (by omega), r5.setCell (by simp) _⟩
      clear r1 r2 r3 r4 r5 hE hR
      by_cases h1 : j < len
      · have h1' : (j : Int) < (len : Int) := by omega
        have h2' : ¬ (j : Int) < 8 := by omega
        have d2 : decide ((j : Int) < 8) = false := by simpa using h2'
        have h2n : ¬ j < 8 := by omega
        go_wp2_with fail
        refine bodyPost_ret (v := .agg #[.slice x ns.length c]) (by simp [results, Try.results11, go_sem, n0]) rfl ?_
        exact HE.out
      · have h1' : ¬ (j : Int) < (len : Int) := by omega
        have d2 : decide (j < len) = false := by simpa using h1
        go_wp2_with fail
        refine bodyPost_ret (v := .agg #[.slice x ns.length c]) (by simp [results, Try.results11, go_sem, n0]) rfl ?_
        exact HE.out
end Go.Proofs.Ytcaefdngdmnpmaa
