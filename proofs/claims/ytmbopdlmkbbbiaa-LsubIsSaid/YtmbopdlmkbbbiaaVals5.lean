/- Rows of numbers that the law makes: by numbers, of noughts, and copies by append. No condition but those that stand in each statement. -/
import Derived.Test.YtmbopdlmkbbbiaaLaw5
import Derived.Test.YtmbopdlmkbbbiaaMaker
import Derived.Deep.OwnRows
namespace Go.Proofs.Ytmbopdlmkbbbiaa
open Go.RowKit

/-- The block g begins with these numbers. -/
def CpAt (w : World) (g : Nat) (l : List Int) : Prop := ∃ cur : Array Value, w.heap[g]? = some (.cells cur 3 (0, 0)) ∧ ∀ i, i < l.length → cur[i]? = some (.int .i64 (l.getD i 0))
theorem CpAt.lt {w : World} {g : Nat} {l : List Int} (h : CpAt w g l) : g < w.heap.size := by
  obtain ⟨cur, h, _⟩ := h
  exact lt_of_block h
theorem CpAt.at {w : World} {g i : Nat} {l : List Int} (h : CpAt w g l) (hi : i < l.length) : w.cell? ⟨g, i, none⟩ = some (.int .i64 (l.getD i 0)) ∧ w.frozen? ⟨g, i, none⟩ = false := by
  obtain ⟨cur, h, hc⟩ := h
  exact ⟨by simp [World.cell?, h, hc i hi], free_of h i⟩
theorem CpAt.keep {w w' : World} {g : Nat} {l : List Int} (h : CpAt w g l) (hk : w'.heap[g]? = w.heap[g]?) : CpAt w' g l := by
  obtain ⟨cur, h, hc⟩ := h
  exact ⟨cur, hk.trans h, hc⟩
theorem CpAt.below {w w' : World} {g : Nat} {l : List Int} (h : CpAt w g l) (hb : Below w.heap.size w w') : CpAt w' g l := h.keep (hb.block g h.lt)
theorem CpAt.set {w : World} {g j : Nat} {l : List Int} (h : CpAt w g l) (hj : j < l.length) (z : Int) : CpAt (w.setCell ⟨g, j, none⟩ (.int .i64 z)) g (l.set j z) := by
  obtain ⟨cur, h, hc⟩ := h
  refine ⟨_, heap_setCell_same w g j _ _ _ h, fun i hi => ?_⟩
  rw [List.length_set] at hi
  obtain ⟨l0, _⟩ := Array.getElem?_eq_some_iff.1 (hc i hi)
  by_cases e : j = i
  · subst e
    rw [Array.getElem?_setIfInBounds_self_of_lt l0]
    simp [List.getD_eq_getElem?_getD, hj]
  · rw [Array.getElem?_setIfInBounds_ne e, hc i hi]
    simp [List.getD_eq_getElem?_getD, List.getElem?_set_ne e]
theorem CpAt.ints {w : World} {g cap : Nat} {l : List Int} (h : CpAt w g l) (h1 : l.length ≤ cap) (h2 : cap ≤ maxLen) : IntsIn w (· < w.heap.size) l (some ⟨g, 0, none⟩) cap :=
  ⟨h1, h2, (fun h => by cases h), fun _ => ⟨g, 0, rfl, h.lt, fun i hi => by rw [Nat.zero_add]; exact (h.at hi).1⟩⟩
theorem infoInt5 : (Try.prog.info? 3).map (fun i => (i.zero, i.size, i.bytes)) = some (some (.int .i64 0), 1, 8) := by kernel_rfl
theorem make5 (w : World) : (Instr.makeSlice 35 (.int .i64 5) (.int .i64 5)).run Try.prog w = .ok (.slice (some ⟨w.heap.size, 0, none⟩) 5 5) (w.alloc (.cells #[.int .i64 0, .int .i64 0, .int .i64 0, .int .i64 0, .int .i64 0] 3)) := by
  have h := run_make_row' (P := Try.prog) 35 3 (.int .i64 0) 8 Try.underlying35 infoInt5 rfl .i64 .i64 5 (by omega) (by omega) w
  have e : madeCells #[.int .i64 0] 5 = #[.int .i64 0, .int .i64 0, .int .i64 0, .int .i64 0, .int .i64 0] := by kernel_rfl
  rw [e] at h
  exact h
theorem make10 (w : World) : (Instr.makeSlice 35 (.int .i64 10) (.int .i64 10)).run Try.prog w = .ok (.slice (some ⟨w.heap.size, 0, none⟩) 10 10) (w.alloc (.cells #[.int .i64 0, .int .i64 0, .int .i64 0, .int .i64 0, .int .i64 0, .int .i64 0, .int .i64 0, .int .i64 0, .int .i64 0, .int .i64 0] 3)) := by
  have h := run_make_row' (P := Try.prog) 35 3 (.int .i64 0) 8 Try.underlying35 infoInt5 rfl .i64 .i64 10 (by omega) (by omega) w
  have e : madeCells #[.int .i64 0] 10 = #[.int .i64 0, .int .i64 0, .int .i64 0, .int .i64 0, .int .i64 0, .int .i64 0, .int .i64 0, .int .i64 0, .int .i64 0, .int .i64 0] := by kernel_rfl
  rw [e] at h
  exact h
def nought (m : Nat) : List Int := List.replicate m 0
theorem nought_get (m i : Nat) : (nought m).getD i 0 = 0 := by
  unfold nought
  rw [List.getD_eq_getElem?_getD]
  by_cases h : i < m
  · simp [h]
  · simp [h]
theorem cp5 (w : World) : CpAt (w.alloc (.cells #[.int .i64 0, .int .i64 0, .int .i64 0, .int .i64 0, .int .i64 0] 3)) w.heap.size (nought 5) :=
  ⟨_, heap_new _ _, fun i hi => by
    rw [nought_get]
    have hi' : i < 5 := by simpa [nought] using hi
    match i, hi' with
    | 0, _ => rfl
    | 1, _ => rfl
    | 2, _ => rfl
    | 3, _ => rfl
    | 4, _ => rfl⟩
theorem cp10 (w : World) : CpAt (w.alloc (.cells #[.int .i64 0, .int .i64 0, .int .i64 0, .int .i64 0, .int .i64 0, .int .i64 0, .int .i64 0, .int .i64 0, .int .i64 0, .int .i64 0] 3)) w.heap.size (nought 10) :=
  ⟨_, heap_new _ _, fun i hi => by
    rw [nought_get]
    have hi' : i < 10 := by simpa [nought] using hi
    match i, hi' with
    | 0, _ => rfl
    | 1, _ => rfl
    | 2, _ => rfl
    | 3, _ => rfl
    | 4, _ => rfl
    | 5, _ => rfl
    | 6, _ => rfl
    | 7, _ => rfl
    | 8, _ => rfl
    | 9, _ => rfl⟩
/-- Numbers below 9. -/
def Low (l : List Int) : Prop := ∀ i, 0 ≤ l.getD i 0 ∧ l.getD i 0 ≤ 8
theorem Low.nought (m : Nat) : Low (nought m) := fun i => by rw [nought_get]; omega
theorem Low.set {l : List Int} (h : Low l) {j : Nat} {z : Int} (h0 : 0 ≤ z) (h1 : z ≤ 8) : Low (l.set j z) := fun i => by
  have := h i
  simp only [List.getD_eq_getElem?_getD] at this ⊢
  by_cases e : j = i
  · subst e
    by_cases hj : j < l.length
    · simp [hj]; omega
    · simp [hj]
  · rw [List.getElem?_set_ne e]; exact this
/-- What Values answers. -/
def ValsOk (w : World) (e : Ending) (w' : World) : Prop := ∃ l : List Int, l.length = 5 ∧ Low l ∧ e = .returned (.slice (some ⟨w.heap.size, 0, none⟩) 5 5) ∧ CpAt w' w.heap.size l ∧ Below w.heap.size w w'
set_option maxRecDepth 100000 in
set_option maxHeartbeats 4000000 in
theorem values5_any (len cap B : Nat) (a : Option Addr) (w : World) (hin : U8In w (· < B) len a cap) (hB : B ≤ w.heap.size) :
    Calls Try.prog 20 #[.slice a len cap, .int .i64 5] w (ValsOk w) := by
  have hl : len ≤ 9223372036854775807 := by have h1 := hin.1; have h2 := hin.2.1; unfold maxLen at h2; omega
  have hmk := make5
  have HS : Hid (CpAt (w.alloc (.cells #[.int .i64 0, .int .i64 0, .int .i64 0, .int .i64 0, .int .i64 0] 3)) w.heap.size (nought 5)) := Lib.hid (cp5 w)
  go_enter Try.func20, Try.ntmps20
  go_wp2_with fail
  go_loopw [6] (fun i wr => ∃ (j : Nat) (l : List Int), i = .int .i64 j ∧ j ≤ 5 ∧ Hid (l.length = 5 ∧ Low l) ∧ Hid (CpAt wr w.heap.size l) ∧ Below w.heap.size w wr) (fun i _ => 5 - (intOf i).toNat)
  case atStart => exact ⟨0, nought 5, rfl, by omega, Lib.hid ⟨rfl, Low.nought 5⟩, HS, (Below.refl _ _).alloc (Nat.le_refl _) _⟩
  case round =>
    obtain ⟨j, l, rfl, hj, hsm, hvs, hb⟩ := hrel
    by_cases h1 : j < len
    · by_cases h2 : j < 5
      · obtain ⟨y0, y1⟩ := hvs.out.at (i := j) (by rw [hsm.out.1]; exact h2)
        have hlt := hvs.out.lt
        obtain ⟨b, o, u, rfl, hbB, u0, u1, hu⟩ := (hin.below (hb.mono hB)).at h1
        have e0 := Int.emod_nonneg u (b := 9) (by omega)
        have e1 := Int.emod_lt_of_pos u (b := 9) (by omega)
        have h2' : (j : Int) < 5 := by omega
        have d1 : decide ((j : Int) < (len : Int)) = true := by simp; omega
        have d2 : decide ((j : Int) < 5) = true := by simp; omega
        have HW := Lib.hid (hvs.out.set (j := j) (by rw [hsm.out.1]; exact h2) (u % 9))
        have HL : Hid ((l.set j (u % 9)).length = 5 ∧ Low (l.set j (u % 9))) := Lib.hid ⟨by rw [List.length_set]; exact hsm.out.1, hsm.out.2.set e0 (by omega)⟩
        generalize l.getD j 0 = zz at y0
        go_wp2_with fail
        go_roundw
        case rel => exact ⟨j + 1, _, by go_num, by omega, HL, HW, hb.setCell (Nat.le_refl _) _⟩
        case measure => simp [intOf]; omega
      · have d1 : decide ((j : Int) < (len : Int)) = true := by simp; omega
        have d2 : decide ((j : Int) < 5) = false := by simp; omega
        go_wp2_with fail
        go_ret
        exact ⟨l, hsm.out.1, hsm.out.2, rfl, hvs.out, hb⟩
    · have d1 : decide ((j : Int) < (len : Int)) = false := by simp; omega
      go_wp2_with fail
      go_ret
      exact ⟨l, hsm.out.1, hsm.out.2, rfl, hvs.out, hb⟩
/-- The copy of a row by append onto nil: it runs, into a new block. -/
theorem append_row {W : World} (ty : TypeId) {g m : Nat} {l : List Int} (hl : l.length = m) (hm0 : 0 < m) (hm : m ≤ 100) (hS : CpAt W g l) :
    ∃ g' cap' w', (Builtin.append_ #[35, 35] ty #[.slice none 0 0, .slice (some ⟨g, 0, none⟩) m m]).run Try.prog W = .ok (.slice (some ⟨g', 0, none⟩) m cap') w' ∧ Below W.heap.size W w' ∧ W.heap.size ≤ g' ∧ m ≤ cap' ∧ cap' ≤ maxLen ∧ CpAt w' g' l := by
  obtain ⟨i0, hi, hz0, hz1, hz2⟩ := info_parts infoInt5
  have hc : ∀ j u, (l.map (Value.int .i64))[j]? = some u → W.cell? ((⟨g, 0, none⟩ : Addr).add j) = some u := by
    intro j u hj
    have hjl : j < l.length := by have := (List.getElem?_eq_some_iff.1 hj).1; simpa using this
    rw [List.getElem?_map, List.getElem?_eq_getElem hjl] at hj
    have h2 := (hS.at hjl).1
    have ha : (⟨g, 0, none⟩ : Addr).add j = ⟨g, j, none⟩ := by unfold Addr.add; split <;> simp_all
    rw [ha, h2, ← hj, List.getD_eq_getElem?_getD, List.getElem?_eq_getElem hjl]
    rfl
  have h1 : ∀ u ∈ l.map (Value.int .i64), u.oneCell' = true := by
    intro u hu
    obtain ⟨z, _, rfl⟩ := List.mem_map.1 hu
    rfl
  obtain ⟨v', w', hrun, h2, h3, h4, h5⟩ := run_append_own_at (P := Try.prog) W W.heap.size 35 ty 3 i0 _ 1 8 Try.underlying35 hi hz0 hz1 hz2 rfl (by omega) _ 0 _ (World.ownsRow_nil W W.heap.size 3 1) ⟨g, 0, none⟩ m m (l.map (Value.int .i64)) (by simp [hl]) hc h1 (by unfold maxLen; omega) (by omega) (Nat.le_refl _)
  rw [Nat.zero_add] at h2
  rcases h2.2 with ⟨he, _⟩ | ⟨g', c', cur, hv, hb, hh, hle, hm', hcs, htake⟩
  · have := (h4.1 he).2; omega
  · subst hv
    refine ⟨g', c', w', hrun, ⟨h3.os, h3.tape, h3.output, h3.size, fun k hk => h3.block k hk (by simp [Value.ownBlock])⟩, hb, hle, hm', cur, hh, fun i hi => ?_⟩
    have ht : cur.toList.take (m * 1) = l.map (Value.int .i64) := by simpa using htake
    have e := congrArg (fun q => q[i]?) ht
    have him : i < m := by omega
    simpa [List.getElem?_take, him, List.getD_eq_getElem?_getD, List.getElem?_eq_getElem hi] using e
end Go.Proofs.Ytmbopdlmkbbbiaa
