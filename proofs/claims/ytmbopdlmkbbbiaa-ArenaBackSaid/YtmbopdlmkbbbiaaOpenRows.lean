/- A list of lists of bytes that came in as an argument: what lies in memory. -/
import Derived.Test.YtmbopdlmkbbbiaaOpen3
import Derived.Test.YtmbopdlmkbbbiaaRowsIn
namespace Go.Proofs.Ytmbopdlmkbbbiaa
open Go.ChangeShapes Go.WideShapes Go.ChangeAt Go.RowKit

theorem cellsBytes : Try.prog.cellsOf 23 = 1 := by kernel_rfl
theorem addr_none (b o m : Nat) : (⟨b, o, none⟩ : Addr).add m = ⟨b, o + m, none⟩ := by unfold Addr.add; split <;> simp_all
theorem no_spot {w : World} {a : Addr} {v : Value} (h : w.cell? a = some v) : a.spot = none := by
  cases hs : a.spot with
  | none => rfl
  | some y =>
    exfalso
    simp [World.cell?, hs] at h
    split at h <;> simp at h
section
variable {H : Type} {enc : TypeId × Value → H} {W : World} {base : Nat} {spare : Nat → Bool} {held : Bool}
set_option maxRecDepth 100000 in
/-- A list of bytes, read. -/
theorem open_bytes {fuel : Nat} {c : Value} {x : DataW H × List MemPlace} (h : DataW.trod enc Try.prog W base spare held fuel 23 [c] = some x) : ∃ (len : Nat) (a : Option Addr) (cap : Nat), c = .slice a len cap ∧ U8In W (· < W.heap.size) len a cap := by
  rcases open_ints Try.underlying23 Try.underlying5 cellsU8 h with ⟨hcs, _⟩ | ⟨a', len', cap', zs, hcs, _, hl, hm, hz, _, hcell, hwf⟩
  · injection hcs with hcs _
    subst hcs
    exact ⟨0, none, 0, rfl, Nat.le_refl _, Nat.zero_le _, fun _ => rfl, fun h => by omega⟩
  · injection hcs with hcs _
    subst hcs
    refine ⟨len', some a', cap', rfl, hl, hm, (fun h => by cases h), fun h0 => ?_⟩
    have hzl : len' ≤ zs.length := by rw [hz]; split <;> omega
    have q0 := hcell 0 (by omega)
    have hsp := no_spot q0
    obtain ⟨b, o, sp⟩ := a'
    have hsp' : sp = none := by simpa [Addr.add] using hsp
    subst hsp'
    simp only [addr_none] at hcell q0
    refine ⟨b, o, rfl, World.block_lt_of_cell? _ _ q0, fun i hi => ?_⟩
    have hm' : zs.getD i 0 ∈ zs := by
      have e : zs.getD i 0 = zs[i] := by simp [List.getD_eq_getElem?_getD, show i < zs.length by omega]
      rw [e]; exact List.getElem_mem _
    have := u8_range (hwf _ hm')
    exact ⟨_, this.1, this.2, hcell i (by omega)⟩
set_option maxRecDepth 100000 in
theorem arg_rows {r : Reach} {b0 : Nat} {v : Value} {d : DataW H} {p : List MemPlace} (hv : Value.okWide Try.prog W r b0 22 v) (h : DataW.Trod enc Try.prog W base spare held 22 v d p) :
    ∃ (len : Nat) (a : Option Addr) (cap : Nat), v = .slice a len cap ∧ RowsIn W (· < W.heap.size) len a cap := by
  obtain ⟨a, len, cap, rfl⟩ := okWide_slice Try.underlying22 hv
  obtain ⟨fuel, hf⟩ := h
  rcases DataW.trod_slice Try.underlying22 hf with ⟨e2, _⟩ | ⟨a', len', cap', elems, rest, n1, hn1, e2, _, hb, hle, hm, hlen, hel, _⟩
  · have e3 : a = none ∧ len = 0 ∧ cap = 0 := by simpa [Value.cells] using e2
    obtain ⟨rfl, rfl, rfl⟩ := e3
    exact ⟨0, none, 0, rfl, Nat.le_refl _, Nat.zero_le _, fun _ => rfl, fun h => by omega⟩
  · have e3 : a = some a' ∧ len = len' ∧ cap = cap' := by simpa [Value.cells] using e2
    obtain ⟨rfl, rfl, rfl⟩ := e3
    rw [cellsBytes] at hel
    have each : ∀ i, i < len → ∃ (x : Option Addr) (l c : Nat), W.cell? (a'.add i) = some (.slice x l c) ∧ U8In W (· < W.heap.size) l x c := by
      intro i hi
      have h1 := hel i hi
      rw [List.getElem?_eq_getElem (by omega)] at h1
      obtain ⟨cs', hc, ht⟩ := Option.bind_eq_some_iff.1 h1
      obtain ⟨hl1, hcl, hat⟩ := World.cells?_some hc
      match cs', hl1 with
      | [c], _ =>
        obtain ⟨l, x, cp, rfl, hu⟩ := open_bytes ht
        have q0 := hat 0 (by omega)
        exact ⟨x, l, cp, by simpa [Addr.add] using q0, hu⟩
    refine ⟨len, some a', cap, rfl, hle, hm, (fun h => by cases h), fun h0 => ?_⟩
    obtain ⟨_, _, _, q0, _⟩ := each 0 h0
    have hsp := no_spot q0
    obtain ⟨b, o, sp⟩ := a'
    have hsp' : sp = none := by simpa [Addr.add] using hsp
    subst hsp'
    simp only [addr_none] at each q0
    exact ⟨b, o, rfl, World.block_lt_of_cell? _ _ q0, each⟩
end
end Go.Proofs.Ytmbopdlmkbbbiaa
