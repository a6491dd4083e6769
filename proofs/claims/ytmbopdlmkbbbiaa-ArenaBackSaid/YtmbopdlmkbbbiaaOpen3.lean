/- A level that came in as an argument, and a list of numbers or bytes: what lies in memory. -/
import Derived.Test.YtmbopdlmkbbbiaaMaker
import Derived.Lib.SmallJoins
namespace Go.Proofs.Ytmbopdlmkbbbiaa
open Go.ChangeShapes Go.WideShapes Go.ChangeAt Go.RowKit

theorem cellsLevel : Try.prog.cellsOf 30 = 3 := by kernel_rfl
theorem cellsInt : Try.prog.cellsOf 3 = 1 := by kernel_rfl
theorem cellsLevels : Try.prog.cellsOf 28 = 1 := by kernel_rfl
theorem cellsU8 : Try.prog.cellsOf 5 = 1 := by kernel_rfl

section
variable {H : Type} {enc : TypeId × Value → H} {w : World} {base : Nat} {spare : Nat → Bool} {held : Bool}
/-- Levels one behind the other make a forest. -/
theorem forest {w : World} {P : Nat → Prop} {b : Nat} : ∀ (m o : Nat), (∀ i, i < m → ∃ (k n : Int) (ks : Fo) (a : Option Addr) (cap : Nat), w.cell? ⟨b, o + i * 3, none⟩ = some (.int .i64 k) ∧ w.cell? ⟨b, o + i * 3 + 1, none⟩ = some (.int .i64 n) ∧ w.cell? ⟨b, o + i * 3 + 2, none⟩ = some (.slice a ks.len cap) ∧ SlIn w P ks a cap) →
    ∃ F : Fo, F.len = m ∧ FoIn w P F b o
  | 0, _, _ => ⟨.nil, rfl, trivial⟩
  | m + 1, o, h => by
    obtain ⟨F, hl, hF⟩ := forest m (o + 3) (fun i hi => by
      obtain ⟨k, n, ks, a, cap, h0, h1, h2, h3⟩ := h (i + 1) (by omega)
      exact ⟨k, n, ks, a, cap, by rw [show o + 3 + i * 3 = o + (i + 1) * 3 by omega]; exact h0, by rw [show o + 3 + i * 3 = o + (i + 1) * 3 by omega]; exact h1, by rw [show o + 3 + i * 3 = o + (i + 1) * 3 by omega]; exact h2, h3⟩)
    obtain ⟨k, n, ks, a, cap, h0, h1, h2, h3⟩ := h 0 (by omega)
    simp only [Nat.zero_mul, Nat.add_zero] at h0 h1 h2
    exact ⟨.cons k n ks F, by simp [Fo.len, hl], FoIn.push h0 h1 h2 h3 hF⟩

set_option maxRecDepth 100000 in
theorem open_level (fuel : Nat) : ∀ (cs : List Value) (x : DataW H × List MemPlace), DataW.trod enc Try.prog w base spare held fuel 30 cs = some x →
    ∃ (k n : Int) (F : Fo) (a : Option Addr) (cap : Nat), cs = [.int .i64 k, .int .i64 n, .slice a F.len cap] ∧ SlIn w (· < w.heap.size) F a cap := by
  induction fuel using Nat.strongRecOn with
  | ind fuel ih =>
    intro cs x h
    obtain ⟨xs, n0, hf, _, hl, hxl, hg⟩ := DataW.trod_struct Try.underlying30 h
    rw [cellsLevel] at hl
    match cs, hl with
    | [c0, c1, c2], _ =>
      have hxl' : xs.length = 3 := hxl
      match xs, hxl' with
      | [y0, y1, y2], _ =>
        have t0 : DataW.trod enc Try.prog w base spare held n0 3 [c0] = some y0 := by have := hg 0 _ rfl; simpa [cellsInt] using this
        have t1 : DataW.trod enc Try.prog w base spare held n0 3 [c1] = some y1 := by have := hg 1 _ rfl; simpa [cellsInt] using this
        have t2 : DataW.trod enc Try.prog w base spare held n0 28 [c2] = some y2 := by have := hg 2 _ rfl; simpa [cellsLevels] using this
        obtain ⟨k, e0, _⟩ := DataW.trod_int Try.underlying3 t0
        obtain ⟨n, e1, _⟩ := DataW.trod_int Try.underlying3 t1
        injection e0 with e0 _
        injection e1 with e1 _
        subst e0 e1
        rcases DataW.trod_slice Try.underlying28 t2 with ⟨e2, _⟩ | ⟨a, len, cap, elems, rest, n1, hn1, e2, _, hb, hle, hm, hlen, hel, _⟩
        · injection e2 with e2 _
          subst e2
          exact ⟨k, n, .nil, none, 0, rfl, SlIn.none _ _⟩
        · injection e2 with e2 _
          subst e2
          rw [cellsLevel] at hel
          have each : ∀ i, i < len → ∃ (k n : Int) (ks : Fo) (a' : Option Addr) (cap : Nat), w.cell? (a.add (i * 3)) = some (.int .i64 k) ∧ w.cell? ((a.add (i * 3)).add 1) = some (.int .i64 n) ∧ w.cell? ((a.add (i * 3)).add 2) = some (.slice a' ks.len cap) ∧ SlIn w (· < w.heap.size) ks a' cap := by
            intro i hi
            have h1 := hel i hi
            rw [List.getElem?_eq_getElem (by omega)] at h1
            obtain ⟨cs', hc, ht⟩ := Option.bind_eq_some_iff.1 h1
            obtain ⟨k, n, ks, a', cap, rfl, hs⟩ := ih n1 (by omega) cs' _ ht
            obtain ⟨_, hcl, hat⟩ := World.cells?_some hc
            have q0 := hat 0 (by omega)
            have q1 := hat 1 (by omega)
            have q2 := hat 2 (by omega)
            exact ⟨k, n, ks, a', cap, by simpa [Addr.add] using q0, by simpa using q1, by simpa using q2, hs⟩
          rcases Nat.eq_zero_or_pos len with h0 | h0
          · subst h0
            exact ⟨k, n, .nil, some a, cap, rfl, ⟨Nat.zero_le _, hm, (fun h => by cases h), (fun h => by simp [Fo.len] at h)⟩⟩
          · have hsp : a.spot = none := by
              obtain ⟨k, n, ks, a', cap, q0, _⟩ := each 0 h0
              cases hs : a.spot with
              | none => rfl
              | some y => exfalso; simp [Addr.add, World.cell?, hs] at q0; split at q0 <;> simp at q0
            obtain ⟨b, o, sp⟩ := a
            have hsp' : sp = none := hsp
            subst hsp'
            have hadd : ∀ m, (⟨b, o, none⟩ : Addr).add m = ⟨b, o + m, none⟩ := fun m => by unfold Addr.add; split <;> simp_all
            simp only [hadd] at each
            have hbl : b < w.heap.size := by
              obtain ⟨k, n, ks, a', cap, q0, _⟩ := each 0 h0
              exact World.block_lt_of_cell? _ _ q0
            obtain ⟨F, hl, hF⟩ := forest len o each
            subst hl
            exact ⟨k, n, F, some ⟨b, o, none⟩, cap, rfl, ⟨hle, hm, (fun h => by cases h), (fun _ => ⟨b, o, rfl, hbl, hF⟩)⟩⟩
end
theorem laidOut : laidOutB Try.prog = true := by kernel_rfl
section
variable {H : Type} {enc : TypeId × Value → H} {W : World} {base : Nat} {spare : Nat → Bool} {held : Bool}
set_option maxRecDepth 100000 in
theorem arg_level {r : Reach} {b0 : Nat} {v : Value} {d : DataW H} {p : List MemPlace} (hv : Value.okWide Try.prog W r b0 30 v) (h : DataW.Trod enc Try.prog W base spare held 30 v d p) :
    ∃ (k n : Int) (F : Fo) (a : Option Addr) (cap : Nat), v = .agg #[.int .i64 k, .int .i64 n, .slice a F.len cap] ∧ SlIn W (· < W.heap.size) F a cap := by
  obtain ⟨cs, rfl, hsz⟩ := okWide_struct Try.underlying30 hv
  obtain ⟨fuel, hf⟩ := h
  obtain ⟨k, n, F, a, cap, hcs, hs⟩ := open_level fuel _ _ hf
  refine ⟨k, n, F, a, cap, ?_, hs⟩
  have : cs.toList = [.int .i64 k, .int .i64 n, .slice a F.len cap] := by simpa [Value.cells] using hcs
  obtain ⟨l⟩ := cs
  simp only at this
  rw [this]
set_option maxRecDepth 100000 in
theorem arg_nums {q : IntKind} {ty el : TypeId} (ht : Try.prog.underlying ty = some (.slice el)) (he : Try.prog.underlying el = some (.int q)) (hc : Try.prog.cellsOf el = 1) {r : Reach} {b0 : Nat} {v : Value} {d : DataW H} {p : List MemPlace} (hv : Value.okWide Try.prog W r b0 ty v) (h : DataW.Trod enc Try.prog W base spare held ty v d p) :
    ∃ (l : List Int) (a : Option Addr) (cap : Nat), v = .slice a l.length cap ∧ l.length ≤ cap ∧ cap ≤ maxLen ∧ (a = none → cap = 0) ∧ (∀ z ∈ l, (Lit.int q z).wf = true) ∧ (0 < l.length → ∃ b o, a = some ⟨b, o, none⟩ ∧ b < W.heap.size ∧ ∀ i, i < l.length → W.cell? ⟨b, o + i, none⟩ = some (.int q (l.getD i 0))) := by
  obtain ⟨a, len, cap, rfl⟩ := okWide_slice ht hv
  obtain ⟨fuel, hf⟩ := h
  rcases open_ints ht he hc hf with ⟨hcs, _⟩ | ⟨a', len', cap', zs, hcs, _, hl, hm, hz, _, hcell, hwf⟩
  · have hcs' : a = none ∧ len = 0 ∧ cap = 0 := by simpa [Value.cells] using hcs
    obtain ⟨rfl, rfl, rfl⟩ := hcs'
    exact ⟨[], none, 0, rfl, Nat.le_refl _, Nat.zero_le _, fun _ => rfl, by simp, by simp⟩
  · have hcs' : a = some a' ∧ len = len' ∧ cap = cap' := by simpa [Value.cells] using hcs
    obtain ⟨rfl, rfl, rfl⟩ := hcs'
    have hzl : len ≤ zs.length := by rw [hz]; split <;> omega
    have hlen : (zs.take len).length = len := by simp; omega
    refine ⟨zs.take len, some a', cap, by rw [hlen], by omega, hm, (fun h => by cases h), fun z hz => hwf z (List.mem_of_mem_take hz), fun h0 => ?_⟩
    rw [hlen] at h0 ⊢
    have hget : ∀ i, i < len → (zs.take len).getD i 0 = zs.getD i 0 := fun i hi => by simp [List.getD_eq_getElem?_getD, hi]
    have q0 := hcell 0 (by omega)
    have hsp : a'.spot = none := by
      cases hs : a'.spot with
      | none => rfl
      | some y => exfalso; simp [Addr.add, World.cell?, hs] at q0; split at q0 <;> simp at q0
    obtain ⟨b, o, sp⟩ := a'
    have hsp' : sp = none := hsp
    subst hsp'
    have hadd : ∀ m, (⟨b, o, none⟩ : Addr).add m = ⟨b, o + m, none⟩ := fun m => by unfold Addr.add; split <;> simp_all
    simp only [hadd] at hcell
    refine ⟨b, o, rfl, World.block_lt_of_cell? _ _ (hcell 0 (by omega)), fun i hi => ?_⟩
    rw [hget i hi]
    exact hcell i (by omega)
theorem u8_range {a : Int} (w0 : (Lit.int .u8 a).wf = true) : 0 ≤ a ∧ a < 256 := by
  have e1 : IntKind.u8.min = 0 := rfl
  have e2 : IntKind.u8.max = 255 := rfl
  simp only [Lit.wf, e1, e2, Bool.and_eq_true, decide_eq_true_eq] at w0
  omega
set_option maxRecDepth 100000 in
theorem arg_bytes {r : Reach} {b0 : Nat} {v : Value} {d : DataW H} {p : List MemPlace} (hv : Value.okWide Try.prog W r b0 23 v) (h : DataW.Trod enc Try.prog W base spare held 23 v d p) :
    ∃ (len : Nat) (a : Option Addr) (cap : Nat), v = .slice a len cap ∧ U8In W (· < W.heap.size) len a cap := by
  obtain ⟨l, a, cap, h1, h2, h3, h4, hwf, h5⟩ := arg_nums Try.underlying23 Try.underlying5 cellsU8 hv h
  refine ⟨l.length, a, cap, h1, h2, h3, h4, fun h0 => ?_⟩
  obtain ⟨b, o, ha, hb, hc⟩ := h5 h0
  refine ⟨b, o, ha, hb, fun i hi => ?_⟩
  have hm : l.getD i 0 ∈ l := by
    have e : l.getD i 0 = l[i] := by simp [List.getD_eq_getElem?_getD, hi]
    rw [e]; exact List.getElem_mem hi
  have := u8_range (hwf _ hm)
  exact ⟨_, this.1, this.2, hc i hi⟩
end
end Go.Proofs.Ytmbopdlmkbbbiaa
