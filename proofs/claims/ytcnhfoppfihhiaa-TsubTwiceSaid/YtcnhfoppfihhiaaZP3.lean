/- A term that came in as an argument: what lies in memory. -/
import Derived.Test.YtcnhfoppfihhiaaZP0
import Derived.Lib.SmallJoins
import Derived.Test.YtcnhfoppfihhiaaMaker
import Derived.Test.YtcnhfoppfihhiaaZP1
import Derived.Test.YtcnhfoppfihhiaaZP2
import Derived.Test.YtcnhfoppfihhiaaQspec
import Derived.Test.YtcnhfoppfihhiaaQsub
import Derived.Test.YtcnhfoppfihhiaaTmk
import Derived.Deep.RegionHeld3
import Derived.Deep.DeepCutAuto
namespace Go.Proofs.Ytcnhfoppfihhiaa
open Go.ChangeShapes Go.WideShapes Go.ChangeAt Go.RowKit

set_option maxRecDepth 100000 in
theorem cellsLevel : Try.prog.cellsOf 38 = 3 := by kernel_rfl
set_option maxRecDepth 100000 in
theorem cellsInt : Try.prog.cellsOf 3 = 1 := by kernel_rfl
set_option maxRecDepth 100000 in
theorem cellsLevels : Try.prog.cellsOf 26 = 1 := by kernel_rfl
set_option maxRecDepth 100000 in
theorem cellsU8 : Try.prog.cellsOf 5 = 1 := by kernel_rfl

section
variable {H : Type} {enc : TypeId × Value → H} {w : World} {base : Nat} {spare : Nat → Bool} {held : Bool}
set_option maxRecDepth 100000 in
/-- Levels one behind the other make a forest. -/
theorem forest {w : World} {P : Nat → Prop} {b : Nat} : ∀ (m o : Nat), (∀ i, i < m → ∃ (k n : Int) (ks : Fo) (a : Option Addr) (cap : Nat), w.cell? ⟨b, o + i * 3, none⟩ = some (.int .i64 k) ∧ w.cell? ⟨b, o + i * 3 + 1, none⟩ = some (.int .i64 n) ∧ w.cell? ⟨b, o + i * 3 + 2, none⟩ = some (.slice a ks.len cap) ∧ SlIn w P ks a cap) →
    ∃ F : Fo, F.len = m ∧ FoIn w P F b o
  | 0, _, _ => ⟨.nil, rfl, trivial⟩
  | m + 1, o, h => by
    obtain ⟨F, hl, hF⟩ := forest m (o + 3) (fun i hi => by
      obtain ⟨k, n, ks, a, cap, h0, h1, h2, h3⟩ := h (i + 1) (by omega)
      exact ⟨k, n, ks, a, cap, by rw [show o + 3 + i * 3 = o + (i + 1) * 3 by omega]; exact h0, by rw [show o + 3 + i * 3 = o + (i + 1) * 3 by omega]; exact h1, by rw [show o + 3 + i * 3 = o + (i + 1) * 3 by omega]; exact h2, h3⟩)
    obtain ⟨k, n, ks, a, cap, h0, h1, h2, h3⟩ := h 0 (by omega)
    simp only [Nat.zero_mul, Nat.add_zero] at h0 h1 h2
    exact ⟨.cons k n ks F, by simp [Fo.len, hl], FoIn.push h0 h1 h2 h3 hF⟩

set_option maxRecDepth 100000 in
theorem open_level (fuel : Nat) : ∀ (cs : List Value) (x : DataW H × List MemPlace), DataW.trod enc Try.prog w base spare held fuel 38 cs = some x →
    ∃ (k n : Int) (F : Fo) (a : Option Addr) (cap : Nat), cs = [.int .i64 k, .int .i64 n, .slice a F.len cap] ∧ SlIn w (· < w.heap.size) F a cap := by
  induction fuel using Nat.strongRecOn with
  | ind fuel ih =>
    intro cs x h
    obtain ⟨xs, n0, hf, _, hl, hxl, hg⟩ := DataW.trod_struct Try.underlying38 h
    rw [cellsLevel] at hl
    match cs, hl with
    | [c0, c1, c2], _ =>
      have hxl' : xs.length = 3 := hxl
      match xs, hxl' with
      | [y0, y1, y2], _ =>
        have t0 : DataW.trod enc Try.prog w base spare held n0 3 [c0] = some y0 := by have := hg 0 _ rfl; simpa [cellsInt] using this
        have t1 : DataW.trod enc Try.prog w base spare held n0 3 [c1] = some y1 := by have := hg 1 _ rfl; simpa [cellsInt] using this
        have t2 : DataW.trod enc Try.prog w base spare held n0 26 [c2] = some y2 := by have := hg 2 _ rfl; simpa [cellsLevels] using this
        obtain ⟨k, e0, _⟩ := DataW.trod_int Try.underlying3 t0
        obtain ⟨n, e1, _⟩ := DataW.trod_int Try.underlying3 t1
        injection e0 with e0 _
        injection e1 with e1 _
        subst e0 e1
        rcases DataW.trod_slice Try.underlying26 t2 with ⟨e2, _⟩ | ⟨a, len, cap, elems, rest, n1, hn1, e2, _, hb, hle, hm, hlen, hel, _⟩
        · injection e2 with e2 _
          subst e2
          exact ⟨k, n, .nil, none, 0, rfl, SlIn.none _ _⟩
        · injection e2 with e2 _
          subst e2
          rw [cellsLevel] at hel
          have each : ∀ i, i < len → ∃ (k n : Int) (ks : Fo) (a' : Option Addr) (cap : Nat), w.cell? (a.add (i * 3)) = some (.int .i64 k) ∧ w.cell? ((a.add (i * 3)).add 1) = some (.int .i64 n) ∧ w.cell? ((a.add (i * 3)).add 2) = some (.slice a' ks.len cap) ∧ SlIn w (· < w.heap.size) ks a' cap := by
            intro i hi
            have h1 := hel i hi
            rw [List.getElem?_eq_getElem (by omega)] at h1
            obtain ⟨cs', hc, ht⟩ := Option.bind_eq_some_iff.1 h1
            obtain ⟨k, n, ks, a', cap, rfl, hs⟩ := ih n1 (by omega) cs' _ ht
            obtain ⟨_, hcl, hat⟩ := World.cells?_some hc
            have q0 := hat 0 (by omega)
            have q1 := hat 1 (by omega)
            have q2 := hat 2 (by omega)
            exact ⟨k, n, ks, a', cap, by simpa [Addr.add] using q0, by simpa using q1, by simpa using q2, hs⟩
          rcases Nat.eq_zero_or_pos len with h0 | h0
          · subst h0
            exact ⟨k, n, .nil, some a, cap, rfl, ⟨Nat.zero_le _, hm, (fun h => by cases h), (fun h => by simp [Fo.len] at h)⟩⟩
          · have hsp : a.spot = none := by
              obtain ⟨k, n, ks, a', cap, q0, _⟩ := each 0 h0
              cases hs : a.spot with
              | none => rfl
              | some y => exfalso; simp [Addr.add, World.cell?, hs] at q0; split at q0 <;> simp at q0
            obtain ⟨b, o, sp⟩ := a
            have hsp' : sp = none := hsp
            subst hsp'
            have hadd : ∀ m, (⟨b, o, none⟩ : Addr).add m = ⟨b, o + m, none⟩ := fun m => by unfold Addr.add; split <;> simp_all
            simp only [hadd] at each
            have hbl : b < w.heap.size := by
              obtain ⟨k, n, ks, a', cap, q0, _⟩ := each 0 h0
              exact World.block_lt_of_cell? _ _ q0
            obtain ⟨F, hl, hF⟩ := forest len o each
            subst hl
            exact ⟨k, n, F, some ⟨b, o, none⟩, cap, rfl, ⟨hle, hm, (fun h => by cases h), (fun _ => ⟨b, o, rfl, hbl, hF⟩)⟩⟩
end
set_option maxRecDepth 100000 in
theorem laidOut : laidOutB Try.prog = true := by kernel_rfl
set_option maxRecDepth 100000 in
theorem t_cellsTerm : Try.prog.cellsOf 29 = 4 := by kernel_rfl
set_option maxRecDepth 100000 in
theorem t_cellsTerms : Try.prog.cellsOf 27 = 1 := by kernel_rfl
section
variable {H : Type} {enc : TypeId × Value → H} {w : World} {base : Nat} {spare : Nat → Bool} {held : Bool}
set_option maxRecDepth 100000 in
/-- Terms one behind the other make a forest. -/
theorem t_forest {w : World} {P : Nat → Prop} {b : Nat} : ∀ (m o : Nat), (∀ i, i < m → ∃ (T : Tm) (la : Option Addr) (lc : Nat) (a : Option Addr) (cap : Nat), w.cell? ⟨b, o + i * 4, none⟩ = some (.int .i64 T.k) ∧ w.cell? ⟨b, o + i * 4 + 1, none⟩ = some (.int .i64 T.n) ∧ w.cell? ⟨b, o + i * 4 + 2, none⟩ = some (.slice la T.ls.len lc) ∧ w.cell? ⟨b, o + i * 4 + 3, none⟩ = some (.slice a T.ks.len cap) ∧ SlIn w P T.ls la lc ∧ TlIn w P T.ks a cap) →
    ∃ F : Ft, F.len = m ∧ FtIn w P F b o
  | 0, _, _ => ⟨.nil, rfl, trivial⟩
  | m + 1, o, h => by
    obtain ⟨F, hl, hF⟩ := t_forest m (o + 4) (fun i hi => by
      have := h (i + 1) (by omega)
      rwa [show o + (i + 1) * 4 = o + 4 + i * 4 by omega] at this)
    obtain ⟨T, la, lc, a, cap, h0, h1, h2, h3, hs, ht⟩ := h 0 (by omega)
    simp only [Nat.zero_mul, Nat.add_zero] at h0 h1 h2 h3
    exact ⟨.cons T.k T.n T.ls T.ks F, by simp [Ft.len, hl], FtIn.push h0 h1 h2 hs h3 ht hF⟩

set_option maxRecDepth 100000 in
theorem open_levels {fuel : Nat} {c : Value} {x : DataW H × List MemPlace} (h : DataW.trod enc Try.prog w base spare held fuel 26 [c] = some x) :
    ∃ (F : Fo) (la : Option Addr) (lc : Nat), c = .slice la F.len lc ∧ SlIn w (· < w.heap.size) F la lc := by
  rcases DataW.trod_slice Try.underlying26 h with ⟨e2, _⟩ | ⟨a, len, cap, elems, rest, n1, hn1, e2, _, hb, hle, hm, hlen, hel, _⟩
  · injection e2 with e2 _
    subst e2
    exact ⟨.nil, none, 0, rfl, SlIn.none _ _⟩
  · injection e2 with e2 _
    subst e2
    rw [cellsLevel] at hel
    have each : ∀ i, i < len → ∃ (k n : Int) (ks : Fo) (a' : Option Addr) (cap : Nat), w.cell? (a.add (i * 3)) = some (.int .i64 k) ∧ w.cell? ((a.add (i * 3)).add 1) = some (.int .i64 n) ∧ w.cell? ((a.add (i * 3)).add 2) = some (.slice a' ks.len cap) ∧ SlIn w (· < w.heap.size) ks a' cap := by
      intro i hi
      have h1 := hel i hi
      rw [List.getElem?_eq_getElem (by omega)] at h1
      obtain ⟨cs', hc, ht⟩ := Option.bind_eq_some_iff.1 h1
      obtain ⟨k, n, ks, a', cap, rfl, hs⟩ := open_level n1 cs' _ ht
      obtain ⟨_, hcl, hat⟩ := World.cells?_some hc
      have q0 := hat 0 (by omega)
      have q1 := hat 1 (by omega)
      have q2 := hat 2 (by omega)
      exact ⟨k, n, ks, a', cap, by simpa [Addr.add] using q0, by simpa using q1, by simpa using q2, hs⟩
    rcases Nat.eq_zero_or_pos len with h0 | h0
    · subst h0
      exact ⟨.nil, some a, cap, rfl, ⟨Nat.zero_le _, hm, (fun h => by cases h), (fun h => by simp [Fo.len] at h)⟩⟩
    · have hsp : a.spot = none := by
        obtain ⟨k, n, ks, a', cap, q0, _⟩ := each 0 h0
        cases hs : a.spot with
        | none => rfl
        | some y => exfalso; simp [Addr.add, World.cell?, hs] at q0; split at q0 <;> simp at q0
      obtain ⟨b, o, sp⟩ := a
      have hsp' : sp = none := hsp
      subst hsp'
      have hadd : ∀ m, (⟨b, o, none⟩ : Addr).add m = ⟨b, o + m, none⟩ := fun m => by unfold Addr.add; split <;> simp_all
      simp only [hadd] at each
      have hbl : b < w.heap.size := by
        obtain ⟨k, n, ks, a', cap, q0, _⟩ := each 0 h0
        exact World.block_lt_of_cell? _ _ q0
      obtain ⟨F, hl, hF⟩ := forest len o each
      subst hl
      exact ⟨F, some ⟨b, o, none⟩, cap, rfl, ⟨hle, hm, (fun h => by cases h), (fun _ => ⟨b, o, rfl, hbl, hF⟩)⟩⟩

set_option maxRecDepth 100000 in
theorem open_term (fuel : Nat) : ∀ (cs : List Value) (x : DataW H × List MemPlace), DataW.trod enc Try.prog w base spare held fuel 29 cs = some x →
    ∃ (T : Tm) (la : Option Addr) (lc : Nat) (a : Option Addr) (cap : Nat), cs = [.int .i64 T.k, .int .i64 T.n, .slice la T.ls.len lc, .slice a T.ks.len cap] ∧ SlIn w (· < w.heap.size) T.ls la lc ∧ TlIn w (· < w.heap.size) T.ks a cap := by
  induction fuel using Nat.strongRecOn with
  | ind fuel ih =>
    intro cs x h
    obtain ⟨xs, n0, hf, _, hl, hxl, hg⟩ := DataW.trod_struct Try.underlying29 h
    rw [t_cellsTerm] at hl
    match cs, hl with
    | [c0, c1, c2, c3], _ =>
      have hxl' : xs.length = 4 := hxl
      match xs, hxl' with
      | [y0, y1, y2, y3], _ =>
        have t0 : DataW.trod enc Try.prog w base spare held n0 3 [c0] = some y0 := by have := hg 0 _ rfl; simpa [cellsInt] using this
        have t1 : DataW.trod enc Try.prog w base spare held n0 3 [c1] = some y1 := by have := hg 1 _ rfl; simpa [cellsInt] using this
        have t2 : DataW.trod enc Try.prog w base spare held n0 26 [c2] = some y2 := by have := hg 2 _ rfl; simpa [cellsLevels] using this
        have t3 : DataW.trod enc Try.prog w base spare held n0 27 [c3] = some y3 := by have := hg 3 _ rfl; simpa [t_cellsTerms] using this
        obtain ⟨k, e0, _⟩ := DataW.trod_int Try.underlying3 t0
        obtain ⟨n, e1, _⟩ := DataW.trod_int Try.underlying3 t1
        injection e0 with e0 _
        injection e1 with e1 _
        subst e0 e1
        obtain ⟨F, la, lc, e2, hs2⟩ := open_levels t2
        subst e2
        rcases DataW.trod_slice Try.underlying27 t3 with ⟨e3, _⟩ | ⟨a, len, cap, elems, rest, n1, hn1, e3, _, hb, hle, hm, hlen, hel, _⟩
        · injection e3 with e3 _
          subst e3
          exact ⟨⟨k, n, F, .nil⟩, la, lc, none, 0, rfl, hs2, TlIn.none _ _⟩
        · injection e3 with e3 _
          subst e3
          rw [t_cellsTerm] at hel
          have each : ∀ i, i < len → ∃ (T : Tm) (la : Option Addr) (lc : Nat) (a' : Option Addr) (cap : Nat), w.cell? (a.add (i * 4)) = some (.int .i64 T.k) ∧ w.cell? ((a.add (i * 4)).add 1) = some (.int .i64 T.n) ∧ w.cell? ((a.add (i * 4)).add 2) = some (.slice la T.ls.len lc) ∧ w.cell? ((a.add (i * 4)).add 3) = some (.slice a' T.ks.len cap) ∧ SlIn w (· < w.heap.size) T.ls la lc ∧ TlIn w (· < w.heap.size) T.ks a' cap := by
            intro i hi
            have h1 := hel i hi
            rw [List.getElem?_eq_getElem (by omega)] at h1
            obtain ⟨cs', hc, ht⟩ := Option.bind_eq_some_iff.1 h1
            obtain ⟨T, la, lc, a', cap, rfl, hs, hk⟩ := ih n1 (by omega) cs' _ ht
            obtain ⟨_, hcl, hat⟩ := World.cells?_some hc
            have q0 := hat 0 (by omega)
            have q1 := hat 1 (by omega)
            have q2 := hat 2 (by omega)
            have q3 := hat 3 (by omega)
            exact ⟨T, la, lc, a', cap, by simpa [Addr.add] using q0, by simpa using q1, by simpa using q2, by simpa using q3, hs, hk⟩
          rcases Nat.eq_zero_or_pos len with h0 | h0
          · subst h0
            exact ⟨⟨k, n, F, .nil⟩, la, lc, some a, cap, rfl, hs2, ⟨Nat.zero_le _, hm, (fun h => by cases h), (fun h => by simp [Ft.len] at h)⟩⟩
          · have hsp : a.spot = none := by
              obtain ⟨T, _, _, _, _, q0, _⟩ := each 0 h0
              cases hs : a.spot with
              | none => rfl
              | some y => exfalso; simp [Addr.add, World.cell?, hs] at q0; split at q0 <;> simp at q0
            obtain ⟨b, o, sp⟩ := a
            have hsp' : sp = none := hsp
            subst hsp'
            have hadd : ∀ m, (⟨b, o, none⟩ : Addr).add m = ⟨b, o + m, none⟩ := fun m => by unfold Addr.add; split <;> simp_all
            simp only [hadd] at each
            have hbl : b < w.heap.size := by
              obtain ⟨T, _, _, _, _, q0, _⟩ := each 0 h0
              exact World.block_lt_of_cell? _ _ q0
            obtain ⟨G, hl, hF⟩ := t_forest len o each
            subst hl
            exact ⟨⟨k, n, F, G⟩, la, lc, some ⟨b, o, none⟩, cap, rfl, hs2, ⟨hle, hm, (fun h => by cases h), (fun _ => ⟨b, o, rfl, hbl, hF⟩)⟩⟩
end
section
variable {H : Type} {enc : TypeId × Value → H} {W : World} {base : Nat} {spare : Nat → Bool} {held : Bool}
set_option maxRecDepth 100000 in
theorem arg_term {r : Reach} {b0 : Nat} {v : Value} {d : DataW H} {p : List MemPlace} (hv : Value.okWide Try.prog W r b0 29 v) (h : DataW.Trod enc Try.prog W base spare held 29 v d p) :
    ∃ (T : Tm) (la : Option Addr) (lc : Nat) (a : Option Addr) (cap : Nat), v = .agg #[.int .i64 T.k, .int .i64 T.n, .slice la T.ls.len lc, .slice a T.ks.len cap] ∧ TmIn W W.heap.size T la lc a cap := by
  obtain ⟨cs, rfl, hsz⟩ := okWide_struct Try.underlying29 hv
  obtain ⟨fuel, hf⟩ := h
  obtain ⟨T, la, lc, a, cap, hcs, hs, hk⟩ := open_term fuel _ _ hf
  refine ⟨T, la, lc, a, cap, ?_, hs, hk, Nat.le_refl _⟩
  have : cs.toList = [.int .i64 T.k, .int .i64 T.n, .slice la T.ls.len lc, .slice a T.ks.len cap] := by simpa [Value.cells] using hcs
  obtain ⟨l⟩ := cs
  simp only at this
  rw [this]
end
end Go.Proofs.Ytcnhfoppfihhiaa
/- Bytes that came in as an argument. -/
namespace Go.Proofs.Ytcnhfoppfihhiaa
open Go.ChangeShapes Go.WideShapes Go.ChangeAt Go.RowKit
set_option maxRecDepth 100000 in
theorem u8_range {a : Int} (w0 : (Lit.int .u8 a).wf = true) : 0 ≤ a ∧ a < 256 := by
  have e1 : IntKind.u8.min = 0 := rfl
  have e2 : IntKind.u8.max = 255 := rfl
  simp only [Lit.wf, e1, e2, Bool.and_eq_true, decide_eq_true_eq] at w0
  omega
section
variable {H : Type} {enc : TypeId × Value → H} {W : World} {base : Nat} {spare : Nat → Bool} {held : Bool}
set_option maxRecDepth 100000 in
theorem arg_nums {q : IntKind} {ty el : TypeId} (ht : Try.prog.underlying ty = some (.slice el)) (he : Try.prog.underlying el = some (.int q)) (hc : Try.prog.cellsOf el = 1) {r : Reach} {b0 : Nat} {v : Value} {d : DataW H} {p : List MemPlace} (hv : Value.okWide Try.prog W r b0 ty v) (h : DataW.Trod enc Try.prog W base spare held ty v d p) :
    ∃ (l : List Int) (a : Option Addr) (cap : Nat), v = .slice a l.length cap ∧ l.length ≤ cap ∧ cap ≤ maxLen ∧ (a = none → cap = 0) ∧ (∀ z ∈ l, (Lit.int q z).wf = true) ∧ (0 < l.length → ∃ b o, a = some ⟨b, o, none⟩ ∧ b < W.heap.size ∧ ∀ i, i < l.length → W.cell? ⟨b, o + i, none⟩ = some (.int q (l.getD i 0))) := by
  obtain ⟨a, len, cap, rfl⟩ := okWide_slice ht hv
  obtain ⟨fuel, hf⟩ := h
  rcases open_ints ht he hc hf with ⟨hcs, _⟩ | ⟨a', len', cap', zs, hcs, _, hl, hm, hz, _, hcell, hwf⟩
  · have hcs' : a = none ∧ len = 0 ∧ cap = 0 := by simpa [Value.cells] using hcs
    obtain ⟨rfl, rfl, rfl⟩ := hcs'
    exact ⟨[], none, 0, rfl, Nat.le_refl _, Nat.zero_le _, fun _ => rfl, by simp, by simp⟩
  · have hcs' : a = some a' ∧ len = len' ∧ cap = cap' := by simpa [Value.cells] using hcs
    obtain ⟨rfl, rfl, rfl⟩ := hcs'
    have hzl : len ≤ zs.length := by rw [hz]; split <;> omega
    have hlen : (zs.take len).length = len := by simp; omega
    refine ⟨zs.take len, some a', cap, by rw [hlen], by omega, hm, (fun h => by cases h), fun z hz => hwf z (List.mem_of_mem_take hz), fun h0 => ?_⟩
    rw [hlen] at h0 ⊢
    have hget : ∀ i, i < len → (zs.take len).getD i 0 = zs.getD i 0 := fun i hi => by simp [List.getD_eq_getElem?_getD, hi]
    have q0 := hcell 0 (by omega)
    have hsp : a'.spot = none := by
      cases hs : a'.spot with
      | none => rfl
      | some y => exfalso; simp [Addr.add, World.cell?, hs] at q0; split at q0 <;> simp at q0
    obtain ⟨b, o, sp⟩ := a'
    have hsp' : sp = none := hsp
    subst hsp'
    have hadd : ∀ m, (⟨b, o, none⟩ : Addr).add m = ⟨b, o + m, none⟩ := fun m => by unfold Addr.add; split <;> simp_all
    simp only [hadd] at hcell
    refine ⟨b, o, rfl, World.block_lt_of_cell? _ _ (hcell 0 (by omega)), fun i hi => ?_⟩
    rw [hget i hi]
    exact hcell i (by omega)
set_option maxRecDepth 100000 in
theorem arg_bytes {r : Reach} {b0 : Nat} {v : Value} {d : DataW H} {p : List MemPlace} (hv : Value.okWide Try.prog W r b0 22 v) (h : DataW.Trod enc Try.prog W base spare held 22 v d p) :
    ∃ (len : Nat) (a : Option Addr) (cap : Nat), v = .slice a len cap ∧ U8In W (· < W.heap.size) len a cap := by
  obtain ⟨l, a, cap, h1, h2, h3, h4, hwf, h5⟩ := arg_nums Try.underlying22 Try.underlying5 cellsU8 hv h
  refine ⟨l.length, a, cap, h1, h2, h3, h4, fun h0 => ?_⟩
  obtain ⟨b, o, ha, hb, hc⟩ := h5 h0
  refine ⟨b, o, ha, hb, fun i hi => ?_⟩
  have hm : l.getD i 0 ∈ l := by
    have e : l.getD i 0 = l[i] := by simp [List.getD_eq_getElem?_getD, hi]
    rw [e]; exact List.getElem_mem hi
  have := u8_range (hwf _ hm)
  exact ⟨_, this.1, this.2, hc i hi⟩
end
end Go.Proofs.Ytcnhfoppfihhiaa
/- The walk of the law TsubMade. The conditions: what the program's Sub, Metas and Consts answer (QSubC, QMetC, QConC), and that the law's sample calls return true (QAwkC). -/
namespace Go.Proofs.Ytcnhfoppfihhiaa
open Go.RowKit

/-- The sample calls return true, and make new memory. -/
def QAwkC : Prop := ∀ w : World, Calls Try.prog 6 #[] w fun e w' => e = .returned (.bool true) ∧ Below w.heap.size w w' ∧ 1 ≤ w'.heap.size
namespace tsubMade

set_option maxRecDepth 100000 in
set_option maxHeartbeats 4000000 in
theorem walk (hA : QAwkC) (hS : QSubC) (hM : QMetC) (hC : QConC) (l1 c1 l2 c2 l3 c3 : Nat) (a1 a2 a3 : Option Addr) (w : World) (h1 : U8In w (· < w.heap.size) l1 a1 c1) (h2 : RowsIn w (· < w.heap.size) l2 a2 c2) (h3 : RowsIn w (· < w.heap.size) l3 a3 c3) :
    Calls Try.prog 3 #[.slice a1 l1 c1, .slice a2 l2 c2, .slice a3 l3 c3] w fun e w' => e = .returned (.bool true) ∧ Below w.heap.size w w' := by
  have HM : Hid (∀ W, Below w.heap.size w W → Calls Try.prog 8 #[.slice a1 l1 c1] W (MdOk 3 3 W)) := Lib.hid (fun W h => tMade_any l1 c1 a1 w.heap.size W (h1.keep' (fun b hb => h.block b hb)) h.size)
  have HP : Hid (∀ W, Below w.heap.size w W → 1 ≤ W.heap.size → Calls Try.prog 9 #[.slice a2 l2 c2, .int .i64 6] W (LsPost 6 W)) := Lib.hid (fun W h h0 => levels5_any 6 l2 c2 w.heap.size (by omega) a2 W (h2.below h) h.size h0)
  have HQ : Hid (∀ W, Below w.heap.size w W → 1 ≤ W.heap.size → Calls Try.prog 9 #[.slice a3 l3 c3, .int .i64 11] W (LsPost 11 W)) := Lib.hid (fun W h h0 => levels5_any 11 l3 c3 w.heap.size (by omega) a3 W (h3.below h) h.size h0)
  clear h1 h2 h3
  go_enter Try.func3, Try.ntmps3
  go_wp2_with fail
  refine (hA _).mono ?_
  rintro e w1 ⟨rfl, b1, z1⟩
  go_wp2_with fail
  refine (HM.out _ b1).mono ?_
  rintro e w2 ⟨T, la, lc, ka, kc, rfl, hok, s1, s2, b2⟩
  have HB2 := Lib.hid (Below.step b1 b2 (Nat.le_refl _))
  have HZ2 := Lib.hid (Nat.le_trans z1 b2.size)
  have S2 : Hid (TmIn w2 w2.heap.size T la lc ka kc) := Lib.hid ⟨s1.weak (fun b h => h.2), s2.weak (fun b h => h.2), Nat.le_refl _⟩
  have HR : Hid (T.sh = true) := Lib.hid (hok.sh (by omega) (by omega))
  clear hok s1 s2 b2 b1 z1
  go_wp2_with fail
  refine (HP.out _ HB2.out HZ2.out).mono ?_
  rintro e w3 ⟨G, y, d, rfl, _, _, s3, b3⟩
  have HB3 := Lib.hid (Below.step HB2.out b3 (Nat.le_refl _))
  have HZ3 := Lib.hid (Nat.le_trans HZ2.out b3.size)
  have S3 := Lib.hid s3
  have B23 := Lib.hid b3
  clear s3 b3
  go_wp2_with fail
  refine (HQ.out _ HB3.out HZ3.out).mono ?_
  rintro e w4 ⟨H, y2, d2, rfl, _, _, s4, b4⟩
  have HB4 := Lib.hid (Below.step HB3.out b4 (Nat.le_refl _))
  have HC := Lib.hid (same15_any hS hM hC G H T HR.out la ka y y2 lc kc d d2 w4.heap.size w4 (by
    have h := S2.out.later (Below.step B23.out b4 (Nat.le_refl _))
    exact ⟨h.1.mono h.2.2, h.2.1.mono h.2.2, Nat.le_refl _⟩) ((S3.out.below b4).mono b4.size) s4)
  clear s4 b4
  go_wp2_with fail
  refine HC.out.mono ?_
  rintro e w5 ⟨rfl, b5⟩
  have HB5 := Lib.hid (Below.step HB4.out b5 (Nat.le_refl _))
  clear b5
  go_wp2_with fail
  go_ret
  exact ⟨rfl, HB5.out⟩
end tsubMade
end Go.Proofs.Ytcnhfoppfihhiaa
/- Q3: what is put in twice is what is put in once, put in as well. Plain mathematics. -/
namespace Go.Proofs.Ytcnhfoppfihhiaa
open Go

theorem one_get {X Y : Fo} (h : X.len = 1) : ∀ i, (X.app Y).get i = match i with | 0 => X | i + 1 => Y.get i := by
  match X, h with
  | .cons k n ks .nil, _ => intro i; cases i <;> rfl
  | .cons _ _ _ (.cons _ _ _ r), h => simp [Fo.len] at h
theorem sb_get (B Q : Fo) : ∀ (A : Fo), noneg A → ∀ i, (sbF B Q A).get i = sbF B Q (A.get i)
  | .nil, _, i => by cases i <;> rfl
  | .cons k n ks r, h, i => by
    show ((sb1 B Q k n (sbF B Q ks)).app (sbF B Q r)).get i = _
    rw [one_get (sb1_len _ h.1)]
    cases i with
    | zero =>
      show sb1 B Q k n (sbF B Q ks) = (sb1 B Q k n (sbF B Q ks)).app .nil
      rw [foNil3]
    | succ i => exact sb_get B Q r h.2.2 i
/-- Levels: with A put in, then B, is with (A, with B put in) put in. -/
theorem sb_two {A B : Fo} (hA : noneg A) (hBA : B.len ≤ A.len) : ∀ F : Fo, noneg F → sbF B .nil (sbF A .nil F) = sbF (sbF B .nil A) .nil F
  | .nil, _ => rfl
  | .cons k n ks r, h => by
    have hC : (sbF B .nil A).len = A.len := sbF_len B .nil A hA
    show sbF B .nil ((sb1 A .nil k n (sbF A .nil ks)).app (sbF A .nil r)) = (sb1 (sbF B .nil A) .nil k n (sbF (sbF B .nil A) .nil ks)).app (sbF (sbF B .nil A) .nil r)
    rw [sbF_app, sb_two hA hBA r h.2.2, ← sb_two hA hBA ks h.2.1]
    congr 1
    generalize sbF A .nil ks = K
    have h0 := h.1
    by_cases h5 : k = 5 ∧ n < A.len
    · obtain ⟨rfl, hn⟩ := h5
      have e1 : sb1 A .nil 5 n K = A.get n.toNat := by unfold sb1; rw [sv_5 hn]; rfl
      have e2 : sb1 (sbF B .nil A) .nil 5 n (sbF B .nil K) = (sbF B .nil A).get n.toNat := by unfold sb1; rw [sv_5 (by rw [hC]; exact hn)]; rfl
      rw [e1, e2, sb_get B .nil A hA]
    · have n6 : ¬ (k = 6 ∧ n < ((Fo.nil).len : Int)) := fun e => by have := e.2; simp [Fo.len] at this; omega
      have e1 : sb1 A .nil k n K = .cons k n K .nil := by unfold sb1 sv; rw [if_neg h5, if_neg n6]; rfl
      have e2 : sb1 (sbF B .nil A) .nil k n (sbF B .nil K) = .cons k n (sbF B .nil K) .nil := by unfold sb1 sv; rw [if_neg (by rw [hC]; exact h5), if_neg n6]; rfl
      have e3 : sb1 B .nil k n (sbF B .nil K) = .cons k n (sbF B .nil K) .nil := by unfold sb1 sv; rw [if_neg (fun e => h5 ⟨e.1, by omega⟩), if_neg n6]; rfl
      rw [e1, e2]
      show (sb1 B .nil k n (sbF B .nil K)).app .nil = _
      rw [e3]
      rfl
theorem qF_two {A B : Fo} (hA : noneg A) (hBA : B.len ≤ A.len) : ∀ {f : Ft} {k0 : Int} {i : Nat} {v d : Int}, tAll 5 10 f k0 i v d = true → qF B .nil (qF A .nil f) = qF (sbF B .nil A) .nil f
  | .nil, _, _, _, _, _ => rfl
  | .cons k n ls ks r, k0, i, v, d, h => by
    simp only [tAll, Bool.and_eq_true, decide_eq_true_eq] at h
    obtain ⟨⟨_, h2, h3⟩, h4⟩ := h
    unfold tfitsB at h2
    simp only [Bool.and_eq_true] at h2
    show Ft.cons k n (sbF B .nil (sbF A .nil ls)) (qF B .nil (qF A .nil ks)) (qF B .nil (qF A .nil r)) = _
    rw [sb_two hA hBA ls (lvB_noneg h2.2.2.2.2.2), qF_two hA hBA h3, qF_two hA hBA h4]
    rfl
/-- Q3, for terms. -/
theorem q_two {A B : Fo} {T : Tm} (hA : allR A = true) (hBA : B.len ≤ A.len) (h : T.sh = true) : (T.q A .nil).q B .nil = T.q (sbF B .nil A) .nil := by
  obtain ⟨_, h2, h3⟩ := shB_parts h
  unfold tfitsB at h2
  simp only [Bool.and_eq_true] at h2
  have hA' : noneg A := lvB_noneg (lvB_all.trans hA)
  show (⟨T.k, T.n, sbF B .nil (sbF A .nil T.ls), qF B .nil (qF A .nil T.ks)⟩ : Tm) = ⟨T.k, T.n, sbF (sbF B .nil A) .nil T.ls, qF (sbF B .nil A) .nil T.ks⟩
  rw [sb_two hA' hBA T.ls (lvB_noneg h2.2.2.2.2.2), qF_two hA' hBA h3]
/-- What is answered for the parts and for all: the same term. -/
theorem two_q {A B : Fo} {T : Tm} (hA : allR A = true) (hBA : B.len ≤ A.len) (hx : (qA A .nil T).2 = 0) (hy : (qA B .nil (T.q A .nil)).2 = 0) (hz : (qA (sbF B .nil A) .nil T).2 = 0) : qA B .nil (T.q A .nil) = qA (sbF B .nil A) .nil T := by
  obtain ⟨h1, _, _, _⟩ := qA_no hx
  obtain ⟨_, _, _, e1⟩ := qA_no hy
  obtain ⟨_, _, _, e2⟩ := qA_no hz
  rw [e1, e2, q_two hA hBA h1]
end Go.Proofs.Ytcnhfoppfihhiaa
/- The walk of the law TsubTwice. The conditions: what the program's Sub answers (QSubC), of a Sort too where its level lies below a bound (QSortC), and that the law's sample calls return true (QAwkC). -/
namespace Go.Proofs.Ytcnhfoppfihhiaa
open Go.RowKit

/-- What Sub answers, below B or in new memory. -/
def QoPost (B : Nat) (A : Tm × Int) (w : World) (e : Ending) (w' : World) : Prop :=
  ∃ (la : Option Addr) (lc : Nat) (x : Option Addr) (c : Nat), e = .returned (.tuple #[.agg #[.int .i64 A.1.k, .int .i64 A.1.n, .slice la A.1.ls.len lc, .slice x A.1.ks.len c], .int .i64 A.2]) ∧ SlIn w' (fun b => (b < B ∨ w.heap.size ≤ b) ∧ b < w'.heap.size) A.1.ls la lc ∧ TlIn w' (fun b => (b < B ∨ w.heap.size ≤ b) ∧ b < w'.heap.size) A.1.ks x c ∧ Below w.heap.size w w'
/-- What the program's Sub answers of a Sort whose level lies below B, wherever the row of that one level lies. -/
def QSortC : Prop := ∀ (P : Fo) (k n : Int) (ks : Fo) (b0 o0 lc : Nat) (ap : Option Addr) (cp B : Nat) (w : World), FoIn w (· < B) (.cons k n ks .nil) b0 o0 → b0 < w.heap.size → 1 ≤ lc → lc ≤ 1000000 → SlIn w (· < B) P ap cp → B ≤ w.heap.size →
  Calls Try.prog 10 #[.agg #[.int .i64 2, .int .i64 0, .slice (some ⟨b0, o0, none⟩) 1 lc, .slice none 0 0], .slice ap P.len cp, .slice none 0 0] w (QoPost B (qA P .nil (sortT k n ks)) w)

set_option maxRecDepth 100000 in
set_option maxHeartbeats 1000000 in
/-- The law's Sort: a row of its own, the level's Kids where they were. -/
theorem tSort_row (k n : Int) (f : Fo) (a : Option Addr) (cap B : Nat) (w : World) (hs : SlIn w (· < B) f a cap) (hB : B ≤ w.heap.size) : Calls Try.prog 11 #[.agg #[.int .i64 k, .int .i64 n, .slice a f.len cap]] w fun e w' =>
    ∃ b0 : Nat, e = .returned (.agg #[.int .i64 2, .int .i64 0, .slice (some ⟨b0, 0, none⟩) 1 1, .slice none 0 0]) ∧ b0 < w'.heap.size ∧ FoIn w' (· < B) (.cons k n f .nil) b0 0 ∧ Below w.heap.size w w' := by
  have hb : Below w.heap.size w (((w.alloc (.cells #[.int .i64 k, .int .i64 n, .slice a f.len cap] 38)).alloc (.cells #[.int .i64 2, .int .i64 0, .slice (some ⟨w.heap.size + 1 + 1, 0, none⟩) 1 1, .slice none 0 0] 29)).alloc (.cells #[.int .i64 k, .int .i64 n, .slice a f.len cap] 38)) := (((Below.refl _ _).alloc (Nat.le_refl _) _).alloc (by simp) _).alloc (by simp; omega) _
  have hn := heap_second (w.alloc (.cells #[.int .i64 k, .int .i64 n, .slice a f.len cap] 38)) (.cells #[.int .i64 2, .int .i64 0, .slice (some ⟨w.heap.size + 1 + 1, 0, none⟩) 1 1, .slice none 0 0] 29) (.cells #[.int .i64 k, .int .i64 n, .slice a f.len cap] 38)
  have HB := Lib.hid hb
  have HN := Lib.hid hn
  have HS := Lib.hid hs
  clear hb hn hs
  go_enter Try.func11, Try.ntmps11
  go_wp2_with fail
  refine bodyPost_ret (v := .agg #[.int .i64 2, .int .i64 0, .slice (some ⟨w.heap.size + 1 + 1, 0, none⟩) 1 1, .slice none 0 0]) (by simp [results, Try.results11, go_sem]) rfl ?_
  have hn := HN.out
  simp only [World.size_alloc] at hn
  obtain ⟨c0, c1, c2⟩ := cells3 hn
  exact ⟨w.heap.size + 1 + 1, rfl, by simp, FoIn.push c0 c1 c2 (HS.out.below (HB.out.mono hB)) trivial, HB.out⟩

theorem qA_two' {P Q : Fo} {T : Tm} (hT : T.sh = true) (hp : parB P Q = true) : ((qA P Q T).2 = 0 ∧ (qA P Q T).1 = T.q P Q ∧ T.qok P Q = true) ∨ (qA P Q T).2 = 2 := by
  unfold qA
  rw [if_pos ⟨hT, hp⟩]
  split
  · rename_i h; exact .inl ⟨rfl, rfl, h⟩
  · exact .inr rfl
theorem parB_nil {A : Fo} (h1 : A.len ≤ 5) (h2 : allR A = true) : parB A .nil = true := by
  unfold parB
  rw [decide_eq_true h1, h2]
  rfl
theorem allR_more {A C : Fo} (h1 : allR A = true) (h2 : allR C = true) : allR (A.app C) = true := by
  rw [← lvB_all] at *
  exact lvB_app h1 h2
theorem allR_first {k n : Int} {ks r : Fo} : ∀ {A : Fo}, allR (A.app (.cons k n ks r)) = true → rightB 5 10 k n ks = true
  | .nil, h => by
    simp only [Fo.app, allR, Bool.and_eq_true] at h
    exact h.1
  | .cons _ _ _ A, h => by
    simp only [Fo.app, allR, Bool.and_eq_true] at h
    exact allR_first h.2
/-- One level, with others put in. -/
theorem sort_sub {P : Fo} {k n : Int} {ks : Fo} (hr : rightB 5 10 k n ks = true) (hp : parB P .nil = true) :
    ((qA P .nil (sortT k n ks)).2 = 0 ∧ (qA P .nil (sortT k n ks)).1 = ⟨2, 0, sbF P .nil (.cons k n ks .nil), .nil⟩ ∧ allR (sbF P .nil (.cons k n ks .nil)) = true ∧ ∃ k' n' F, sbF P .nil (.cons k n ks .nil) = .cons k' n' F .nil) ∨ (qA P .nil (sortT k n ks)).2 = 2 := by
  have hs : (sortT k n ks).sh = true := (okT_sort (v := 0) (d := 1) (by omega) hr).sh (by omega) (by omega)
  rcases qA_two' hs hp with ⟨h1, h2, h3⟩ | h
  · refine .inl ⟨h1, h2, ?_, ?_⟩
    · unfold Tm.qok at h3
      simp only [Bool.and_eq_true] at h3
      have := lvB_sb h3.1
      rw [lvB_all] at this
      exact this
    · have hn : 0 ≤ n := (right_parts hr).1
      have hl : (sbF P .nil (.cons k n ks .nil)).len = 1 := by
        show ((sb1 P .nil k n (sbF P .nil ks)).app .nil).len = 1
        rw [Fo.app_len, sb1_len _ hn]; rfl
      match hX : sbF P .nil (.cons k n ks .nil), hl with
      | .cons k' n' F .nil, _ => exact ⟨k', n', F, rfl⟩
      | .cons _ _ _ (.cons _ _ _ r), h => simp [Fo.len] at h
  · exact .inr h
theorem noneg_front : ∀ {A C : Fo}, allR (A.app C) = true → noneg A
  | .nil, _, _ => trivial
  | .cons k n ks r, _, h => by
    simp only [Fo.app, allR, Bool.and_eq_true] at h
    have h1 := right_parts h.1
    exact ⟨h1.1, h1.2.1, noneg_front h.2⟩
theorem fo_three : ∀ (A B C : Fo), (A.app B).app C = A.app (B.app C)
  | .nil, _, _ => rfl
  | .cons k n ks r, B, C => by simp only [Fo.app, fo_three r B C]
namespace tsubTwice
/-- What stands in memory between two rounds. -/
def TwR (w5 : World) (A C : Fo) (j : Nat) (v : Value) (wr : World) : Prop :=
  ∃ done rr : Fo, done.app rr = A ∧ done.len = j ∧ KsMix w5.heap.size w5.heap.size wr v (sbF C .nil done) ∧ allR (sbF C .nil done) = true ∧ Below w5.heap.size w5 wr

set_option maxRecDepth 100000 in
set_option maxHeartbeats 8000000 in
theorem walk (hA : QAwkC) (hS : QSubC) (hQ : QSortC) (l1 c1 l2 c2 l3 c3 : Nat) (a1 a2 a3 : Option Addr) (w : World) (h1 : U8In w (· < w.heap.size) l1 a1 c1) (h2 : RowsIn w (· < w.heap.size) l2 a2 c2) (h3 : RowsIn w (· < w.heap.size) l3 a3 c3) :
    Calls Try.prog 4 #[.slice a1 l1 c1, .slice a2 l2 c2, .slice a3 l3 c3] w fun e w' => e = .returned (.bool true) ∧ Below w.heap.size w w' := by
  have HM1 : Hid (∀ W, Below w.heap.size w W → Calls Try.prog 8 #[.slice a1 l1 c1] W (MdOk 3 3 W)) := Lib.hid (fun W h => tMade_any l1 c1 a1 w.heap.size W (h1.keep' (fun b hb => h.block b hb)) h.size)
  have HP2 : Hid (∀ W, Below w.heap.size w W → 1 ≤ W.heap.size → Calls Try.prog 9 #[.slice a2 l2 c2, .int .i64 3] W (LsPost 3 W)) := Lib.hid (fun W h h0 => levels5_any 3 l2 c2 w.heap.size (by omega) a2 W (h2.below h) h.size h0)
  have HP3 : Hid (∀ W, Below w.heap.size w W → 1 ≤ W.heap.size → Calls Try.prog 9 #[.slice a3 l3 c3, .int .i64 3] W (LsPost 3 W)) := Lib.hid (fun W h h0 => levels5_any 3 l3 c3 w.heap.size (by omega) a3 W (h3.below h) h.size h0)
  clear h1 h2 h3
  go_enter Try.func4, Try.ntmps4
  go_wp2_with fail
  refine (hA _).mono ?_
  rintro e w1 ⟨rfl, b1, z1⟩
  go_wp2_with fail
  refine (HM1.out _ b1).mono ?_
  rintro e w2 ⟨T, la, lc, ka, kc, rfl, hok, s1, s2, b2⟩
  have HB2 := Lib.hid (Below.step b1 b2 (Nat.le_refl _))
  have HT : Hid (T.sh = true) := Lib.hid (hok.sh (by omega) (by omega))
  have hal : Below w2.heap.size w2 (w2.alloc (.cells #[.int .i64 T.k, .int .i64 T.n, .slice la T.ls.len lc, .slice ka T.ks.len kc] 29)) := (Below.refl _ _).alloc (Nat.le_refl _) _
  have T3 := Lib.hid (TmBox.new (show TmIn w2 w2.heap.size T la lc ka kc from ⟨s1.weak (fun b h => h.2), s2.weak (fun b h => h.2), Nat.le_refl _⟩))
  have HB3 := Lib.hid (Below.step HB2.out hal (Nat.le_refl _))
  have HZ3 := Lib.hid (Nat.le_trans z1 (Nat.le_trans b2.size hal.size))
  clear hok s1 s2 b2 b1 z1 hal HB2
  go_upto_region 5 with fail
  generalize w2.alloc (.cells #[.int .i64 T.k, .int .i64 T.n, .slice la T.ls.len lc, .slice ka T.ks.len kc] 29) = w3 at T3 HB3 HZ3 ⊢
  generalize w2.heap.size = N8 at T3 ⊢
  go_wp2_with fail
  refine (HP2.out _ HB3.out HZ3.out).mono ?_
  rintro e w4 ⟨A, y, yc, rfl, hA3, hAR, sA, b4⟩
  have HB4 := Lib.hid (Below.step HB3.out b4 (Nat.le_refl _))
  have HZ4 := Lib.hid (Nat.le_trans HZ3.out b4.size)
  have T4 := Lib.hid (T3.out.later b4)
  have A4 := Lib.hid sA
  have HAR := Lib.hid hAR
  clear sA b4 hAR T3 HB3 HZ3
  go_wp2_with fail
  refine (HP3.out _ HB4.out HZ4.out).mono ?_
  rintro e w5 ⟨C, z, zc, rfl, hC3, hCR, sC, b5⟩
  have HB5 := Lib.hid (Below.step HB4.out b5 (Nat.le_refl _))
  have HZ5 := Lib.hid (Nat.le_trans HZ4.out b5.size)
  have T5 := Lib.hid (T4.out.later b5)
  have A5 := Lib.hid ((A4.out.below b5).mono b5.size)
  have C5 := Lib.hid sC
  have HCR := Lib.hid hCR
  clear sC b5 hCR T4 A4 HB4 HZ4
  by_cases hA' : A.len < 3
  · have d1 : ((A.len : Int) < 3) := by omega
    go_wp2_with fail
    go_ret
    exact ⟨rfl, HB5.out⟩
  by_cases hC' : C.len < 3
  · have d1 : ¬ ((A.len : Int) < 3) := by omega
    have d2 : ((C.len : Int) < 3) := by omega
    go_wp2_with fail
    go_ret
    exact ⟨rfl, HB5.out⟩
  have d1 : ¬ ((A.len : Int) < 3) := by omega
  have d2 : ¬ ((C.len : Int) < 3) := by omega
  have hAl : A.len = 3 := by omega
  have hCl : C.len = 3 := by omega
  have HPC := Lib.hid (parB_nil (A := C) (by omega) HCR.out)
  have HLN := Lib.hid (And.intro hAl hCl)
  clear hA' hC' hA3 hC3 hAl hCl
  go_wp2_with fail
  go_loopw [11, 12] (fun v i wr => ∃ (j : Nat) (u : Value), u = v ∧ i = .int .i64 j ∧ j ≤ 3 ∧ Hid (TwR w5 A C j u wr)) (fun _ i _ => 3 - (intOf i).toNat)
  case atStart => exact ⟨0, _, rfl, rfl, by omega, Lib.hid ⟨.nil, A, rfl, rfl, KsMix.nil _ _ _, rfl, Below.refl _ _⟩⟩
  case round =>
    obtain ⟨j, u, hou, rfl, hj, hR⟩ := hrel
    subst hou
    by_cases hlt : j < 3
    · have d3 : decide ((j : Int) < 3) = true := decide_eq_true (by omega)
      obtain ⟨done, rr, r1, r2, r3, r4, r5⟩ := hR.out
      obtain ⟨k, n, ks, r', rfl⟩ : ∃ k n ks r', rr = .cons k n ks r' := by
        cases rr with
        | nil => have := congrArg Fo.len r1; rw [Fo.app_len] at this; simp only [Fo.len] at this; have := HLN.out; omega
        | cons k n ks r' => exact ⟨k, n, ks, r', rfl⟩
      obtain ⟨b, o, rfl, hbB, hf0⟩ := A5.out.some (by have := HLN.out; omega)
      rw [← r1] at hf0
      have hf1 := (FoIn.behind3 done _ b o hf0).below r5 _ _ _ hbB
      rw [r2] at hf1
      obtain ⟨e0, e1, ⟨a', cap', e2, hsl'⟩, _⟩ := hf1.first
      have hAj : (j : Int) < (A.len : Int) := by have := HLN.out; omega
      have hrt : rightB 5 10 k n ks = true := allR_first (A := done) (by rw [r1]; exact HAR.out)
      have HWAY := sort_sub (P := C) hrt HPC.out
      have HSO := Lib.hid (tSort_row k n ks a' cap' w5.heap.size wr hsl' r5.size)
      have R3 := Lib.hid r3
      have R5 := Lib.hid r5
      have RD := Lib.hid (And.intro r1 (And.intro r2 r4))
      clear r1 r2 r3 r4 r5 hf0 hf1 hsl' hrt
      go_wp2_with fail
      refine HSO.out.mono ?_
      rintro e ws ⟨b0, rfl, hb0, hfs, bs⟩
      have HS1 := hQ C k n ks b0 0 1 z zc w5.heap.size ws hfs hb0 (Nat.le_refl _) (by omega) (C5.out.below (Below.step R5.out bs (Nat.le_refl _))) (Nat.le_trans R5.out.size bs.size)
      obtain ⟨⟨X, E⟩, hX⟩ : ∃ p, qA C .nil (sortT k n ks) = p := ⟨_, rfl⟩
      rw [hX] at HS1 HWAY
      have HS1H := Lib.hid HS1
      have BS := Lib.hid bs
      clear HS1 hX hfs bs HSO e0 e1 e2
      go_wp2_with fail
      refine HS1H.out.mono ?_
      rintro e w6 ⟨xa, xc, xb, xd, rfl, g1, g2, b6⟩
      have hbx : Below w6.heap.size w6 (w6.alloc (.cells #[.int .i64 X.k, .int .i64 X.n, .slice xa X.ls.len xc, .slice xb X.ks.len xd] 29)) := (Below.refl _ _).alloc (Nat.le_refl _) _
      have B67 := Lib.hid (Below.step (Below.step BS.out b6 (Nat.le_refl _)) hbx (Nat.le_refl _))
      have HB7 := Lib.hid (Below.step HB5.out (Below.step R5.out B67.out (Nat.le_refl _)) (Nat.le_refl _))
      rcases HWAY with ⟨hE, hX, hXR, k', n', F, hF⟩ | hE
      case inr =>
        have hE : E = 2 := hE
        subst hE
        clear g1 g2 b6 hbx
        go_wp2_with fail
        go_ret
        exact ⟨rfl, HB7.out⟩
      case inl =>
        change E = 0 at hE
        subst hE
        change X = ⟨2, 0, sbF C .nil (.cons k n ks .nil), .nil⟩ at hX
        rw [hF] at hX hXR
        have hXls : X.ls = .cons k' n' F .nil := by rw [hX]
        rw [hXls] at g1
        have dX : ((X.ls.len : Int) != 1) = false := by rw [hXls]; rfl
        have hX1 : 0 < X.ls.len := by rw [hXls]; simp [Fo.len]
        have hn7 := heap_new w6 (.cells #[.int .i64 X.k, .int .i64 X.n, .slice xa X.ls.len xc, .slice xb X.ks.len xd] 29)
        have g7 : SlIn (w6.alloc (.cells #[.int .i64 X.k, .int .i64 X.n, .slice xa X.ls.len xc, .slice xb X.ks.len xd] 29)) (fun b => (b < w5.heap.size ∨ wr.heap.size ≤ b) ∧ b < (w6.alloc (.cells #[.int .i64 X.k, .int .i64 X.n, .slice xa X.ls.len xc, .slice xb X.ks.len xd] 29)).heap.size) (.cons k' n' F .nil) xa xc :=
          (g1.keep (fun b hb => heap_old _ _ hb.2)).weak (fun b hb => ⟨by have := BS.out.size; omega, by simp; omega⟩)
        have B7 := B67.out
        clear g1 g2 b6 hbx HS1H B67 hX hXls
        go_upto_region 15 with fail
        generalize w6.alloc (.cells #[.int .i64 X.k, .int .i64 X.n, .slice xa X.ls.len xc, .slice xb X.ks.len xd] 29) = w7 at hn7 g7 B7 HB7 ⊢
        generalize w6.heap.size = N13 at hn7 ⊢
        obtain ⟨bq, oq, rfl, hq1, hq2⟩ := g7.some (by simp [Fo.len])
        obtain ⟨f0, f1, ⟨fa, fc, f2, gk⟩, _⟩ := hq2.first
        have hlo := R5.out.size
        have hz5 := HZ5.out
        obtain ⟨g', cap', w8, hrun, k8, same, z8, o1, o2, o3⟩ := (R3.out.later B7).append k' n' (R3.out.fresh hlo (Nat.le_refl _) gk) 26 (by
          have h1 := congrArg Fo.len RD.out.1
          rw [Fo.app_len] at h1
          have h2 := sbF_len C .nil done (by have := HAR.out; rw [← RD.out.1] at this; exact noneg_front this)
          rw [h2]; have := HLN.out; omega) (by have := HLN.out; omega) (by have := B7.size; omega)
        have hlen : (sbF C .nil done).len = j := by
          have h2 := sbF_len C .nil done (by have := HAR.out; rw [← RD.out.1] at this; exact noneg_front this)
          rw [h2]; exact RD.out.2.1
        rw [hlen] at hrun k8
        have HNX : Hid (TwR w5 A C (j + 1) (.slice (some ⟨g', 0, none⟩) (j + 1) cap') w8) := Lib.hid ⟨done.app (.cons k n ks .nil), r', by rw [fo_three]; exact RD.out.1, by rw [Fo.app_len, RD.out.2.1]; rfl, by rw [sbF_app, hF]; exact k8, by rw [sbF_app, hF]; exact allR_more RD.out.2.2 hXR, by
          have hb := Below.step R5.out B7 (Nat.le_refl _)
          have nv : ∀ q, q < w5.heap.size → some q ≠ u.ownBlock := fun q hq e => by have := (R3.out.lt q e.symm).1; omega
          exact ⟨o1.trans hb.os, o2.trans hb.tape, o3.trans hb.output, by have := hb.size; omega, fun q hq => (same q (Nat.lt_of_lt_of_le hq hb.size) (nv q hq)).trans (hb.block q hq)⟩⟩
        have HRUN := Lib.hid hrun
        obtain ⟨m0, m1, m2, m3⟩ := cells4 hn7
        have hN13 := lt_of_block hn7
        have fl := heap_new w7 (.cells #[.int .i64 k', .int .i64 n', .slice fa F.len fc] 38)
        clear hrun k8 same z8 o1 o2 o3 g7 gk hq1 hq2 hn7
        go_wp2_with (at_builtin; refine wpList_append_run (by rfl) _ _ _ (by rfl) (by rfl) (by rfl) HRUN.out ?_)
        go_roundw
        case rel => exact ⟨j + 1, _, rfl, by go_num, by omega, HNX⟩
        case measure => simp [intOf]; omega
    · have d3 : decide ((j : Int) < 3) = false := decide_eq_false (by omega)
      obtain ⟨done, rr, r1, r2, r3, r4, r5⟩ := hR.out
      have hrr : rr = .nil := Fo.len_zero (by have := congrArg Fo.len r1; rw [Fo.app_len] at this; have := HLN.out; omega)
      subst hrr
      rw [show done.app .nil = done from foNil3 done] at r1
      subst r1
      obtain ⟨cx, cc, hu, sK⟩ := r3.slice
      subst hu
      have HBR := Lib.hid (Below.step HB5.out r5 (Nat.le_refl _))
      have TR := Lib.hid (T5.out.later r5)
      have AR := Lib.hid (A5.out.below r5)
      have CR := Lib.hid (C5.out.below r5)
      have hz := r5.size
      have HAL := Lib.hid (parB_nil (A := done) (by have := HLN.out; omega) HAR.out)
      have hKl : (sbF C .nil done).len = 3 := by
        rw [sbF_len C .nil done (lvB_noneg (lvB_all.trans HAR.out))]; exact HLN.out.1
      have HKL := Lib.hid (parB_nil (A := sbF C .nil done) (by omega) r4)
      have H1 := qA_two' HT.out HAL.out
      have H3 := qA_two' HT.out HKL.out
      have H2 : (qA done .nil T).2 = 0 → (qA C .nil (qA done .nil T).1).2 = 0 ∨ (qA C .nil (qA done .nil T).1).2 = 2 := fun h0 => by
        obtain ⟨_, _, q3, q4⟩ := qA_no h0
        rw [q4]
        rcases qA_two' (P := C) (Q := .nil) (sh_q HT.out q3) HPC.out with ⟨h, _, _⟩ | h
        · exact .inl h
        · exact .inr h
      have HFN : (qA done .nil T).2 = 0 → (qA C .nil (qA done .nil T).1).2 = 0 → (qA (sbF C .nil done) .nil T).2 = 0 → (qA C .nil (qA done .nil T).1).1 = (qA (sbF C .nil done) .nil T).1 := fun h0 h2 h3 => by
        have e1 := (qA_no h0).2.2.2
        rw [e1] at h2 ⊢
        have := two_q HAR.out (by have := HLN.out; omega) h0 h2 h3
        exact congrArg Prod.fst this
      have C1 : Hid (Calls Try.prog 10 #[.agg #[.int .i64 T.k, .int .i64 T.n, .slice la T.ls.len lc, .slice ka T.ks.len kc], .slice y done.len yc, .slice none 0 0] wr (QaPost (qA done .nil T) wr)) := Lib.hid (hS done .nil T la ka y none lc kc yc 0 wr.heap.size wr (TR.out.2.1.mono TR.out.2.2.2) (TR.out.2.2.1.mono TR.out.2.2.2) (AR.out.mono hz) (SlIn.none _ _) (Nat.le_refl _))
      have C2 : Hid (∀ (W : World) (X : Tm) (xa xb : Option Addr) (xc xd N : Nat), Below wr.heap.size wr W → TmBox W N X xa xc xb xd → Calls Try.prog 10 #[.agg #[.int .i64 X.k, .int .i64 X.n, .slice xa X.ls.len xc, .slice xb X.ks.len xd], .slice z C.len zc, .slice none 0 0] W (QaPost (qA C .nil X) W)) := Lib.hid (fun W X xa xb xc xd N hb hv =>
        hS C .nil X xa xb z none xc xd zc 0 W.heap.size W (hv.2.1.mono hv.2.2.2) (hv.2.2.1.mono hv.2.2.2) (((CR.out.mono hz).below hb).mono hb.size) (SlIn.none _ _) (Nat.le_refl _))
      have C3 : Hid (∀ (W : World), Below wr.heap.size wr W → TmBox W N8 T la lc ka kc → Calls Try.prog 10 #[.agg #[.int .i64 T.k, .int .i64 T.n, .slice la T.ls.len lc, .slice ka T.ks.len kc], .slice cx (sbF C .nil done).len cc, .slice none 0 0] W (QaPost (qA (sbF C .nil done) .nil T) W)) := Lib.hid (fun W hb hv =>
        hS (sbF C .nil done) .nil T la ka cx none lc kc cc 0 W.heap.size W (hv.2.1.mono hv.2.2.2) (hv.2.2.1.mono hv.2.2.2) (((sK.weak (fun _ h => h.2)).below hb).mono hb.size) (SlIn.none _ _) (Nat.le_refl _))
      obtain ⟨⟨X, E⟩, hX⟩ : ∃ p, qA done .nil T = p := ⟨_, rfl⟩
      rw [hX] at H1 H2 HFN C1
      clear hX
      obtain ⟨⟨Y, f⟩, hY⟩ : ∃ p, qA C .nil X = p := ⟨_, rfl⟩
      change E = 0 → (qA C .nil X).2 = 0 ∨ (qA C .nil X).2 = 2 at H2
      change E = 0 → (qA C .nil X).2 = 0 → (qA (sbF C .nil done) .nil T).2 = 0 → (qA C .nil X).1 = (qA (sbF C .nil done) .nil T).1 at HFN
      have C2X : Hid (∀ (W : World) (xa xb : Option Addr) (xc xd N : Nat), Below wr.heap.size wr W → TmBox W N X xa xc xb xd → Calls Try.prog 10 #[.agg #[.int .i64 X.k, .int .i64 X.n, .slice xa X.ls.len xc, .slice xb X.ks.len xd], .slice z C.len zc, .slice none 0 0] W (QaPost (Y, f) W)) := Lib.hid (fun W xa xb xc xd N hb hv => by rw [← hY]; exact C2.out W X xa xb xc xd N hb hv)
      rw [hY] at H2 HFN
      clear hY C2
      obtain ⟨⟨Z, g⟩, hZ⟩ : ∃ p, qA (sbF C .nil done) .nil T = p := ⟨_, rfl⟩
      rw [hZ] at H3 HFN C3
      clear hZ
      have H1 : E = 0 ∨ E = 2 := H1.imp (fun h => h.1) id
      have H2 : E = 0 → f = 0 ∨ f = 2 := H2
      have H3 : g = 0 ∨ g = 2 := H3.imp (fun h => h.1) id
      have HFIN : Hid (E = 0 → f = 0 → g = 0 → Y = Z) := Lib.hid HFN
      have HH := Lib.hid (And.intro H1 (And.intro H2 H3))
      have KLN := Lib.hid hKl
      clear H1 H2 H3 HFN r2 r3 r4 r5 sK hz hKl hR
      have HB0 : Hid (Below wr.heap.size wr wr) := Lib.hid (Below.refl _ _)
      obtain ⟨t0, t1, t2, t3⟩ := TR.out.cells
      go_wp2_with fail
      refine C1.out.mono ?_
      rintro e w6 ⟨xa, xc, xb, xd, rfl, s1, s2, b6⟩
      have hbx : Below w6.heap.size w6 (w6.alloc (.cells #[.int .i64 X.k, .int .i64 X.n, .slice xa X.ls.len xc, .slice xb X.ks.len xd] 29)) := (Below.refl _ _).alloc (Nat.le_refl _) _
      have bx := Below.step b6 hbx (Nat.le_refl _)
      have HB7 := Lib.hid (Below.step HBR.out bx (Nat.le_refl _))
      have X7 := Lib.hid (TmBox.new (show TmIn w6 w6.heap.size X xa xc xb xd from ⟨s1, s2, Nat.le_refl _⟩))
      have T7 := Lib.hid (TR.out.later bx)
      have HL7 := Lib.hid (Below.step HB0.out bx (Nat.le_refl _))
      clear s1 s2 b6 hbx bx t0 t1 t2 t3 C1
      go_upto_region 19 with fail
      generalize w6.alloc (.cells #[.int .i64 X.k, .int .i64 X.n, .slice xa X.ls.len xc, .slice xb X.ks.len xd] 29) = w7 at HB7 HL7 X7 T7 ⊢
      generalize w6.heap.size = N6 at X7 ⊢
      obtain ⟨t0, t1, t2, t3⟩ := X7.out.cells
      have D2 := Lib.hid (C2X.out w7 _ _ _ _ _ HL7.out X7.out)
      go_wp2_with fail
      refine D2.out.mono ?_
      rintro e w8 ⟨pa, pc, pb, pd, rfl, s1, s2, b8⟩
      have hbx : Below w8.heap.size w8 (w8.alloc (.cells #[.int .i64 Y.k, .int .i64 Y.n, .slice pa Y.ls.len pc, .slice pb Y.ks.len pd] 29)) := (Below.refl _ _).alloc (Nat.le_refl _) _
      have bx := Below.step b8 hbx (Nat.le_refl _)
      have HB9 := Lib.hid (Below.step HB7.out bx (Nat.le_refl _))
      have Y9 := Lib.hid (TmBox.new (show TmIn w8 w8.heap.size Y pa pc pb pd from ⟨s1, s2, Nat.le_refl _⟩))
      have T9 := Lib.hid (T7.out.later bx)
      have HL9 := Lib.hid (Below.step HL7.out bx (Nat.le_refl _))
      clear s1 s2 b8 hbx bx t0 t1 t2 t3 D2
      go_upto_region 20 with fail
      generalize w8.alloc (.cells #[.int .i64 Y.k, .int .i64 Y.n, .slice pa Y.ls.len pc, .slice pb Y.ks.len pd] 29) = w9 at HB9 HL9 Y9 T9 ⊢
      generalize w8.heap.size = N8 at Y9 ⊢
      obtain ⟨t0, t1, t2, t3⟩ := T9.out.cells
      have D3 := Lib.hid (C3.out w9 HL9.out T9.out)
      go_wp2_with fail
      refine D3.out.mono ?_
      rintro e w10 ⟨ra, rc, rb, rd, rfl, s1, s2, b10⟩
      have hbx : Below w10.heap.size w10 (w10.alloc (.cells #[.int .i64 Z.k, .int .i64 Z.n, .slice ra Z.ls.len rc, .slice rb Z.ks.len rd] 29)) := (Below.refl _ _).alloc (Nat.le_refl _) _
      have bx := Below.step b10 hbx (Nat.le_refl _)
      have HB11 := Lib.hid (Below.step HB9.out bx (Nat.le_refl _))
      have Z11 := Lib.hid (TmBox.new (show TmIn w10 w10.heap.size Z ra rc rb rd from ⟨s1, s2, Nat.le_refl _⟩))
      have Y11 := Lib.hid (Y9.out.later bx)
      have HL11 := Lib.hid (Below.step HL9.out bx (Nat.le_refl _))
      clear s1 s2 b10 hbx bx t0 t1 t2 t3 D3
      go_upto_region 21 with fail
      generalize w10.alloc (.cells #[.int .i64 Z.k, .int .i64 Z.n, .slice ra Z.ls.len rc, .slice rb Z.ks.len rd] 29) = w11 at HB11 HL11 Z11 Y11 ⊢
      generalize w10.heap.size = N10 at Z11 ⊢
      obtain ⟨H1, H2, H3⟩ := HH.out
      rcases H1 with rfl | rfl
      case inr =>
        clear H2 H3
        go_wp2_with fail
        go_ret
        exact ⟨rfl, HB11.out⟩
      rcases H2 rfl with rfl | rfl
      case inr =>
        clear H3
        go_wp2_with fail
        go_ret
        exact ⟨rfl, HB11.out⟩
      rcases H3 with rfl | rfl
      case inr =>
        go_wp2_with fail
        go_ret
        exact ⟨rfl, HB11.out⟩
      have hYZ := HFIN.out rfl rfl rfl
      subst hYZ
      obtain ⟨t0, t1, t2, t3⟩ := Y11.out.cells
      obtain ⟨u0, u1, u2, u3⟩ := Z11.out.cells
      have HSM := Lib.hid (r13same_two Y11.out.2 Z11.out.2)
      clear HH HFIN
      go_wp2_with fail
      refine HSM.out.mono ?_
      rintro e w12 ⟨rfl, b12⟩
      have HB12 := Lib.hid (Below.step HB11.out b12 (Nat.le_refl _))
      clear b12
      go_wp2_with fail
      go_ret
      exact ⟨rfl, HB12.out⟩
end tsubTwice
end Go.Proofs.Ytcnhfoppfihhiaa
