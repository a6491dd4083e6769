/- A term that came in as an argument: what lies in memory. -/
import Derived.Test.YtokckghedpdfiaaTtold
import Derived.Lib.SmallJoins
namespace Go.Proofs.Ytokckghedpdfiaa
open Go.ChangeShapes Go.WideShapes Go.ChangeAt Go.RowKit

theorem cellsLevel : Try.prog.cellsOf 33 = 3 := by kernel_rfl
theorem cellsInt : Try.prog.cellsOf 3 = 1 := by kernel_rfl
theorem cellsLevels : Try.prog.cellsOf 22 = 1 := by kernel_rfl
theorem cellsU8 : Try.prog.cellsOf 5 = 1 := by kernel_rfl

section
variable {H : Type} {enc : TypeId × Value → H} {w : World} {base : Nat} {spare : Nat → Bool} {held : Bool}
/-- Levels one behind the other make a forest. -/
theorem forest {w : World} {P : Nat → Prop} {b : Nat} : ∀ (m o : Nat), (∀ i, i < m → ∃ (k n : Int) (ks : Fo) (a : Option Addr) (cap : Nat), w.cell? ⟨b, o + i * 3, none⟩ = some (.int .i64 k) ∧ w.cell? ⟨b, o + i * 3 + 1, none⟩ = some (.int .i64 n) ∧ w.cell? ⟨b, o + i * 3 + 2, none⟩ = some (.slice a ks.len cap) ∧ SlIn w P ks a cap) →
    ∃ F : Fo, F.len = m ∧ FoIn w P F b o
  | 0, _, _ => ⟨.nil, rfl, trivial⟩
  | m + 1, o, h => by
    obtain ⟨F, hl, hF⟩ := forest m (o + 3) (fun i hi => by
      obtain ⟨k, n, ks, a, cap, h0, h1, h2, h3⟩ := h (i + 1) (by omega)
      exact ⟨k, n, ks, a, cap, by rw [show o + 3 + i * 3 = o + (i + 1) * 3 by omega]; exact h0, by rw [show o + 3 + i * 3 = o + (i + 1) * 3 by omega]; exact h1, by rw [show o + 3 + i * 3 = o + (i + 1) * 3 by omega]; exact h2, h3⟩)
    obtain ⟨k, n, ks, a, cap, h0, h1, h2, h3⟩ := h 0 (by omega)
    simp only [Nat.zero_mul, Nat.add_zero] at h0 h1 h2
    exact ⟨.cons k n ks F, by simp [Fo.len, hl], FoIn.push h0 h1 h2 h3 hF⟩

theorem open_level (fuel : Nat) : ∀ (cs : List Value) (x : DataW H × List MemPlace), DataW.trod enc Try.prog w base spare held fuel 33 cs = some x →
    ∃ (k n : Int) (F : Fo) (a : Option Addr) (cap : Nat), cs = [.int .i64 k, .int .i64 n, .slice a F.len cap] ∧ SlIn w (· < w.heap.size) F a cap := by
  induction fuel using Nat.strongRecOn with
  | ind fuel ih =>
    intro cs x h
    obtain ⟨xs, n0, hf, _, hl, hxl, hg⟩ := DataW.trod_struct Try.underlying33 h
    rw [cellsLevel] at hl
    match cs, hl with
    | [c0, c1, c2], _ =>
      have hxl' : xs.length = 3 := hxl
      match xs, hxl' with
      | [y0, y1, y2], _ =>
        have t0 : DataW.trod enc Try.prog w base spare held n0 3 [c0] = some y0 := by have := hg 0 _ rfl; simpa [cellsInt] using this
        have t1 : DataW.trod enc Try.prog w base spare held n0 3 [c1] = some y1 := by have := hg 1 _ rfl; simpa [cellsInt] using this
        have t2 : DataW.trod enc Try.prog w base spare held n0 22 [c2] = some y2 := by have := hg 2 _ rfl; simpa [cellsLevels] using this
        obtain ⟨k, e0, _⟩ := DataW.trod_int Try.underlying3 t0
        obtain ⟨n, e1, _⟩ := DataW.trod_int Try.underlying3 t1
        injection e0 with e0 _
        injection e1 with e1 _
        subst e0 e1
        rcases DataW.trod_slice Try.underlying22 t2 with ⟨e2, _⟩ | ⟨a, len, cap, elems, rest, n1, hn1, e2, _, hb, hle, hm, hlen, hel, _⟩
        · injection e2 with e2 _
          subst e2
          exact ⟨k, n, .nil, none, 0, rfl, SlIn.none _ _⟩
        · injection e2 with e2 _
          subst e2
          rw [cellsLevel] at hel
          have each : ∀ i, i < len → ∃ (k n : Int) (ks : Fo) (a' : Option Addr) (cap : Nat), w.cell? (a.add (i * 3)) = some (.int .i64 k) ∧ w.cell? ((a.add (i * 3)).add 1) = some (.int .i64 n) ∧ w.cell? ((a.add (i * 3)).add 2) = some (.slice a' ks.len cap) ∧ SlIn w (· < w.heap.size) ks a' cap := by
            intro i hi
            have h1 := hel i hi
            rw [List.getElem?_eq_getElem (by omega)] at h1
            obtain ⟨cs', hc, ht⟩ := Option.bind_eq_some_iff.1 h1
            obtain ⟨k, n, ks, a', cap, rfl, hs⟩ := ih n1 (by omega) cs' _ ht
            obtain ⟨_, hcl, hat⟩ := World.cells?_some hc
            have q0 := hat 0 (by omega)
            have q1 := hat 1 (by omega)
            have q2 := hat 2 (by omega)
            exact ⟨k, n, ks, a', cap, by simpa [Addr.add] using q0, by simpa using q1, by simpa using q2, hs⟩
          rcases Nat.eq_zero_or_pos len with h0 | h0
          · subst h0
            exact ⟨k, n, .nil, some a, cap, rfl, ⟨Nat.zero_le _, hm, (fun h => by cases h), (fun h => by simp [Fo.len] at h)⟩⟩
          · have hsp : a.spot = none := by
              obtain ⟨k, n, ks, a', cap, q0, _⟩ := each 0 h0
              cases hs : a.spot with
              | none => rfl
              | some y => exfalso; simp [Addr.add, World.cell?, hs] at q0; split at q0 <;> simp at q0
            obtain ⟨b, o, sp⟩ := a
            have hsp' : sp = none := hsp
            subst hsp'
            have hadd : ∀ m, (⟨b, o, none⟩ : Addr).add m = ⟨b, o + m, none⟩ := fun m => by unfold Addr.add; split <;> simp_all
            simp only [hadd] at each
            have hbl : b < w.heap.size := by
              obtain ⟨k, n, ks, a', cap, q0, _⟩ := each 0 h0
              exact World.block_lt_of_cell? _ _ q0
            obtain ⟨F, hl, hF⟩ := forest len o each
            subst hl
            exact ⟨k, n, F, some ⟨b, o, none⟩, cap, rfl, ⟨hle, hm, (fun h => by cases h), (fun _ => ⟨b, o, rfl, hbl, hF⟩)⟩⟩
end
theorem laidOut : laidOutB Try.prog = true := by kernel_rfl
theorem t_cellsTerm : Try.prog.cellsOf 25 = 4 := by kernel_rfl
theorem t_cellsTerms : Try.prog.cellsOf 23 = 1 := by kernel_rfl
section
variable {H : Type} {enc : TypeId × Value → H} {w : World} {base : Nat} {spare : Nat → Bool} {held : Bool}
/-- Terms one behind the other make a forest. -/
theorem t_forest {w : World} {P : Nat → Prop} {b : Nat} : ∀ (m o : Nat), (∀ i, i < m → ∃ (T : Tm) (la : Option Addr) (lc : Nat) (a : Option Addr) (cap : Nat), w.cell? ⟨b, o + i * 4, none⟩ = some (.int .i64 T.k) ∧ w.cell? ⟨b, o + i * 4 + 1, none⟩ = some (.int .i64 T.n) ∧ w.cell? ⟨b, o + i * 4 + 2, none⟩ = some (.slice la T.ls.len lc) ∧ w.cell? ⟨b, o + i * 4 + 3, none⟩ = some (.slice a T.ks.len cap) ∧ SlIn w P T.ls la lc ∧ TlIn w P T.ks a cap) →
    ∃ F : Ft, F.len = m ∧ FtIn w P F b o
  | 0, _, _ => ⟨.nil, rfl, trivial⟩
  | m + 1, o, h => by
    obtain ⟨F, hl, hF⟩ := t_forest m (o + 4) (fun i hi => by
      have := h (i + 1) (by omega)
      rwa [show o + (i + 1) * 4 = o + 4 + i * 4 by omega] at this)
    obtain ⟨T, la, lc, a, cap, h0, h1, h2, h3, hs, ht⟩ := h 0 (by omega)
    simp only [Nat.zero_mul, Nat.add_zero] at h0 h1 h2 h3
    exact ⟨.cons T.k T.n T.ls T.ks F, by simp [Ft.len, hl], FtIn.push h0 h1 h2 hs h3 ht hF⟩

set_option maxRecDepth 100000 in
theorem open_levels {fuel : Nat} {c : Value} {x : DataW H × List MemPlace} (h : DataW.trod enc Try.prog w base spare held fuel 22 [c] = some x) :
    ∃ (F : Fo) (la : Option Addr) (lc : Nat), c = .slice la F.len lc ∧ SlIn w (· < w.heap.size) F la lc := by
  rcases DataW.trod_slice Try.underlying22 h with ⟨e2, _⟩ | ⟨a, len, cap, elems, rest, n1, hn1, e2, _, hb, hle, hm, hlen, hel, _⟩
  · injection e2 with e2 _
    subst e2
    exact ⟨.nil, none, 0, rfl, SlIn.none _ _⟩
  · injection e2 with e2 _
    subst e2
    rw [cellsLevel] at hel
    have each : ∀ i, i < len → ∃ (k n : Int) (ks : Fo) (a' : Option Addr) (cap : Nat), w.cell? (a.add (i * 3)) = some (.int .i64 k) ∧ w.cell? ((a.add (i * 3)).add 1) = some (.int .i64 n) ∧ w.cell? ((a.add (i * 3)).add 2) = some (.slice a' ks.len cap) ∧ SlIn w (· < w.heap.size) ks a' cap := by
      intro i hi
      have h1 := hel i hi
      rw [List.getElem?_eq_getElem (by omega)] at h1
      obtain ⟨cs', hc, ht⟩ := Option.bind_eq_some_iff.1 h1
      obtain ⟨k, n, ks, a', cap, rfl, hs⟩ := open_level n1 cs' _ ht
      obtain ⟨_, hcl, hat⟩ := World.cells?_some hc
      have q0 := hat 0 (by omega)
      have q1 := hat 1 (by omega)
      have q2 := hat 2 (by omega)
      exact ⟨k, n, ks, a', cap, by simpa [Addr.add] using q0, by simpa using q1, by simpa using q2, hs⟩
    rcases Nat.eq_zero_or_pos len with h0 | h0
    · subst h0
      exact ⟨.nil, some a, cap, rfl, ⟨Nat.zero_le _, hm, (fun h => by cases h), (fun h => by simp [Fo.len] at h)⟩⟩
    · have hsp : a.spot = none := by
        obtain ⟨k, n, ks, a', cap, q0, _⟩ := each 0 h0
        cases hs : a.spot with
        | none => rfl
        | some y => exfalso; simp [Addr.add, World.cell?, hs] at q0; split at q0 <;> simp at q0
      obtain ⟨b, o, sp⟩ := a
      have hsp' : sp = none := hsp
      subst hsp'
      have hadd : ∀ m, (⟨b, o, none⟩ : Addr).add m = ⟨b, o + m, none⟩ := fun m => by unfold Addr.add; split <;> simp_all
      simp only [hadd] at each
      have hbl : b < w.heap.size := by
        obtain ⟨k, n, ks, a', cap, q0, _⟩ := each 0 h0
        exact World.block_lt_of_cell? _ _ q0
      obtain ⟨F, hl, hF⟩ := forest len o each
      subst hl
      exact ⟨F, some ⟨b, o, none⟩, cap, rfl, ⟨hle, hm, (fun h => by cases h), (fun _ => ⟨b, o, rfl, hbl, hF⟩)⟩⟩

set_option maxRecDepth 100000 in
theorem open_term (fuel : Nat) : ∀ (cs : List Value) (x : DataW H × List MemPlace), DataW.trod enc Try.prog w base spare held fuel 25 cs = some x →
    ∃ (T : Tm) (la : Option Addr) (lc : Nat) (a : Option Addr) (cap : Nat), cs = [.int .i64 T.k, .int .i64 T.n, .slice la T.ls.len lc, .slice a T.ks.len cap] ∧ SlIn w (· < w.heap.size) T.ls la lc ∧ TlIn w (· < w.heap.size) T.ks a cap := by
  induction fuel using Nat.strongRecOn with
  | ind fuel ih =>
    intro cs x h
    obtain ⟨xs, n0, hf, _, hl, hxl, hg⟩ := DataW.trod_struct Try.underlying25 h
    rw [t_cellsTerm] at hl
    match cs, hl with
    | [c0, c1, c2, c3], _ =>
      have hxl' : xs.length = 4 := hxl
      match xs, hxl' with
      | [y0, y1, y2, y3], _ =>
        have t0 : DataW.trod enc Try.prog w base spare held n0 3 [c0] = some y0 := by have := hg 0 _ rfl; simpa [cellsInt] using this
        have t1 : DataW.trod enc Try.prog w base spare held n0 3 [c1] = some y1 := by have := hg 1 _ rfl; simpa [cellsInt] using this
        have t2 : DataW.trod enc Try.prog w base spare held n0 22 [c2] = some y2 := by have := hg 2 _ rfl; simpa [cellsLevels] using this
        have t3 : DataW.trod enc Try.prog w base spare held n0 23 [c3] = some y3 := by have := hg 3 _ rfl; simpa [t_cellsTerms] using this
        obtain ⟨k, e0, _⟩ := DataW.trod_int Try.underlying3 t0
        obtain ⟨n, e1, _⟩ := DataW.trod_int Try.underlying3 t1
        injection e0 with e0 _
        injection e1 with e1 _
        subst e0 e1
        obtain ⟨F, la, lc, e2, hs2⟩ := open_levels t2
        subst e2
        rcases DataW.trod_slice Try.underlying23 t3 with ⟨e3, _⟩ | ⟨a, len, cap, elems, rest, n1, hn1, e3, _, hb, hle, hm, hlen, hel, _⟩
        · injection e3 with e3 _
          subst e3
          exact ⟨⟨k, n, F, .nil⟩, la, lc, none, 0, rfl, hs2, TlIn.none _ _⟩
        · injection e3 with e3 _
          subst e3
          rw [t_cellsTerm] at hel
          have each : ∀ i, i < len → ∃ (T : Tm) (la : Option Addr) (lc : Nat) (a' : Option Addr) (cap : Nat), w.cell? (a.add (i * 4)) = some (.int .i64 T.k) ∧ w.cell? ((a.add (i * 4)).add 1) = some (.int .i64 T.n) ∧ w.cell? ((a.add (i * 4)).add 2) = some (.slice la T.ls.len lc) ∧ w.cell? ((a.add (i * 4)).add 3) = some (.slice a' T.ks.len cap) ∧ SlIn w (· < w.heap.size) T.ls la lc ∧ TlIn w (· < w.heap.size) T.ks a' cap := by
            intro i hi
            have h1 := hel i hi
            rw [List.getElem?_eq_getElem (by omega)] at h1
            obtain ⟨cs', hc, ht⟩ := Option.bind_eq_some_iff.1 h1
            obtain ⟨T, la, lc, a', cap, rfl, hs, hk⟩ := ih n1 (by omega) cs' _ ht
            obtain ⟨_, hcl, hat⟩ := World.cells?_some hc
            have q0 := hat 0 (by omega)
            have q1 := hat 1 (by omega)
            have q2 := hat 2 (by omega)
            have q3 := hat 3 (by omega)
            exact ⟨T, la, lc, a', cap, by simpa [Addr.add] using q0, by simpa using q1, by simpa using q2, by simpa using q3, hs, hk⟩
          rcases Nat.eq_zero_or_pos len with h0 | h0
          · subst h0
            exact ⟨⟨k, n, F, .nil⟩, la, lc, some a, cap, rfl, hs2, ⟨Nat.zero_le _, hm, (fun h => by cases h), (fun h => by simp [Ft.len] at h)⟩⟩
          · have hsp : a.spot = none := by
              obtain ⟨T, _, _, _, _, q0, _⟩ := each 0 h0
              cases hs : a.spot with
              | none => rfl
              | some y => exfalso; simp [Addr.add, World.cell?, hs] at q0; split at q0 <;> simp at q0
            obtain ⟨b, o, sp⟩ := a
            have hsp' : sp = none := hsp
            subst hsp'
            have hadd : ∀ m, (⟨b, o, none⟩ : Addr).add m = ⟨b, o + m, none⟩ := fun m => by unfold Addr.add; split <;> simp_all
            simp only [hadd] at each
            have hbl : b < w.heap.size := by
              obtain ⟨T, _, _, _, _, q0, _⟩ := each 0 h0
              exact World.block_lt_of_cell? _ _ q0
            obtain ⟨G, hl, hF⟩ := t_forest len o each
            subst hl
            exact ⟨⟨k, n, F, G⟩, la, lc, some ⟨b, o, none⟩, cap, rfl, hs2, ⟨hle, hm, (fun h => by cases h), (fun _ => ⟨b, o, rfl, hbl, hF⟩)⟩⟩
end
section
variable {H : Type} {enc : TypeId × Value → H} {W : World} {base : Nat} {spare : Nat → Bool} {held : Bool}
theorem arg_term {r : Reach} {b0 : Nat} {v : Value} {d : DataW H} {p : List MemPlace} (hv : Value.okWide Try.prog W r b0 25 v) (h : DataW.Trod enc Try.prog W base spare held 25 v d p) :
    ∃ (T : Tm) (la : Option Addr) (lc : Nat) (a : Option Addr) (cap : Nat), v = .agg #[.int .i64 T.k, .int .i64 T.n, .slice la T.ls.len lc, .slice a T.ks.len cap] ∧ TmIn W W.heap.size T la lc a cap := by
  obtain ⟨cs, rfl, hsz⟩ := okWide_struct Try.underlying25 hv
  obtain ⟨fuel, hf⟩ := h
  obtain ⟨T, la, lc, a, cap, hcs, hs, hk⟩ := open_term fuel _ _ hf
  refine ⟨T, la, lc, a, cap, ?_, hs, hk, Nat.le_refl _⟩
  have : cs.toList = [.int .i64 T.k, .int .i64 T.n, .slice la T.ls.len lc, .slice a T.ks.len cap] := by simpa [Value.cells] using hcs
  obtain ⟨l⟩ := cs
  simp only at this
  rw [this]
end
end Go.Proofs.Ytokckghedpdfiaa
