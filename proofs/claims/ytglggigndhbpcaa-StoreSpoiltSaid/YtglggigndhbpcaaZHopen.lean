/- Lists of numbers, bytes and clauses that came in as arguments: what lies in memory. -/
import Derived.Test.YtglggigndhbpcaaZBase
import Derived.Lib.SmallJoins
namespace Go.Proofs.Ytglggigndhbpcaa
open Go.ChangeShapes Go.WideShapes Go.ChangeAt Go.RowKit

theorem h_cellsInt : Try.prog.cellsOf 3 = 1 := by kernel_rfl
theorem h_cellsU8 : Try.prog.cellsOf 5 = 1 := by kernel_rfl
theorem h_cellsAtom : Try.prog.cellsOf 27 = 2 := by kernel_rfl
theorem h_cellsAtoms : Try.prog.cellsOf 28 = 1 := by kernel_rfl
theorem h_cellsClause : Try.prog.cellsOf 35 = 3 := by kernel_rfl
theorem h_laidOut : laidOutB Try.prog = true := by kernel_rfl
section
variable {H : Type} {enc : TypeId × Value → H} {W : World} {base : Nat} {spare : Nat → Bool} {held : Bool}
set_option maxRecDepth 100000 in
theorem h_arg_nums {q : IntKind} {ty el : TypeId} (ht : Try.prog.underlying ty = some (.slice el)) (he : Try.prog.underlying el = some (.int q)) (hc : Try.prog.cellsOf el = 1) {r : Reach} {b0 : Nat} {v : Value} {d : DataW H} {p : List MemPlace} (hv : Value.okWide Try.prog W r b0 ty v) (h : DataW.Trod enc Try.prog W base spare held ty v d p) :
    ∃ (l : List Int) (a : Option Addr) (cap : Nat), v = .slice a l.length cap ∧ l.length ≤ cap ∧ cap ≤ maxLen ∧ (a = none → cap = 0) ∧ (∀ z ∈ l, (Lit.int q z).wf = true) ∧ (0 < l.length → ∃ b o, a = some ⟨b, o, none⟩ ∧ b < W.heap.size ∧ ∀ i, i < l.length → W.cell? ⟨b, o + i, none⟩ = some (.int q (l.getD i 0))) := by
  obtain ⟨a, len, cap, rfl⟩ := okWide_slice ht hv
  obtain ⟨fuel, hf⟩ := h
  rcases open_ints ht he hc hf with ⟨hcs, _⟩ | ⟨a', len', cap', zs, hcs, _, hl, hm, hz, _, hcell, hwf⟩
  · have hcs' : a = none ∧ len = 0 ∧ cap = 0 := by simpa [Value.cells] using hcs
    obtain ⟨rfl, rfl, rfl⟩ := hcs'
    exact ⟨[], none, 0, rfl, Nat.le_refl _, Nat.zero_le _, fun _ => rfl, by simp, by simp⟩
  · have hcs' : a = some a' ∧ len = len' ∧ cap = cap' := by simpa [Value.cells] using hcs
    obtain ⟨rfl, rfl, rfl⟩ := hcs'
    have hzl : len ≤ zs.length := by rw [hz]; split <;> omega
    have hlen : (zs.take len).length = len := by simp; omega
    refine ⟨zs.take len, some a', cap, by rw [hlen], by omega, hm, (fun h => by cases h), fun z hz => hwf z (List.mem_of_mem_take hz), fun h0 => ?_⟩
    rw [hlen] at h0 ⊢
    have hget : ∀ i, i < len → (zs.take len).getD i 0 = zs.getD i 0 := fun i hi => by simp [List.getD_eq_getElem?_getD, hi]
    have q0 := hcell 0 (by omega)
    have hsp : a'.spot = none := by
      cases hs : a'.spot with
      | none => rfl
      | some y => exfalso; simp [Addr.add, World.cell?, hs] at q0; split at q0 <;> simp at q0
    obtain ⟨b, o, sp⟩ := a'
    have hsp' : sp = none := hsp
    subst hsp'
    have hadd : ∀ m, (⟨b, o, none⟩ : Addr).add m = ⟨b, o + m, none⟩ := fun m => by unfold Addr.add; split <;> simp_all
    simp only [hadd] at hcell
    refine ⟨b, o, rfl, World.block_lt_of_cell? _ _ (hcell 0 (by omega)), fun i hi => ?_⟩
    rw [hget i hi]
    exact hcell i (by omega)
set_option maxRecDepth 100000 in
theorem h_arg_ints {r : Reach} {b0 : Nat} {v : Value} {d : DataW H} {p : List MemPlace} (hv : Value.okWide Try.prog W r b0 23 v) (h : DataW.Trod enc Try.prog W base spare held 23 v d p) :
    ∃ (l : List Int) (a : Option Addr) (cap : Nat), v = .slice a l.length cap ∧ IntsIn W (· < W.heap.size) l a cap := by
  obtain ⟨l, a, cap, h1, h2, h3, h4, _, h5⟩ := h_arg_nums Try.underlying23 Try.underlying3 h_cellsInt hv h
  exact ⟨l, a, cap, h1, h2, h3, h4, h5⟩
theorem h_u8_range {a : Int} (w0 : (Lit.int .u8 a).wf = true) : 0 ≤ a ∧ a < 256 := by
  have e1 : IntKind.u8.min = 0 := rfl
  have e2 : IntKind.u8.max = 255 := rfl
  simp only [Lit.wf, e1, e2, Bool.and_eq_true, decide_eq_true_eq] at w0
  omega
set_option maxRecDepth 100000 in
theorem h_arg_bytes {r : Reach} {b0 : Nat} {v : Value} {d : DataW H} {p : List MemPlace} (hv : Value.okWide Try.prog W r b0 39 v) (h : DataW.Trod enc Try.prog W base spare held 39 v d p) :
    ∃ (len : Nat) (a : Option Addr) (cap : Nat), v = .slice a len cap ∧ ByIn W (· < W.heap.size) len a cap := by
  obtain ⟨l, a, cap, h1, h2, h3, h4, hwf, h5⟩ := h_arg_nums Try.underlying39 Try.underlying5 h_cellsU8 hv h
  refine ⟨l.length, a, cap, h1, h2, h3, h4, fun h0 => ?_⟩
  obtain ⟨b, o, ha, hb, hc⟩ := h5 h0
  refine ⟨b, o, ha, hb, fun i hi => ?_⟩
  have hm : l.getD i 0 ∈ l := by
    have e : l.getD i 0 = l[i] := by simp [List.getD_eq_getElem?_getD, hi]
    rw [e]; exact List.getElem_mem hi
  have := h_u8_range (hwf _ hm)
  exact ⟨_, this.1, this.2, hc i hi⟩

theorem spot_none {w : World} {a : Addr} {v : Value} (h : w.cell? (a.add 0) = some v) : a.spot = none := by
  cases hs : a.spot with
  | none => rfl
  | some y => exfalso; simp [Addr.add, World.cell?, hs] at h; split at h <;> simp at h
set_option maxRecDepth 100000 in
theorem open_atom {fuel : Nat} {cs : List Value} {x : DataW H × List MemPlace} (h : DataW.trod enc Try.prog W base spare held fuel 27 cs = some x) :
    ∃ v o : Int, cs = [.int .i64 v, .int .i64 o] := by
  obtain ⟨xs, n0, hf, _, hl, hxl, hg⟩ := DataW.trod_struct Try.underlying27 h
  rw [h_cellsAtom] at hl
  match cs, hl with
  | [c0, c1], _ =>
    have hxl' : xs.length = 2 := hxl
    match xs, hxl' with
    | [y0, y1], _ =>
      have t0 : DataW.trod enc Try.prog W base spare held n0 3 [c0] = some y0 := by have := hg 0 _ rfl; simpa [h_cellsInt] using this
      have t1 : DataW.trod enc Try.prog W base spare held n0 3 [c1] = some y1 := by have := hg 1 _ rfl; simpa [h_cellsInt] using this
      obtain ⟨v, e0, _⟩ := DataW.trod_int Try.underlying3 t0
      obtain ⟨o, e1, _⟩ := DataW.trod_int Try.underlying3 t1
      injection e0 with e0 _
      injection e1 with e1 _
      subst e0 e1
      exact ⟨v, o, rfl⟩
/-- A list out of what stands at each of its places. -/
theorem list_of {α : Type} {p : Nat → α → Prop} (d : α) : ∀ n : Nat, (∀ i, i < n → ∃ x, p i x) → ∃ l : List α, l.length = n ∧ ∀ i, i < n → p i (l.getD i d)
  | 0, _ => ⟨[], rfl, fun i h => by omega⟩
  | n + 1, h => by
    obtain ⟨l, hl, hp⟩ := list_of d n (fun i hi => h i (by omega))
    obtain ⟨x, hx⟩ := h n (by omega)
    refine ⟨l ++ [x], by simp [hl], fun i hi => ?_⟩
    rcases Nat.lt_or_ge i n with h1 | h1
    · have := hp i h1
      rwa [List.getD_eq_getElem?_getD, List.getElem?_append_left (by omega), ← List.getD_eq_getElem?_getD]
    · obtain rfl : i = n := by omega
      rw [List.getD_eq_getElem?_getD, List.getElem?_append_right (by omega), hl]
      simpa using hx
set_option maxRecDepth 100000 in
theorem open_atoms {fuel : Nat} {cs : List Value} {x : DataW H × List MemPlace} (h : DataW.trod enc Try.prog W base spare held fuel 28 cs = some x) :
    ∃ (l : List At) (a : Option Addr) (cap : Nat), cs = [.slice a l.length cap] ∧ AtsIn W (· < W.heap.size) l a cap := by
  rcases DataW.trod_slice Try.underlying28 h with ⟨e2, _⟩ | ⟨a, len, cap, elems, rest, n1, hn1, e2, _, hb, hle, hm, hlen, hel, _⟩
  · subst e2
    exact ⟨[], none, 0, rfl, AtsIn.none _ _⟩
  · subst e2
    rw [h_cellsAtom] at hel
    have each : ∀ i, i < len → ∃ x : At, W.cell? ((a.add (i * 2)).add 0) = some (.int .i64 x.1) ∧ W.cell? ((a.add (i * 2)).add 1) = some (.int .i64 x.2) := by
      intro i hi
      have h1 := hel i hi
      rw [List.getElem?_eq_getElem (by omega)] at h1
      obtain ⟨cs', hc, ht⟩ := Option.bind_eq_some_iff.1 h1
      obtain ⟨v, o, rfl⟩ := open_atom ht
      obtain ⟨_, hcl, hat⟩ := World.cells?_some hc
      have q0 := hat 0 (by omega)
      have q1 := hat 1 (by omega)
      exact ⟨(v, o), by simpa using q0, by simpa using q1⟩
    obtain ⟨l, hl, hp⟩ := list_of at0 len each
    subst hl
    rcases Nat.eq_zero_or_pos l.length with h0 | h0
    · exact ⟨l, some a, cap, rfl, hle, hm, (fun h => by cases h), (fun h => by omega)⟩
    · have hsp : a.spot = none := spot_none (v := .int .i64 (l.getD 0 at0).1) (by have := (hp 0 h0).1; simpa [Addr.add] using this)
      obtain ⟨b, o, sp⟩ := a
      have hsp' : sp = none := hsp
      subst hsp'
      have hadd : ∀ b o m, (⟨b, o, none⟩ : Addr).add m = ⟨b, o + m, none⟩ := fun b o m => by unfold Addr.add; split <;> simp_all
      simp only [hadd, Nat.add_zero] at hp
      exact ⟨l, some ⟨b, o, none⟩, cap, rfl, hle, hm, (fun h => by cases h), fun _ => ⟨b, o, rfl, World.block_lt_of_cell? _ _ (hp 0 h0).1, fun i hi => ⟨(hp i hi).1, (hp i hi).2⟩⟩⟩
set_option maxRecDepth 100000 in
theorem open_clause {fuel : Nat} {cs : List Value} {x : DataW H × List MemPlace} (h : DataW.trod enc Try.prog W base spare held fuel 35 cs = some x) :
    ∃ (l : List At) (a : Option Addr) (cap : Nat) (v o : Int), cs = [.slice a l.length cap, .int .i64 v, .int .i64 o] ∧ AtsIn W (· < W.heap.size) l a cap := by
  obtain ⟨xs, n0, hf, _, hl, hxl, hg⟩ := DataW.trod_struct Try.underlying35 h
  rw [h_cellsClause] at hl
  match cs, hl with
  | [c0, c1, c2], _ =>
    have hxl' : xs.length = 2 := hxl
    match xs, hxl' with
    | [y0, y1], _ =>
      have t0 : DataW.trod enc Try.prog W base spare held n0 28 [c0] = some y0 := by have := hg 0 _ rfl; simpa [h_cellsAtoms] using this
      have t1 : DataW.trod enc Try.prog W base spare held n0 27 [c1, c2] = some y1 := by have := hg 1 _ rfl; simpa [h_cellsAtom] using this
      obtain ⟨l, a, cap, e0, hin⟩ := open_atoms t0
      obtain ⟨v, o, e1⟩ := open_atom t1
      injection e0 with e0 _
      injection e1 with e1 e2
      injection e2 with e2 _
      subst e0 e1 e2
      exact ⟨l, a, cap, v, o, rfl, hin⟩
set_option maxRecDepth 100000 in
theorem h_arg_clauses {r : Reach} {b0 : Nat} {v : Value} {d : DataW H} {p : List MemPlace} (hv : Value.okWide Try.prog W r b0 22 v) (h : DataW.Trod enc Try.prog W base spare held 22 v d p) :
    ∃ (l : List Cl) (a : Option Addr) (cap : Nat), v = .slice a l.length cap ∧ ClsIn W (· < W.heap.size) l a cap := by
  obtain ⟨a, len, cap, rfl⟩ := okWide_slice Try.underlying22 hv
  obtain ⟨fuel, hf⟩ := h
  rcases DataW.trod_slice Try.underlying22 hf with ⟨hcs, _⟩ | ⟨a', len', cap', elems, rest, n1, hn1, hcs, _, hb, hle, hm, hlen, hel, _⟩
  · have hcs' : a = none ∧ len = 0 ∧ cap = 0 := by simpa [Value.cells] using hcs
    obtain ⟨rfl, rfl, rfl⟩ := hcs'
    exact ⟨[], none, 0, rfl, ClsIn.none _ _⟩
  · have hcs' : a = some a' ∧ len = len' ∧ cap = cap' := by simpa [Value.cells] using hcs
    obtain ⟨rfl, rfl, rfl⟩ := hcs'
    rw [h_cellsClause] at hel
    have each : ∀ i, i < len → ∃ c : Cl, (∃ x' c', W.cell? ((a'.add (i * 3)).add 0) = some (.slice x' c.1.length c') ∧ AtsIn W (· < W.heap.size) c.1 x' c') ∧ W.cell? ((a'.add (i * 3)).add 1) = some (.int .i64 c.2.1) ∧ W.cell? ((a'.add (i * 3)).add 2) = some (.int .i64 c.2.2) := by
      intro i hi
      have h1 := hel i hi
      rw [List.getElem?_eq_getElem (by omega)] at h1
      obtain ⟨cs', hc, ht⟩ := Option.bind_eq_some_iff.1 h1
      obtain ⟨l, x', c', v, o, rfl, hin⟩ := open_clause ht
      obtain ⟨_, hcl, hat⟩ := World.cells?_some hc
      have q0 := hat 0 (by omega)
      have q1 := hat 1 (by omega)
      have q2 := hat 2 (by omega)
      exact ⟨(l, (v, o)), ⟨x', c', by simpa using q0, hin⟩, by simpa using q1, by simpa using q2⟩
    obtain ⟨l, hl, hp⟩ := list_of cl0 len each
    subst hl
    rcases Nat.eq_zero_or_pos l.length with h0 | h0
    · exact ⟨l, some a', cap, rfl, hle, hm, (fun h => by cases h), (fun h => by omega)⟩
    · have hsp : a'.spot = none := by
        obtain ⟨⟨x', c', q, _⟩, _⟩ := hp 0 h0
        exact spot_none (by simpa [Addr.add] using q)
      obtain ⟨b, o, sp⟩ := a'
      have hsp' : sp = none := hsp
      subst hsp'
      have hadd : ∀ b o m, (⟨b, o, none⟩ : Addr).add m = ⟨b, o + m, none⟩ := fun b o m => by unfold Addr.add; split <;> simp_all
      simp only [hadd, Nat.add_zero] at hp
      refine ⟨l, some ⟨b, o, none⟩, cap, rfl, hle, hm, (fun h => by cases h), fun _ => ⟨b, o, rfl, ?_, fun i hi => hp i hi⟩⟩
      obtain ⟨⟨x', c', q, _⟩, _⟩ := hp 0 h0
      exact World.block_lt_of_cell? _ _ q
end
end Go.Proofs.Ytglggigndhbpcaa
