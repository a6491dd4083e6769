/- An arena that came in as an argument, and a list of lists of bytes: what lies in memory. -/
import Derived.Test.YtcaefdngdmnpmaaOpen3
import Derived.Test.YtcaefdngdmnpmaaNode
import Derived.Test.YtcaefdngdmnpmaaMarena
namespace Go.Proofs.Ytcaefdngdmnpmaa
open Go.ChangeShapes Go.WideShapes Go.ChangeAt Go.RowKit

theorem cellsNode : Try.prog.cellsOf 37 = 4 := by kernel_rfl
theorem cellsNodes : Try.prog.cellsOf 22 = 1 := by kernel_rfl
theorem cellsBytes : Try.prog.cellsOf 32 = 1 := by kernel_rfl
theorem no_spot {w : World} {a : Addr} {v : Value} (h : w.cell? a = some v) : a.spot = none := by
  cases hs : a.spot with
  | none => rfl
  | some y =>
    exfalso
    simp [World.cell?, hs] at h
    split at h <;> simp at h
section
variable {H : Type} {enc : TypeId × Value → H} {w : World} {base : Nat} {spare : Nat → Bool} {held : Bool}
theorem open_node {fuel : Nat} {cs : List Value} {x : DataW H × List MemPlace} (h : DataW.trod enc Try.prog w base spare held fuel 37 cs = some x) : ∃ y : Nd, cs = [.int .i64 y.k, .int .i64 y.n, .int .i64 y.a, .int .i64 y.b] := by
  obtain ⟨xs, n0, hf, _, hl, hxl, hg⟩ := DataW.trod_struct Try.underlying37 h
  rw [cellsNode] at hl
  match cs, hl with
  | [c0, c1, c2, c3], _ =>
    have hxl' : xs.length = 4 := hxl
    match xs, hxl' with
    | [y0, y1, y2, y3], _ =>
      have t0 : DataW.trod enc Try.prog w base spare held n0 3 [c0] = some y0 := by have := hg 0 _ rfl; simpa [cellsInt] using this
      have t1 : DataW.trod enc Try.prog w base spare held n0 3 [c1] = some y1 := by have := hg 1 _ rfl; simpa [cellsInt] using this
      have t2 : DataW.trod enc Try.prog w base spare held n0 3 [c2] = some y2 := by have := hg 2 _ rfl; simpa [cellsInt] using this
      have t3 : DataW.trod enc Try.prog w base spare held n0 3 [c3] = some y3 := by have := hg 3 _ rfl; simpa [cellsInt] using this
      obtain ⟨k, e0, _⟩ := DataW.trod_int Try.underlying3 t0
      obtain ⟨n, e1, _⟩ := DataW.trod_int Try.underlying3 t1
      obtain ⟨a, e2, _⟩ := DataW.trod_int Try.underlying3 t2
      obtain ⟨b, e3, _⟩ := DataW.trod_int Try.underlying3 t3
      injection e0 with e0 _
      injection e1 with e1 _
      injection e2 with e2 _
      injection e3 with e3 _
      subst e0 e1 e2 e3
      exact ⟨⟨k, n, a, b⟩, rfl⟩
theorem nodes_of {w : World} {b : Nat} : ∀ (m o : Nat), (∀ i, i < m → ∃ y : Nd, w.cell? ⟨b, o + i * 4, none⟩ = some (.int .i64 y.k) ∧ w.cell? ⟨b, o + i * 4 + 1, none⟩ = some (.int .i64 y.n) ∧ w.cell? ⟨b, o + i * 4 + 2, none⟩ = some (.int .i64 y.a) ∧ w.cell? ⟨b, o + i * 4 + 3, none⟩ = some (.int .i64 y.b)) →
    ∃ ns : List Nd, ns.length = m ∧ NsAt w ns b o
  | 0, _, _ => ⟨[], rfl, fun i x h => by simp at h⟩
  | m + 1, o, h => by
    obtain ⟨ns, hl, hns⟩ := nodes_of m (o + 4) (fun i hi => by
      obtain ⟨y, h0, h1, h2, h3⟩ := h (i + 1) (by omega)
      rw [show o + (i + 1) * 4 = o + 4 + i * 4 by omega] at h0 h1 h2 h3
      exact ⟨y, h0, h1, h2, h3⟩)
    obtain ⟨y, h0, h1, h2, h3⟩ := h 0 (by omega)
    refine ⟨y :: ns, by simp [hl], fun i x hx => ?_⟩
    cases i with
    | zero => simp at hx; subst hx; exact ⟨h0, h1, h2, h3⟩
    | succ i =>
      have := hns i x (by simpa using hx)
      rwa [show o + 4 + i * 4 = o + (i + 1) * 4 by omega] at this
theorem open_nodes {fuel : Nat} {c : Value} {x : DataW H × List MemPlace} (h : DataW.trod enc Try.prog w base spare held fuel 22 [c] = some x) :
    ∃ (ns : List Nd) (a : Option Addr) (cap : Nat), c = .slice a ns.length cap ∧ NsIn w (· < w.heap.size) ns a cap := by
  rcases DataW.trod_slice Try.underlying22 h with ⟨e2, _⟩ | ⟨a, len, cap, elems, rest, n1, hn1, e2, _, hb, hle, hm, hlen, hel, _⟩
  · injection e2 with e2 _
    subst e2
    exact ⟨[], none, 0, rfl, Nat.le_refl _, Nat.zero_le _, fun _ => rfl, fun h => by simp at h⟩
  · injection e2 with e2 _
    subst e2
    rw [cellsNode] at hel
    have each : ∀ i, i < len → ∃ y : Nd, w.cell? (a.add (i * 4)) = some (.int .i64 y.k) ∧ w.cell? ((a.add (i * 4)).add 1) = some (.int .i64 y.n) ∧ w.cell? ((a.add (i * 4)).add 2) = some (.int .i64 y.a) ∧ w.cell? ((a.add (i * 4)).add 3) = some (.int .i64 y.b) := by
      intro i hi
      have h1 := hel i hi
      rw [List.getElem?_eq_getElem (by omega)] at h1
      obtain ⟨cs', hc, ht⟩ := Option.bind_eq_some_iff.1 h1
      obtain ⟨y, rfl⟩ := open_node ht
      obtain ⟨_, hcl, hat⟩ := World.cells?_some hc
      have q0 := hat 0 (by omega)
      have q1 := hat 1 (by omega)
      have q2 := hat 2 (by omega)
      have q3 := hat 3 (by omega)
      exact ⟨y, by simpa [Addr.add] using q0, by simpa using q1, by simpa using q2, by simpa using q3⟩
    rcases Nat.eq_zero_or_pos len with h0 | h0
    · subst h0
      exact ⟨[], some a, cap, rfl, Nat.zero_le _, hm, (fun h => by cases h), fun h => by simp at h⟩
    · obtain ⟨y, q0, _⟩ := each 0 h0
      have hsp : a.spot = none := by
        have := no_spot q0
        simpa [Addr.add] using this
      obtain ⟨b, o, sp⟩ := a
      have hsp' : sp = none := hsp
      subst hsp'
      simp only [add_none] at each q0
      obtain ⟨ns, hl, hns⟩ := nodes_of len o each
      subst hl
      exact ⟨ns, some ⟨b, o, none⟩, cap, rfl, hle, hm, (fun h => by cases h), fun _ => ⟨b, o, rfl, World.block_lt_of_cell? _ _ q0, hns⟩⟩
end
section
variable {H : Type} {enc : TypeId × Value → H} {W : World} {base : Nat} {spare : Nat → Bool} {held : Bool}
theorem arg_arena {r : Reach} {b0 : Nat} {v : Value} {d : DataW H} {p : List MemPlace} (hv : Value.okWide Try.prog W r b0 24 v) (h : DataW.Trod enc Try.prog W base spare held 24 v d p) :
    ∃ (ns : List Nd) (a : Option Addr) (cap : Nat), v = .agg #[.slice a ns.length cap] ∧ NsIn W (· < W.heap.size) ns a cap := by
  obtain ⟨cs, rfl, hsz⟩ := okWide_struct Try.underlying24 hv
  obtain ⟨fuel, hf⟩ := h
  obtain ⟨xs, n0, hf0, _, hl, hxl, hg⟩ := DataW.trod_struct Try.underlying24 hf
  obtain ⟨l⟩ := cs
  have hl' : l.length = 1 := by
    have : Try.prog.cellsOf 24 = 1 := by kernel_rfl
    rw [this] at hl
    simpa [Value.cells] using hl
  match l, hl' with
  | [c], _ =>
    have hxl' : xs.length = 1 := hxl
    match xs, hxl' with
    | [y0], _ =>
      have t0 : DataW.trod enc Try.prog W base spare held n0 22 [c] = some y0 := by have := hg 0 _ rfl; simpa [cellsNodes, Value.cells] using this
      obtain ⟨ns, a, cap, rfl, hin⟩ := open_nodes t0
      exact ⟨ns, a, cap, rfl, hin⟩
/-- A list of bytes, read. -/
theorem open_bytes {fuel : Nat} {c : Value} {x : DataW H × List MemPlace} (h : DataW.trod enc Try.prog W base spare held fuel 32 [c] = some x) : ∃ (len : Nat) (a : Option Addr) (cap : Nat), c = .slice a len cap ∧ U8In W (· < W.heap.size) len a cap := by
  rcases open_ints Try.underlying32 Try.underlying5 cellsU8 h with ⟨hcs, _⟩ | ⟨a', len', cap', zs, hcs, _, hl, hm, hz, _, hcell, hwf⟩
  · injection hcs with hcs _
    subst hcs
    exact ⟨0, none, 0, rfl, Nat.le_refl _, Nat.zero_le _, fun _ => rfl, fun h => by omega⟩
  · injection hcs with hcs _
    subst hcs
    refine ⟨len', some a', cap', rfl, hl, hm, (fun h => by cases h), fun h0 => ?_⟩
    have hzl : len' ≤ zs.length := by rw [hz]; split <;> omega
    have q0 := hcell 0 (by omega)
    have hsp := no_spot q0
    obtain ⟨b, o, sp⟩ := a'
    have hsp' : sp = none := by simpa [Addr.add] using hsp
    subst hsp'
    simp only [add_none] at hcell q0
    refine ⟨b, o, rfl, World.block_lt_of_cell? _ _ q0, fun i hi => ?_⟩
    have hm' : zs.getD i 0 ∈ zs := by
      have e : zs.getD i 0 = zs[i] := by simp [List.getD_eq_getElem?_getD, show i < zs.length by omega]
      rw [e]; exact List.getElem_mem _
    have := u8_range (hwf _ hm')
    exact ⟨_, this.1, this.2, hcell i (by omega)⟩
theorem arg_rows {r : Reach} {b0 : Nat} {v : Value} {d : DataW H} {p : List MemPlace} (hv : Value.okWide Try.prog W r b0 31 v) (h : DataW.Trod enc Try.prog W base spare held 31 v d p) :
    ∃ (len : Nat) (a : Option Addr) (cap : Nat), v = .slice a len cap ∧ RowsIn W (· < W.heap.size) len a cap := by
  obtain ⟨a, len, cap, rfl⟩ := okWide_slice Try.underlying31 hv
  obtain ⟨fuel, hf⟩ := h
  rcases DataW.trod_slice Try.underlying31 hf with ⟨e2, _⟩ | ⟨a', len', cap', elems, rest, n1, hn1, e2, _, hb, hle, hm, hlen, hel, _⟩
  · have e3 : a = none ∧ len = 0 ∧ cap = 0 := by simpa [Value.cells] using e2
    obtain ⟨rfl, rfl, rfl⟩ := e3
    exact ⟨0, none, 0, rfl, Nat.le_refl _, Nat.zero_le _, fun _ => rfl, fun h => by omega⟩
  · have e3 : a = some a' ∧ len = len' ∧ cap = cap' := by simpa [Value.cells] using e2
    obtain ⟨rfl, rfl, rfl⟩ := e3
    rw [cellsBytes] at hel
    have each : ∀ i, i < len → ∃ (x : Option Addr) (l c : Nat), W.cell? (a'.add i) = some (.slice x l c) ∧ U8In W (· < W.heap.size) l x c := by
      intro i hi
      have h1 := hel i hi
      rw [List.getElem?_eq_getElem (by omega)] at h1
      obtain ⟨cs', hc, ht⟩ := Option.bind_eq_some_iff.1 h1
      obtain ⟨hl1, hcl, hat⟩ := World.cells?_some hc
      match cs', hl1 with
      | [c], _ =>
        obtain ⟨l, x, cp, rfl, hu⟩ := open_bytes ht
        have q0 := hat 0 (by omega)
        exact ⟨x, l, cp, by simpa [Addr.add] using q0, hu⟩
    refine ⟨len, some a', cap, rfl, hle, hm, (fun h => by cases h), fun h0 => ?_⟩
    obtain ⟨_, _, _, q0, _⟩ := each 0 h0
    have hsp := no_spot q0
    obtain ⟨b, o, sp⟩ := a'
    have hsp' : sp = none := by simpa [Addr.add] using hsp
    subst hsp'
    simp only [add_none] at each q0
    exact ⟨b, o, rfl, World.block_lt_of_cell? _ _ q0, each⟩
end
end Go.Proofs.Ytcaefdngdmnpmaa
