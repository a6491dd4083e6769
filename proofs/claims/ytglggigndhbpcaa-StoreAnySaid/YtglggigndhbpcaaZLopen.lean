/- Stores, clauses and atoms that came in as arguments: what lies in memory, and how many there may be. -/
import Derived.Test.YtglggigndhbpcaaZHopen
import Derived.SizedLaws
namespace Go.Proofs.Ytglggigndhbpcaa
open Go.ChangeShapes Go.WideShapes Go.ChangeAt Go.RowKit

theorem l_cellsStore : Try.prog.cellsOf 25 = 3 := by kernel_rfl
theorem l_cellsClauses : Try.prog.cellsOf 22 = 1 := by kernel_rfl
theorem l_cellsInts : Try.prog.cellsOf 23 = 1 := by kernel_rfl
theorem l_bytesAtom : Try.prog.bytesOf 27 = 16 := by kernel_rfl
/-- What a datum's weights come to is within reach. -/
def Small {H : Type} (t : TypeId) (d : DataW H) : Prop := ∀ n ∈ d.weights Try.prog t, n ≤ reachBytes
theorem small_of {H : Type} {ts : List TypeId} {ds : List (DataW H)} (h : (DataW.weightsEach Try.prog ts ds).all (· ≤ reachBytes) = true) {j : Nat} {t : TypeId} {d : DataW H} (ht : ts[j]? = some t) (hd : ds[j]? = some d) : Small t d := fun n hn => by
  have := List.all_eq_true.1 h n (DataW.weights_mem_each ht hd n hn)
  simpa using this
theorem mem_weightsAll {H : Type} {e : TypeId} : ∀ {l : List (DataW H)} {d : DataW H}, d ∈ l → ∀ n ∈ d.weights Try.prog e, n ∈ DataW.weightsAll Try.prog e l
  | x :: r, d, hd, n, hn => by
    rcases List.mem_cons.1 hd with rfl | h
    · exact List.mem_append.2 (.inl hn)
    · exact List.mem_append.2 (.inr (mem_weightsAll h n hn))
section
variable {H : Type} {enc : TypeId × Value → H} {W : World} {base : Nat} {spare : Nat → Bool} {held : Bool}
set_option maxRecDepth 100000 in
theorem l_atoms {fuel : Nat} {cs : List Value} {x : DataW H × List MemPlace} (h : DataW.trod enc Try.prog W base spare held fuel 28 cs = some x) :
    ∃ (l : List At) (a : Option Addr) (cap : Nat), cs = [.slice a l.length cap] ∧ AtsIn W (· < W.heap.size) l a cap ∧ (Small 28 x.1 → l.length ≤ reachBytes) := by
  obtain ⟨l, a, cap, e, hin⟩ := open_atoms h
  refine ⟨l, a, cap, e, hin, fun hs => ?_⟩
  rcases DataW.trod_slice Try.underlying28 h with ⟨e2, _⟩ | ⟨a', len', cap', elems, rest, n1, hn1, e2, hx, hb, hle, hm, hlen, hel, _⟩
  · rw [e2] at e
    injection e with e _
    injection e with _ e _
    omega
  · rw [e2] at e
    injection e with e _
    injection e with _ e _
    have := hs ((elems.length + rest.length) * 16) (by rw [hx]; simp [DataW.weights, Try.underlying28, l_bytesAtom])
    omega
set_option maxRecDepth 100000 in
theorem l_ints {fuel : Nat} {cs : List Value} {x : DataW H × List MemPlace} (h : DataW.trod enc Try.prog W base spare held fuel 23 cs = some x) :
    ∃ (l : List Int) (a : Option Addr) (cap : Nat), cs = [.slice a l.length cap] ∧ IntsIn W (· < W.heap.size) l a cap := by
  rcases open_ints Try.underlying23 Try.underlying3 h_cellsInt h with ⟨hcs, _⟩ | ⟨a', len', cap', zs, hcs, _, hl, hm, hz, _, hcell, hwf⟩
  · exact ⟨[], none, 0, hcs, IntsIn.none _ _⟩
  · have hzl : len' ≤ zs.length := by rw [hz]; split <;> omega
    have hlen : (zs.take len').length = len' := by simp; omega
    refine ⟨zs.take len', some a', cap', by rw [hlen]; exact hcs, by omega, hm, (fun h => by cases h), fun h0 => ?_⟩
    rw [hlen] at h0 ⊢
    have hget : ∀ i, i < len' → (zs.take len').getD i 0 = zs.getD i 0 := fun i hi => by simp [List.getD_eq_getElem?_getD, hi]
    have q0 := hcell 0 (by omega)
    have hsp : a'.spot = none := spot_none q0
    obtain ⟨b, o, sp⟩ := a'
    have hsp' : sp = none := hsp
    subst hsp'
    have hadd : ∀ m, (⟨b, o, none⟩ : Addr).add m = ⟨b, o + m, none⟩ := fun m => by unfold Addr.add; split <;> simp_all
    simp only [hadd] at hcell
    refine ⟨b, o, rfl, World.block_lt_of_cell? _ _ (hcell 0 (by omega)), fun i hi => ?_⟩
    rw [hget i hi]
    exact hcell i (by omega)
set_option maxRecDepth 100000 in
theorem l_clause {fuel : Nat} {cs : List Value} {x : DataW H × List MemPlace} (h : DataW.trod enc Try.prog W base spare held fuel 35 cs = some x) :
    ∃ (l : List At) (a : Option Addr) (cap : Nat) (v o : Int), cs = [.slice a l.length cap, .int .i64 v, .int .i64 o] ∧ AtsIn W (· < W.heap.size) l a cap ∧ (Small 35 x.1 → l.length ≤ reachBytes) := by
  obtain ⟨xs, n0, hf, hx, hl, hxl, hg⟩ := DataW.trod_struct Try.underlying35 h
  rw [h_cellsClause] at hl
  match cs, hl with
  | [c0, c1, c2], _ =>
    have hxl' : xs.length = 2 := hxl
    match xs, hxl' with
    | [y0, y1], _ =>
      have t0 : DataW.trod enc Try.prog W base spare held n0 28 [c0] = some y0 := by have := hg 0 _ rfl; simpa [h_cellsAtoms] using this
      have t1 : DataW.trod enc Try.prog W base spare held n0 27 [c1, c2] = some y1 := by have := hg 1 _ rfl; simpa [h_cellsAtom] using this
      obtain ⟨l, a, cap, e0, hin, hsm⟩ := l_atoms t0
      obtain ⟨v, o, e1⟩ := open_atom t1
      injection e0 with e0 _
      injection e1 with e1 e2
      injection e2 with e2 _
      subst e0 e1 e2
      refine ⟨l, a, cap, v, o, rfl, hin, fun hs => hsm (fun n hn => hs n ?_)⟩
      rw [hx]
      simp only [List.map_cons, List.map_nil, DataW.weights, Try.underlying35]
      exact List.mem_append.2 (.inl hn)
set_option maxRecDepth 100000 in
theorem l_clauses {fuel : Nat} {cs : List Value} {x : DataW H × List MemPlace} (h : DataW.trod enc Try.prog W base spare held fuel 22 cs = some x) :
    ∃ (l : List Cl) (a : Option Addr) (cap : Nat), cs = [.slice a l.length cap] ∧ ClsIn W (· < W.heap.size) l a cap ∧ (Small 22 x.1 → ∀ c ∈ l, c.1.length ≤ reachBytes) := by
  rcases DataW.trod_slice Try.underlying22 h with ⟨hcs, _⟩ | ⟨a', len', cap', elems, rest, n1, hn1, hcs, hx, hb, hle, hm, hlen, hel, _⟩
  · exact ⟨[], none, 0, hcs, ClsIn.none _ _, fun _ c hc => by cases hc⟩
  · rw [h_cellsClause] at hel
    have each : ∀ i, i < len' → ∃ c : Cl, ((∃ x' c', W.cell? ((a'.add (i * 3)).add 0) = some (.slice x' c.1.length c') ∧ AtsIn W (· < W.heap.size) c.1 x' c') ∧ W.cell? ((a'.add (i * 3)).add 1) = some (.int .i64 c.2.1) ∧ W.cell? ((a'.add (i * 3)).add 2) = some (.int .i64 c.2.2)) ∧ (Small 22 x.1 → c.1.length ≤ reachBytes) := by
      intro i hi
      have h1 := hel i hi
      rw [List.getElem?_eq_getElem (by omega)] at h1
      obtain ⟨cs', hc, ht⟩ := Option.bind_eq_some_iff.1 h1
      obtain ⟨l, x', c', v, o, rfl, hin, hsm⟩ := l_clause ht
      obtain ⟨_, hcl, hat⟩ := World.cells?_some hc
      have q0 := hat 0 (by omega)
      have q1 := hat 1 (by omega)
      have q2 := hat 2 (by omega)
      refine ⟨(l, (v, o)), ⟨⟨x', c', by simpa using q0, hin⟩, by simpa using q1, by simpa using q2⟩, fun hs => hsm (fun n hn => hs n ?_)⟩
      rw [hx]
      simp only [DataW.weights, Try.underlying22]
      exact List.mem_cons_of_mem _ (List.mem_append.2 (.inl (mem_weightsAll (List.mem_map.2 ⟨_, List.getElem_mem (by omega), rfl⟩) n hn)))
    obtain ⟨l, hl, hp⟩ := list_of cl0 len' each
    subst hl
    have hsm : Small 22 x.1 → ∀ c ∈ l, c.1.length ≤ reachBytes := fun hs c hc => by
      obtain ⟨i, hi, rfl⟩ := List.getElem_of_mem hc
      have := (hp i hi).2 hs
      rwa [List.getD_eq_getElem?_getD, List.getElem?_eq_getElem hi] at this
    rcases Nat.eq_zero_or_pos l.length with h0 | h0
    · exact ⟨l, some a', cap', hcs, ⟨hle, hm, (fun h => by cases h), (fun h => by omega)⟩, hsm⟩
    · have hsp : a'.spot = none := by
        obtain ⟨⟨⟨x', c', q, _⟩, _⟩, _⟩ := hp 0 h0
        exact spot_none (by simpa [Addr.add] using q)
      obtain ⟨b, o, sp⟩ := a'
      have hsp' : sp = none := hsp
      subst hsp'
      have hadd : ∀ b o m, (⟨b, o, none⟩ : Addr).add m = ⟨b, o + m, none⟩ := fun b o m => by unfold Addr.add; split <;> simp_all
      simp only [hadd, Nat.add_zero] at hp
      refine ⟨l, some ⟨b, o, none⟩, cap', hcs, ⟨hle, hm, (fun h => by cases h), fun _ => ⟨b, o, rfl, ?_, fun i hi => (hp i hi).1⟩⟩, hsm⟩
      obtain ⟨⟨⟨x', c', q, _⟩, _⟩, _⟩ := hp 0 h0
      exact World.block_lt_of_cell? _ _ q
set_option maxRecDepth 100000 in
theorem l_arg_clauses {r : Reach} {b0 : Nat} {v : Value} {d : DataW H} {p : List MemPlace} (hv : Value.okWide Try.prog W r b0 22 v) (h : DataW.Trod enc Try.prog W base spare held 22 v d p) :
    ∃ (l : List Cl) (a : Option Addr) (cap : Nat), v = .slice a l.length cap ∧ ClsIn W (· < W.heap.size) l a cap ∧ (Small 22 d → ∀ c ∈ l, c.1.length ≤ reachBytes) := by
  obtain ⟨a, len, cap, rfl⟩ := okWide_slice Try.underlying22 hv
  obtain ⟨fuel, hf⟩ := h
  obtain ⟨l, a', cap', e, hin, hsm⟩ := l_clauses hf
  have e' : [Value.slice a len cap] = [Value.slice a' l.length cap'] := by simpa [Value.cells] using e
  injection e' with e' _
  exact ⟨l, a', cap', e', hin, hsm⟩
set_option maxRecDepth 100000 in
theorem l_arg_atoms {r : Reach} {b0 : Nat} {v : Value} {d : DataW H} {p : List MemPlace} (hv : Value.okWide Try.prog W r b0 28 v) (h : DataW.Trod enc Try.prog W base spare held 28 v d p) :
    ∃ (l : List At) (a : Option Addr) (cap : Nat), v = .slice a l.length cap ∧ AtsIn W (· < W.heap.size) l a cap ∧ (Small 28 d → l.length ≤ reachBytes) := by
  obtain ⟨a, len, cap, rfl⟩ := okWide_slice Try.underlying28 hv
  obtain ⟨fuel, hf⟩ := h
  obtain ⟨l, a', cap', e, hin, hsm⟩ := l_atoms hf
  have e' : [Value.slice a len cap] = [Value.slice a' l.length cap'] := by simpa [Value.cells] using e
  injection e' with e' _
  exact ⟨l, a', cap', e', hin, hsm⟩
set_option maxRecDepth 100000 in
theorem l_arg_atom {r : Reach} {b0 : Nat} {v : Value} {d : DataW H} {p : List MemPlace} (hv : Value.okWide Try.prog W r b0 27 v) (h : DataW.Trod enc Try.prog W base spare held 27 v d p) :
    ∃ (x y : Int), v = .agg #[.int .i64 x, .int .i64 y] := by
  obtain ⟨cs, rfl, hsz⟩ := okWide_struct Try.underlying27 hv
  obtain ⟨fuel, hf⟩ := h
  obtain ⟨x, y, e⟩ := open_atom hf
  obtain ⟨l⟩ := cs
  have e' : l = [.int .i64 x, .int .i64 y] := by simpa [Value.cells] using e
  subst e'
  exact ⟨x, y, rfl⟩
set_option maxRecDepth 100000 in
theorem l_arg_store {r : Reach} {b0 : Nat} {v : Value} {d : DataW H} {p : List MemPlace} (hv : Value.okWide Try.prog W r b0 25 v) (h : DataW.Trod enc Try.prog W base spare held 25 v d p) :
    ∃ (vars : Int) (l : List Cl) (a : Option Addr) (cap : Nat) (m : List Int) (am : Option Addr) (cm : Nat), v = .agg #[.int .i64 vars, .slice a l.length cap, .slice am m.length cm] ∧ ClsIn W (· < W.heap.size) l a cap ∧ IntsIn W (· < W.heap.size) m am cm ∧ (Small 25 d → ∀ c ∈ l, c.1.length ≤ reachBytes) := by
  obtain ⟨cs, rfl, hsz⟩ := okWide_struct Try.underlying25 hv
  obtain ⟨fuel, hf⟩ := h
  obtain ⟨xs, n0, hf0, hx, hl, hxl, hg⟩ := DataW.trod_struct Try.underlying25 hf
  obtain ⟨q⟩ := cs
  have hl' : q.length = 3 := by
    rw [l_cellsStore] at hl
    simpa [Value.cells] using hl
  match q, hl' with
  | [c0, c1, c2], _ =>
    have hxl' : xs.length = 3 := hxl
    match xs, hxl' with
    | [y0, y1, y2], _ =>
      have t0 : DataW.trod enc Try.prog W base spare held n0 3 [c0] = some y0 := by have := hg 0 _ rfl; simpa [h_cellsInt, Value.cells] using this
      have t1 : DataW.trod enc Try.prog W base spare held n0 22 [c1] = some y1 := by have := hg 1 _ rfl; simpa [l_cellsClauses, Value.cells] using this
      have t2 : DataW.trod enc Try.prog W base spare held n0 23 [c2] = some y2 := by have := hg 2 _ rfl; simpa [l_cellsInts, Value.cells] using this
      obtain ⟨v, e0, _⟩ := DataW.trod_int Try.underlying3 t0
      obtain ⟨l, a, cap, e1, hin, hsm⟩ := l_clauses t1
      obtain ⟨m, am, cm, e2, him⟩ := l_ints t2
      injection e0 with e0 _
      injection e1 with e1 _
      injection e2 with e2 _
      subst e0 e1 e2
      refine ⟨v, l, a, cap, m, am, cm, rfl, hin, him, fun hs => hsm (fun n hn => hs n ?_)⟩
      have hd : d = .agg [y0.1, y1.1, y2.1] := congrArg Prod.fst hx
      rw [hd]
      simp only [DataW.weights, Try.underlying25]
      exact List.mem_append.2 (.inr (List.mem_append.2 (.inl hn)))
end
end Go.Proofs.Ytglggigndhbpcaa
