/- Nodes in memory and as a map's keys: how they lie there; that they are compared field by field; what is found in the map of nodes and their places, and what is laid into it. No condition but those that stand in each statement. -/
import Derived.Test.YtmbopdlmkbbbiaaAspec
import Derived.Test.YtmbopdlmkbbbiaaCell
import Derived.MapKept
import Derived.Laws.StructEq
import Derived.Maps.AppendAt
import Derived.Laws.OwnMore
import Derived.OwnWalk
namespace Go.Proofs.Ytmbopdlmkbbbiaa
open Go.RowKit

def nv (x : Nd) : Value := .agg #[.int .i64 x.k, .int .i64 x.n, .int .i64 x.a, .int .i64 x.b]

theorem part4_0 (a b c d : Value) (w : World) : (part 3 #[a, b, c, d] 0).run Try.prog w = .ok a w := by kernel_rfl
theorem part4_1 (a b c d : Value) (w : World) : (part 3 #[a, b, c, d] 1).run Try.prog w = .ok b w := by kernel_rfl
theorem part4_2 (a b c d : Value) (w : World) : (part 3 #[a, b, c, d] 2).run Try.prog w = .ok c w := by kernel_rfl
theorem part4_3 (a b c d : Value) (w : World) : (part 3 #[a, b, c, d] 3).run Try.prog w = .ok d w := by kernel_rfl

theorem nd_eq (x y : Nd) : decide (x = y) = ((x.k == y.k) && ((x.n == y.n) && ((x.a == y.a) && (x.b == y.b)))) := by
  cases x; cases y
  rw [Bool.eq_iff_iff]
  simp
theorem fieldsNode : (Try.prog.fieldsOf 41).toList.map (fun f => (f.name, f.type, f.offset)) = [("Kind", 3, 0), ("N", 3, 1), ("A", 3, 2), ("B", 3, 3)] := by kernel_rfl
theorem undNode : Try.prog.underlying 41 = some (.struct (Try.prog.fieldsOf 41)) := by kernel_rfl
theorem stoodNode : Try.prog.stoodInHeld 41 = false := by kernel_rfl
theorem fields4 : ∃ f0 f1 f2 f3 : Field, (Try.prog.fieldsOf 41).toList = [f0, f1, f2, f3] ∧ (f0.name ≠ "_" ∧ f0.type = 3 ∧ f0.offset = 0) ∧ (f1.name ≠ "_" ∧ f1.type = 3 ∧ f1.offset = 1) ∧ (f2.name ≠ "_" ∧ f2.type = 3 ∧ f2.offset = 2) ∧ (f3.name ≠ "_" ∧ f3.type = 3 ∧ f3.offset = 3) := by
  have h := fieldsNode
  match hl : (Try.prog.fieldsOf 41).toList with
  | [] => rw [hl] at h; simp at h
  | [_] => rw [hl] at h; simp at h
  | [_, _] => rw [hl] at h; simp at h
  | [_, _, _] => rw [hl] at h; simp at h
  | f0 :: f1 :: f2 :: f3 :: g :: r => rw [hl] at h; simp at h
  | [f0, f1, f2, f3] =>
    rw [hl] at h
    simp only [List.map_cons, List.map_nil, List.cons.injEq, Prod.mk.injEq, and_true] at h
    obtain ⟨⟨a0, b0, c0⟩, ⟨a1, b1, c1⟩, ⟨a2, b2, c2⟩, ⟨a3, b3, c3⟩⟩ := h
    exact ⟨f0, f1, f2, f3, rfl, ⟨by rw [a0]; decide, b0, c0⟩, ⟨by rw [a1]; decide, b1, c1⟩, ⟨by rw [a2]; decide, b2, c2⟩, ⟨by rw [a3]; decide, b3, c3⟩⟩

/-- Two nodes are compared field by field. -/
theorem run_eqN (w : World) (x y : Nd) : (Op.equal 41 (nv x) (nv y)).run Try.prog w = .ok (decide (x = y)) w := by
  obtain ⟨f0, f1, f2, f3, hl, ⟨n0, t0, o0⟩, ⟨n1, t1, o1⟩, ⟨n2, t2, o2⟩, ⟨n3, t3, o3⟩⟩ := fields4
  have ei : ∀ (d : Nat) (a b : Int) (w : World), (Op.equalIn (d + 1) 3 (.int .i64 a) (.int .i64 b)).run Try.prog w = .ok (a == b) w := fun d a b w => run_equalIn_int w d _ _ _ a b Try.underlying3
  unfold Op.equal Op.maxDepth nv
  rw [run_equalIn_struct w 9999 41 _ _ undNode stoodNode, hl, nd_eq]
  simp only [Op.eqFields, n0, n1, n2, n3, t0, t1, t2, t3, o0, o1, o2, o3, ne_eq, not_false_eq_true, if_true, Sem.run_bind, part4_0, Result.andThen_ok, ei 9998]
  cases h1 : (x.k == y.k) <;> cases h2 : (x.n == y.n) <;> cases h3 : (x.a == y.a) <;> cases h4 : (x.b == y.b) <;>
    simp only [Result.andThen_ok, Sem.run_bind, Sem.run_pure, Sem.run_ite, part4_1, part4_2, part4_3, ei 9998, h2, h3, h4, Bool.not_true, Bool.not_false, Bool.false_eq_true, if_true, if_false, Bool.true_and, Bool.false_and]
theorem run_checkN (e : Bool) (x : Nd) (w : World) : (Instr.checkKey e 10000 41 (nv x)).run Try.prog w = .ok () w := by
  obtain ⟨f0, f1, f2, f3, hl, ⟨n0, t0, o0⟩, ⟨n1, t1, o1⟩, ⟨n2, t2, o2⟩, ⟨n3, t3, o3⟩⟩ := fields4
  have ck : ∀ (k : Int) (w : World), (Instr.checkKey e 9999 3 (.int .i64 k)).run Try.prog w = .ok () w := fun k w => MapKept.run_checkKey (k := .int .i64 k) Try.underlying3 (by simp [MapKept.IsKey]) e 9998
  unfold Instr.checkKey nv
  simp only [Sem.run_bind, run_underlying undNode, Result.andThen_ok]
  rw [← Array.forIn_toList, hl]
  simp only [List.forIn_cons, List.forIn_nil, n0, n1, n2, n3, t0, t1, t2, t3, o0, o1, o2, o3, ne_eq, not_false_eq_true, if_true, Sem.run_bind, Sem.run_pure, part4_0, part4_1, part4_2, part4_3, Result.andThen_ok, ck]

/-- The entries of the nodes, each with its place. -/
def entsFrom : Nat → List Nd → List MapEntry
  | _, [] => []
  | i, x :: r => ⟨nv x, .int .i64 i, i⟩ :: entsFrom (i + 1) r
theorem entsFrom_app : ∀ (i : Nat) (a b : List Nd), entsFrom i (a ++ b) = entsFrom i a ++ entsFrom (i + a.length) b
  | i, [], b => by simp [entsFrom]
  | i, x :: a, b => by simp [entsFrom, entsFrom_app (i + 1) a b]; congr 1; omega
def nTab (ns : List Nd) : Obj := .map (entsFrom 0 ns).toArray ns.length

theorem nd_idx (x y : Nd) (r : List Nd) : (x :: r).idxOf y = if x = y then 0 else r.idxOf y + 1 := by
  by_cases h : x = y
  · subst h; simp
  · have e : (x == y) = false := beq_eq_false_iff_ne.2 h
    rw [List.idxOf_cons, if_neg h, e]; rfl
theorem run_askN (w : World) (x : Nd) : ∀ (ns : List Nd) (i : Nat), (Instr.findAsking 41 (nv x) (entsFrom i ns) i).run Try.prog w = .ok (if x ∈ ns then some (i + ns.idxOf x, .int .i64 ((i + ns.idxOf x : Nat) : Int)) else none) w
  | [], i => by simp [entsFrom, Instr.findAsking]
  | y :: r, i => by
    simp only [entsFrom, Instr.findAsking, Sem.run_bind, run_eqN, Result.andThen_ok]
    by_cases h : x = y
    · subst h; simp
    · simp only [h, decide_false, Bool.false_eq_true, if_false, run_askN w x r (i + 1), List.mem_cons, false_or, nd_idx, Ne.symm h]
      split <;> simp [show i + 1 + r.idxOf x = i + (r.idxOf x + 1) by omega]
theorem run_findN (w : World) (x : Nd) (ns : List Nd) : (Instr.findKey 41 (nv x) (entsFrom 0 ns)).run Try.prog w = .ok (if x ∈ ns then some (ns.idxOf x, .int .i64 (ns.idxOf x : Nat)) else none) w := by
  cases ns with
  | nil => simp [Instr.findKey, run_underlying undNode, entsFrom, Instr.findNow]
  | cons y r =>
    have := run_askN w x (y :: r) 0
    simp only [Nat.zero_add] at this
    have e : Instr.findNow (.struct (Try.prog.fieldsOf 41)) (nv x) (entsFrom 0 (y :: r)) 0 = none := by simp [entsFrom, Instr.findNow, nv, Instr.sameNow]
    simp only [Instr.findKey, Sem.run_bind, run_underlying undNode, Result.andThen_ok, e, this]

/-- What is found in the map. -/
theorem run_lookN (W : World) (r : Nat) (ns : List Nd) (hb : W.heap[r]? = some (nTab ns)) (x : Nd) :
    (Instr.lookup 62 (.map (some r)) (nv x) true).run Try.prog W = .ok (.tuple #[.int .i64 (if x ∈ ns then (ns.idxOf x : Nat) else 0), .bool (decide (x ∈ ns))]) W := by
  have hz : (zeroValue 3).run Try.prog W = .ok (.int .i64 0) W := by kernel_rfl
  simp only [Instr.lookup, Sem.run_bind, run_underlying Try.underlying62, Result.andThen_ok, nTab] at hb ⊢
  simp only [MapKept.run_getObj_map hb, Result.andThen_ok]
  by_cases h : x ∈ ns
  · simp [h, run_checkN, run_findN, Result.andThen]
  · simp [h, hz, run_checkN, run_findN, Result.andThen]
/-- The world with another object at a place. -/
def setO (w : World) (r : Nat) (o : Obj) : World := { w with heap := w.heap.setIfInBounds r o }
@[simp] theorem setO_size (w : World) (r : Nat) (o : Obj) : (setO w r o).heap.size = w.heap.size := by simp [setO]
theorem setO_at {w : World} {r : Nat} {o o' : Obj} (h : w.heap[r]? = some o) : (setO w r o').heap[r]? = some o' := (MapKept.heap_set h).1
theorem setO_ne (w : World) {r b : Nat} (o : Obj) (h : b ≠ r) : (setO w r o).heap[b]? = w.heap[b]? := by
  show (w.heap.setIfInBounds r o)[b]? = _
  rw [Array.getElem?_setIfInBounds_ne (Ne.symm h)]
theorem setO_only (w : World) (r : Nat) (o : Obj) : w.grownBy (setO w r o) (some r) := ⟨rfl, rfl, rfl, by simp, fun i _ hne => setO_ne w o (fun e => hne (by rw [e]))⟩
theorem setO_cell (w : World) {r b : Nat} (o : Obj) (i : Nat) (h : b ≠ r) : (setO w r o).cell? ⟨b, i, none⟩ = w.cell? ⟨b, i, none⟩ := World.cell?_of_block (w := w) (setO_ne w o h)
theorem run_updN (W : World) (r : Nat) (ns : List Nd) (hb : W.heap[r]? = some (nTab ns)) (x : Nd) (hx : x ∉ ns) :
    (Instr.mapUpdate 62 (.map (some r)) (nv x) (.int .i64 (ns.length : Nat))).run Try.prog W = .ok () (setO W r (nTab (ns ++ [x]))) := by
  have e : nTab (ns ++ [x]) = .map ((entsFrom 0 ns).toArray.push ⟨nv x, .int .i64 (ns.length : Nat), ns.length⟩) (ns.length + 1) := by
    simp [nTab, entsFrom_app, entsFrom]
  rw [e]
  unfold nTab at hb
  simp only [Instr.mapUpdate, Sem.run_bind, run_underlying Try.underlying62, Result.andThen_ok, MapKept.run_getObj_map hb, run_checkN, run_findN, hx, if_false, MapKept.run_setObj_map _ hb]
  rfl

/-- The nodes lie one behind the other from the place (b, o) on. -/
def NsAt (w : World) (ns : List Nd) (b o : Nat) : Prop := ∀ i x, ns[i]? = some x → w.cell? ⟨b, o + i * 4, none⟩ = some (.int .i64 x.k) ∧ w.cell? ⟨b, o + i * 4 + 1, none⟩ = some (.int .i64 x.n) ∧ w.cell? ⟨b, o + i * 4 + 2, none⟩ = some (.int .i64 x.a) ∧ w.cell? ⟨b, o + i * 4 + 3, none⟩ = some (.int .i64 x.b)
/-- The slice (a, cap) holds the nodes. -/
def NsIn (w : World) (P : Nat → Prop) (ns : List Nd) (a : Option Addr) (cap : Nat) : Prop :=
  ns.length ≤ cap ∧ cap ≤ maxLen ∧ (a = none → cap = 0) ∧ (0 < ns.length → ∃ b o, a = some ⟨b, o, none⟩ ∧ P b ∧ NsAt w ns b o)
theorem NsAt.keep {w w' : World} {ns : List Nd} {b o : Nat} (hk : w'.heap[b]? = w.heap[b]?) (h : NsAt w ns b o) : NsAt w' ns b o := fun i x hx => by
  have hc : ∀ o, w'.cell? ⟨b, o, none⟩ = w.cell? ⟨b, o, none⟩ := fun o => World.cell?_of_block (w := w) hk
  obtain ⟨h1, h2, h3, h4⟩ := h i x hx
  exact ⟨(hc _).trans h1, (hc _).trans h2, (hc _).trans h3, (hc _).trans h4⟩
theorem NsIn.keep {w w' : World} {P : Nat → Prop} (hP : ∀ b, P b → w'.heap[b]? = w.heap[b]?) {ns : List Nd} {a : Option Addr} {cap : Nat} (h : NsIn w P ns a cap) : NsIn w' P ns a cap := by
  obtain ⟨h1, h2, h3, h4⟩ := h
  refine ⟨h1, h2, h3, fun hx => ?_⟩
  obtain ⟨b, o, e, hb, hf⟩ := h4 hx
  exact ⟨b, o, e, hb, hf.keep (hP b hb)⟩
theorem NsIn.weak {w : World} {P Q : Nat → Prop} (hQ : ∀ b, P b → Q b) {ns : List Nd} {a : Option Addr} {cap : Nat} (h : NsIn w P ns a cap) : NsIn w Q ns a cap := by
  obtain ⟨h1, h2, h3, h4⟩ := h
  refine ⟨h1, h2, h3, fun hx => ?_⟩
  obtain ⟨b, o, e, hb, hf⟩ := h4 hx
  exact ⟨b, o, e, hQ _ hb, hf⟩
theorem NsIn.below {w w' : World} {B : Nat} {ns : List Nd} {a : Option Addr} {cap : Nat} (hb : Below B w w') (h : NsIn w (· < B) ns a cap) : NsIn w' (· < B) ns a cap := h.keep (fun b h => hb.block b h)
theorem NsIn.mono {w : World} {B B' : Nat} (hB : B ≤ B') {ns : List Nd} {a : Option Addr} {cap : Nat} (h : NsIn w (· < B) ns a cap) : NsIn w (· < B') ns a cap := h.weak (fun _ h => Nat.lt_of_lt_of_le h hB)
theorem NsIn.only {w w' : World} {B C : Nat} {ns : List Nd} {a : Option Addr} {cap : Nat} (hg : w.grownBy w' (Option.some C)) (hB : B ≤ C) (hC : C ≤ w.heap.size) (h : NsIn w (· < B) ns a cap) : NsIn w' (· < B) ns a cap :=
  h.keep (fun _ hb => Only.block hg (Nat.lt_of_lt_of_le hb (Nat.le_trans hB hC)) (Nat.ne_of_lt (Nat.lt_of_lt_of_le hb hB)))
theorem NsIn.len {w : World} {P : Nat → Prop} {ns : List Nd} {a : Option Addr} {cap : Nat} (h : NsIn w P ns a cap) : ns.length ≤ 9223372036854775807 := by
  have h1 := h.1
  have h2 := h.2.1
  unfold maxLen at h2
  omega
theorem NsIn.at {w : World} {P : Nat → Prop} {ns : List Nd} {a : Option Addr} {cap : Nat} (h : NsIn w P ns a cap) {i : Nat} (hi : i < ns.length) : ∃ b o, a = some ⟨b, o, none⟩ ∧ P b ∧ NsAt w ns b o := h.2.2.2 (by omega)

/-- The cells of nodes. -/
def ncs : List Nd → List Value
  | [] => []
  | x :: r => .int .i64 x.k :: .int .i64 x.n :: .int .i64 x.a :: .int .i64 x.b :: ncs r
theorem ncs_len : ∀ ns : List Nd, (ncs ns).length = ns.length * 4
  | [] => rfl
  | x :: r => by simp [ncs, ncs_len r]; omega
theorem ncs_app : ∀ a b : List Nd, ncs (a ++ b) = ncs a ++ ncs b
  | [], b => rfl
  | x :: a, b => by simp [ncs, ncs_app a b]
theorem ncs_one : ∀ (ns : List Nd), ∀ u ∈ ncs ns, u.oneCell' = true
  | [], u, h => by simp [ncs] at h
  | x :: r, u, h => by
    simp only [ncs, List.mem_cons] at h
    rcases h with rfl | rfl | rfl | rfl | h
    · rfl
    · rfl
    · rfl
    · rfl
    · exact ncs_one r u h
theorem ncs_at : ∀ (ns : List Nd) (i : Nat) (x : Nd), ns[i]? = some x → (ncs ns)[i * 4]? = some (.int .i64 x.k) ∧ (ncs ns)[i * 4 + 1]? = some (.int .i64 x.n) ∧ (ncs ns)[i * 4 + 2]? = some (.int .i64 x.a) ∧ (ncs ns)[i * 4 + 3]? = some (.int .i64 x.b)
  | [], i, x, h => by simp at h
  | y :: r, 0, x, h => by simp at h; subst h; simp [ncs]
  | y :: r, i + 1, x, h => by
    have := ncs_at r i x (by simpa using h)
    simpa [ncs, show (i + 1) * 4 = i * 4 + 4 by omega] using this
/-- Cell by cell. -/
theorem NsAt.cells {w : World} : ∀ {ns : List Nd} {b o : Nat}, NsAt w ns b o → ∀ j u, (ncs ns)[j]? = some u → w.cell? ⟨b, o + j, none⟩ = some u
  | [], b, o, _, j, u, h => by simp [ncs] at h
  | x :: r, b, o, hn, j, u, h => by
    obtain ⟨h0, h1, h2, h3⟩ := hn 0 x rfl
    simp only [Nat.zero_mul, Nat.add_zero] at h0 h1 h2 h3
    match j with
    | 0 => simp [ncs] at h; subst h; exact h0
    | 1 => simp [ncs] at h; subst h; exact h1
    | 2 => simp [ncs] at h; subst h; exact h2
    | 3 => simp [ncs] at h; subst h; exact h3
    | j + 4 =>
      have hr : NsAt w r b (o + 4) := fun i y hy => by
        have := hn (i + 1) y (by simpa using hy)
        rwa [show o + (i + 1) * 4 = o + 4 + i * 4 by omega] at this
      have := hr.cells j u (by simpa [ncs] using h)
      rwa [show o + (j + 4) = o + 4 + j by omega]

/-- A row of the call's own, from block 'base' on, that holds the nodes. -/
def NOwn (w : World) (base : Nat) (v : Value) (ns : List Nd) : Prop := w.ownsRow base 41 4 v ns.length (ncs ns)
theorem NOwn.cases {w : World} {base : Nat} {v : Value} {ns : List Nd} (h : NOwn w base v ns) : ∃ a cap, v = .slice a ns.length cap ∧ NsIn w (fun b => base ≤ b ∧ b < w.heap.size) ns a cap := by
  have hlt := h.lt
  rcases h.2 with ⟨rfl, h0⟩ | ⟨g, cap, cur, rfl, hb, hh, hle, hm, hs, ht⟩
  · rw [h0]
    exact ⟨none, 0, rfl, by omega, Nat.zero_le _, fun _ => rfl, fun hx => by omega⟩
  · refine ⟨_, _, rfl, hle, hm, (fun e => by cases e), fun _ => ⟨g, 0, rfl, ⟨hb, lt_of_block hh⟩, fun i x hx => ?_⟩⟩
    have hi : i < ns.length := (List.getElem?_eq_some_iff.1 hx).1
    obtain ⟨e0, e1, e2, e3⟩ := ncs_at ns i x hx
    refine ⟨?_, ?_, ?_, ?_⟩
    · rw [Nat.zero_add, World.ownsRow.cellAt h _ (by omega)]; exact e0
    · rw [Nat.zero_add, World.ownsRow.cellAt h _ (by omega)]; exact e1
    · rw [Nat.zero_add, World.ownsRow.cellAt h _ (by omega)]; exact e2
    · rw [Nat.zero_add, World.ownsRow.cellAt h _ (by omega)]; exact e3
theorem NOwn.lt {w : World} {base : Nat} {v : Value} {ns : List Nd} (h : NOwn w base v ns) : ∀ k, v.ownBlock = some k → base ≤ k ∧ k < w.heap.size := World.ownsRow.lt h
theorem NOwn.kept {w w' : World} {base : Nat} {v : Value} {ns : List Nd} {row : Option Nat} (h : NOwn w base v ns) (hg : w.grownBy w' row) (hne : v.ownBlock = none ∨ v.ownBlock ≠ row) : NOwn w' base v ns := World.ownsRow.kept h hg hne
theorem infoNode : (Try.prog.info? 41).map (fun i => (i.zero, i.size, i.bytes)) = some (some (.agg #[.int .i64 0, .int .i64 0, .int .i64 0, .int .i64 0]), 4, 32) := by kernel_rfl
/-- THE APPEND of nodes behind a row of the call's own. -/
theorem NOwn.append {w : World} {base : Nat} {v : Value} {ns ms : List Nd} (h : NOwn w base v ns) (ty : TypeId) {x : Addr} {c : Nat} (hc : ∀ j u, (ncs ms)[j]? = some u → w.cell? (x.add j) = some u) (hsz : ns.length + ms.length ≤ 10000000) (hbase : base ≤ w.heap.size) :
    ∃ v' w', (Builtin.append_ #[24, 24] ty #[v, .slice (some x) ms.length c]).run Try.prog w = .ok v' w' ∧ NOwn w' base v' (ns ++ ms) ∧ w.grownBy w' v.ownBlock ∧ (v'.ownBlock = v.ownBlock ∨ v'.ownBlock = some w.heap.size) := by
  obtain ⟨i0, hi, hz0, hz1, hz2⟩ := info_parts infoNode
  obtain ⟨v', w', hrun, h2, h3, h4, h5⟩ := run_append_own_at (P := Try.prog) w base 24 ty 41 i0 _ 4 32 Try.underlying24 hi hz0 hz1 hz2 rfl (by omega) _ ns.length (ncs ns) h x ms.length c (ncs ms) (ncs_len ms) hc (ncs_one ms) (by unfold maxLen; omega) (by omega) hbase
  exact ⟨v', w', hrun, by unfold NOwn; rw [ncs_app, List.length_append]; exact h2, h3, h5⟩
theorem add_none (b o j : Nat) : (⟨b, o, none⟩ : Addr).add j = ⟨b, o + j, none⟩ := by unfold Addr.add; split <;> simp_all
end Go.Proofs.Ytmbopdlmkbbbiaa
