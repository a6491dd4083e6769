/- Of the values of levels: they are no less where the values given are no less; a level made by numbers is right, and at most so great. -/
import Derived.Test.YtlbflfijihbmdaaMaker2
import Derived.Test.YtlbflfijihbmdaaValues2
namespace Go.Proofs.Ytlbflfijihbmdaa
open Go.RowKit

theorem rNode_mono {p m k n : Int} {len : Nat} {d d' : Int} {sub sub' : Bool} (h : rNode p m k n len d sub = true) (hd : d ≤ d') (hs : sub = true → sub' = true) : rNode p m k n len d' sub' = true := by
  unfold rNode at h ⊢
  have h1 : ¬ d < 1 := by intro hh; rw [if_pos hh] at h; cases h
  rw [if_neg h1] at h
  rw [if_neg (by omega)]
  split at h
  · cases h
  · rename_i h2
    rw [if_neg h2]
    split at h
    · rename_i h5; rw [if_pos h5]; exact h
    · rename_i h5
      rw [if_neg h5]
      split at h
      · rename_i h6; rw [if_pos h6]; exact h
      · rename_i h6
        rw [if_neg h6]
        rw [Bool.and_eq_true] at h ⊢
        exact ⟨hs h.1, h.2⟩
theorem rAll_mono {p m : Int} : ∀ {f : Fo} {d d' : Int}, rAll p m f d = true → d ≤ d' → rAll p m f d' = true
  | .nil, _, _, _, _ => rfl
  | .cons k n ks r, d, d', h, hd => by
    unfold rAll at h ⊢
    rw [Bool.and_eq_true] at h ⊢
    exact ⟨rNode_mono h.1 hd (fun h => rAll_mono h (by omega)), rAll_mono h.2 hd⟩
theorem LvOk.right {d : Nat} {k n : Int} {F : Fo} (hd : d ≤ 6) (h : LvOk d k n F) : rightB 3 2 k n F = true := by
  have hs : F.size + 2 ≤ 64 := Nat.le_trans h.2 (Nat.pow_le_pow_right (by omega) hd : 2 ^ d ≤ 2 ^ 6)
  unfold rightB
  simp only [Bool.and_eq_true, decide_eq_true_eq]
  exact ⟨by omega, by omega, rNode_mono h.1 (by omega) (fun h => rAll_mono h (by omega))⟩
theorem evV_ok {ps ms : List Int} {d : Nat} {k n : Int} {F : Fo} (hl : ps.length = 3) (hm : ms.length = 2) (hp : natsB ps = true) (hq : natsB ms = true) (hd : d ≤ 6) (h : LvOk d k n F) :
    evV ps ms k n F = .tuple #[.int .i64 (vNode ps ms k n (vals ps ms F)), .int .i64 0] := by
  unfold evV
  rw [if_pos]
  unfold evOk
  rw [hl, hm, hp, hq, Bool.and_true, Bool.and_true]
  exact h.right hd

theorem vNode_nonneg {ps ms vs : List Int} (hp : ∀ i, 0 ≤ ps.getD i 0) (hm : ∀ i, 0 ≤ ms.getD i 0) (hv : ∀ i, 0 ≤ vs.getD i 0) (k n : Int) : 0 ≤ vNode ps ms k n vs := by
  have h0 := hv 0
  have h1 := hv 1
  have h2 := hp n.toNat
  have h3 := hm n.toNat
  unfold vNode
  repeat' split
  all_goals omega
theorem vNode_mono {ps ps' ms vs vs' : List Int} (hp0 : ∀ i, 0 ≤ ps.getD i 0) (hp : ∀ i, ps.getD i 0 ≤ ps'.getD i 0) (hv : ∀ i, 0 ≤ vs.getD i 0 ∧ vs.getD i 0 ≤ vs'.getD i 0) (k n : Int) : vNode ps ms k n vs ≤ vNode ps' ms k n vs' := by
  have h0 := hv 0
  have h1 := hv 1
  have h2 := hp n.toNat
  have h3 := hp0 n.toNat
  unfold vNode
  repeat' split
  all_goals omega
theorem vals_mono {ps ps' ms : List Int} (hp0 : ∀ i, 0 ≤ ps.getD i 0) (hp : ∀ i, ps.getD i 0 ≤ ps'.getD i 0) (hm : ∀ i, 0 ≤ ms.getD i 0) : ∀ (f : Fo) (i : Nat), 0 ≤ (vals ps ms f).getD i 0 ∧ (vals ps ms f).getD i 0 ≤ (vals ps' ms f).getD i 0
  | .nil, i => by simp [vals]
  | .cons k n ks r, 0 => ⟨vNode_nonneg hp0 hm (fun i => (vals_mono hp0 hp hm ks i).1) k n, vNode_mono hp0 hp (vals_mono hp0 hp hm ks) k n⟩
  | .cons k n ks r, i + 1 => vals_mono hp0 hp hm r i
theorem vNode_eight {ps ms vs : List Int} {D : Int} (hD : 0 ≤ D) (hp : ∀ i, ps.getD i 0 ≤ 8) (hm : ∀ i, ms.getD i 0 ≤ 8) (hv : ∀ i, vs.getD i 0 ≤ 8 + D) (k n : Int) : vNode ps ms k n vs ≤ 8 + D + 1 := by
  have h0 := hv 0
  have h1 := hv 1
  have h2 := hp n.toNat
  have h3 := hm n.toNat
  unfold vNode
  repeat' split
  all_goals omega
theorem vals_eight {p m : Int} {ps ms : List Int} (hp : ∀ i, ps.getD i 0 ≤ 8) (hm : ∀ i, ms.getD i 0 ≤ 8) : ∀ (f : Fo) (d : Int), rAll p m f d = true → 0 ≤ d → ∀ i, (vals ps ms f).getD i 0 ≤ 8 + d
  | .nil, d, _, hd, i => by simp [vals]; omega
  | .cons k n ks r, d, h, hd, 0 => by
    unfold rAll at h
    rw [Bool.and_eq_true] at h
    obtain ⟨hd1, _, _, _, hks⟩ := node_parts h.1
    have := vNode_eight (D := d - 1) (by omega) hp hm (vals_eight hp hm ks (d - 1) hks (by omega)) k n
    show vNode ps ms k n (vals ps ms ks) ≤ 8 + d
    omega
  | .cons k n ks r, d, h, hd, i + 1 => by
    unfold rAll at h
    rw [Bool.and_eq_true] at h
    exact vals_eight hp hm r d h.2 hd i
theorem get3 {p0 p1 p2 : Int} {P : Int → Prop} (h : P 0) (h0 : P p0) (h1 : P p1) (h2 : P p2) (i : Nat) : P ([p0, p1, p2].getD i 0) := by
  match i with
  | 0 => exact h0
  | 1 => exact h1
  | 2 => exact h2
  | i + 3 => exact h
theorem get2 {p0 p1 : Int} {P : Int → Prop} (h : P 0) (h0 : P p0) (h1 : P p1) (i : Nat) : P ([p0, p1].getD i 0) := by
  match i with
  | 0 => exact h0
  | 1 => exact h1
  | i + 2 => exact h
/-- What the law asks of the five answers. -/
theorem more_facts {ka na kb nb p0 p1 p2 m0 m1 m2 q0 q1 : Int} {Fa Fb : Fo} (ha : LvOk 5 ka na Fa) (hb : LvOk 5 kb nb Fb) (hp0 : Small p0) (hp1 : Small p1) (hp2 : Small p2) (hq0 : Small q0) (hq1 : Small q1)
    (h0 : p0 ≤ m0 ∧ m0 ≤ 20) (h1 : p1 ≤ m1 ∧ m1 ≤ 20) (h2 : p2 ≤ m2 ∧ m2 ≤ 20) :
    ∃ x y s : Int, evV [p0, p1, p2] [q0, q1] ka na Fa = .tuple #[.int .i64 x, .int .i64 0] ∧ evV [m0, m1, m2] [q0, q1] ka na Fa = .tuple #[.int .i64 y, .int .i64 0] ∧
      evV [p0, p1, p2] [q0, q1] 3 0 (.cons ka na Fa (.cons kb nb Fb .nil)) = .tuple #[.int .i64 s, .int .i64 0] ∧ evV [p0, p1, p2] [q0, q1] 3 0 (.cons kb nb Fb (.cons ka na Fa .nil)) = .tuple #[.int .i64 s, .int .i64 0] ∧
      evV [p0, p1, p2] [q0, q1] 2 0 (.cons ka na Fa .nil) = .tuple #[.int .i64 (x + 1), .int .i64 0] ∧ 0 ≤ x ∧ x ≤ 13 ∧ x ≤ y ∧ x ≤ s := by
  obtain ⟨a0, a1⟩ := hp0
  obtain ⟨b0, b1⟩ := hp1
  obtain ⟨c0, c1⟩ := hp2
  obtain ⟨d0, d1⟩ := hq0
  obtain ⟨e0, e1⟩ := hq1
  have np : natsB [p0, p1, p2] = true := by simp [natsB]; omega
  have nq : natsB [q0, q1] = true := by simp [natsB]; omega
  have nm : natsB [m0, m1, m2] = true := by simp [natsB]; omega
  have gp0 : ∀ i, 0 ≤ [p0, p1, p2].getD i 0 := get3 (P := fun v => 0 ≤ v) (by omega) a0 b0 c0
  have gp8 : ∀ i, [p0, p1, p2].getD i 0 ≤ 8 := get3 (P := fun v => v ≤ 8) (by omega) a1 b1 c1
  have gq0 : ∀ i, 0 ≤ [q0, q1].getD i 0 := get2 (P := fun v => 0 ≤ v) (by omega) d0 e0
  have gq8 : ∀ i, [q0, q1].getD i 0 ≤ 8 := get2 (P := fun v => v ≤ 8) (by omega) d1 e1
  have gm : ∀ i, [p0, p1, p2].getD i 0 ≤ [m0, m1, m2].getD i 0 := by
    intro i
    match i with
    | 0 => exact h0.1
    | 1 => exact h1.1
    | 2 => exact h2.1
    | i + 3 => exact Int.le_refl _
  have x0 : 0 ≤ vNode [p0, p1, p2] [q0, q1] ka na (vals [p0, p1, p2] [q0, q1] Fa) := vNode_nonneg gp0 gq0 (fun i => (vals_mono gp0 gm gq0 Fa i).1) ka na
  have xy := vNode_mono (ms := [q0, q1]) gp0 gm (vals_mono gp0 gm gq0 Fa) ka na
  obtain ⟨_, _, _, _, hks⟩ := node_parts ha.1
  have x8 := vNode_eight (D := 4) (by omega) gp8 gq8 (vals_eight gp8 gq8 Fa 4 hks (by omega)) ka na
  refine ⟨vNode [p0, p1, p2] [q0, q1] ka na (vals [p0, p1, p2] [q0, q1] Fa), _, max (vNode [p0, p1, p2] [q0, q1] ka na (vals [p0, p1, p2] [q0, q1] Fa)) (vNode [p0, p1, p2] [q0, q1] kb nb (vals [p0, p1, p2] [q0, q1] Fb)),
    evV_ok rfl rfl np nq (by omega) ha, evV_ok rfl rfl nm nq (by omega) ha, evV_ok rfl rfl np nq (by omega) (ha.two hb 3 (.inl rfl)), ?_, evV_ok rfl rfl np nq (by omega) ha.succ, x0, by omega, xy, by omega⟩
  rw [evV_ok rfl rfl np nq (by omega) (hb.two ha 3 (.inl rfl))]
  show Value.tuple #[.int .i64 (max (vNode [p0, p1, p2] [q0, q1] kb nb (vals [p0, p1, p2] [q0, q1] Fb)) (vNode [p0, p1, p2] [q0, q1] ka na (vals [p0, p1, p2] [q0, q1] Fa))), .int .i64 0] = _
  rw [Int.max_comm]

/-- Eval's answer, where it is known. -/
theorem Eval_is (ps ms : List Int) (k n v : Int) (f : Fo) (a ap am : Option Addr) (cap cp cm B : Nat) (w : World) (hsl : SlIn w (· < B) f a cap) (hip : IntsIn w (· < B) ps ap cp) (him : IntsIn w (· < B) ms am cm) (hB : B ≤ w.heap.size) (hv : evV ps ms k n f = .tuple #[.int .i64 v, .int .i64 0]) :
    Calls Try.prog 17 #[.agg #[.int .i64 k, .int .i64 n, .slice a f.len cap], .slice ap ps.length cp, .slice am ms.length cm] w fun e w' => e = .returned (.tuple #[.int .i64 v, .int .i64 0]) ∧ Below w.heap.size w w' :=
  hv ▸ Eval_any ps ms k n f a ap am cap cp cm B w hsl hip him hB

/-- A row of at least three numbers. -/
def MoAt (w : World) (g : Nat) (m0 m1 m2 : Int) : Prop := ∃ cur : Array Value, w.heap[g]? = some (.cells cur 3 (0, 0)) ∧ cur[0]? = some (.int .i64 m0) ∧ cur[1]? = some (.int .i64 m1) ∧ cur[2]? = some (.int .i64 m2)
theorem MoAt.at {w : World} {g j : Nat} {m0 m1 m2 : Int} (h : MoAt w g m0 m1 m2) (hj : j < 3) : w.cell? ⟨g, j, none⟩ = some (.int .i64 ([m0, m1, m2].getD j 0)) ∧ w.frozen? ⟨g, j, none⟩ = false ∧ g < w.heap.size := by
  obtain ⟨cur, h, c0, c1, c2⟩ := h
  refine ⟨?_, free_of h j, lt_of_block h⟩
  match j, hj with
  | 0, _ => simp [World.cell?, h, c0]
  | 1, _ => simp [World.cell?, h, c1]
  | 2, _ => simp [World.cell?, h, c2]
theorem MoAt.set {w : World} {g j : Nat} {m0 m1 m2 : Int} (h : MoAt w g m0 m1 m2) (hj : j < 3) (z : Int) : MoAt (w.setCell ⟨g, j, none⟩ (.int .i64 z)) g (if j = 0 then z else m0) (if j = 1 then z else m1) (if j = 2 then z else m2) := by
  obtain ⟨cur, h, c0, c1, c2⟩ := h
  obtain ⟨l0, d0⟩ := Array.getElem?_eq_some_iff.1 c0
  obtain ⟨l1, d1⟩ := Array.getElem?_eq_some_iff.1 c1
  obtain ⟨l2, d2⟩ := Array.getElem?_eq_some_iff.1 c2
  refine ⟨cur.setIfInBounds j (.int .i64 z), ?_, ?_, ?_, ?_⟩
  · simp only [World.setCell, Array.getElem?_modify, if_true, h]; rfl
  all_goals
    match j, hj with
    | 0, _ => simp [*]
    | 1, _ => simp [*]
    | 2, _ => simp [*]
theorem MoAt.below {w w' : World} {g : Nat} {m0 m1 m2 : Int} (h : MoAt w g m0 m1 m2) (hb : Below w.heap.size w w') : MoAt w' g m0 m1 m2 := by
  obtain ⟨cur, h, hc⟩ := h
  exact ⟨cur, (hb.block g (lt_of_block h)).trans h, hc⟩
theorem MoAt.ints {w : World} {g cap : Nat} {m0 m1 m2 : Int} (h : MoAt w g m0 m1 m2) (h1 : 3 ≤ cap) (h2 : cap ≤ maxLen) : IntsIn w (· < w.heap.size) [m0, m1, m2] (some ⟨g, 0, none⟩) cap := by
  refine ⟨h1, h2, (fun h => by cases h), fun _ => ⟨g, 0, rfl, (h.at (j := 0) (by omega)).2.2, fun i hi => ?_⟩⟩
  have := (h.at (j := i) hi).1
  simpa using this
/-- The copy of the three values by append onto nil: it runs, into a new block. -/
theorem append_copy {W : World} (ty : TypeId) {g : Nat} {p0 p1 p2 : Int} (hS : Vs3 W g p0 p1 p2) :
    ∃ g' cap' w', (Builtin.append_ #[25, 25] ty #[.slice none 0 0, .slice (some ⟨g, 0, none⟩) 3 3]).run Try.prog W = .ok (.slice (some ⟨g', 0, none⟩) 3 cap') w' ∧ Below W.heap.size W w' ∧ W.heap.size ≤ g' ∧ 3 ≤ cap' ∧ cap' ≤ maxLen ∧ MoAt w' g' p0 p1 p2 := by
  obtain ⟨i0, hi, hz0, hz1, hz2⟩ := info_parts infoInt
  have hc : ∀ j u, [Value.int .i64 p0, .int .i64 p1, .int .i64 p2][j]? = some u → W.cell? ((⟨g, 0, none⟩ : Addr).add j) = some u := by
    intro j u hj
    match j, hj with
    | 0, hj => cases hj; exact cell_at hS 0
    | 1, hj => cases hj; exact cell_at hS 1
    | 2, hj => cases hj; exact cell_at hS 2
  have h1 : ∀ u ∈ [Value.int .i64 p0, .int .i64 p1, .int .i64 p2], u.oneCell' = true := by
    intro u hu
    simp only [List.mem_cons, List.not_mem_nil, or_false] at hu
    rcases hu with rfl | rfl | rfl <;> rfl
  obtain ⟨v', w', hrun, h2, h3, h4, h5⟩ := run_append_own_at (P := Try.prog) W W.heap.size 25 ty 3 i0 _ 1 8 Try.underlying25 hi hz0 hz1 hz2 rfl (by omega) _ 0 _ (World.ownsRow_nil W W.heap.size 3 1) ⟨g, 0, none⟩ 3 3 _ rfl hc h1 (by unfold maxLen; omega) (by omega) (Nat.le_refl _)
  rcases h2.2 with ⟨he, _⟩ | ⟨g', c', cur, hv, hb, hh, hle, hm, hcs, htake⟩
  · have := (h4.1 he).2; omega
  · subst hv
    refine ⟨g', c', w', hrun, ⟨h3.os, h3.tape, h3.output, h3.size, fun k hk => h3.block k hk (by simp [Value.ownBlock])⟩, hb, hle, hm, cur, hh, ?_, ?_, ?_⟩
    all_goals have ht : cur.toList.take 3 = [.int .i64 p0, .int .i64 p1, .int .i64 p2] := htake
    · have e := congrArg (fun l => l[0]?) ht
      simpa [List.getElem?_take] using e
    · have e := congrArg (fun l => l[1]?) ht
      simpa [List.getElem?_take] using e
    · have e := congrArg (fun l => l[2]?) ht
      simpa [List.getElem?_take] using e
end Go.Proofs.Ytlbflfijihbmdaa
