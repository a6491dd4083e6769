/- A range over an iterator that would go on for ever if nobody stopped it: what it promises (each round that goes on says so in pure words, from which the iterator knows that it ends), and what the statement comes to, in our own words. No condition but those that stand in each statement. -/
import Derived.Test.YtglggigndhbpcaaZHiter
namespace Go.Proofs.Ytglggigndhbpcaa
open Go.RowKit Go.Shelf

/-- It tells of blocks below B alone. -/
def LowFrom (B : Nat) (I : Nat → World → Prop) : Prop := ∀ k W W' row, I k W → W.grownBy W' row → (∀ r, row = some r → B ≤ r) → I k W'
theorem LowFrom.own {B : Nat} {I : Nat → World → Prop} (h : LowFrom B I) : OwnFrom B I := fun k W W' row hs hg hr => h k W W' row hs hg (fun r e => (hr r e).1)
/-- The function g, with what it has captured, yields x 1, x 2 ..; `pre k`: what is known when k rounds went on; `go k`: what a round says that goes on; `fin k`: the rounds end with the k-th by themselves. -/
def StepsJ (n g : Nat) (lb : Array Value) (x : Nat → Array Value) (pre go fin : Nat → Prop) (Kp : World → World → Prop) (w : World) : Prop :=
  ∀ (l : Nat) (J Jx : Nat → World → Prop) (W : World), Below w.heap.size w W → LowFrom W.heap.size J → LowFrom W.heap.size Jx →
    (∀ k W1, pre k → J k W1 → YieldAt Fence.wide (n - 1) Try.prog l (x (k + 1)) W1 fun e W' => (e = .returned (.bool true) ∧ J (k + 1) W' ∧ Kp W1 W' ∧ go (k + 1)) ∨ (e = .returned (.bool false) ∧ Jx (k + 1) W')) →
    J 0 W → CallsIn Fence.wide n Try.prog g (#[.func (.yield l) #[] #[]] ++ lb) W fun e W' => (∃ v, e = .returned v) ∧ ((∃ k, fin k ∧ J k W') ∨ ∃ k, Jx k W')
/-- How a round's body is left. -/
def ExitJ (B : Nat) (Kp : World → World → Prop) (go : Prop) (I Ix : World → Prop) (W : World) : Exit → Act → World → Prop
  | .normal, _, W' => KeepsFrom B W W' ∧ Kp W W' ∧ go ∧ I W'
  | .ret, _, W' => KeepsFrom B W W' ∧ Ix W'
  | _, _, _ => False

/-- THE STATEMENT. -/
theorem loop_steps {g : Operand} {ps : Array Tmp} {assign body : Code} {Q : Exit → Act → World → Prop} {a : Act} {w : World} {n gf : Nat} {lb : Array Value} (hg : a.eval g = .func (.func gf) #[] lb) (eg : ∀ args w, (callFunc gf args).run Try.prog w = .ok (.enter gf args) w)
    {x : Nat → Array Value} {pre go fin : Nat → Prop} {Kp : World → World → Prop} (hst : StepsJ (n - 1) gf lb x pre go fin Kp w) (hps : ∀ k, (x k).size = ps.size)
    (hKt : ∀ {A B C : World}, Kp A B → Kp B C → Kp A C) (hKb : ∀ (W : World) (l : Nat) (o o' : Obj), w.heap.size ≤ l → W.heap[l]? = some o → o.isCells = false → o.isWalk = false → Kp W (W.putObj l o'))
    (I Ix : Nat → World → Prop) (hIL : LowFrom w.heap.size I) (hIxL : LowFrom w.heap.size Ix) (h0 : I 0 w) (Mid : Nat → Act → World → Prop) (hMid : ∀ a', OwnFrom w.heap.size (fun k W => Mid k a' W))
    (hassign : ∀ (l k : Nat) (W : World), pre k → I k W → assign.wpIn (Fence.wide.inRound l) (n - 1 - 1) Try.prog (Exit.then (fun a' W' => KeepsFrom w.heap.size W W' ∧ Kp W W' ∧ Mid k a' W') (fun _ _ _ => False)) { tmps := (ps.zip (x (k + 1))).foldl (fun t (p, v) => t.setIfInBounds p v) a.tmps, defers := [] } W)
    (hbody : ∀ (l k : Nat) (a' : Act) (W : World), w.heap.size ≤ l → pre k → Mid k a' W → body.wpIn (Fence.wide.inRound l) (n - 1 - 1) Try.prog (ExitJ w.heap.size Kp (go (k + 1)) (I (k + 1)) (Ix (k + 1)) W) a' W)
    (hdone : ∀ (D k : Nat) (W : World), w.heap.size ≤ D → fin k → I k W → W.heap[D]? = some (.deferred (some [])) → Q .normal { a with defers := { target := .collected D, args := #[] } :: a.defers } W)
    (hstop : ∀ (D k : Nat) (W : World), w.heap.size ≤ D → Ix k W → W.heap[D]? = some (.deferred (some [])) → Code.ret.wpIn Fence.wide n Try.prog Q { a with defers := { target := .collected D, args := #[] } :: a.defers } W) :
    (Code.rangeFunc g ps assign body).wpIn Fence.wide n Try.prog Q a w := by
  have hI := hIL.own
  have hIx := hIxL.own
  refine wpIn_rangeFunc ?_
  intro fn hfn
  obtain ⟨rec, hrec⟩ : ∃ rec : LoopState → Option Code → Loop, rec = fun st pe => { state := st, pending := pe, fn, tmps := a.tmps, params := ps, assign, body, defers := w.heap.size } := ⟨_, rfl⟩
  obtain ⟨V, hV⟩ : ∃ V, (w.alloc (.deferred (some []))).alloc (.loop (rec .ready none)) = V := ⟨_, rfl⟩
  have zV : V.heap.size = w.heap.size + 1 + 1 := by rw [← hV]; simp
  have lV : V.heap[w.heap.size + 1]? = some (.loop (rec .ready none)) := by rw [← hV]; exact heap_second _ _ _
  have kV : V.heap[w.heap.size]? = some (.deferred (some [])) := by rw [← hV]; exact (heap_old _ _ (by simp)).trans (heap_new _ _)
  have iV : I 0 V := by rw [← hV]; exact hI.alloc _ (hI.alloc _ h0)
  have bV : Below w.heap.size w V := by rw [← hV]; exact ((Below.refl _ _).alloc (Nat.le_refl _) _).alloc (by simp) _
  refine ⟨w.heap.size + 1, [{ target := .collected w.heap.size, args := #[] }], V, { target := .fn (.func gf) lb, args := #[.func (.yield (w.heap.size + 1)) #[] #[]] }, V, gf, #[.func (.yield (w.heap.size + 1)) #[] #[]] ++ lb, V, ?_, ?_, fun _ _ => trivial, ?_, (fun h => by cases h), ?_⟩
  · rw [← hV, hrec]; exact run_enterLoop_outer _ _ _ _ _
  · simp only [resolve, hg]
    simp [go_sem]
  · simp [invoke, go_sem, eg]
  obtain ⟨J, hJ⟩ : ∃ J : Nat → World → Prop, J = fun k W => I k W ∧ W.heap[w.heap.size + 1]? = some (.loop (rec .ready none)) ∧ W.heap[w.heap.size]? = some (.deferred (some [])) := ⟨_, rfl⟩
  obtain ⟨Jx, hJx⟩ : ∃ Jx : Nat → World → Prop, Jx = fun k W => Ix k W ∧ W.heap[w.heap.size + 1]? = some (.loop (rec .done (some .ret))) ∧ W.heap[w.heap.size]? = some (.deferred (some [])) := ⟨_, rfl⟩
  have low : ∀ {A A' : World} {row : Option Nat}, A.grownBy A' row → (∀ r, row = some r → V.heap.size ≤ r) → (∀ b o, b < V.heap.size → A.heap[b]? = some o → A'.heap[b]? = some o) ∧ ∀ r, row = some r → w.heap.size ≤ r := fun hgr hr =>
    ⟨fun b o hb ho => (hgr.block b (Array.getElem?_eq_some_iff.1 ho).1 (fun e => by have := hr b e.symm; omega)).trans ho, fun r e => by have := hr r e; omega⟩
  have aJ : LowFrom V.heap.size J := by
    rw [hJ]
    rintro k A A' row ⟨s1, s2, s3⟩ hgr hr
    obtain ⟨keep, hr2⟩ := low hgr hr
    exact ⟨hIL _ _ _ _ s1 hgr hr2, keep _ _ (by omega) s2, keep _ _ (by omega) s3⟩
  have aJx : LowFrom V.heap.size Jx := by
    rw [hJx]
    rintro k A A' row ⟨s1, s2, s3⟩ hgr hr
    obtain ⟨keep, hr2⟩ := low hgr hr
    exact ⟨hIxL _ _ _ _ s1 hgr hr2, keep _ _ (by omega) s2, keep _ _ (by omega) s3⟩
  have hR : ∀ k W1, pre k → J k W1 → YieldAt Fence.wide (n - 1 - 1) Try.prog (w.heap.size + 1) (x (k + 1)) W1 fun e W' => (e = .returned (.bool true) ∧ J (k + 1) W' ∧ Kp W1 W' ∧ go (k + 1)) ∨ (e = .returned (.bool false) ∧ Jx (k + 1) W') := by
    rw [hJ, hJx]
    rintro k W hpre ⟨s1, s2, s3⟩
    have hy := run_yield (P := Try.prog) (args := x (k + 1)) s2 (by rw [hrec]; exact hps _)
    rw [hrec] at hy
    refine ⟨fn, _, assign, body, hy, roundIn_of_wpIn hfn (wpIn_mono (hassign _ k W hpre s1) ?_)⟩
    intro e0 a0 W0 h0'
    cases e0 with
    | normal => ?_
    | _ => exact h0'.elim
    obtain ⟨kf, kp, hm⟩ := h0'
    have l0 := kf.same _ _ (by omega) s2 rfl
    have k0 := kf.same _ _ (Nat.le_refl _) s3 rfl
    have hlt0 := (Array.getElem?_eq_some_iff.1 l0).1
    refine ⟨_, run_beginRound l0 (by rw [hrec]), ?_⟩
    have l1 : (W0.putObj (w.heap.size + 1) (.loop { rec .ready none with state := .busy })).heap[w.heap.size + 1]? = some (.loop { rec .ready none with state := .busy }) := World.putObj_heap_same hlt0
    have k1 : (W0.putObj (w.heap.size + 1) (.loop { rec .ready none with state := .busy })).heap[w.heap.size]? = some (.deferred (some [])) := (World.putObj_heap_other (by omega)).trans k0
    have kp1 := hKt kp (hKb W0 _ _ (.loop { rec .ready none with state := .busy }) (by omega) l0 rfl rfl)
    refine wpIn_mono (hbody _ k a0 _ (by omega) hpre ((hMid a0).putObj _ hm (by omega) l0 rfl)) ?_
    intro e a3 W3 hp
    cases e with
    | normal =>
      obtain ⟨kf3, kp3, hgo, i3⟩ := hp
      have l3 := kf3.same _ _ (by omega) l1 rfl
      have k3 := kf3.same _ _ (Nat.le_refl _) k1 rfl
      refine ⟨_, _, run_endRound none l3, .inl ⟨rfl, ⟨hI.putObj _ i3 (by omega) l3 rfl, ?_, (World.putObj_heap_other (by omega)).trans k3⟩, hKt kp1 (hKt kp3 (hKb _ _ _ _ (by omega) l3 rfl rfl)), hgo⟩⟩
      rw [World.putObj_heap_same (Array.getElem?_eq_some_iff.1 l3).1, hrec]; rfl
    | ret =>
      obtain ⟨kf3, i3⟩ := hp
      have l3 := kf3.same _ _ (by omega) l1 rfl
      have k3 := kf3.same _ _ (Nat.le_refl _) k1 rfl
      refine ⟨_, _, run_endRound (some .ret) l3, .inr ⟨rfl, hIx.putObj _ i3 (by omega) l3 rfl, ?_, (World.putObj_heap_other (by omega)).trans k3⟩⟩
      rw [World.putObj_heap_same (Array.getElem?_eq_some_iff.1 l3).1, hrec]; rfl
    | _ => exact hp.elim
  have h0J : J 0 V := by rw [hJ]; exact ⟨iV, lV, kV⟩
  refine (hst (w.heap.size + 1) J Jx V bV aJ aJx hR h0J).mono ?_
  rintro e W2 ⟨⟨v, rfl⟩, (⟨k, hf, hJ2⟩ | ⟨k, hJ2⟩)⟩
  · rw [hJ] at hJ2
    obtain ⟨s1, s2, s3⟩ := hJ2
    exact ⟨none, _, by have := run_endLoop (P := Try.prog) s2 (by rw [hrec]; simp); rw [hrec] at this; exact this, hdone _ k _ (Nat.le_refl _) hf (hI.putObj _ s1 (by omega) s2 rfl) ((World.putObj_heap_other (by omega)).trans s3)⟩
  · rw [hJx] at hJ2
    obtain ⟨s1, s2, s3⟩ := hJ2
    exact ⟨some .ret, _, by have := run_endLoop (P := Try.prog) s2 (by rw [hrec]; simp); rw [hrec] at this; exact this, hstop _ k _ (Nat.le_refl _) (hIx.putObj _ s1 (by omega) s2 rfl) ((World.putObj_heap_other (by omega)).trans s3)⟩
end Go.Proofs.Ytglggigndhbpcaa
