/- A range over an iterator that calls itself: what such an iterator promises, and what the statement comes to, in our own words: a round may change the blocks of which a predicate tells, and new ones; the iterator reads others. No condition but those that stand in each statement. -/
import Derived.Test.YtmbopdlmkbbbiaaIown
import Derived.RangeFuncCalls
import Derived.RangeFuncFrom
import Derived.RangeFuncLeaves
import Derived.Shelf.Abstract
namespace Go.Proofs.Ytmbopdlmkbbbiaa
open Go.RowKit Go.Shelf

/-- The state of a loop's owner: it stays as it is while memory grows and while objects from B on that hold no cells are changed; its own blocks are there. -/
def Inv (B : Nat) (J : (Nat → Prop) → List Int → World → Prop) : Prop :=
  (∀ O s W W' row, J O s W → W.grownBy W' row → (∀ r, row = some r → B ≤ r ∧ ∃ o : Obj, W.heap[r]? = some o ∧ o.isCells = false) → J O s W') ∧ ∀ O s W, J O s W → ∀ b, O b → b < W.heap.size
/-- Each round goes on. -/
def Rounds (l : Nat) (xs : List Int) (J : (Nat → Prop) → List Int → World → Prop) : Prop :=
  ∀ (m : Nat) (O : Nat → Prop) (pre : List Int) (x : Int) (W : World), J O pre W → pre ++ [x] <+: xs → YieldAt Fence.wide m Try.prog l #[.int .i64 x] W fun e W' => e = .returned (.bool true) ∧ ∃ O', J O' (pre ++ [x]) W' ∧ Turn O W O' W'
/-- The function g, with what it has captured, tells xs; it reads blocks of which D tells. -/
def Tells (D : Nat → Prop) (g : Nat) (lb : Array Value) (xs : List Int) (W : World) : Prop :=
  ∀ (l : Nat) (J : (Nat → Prop) → List Int → World → Prop) (O : Nat → Prop), (∀ b, D b → ¬ O b) → Inv W.heap.size J → Rounds l xs J → J O [] W → ∀ n,
    CallsIn Fence.wide n Try.prog g (#[.func (.yield l) #[] #[]] ++ lb) W fun e W' => (∃ v, e = .returned v) ∧ ∃ O', J O' xs W' ∧ Turn O W O' W'
/-- How a round's body is left. -/
def Goes (I : (Nat → Prop) → List Int → World → Prop) (O : Nat → Prop) (xs : List Int) (W : World) : Exit → Act → World → Prop
  | .normal, _, W' => ∃ O', I O' xs W' ∧ Turn O W O' W'
  | _, _, _ => False
theorem Inv.put {B : Nat} {J : (Nat → Prop) → List Int → World → Prop} (h : Inv B J) {O : Nat → Prop} {s : List Int} {W : World} {l : Nat} {o : Obj} (o' : Obj) (hs : J O s W) (hB : B ≤ l) (hl : W.heap[l]? = some o) (ho : o.isCells = false) : J O s (W.putObj l o') :=
  h.1 O s W _ (some l) hs (grownBy_putObj' W l o') (fun r e => by cases e; exact ⟨hB, o, hl, ho⟩)
theorem Inv.alloc {B : Nat} {J : (Nat → Prop) → List Int → World → Prop} (h : Inv B J) {O : Nat → Prop} {s : List Int} {W : World} (o : Obj) (hs : J O s W) : J O s (W.alloc o) := h.1 O s W _ none hs (World.grownBy_alloc W o none) (fun r e => by cases e)
/-- A block that is put and put back. -/
theorem turn_put {O O' : Nat → Prop} {W W3 : World} {l : Nat} {o o1 o2 : Obj} (hl : W.heap[l]? = some o) (h : Turn O (W.putObj l o1) O' W3) (h3 : l < W3.heap.size) (he : o2 = o) : Turn O W O' (W3.putObj l o2) := by
  subst he
  obtain ⟨t1, t2, t3, t4, t5, t6⟩ := h
  refine ⟨t1, t2, t3, by simpa using t4, fun b hb hO => ?_, fun b hb => by simpa using t6 b hb⟩
  by_cases e : b = l
  · subst e
    rw [World.putObj_heap_same h3, hl]
  · rw [World.putObj_heap_other e, t5 b (by simpa using hb) hO, World.putObj_heap_other e]

/-- THE STATEMENT. -/
theorem loop_tells {g : Operand} {ps : Array Tmp} {assign body : Code} {Q : Exit → Act → World → Prop} {a : Act} {w : World} {n gf : Nat} {lb : Array Value} (hg : a.eval g = .func (.func gf) #[] lb) (eg : ∀ args w, (callFunc gf args).run Try.prog w = .ok (.enter gf args) w)
    (hps : ps.size = 1) {xs : List Int} {D O : Nat → Prop} (hD : ∀ b, D b → ¬ O b) (ht : ∀ o1 o2, Tells D gf lb xs ((w.alloc o1).alloc o2)) (I : (Nat → Prop) → List Int → World → Prop) (hI : Inv w.heap.size I) (h0 : I O [] w)
    (hround : ∀ (l m : Nat) (O : Nat → Prop) (pre : List Int) (x : Int) (W : World), I O pre W → pre ++ [x] <+: xs → assign.wpIn (Fence.wide.inRound l) m Try.prog (Exit.then (fun a' W' => W' = W ∧ ∀ Wb, I O pre Wb → body.wpIn (Fence.wide.inRound l) m Try.prog (Goes I O (pre ++ [x]) Wb) a' Wb) (fun _ _ _ => False)) { tmps := (ps.zip #[Value.int .i64 x]).foldl (fun t (p, v) => t.setIfInBounds p v) a.tmps, defers := [] } W)
    (hdone : ∀ (d : Nat) (O' : Nat → Prop) (W : World), w.heap.size ≤ d → I O' xs W → W.heap[d]? = some (.deferred (some [])) → ¬ O' d → Turn O w O' W → Q .normal { a with defers := { target := .collected d, args := #[] } :: a.defers } W) :
    (Code.rangeFunc g ps assign body).wpIn Fence.wide n Try.prog Q a w := by
  refine wpIn_rangeFunc ?_
  intro fn hfn
  obtain ⟨rec, hrec⟩ : ∃ rec : LoopState → Option Code → Loop, rec = fun st pe => { state := st, pending := pe, fn, tmps := a.tmps, params := ps, assign, body, defers := w.heap.size } := ⟨_, rfl⟩
  obtain ⟨V, hV⟩ : ∃ V, (w.alloc (.deferred (some []))).alloc (.loop (rec .ready none)) = V := ⟨_, rfl⟩
  have zV : V.heap.size = w.heap.size + 1 + 1 := by rw [← hV]; simp
  have lV : V.heap[w.heap.size + 1]? = some (.loop (rec .ready none)) := by rw [← hV]; exact heap_second _ _ _
  have kV : V.heap[w.heap.size]? = some (.deferred (some [])) := by rw [← hV]; exact (heap_old _ _ (by simp)).trans (heap_new _ _)
  have iV : I O [] V := by rw [← hV]; exact hI.alloc _ (hI.alloc _ h0)
  have tV : Turn O w O V := by rw [← hV]; exact (Turn.alloc _ _ _).trans (Turn.alloc _ _ _)
  have hlt := hI.2 _ _ _ h0
  refine ⟨w.heap.size + 1, [{ target := .collected w.heap.size, args := #[] }], V, { target := .fn (.func gf) lb, args := #[.func (.yield (w.heap.size + 1)) #[] #[]] }, V, gf, #[.func (.yield (w.heap.size + 1)) #[] #[]] ++ lb, V, ?_, ?_, fun _ _ => trivial, ?_, (fun h => by cases h), ?_⟩
  · rw [← hV, hrec]; exact run_enterLoop_outer _ _ _ _ _
  · simp only [resolve, hg]
    simp [go_sem]
  · simp [invoke, go_sem, eg]
  obtain ⟨J, hJ⟩ : ∃ J : (Nat → Prop) → List Int → World → Prop, J = fun O s W => I O s W ∧ W.heap[w.heap.size + 1]? = some (.loop (rec .ready none)) ∧ W.heap[w.heap.size]? = some (.deferred (some [])) ∧ ¬ O (w.heap.size + 1) ∧ ¬ O w.heap.size := ⟨_, rfl⟩
  have hInv : Inv V.heap.size J := by
    rw [hJ]
    refine ⟨fun P s A A' row hs hgr hr => ?_, fun P s A hs => hI.2 _ _ _ hs.1⟩
    obtain ⟨s1, s2, s3, s4, s5⟩ := hs
    have keep : ∀ b o, b < V.heap.size → A.heap[b]? = some o → A'.heap[b]? = some o := fun b o hb ho => (hgr.block b (Array.getElem?_eq_some_iff.1 ho).1 (fun e => by have := (hr b e.symm).1; omega)).trans ho
    exact ⟨hI.1 _ _ _ _ _ s1 hgr (fun r e => ⟨by have := (hr r e).1; omega, (hr r e).2⟩), keep _ _ (by omega) s2, keep _ _ (by omega) s3, s4, s5⟩
  have hR : Rounds (w.heap.size + 1) xs J := by
    rw [hJ]
    rintro m P pre x W ⟨s1, s2, s3, s4, s5⟩ hpre
    have hy := run_yield (P := Try.prog) (args := #[Value.int .i64 x]) s2 (by rw [hrec]; exact hps.symm)
    rw [hrec] at hy
    have hlt2 := (Array.getElem?_eq_some_iff.1 s2).1
    refine ⟨fn, _, assign, body, hy, roundIn_of_wpIn hfn (wpIn_mono (hround _ m P pre x W s1 hpre) ?_)⟩
    intro e0 a0 W0 h0'
    cases e0 with
    | normal => ?_
    | _ => exact h0'.elim
    obtain ⟨e1, hb'⟩ := h0'
    rw [e1]
    refine ⟨_, run_beginRound s2 (by rw [hrec]), ?_⟩
    refine wpIn_mono (hb' _ (hI.put _ s1 (by omega) s2 rfl)) ?_
    intro e a3 W3 hp
    cases e with
    | normal =>
      obtain ⟨O', i3, t3⟩ := hp
      have z3 := t3.2.2.2.1
      rw [World.putObj_size] at z3
      have l3 : W3.heap[w.heap.size + 1]? = some (.loop { rec .ready none with state := .busy }) := (t3.2.2.2.2.1 _ (by simpa using hlt2) s4).trans (World.putObj_heap_same hlt2)
      have k3 : W3.heap[w.heap.size]? = some (.deferred (some [])) := (t3.2.2.2.2.1 _ (by simp; omega) s5).trans ((World.putObj_heap_other (by omega)).trans s3)
      have n1 : ∀ b, b < W.heap.size → ¬ P b → ¬ O' b := fun b hb hn h => by
        rcases t3.2.2.2.2.2 b h with h | h
        · exact hn h
        · rw [World.putObj_size] at h; omega
      refine ⟨_, _, run_endRound none l3, rfl, O', ⟨hI.put _ i3 (by omega) l3 rfl, ?_, (World.putObj_heap_other (by omega)).trans k3, n1 _ hlt2 s4, n1 _ (by omega) s5⟩, turn_put s2 t3 (Array.getElem?_eq_some_iff.1 l3).1 (by rw [hrec]; rfl)⟩
      rw [World.putObj_heap_same (Array.getElem?_eq_some_iff.1 l3).1, hrec]; rfl
    | _ => exact hp.elim
  have h0J : J O [] V := by rw [hJ]; exact ⟨iV, lV, kV, fun h => by have := hlt _ h; omega, fun h => by have := hlt _ h; omega⟩
  have htV : Tells D gf lb xs V := by rw [← hV]; exact ht _ _
  refine (htV (w.heap.size + 1) J O hD hInv hR h0J (n - 1)).mono ?_
  rintro e W2 ⟨⟨v, rfl⟩, O', hJ2, t2⟩
  rw [hJ] at hJ2
  obtain ⟨s1, s2, s3, s4, s5⟩ := hJ2
  have t4 := tV.trans t2
  refine ⟨none, _, by have := run_endLoop (P := Try.prog) s2 (by rw [hrec]; simp); rw [hrec] at this; exact this, hdone _ O' _ (Nat.le_refl _) (hI.put _ s1 (by omega) s2 rfl) ((World.putObj_heap_other (by omega)).trans s3) s5 ?_⟩
  refine ⟨t4.1, t4.2.1, t4.2.2.1, by simpa using t4.2.2.2.1, fun b hb hn => (World.putObj_heap_other (by omega)).trans (t4.2.2.2.2.1 b hb hn), t4.2.2.2.2.2⟩
end Go.Proofs.Ytmbopdlmkbbbiaa
