/- A range over an iterator that yields what lies in memory, and that may call itself: what such an iterator promises, and what the statement comes to, in our own words: a round may change the blocks of which a predicate tells, and new ones; the iterator reads others. V says of a value what it stands for: that depends on what lies below B alone. No condition but those that stand in each statement. -/
import Derived.Test.YtcnhfoppfihhiaaZP5
import Derived.Test.YtcnhfoppfihhiaaTlf
import Derived.Test.YtcnhfoppfihhiaaWpl
import Derived.Maps.AppendAt
import Derived.Laws.OwnMore
import Derived.RangeFuncBox
import Derived.Shelf.RegionOpen
import Derived.WalkKit
import Derived.OwnWalkIn
import Derived.TacticsInMore
import Derived.LoopNIn
import Derived.LoopIn
import Derived.IntWalk
import Derived.BigRegionIn
import Derived.Stop.RegionWithIn
import Derived.Test.YtcnhfoppfihhiaaQmath
import Derived.Test.YtcnhfoppfihhiaaCell
import Derived.Test.YtcnhfoppfihhiaaZP0
import Derived.MapKept
import Derived.WalkSmall
import Derived.Test.YtcnhfoppfihhiaaSpec
namespace Go.Proofs.Ytcnhfoppfihhiaa
open Go.RowKit Go.Shelf

/-- What stands for what, by the blocks below B alone. -/
def KeepV {α : Type} (V : World → α → Value → Prop) (B : Nat) : Prop := ∀ W W' x v, (∀ b, b < B → W'.heap[b]? = W.heap[b]?) → V W x v → V W' x v
/-- The state of a loop's owner: it stays as it is while memory grows and while blocks from B on that are not its own are changed; its own blocks are there. -/
def InvV {α : Type} (B : Nat) (J : (Nat → Prop) → List α → World → Prop) : Prop :=
  (∀ O s W W' row, J O s W → W.grownBy W' row → (∀ r, row = some r → B ≤ r ∧ ¬ O r) → J O s W') ∧ ∀ O s W, J O s W → ∀ b, O b → b < W.heap.size
/-- Each round goes on. -/
def RoundsV {α : Type} (V : World → α → Value → Prop) (l : Nat) (xs : List α) (J : (Nat → Prop) → List α → World → Prop) : Prop :=
  ∀ (m : Nat) (O : Nat → Prop) (pre : List α) (x : α) (v : Value) (W : World), J O pre W → V W x v → pre ++ [x] <+: xs → YieldAt Fence.wide m Try.prog l #[v] W fun e W' => e = .returned (.bool true) ∧ ∃ O', J O' (pre ++ [x]) W' ∧ Turn O W O' W'
/-- The function g, with what it has captured, tells xs; it reads blocks of which D tells. -/
def TellsV {α : Type} (V : World → α → Value → Prop) (D : Nat → Prop) (g : Nat) (lb : Array Value) (xs : List α) (W : World) : Prop :=
  ∀ (l : Nat) (J : (Nat → Prop) → List α → World → Prop) (O : Nat → Prop), (∀ b, D b → ¬ O b) → InvV W.heap.size J → RoundsV V l xs J → J O [] W → ∀ n,
    CallsIn Fence.wide n Try.prog g (#[.func (.yield l) #[] #[]] ++ lb) W fun e W' => (∃ v, e = .returned v) ∧ ∃ O', J O' xs W' ∧ Turn O W O' W'
/-- How a round's body is left. -/
def GoesV {α : Type} (I : (Nat → Prop) → List α → World → Prop) (O : Nat → Prop) (xs : List α) (W : World) : Exit → Act → World → Prop
  | .normal, _, W' => ∃ O', I O' xs W' ∧ Turn O W O' W'
  | _, _, _ => False
theorem InvV.put {α : Type} {B : Nat} {J : (Nat → Prop) → List α → World → Prop} (h : InvV B J) {O : Nat → Prop} {s : List α} {W : World} {l : Nat} (o' : Obj) (hs : J O s W) (hB : B ≤ l) (hn : ¬ O l) : J O s (W.putObj l o') :=
  h.1 O s W _ (some l) hs (grownBy_putObj' W l o') (fun r e => by cases e; exact ⟨hB, hn⟩)
theorem InvV.alloc {α : Type} {B : Nat} {J : (Nat → Prop) → List α → World → Prop} (h : InvV B J) {O : Nat → Prop} {s : List α} {W : World} (o : Obj) (hs : J O s W) : J O s (W.alloc o) := h.1 O s W _ none hs (World.grownBy_alloc W o none) (fun r e => by cases e)

/-- THE STATEMENT. -/
theorem loop_tellsV {α : Type} {V : World → α → Value → Prop} {B : Nat} (hV : KeepV V B) {g : Operand} {ps : Array Tmp} {assign body : Code} {Q : Exit → Act → World → Prop} {a : Act} {w : World} {n gf : Nat} {lb : Array Value} (hg : a.eval g = .func (.func gf) #[] lb) (eg : ∀ args w, (callFunc gf args).run Try.prog w = .ok (.enter gf args) w)
    (hps : ps.size = 1) {xs : List α} {D O : Nat → Prop} (hBw : B ≤ w.heap.size) (hD : ∀ b, D b → ¬ O b) (ht : ∀ o1 o2, TellsV V D gf lb xs ((w.alloc o1).alloc o2)) (I : (Nat → Prop) → List α → World → Prop) (hI : InvV w.heap.size I) (h0 : I O [] w)
    (hround : ∀ (l m : Nat) (O : Nat → Prop) (pre : List α) (x : α) (v : Value) (W : World), I O pre W → V W x v → pre ++ [x] <+: xs → assign.wpIn (Fence.wide.inRound l) m Try.prog (Exit.then (fun a' W' => ∃ o, W' = W.alloc o ∧ ∀ Wb, I O pre Wb → V Wb x v → Wb.heap.size = W.heap.size + 1 → Wb.heap[W.heap.size]? = some o → body.wpIn (Fence.wide.inRound l) m Try.prog (GoesV I O (pre ++ [x]) Wb) a' Wb) (fun _ _ _ => False)) { tmps := (ps.zip #[v]).foldl (fun t (p, v) => t.setIfInBounds p v) a.tmps, defers := [] } W)
    (hdone : ∀ (d : Nat) (O' : Nat → Prop) (W : World), w.heap.size ≤ d → I O' xs W → W.heap[d]? = some (.deferred (some [])) → ¬ O' d → Turn O w O' W → Q .normal { a with defers := { target := .collected d, args := #[] } :: a.defers } W) :
    (Code.rangeFunc g ps assign body).wpIn Fence.wide n Try.prog Q a w := by
  refine wpIn_rangeFunc ?_
  intro fn hfn
  obtain ⟨rec, hrec⟩ : ∃ rec : LoopState → Option Code → Loop, rec = fun st pe => { state := st, pending := pe, fn, tmps := a.tmps, params := ps, assign, body, defers := w.heap.size } := ⟨_, rfl⟩
  obtain ⟨Y, hY⟩ : ∃ Y, (w.alloc (.deferred (some []))).alloc (.loop (rec .ready none)) = Y := ⟨_, rfl⟩
  have zV : Y.heap.size = w.heap.size + 1 + 1 := by rw [← hY]; simp
  have lV : Y.heap[w.heap.size + 1]? = some (.loop (rec .ready none)) := by rw [← hY]; exact heap_second _ _ _
  have kV : Y.heap[w.heap.size]? = some (.deferred (some [])) := by rw [← hY]; exact (heap_old _ _ (by simp)).trans (heap_new _ _)
  have iV : I O [] Y := by rw [← hY]; exact hI.alloc _ (hI.alloc _ h0)
  have tV : Turn O w O Y := by rw [← hY]; exact (Turn.alloc _ _ _).trans (Turn.alloc _ _ _)
  have hlt := hI.2 _ _ _ h0
  refine ⟨w.heap.size + 1, [{ target := .collected w.heap.size, args := #[] }], Y, { target := .fn (.func gf) lb, args := #[.func (.yield (w.heap.size + 1)) #[] #[]] }, Y, gf, #[.func (.yield (w.heap.size + 1)) #[] #[]] ++ lb, Y, ?_, ?_, fun _ _ => trivial, ?_, (fun h => by cases h), ?_⟩
  · rw [← hY, hrec]; exact run_enterLoop_outer _ _ _ _ _
  · simp only [resolve, hg]
    simp [go_sem]
  · simp [invoke, go_sem, eg]
  obtain ⟨J, hJ⟩ : ∃ J : (Nat → Prop) → List α → World → Prop, J = fun O s W => I O s W ∧ W.heap[w.heap.size + 1]? = some (.loop (rec .ready none)) ∧ W.heap[w.heap.size]? = some (.deferred (some [])) ∧ ¬ O (w.heap.size + 1) ∧ ¬ O w.heap.size := ⟨_, rfl⟩
  have hInv : InvV Y.heap.size J := by
    rw [hJ]
    refine ⟨fun P s A A' row hs hgr hr => ?_, fun P s A hs => hI.2 _ _ _ hs.1⟩
    obtain ⟨s1, s2, s3, s4, s5⟩ := hs
    have keep : ∀ b o, b < Y.heap.size → A.heap[b]? = some o → A'.heap[b]? = some o := fun b o hb ho => (hgr.block b (Array.getElem?_eq_some_iff.1 ho).1 (fun e => by have := (hr b e.symm).1; omega)).trans ho
    exact ⟨hI.1 _ _ _ _ _ s1 hgr (fun r e => ⟨by have := (hr r e).1; omega, (hr r e).2⟩), keep _ _ (by omega) s2, keep _ _ (by omega) s3, s4, s5⟩
  have hR : RoundsV V (w.heap.size + 1) xs J := by
    rw [hJ]
    rintro m P pre x v W ⟨s1, s2, s3, s4, s5⟩ hv hpre
    have hy := run_yield (P := Try.prog) (args := #[v]) s2 (by rw [hrec]; exact hps.symm)
    rw [hrec] at hy
    have hlt2 := (Array.getElem?_eq_some_iff.1 s2).1
    refine ⟨fn, _, assign, body, hy, roundIn_of_wpIn hfn (wpIn_mono (hround _ m P pre x v W s1 hv hpre) ?_)⟩
    intro e0 a0 W0 h0'
    cases e0 with
    | normal => ?_
    | _ => exact h0'.elim
    obtain ⟨o, rfl, hb'⟩ := h0'
    have u1 := hI.alloc o s1
    have u2 := (heap_old W o hlt2).trans s2
    have u3 := (heap_old W o (Array.getElem?_eq_some_iff.1 s3).1).trans s3
    have hlt3 := (Array.getElem?_eq_some_iff.1 u2).1
    refine ⟨_, run_beginRound u2 (by rw [hrec]), ?_⟩
    refine wpIn_mono (hb' _ (hI.put _ u1 (by omega) s4) (hV _ _ _ _ (fun b hb => (World.putObj_heap_other (by omega)).trans (heap_old W o (by omega))) hv) (by simp) ((World.putObj_heap_other (by omega)).trans (heap_new W o))) ?_
    intro e a3 W3 hp
    cases e with
    | normal =>
      obtain ⟨O', i3, t3⟩ := hp
      have z3 := t3.2.2.2.1
      rw [World.putObj_size] at z3
      have l3 : W3.heap[w.heap.size + 1]? = some (.loop { rec .ready none with state := .busy }) := (t3.2.2.2.2.1 _ (by simpa using hlt3) s4).trans (World.putObj_heap_same hlt3)
      have k3 : W3.heap[w.heap.size]? = some (.deferred (some [])) := (t3.2.2.2.2.1 _ (by simp; omega) s5).trans ((World.putObj_heap_other (by omega)).trans u3)
      have n1 : ∀ b, b < W.heap.size → ¬ P b → ¬ O' b := fun b hb hn h => by
        rcases t3.2.2.2.2.2 b h with h | h
        · exact hn h
        · rw [World.putObj_size, World.size_alloc] at h; omega
      refine ⟨_, _, run_endRound none l3, rfl, O', ⟨hI.put _ i3 (by omega) (n1 _ hlt2 s4), ?_, (World.putObj_heap_other (by omega)).trans k3, n1 _ hlt2 s4, n1 _ (by omega) s5⟩, (Turn.alloc P W o).trans (turn_put u2 t3 (Array.getElem?_eq_some_iff.1 l3).1 (by rw [hrec]; rfl))⟩
      rw [World.putObj_heap_same (Array.getElem?_eq_some_iff.1 l3).1, hrec]; rfl
    | _ => exact hp.elim
  have h0J : J O [] Y := by rw [hJ]; exact ⟨iV, lV, kV, fun h => by have := hlt _ h; omega, fun h => by have := hlt _ h; omega⟩
  have htV : TellsV V D gf lb xs Y := by rw [← hY]; exact ht _ _
  refine (htV (w.heap.size + 1) J O hD hInv hR h0J (n - 1)).mono ?_
  rintro e W2 ⟨⟨v, rfl⟩, O', hJ2, t2⟩
  rw [hJ] at hJ2
  obtain ⟨s1, s2, s3, s4, s5⟩ := hJ2
  have t4 := tV.trans t2
  refine ⟨none, _, by have := run_endLoop (P := Try.prog) s2 (by rw [hrec]; simp); rw [hrec] at this; exact this, hdone _ O' _ (Nat.le_refl _) (hI.put _ s1 (by omega) s4) ((World.putObj_heap_other (by omega)).trans s3) s5 ?_⟩
  refine ⟨t4.1, t4.2.1, t4.2.2.1, by simpa using t4.2.2.2.1, fun b hb hn => (World.putObj_heap_other (by omega)).trans (t4.2.2.2.2.1 b hb hn), t4.2.2.2.2.2⟩
end Go.Proofs.Ytcnhfoppfihhiaa
/- A row of rows of terms of the call's own, from which the last one is taken and behind which others are put; the contract of the program's added; what the iterator over the parts of a term tells. No condition but those that stand in each statement. -/
namespace Go.Proofs.Ytcnhfoppfihhiaa
open Go.RowKit Go.Shelf

/-- The row, in a block of the call's own. -/
def SkAt (W : World) (base g cap : Nat) (vs : List Value) : Prop := W.ownsRow base 27 1 (.slice (some ⟨g, 0, none⟩) vs.length cap) vs.length vs
theorem infoTerms : (Try.prog.info? 27).map (fun i => (i.zero, i.size, i.bytes)) = some (some (.slice none 0 0), 1, 24) := by kernel_rfl
theorem SkAt.lt {W : World} {base g cap : Nat} {vs : List Value} (h : SkAt W base g cap vs) : base ≤ g ∧ g < W.heap.size ∧ vs.length ≤ cap := by
  have h1 := World.ownsRow.lt h g rfl
  rcases h.2 with ⟨e, _⟩ | ⟨_, _, _, e, _, _, hl, _⟩
  · cases e
  · injection e with _ _ e
    subst e
    exact ⟨h1.1, h1.2, hl⟩
theorem SkAt.keep {W W' : World} {base g cap : Nat} {vs : List Value} (h : SkAt W base g cap vs) (hk : W'.heap[g]? = W.heap[g]?) : SkAt W' base g cap vs := by
  refine ⟨h.1, ?_⟩
  rcases h.2 with ⟨e, _⟩ | ⟨g', c, cur, e, hb, hh, rest⟩
  · cases e
  · have eg : g' = g := by injection e with e _ _; injection e with e; injection e with e _ _; exact e.symm
    subst eg
    exact .inr ⟨g', c, cur, e, hb, hk.trans hh, rest⟩
/-- The last one is taken off. -/
theorem SkAt.drop {W : World} {base g cap : Nat} {vs : List Value} {v : Value} (h : SkAt W base g cap (vs ++ [v])) : SkAt W base g cap vs ∧ W.cell? ⟨g, vs.length, none⟩ = some v := by
  have hc := World.ownsRow.cellAt h vs.length (by simp)
  refine ⟨⟨by simp, ?_⟩, by simpa using hc⟩
  rcases h.2 with ⟨e, _⟩ | ⟨g', c, cur, e, hb, hh, hl, hm, hs, ht⟩
  · cases e
  · injection e with e1 _ e3
    refine .inr ⟨g', c, cur, by rw [e1, e3], hb, hh, by simp at hl; omega, hm, hs, ?_⟩
    have h2 := congrArg (List.take vs.length) ht
    rw [List.take_take] at h2
    simpa using h2
/-- THE APPEND of a row. -/
theorem SkAt.push {W : World} {base g cap : Nat} {vs : List Value} (h : SkAt W base g cap vs) (A : Option Addr) (L c : Nat) (hl : vs.length ≤ 100000) (hb : base ≤ W.heap.size) :
    ∃ g' cap' w', (Builtin.append_ #[91, 91] 91 #[.slice (some ⟨g, 0, none⟩) vs.length cap, .slice (some ⟨W.heap.size, 0, none⟩) 1 1]).run Try.prog (W.alloc (.cells #[.slice A L c] 27)) = .ok (.slice (some ⟨g', 0, none⟩) (vs.length + 1) cap') w' ∧ SkAt w' base g' cap' (vs ++ [.slice A L c]) ∧ Turn (· = g) W (· = g') w' := by
  obtain ⟨i0, hi, hz0, hz1, hz2⟩ := info_parts infoTerms
  obtain ⟨v', w', hrun, h2, h3, _, h5⟩ := run_append_own_at (P := Try.prog) _ base 91 91 27 i0 _ 1 24 Try.underlying91 hi hz0 hz1 hz2 rfl (by omega) _ vs.length _ (World.ownsRow.alloc h (.cells #[.slice A L c] 27)) ⟨W.heap.size, 0, none⟩ 1 1 [.slice A L c] rfl (cell_one_new _ _ _) (by simp [Value.oneCell']) (by unfold maxLen; omega) (by omega) (by simp; omega)
  obtain ⟨g', cap', rfl⟩ := ownsRow_succ h2
  have hz := h3.size
  rw [World.size_alloc] at hz
  refine ⟨g', cap', w', hrun, ?_, h3.os, h3.tape, h3.output, by omega, fun b hb hn => ?_, fun b hb => ?_⟩
  · unfold SkAt
    rw [List.length_append]
    exact h2
  · exact (h3.block b (by rw [World.size_alloc]; omega) (fun e => hn (by injection e))).trans (heap_old _ _ hb)
  · rcases h5 with h5 | h5
    · injection h5 with h5
      exact .inl (by rw [hb]; exact h5)
    · injection h5 with h5
      rw [World.size_alloc] at h5
      exact .inr (by rw [hb]; simp only at h5; omega)
/-- What added makes of the row. -/
def adV (vs : List Value) (A : Option Addr) (L c : Nat) : List Value := if L = 0 then vs else vs ++ [.slice A L c]
def AdvPost (base g : Nat) (us : List Value) (W : World) (e : Ending) (w' : World) : Prop := ∃ g' cap', e = .returned (.slice (some ⟨g', 0, none⟩) us.length cap') ∧ SkAt w' base g' cap' us ∧ Turn (· = g) W (· = g') w'

set_option maxHeartbeats 1000000 in
theorem qAdded_any (vs : List Value) (g cap base : Nat) (A : Option Addr) (L c : Nat) (W : World) (h : SkAt W base g cap vs) (hl : vs.length ≤ 100000) (hb : base ≤ W.heap.size) :
    Calls Try.prog 52 #[.slice (some ⟨g, 0, none⟩) vs.length cap, .slice A L c] W (AdvPost base g (adV vs A L c) W) := by
  by_cases h0 : L = 0
  · subst h0
    have HE : Hid (AdvPost base g (adV vs A 0 c) W (.returned (.slice (some ⟨g, 0, none⟩) vs.length cap)) W) := Lib.hid ⟨g, cap, rfl, h, Turn.refl _ _⟩
    clear h
    go_enter Try.func52, Try.ntmps52
    go_wp2_with fail
    go_ret
    exact HE.out
  · have d0 : ((L : Int) == 0) = false := beq_eq_false_iff_ne.2 (by omega)
    obtain ⟨g', cap', w', hrun, h1, h2⟩ := h.push A L c hl hb
    have HRUN := Lib.hid hrun
    have e : adV vs A L c = vs ++ [.slice A L c] := if_neg h0
    have HE : Hid (AdvPost base g (adV vs A L c) W (.returned (.slice (some ⟨g', 0, none⟩) (vs.length + 1) cap')) w') := Lib.hid (by rw [e]; exact ⟨g', cap', by simp, h1, h2⟩)
    clear h h1 h2 hrun e
    go_enter Try.func52, Try.ntmps52
    go_wp2_with (at_builtin; refine wpList_append_run (by rfl) _ _ _ (by rfl) (by rfl) (by rfl) HRUN.out ?_)
    go_ret
    exact HE.out

/-- The parts of a term, each ahead of its Kids. -/
def prF : Ft → List Tm
  | .nil => []
  | .cons k n ls ks r => ⟨k, n, ls, ks⟩ :: (prF ks ++ prF r)
def prT (T : Tm) : List Tm := T :: prF T.ks
/-- A value that stands for a term; what it leads to lies below B. -/
def TpV (B : Nat) (W : World) (x : Tm) (v : Value) : Prop := ∃ la lc ka kc, v = .agg #[.int .i64 x.k, .int .i64 x.n, .slice la x.ls.len lc, .slice ka x.ks.len kc] ∧ SlIn W (· < B) x.ls la lc ∧ TlIn W (· < B) x.ks ka kc
theorem TpV.keepV (B : Nat) : KeepV (TpV B) B := fun W W' x v h => by
  rintro ⟨la, lc, ka, kc, e, hs, ht⟩
  exact ⟨la, lc, ka, kc, e, hs.keep h, ht.turn h (fun _ h => h)⟩
/-- A row of terms on the pile: the terms, and where it lies. -/
def teV (e : Ft × Nat × Nat × Nat) : Value := .slice (some ⟨e.2.1, e.2.2.1, none⟩) e.1.len e.2.2.2
def TeIn (W : World) (B RB : Nat) (e : Ft × Nat × Nat × Nat) : Prop := 0 < e.1.len ∧ e.1.len ≤ e.2.2.2 ∧ e.2.2.2 ≤ maxLen ∧ (e.2.1 < B ∨ e.2.1 = RB) ∧ FtIn W (· < B) e.1 e.2.1 e.2.2.1
theorem TeIn.keep {W W' : World} {B RB : Nat} {e : Ft × Nat × Nat × Nat} (h : TeIn W B RB e) (hk : ∀ b, b < B ∨ b = RB → W'.heap[b]? = W.heap[b]?) : TeIn W' B RB e := by
  obtain ⟨h1, h2, h3, h4, h5⟩ := h
  exact ⟨h1, h2, h3, h4, FtIn.cells (fun b hb => hk b (.inl hb)) (fun _ h => h) e.1 _ _ (fun _ _ => World.cell?_of_block (w := W) (hk _ h4)) h5⟩
/-- What is still to be told, the last row first. -/
def skR : List (Ft × Nat × Nat × Nat) → List Tm
  | [] => []
  | e :: S => skR S ++ prF e.1
def skSz : List (Ft × Nat × Nat × Nat) → Nat
  | [] => 0
  | e :: S => skSz S + e.1.size
theorem skR_snoc (S : List (Ft × Nat × Nat × Nat)) (e : Ft × Nat × Nat × Nat) : skR (S ++ [e]) = prF e.1 ++ skR S := by
  induction S with
  | nil => simp [skR]
  | cons x S ih => show skR (S ++ [e]) ++ prF x.1 = prF e.1 ++ (skR S ++ prF x.1); rw [ih, List.append_assoc]
theorem skSz_snoc (S : List (Ft × Nat × Nat × Nat)) (e : Ft × Nat × Nat × Nat) : skSz (S ++ [e]) = skSz S + e.1.size := by
  induction S with
  | nil => simp [skSz]
  | cons x S ih => show skSz (S ++ [e]) + x.1.size = skSz S + x.1.size + e.1.size; rw [ih]; omega
theorem sk_len {W : World} {B RB : Nat} : ∀ {S : List (Ft × Nat × Nat × Nat)}, (∀ e ∈ S, TeIn W B RB e) → S.length ≤ skSz S
  | [], _ => Nat.le_refl _
  | x :: S, h => by
    have h1 := sk_len (S := S) (fun e he => h e (List.mem_cons_of_mem _ he))
    have h2 := (h x (List.mem_cons_self)).1
    have h3 := Ft.len_le_size x.1
    show S.length + 1 ≤ skSz S + x.1.size
    omega
/-- A row is put on the pile, if it is not empty. -/
def pushS (S : List (Ft × Nat × Nat × Nat)) (f : Ft) (A : Option Addr) (c : Nat) : List (Ft × Nat × Nat × Nat) := if f.len = 0 then S else S ++ [(f, (A.getD ⟨0, 0, none⟩).block, (A.getD ⟨0, 0, none⟩).off, c)]
theorem pushS_adV {S : List (Ft × Nat × Nat × Nat)} {f : Ft} {A : Option Addr} {c : Nat} (h : 0 < f.len → ∃ b o, A = some ⟨b, o, none⟩) : (pushS S f A c).map teV = adV (S.map teV) A f.len c := by
  unfold pushS adV
  by_cases h0 : f.len = 0
  · rw [if_pos h0, if_pos h0]
  · rw [if_neg h0, if_neg h0]
    obtain ⟨b, o, rfl⟩ := h (by omega)
    simp [teV]
theorem pushS_R (S : List (Ft × Nat × Nat × Nat)) (f : Ft) (A : Option Addr) (c : Nat) : skR (pushS S f A c) = prF f ++ skR S := by
  unfold pushS
  by_cases h0 : f.len = 0
  · rw [if_pos h0, Ft.len_zero h0]; rfl
  · rw [if_neg h0, skR_snoc]
theorem pushS_Sz (S : List (Ft × Nat × Nat × Nat)) (f : Ft) (A : Option Addr) (c : Nat) : skSz (pushS S f A c) = skSz S + f.size := by
  unfold pushS
  by_cases h0 : f.len = 0
  · rw [if_pos h0, Ft.len_zero h0]; rfl
  · rw [if_neg h0, skSz_snoc]
/-- The pile in memory. -/
def PlAt (W0 : World) (B : Nat) (W : World) (g cap : Nat) (S : List (Ft × Nat × Nat × Nat)) : Prop := SkAt W W0.heap.size g cap (S.map teV) ∧ (∀ e ∈ S, TeIn W B W0.heap.size e) ∧ W0.heap.size < g ∧ B ≤ W0.heap.size ∧ skSz S ≤ 1001
/-- A row of terms that may be put on the pile. -/
def RtIn (W0 : World) (B : Nat) (W : World) (f : Ft) (A : Option Addr) (c : Nat) : Prop := f.len ≤ c ∧ c ≤ maxLen ∧ (0 < f.len → ∃ b o, A = some ⟨b, o, none⟩ ∧ (b < B ∨ b = W0.heap.size) ∧ FtIn W (· < B) f b o)
theorem RtIn.of {W0 : World} {B : Nat} {W : World} {f : Ft} {A : Option Addr} {c : Nat} (h : TlIn W (· < B) f A c) : RtIn W0 B W f A c := by
  obtain ⟨h1, h2, _, h3⟩ := h
  refine ⟨h1, h2, fun h0 => ?_⟩
  obtain ⟨b, o, e, hb, hf⟩ := h3 h0
  exact ⟨b, o, e, .inl hb, hf⟩
theorem PlAt.keep {W0 : World} {B : Nat} {W W' : World} {g cap : Nat} {S : List (Ft × Nat × Nat × Nat)} (h : PlAt W0 B W g cap S) (hk : ∀ b, b < B ∨ b = W0.heap.size ∨ b = g → W'.heap[b]? = W.heap[b]?) : PlAt W0 B W' g cap S :=
  ⟨h.1.keep (hk g (.inr (.inr rfl))), fun e he => (h.2.1 e he).keep (fun b hb => hk b (by rcases hb with hb | hb; exact .inl hb; exact .inr (.inl hb))), h.2.2⟩
theorem RtIn.keep {W0 : World} {B : Nat} {W W' : World} {f : Ft} {A : Option Addr} {c : Nat} (h : RtIn W0 B W f A c) (hk : ∀ b, b < B ∨ b = W0.heap.size → W'.heap[b]? = W.heap[b]?) : RtIn W0 B W' f A c := by
  obtain ⟨h1, h2, h3⟩ := h
  refine ⟨h1, h2, fun h0 => ?_⟩
  obtain ⟨b, o, e, hb, hf⟩ := h3 h0
  exact ⟨b, o, e, hb, FtIn.cells (fun q hq => hk q (.inl hq)) (fun _ h => h) f _ _ (fun _ _ => World.cell?_of_block (w := W) (hk _ hb)) hf⟩
theorem PlAt.len {W0 : World} {B : Nat} {W : World} {g cap : Nat} {S : List (Ft × Nat × Nat × Nat)} (h : PlAt W0 B W g cap S) : S.length ≤ 1001 := Nat.le_trans (sk_len h.2.1) h.2.2.2.2
/-- What the program's added does to the pile. -/
theorem PlAt.push {W0 : World} {B : Nat} {W : World} {g cap : Nat} {S : List (Ft × Nat × Nat × Nat)} (h : PlAt W0 B W g cap S) {f : Ft} {A : Option Addr} {c : Nat} (hr : RtIn W0 B W f A c) (hz : skSz S + f.size ≤ 1001) (hW : W0.heap.size ≤ W.heap.size) :
    Calls Try.prog 52 #[.slice (some ⟨g, 0, none⟩) S.length cap, .slice A f.len c] W fun e w' => ∃ g' cap', e = .returned (.slice (some ⟨g', 0, none⟩) (pushS S f A c).length cap') ∧ PlAt W0 B w' g' cap' (pushS S f A c) ∧ Turn (· = g) W (· = g') w' := by
  have hl := h.len
  obtain ⟨h1, h2, h3, h4, h5⟩ := h
  have hC := qAdded_any (S.map teV) g cap W0.heap.size A f.len c W h1 (by rw [List.length_map]; omega) hW
  rw [List.length_map] at hC
  refine hC.mono ?_
  rintro e w' ⟨g', cap', rfl, k1, k2⟩
  rw [← pushS_adV (fun h0 => by obtain ⟨b, o, e, _⟩ := hr.2.2 h0; exact ⟨b, o, e⟩)] at k1 ⊢
  have hk : ∀ b, b < B ∨ b = W0.heap.size → w'.heap[b]? = W.heap[b]? := fun b hb => k2.2.2.2.2.1 b (by have := h1.lt.2.1; omega) (by omega)
  refine ⟨g', cap', by rw [List.length_map], ⟨k1, fun e he => ?_, ?_, h4, by rw [pushS_Sz]; exact hz⟩, k2⟩
  · unfold pushS at he
    by_cases h0 : f.len = 0
    · rw [if_pos h0] at he
      exact (h2 e he).keep hk
    · rw [if_neg h0] at he
      rcases List.mem_append.1 he with he | he
      · exact (h2 e he).keep hk
      · rcases List.mem_singleton.1 he with rfl
        obtain ⟨r1, r2, r3⟩ := hr
        have hpos : 0 < f.len := Nat.pos_of_ne_zero h0
        obtain ⟨b, o, rfl, hb, hf⟩ := r3 hpos
        exact TeIn.keep ⟨hpos, r1, r2, hb, hf⟩ hk
  · rcases k2.2.2.2.2.2 g' rfl with h6 | h6
    · rw [h6]; exact h3
    · have := h1.lt.2.1; omega
end Go.Proofs.Ytcnhfoppfihhiaa
/- The contract of the program's iterator over the parts of a term: it tells the term and all that are in it, each ahead of its Kids. Conditions: the term lies in memory, and it has at most a thousand parts. -/
namespace Go.Proofs.Ytcnhfoppfihhiaa
open Go.RowKit Go.Shelf
attribute [local go_sem] Oper.semAt_some

set_option maxHeartbeats 1000000 in
theorem parts_in (n' : Nat) (k n : Int) (la ka : Option Addr) (l lc m kc : Nat) (w : World) :
    CallsIn Fence.wide n' Try.prog 33 #[.agg #[.int .i64 k, .int .i64 n, .slice la l lc, .slice ka m kc]] w fun e w' =>
      e = .returned (.func (.func 51) #[] #[.pointer (some ⟨w.heap.size, 0, none⟩)]) ∧ w' = w.alloc (.cells #[.int .i64 k, .int .i64 n, .slice la l lc, .slice ka m kc] 29) := by
  refine callsIn_of_wp Try.func33 rfl trivial ?_ rfl
  simp only [Try.ntmps33, List.size_toArray, List.length_cons, List.length_nil, Nat.reduceAdd, Nat.reduceSub, Array.replicate_succ, Array.replicate_zero, List.push_toArray, List.append_toArray, List.nil_append, List.cons_append]
  gi_wp2
  go_ret
  exact ⟨rfl, rfl⟩

/-- The blocks that it reads. -/
def PtD (s B : Nat) (b : Nat) : Prop := b < B ∨ b = s
/-- What stands in memory at the loop's head. -/
def PtS (W : World) (B : Nat) (J : (Nat → Prop) → List Tm → World → Prop) (O : Nat → Prop) (T : Tm) (g cap : Nat) (S : List (Ft × Nat × Nat × Nat)) (wr : World) : Prop :=
  PlAt W B wr g cap S ∧ ∃ O' pre, (J O' pre wr ∧ Turn O W O' wr ∧ ¬ O' g ∧ ¬ O' W.heap.size) ∧ prT T = pre ++ skR S
/-- The owner's state, where nothing but the pile has changed. -/
theorem own_push {W w4 w5 : World} {J : (Nat → Prop) → List Tm → World → Prop} {O O2 : Nat → Prop} {pre : List Tm} {g g' : Nat} (hInv : InvV W.heap.size J) (hg : W.heap.size < g) (hgl : g < w4.heap.size) (h : J O2 pre w4 ∧ Turn O W O2 w4 ∧ ¬ O2 g ∧ ¬ O2 W.heap.size) (t : Turn (· = g) w4 (· = g') w5) : J O2 pre w5 ∧ Turn O W O2 w5 ∧ ¬ O2 g' ∧ ¬ O2 W.heap.size := by
  obtain ⟨h1, h2, h3, h4⟩ := h
  have hlt := hInv.2 _ _ _ h1
  have hz := h2.2.2.2.1
  refine ⟨hInv.1 _ _ _ w5 (some g) h1 ⟨t.1, t.2.1, t.2.2.1, t.2.2.2.1, fun b hb hn => t.2.2.2.2.1 b hb (fun e => hn (by rw [e]))⟩ (fun r e => by injection e with e; subst e; exact ⟨by omega, h3⟩), ?_, fun hO => ?_, h4⟩
  · refine ⟨t.1.trans h2.1, t.2.1.trans h2.2.1, t.2.2.1.trans h2.2.2.1, Nat.le_trans hz t.2.2.2.1, fun b hb hn => (t.2.2.2.2.1 b (by omega) (by omega)).trans (h2.2.2.2.2.1 b hb hn), h2.2.2.2.2.2⟩
  · rcases t.2.2.2.2.2 g' rfl with e | e
    · have e : g' = g := e
      exact h3 (by rw [← e]; exact hO)
    · have := hlt _ hO; omega
theorem own_same {W w4 w5 : World} {J : (Nat → Prop) → List Tm → World → Prop} {O O2 : Nat → Prop} {pre : List Tm} {g : Nat} (hInv : InvV W.heap.size J) (h : J O2 pre w4 ∧ Turn O W O2 w4 ∧ ¬ O2 g ∧ ¬ O2 W.heap.size) (t : Below w4.heap.size w4 w5) : J O2 pre w5 ∧ Turn O W O2 w5 ∧ ¬ O2 g ∧ ¬ O2 W.heap.size :=
  ⟨hInv.1 _ _ _ w5 none h.1 ⟨t.os, t.tape, t.output, t.size, fun b hb _ => t.block b hb⟩ (fun r e => by cases e), h.2.1.trans (Turn.below t), h.2.2⟩
/-- The beginning: the term alone, in a row of its own. -/
theorem PtS.start {W : World} {B : Nat} {J : (Nat → Prop) → List Tm → World → Prop} {O : Nat → Prop} {T : Tm} {la ka : Option Addr} {lc kc : Nat} (hls : SlIn W (· < B) T.ls la lc) (hsl : TlIn W (· < B) T.ks ka kc) (hB : B ≤ W.heap.size) (hz : T.ks.size ≤ 1000) (hInv : InvV W.heap.size J) (h0 : J O [] W) :
    PtS W B J O T (W.heap.size + 1) 1 [(T.one, W.heap.size, 0, 1)] ((W.alloc (.cells #[.int .i64 T.k, .int .i64 T.n, .slice la T.ls.len lc, .slice ka T.ks.len kc] 29)).alloc (.cells #[.slice (some ⟨W.heap.size, 0, none⟩) 1 1] 27)) := by
  obtain ⟨V, hV⟩ : ∃ V, (W.alloc (.cells #[.int .i64 T.k, .int .i64 T.n, .slice la T.ls.len lc, .slice ka T.ks.len kc] 29)).alloc (.cells #[.slice (some ⟨W.heap.size, 0, none⟩) 1 1] 27) = V := ⟨_, rfl⟩
  have hb : Below W.heap.size W V := by rw [← hV]; exact ((Below.refl _ _).alloc (Nat.le_refl _) _).alloc (by simp) _
  have h1 : V.heap[W.heap.size]? = some (.cells #[.int .i64 T.k, .int .i64 T.n, .slice la T.ls.len lc, .slice ka T.ks.len kc] 29 (0, 0)) := by rw [← hV]; exact (heap_old _ _ (by simp)).trans (heap_new _ _)
  have hJ : J O [] V := by rw [← hV]; exact hInv.alloc _ (hInv.alloc _ h0)
  have hsk : SkAt V W.heap.size (W.heap.size + 1) 1 [.slice (some ⟨W.heap.size, 0, none⟩) 1 1] := by
    have h2 : V.heap[W.heap.size + 1]? = some (.cells #[.slice (some ⟨W.heap.size, 0, none⟩) 1 1] 27 (0, 0)) := by rw [← hV]; exact heap_second _ _ _
    exact ⟨rfl, .inr ⟨_, _, _, rfl, by omega, h2, Nat.le_refl _, by unfold maxLen; omega, rfl, rfl⟩⟩
  have hO := hInv.2 _ _ _ h0
  rw [hV]
  refine ⟨⟨hsk, ?_, by omega, hB, ?_⟩, O, [], ⟨hJ, Turn.below hb, fun h => by have := hO _ h; omega, fun h => by have := hO _ h; omega⟩, ?_⟩
  · intro e he
    rcases List.mem_singleton.1 he with rfl
    refine ⟨show 0 < 1 by omega, show 1 ≤ 1 by omega, show 1 ≤ maxLen by (unfold maxLen; omega), .inr rfl, ?_⟩
    obtain ⟨c0, c1, c2, c3⟩ := cells4 h1
    exact FtIn.push c0 c1 c2 (hls.below (hb.mono hB)) c3 (hsl.below (hb.mono hB)) trivial
  · show 0 + (T.ks.size + 0 + 1) ≤ 1001
    omega
  · show T :: prF T.ks = [] ++ ([] ++ (⟨T.k, T.n, T.ls, T.ks⟩ :: (prF T.ks ++ [])))
    simp

theorem list_snoc {α : Type} (S : List α) : S = [] ∨ ∃ S0 e, S = S0 ++ [e] := by
  rcases List.eq_nil_or_concat S with h | ⟨L, b, h⟩
  · exact .inl h
  · exact .inr ⟨L, b, by rw [h, List.concat_eq_append]⟩
/-- A measure for what only a relation tells: the least number of which it speaks. -/
theorem least_mu (Q : Nat → Value → World → Prop) : ∃ μ : Value → World → Nat, ∀ v w n, Q n v w → Q (μ v w) v w ∧ μ v w ≤ n := by
  have h : ∀ v w, ∃ m, ∀ n, Q n v w → Q m v w ∧ m ≤ n := fun v w => by
    by_cases hx : ∃ n, Q n v w
    · obtain ⟨n, hn⟩ := hx
      induction n using Nat.strongRecOn with
      | ind n ih =>
        by_cases hy : ∃ k, k < n ∧ Q k v w
        · obtain ⟨k, hk, hq⟩ := hy
          exact ih k hk hq
        · exact ⟨n, fun k hk => ⟨hn, Nat.le_of_not_lt (fun hlt => hy ⟨k, hlt, hk⟩)⟩⟩
    · exact ⟨0, fun n hn => absurd ⟨n, hn⟩ hx⟩
  exact ⟨fun v w => Classical.choose (h v w), fun v w => Classical.choose_spec (h v w)⟩
def PtQ (W : World) (B : Nat) (J : (Nat → Prop) → List Tm → World → Prop) (O : Nat → Prop) (T : Tm) (n : Nat) (tv : Value) (wr : World) : Prop :=
  ∃ (g cap M : Nat) (S : List (Ft × Nat × Nat × Nat)), tv = .slice (some ⟨g, 0, none⟩) M cap ∧ M = S.length ∧ PtS W B J O T g cap S wr ∧ skSz S = n

set_option maxRecDepth 100000 in
set_option maxHeartbeats 8000000 in
theorem parts1_tells (T : Tm) (la ka : Option Addr) (lc kc s B : Nat) (W : World) (hs : W.heap[s]? = some (.cells #[.int .i64 T.k, .int .i64 T.n, .slice la T.ls.len lc, .slice ka T.ks.len kc] 29 (0, 0))) (hls : SlIn W (· < B) T.ls la lc) (hsl : TlIn W (· < B) T.ks ka kc) (hB : B ≤ s) (hz : T.ks.size ≤ 1000) :
    TellsV (TpV B) (PtD s B) 51 #[.pointer (some ⟨s, 0, none⟩)] (prT T) W := by
  intro l J O hD hInv hR h0 m
  have hdd : ∀ k : Nat, (Fence.wide.depth.isSome = true → 1 ≤ k) := fun k h => by cases h
  have hsl0 := lt_of_block hs
  have HS := Lib.hid (PtS.start (B := B) hls hsl (by omega) hz hInv h0)
  obtain ⟨c0, c1, c2, c3⟩ := cells4 hs
  have HSB : Hid (B ≤ W.heap.size) := Lib.hid (by omega)
  have HDO : Hid (∀ b, b < B → ¬ O b) := Lib.hid (fun b hb => hD b (.inl hb))
  have HIV := Lib.hid hInv
  have HRR := Lib.hid hR
  clear hls hsl hz hInv h0 hR hs hD hB
  refine callsIn_of_wp Try.func51 rfl trivial ?_ rfl
  simp only [Try.ntmps51, List.size_toArray, List.length_cons, List.length_nil, Nat.reduceAdd, Nat.reduceSub, Array.replicate_succ, Array.replicate_zero, List.push_toArray, List.append_toArray, List.nil_append, List.cons_append]
  gi_wp2
  clear c0 c1 c2 c3 hsl0
  obtain ⟨μ, hμ⟩ := least_mu (PtQ W B J O T)
  have HMU := Lib.hid hμ
  clear hμ
  gi_loopw [3] (fun tv wr => ∃ n, Hid (PtQ W B J O T n tv wr)) (fun tv wr => μ tv wr)
  case atStart => exact ⟨_, Lib.hid ⟨W.heap.size + 1, 1, 1, [(T.one, W.heap.size, 0, 1)], rfl, rfl, HS.out, rfl⟩⟩
  case round =>
    clear HS
    obtain ⟨n0, hQ⟩ := hrel
    obtain ⟨g, cap, M, S, htv, hM, hS, hn⟩ := (HMU.out _ _ _ hQ.out).1
    have hHN := Lib.hid hn
    clear hQ n0 hn
    subst htv
    rcases list_snoc S with rfl | ⟨S0, e, rfl⟩
    · obtain rfl : M = 0 := hM
      obtain ⟨_, O1, pre, ⟨h1, h2, _⟩, h3⟩ := hS
      have HE : Hid (J O1 (prT T) wr ∧ Turn O W O1 wr) := Lib.hid (by rw [h3]; show J O1 (pre ++ []) wr ∧ _; rw [List.append_nil]; exact ⟨h1, h2⟩)
      clear h1 h2 h3
      gi_wp2
      go_end0
      exact ⟨⟨_, rfl⟩, O1, HE.out.1, HE.out.2⟩
    · obtain ⟨f, b, o, cap1⟩ := e
      obtain ⟨hpl, O1, pre, hown, hpr⟩ := hS
      have hlen := hpl.len
      obtain ⟨hsk, hte, hRg, hBW, hsz⟩ := hpl
      rw [List.map_append, List.map_singleton] at hsk
      obtain ⟨hsk0, hc0⟩ := hsk.drop
      have hskl := hsk0.lt
      rw [List.length_map] at hc0 hskl
      obtain ⟨N, hN⟩ : ∃ N : Nat, N = S0.length := ⟨_, rfl⟩
      rw [← hN] at hc0 hskl
      have hMN : M = N + 1 := by rw [hM, List.length_append, hN]; rfl
      have d0 : (0 : Int) < (M : Int) := by omega
      have hwr : IntKind.i64.wrap ((M : Int) - 1) = (N : Int) := by rw [show (M : Int) - 1 = (N : Int) by omega]; exact IntWalk.i64_in _ (by rw [List.length_append] at hlen; simp at hlen; omega)
      have hNM : (N : Int) < (M : Int) := by omega
      have hNM' : (N : Int) ≤ (cap : Int) := by have := hskl.2.2; omega
      have hel := hte _ (List.mem_append_right _ (List.mem_singleton.2 rfl))
      obtain ⟨hl0, hl1, hl2, hl3, hl4⟩ := hel
      dsimp only at hl0 hl1 hl2 hl3 hl4
      match f with
      | .nil => exact absurd hl0 (by simp [Ft.len])
      | .cons k n ls ks r =>
        obtain ⟨e0, e1, ⟨la', lc', e2, hls'⟩, ⟨ka', kc', e3, hks'⟩, hrest⟩ := hl4.first
        obtain ⟨L, hL⟩ : ∃ L : Nat, L = (Ft.cons k n ls ks r).len := ⟨_, rfl⟩
        have hLr : L - 1 = r.len := by rw [hL]; rfl
        have hzz : W.heap.size ≤ wr.heap.size := hown.2.1.2.2.2.1
        have hbl : b < wr.heap.size := by rcases hl3 with h | h <;> omega
        have c0 : wr.cell? ⟨g, N, none⟩ = some (.slice (some ⟨b, o, none⟩) L cap1) := by rw [hL]; exact hc0
        have c0' : ∀ cs, (wr.alloc (.cells cs 29)).cell? ⟨g, N, none⟩ = some (.slice (some ⟨b, o, none⟩) L cap1) := fun cs => (World.cell?_of_block (w := wr) (heap_old wr _ hskl.2.1)).trans c0
        have e0' : ∀ cs, (wr.alloc (.cells cs 29)).cell? ⟨b, o, none⟩ = some (.int .i64 k) := fun cs => (World.cell?_of_block (w := wr) (heap_old wr _ hbl)).trans e0
        have e1' : ∀ cs, (wr.alloc (.cells cs 29)).cell? ⟨b, o + 1, none⟩ = some (.int .i64 n) := fun cs => (World.cell?_of_block (w := wr) (heap_old wr _ hbl)).trans e1
        have e2' : ∀ cs, (wr.alloc (.cells cs 29)).cell? ⟨b, o + 2, none⟩ = some (.slice la' ls.len lc') := fun cs => (World.cell?_of_block (w := wr) (heap_old wr _ hbl)).trans e2
        have e3' : ∀ cs, (wr.alloc (.cells cs 29)).cell? ⟨b, o + 3, none⟩ = some (.slice ka' ks.len kc') := fun cs => (World.cell?_of_block (w := wr) (heap_old wr _ hbl)).trans e3
        have hL0 : (0 : Int) < (L : Int) := by rw [hL]; simp only [Ft.len]; omega
        have hL1 : (1 : Int) ≤ (L : Int) := by omega
        have hLc : (L : Int) ≤ (cap1 : Int) := by rw [hL]; omega
        -- the world behind the third region
        obtain ⟨W3, hW3⟩ : ∃ W3, (wr.alloc (.cells #[.int .i64 k, .int .i64 n, .slice la' ls.len lc', .slice ka' ks.len kc'] 29)).drew = W3 := ⟨_, rfl⟩
        have hb3 : Below wr.heap.size wr W3 := by rw [← hW3]; exact ((Below.refl _ _).alloc (Nat.le_refl _) _).drew
        have hn3 : W3.heap[wr.heap.size]? = some (.cells #[.int .i64 k, .int .i64 n, .slice la' ls.len lc', .slice ka' ks.len kc'] 29 (0, 0)) := by rw [← hW3]; exact heap_new wr _
        have hown3 := own_same HIV.out hown hb3
        have hBk : ∀ q, q < B ∨ q = W.heap.size ∨ q = g → q < wr.heap.size := fun q hq => by rcases hq with h | h | h <;> omega
        have hv3 : TpV B W3 ⟨k, n, ls, ks⟩ (.agg #[.int .i64 k, .int .i64 n, .slice la' ls.len lc', .slice ka' ks.len kc']) := ⟨la', lc', ka', kc', rfl, hls'.keep (fun q hq => hb3.block q (hBk q (.inl hq))), hks'.turn (fun q hq => hb3.block q (hBk q (.inl hq))) (fun _ h => h)⟩
        have hpre : pre ++ [(⟨k, n, ls, ks⟩ : Tm)] <+: prT T := by
          rw [hpr, skR_snoc]
          exact ⟨(prF ks ++ prF r) ++ skR S0, by simp [prF]⟩
        obtain ⟨fn, tmps, assign, body, hy, hRd⟩ := HRR.out (m - 1) O1 pre ⟨k, n, ls, ks⟩ _ W3 hown3.1 hv3 hpre
        obtain ⟨A, hA⟩ : ∃ A, A = (if cap1 = 1 then some (⟨b, o, none⟩ : Addr) else some ⟨b, o + 4, none⟩) := ⟨_, rfl⟩
        have hrt : RtIn W B wr r A (cap1 - 1) := by
          refine ⟨by simp only [Ft.len] at hl1; omega, by omega, fun h0 => ?_⟩
          refine ⟨b, o + 4, ?_, hl3, hrest⟩
          rw [hA, if_neg (by simp only [Ft.len] at hl1; omega)]
        have hkt : RtIn W B wr ks ka' kc' := RtIn.of hks'
        have hpl0 : PlAt W B wr g cap S0 := ⟨hsk0, fun e he => hte e (List.mem_append_left _ he), hRg, hBW, by rw [skSz_snoc] at hsz; omega⟩
        have hfs : skSz S0 + (ks.size + r.size + 1) ≤ 1001 := by rw [skSz_snoc] at hsz; exact hsz
        have hmu : skSz (S0 ++ [((Ft.cons k n ls ks r), b, o, cap1)]) = skSz S0 + (ks.size + r.size + 1) := by rw [skSz_snoc]; rfl
        -- behind the yield
        have HY : Hid (∀ O2 w4, J O2 (pre ++ [(⟨k, n, ls, ks⟩ : Tm)]) w4 → Turn O1 W3 O2 w4 → (∀ W4, W4 = w4.drew →
            W4.cell? ⟨wr.heap.size, 3, none⟩ = some (.slice ka' ks.len kc') ∧
            Calls Try.prog 52 #[.slice (some ⟨g, 0, none⟩) N cap, .slice A r.len (cap1 - 1)] W4 (fun e w5 => ∃ g5 cap5, e = .returned (.slice (some ⟨g5, 0, none⟩) (pushS S0 r A (cap1 - 1)).length cap5) ∧ w5.cell? ⟨wr.heap.size, 3, none⟩ = some (.slice ka' ks.len kc') ∧
              Calls Try.prog 52 #[.slice (some ⟨g5, 0, none⟩) (pushS S0 r A (cap1 - 1)).length cap5, .slice ka' ks.len kc'] w5 (fun e w6 => ∃ g6 cap6 S6, e = .returned (.slice (some ⟨g6, 0, none⟩) S6.length cap6) ∧ PtS W B J O T g6 cap6 S6 w6 ∧ skSz S6 < skSz (S0 ++ [((Ft.cons k n ls ks r), b, o, cap1)]))))) := Lib.hid (by
          rintro O2 w4 hJ4 hT4 W4 rfl
          have hlow : ∀ q, q < wr.heap.size → ¬ O1 q → w4.heap[q]? = wr.heap[q]? := fun q hq hn => (hT4.2.2.2.2.1 q (by have := hb3.size; omega) hn).trans (hb3.block q hq)
          have hno : ∀ q, q < B ∨ q = W.heap.size ∨ q = g → ¬ O1 q := fun q hq => by
            rcases hq with h | h | h
            · intro hO
              rcases hown.2.1.2.2.2.2.2 q hO with h2 | h2
              · exact HDO.out q h h2
              · omega
            · rw [h]; exact hown.2.2.2
            · rw [h]; exact hown.2.2.1
          have hk4 : ∀ q, q < B ∨ q = W.heap.size ∨ q = g → (w4.drew).heap[q]? = wr.heap[q]? := fun q hq => hlow q (hBk q hq) (hno q hq)
          have hO1 : ∀ q, O1 q → q < wr.heap.size := HIV.out.2 _ _ _ hown.1
          have hnb : ¬ O1 wr.heap.size := fun h => by have := hO1 _ h; omega
          have hz3 : wr.heap.size < W3.heap.size := (Array.getElem?_eq_some_iff.1 hn3).1
          have hz4 := hT4.2.2.2.1
          have hn4 : (w4.drew).heap[wr.heap.size]? = some (.cells #[.int .i64 k, .int .i64 n, .slice la' ls.len lc', .slice ka' ks.len kc'] 29 (0, 0)) := (hT4.2.2.2.2.1 _ hz3 hnb).trans hn3
          have hzd : (w4.drew).heap.size = w4.heap.size := rfl
          have hnn : ∀ q, q < W3.heap.size → ¬ O1 q → ¬ O2 q := fun q hq hn h => by
            rcases hT4.2.2.2.2.2 q h with h | h
            · exact hn h
            · omega
          have hown4 : J O2 (pre ++ [(⟨k, n, ls, ks⟩ : Tm)]) w4.drew ∧ Turn O W O2 w4.drew ∧ ¬ O2 g ∧ ¬ O2 W.heap.size := own_same HIV.out ⟨hJ4, hown3.2.1.trans hT4, hnn g (by omega) hown.2.2.1, hnn _ (by omega) hown.2.2.2⟩ ((Below.refl _ _).drew)
          have hp4 := hpl0.keep hk4
          have hr4 := hrt.keep (fun q hq => hk4 q (by rcases hq with h | h; exact .inl h; exact .inr (.inl h)))
          have hkt4 := hkt.keep (fun q hq => hk4 q (by rcases hq with h | h; exact .inl h; exact .inr (.inl h)))
          refine ⟨cell_at hn4 3, ?_⟩
          have hC1 := hp4.push hr4 (by omega) (by omega)
          rw [← hN] at hC1
          refine hC1.mono ?_
          rintro e w5 ⟨g5, cap5, rfl, hp5, ht5⟩
          have hgl4 : g < (w4.drew).heap.size := by omega
          have hown5 := own_push HIV.out hRg hgl4 hown4 ht5
          have hz5 := ht5.2.2.2.1
          have hn5 := (ht5.2.2.2.2.1 wr.heap.size (by omega) (by omega)).trans hn4
          refine ⟨g5, cap5, rfl, cell_at hn5 3, ?_⟩
          have hk5 : ∀ q, q < B ∨ q = W.heap.size → w5.heap[q]? = (w4.drew).heap[q]? := fun q hq => ht5.2.2.2.2.1 q (by omega) (by omega)
          have hC2 := hp5.push (hkt4.keep hk5) (by rw [pushS_Sz]; omega) (by omega)
          refine hC2.mono ?_
          rintro e w6 ⟨g6, cap6, rfl, hp6, ht6⟩
          have hown6 := own_push HIV.out hp5.2.2.1 hp5.1.lt.2.1 hown5 ht6
          refine ⟨g6, cap6, _, rfl, ⟨hp6, O2, _, hown6, ?_⟩, ?_⟩
          · rw [pushS_R, pushS_R, hpr, skR_snoc]
            simp [prF]
          · rw [pushS_Sz, pushS_Sz, hmu]; omega)
        have HW3 := Lib.hid hW3
        have HLR := Lib.hid hLr
        have HA := Lib.hid hA
        have hcy := cells4 hn3
        have HHM := Lib.hid hM
        have HN3 := Lib.hid hn3
        clear hcy hsk hte hsz hsk0 hc0 hskl hl0 hl1 hl2 hl3 hl4 hls' hks' hrest hL hLr hb3 hn3 hown3 hv3 hpre hA hrt hkt hpl0 hfs hmu hown hpr hM hMN hN hlen hRg hBW hzz hbl hBk hW3
        gi_wp2
        gi_region
        rw [HW3.out, HLR.out, ← HA.out]
        obtain ⟨y0, y1, y2, y3⟩ := cells4 HN3.out
        clear c0 c0' e0 e1 e2 e3 e0' e1' e2' e3'
        gi_wp2
        refine ⟨hdd _, ?_⟩
        refine hRd.mono ?_
        rintro e w4 ⟨rfl, O2, hJ4, hT4⟩
        have HY4 := Lib.hid (HY.out O2 w4 hJ4 hT4 _ rfl)
        clear hJ4 hT4 HY y0 y1 y2 y3
        obtain ⟨k4, hC1⟩ := HY4.out
        have HC1 := Lib.hid hC1
        clear hC1 HY4
        gi_wp2
        gi_region_with (first
          | (refine ⟨trivial, hdd _, ?_⟩; gi_at_call 52; with_reducible refine (callsIn_wide.2 HC1.out).mono ?_; rintro e w5 ⟨g5, cap5, rfl, k5, hC2⟩; have HC2 := Lib.hid hC2; clear hC2)
          | (refine ⟨trivial, hdd _, ?_⟩; gi_at_call 52; with_reducible refine (callsIn_wide.2 HC2.out).mono ?_; rintro e w6 ⟨g6, cap6, S6, rfl, hP6, hS6⟩; have HP6 := Lib.hid hP6; have HS6 := Lib.hid hS6; clear hP6 hS6))
        all_goals
          have hq6 : PtQ W B J O T (skSz S6) (.slice (some ⟨g6, 0, none⟩) S6.length cap6) w6 := ⟨g6, cap6, S6.length, S6, rfl, rfl, HP6.out, rfl⟩
          have HQ6 := Lib.hid hq6
          clear hq6
          go_simp
          go_roundw
          case rel => exact ⟨_, _, _, _, _, _, _, _, _, _, _, _, _, _, _, _, _, _, _, _, _, _, _, _, _, _, _, _, _, _, _, _, _, ⟨_, HQ6⟩, rfl⟩
          case measure =>
            have h1 := (HMU.out _ _ _ HQ6.out).2
            have h2 := HS6.out
            rw [hHN.out] at h2
            exact Nat.lt_of_le_of_lt h1 h2
end Go.Proofs.Ytcnhfoppfihhiaa
/- The contract of the program's iterator over the levels of a term: it tells all of them, those of a term ahead of those of its Kids. Conditions: the term lies in memory, each term in it has as many Kids as its Kind says, and it is no deeper than the calls that may be made. -/
namespace Go.Proofs.Ytcnhfoppfihhiaa
open Go.RowKit Go.Shelf
attribute [local go_sem] Oper.semAt_some

/-- The levels of a row, as a list. -/
def foL : Fo → List (Int × Int × Fo)
  | .nil => []
  | .cons k n ks r => (k, n, ks) :: foL r
theorem foL_app : ∀ f g : Fo, foL (f.app g) = foL f ++ foL g
  | .nil, _ => rfl
  | .cons k n ks r, g => by show (k, n, ks) :: foL (r.app g) = (k, n, ks) :: (foL r ++ foL g); rw [foL_app r g]
/-- A value that stands for a level whose Kids lie below B. -/
def LvV (B : Nat) (W : World) (x : Int × Int × Fo) (v : Value) : Prop := ∃ a cap, v = .agg #[.int .i64 x.1, .int .i64 x.2.1, .slice a x.2.2.len cap] ∧ SlIn W (· < B) x.2.2 a cap
theorem LvV.keepV (B : Nat) : KeepV (LvV B) B := fun W W' x v h => by
  rintro ⟨a, cap, e, hs⟩
  exact ⟨a, cap, e, hs.keep h⟩

set_option maxHeartbeats 1000000 in
theorem levels_in (n' : Nat) (k n c : Int) (hc : 1 ≤ c) (la ka : Option Addr) (l lc m kc : Nat) (w : World) :
    CallsIn Fence.wide n' Try.prog 30 #[.agg #[.int .i64 k, .int .i64 n, .slice la l lc, .slice ka m kc], .int .i64 c] w fun e w' =>
      e = .returned (.func (.func 48) #[] #[.pointer (some ⟨w.heap.size, 0, none⟩), .pointer (some ⟨w.heap.size + 1, 0, none⟩)]) ∧
      w' = (w.alloc (.cells #[.int .i64 k, .int .i64 n, .slice la l lc, .slice ka m kc] 29)).alloc (.cells #[.int .i64 c] 3) := by
  have dc : (c == 0) = false := beq_eq_false_iff_ne.2 (by omega)
  refine callsIn_of_wp Try.func30 rfl trivial ?_ rfl
  simp only [Try.ntmps30, List.size_toArray, List.length_cons, List.length_nil, Nat.reduceAdd, Nat.reduceSub, Array.replicate_succ, Array.replicate_zero, List.push_toArray, List.append_toArray, List.nil_append, List.cons_append]
  gi_wp2
  go_ret
  exact ⟨rfl, rfl⟩

/-- What the iterator has captured lies in two blocks from s on; what the term leads to lies below B. -/
def LvAt (W : World) (s B : Nat) (c k n : Int) (ls : Fo) (f : Ft) (la ka : Option Addr) (lc kc : Nat) : Prop :=
  W.heap[s]? = some (.cells #[.int .i64 k, .int .i64 n, .slice la ls.len lc, .slice ka f.len kc] 29 (0, 0)) ∧ W.heap[s + 1]? = some (.cells #[.int .i64 c] 3 (0, 0)) ∧ SlIn W (· < B) ls la lc ∧ TlIn W (· < B) f ka kc ∧ B ≤ s
/-- The blocks that it reads. -/
def LvD (s B : Nat) (b : Nat) : Prop := b < B ∨ (s ≤ b ∧ b ≤ s + 1)
theorem LvAt.turn {W W' : World} {s B : Nat} {c k n : Int} {ls : Fo} {f : Ft} {la ka : Option Addr} {lc kc : Nat} {O O' : Nat → Prop} (h : LvAt W s B c k n ls f la ka lc kc) (hD : ∀ b, LvD s B b → ¬ O b) (ht : Turn O W O' W') : LvAt W' s B c k n ls f la ka lc kc := by
  obtain ⟨h1, h2, h3, h4, h5⟩ := h
  have hz := lt_of_block h2
  have keep : ∀ b, b < W.heap.size → LvD s B b → W'.heap[b]? = W.heap[b]? := fun b hb hd => ht.2.2.2.2.1 b hb (hD b hd)
  exact ⟨(keep _ (by omega) (.inr (by omega))).trans h1, (keep _ hz (.inr (by omega))).trans h2, h3.keep (fun b hb => keep b (by omega) (.inl hb)), h4.turn (fun b hb => keep b (by omega) (.inl hb)) (fun _ h => h), h5⟩
theorem LvAt.start (w : World) (B : Nat) (c k n : Int) (ls : Fo) (f : Ft) (la ka : Option Addr) (lc kc : Nat) (hl : SlIn w (· < B) ls la lc) (hs : TlIn w (· < B) f ka kc) (hB : B ≤ w.heap.size) :
    LvAt ((w.alloc (.cells #[.int .i64 k, .int .i64 n, .slice la ls.len lc, .slice ka f.len kc] 29)).alloc (.cells #[.int .i64 c] 3)) w.heap.size B c k n ls f la ka lc kc := by
  have hb : Below B w ((w.alloc (.cells #[.int .i64 k, .int .i64 n, .slice la ls.len lc, .slice ka f.len kc] 29)).alloc (.cells #[.int .i64 c] 3)) := ((Below.refl _ _).alloc hB _).alloc (by simp; omega) _
  exact ⟨(heap_old _ _ (by simp)).trans (heap_new _ _), heap_second _ _ _, hl.below hb, hs.below hb, hB⟩

/-- Ahead of the range over a kid's levels: what lies in memory, what its iterator promises, and the state that the range keeps. -/
theorem lkid_ready {Wy Wc : World} {s B Bv Y : Nat} {V v k n k' n' : Int} {ls ls' : Fo} {f ks : Ft} {la ka la' ka' : Option Addr} {lc kc lc' kc' : Nat} {J : (Nat → Prop) → List (Int × Int × Fo) → World → Prop} {O Oc : Nat → Prop} {pre : List (Int × Int × Fo)} {y : Obj}
    (hat : LvAt Wy s B V k n ls f la ka lc kc) (hD : ∀ b, LvD s B b → ¬ O b) (hInv : InvV Bv J) (hBv : Bv ≤ Wy.heap.size) (tc : Turn O Wy Oc Wc) (hJ : J Oc pre Wc) (hl' : SlIn Wc (· < B) ls' la' lc') (hs' : TlIn Wc (· < B) ks ka' kc') (hY : Wy.heap[Y]? = some y) (hYO : ¬ O Y) (ko : Obj) {W3 : World}
    (h3 : ((Wc.alloc ko).alloc (.cells #[.int .i64 k', .int .i64 n', .slice la' ls'.len lc', .slice ka' ks.len kc'] 29)).alloc (.cells #[.int .i64 v] 3) = W3) :
    (∀ b, LvD (Wc.heap.size + 1) B b → ¬ Oc b) ∧ (∀ o1 o2, LvAt ((W3.alloc o1).alloc o2) (Wc.heap.size + 1) B v k' n' ls' ks la' ka' lc' kc') ∧ InvV W3.heap.size (fun O' z X => J O' (pre ++ z) X ∧ Turn Oc W3 O' X) ∧ J Oc (pre ++ []) W3 ∧ Turn O Wy Oc W3 ∧ (∀ O' X, Turn Oc W3 O' X → X.heap[Y]? = some y) ∧ B ≤ W3.heap.size ∧ Turn Oc Wc Oc W3 := by
  have hz := tc.2.2.2.1
  have hBs := hat.2.2.2.2
  have hsz := lt_of_block hat.2.1
  have hlt := hInv.2 _ _ _ hJ
  have hYl : Y < Wy.heap.size := (Array.getElem?_eq_some_iff.1 hY).1
  have low : ∀ b, b < Wy.heap.size → ¬ O b → ¬ Oc b := fun b hb hn h => by
    rcases tc.2.2.2.2.2 b h with h | h
    · exact hn h
    · omega
  have hk0 : Below Wc.heap.size Wc (Wc.alloc ko) := (Below.refl _ _).alloc (Nat.le_refl _) _
  have hst := LvAt.start (Wc.alloc ko) B v k' n' ls' ks la' ka' lc' kc' (hl'.below (hk0.mono (by omega))) (hs'.below (hk0.mono (by omega))) (by simp; omega)
  rw [h3, World.size_alloc] at hst
  have z3 : W3.heap.size = Wc.heap.size + 1 + 1 + 1 := by rw [← h3]; simp
  have t3 : Turn Oc Wc Oc W3 := by rw [← h3]; exact ((Turn.alloc _ _ _).trans (Turn.alloc _ _ _)).trans (Turn.alloc _ _ _)
  have hDk : ∀ b, LvD (Wc.heap.size + 1) B b → ¬ Oc b := fun b hb => by
    rcases hb with hb | hb
    · exact low b (by omega) (hD b (.inl hb))
    · intro h; have := hlt b h; omega
  refine ⟨hDk, fun o1 o2 => hst.turn hDk ((Turn.alloc Oc _ _).trans (Turn.alloc Oc _ _)), ⟨fun P z A A' row hs hg hr => ⟨hInv.1 _ _ _ _ _ hs.1 hg (fun r e => ⟨by have := (hr r e).1; omega, (hr r e).2⟩), ?_⟩, fun P z A hs => hInv.2 _ _ _ hs.1⟩, ?_, tc.trans t3, fun O' X t => ?_, by omega, t3⟩
  · obtain ⟨_, u1, u2, u3, u4, u5, u6⟩ := hs
    refine ⟨hg.os.trans u1, hg.tape.trans u2, hg.output.trans u3, Nat.le_trans u4 hg.size, fun b hb hn => ?_, u6⟩
    exact (hg.block b (by omega) (fun e => by have := (hr b e.symm).1; omega)).trans (u5 b hb hn)
  · rw [List.append_nil, ← h3]
    exact hInv.alloc _ (hInv.alloc _ (hInv.alloc _ hJ))
  · have hn := low Y hYl hYO
    exact (t.2.2.2.2.1 Y (by omega) hn).trans ((t3.2.2.2.2.1 Y (by omega) hn).trans ((tc.2.2.2.2.1 Y hYl hYO).trans hY))
theorem Turn.putD {O O' : Nat → Prop} {w X : World} (h : Turn O w O' X) {d : Nat} (hd : w.heap.size ≤ d) (o : Obj) : Turn O w O' (X.putObj d o) :=
  ⟨h.1, h.2.1, h.2.2.1, by simpa using h.2.2.2.1, fun b hb hn => (World.putObj_heap_other (by omega)).trans (h.2.2.2.2.1 b hb hn), h.2.2.2.2.2⟩
/-- A mark that lay there lies there still, and is not the owner's. -/
theorem mark_next {Oc O' : Nat → Prop} {Wc X : World} {d : Nat} {o : Obj} (h : Wc.heap[d]? = some o) (hn : ¬ Oc d) (t : Turn Oc Wc O' X) : X.heap[d]? = some o ∧ ¬ O' d := by
  have hl := (Array.getElem?_eq_some_iff.1 h).1
  refine ⟨(t.2.2.2.2.1 d hl hn).trans h, fun k => ?_⟩
  rcases t.2.2.2.2.2 d k with k | k
  · exact hn k
  · omega
/-- A kid's levels, and the rest. -/
theorem lvF_cons (k n : Int) (ls : Fo) (ks r : Ft) : foL (lvF (.cons k n ls ks r)) = foL (ls.app (lvF ks)) ++ foL (lvF r) := by
  show foL ((ls.app (lvF ks)).app (lvF r)) = _
  rw [foL_app]
theorem tOne_parts {v d k n : Int} {ls : Fo} {f : Ft} (h : tOne 5 10 v d k n ls f = true) : 1 ≤ d ∧ (f.len : Int) = tkids k ∧ tAll 5 10 f k 0 v (d - 1) = true := by
  unfold tOne at h
  simp only [Bool.and_eq_true, decide_eq_true_eq] at h
  exact ⟨h.1, tfits_len h.2.1, h.2.2⟩
theorem tkids_few (k : Int) : tkids k ≤ 3 ∧ tkids k ≠ 1 := by
  unfold tkids
  split
  · omega
  · split
    · omega
    · split <;> omega
theorem tAll_first {k0 v d k n : Int} {i : Nat} {ls : Fo} {ks r : Ft} (h : tAll 5 10 (.cons k n ls ks r) k0 i v d = true) : tOne 5 10 (v + bindK k0 i) d k n ls ks = true ∧ tAll 5 10 r k0 (i + 1) v d = true := by
  rw [tAll_cons] at h
  simpa only [Bool.and_eq_true] using h
end Go.Proofs.Ytcnhfoppfihhiaa
/- The walk of the program's iterator over the levels of a term: it tells all of them. Conditions: the term lies in memory, each term in it has as many Kids as its Kind says, and it is no deeper than the calls that may be made. -/
namespace Go.Proofs.Ytcnhfoppfihhiaa
open Go.RowKit Go.Shelf
attribute [local go_sem] Oper.semAt_some

set_option maxRecDepth 100000 in
set_option maxHeartbeats 8000000 in
theorem levels1_tells (c : Nat) : c ≤ 30 → ∀ (v k n : Int) (ls : Fo) (f : Ft) (la ka : Option Addr) (lc kc s B : Nat) (W : World), tOne 5 10 v c k n ls f = true → LvAt W s B c k n ls f la ka lc kc →
    TellsV (LvV B) (LvD s B) 48 #[.pointer (some ⟨s, 0, none⟩), .pointer (some ⟨s + 1, 0, none⟩)] (foL (ls.app (lvF f))) W := by
  induction c with
  | zero => intro _ v k n ls f la ka lc kc s B W hr; have := (tOne_parts hr).1; omega
  | succ c ih =>
    intro hc v k n ls f la ka lc kc s B W hr hat l J O hD hInv hR h0 m
    obtain ⟨V, hV⟩ : ∃ V : Int, V = ((c + 1 : Nat) : Int) := ⟨_, rfl⟩
    rw [← hV] at hat hr
    have HV := Lib.hid hV
    have HVV : Hid (V - 1 = (c : Int)) := Lib.hid (by omega)
    have HVL : Hid (V ≤ 30) := Lib.hid (by omega)
    clear hV
    have hdd : ∀ k : Nat, (Fence.wide.depth.isSome = true → 1 ≤ k) := fun k h => by cases h
    obtain ⟨_, hfl, hall⟩ := tOne_parts hr
    have HALL := Lib.hid hall
    have ht0 : Turn O W O (W.alloc (.cells #[.func (.yield l) #[] #[]] 83)) := Turn.alloc _ _ _
    have hat1 := hat.turn hD ht0
    have h1 := hInv.alloc (.cells #[.func (.yield l) #[] #[]] 83) h0
    have hYO : ¬ O W.heap.size := fun h => by have := hInv.2 _ _ _ h0 _ h; omega
    have hy0 := heap_new W (.cells #[.func (.yield l) #[] #[]] 83)
    have hYW : W.heap.size < (W.alloc (.cells #[.func (.yield l) #[] #[]] 83)).heap.size := by simp
    have hWZ : W.heap.size ≤ (W.alloc (.cells #[.func (.yield l) #[] #[]] 83)).heap.size := by simp
    have hHR : Hid (foL (ls.app (lvF f)) = foL ls ++ foL (lvF f)) := Lib.hid (foL_app _ _)
    have c2 := cell_at hat1.1 2
    simp at c2
    have hlen := hat.2.2.1.len
    have hlen2 := hat.2.2.2.1.len
    have hfew := tkids_few k
    have HF : Hid (f.len ≤ 3 ∧ f.len ≠ 1) := Lib.hid (by omega)
    have HSZ : Hid (s + 1 < W.heap.size ∧ B ≤ s) := Lib.hid ⟨lt_of_block hat.2.1, hat.2.2.2.2⟩
    have HAT := Lib.hid hat1
    have H1 := Lib.hid h1
    have HT0 := Lib.hid ht0
    have HIV := Lib.hid hInv
    have HRR := Lib.hid hR
    have HDD := Lib.hid hD
    have HYO := Lib.hid hYO
    have HY0 := Lib.hid hy0
    have HWZ := Lib.hid hWZ
    clear hall hfl hfew hr hat hat1 h0 h1 ht0 hInv hR hD hYO hy0 hYW hWZ
    refine callsIn_of_wp_marks Try.func48 rfl trivial ?_ rfl
    simp only [Try.ntmps48, List.size_toArray, List.length_cons, List.length_nil, Nat.reduceAdd, Nat.reduceSub, Array.replicate_succ, Array.replicate_zero, List.push_toArray, List.append_toArray, List.nil_append, List.cons_append]
    obtain ⟨Wy, hWy⟩ : ∃ Wy, W.alloc (.cells #[.func (.yield l) #[] #[]] 83) = Wy := ⟨_, rfl⟩
    have HWY := Lib.hid hWy
    rw [hWy] at HAT H1 HT0 HY0 HWZ
    clear hWy
    gi_wp2
    rw [HWY.out]
    gi_loopw [12] (fun i wr => ∃ (j : Nat) (G rest : Fo) (O' : Nat → Prop), i = .int .i64 j ∧ Hid (ls = G.app rest) ∧ Hid (G.len = j) ∧ Hid (J O' (foL G) wr ∧ Turn O Wy O' wr)) (fun i _ => ls.len - (intOf i).toNat)
    case atStart => exact ⟨0, .nil, ls, O, rfl, Lib.hid rfl, Lib.hid rfl, Lib.hid ⟨H1.out, Turn.refl _ _⟩⟩
    case round =>
      clear c2
      obtain ⟨j, G, rest, O1, rfl, hf, hj, hJ⟩ := hrel
      have hatr := HAT.out.turn HDD.out hJ.out.2
      cases rest with
      | cons k' n' ks' r' =>
        have hjn : j < ls.len := by rw [hf.out, Fo.app_len, hj.out]; simp [Fo.len]
        have hjl : (j : Int) < (ls.len : Int) := by omega
        obtain ⟨b, o, rfl, hbB, hf0⟩ := hatr.2.2.1.some (by omega)
        have hfa : FoIn wr (· < B) (.cons k' n' ks' r') b (o + j * 3) := by
          have h1 := hf0
          rw [hf.out] at h1
          rw [← hj.out]
          exact FoIn.behind3 G _ b o h1
        obtain ⟨e0, e1, ⟨a', cap', e2, hsl'⟩, _⟩ := hfa.first
        have tA : Turn O1 wr O1 (wr.alloc (.cells #[.int .i64 k', .int .i64 n', .slice a' ks'.len cap'] 38)) := Turn.alloc _ _ _
        have hJA := HIV.out.alloc (.cells #[.int .i64 k', .int .i64 n', .slice a' ks'.len cap'] 38) hJ.out.1
        have hzy : Wy.heap.size ≤ wr.heap.size := hJ.out.2.2.2.2.1
        have hWy : W.heap.size < wr.heap.size := lt_of_block ((hJ.out.2.2.2.2.2.1 _ (lt_of_block HY0.out) HYO.out).trans HY0.out)
        have cy := cell_at ((heap_old wr (.cells #[.int .i64 k', .int .i64 n', .slice a' ks'.len cap'] 38) hWy).trans ((hJ.out.2.2.2.2.2.1 _ (lt_of_block HY0.out) HYO.out).trans HY0.out)) 0
        simp at cy
        obtain ⟨fn, tmps, assign, body, hy, hRd⟩ := HRR.out (m - 1) O1 (foL G) (k', n', ks') (.agg #[.int .i64 k', .int .i64 n', .slice a' ks'.len cap']) _ hJA ⟨a', cap', rfl, hsl'.keep (fun q hq => heap_old wr _ (by have := HSZ.out; have := HWZ.out; omega))⟩
          (by rw [hHR.out, hf.out, foL_app]; exact ⟨foL r' ++ foL (lvF f), by simp [foL]⟩)
        have HNX : Hid (∀ O2 w3, J O2 (foL G ++ [(k', n', ks')]) w3 ∧ Turn O1 (wr.alloc (.cells #[.int .i64 k', .int .i64 n', .slice a' ks'.len cap'] 38)) O2 w3 → J O2 (foL (G.app (.cons k' n' ks' .nil))) w3 ∧ Turn O Wy O2 w3) := Lib.hid (by
          rintro O2 w3 ⟨q1, q2⟩
          rw [foL_app]
          exact ⟨q1, (hJ.out.2.trans tA).trans q2⟩)
        have HSN : Hid (ls = (G.app (.cons k' n' ks' .nil)).app r') := Lib.hid (by rw [hf.out, foAss3]; rfl)
        have HJ := Lib.hid hj.out
        clear hf hj hJ hatr hf0 hfa hsl' tA hJA
        gi_wp2
        refine ⟨hdd _, ?_⟩
        refine hRd.mono ?_
        rintro e w3 ⟨rfl, O2, hq1, hq2⟩
        have HN2 := Lib.hid (HNX.out O2 w3 ⟨hq1, hq2⟩)
        clear hq1 hq2
        gi_wp2
        go_roundw
        case rel => exact ⟨j + 1, _, r', O2, by go_num, HSN, Lib.hid (by rw [Fo.app_len, HJ.out]; rfl), HN2⟩
        case measure => simp [intOf]; omega
      | nil =>
        have hjl : ¬ (j : Int) < (ls.len : Int) := by rw [hf.out, foNil3, hj.out]; omega
        have dj : decide ((j : Int) < (ls.len : Int)) = false := by simpa using hjl
        have HG : Hid (foL ls = foL G) := Lib.hid (by rw [hf.out, foNil3])
        have HJ1 : Hid (J O1 (foL ls) wr ∧ Turn O Wy O1 wr) := Lib.hid (by rw [HG.out]; exact hJ.out)
        have HATR := Lib.hid hatr
        have c3 := cell_at hatr.1 3
        simp at c3
        obtain ⟨X0, hX0⟩ : ∃ X0, X0 = wr := ⟨_, rfl⟩
        rw [← hX0] at HJ1 HATR c3 ⊢
        clear hf hJ HG hatr hX0 hj
        obtain ⟨L, hL⟩ : ∃ L : Nat, L = f.len := ⟨_, rfl⟩
        rw [← hL] at c3 HF hlen2
        have HL := Lib.hid hL
        clear hL
        match hf9 : f, HL with
        | .nil, HL =>
          obtain rfl : L = 0 := HL.out
          gi_wp2
          refine wpIn_loop_rounds 1 ?_
          simp only [roundsIn_succ]
          gi_wp2
          refine ⟨_, results_none rfl _ _ _, ⟨_, rfl⟩, O1, ?_, HT0.out.trans HJ1.out.2⟩
          rw [hf9, hHR.out, show foL (lvF .nil) = [] from rfl, List.append_nil]
          exact HJ1.out.1
        | .cons k1 n1 ls1 ks1 .nil, HL => exact absurd HL.out HF.out.2
        | .cons k1 n1 ls1 ks1 (.cons k2 n2 ls2 ks2 r), HL =>
          have HFE := Lib.hid hf9
          clear hf9
          have hL1 : (0 : Int) < (L : Int) := by have := HL.out; simp only [Ft.len] at this; omega
          have hL2 : (1 : Int) < (L : Int) := by have := HL.out; simp only [Ft.len] at this; omega
          have HLR : Hid (L = r.len + 2) := Lib.hid (by have := HL.out; simp only [Ft.len] at this; omega)
          have HXS : Hid (foL (ls.app (lvF (.cons k1 n1 ls1 ks1 (.cons k2 n2 ls2 ks2 r)))) = foL ls ++ (foL (ls1.app (lvF ks1)) ++ (foL (ls2.app (lvF ks2)) ++ foL (lvF r)))) := Lib.hid (by rw [hHR.out, lvF_cons, lvF_cons])
          obtain ⟨T1, hall2⟩ := tAll_first HALL.out
          obtain ⟨T2, T3⟩ := tAll_first hall2
          have hV1 := (tOne_parts T1).1
          rw [HVV.out] at T1 T2 T3
          have HT1 := Lib.hid T1
          have HT2 := Lib.hid T2
          have HT3 := Lib.hid T3
          have hwr : IntKind.i64.wrap (V - 1) = V - 1 := IntWalk.i64_in _ (by have := HVL.out; omega)
          obtain ⟨b, o, rfl, hbB, hf0⟩ := HATR.out.2.2.2.1.some (by simp [Ft.len])
          have HB := Lib.hid (show b < B from hbB)
          clear T1 T2 T3 hall2 hHR HL hbB
          obtain ⟨p0, p1, ⟨la1, lc1, p2, hl⟩, ⟨ka1, kc1, p3, hk⟩, hrest⟩ := hf0.first
          have hwb := heap_old X0 (.cells #[.int .i64 k1, .int .i64 n1, .slice la1 ls1.len lc1, .slice ka1 ks1.len kc1] 29) (lt_of_block HATR.out.2.1)
          have cV := cell_at (hwb.trans HATR.out.2.1) 0
          simp at cV
          obtain ⟨W1, hW⟩ : ∃ W1, ((X0.alloc (.cells #[.int .i64 k1, .int .i64 n1, .slice la1 ls1.len lc1, .slice ka1 ks1.len kc1] 29)).alloc (.cells #[.int .i64 k1, .int .i64 n1, .slice la1 ls1.len lc1, .slice ka1 ks1.len kc1] 29)).alloc (.cells #[.int .i64 (V - 1)] 3) = W1 := ⟨_, rfl⟩
          have hready := lkid_ready HAT.out HDD.out HIV.out HWZ.out HJ1.out.2 HJ1.out.1 hl hk HY0.out HYO.out _ hW
          have HW1 := Lib.hid hW
          have HR1 := Lib.hid hready
          have HZ1 := Lib.hid (show X0.heap.size < W1.heap.size by rw [← hW]; simp; omega)
          clear hW hready hl hk hwb hrest hf0
          gi_wp2
          refine wpIn_loop_rounds 4 ?_
          simp only [roundsIn_succ]
          gi_wp2_with (refine ⟨trivial, hdd _, ?_⟩; gi_at_call 30; refine (levels_in _ k1 n1 (V - 1) hV1 la1 ka1 ls1.len lc1 ks1.len kc1 _).mono ?_; rintro e w' ⟨rfl, rfl⟩)
          rw [HW1.out]
          obtain ⟨r1, r2, r3, r4, r5, r6, r7, r8⟩ := HR1.out
          have hih := fun Z => ih (by omega) _ k1 n1 ls1 ks1 la1 ka1 lc1 kc1 (X0.heap.size + 1) B Z HT1.out
          rw [← HVV.out] at hih
          refine loop_tellsV (LvV.keepV B) (gf := 48) (lb := #[.pointer (some ⟨X0.heap.size + 1, 0, none⟩), .pointer (some ⟨X0.heap.size + 1 + 1, 0, none⟩)]) rfl (enters_of Try.func48 (by kernel_rfl) rfl) rfl (xs := foL (ls1.app (lvF ks1))) (D := LvD (X0.heap.size + 1) B) (O := O1) r7 r1
            (fun o1 o2 => hih _ (r2 o1 o2)) (fun O' z X => J O' (foL ls ++ z) X ∧ Turn O1 W1 O' X) r3 ⟨r4, Turn.refl _ _⟩ ?round1 ?done1
          case round1 =>
            rintro l2 m2 P pre ⟨xk, xn, xf⟩ v X ⟨hJ2, t2⟩ hv hpre
            have hdd2 : ∀ k : Nat, ((Fence.wide.inRound l2).depth.isSome = true → 1 ≤ k) := fun k h => by cases h
            obtain ⟨a9, c9, rfl, hs9⟩ := id hv
            clear r1 r2 r3 r4 r5 r6 r7 r8 hih
            gi_wp2
            refine ⟨_, rfl, ?_⟩
            rintro Wb hJb0 tb hvb hzb hob
            have hJb : J P (foL ls ++ pre) Wb := by simpa only [List.append_assoc] using hJb0
            clear hJb0
            have cY := cell_at (HR1.out.2.2.2.2.2.1 P Wb tb) 0
            simp at cY
            obtain ⟨o0, o1, o2⟩ := cells3 hob
            obtain ⟨fn, tmps, assign, body, hy, hRd⟩ := HRR.out (m2 - 1) P (foL ls ++ pre) (xk, xn, xf) _ Wb hJb hvb (by rw [HXS.out]; obtain ⟨t, ht⟩ := hpre; exact ⟨t ++ (foL (ls2.app (lvF ks2)) ++ foL (lvF r)), by rw [← ht]; simp⟩)
            have HTB := Lib.hid tb
            clear hvb hob tb hJb
            gi_wp2
            refine ⟨hdd2 _, ?_⟩
            refine RoundIn.mono hRd ?_
            rintro e X9 ⟨rfl, O9, hJ3, t3⟩
            have HJ3 : Hid (∃ O', (J O' (foL ls ++ (pre ++ [(xk, xn, xf)])) X9 ∧ Turn O1 W1 O' X9) ∧ Turn P Wb O' X9) := Lib.hid ⟨O9, ⟨by rw [← List.append_assoc]; exact hJ3, HTB.out.trans t3⟩, t3⟩
            clear hJ3 t3
            gi_wp2
            unfold GoesV
            simpa only [List.append_assoc] using HJ3.out
          case done1 =>
            rintro d1 O2 X1 hd1 ⟨hJd, td⟩ hkd hnd td'
            have tX : Turn O Wy O2 X1 := r5.trans td
            have tW : Turn O1 X0 O2 X1 := r8.trans td
            have ha := HAT.out.turn HDD.out tX
            have hK11 : X1.heap[d1]? = some (.deferred (some [])) ∧ ¬ O2 d1 := ⟨hkd, hnd⟩
            have HK11 := Lib.hid hK11
            have HSX1 : Hid (W.heap.size ≤ d1) := Lib.hid (by have := HJ1.out.2.2.2.2.1; have := HWZ.out; have := HZ1.out; omega)
            have HTX1 := Lib.hid tX
            have HJD1 := Lib.hid hJd
            have HA1 := Lib.hid ha
            clear r1 r2 r3 r4 r5 r6 r7 r8 hih td td' tW hkd hnd hK11 hd1 tX hJd ha p0 p1 p2 p3 cV
            obtain ⟨ha1, ha2, ha3, ha4, ha5⟩ := HA1.out
            have ha := HA1.out
            have tX := HTX1.out
            have hJd := HJD1.out
            have hf0 := ha4.ftIn.first.2.2.2.2
            clear ha1 ha2 ha3 ha4 ha5
            obtain ⟨p0, p1, ⟨la2, lc2, p2, hl⟩, ⟨ka2, kc2, p3, hk⟩, hrest⟩ := hf0.first
            have hwb := heap_old X1 (.cells #[.int .i64 k2, .int .i64 n2, .slice la2 ls2.len lc2, .slice ka2 ks2.len kc2] 29) (lt_of_block ha.2.1)
            have cV := cell_at (hwb.trans ha.2.1) 0
            simp at cV
            obtain ⟨W2, hW⟩ : ∃ W2, ((X1.alloc (.cells #[.int .i64 k2, .int .i64 n2, .slice la2 ls2.len lc2, .slice ka2 ks2.len kc2] 29)).alloc (.cells #[.int .i64 k2, .int .i64 n2, .slice la2 ls2.len lc2, .slice ka2 ks2.len kc2] 29)).alloc (.cells #[.int .i64 (V - 1)] 3) = W2 := ⟨_, rfl⟩
            have hready := lkid_ready HAT.out HDD.out HIV.out HWZ.out tX hJd hl hk HY0.out HYO.out _ hW
            have HW2 := Lib.hid hW
            have HR2 := Lib.hid hready
            have HZ2 := Lib.hid (show X1.heap.size < W2.heap.size by rw [← hW]; simp; omega)
            clear hW hready hl hk hwb hrest hf0
            clear hJd tX ha
            gi_wp2
            simp only [roundsIn_succ]
            gi_wp2_with (refine ⟨trivial, hdd _, ?_⟩; gi_at_call 30; refine (levels_in _ k2 n2 (V - 1) hV1 la2 ka2 ls2.len lc2 ks2.len kc2 _).mono ?_; rintro e w' ⟨rfl, rfl⟩)
            rw [HW2.out]
            obtain ⟨r1, r2, r3, r4, r5, r6, r7, r8⟩ := HR2.out
            have hih := fun Z => ih (by omega) _ k2 n2 ls2 ks2 la2 ka2 lc2 kc2 (X1.heap.size + 1) B Z HT2.out
            rw [← HVV.out] at hih
            refine loop_tellsV (LvV.keepV B) (gf := 48) (lb := #[.pointer (some ⟨X1.heap.size + 1, 0, none⟩), .pointer (some ⟨X1.heap.size + 1 + 1, 0, none⟩)]) rfl (enters_of Try.func48 (by kernel_rfl) rfl) rfl (xs := foL (ls2.app (lvF ks2))) (D := LvD (X1.heap.size + 1) B) (O := O2) r7 r1
              (fun o1 o2 => hih _ (r2 o1 o2)) (fun O' z X => J O' ((foL ls ++ foL (ls1.app (lvF ks1))) ++ z) X ∧ Turn O2 W2 O' X) r3 ⟨r4, Turn.refl _ _⟩ ?round2 ?done2
            case round2 =>
              rintro l2 m2 P pre ⟨xk, xn, xf⟩ v X ⟨hJ2, t2⟩ hv hpre
              have hdd2 : ∀ k : Nat, ((Fence.wide.inRound l2).depth.isSome = true → 1 ≤ k) := fun k h => by cases h
              obtain ⟨a9, c9, rfl, hs9⟩ := id hv
              clear r1 r2 r3 r4 r5 r6 r7 r8 hih
              gi_wp2
              refine ⟨_, rfl, ?_⟩
              rintro Wb hJb0 tb hvb hzb hob
              have hJb : J P ((foL ls ++ foL (ls1.app (lvF ks1))) ++ pre) Wb := by simpa only [List.append_assoc] using hJb0
              clear hJb0
              have cY := cell_at (HR2.out.2.2.2.2.2.1 P Wb tb) 0
              simp at cY
              obtain ⟨o0, o1, o2⟩ := cells3 hob
              obtain ⟨fn, tmps, assign, body, hy, hRd⟩ := HRR.out (m2 - 1) P ((foL ls ++ foL (ls1.app (lvF ks1))) ++ pre) (xk, xn, xf) _ Wb hJb hvb (by rw [HXS.out]; obtain ⟨t, ht⟩ := hpre; exact ⟨t ++ (foL (lvF r)), by rw [← ht]; simp⟩)
              have HTB := Lib.hid tb
              clear hvb hob tb hJb
              gi_wp2
              refine ⟨hdd2 _, ?_⟩
              refine RoundIn.mono hRd ?_
              rintro e X9 ⟨rfl, O9, hJ3, t3⟩
              have HJ3 : Hid (∃ O', (J O' ((foL ls ++ foL (ls1.app (lvF ks1))) ++ (pre ++ [(xk, xn, xf)])) X9 ∧ Turn O2 W2 O' X9) ∧ Turn P Wb O' X9) := Lib.hid ⟨O9, ⟨by rw [← List.append_assoc]; exact hJ3, HTB.out.trans t3⟩, t3⟩
              clear hJ3 t3
              gi_wp2
              unfold GoesV
              simpa only [List.append_assoc] using HJ3.out
            case done2 =>
              rintro d2 O3 X2 hd2 ⟨hJd, td⟩ hkd hnd td'
              have tX : Turn O Wy O3 X2 := r5.trans td
              have tW : Turn O2 X1 O3 X2 := r8.trans td
              have ha := HAT.out.turn HDD.out tX
              have hK22 : X2.heap[d2]? = some (.deferred (some [])) ∧ ¬ O3 d2 := ⟨hkd, hnd⟩
              have hL21 := (Array.getElem?_eq_some_iff.1 HK11.out.1).1
              have hK21 := mark_next HK11.out.1 HK11.out.2 tW
              have HK21 := Lib.hid hK21
              have HN21 : Hid (d1 ≠ d2) := Lib.hid (by have := HZ2.out; omega)
              have HK22 := Lib.hid hK22
              have HSX2 : Hid (W.heap.size ≤ d2) := Lib.hid (by have := HTX1.out.2.2.2.1; have := HWZ.out; have := HZ2.out; omega)
              have HTX2 := Lib.hid tX
              have HJD2 := Lib.hid hJd
              have HA2 := Lib.hid ha
              clear r1 r2 r3 r4 r5 r6 r7 r8 hih td td' tW hkd hnd hK22 hd2 tX hJd ha hL21 hK21 p0 p1 p2 p3 cV
              match r, HLR with
              | .nil, HLR =>
                obtain rfl : L = 2 := HLR.out
                gi_wp2
                simp only [roundsIn_succ]
                gi_wp2
                refine ⟨by simp, .inl ⟨_, _, rfl, run_takeDeferred HK22.out.1, ?_⟩⟩
                refine ⟨by simp, .inl ⟨_, _, rfl, run_takeDeferred ((World.putObj_heap_other HN21.out).trans HK21.out.1), ?_⟩⟩
                exact ⟨_, results_none rfl _ _ _, ⟨_, rfl⟩, O3, by rw [HFE.out, HXS.out, show foL (lvF .nil) = [] from rfl, List.append_nil, ← List.append_assoc]; exact (HIV.out.put _ (HIV.out.put _ HJD2.out HSX2.out HK22.out.2) HSX1.out HK21.out.2), (((HT0.out.trans HTX2.out).putD HSX2.out _).putD HSX1.out _)⟩
              | .cons k3 n3 ls3 ks3 (.cons _ _ _ _ _), HLR => exact absurd HF.out.1 (by have := HLR.out; simp only [Ft.len] at this; omega)
              | .cons k3 n3 ls3 ks3 .nil, HLR =>
                obtain rfl : L = 3 := HLR.out
                have HT3' := Lib.hid (tAll_first HT3.out).1
                clear HT3
                have HT3 := HT3'
                have hL3 : (2 : Int) < ((3 : Nat) : Int) := by omega
                obtain ⟨ha1, ha2, ha3, ha4, ha5⟩ := HA2.out
                have ha := HA2.out
                have tX := HTX2.out
                have hJd := HJD2.out
                have hf0 := ha4.ftIn.first.2.2.2.2.first.2.2.2.2
                clear ha1 ha2 ha3 ha4 ha5
                obtain ⟨p0, p1, ⟨la3, lc3, p2, hl⟩, ⟨ka3, kc3, p3, hk⟩, hrest⟩ := hf0.first
                have hwb := heap_old X2 (.cells #[.int .i64 k3, .int .i64 n3, .slice la3 ls3.len lc3, .slice ka3 ks3.len kc3] 29) (lt_of_block ha.2.1)
                have cV := cell_at (hwb.trans ha.2.1) 0
                simp at cV
                obtain ⟨W3, hW⟩ : ∃ W3, ((X2.alloc (.cells #[.int .i64 k3, .int .i64 n3, .slice la3 ls3.len lc3, .slice ka3 ks3.len kc3] 29)).alloc (.cells #[.int .i64 k3, .int .i64 n3, .slice la3 ls3.len lc3, .slice ka3 ks3.len kc3] 29)).alloc (.cells #[.int .i64 (V - 1)] 3) = W3 := ⟨_, rfl⟩
                have hready := lkid_ready HAT.out HDD.out HIV.out HWZ.out tX hJd hl hk HY0.out HYO.out _ hW
                have HW3 := Lib.hid hW
                have HR3 := Lib.hid hready
                have HZ3 := Lib.hid (show X2.heap.size < W3.heap.size by rw [← hW]; simp; omega)
                clear hW hready hl hk hwb hrest hf0
                clear hJd tX ha
                gi_wp2
                simp only [roundsIn_succ]
                gi_wp2_with (refine ⟨trivial, hdd _, ?_⟩; gi_at_call 30; refine (levels_in _ k3 n3 (V - 1) hV1 la3 ka3 ls3.len lc3 ks3.len kc3 _).mono ?_; rintro e w' ⟨rfl, rfl⟩)
                rw [HW3.out]
                obtain ⟨r1, r2, r3, r4, r5, r6, r7, r8⟩ := HR3.out
                have hih := fun Z => ih (by omega) _ k3 n3 ls3 ks3 la3 ka3 lc3 kc3 (X2.heap.size + 1) B Z HT3.out
                rw [← HVV.out] at hih
                refine loop_tellsV (LvV.keepV B) (gf := 48) (lb := #[.pointer (some ⟨X2.heap.size + 1, 0, none⟩), .pointer (some ⟨X2.heap.size + 1 + 1, 0, none⟩)]) rfl (enters_of Try.func48 (by kernel_rfl) rfl) rfl (xs := foL (ls3.app (lvF ks3))) (D := LvD (X2.heap.size + 1) B) (O := O3) r7 r1
                  (fun o1 o2 => hih _ (r2 o1 o2)) (fun O' z X => J O' (((foL ls ++ foL (ls1.app (lvF ks1))) ++ foL (ls2.app (lvF ks2))) ++ z) X ∧ Turn O3 W3 O' X) r3 ⟨r4, Turn.refl _ _⟩ ?round3 ?done3
                case round3 =>
                  rintro l2 m2 P pre ⟨xk, xn, xf⟩ v X ⟨hJ2, t2⟩ hv hpre
                  have hdd2 : ∀ k : Nat, ((Fence.wide.inRound l2).depth.isSome = true → 1 ≤ k) := fun k h => by cases h
                  obtain ⟨a9, c9, rfl, hs9⟩ := id hv
                  clear r1 r2 r3 r4 r5 r6 r7 r8 hih
                  gi_wp2
                  refine ⟨_, rfl, ?_⟩
                  rintro Wb hJb0 tb hvb hzb hob
                  have hJb : J P (((foL ls ++ foL (ls1.app (lvF ks1))) ++ foL (ls2.app (lvF ks2))) ++ pre) Wb := by simpa only [List.append_assoc] using hJb0
                  clear hJb0
                  have cY := cell_at (HR3.out.2.2.2.2.2.1 P Wb tb) 0
                  simp at cY
                  obtain ⟨o0, o1, o2⟩ := cells3 hob
                  obtain ⟨fn, tmps, assign, body, hy, hRd⟩ := HRR.out (m2 - 1) P (((foL ls ++ foL (ls1.app (lvF ks1))) ++ foL (ls2.app (lvF ks2))) ++ pre) (xk, xn, xf) _ Wb hJb hvb (by rw [HXS.out, lvF_cons, show foL (lvF .nil) = [] from rfl]; obtain ⟨t, ht⟩ := hpre; exact ⟨t ++ (([] : List (Int × Int × Fo))), by rw [← ht]; simp⟩)
                  have HTB := Lib.hid tb
                  clear hvb hob tb hJb
                  gi_wp2
                  refine ⟨hdd2 _, ?_⟩
                  refine RoundIn.mono hRd ?_
                  rintro e X9 ⟨rfl, O9, hJ3, t3⟩
                  have HJ3 : Hid (∃ O', (J O' (((foL ls ++ foL (ls1.app (lvF ks1))) ++ foL (ls2.app (lvF ks2))) ++ (pre ++ [(xk, xn, xf)])) X9 ∧ Turn O3 W3 O' X9) ∧ Turn P Wb O' X9) := Lib.hid ⟨O9, ⟨by rw [← List.append_assoc]; exact hJ3, HTB.out.trans t3⟩, t3⟩
                  clear hJ3 t3
                  gi_wp2
                  unfold GoesV
                  simpa only [List.append_assoc] using HJ3.out
                case done3 =>
                  rintro d3 O4 X3 hd3 ⟨hJd, td⟩ hkd hnd td'
                  have tX : Turn O Wy O4 X3 := r5.trans td
                  have tW : Turn O3 X2 O4 X3 := r8.trans td
                  have ha := HAT.out.turn HDD.out tX
                  have hK33 : X3.heap[d3]? = some (.deferred (some [])) ∧ ¬ O4 d3 := ⟨hkd, hnd⟩
                  have hL31 := (Array.getElem?_eq_some_iff.1 HK21.out.1).1
                  have hK31 := mark_next HK21.out.1 HK21.out.2 tW
                  have HK31 := Lib.hid hK31
                  have HN31 : Hid (d1 ≠ d3) := Lib.hid (by have := HZ3.out; omega)
                  have hL32 := (Array.getElem?_eq_some_iff.1 HK22.out.1).1
                  have hK32 := mark_next HK22.out.1 HK22.out.2 tW
                  have HK32 := Lib.hid hK32
                  have HN32 : Hid (d2 ≠ d3) := Lib.hid (by have := HZ3.out; omega)
                  have HK33 := Lib.hid hK33
                  have HSX3 : Hid (W.heap.size ≤ d3) := Lib.hid (by have := HTX2.out.2.2.2.1; have := HWZ.out; have := HZ3.out; omega)
                  have HTX3 := Lib.hid tX
                  have HJD3 := Lib.hid hJd
                  have HA3 := Lib.hid ha
                  clear r1 r2 r3 r4 r5 r6 r7 r8 hih td td' tW hkd hnd hK33 hd3 tX hJd ha hL31 hK31 hL32 hK32 p0 p1 p2 p3 cV
                  gi_wp2
                  simp only [roundsIn_succ]
                  gi_wp2
                  refine ⟨by simp, .inl ⟨_, _, rfl, run_takeDeferred HK33.out.1, ?_⟩⟩
                  refine ⟨by simp, .inl ⟨_, _, rfl, run_takeDeferred ((World.putObj_heap_other HN32.out).trans HK32.out.1), ?_⟩⟩
                  refine ⟨by simp, .inl ⟨_, _, rfl, run_takeDeferred ((World.putObj_heap_other HN21.out).trans ((World.putObj_heap_other HN31.out).trans HK31.out.1)), ?_⟩⟩
                  exact ⟨_, results_none rfl _ _ _, ⟨_, rfl⟩, O4, by rw [HFE.out, HXS.out, show foL (lvF (.cons k3 n3 ls3 ks3 .nil)) = foL (ls3.app (lvF ks3)) ++ [] by rw [lvF_cons]; rfl, List.append_nil, ← List.append_assoc, ← List.append_assoc]; exact (HIV.out.put _ (HIV.out.put _ (HIV.out.put _ HJD3.out HSX3.out HK33.out.2) HSX2.out HK32.out.2) HSX1.out HK31.out.2), ((((HT0.out.trans HTX3.out).putD HSX3.out _).putD HSX2.out _).putD HSX1.out _)⟩
end Go.Proofs.Ytcnhfoppfihhiaa
/- A set of numbers as a map: what is found in it, and what is laid into it; an append inside a fence, by its run equation. No condition but those that stand in each statement. -/
namespace Go.Proofs.Ytcnhfoppfihhiaa
open Go.RowKit

def entsI : Nat → List Int → List MapEntry
  | _, [] => []
  | i, x :: r => ⟨.int .i64 x, .agg #[], i⟩ :: entsI (i + 1) r
theorem entsI_app : ∀ (i : Nat) (a b : List Int), entsI i (a ++ b) = entsI i a ++ entsI (i + a.length) b
  | i, [], b => by simp [entsI]
  | i, x :: a, b => by simp [entsI, entsI_app (i + 1) a b]; congr 1; omega
def sTab (zs : List Int) : Obj := .map (entsI 0 zs).toArray zs.length
theorem findI (x : Int) : ∀ (zs : List Int) (i j : Nat), ∃ q, Instr.findNow (.int .i64) (.int .i64 x) (entsI j zs) i = some (if x ∈ zs then some (q, .agg #[]) else none)
  | [], i, j => ⟨0, by simp [entsI, Instr.findNow]⟩
  | y :: r, i, j => by
    by_cases h : x = y
    · exact ⟨i, by subst h; simp [entsI, Instr.findNow, Instr.sameNow]⟩
    · obtain ⟨q, hq⟩ := findI x r (i + 1) (j + 1)
      refine ⟨q, ?_⟩
      have hne : (x == y) = false := beq_eq_false_iff_ne.2 h
      simp only [entsI, Instr.findNow, Instr.sameNow, hne, List.mem_cons, h, false_or]
      exact hq
theorem run_checkI (e : Bool) (x : Int) (w : World) : (Instr.checkKey e 10000 3 (.int .i64 x)).run Try.prog w = .ok () w := MapKept.run_checkKey (k := .int .i64 x) Try.underlying3 (by simp [MapKept.IsKey]) e 9999
theorem run_findI (w : World) (x : Int) (zs : List Int) : ∃ q, (Instr.findKey 3 (.int .i64 x) (entsI 0 zs)).run Try.prog w = .ok (if x ∈ zs then some (q, .agg #[]) else none) w := by
  obtain ⟨q, hq⟩ := findI x zs 0 0
  refine ⟨q, ?_⟩
  simp only [Instr.findKey, Sem.run_bind, run_underlying Try.underlying3, Result.andThen_ok, hq, Sem.run_pure]
/-- What is found in the map. -/
theorem run_lookI (W : World) (r : Nat) (zs : List Int) (hb : W.heap[r]? = some (sTab zs)) (x : Int) :
    (Instr.lookup 57 (.map (some r)) (.int .i64 x) true).run Try.prog W = .ok (.tuple #[.agg #[], .bool (decide (x ∈ zs))]) W := by
  have hz : (zeroValue 85).run Try.prog W = .ok (.agg #[]) W := by kernel_rfl
  obtain ⟨q, hq⟩ := run_findI W x zs
  simp only [Instr.lookup, Sem.run_bind, run_underlying Try.underlying57, Result.andThen_ok, sTab] at hb ⊢
  simp only [MapKept.run_getObj_map hb, Result.andThen_ok]
  by_cases h : x ∈ zs
  · simp [h, run_checkI, hq, Result.andThen]
  · simp [h, hz, run_checkI, hq, Result.andThen]
/-- The world with another object at a place. -/
def putM (w : World) (r : Nat) (o : Obj) : World := { w with heap := w.heap.setIfInBounds r o }
@[simp] theorem putM_size (w : World) (r : Nat) (o : Obj) : (putM w r o).heap.size = w.heap.size := by simp [putM]
theorem putM_at {w : World} {r : Nat} {o o' : Obj} (h : w.heap[r]? = some o) : (putM w r o').heap[r]? = some o' := (MapKept.heap_set h).1
theorem putM_ne (w : World) {r b : Nat} (o : Obj) (h : b ≠ r) : (putM w r o).heap[b]? = w.heap[b]? := by
  show (w.heap.setIfInBounds r o)[b]? = _
  rw [Array.getElem?_setIfInBounds_ne (Ne.symm h)]
theorem run_updI (W : World) (r : Nat) (zs : List Int) (hb : W.heap[r]? = some (sTab zs)) (x : Int) (hx : x ∉ zs) :
    (Instr.mapUpdate 57 (.map (some r)) (.int .i64 x) (.agg #[])).run Try.prog W = .ok () (putM W r (sTab (zs ++ [x]))) := by
  have e : sTab (zs ++ [x]) = .map ((entsI 0 zs).toArray.push ⟨.int .i64 x, .agg #[], zs.length⟩) (zs.length + 1) := by
    simp [sTab, entsI_app, entsI]
  rw [e]
  obtain ⟨q, hq⟩ := run_findI W x zs
  unfold sTab at hb
  simp only [Instr.mapUpdate, Sem.run_bind, run_underlying Try.underlying57, Result.andThen_ok, MapKept.run_getObj_map hb, run_checkI, hq, hx, if_false, MapKept.run_setObj_map _ hb]
  rfl
theorem wpListIn_append_run {F : Fence} {n : Nat} {P : Program} {ops : Array Oper} {rest : List Oper} {o : Oper} {a : Act} {w w' : World} {Q : Exit → Act → World → Prop} {v y v' : Value} (hgd : o.guard = none) (s x : Operand) (t : TypeId)
    (ho : o.op = .call { callee := .builtin .append, args := #[s, x], argTypes := #[t, t] }) (hs : a.eval s = v) (hx : a.eval x = y) (hrun : (Builtin.append_ #[t, t] o.type #[v, y]).run P w = .ok v' w') (h : wpListIn F n P ops Q rest (a.put o.dst v') w') :
    wpListIn F n P ops Q (o :: rest) a w := by
  refine wpListIn_plain hgd fun K hK => ⟨?_, ?_⟩
  · simp [Oper.about, ho, resolve, Target.leads, Sem.run_pure]
  · rw [Oper.semAt_plain F _ _ (by rw [ho]; intro c hc; cases hc)]
    unfold execOp
    simp only [ho, resolve, invoke, builtin, Sem.run_bind, Sem.run_pure, Result.andThen_ok, List.map_toArray, List.map_cons, List.map_nil, hs, hx, hrun]
    exact hK _ _ h
end Go.Proofs.Ytcnhfoppfihhiaa
/- The contract of the program's own add of found numbers: each number that was not found before is laid into the map, and put behind the row. Conditions: the numbers lie in memory apart from what was found, and there are at most 900000. -/
namespace Go.Proofs.Ytcnhfoppfihhiaa
open Go.RowKit

/-- The blocks of what was found: the variable, the map, the row. -/
def FdO (FB MB : Nat) (v : Value) (b : Nat) : Prop := b = FB ∨ b = MB ∨ OwnB v b
/-- What was found, in memory. -/
def FdAt (W : World) (base FB MB : Nat) (x : Option Addr) (c : Nat) (zs : List Int) : Prop :=
  W.heap[FB]? = some (.cells #[.map (some MB), .slice x zs.length c] 59 (0, 0)) ∧ W.heap[MB]? = some (sTab zs) ∧ IOwn W base (.slice x zs.length c) zs ∧ FB < base ∧ MB < base ∧ MB ≠ FB
theorem FdAt.lt {W : World} {base FB MB : Nat} {x : Option Addr} {c : Nat} {zs : List Int} (h : FdAt W base FB MB x c zs) : ∀ b, FdO FB MB (.slice x zs.length c) b → b < W.heap.size := by
  obtain ⟨h1, h2, h3, _⟩ := h
  rintro b (rfl | rfl | hb)
  · exact lt_of_block h1
  · exact (Array.getElem?_eq_some_iff.1 h2).1
  · exact (h3.lt b hb).2
theorem FdAt.keep {W W' : World} {base FB MB : Nat} {x : Option Addr} {c : Nat} {zs : List Int} (h : FdAt W base FB MB x c zs) (hk : ∀ b, FdO FB MB (.slice x zs.length c) b → W'.heap[b]? = W.heap[b]?) : FdAt W' base FB MB x c zs := by
  obtain ⟨h1, h2, h3, h4⟩ := h
  exact ⟨(hk _ (.inl rfl)).trans h1, (hk _ (.inr (.inl rfl))).trans h2, h3.keep (fun g hg => hk g (.inr (.inr hg))), h4⟩
theorem FdAt.alloc {W : World} {base FB MB : Nat} {x : Option Addr} {c : Nat} {zs : List Int} (h : FdAt W base FB MB x c zs) (o : Obj) : FdAt (W.alloc o) base FB MB x c zs := h.keep (fun b hb => heap_old W o (h.lt b hb))
/-- A number that was not there. -/
theorem FdAt.more {W : World} {base FB MB : Nat} {x : Option Addr} {c : Nat} {zs : List Int} (h : FdAt W base FB MB x c zs) {z : Int} (hz : z ∉ zs) (hl : zs.length ≤ 900000) (hb : base ≤ W.heap.size) :
    ∃ (V : World) (g' cap' : Nat) (w3 : World), Hid ((Instr.mapUpdate 57 (.map (some MB)) (.int .i64 z) (.agg #[])).run Try.prog W = .ok () V) ∧ V.cell? ⟨FB, 1, none⟩ = some (.slice x zs.length c) ∧
      Hid ((Builtin.append_ #[45, 45] 45 #[.slice x zs.length c, .slice (some ⟨V.heap.size, 0, none⟩) 1 1]).run Try.prog (V.alloc (.cells #[.int .i64 z] 3)) = .ok (.slice (some ⟨g', 0, none⟩) (zs.length + 1) cap') w3) ∧
      w3.cell? ⟨FB, 1, none⟩ = some (.slice x zs.length c) ∧ (∀ o, w3.frozen? ⟨FB, o, none⟩ = false) ∧
      Hid (FdAt (w3.setCell ⟨FB, 1, none⟩ (.slice (some ⟨g', 0, none⟩) (zs.length + 1) cap')) base FB MB (some ⟨g', 0, none⟩) cap' (zs ++ [z]) ∧ Turn (FdO FB MB (.slice x zs.length c)) W (FdO FB MB (.slice (some ⟨g', 0, none⟩) (zs.length + 1) cap')) (w3.setCell ⟨FB, 1, none⟩ (.slice (some ⟨g', 0, none⟩) (zs.length + 1) cap'))) := by
  obtain ⟨h1, h2, h3, h4, h5, h6⟩ := h
  have l1 := lt_of_block h1
  have hown := h3.lt
  have hup := run_updI W MB zs h2 z hz
  have p0 := putM_at (o' := sTab (zs ++ [z])) h2
  have pne : ∀ b, b ≠ MB → (putM W MB (sTab (zs ++ [z]))).heap[b]? = W.heap[b]? := fun b hn => putM_ne _ _ hn
  have zp : (putM W MB (sTab (zs ++ [z]))).heap.size = W.heap.size := by simp
  have op : (putM W MB (sTab (zs ++ [z]))).os = W.os ∧ (putM W MB (sTab (zs ++ [z]))).tape = W.tape ∧ (putM W MB (sTab (zs ++ [z]))).output = W.output := ⟨rfl, rfl, rfl⟩
  generalize putM W MB (sTab (zs ++ [z])) = V at *
  have p4 : IOwn V base (.slice x zs.length c) zs := h3.keep (fun g hg => pne g (by have := (hown g hg).1; omega))
  obtain ⟨g', cap', w3, hrun, i3, t3⟩ := p4.push 45 z (by omega) (by omega)
  have hno : ∀ b, b < base → ¬ OwnB (.slice x zs.length c) b := fun b hb h => by have := (hown b h).1; omega
  have k0 := (t3.2.2.2.2.1 MB (by have := (Array.getElem?_eq_some_iff.1 h2).1; omega) (hno _ h5)).trans p0
  have k1 := (t3.2.2.2.2.1 FB (by omega) (hno _ h4)).trans ((pne _ (Ne.symm h6)).trans h1)
  have z3 := t3.2.2.2.1
  have hg' := i3.lt g' rfl
  refine ⟨V, g', cap', w3, Lib.hid hup, cell_at ((pne _ (Ne.symm h6)).trans h1) 1, Lib.hid hrun, cell_at k1 1, free_of k1, Lib.hid ⟨?_, ?_⟩⟩
  · have el : (zs ++ [z]).length = zs.length + 1 := by simp
    unfold FdAt
    rw [el]
    exact ⟨heap_setCell_same w3 _ 1 _ _ _ k1, (Below.heap_setCell _ _ _ _ (show MB ≠ FB from h6)).trans k0, i3.keep (fun g hg => Below.heap_setCell _ _ _ _ (show g ≠ FB by have := (i3.lt g hg).1; omega)), h4, h5, h6⟩
  · refine ⟨t3.1.trans op.1, t3.2.1.trans op.2.1, t3.2.2.1.trans op.2.2, by simp; omega, fun b hb hn => ?_, fun b hb => ?_⟩
    · have n1 : b ≠ MB := fun h => hn (.inr (.inl h))
      have n2 : b ≠ FB := fun h => hn (.inl h)
      have n3 : ¬ OwnB (.slice x zs.length c) b := fun h => hn (.inr (.inr h))
      exact (Below.heap_setCell _ _ _ _ n2).trans ((t3.2.2.2.2.1 b (by omega) n3).trans (pne b n1))
    · rcases hb with hb | hb | hb
      · exact .inl (.inl hb)
      · exact .inl (.inr (.inl hb))
      · rcases t3.2.2.2.2.2 b hb with h | h
        · exact .inl (.inr (.inr h))
        · exact .inr (by omega)

/-- What stands in memory between two rounds. -/
def FdR (W : World) (base FB MB : Nat) (O : Nat → Prop) (ys : List Int) (wr : World) : Prop := ∃ x c, FdAt wr base FB MB x c ys ∧ Turn O W (FdO FB MB (.slice x ys.length c)) wr
/-- What add does. -/
def AdPost (base FB MB : Nat) (x : Option Addr) (c : Nat) (zs ns : List Int) (W : World) (e : Ending) (w' : World) : Prop :=
  e = .returned (.tuple #[]) ∧ FdR W base FB MB (FdO FB MB (.slice x zs.length c)) (onceL ns zs) w'

set_option maxRecDepth 100000 in
set_option maxHeartbeats 4000000 in
theorem qAdd_any (ns : List Int) (a : Option Addr) (cap base FB MB : Nat) (x : Option Addr) (c : Nat) (zs : List Int) (W : World) (hat : FdAt W base FB MB x c zs) (hin : IntsIn W (fun b => b < W.heap.size ∧ ¬ FdO FB MB (.slice x zs.length c) b) ns a cap) (hb : base ≤ W.heap.size) (hl : zs.length + ns.length ≤ 900000) :
    Calls Try.prog 31 #[.pointer (some ⟨FB, 0, none⟩), .slice a ns.length cap] W (AdPost base FB MB x c zs ns W) := by
  have hlen := hin.len
  have HIN := Lib.hid hin
  have HS : Hid (FdR W base FB MB (FdO FB MB (.slice x zs.length c)) (onceL (ns.take 0) zs) W) := Lib.hid ⟨x, c, hat, Turn.refl _ _⟩
  clear hat hin
  go_enter Try.func31, Try.ntmps31
  go_wp2_with fail
  go_loopw [10] (fun iv wr => ∃ (j : Nat), iv = .int .i64 j ∧ j ≤ ns.length ∧ Hid (FdR W base FB MB (FdO FB MB (.slice x zs.length c)) (onceL (ns.take j) zs) wr)) (fun iv _ => ns.length - (intOf iv).toNat)
  case atStart => exact ⟨0, rfl, Nat.zero_le _, HS⟩
  case round =>
    obtain ⟨j, rfl, hj, hR⟩ := hrel
    by_cases hlt : j < ns.length
    · have hjl : (j : Int) < (ns.length : Int) := by omega
      obtain ⟨x1, c1, hA, hT⟩ := hR.out
      obtain ⟨b, o, rfl, ⟨hbl, hbn⟩, hcs⟩ := HIN.out.some (by omega)
      have e0 := (World.cell?_of_block (w := W) (a := ⟨b, o + j, none⟩) (hT.2.2.2.2.1 b hbl hbn)).trans (hcs j hlt)
      have hzl := hT.2.2.2.1
      have hll := once_len (ns.take j) zs
      have htl : (ns.take j).length = j := by rw [List.length_take]; omega
      have hon := once_take (zs := zs) hlt
      generalize ns.getD j 0 = z at e0 hon
      generalize onceL (ns.take j) zs = ys at hA hT hll hon
      have f0 := cell_at hA.1 0
      simp at f0
      have hlk := run_lookI wr MB ys hA.2.1 z
      have hAA := hA.alloc (.cells #[] 85)
      have f1 := cell_at hAA.1 0
      have f2 := cell_at hAA.1 1
      simp at f1 f2
      have hTA : Turn (FdO FB MB (.slice x zs.length c)) W (FdO FB MB (.slice x1 ys.length c1)) (wr.alloc (.cells #[] 85)) := hT.trans (Turn.alloc _ _ _)
      by_cases hz : z ∈ ys
      · have dz : decide (z ∈ ys) = true := decide_eq_true hz
        rw [dz] at hlk
        have HN : Hid (FdR W base FB MB (FdO FB MB (.slice x zs.length c)) (onceL (ns.take (j + 1)) zs) (wr.alloc (.cells #[] 85))) := Lib.hid (by rw [hon, ins_old hz]; exact ⟨x1, c1, hAA, hTA⟩)
        clear hA hAA hT hTA hon hll htl hcs hbn dz hz hR hzl
        go_wp2_with fail
        go_roundw
        case rel => exact ⟨j + 1, by go_num, by omega, HN⟩
        case measure => simp [intOf]; omega
      · have dz : decide (z ∈ ys) = false := decide_eq_false hz
        rw [dz] at hlk
        obtain ⟨V, g', cap', w3, HUP, f3, HRUN, f4, f5, HF⟩ := hAA.more hz (by omega) (by simp; omega)
        have hup := HUP.out
        have HN : Hid (FdR W base FB MB (FdO FB MB (.slice x zs.length c)) (onceL (ns.take (j + 1)) zs) (w3.setCell ⟨FB, 1, none⟩ (.slice (some ⟨g', 0, none⟩) (ys.length + 1) cap'))) := Lib.hid (by
          rw [hon, ins_new hz]
          refine ⟨some ⟨g', 0, none⟩, cap', HF.out.1, ?_⟩
          have el : (ys ++ [z]).length = ys.length + 1 := by simp
          rw [el]
          exact hTA.trans HF.out.2)
        clear hA hAA hT hTA hon hll htl hcs hbn dz hz hR hzl HUP HF
        go_wp2_with (at_builtin; refine wpList_append_run (by rfl) _ _ _ (by rfl) (by rfl) (by rfl) HRUN.out ?_)
        go_roundw
        case rel => exact ⟨j + 1, by go_num, by omega, HN⟩
        case measure => simp [intOf]; omega
    · have hjl : ¬ (j : Int) < (ns.length : Int) := by omega
      have dj : decide ((j : Int) < (ns.length : Int)) = false := by simpa using hjl
      have HE : Hid (FdR W base FB MB (FdO FB MB (.slice x zs.length c)) (onceL ns zs) wr) := Lib.hid (by have := hR.out; rwa [List.take_of_length_le (by omega)] at this)
      clear hR
      go_wp2_with fail
      go_end0
      exact ⟨rfl, HE.out⟩
end Go.Proofs.Ytcnhfoppfihhiaa
/- The values of levels, as plain functions of forests, and their bounds. -/
namespace Go.Proofs.Ytcnhfoppfihhiaa
open Go

/-- The value of a level, by the values of its Kids. -/
def vNode (ps ms : List Int) (k n : Int) (vs : List Int) : Int :=
  if k = 2 then vs.getD 0 0 + 1 else if k = 3 then max (vs.getD 0 0) (vs.getD 1 0) else if k = 4 then (if vs.getD 1 0 = 0 then 0 else max (vs.getD 0 0) (vs.getD 1 0))
  else if k = 5 then ps.getD n.toNat 0 else if k = 6 then ms.getD n.toNat 0 else 0
def vals (ps ms : List Int) : Fo → List Int
  | .nil => []
  | .cons k n ks r => vNode ps ms k n (vals ps ms ks) :: vals ps ms r
theorem vals_len (ps ms : List Int) : ∀ f : Fo, (vals ps ms f).length = f.len
  | .nil => rfl
  | .cons _ _ _ r => by simp [vals, Fo.len, vals_len ps ms r]

theorem nats_get {l : List Int} (h : natsB l = true) (i : Nat) : 0 ≤ l.getD i 0 ∧ l.getD i 0 ≤ 1099511627776 := by
  by_cases hi : i < l.length
  · have e : l.getD i 0 = l[i] := by simp [List.getD_eq_getElem?_getD, hi]
    rw [e]
    have := List.all_eq_true.1 h l[i] (List.getElem_mem hi)
    simpa using this
  · have e : l.getD i 0 = 0 := by simp [List.getD_eq_getElem?_getD, hi]
    rw [e]; omega

theorem rAll_mono_d {p m : Int} : ∀ {f : Fo} {d : Int}, rAll p m f d = true → f ≠ .nil → 1 ≤ d
  | .nil, _, _, h => absurd rfl h
  | .cons k n ks r, d, h, _ => by
    by_cases hd : d < 1
    · simp [rAll, rNode, hd] at h
    · omega

/-- A value is no less than 0, and no more than 2^40 by so much as the level is deep. -/
theorem vNode_bound {ps ms : List Int} (hp : natsB ps = true) (hm : natsB ms = true) (k n : Int) {vs : List Int} {D : Int} (hD : 0 ≤ D) (hv : ∀ v ∈ vs, 0 ≤ v ∧ v ≤ 1099511627776 + D) :
    0 ≤ vNode ps ms k n vs ∧ vNode ps ms k n vs ≤ 1099511627776 + D + 1 := by
  have hg : ∀ i, 0 ≤ vs.getD i 0 ∧ vs.getD i 0 ≤ 1099511627776 + D := fun i => by
    by_cases hi : i < vs.length
    · have e : vs.getD i 0 = vs[i] := by simp [List.getD_eq_getElem?_getD, hi]
      rw [e]; exact hv _ (List.getElem_mem hi)
    · have e : vs.getD i 0 = 0 := by simp [List.getD_eq_getElem?_getD, hi]
      rw [e]; omega
  have h0 := hg 0
  have h1 := hg 1
  have h2 := nats_get hp n.toNat
  have h3 := nats_get hm n.toNat
  unfold vNode
  split
  · omega
  · split
    · omega
    · split
      · split <;> omega
      · split
        · omega
        · split <;> omega
theorem vals_bound {p m : Int} {ps ms : List Int} (hp : natsB ps = true) (hm : natsB ms = true) : ∀ (f : Fo) (d : Int), rAll p m f d = true → 0 ≤ d → ∀ v ∈ vals ps ms f, 0 ≤ v ∧ v ≤ 1099511627776 + d
  | .nil, _, _, _, v, hv => by simp [vals] at hv
  | .cons k n ks r, d, h, hd, v, hv => by
    have hd1 : 1 ≤ d := rAll_mono_d h (by simp)
    unfold rAll at h
    rw [Bool.and_eq_true] at h
    unfold vals at hv
    rcases List.mem_cons.1 hv with rfl | hv
    · have hks : ∀ v ∈ vals ps ms ks, 0 ≤ v ∧ v ≤ 1099511627776 + (d - 1) := by
        rw [rNode_fits p m k n ks.len d _ hd1 (fun h => rAll_nil_of p m ks _ (by omega)), Bool.and_eq_true] at h
        exact vals_bound hp hm ks (d - 1) h.1.2 (by omega)
      have := vNode_bound hp hm k n (D := d - 1) (by omega) hks
      omega
    · exact vals_bound hp hm r d h.2 hd v hv
/-- What holds of a right level: it fits, and its Kids do. -/
theorem node_parts {p m k n : Int} {f : Fo} {d : Int} (h : rNode p m k n f.len d (rAll p m f (d - 1)) = true) : 1 ≤ d ∧ (f.len : Int) = kidsOf k ∧ 0 ≤ n ∧ n < limOf p m k ∧ rAll p m f (d - 1) = true := by
  have hd : 1 ≤ d := by
    by_cases hd : d < 1
    · simp [rNode, hd] at h
    · omega
  rw [rNode_fits p m k n f.len d _ hd (fun h => rAll_nil_of p m f _ (by omega))] at h
  unfold fitsB at h
  simp only [Bool.and_eq_true, decide_eq_true_eq] at h
  exact ⟨hd, h.1.1, h.1.2.1, h.1.2.2, h.2⟩
theorem kidsOf_range (k : Int) (h : 0 ≤ kidsOf k) : k = 1 ∨ k = 2 ∨ k = 3 ∨ k = 4 ∨ k = 5 ∨ k = 6 := by
  unfold kidsOf at h
  split at h
  · omega
  · split at h
    · omega
    · split at h <;> omega
/-- A level's value is what the forest of that one level has first. -/
theorem fo_one {f : Fo} (h : f.len = 1) : ∃ k n ks, f = .cons k n ks .nil := by
  match f, h with
  | .cons k n ks r, h => exact ⟨k, n, ks, by rw [Fo.len_zero (f := r) (by simpa [Fo.len] using h)]⟩
theorem fo_two {f : Fo} (h : f.len = 2) : ∃ k n ks k' n' ks', f = .cons k n ks (.cons k' n' ks' .nil) := by
  match f, h with
  | .cons k n ks r, h => obtain ⟨k', n', ks', rfl⟩ := fo_one (f := r) (by simpa [Fo.len] using h); exact ⟨k, n, ks, k', n', ks', rfl⟩
end Go.Proofs.Ytcnhfoppfihhiaa
