/- The contract of Get: what the recursive reader of bytes tells, or its error; nothing that was there changes. -/
import Derived.Test.YthnkoamabfaioaaLlev2
import Derived.Test.YthnkoamabfaioaaLcatch
namespace Go.Proofs.Ythnkoamabfaioaa
open Go.RowKit

/-- What both Gets answer. -/
def GetPost (r : Rl) (w : World) (e : Ending) (w' : World) : Prop := Below w.heap.size w w' ∧
  match r with
  | .no er => e = .returned (.tuple #[.agg #[.int .i64 0, .int .i64 0, .slice none 0 0], .int .i64 0, .int .i64 er])
  | .ok k n F q _ => ∃ x c, e = .returned (.tuple #[.agg #[.int .i64 k, .int .i64 n, .slice x F.len c], .int .i64 q, .int .i64 0]) ∧ SlIn w' (fun b => w.heap.size ≤ b ∧ b < w'.heap.size) F x c

/-- The world in which the reading begins: the three results and the reader. -/
def w4 (w : World) (s : ByteArray) (a : Nat) : World := (((w.alloc (.cells #[.int .i64 0, .int .i64 0, .slice none 0 0] 33)).alloc (.cells #[.int .i64 0] 3)).alloc (.cells #[.int .i64 0] 35)).alloc (.cells #[.string s, .int .i64 a, .int .i64 100] 136)
theorem w4_size (w : World) (s : ByteArray) (a : Nat) : (w4 w s a).heap.size = w.heap.size + 4 := by simp [w4]
theorem w4_facts (w : World) (s : ByteArray) (a : Nat) : RdAt (w4 w s a) (w.heap.size + 3) s a 100 ∧ (w4 w s a).heap[w.heap.size]? = some (.cells #[.int .i64 0, .int .i64 0, .slice none 0 0] 33 (0, 0)) ∧
    (w4 w s a).heap[w.heap.size + 1]? = some (.cells #[.int .i64 0] 3 (0, 0)) ∧ (w4 w s a).heap[w.heap.size + 2]? = some (.cells #[.int .i64 0] 35 (0, 0)) ∧ Below w.heap.size w (w4 w s a) := by
  have h1 := heap_new w (.cells #[.int .i64 0, .int .i64 0, .slice none 0 0] 33)
  have z1 : (w.alloc (.cells #[.int .i64 0, .int .i64 0, .slice none 0 0] 33)).heap.size = w.heap.size + 1 := by simp
  have b1 : Below w.heap.size w (w.alloc (.cells #[.int .i64 0, .int .i64 0, .slice none 0 0] 33)) := (Below.refl _ _).alloc (Nat.le_refl _) _
  unfold w4
  generalize w.alloc (.cells #[.int .i64 0, .int .i64 0, .slice none 0 0] 33) = A at h1 z1 b1 ⊢
  have h2 := heap_new A (.cells #[.int .i64 0] 3)
  have z2 : (A.alloc (.cells #[.int .i64 0] 3)).heap.size = w.heap.size + 2 := by simp [z1]
  have k2 := fun b (h : b < w.heap.size + 1) => heap_old A (.cells #[.int .i64 0] 3) (b := b) (by omega)
  have b2 : Below w.heap.size w (A.alloc (.cells #[.int .i64 0] 3)) := b1.alloc (by omega) _
  rw [z1] at h2
  generalize A.alloc (.cells #[.int .i64 0] 3) = B at h2 z2 k2 b2 ⊢
  have h3 := heap_new B (.cells #[.int .i64 0] 35)
  have z3 : (B.alloc (.cells #[.int .i64 0] 35)).heap.size = w.heap.size + 3 := by simp [z2]
  have k3 := fun b (h : b < w.heap.size + 2) => heap_old B (.cells #[.int .i64 0] 35) (b := b) (by omega)
  have b3 : Below w.heap.size w (B.alloc (.cells #[.int .i64 0] 35)) := b2.alloc (by omega) _
  rw [z2] at h3
  generalize B.alloc (.cells #[.int .i64 0] 35) = C at h3 z3 k3 b3 ⊢
  have h4 := heap_new C (.cells #[.string s, .int .i64 a, .int .i64 100] 136)
  have k4 := fun b (h : b < w.heap.size + 3) => heap_old C (.cells #[.string s, .int .i64 a, .int .i64 100] 136) (b := b) (by omega)
  rw [z3] at h4
  exact ⟨h4, (k4 _ (by omega)).trans ((k3 _ (by omega)).trans ((k2 _ (by omega)).trans h1)), (k4 _ (by omega)).trans ((k3 _ (by omega)).trans h2), (k4 _ (by omega)).trans h3, b3.alloc (by omega) _⟩

theorem below_set {B C : Nat} {a w : World} (h : Below B a w) (hC : B ≤ C) (o : Nat) (v : Value) : Below B a (w.setCell ⟨C, o, none⟩ v) := h.setCell hC v
/-- The three results, when a level has been laid into them. -/
theorem get_done {w5 : World} {N : Nat} {a b c d e0 : Value} (g0 : w5.heap[N]? = some (.cells #[a, b, c] 33 (0, 0))) (g1 : w5.heap[N + 1]? = some (.cells #[d] 3 (0, 0))) (g2 : w5.heap[N + 2]? = some (.cells #[e0] 35 (0, 0))) (x y z q e : Value) :
    let W := ((((((((w5.setCell ⟨N, 0, none⟩ x).setCell ⟨N, 1, none⟩ y).setCell ⟨N, 2, none⟩ z).setCell ⟨N, 0, none⟩ x).setCell ⟨N, 1, none⟩ y).setCell ⟨N, 2, none⟩ z).setCell ⟨N + 1, 0, none⟩ q).setCell ⟨N + 2, 0, none⟩ e).drew
    W.heap[N]? = some (.cells #[x, y, z] 33 (0, 0)) ∧ W.heap[N + 1]? = some (.cells #[q] 3 (0, 0)) ∧ W.heap[N + 2]? = some (.cells #[e] 35 (0, 0)) ∧ Below N w5 W ∧ W.heap.size = w5.heap.size ∧ (∀ b, N + 2 < b → W.heap[b]? = w5.heap[b]?) := by
  have e0 := set3 (x' := x) (y' := y) (z' := z) g0
  have k0 : ∀ b', b' ≠ N → (((w5.setCell ⟨N, 0, none⟩ x).setCell ⟨N, 1, none⟩ y).setCell ⟨N, 2, none⟩ z).heap[b']? = w5.heap[b']? := fun b' hb => by
    rw [Below.heap_setCell _ _ _ _ hb, Below.heap_setCell _ _ _ _ hb, Below.heap_setCell _ _ _ _ hb]
  have s0 : (((w5.setCell ⟨N, 0, none⟩ x).setCell ⟨N, 1, none⟩ y).setCell ⟨N, 2, none⟩ z).heap.size = w5.heap.size := by simp
  have b0 : Below N w5 (((w5.setCell ⟨N, 0, none⟩ x).setCell ⟨N, 1, none⟩ y).setCell ⟨N, 2, none⟩ z) := below_set (below_set (below_set (Below.refl N w5) (Nat.le_refl N) 0 x) (Nat.le_refl N) 1 y) (Nat.le_refl N) 2 z
  generalize (((w5.setCell ⟨N, 0, none⟩ x).setCell ⟨N, 1, none⟩ y).setCell ⟨N, 2, none⟩ z) = A at e0 k0 s0 b0 ⊢
  have e1 := set3 (x' := x) (y' := y) (z' := z) e0
  have k1 : ∀ b', b' ≠ N → (((A.setCell ⟨N, 0, none⟩ x).setCell ⟨N, 1, none⟩ y).setCell ⟨N, 2, none⟩ z).heap[b']? = w5.heap[b']? := fun b' hb => by
    rw [Below.heap_setCell _ _ _ _ hb, Below.heap_setCell _ _ _ _ hb, Below.heap_setCell _ _ _ _ hb]; exact k0 b' hb
  have s1 : (((A.setCell ⟨N, 0, none⟩ x).setCell ⟨N, 1, none⟩ y).setCell ⟨N, 2, none⟩ z).heap.size = w5.heap.size := by simp [s0]
  have b1 : Below N w5 (((A.setCell ⟨N, 0, none⟩ x).setCell ⟨N, 1, none⟩ y).setCell ⟨N, 2, none⟩ z) := below_set (below_set (below_set b0 (Nat.le_refl N) 0 x) (Nat.le_refl N) 1 y) (Nat.le_refl N) 2 z
  generalize (((A.setCell ⟨N, 0, none⟩ x).setCell ⟨N, 1, none⟩ y).setCell ⟨N, 2, none⟩ z) = B at e1 k1 s1 b1 ⊢
  have e2 := set1 (x' := q) ((k1 (N + 1) (by omega)).trans g1)
  have k2 : ∀ b', b' ≠ N + 1 → (B.setCell ⟨N + 1, 0, none⟩ q).heap[b']? = B.heap[b']? := fun b' hb => Below.heap_setCell _ _ _ _ hb
  have s2 : (B.setCell ⟨N + 1, 0, none⟩ q).heap.size = w5.heap.size := by simp [s1]
  have b2 : Below N w5 (B.setCell ⟨N + 1, 0, none⟩ q) := below_set b1 (Nat.le_succ N) 0 q
  generalize B.setCell ⟨N + 1, 0, none⟩ q = C at e2 k2 s2 b2 ⊢
  have e3 := set1 (x' := e) ((k2 (N + 2) (by omega)).trans ((k1 (N + 2) (by omega)).trans g2))
  have k3 : ∀ b', b' ≠ N + 2 → (C.setCell ⟨N + 2, 0, none⟩ e).heap[b']? = C.heap[b']? := fun b' hb => Below.heap_setCell _ _ _ _ hb
  exact ⟨(k3 N (by omega)).trans ((k2 N (by omega)).trans e1), (k3 (N + 1) (by omega)).trans e2, e3, (below_set b2 (Nat.le_add_right N 2) 0 e).drew, (by simp [s2]), fun b hb => (k3 b (by omega)).trans ((k2 b (by omega)).trans (k1 b (by omega)))⟩

set_option maxRecDepth 100000 in
set_option maxHeartbeats 2000000 in
theorem lGet_any (s : ByteArray) (a : Nat) (w : World) (hs : s.size ≤ maxLen) (ha : a ≤ s.size) : Calls Try.prog 86 #[.string s, .int .i64 a] w (GetPost (rdL s 12 a 100) w) := by
  have hmf : ∀ (fn : Fn) (first cap : Array Value) (w : World), (Instr.makeFunc fn first cap).run Try.prog w = .ok (.func fn first cap) w := fun _ _ _ _ => rfl
  obtain ⟨hat, g0, g1, g2, hbw⟩ := w4_facts w s a
  have HC : Hid (Calls Try.prog 99 #[.pointer (some ⟨w.heap.size + 3, 0, none⟩), .int .i64 12] (w4 w s a) (LvPost (w.heap.size + 3) s (rdL s 12 a 100) (w4 w s a))) := Lib.hid (llevel_any (w.heap.size + 3) s hs 12 (by omega) a 100 _ hat ha (by omega))
  have HG := Lib.hid (And.intro g0 (And.intro g1 g2))
  have HBW := Lib.hid hbw
  have hz4 := w4_size w s a
  have HZ4 := Lib.hid hz4
  unfold maxLen at hs
  have d0 : decide ((a : Int) < 0) = false := by simp
  have d1 : decide (s.size < a) = false := by simp; omega
  clear hat g0 g1 g2 hbw hz4
  cases hr : rdL s 12 a 100 with
  | no er =>
    rw [hr] at HC
    clear hr
    go_enter_defers Try.func86, Try.ntmps86
    go_wp2_with fail
    refine HC.out.mono ?_
    rintro e w5 h5
    obtain ⟨rfl, hg5⟩ := h5.no
    have HG5 := Lib.hid hg5
    clear h5 hg5
    go_wp2_with fail
    refine leaves_cons (f := 98) (args := #[.pointer (some ⟨w.heap.size, 0, none⟩), .pointer (some ⟨w.heap.size + 1, 0, none⟩), .pointer (some ⟨w.heap.size + 2, 0, none⟩)]) (by simp) (by simp [go_sem]) ?_
    refine (catch_fault w.heap.size er _ _ _ _ _ _ ((Only.block HG5.out (by rw [HZ4.out]; omega) (by omega)).trans HG.out.1) ((Only.block HG5.out (by rw [HZ4.out]; omega) (by omega)).trans HG.out.2.1) ((Only.block HG5.out (by rw [HZ4.out]; omega) (by omega)).trans HG.out.2.2)).mono ?_
    rintro e u' w6 ⟨rfl, rfl, ⟨f0, f1, f2⟩, hb6⟩
    have c0 := cell_at f0 0
    have c1 := cell_at f0 1
    have c2 := cell_at f0 2
    have c3 := cell_at f1 0
    have c4 := cell_at f2 0
    simp at c0 c1 c2 c3 c4
    have HE : Hid (GetPost (.no er) w (.returned (.tuple #[.agg #[.int .i64 0, .int .i64 0, .slice none 0 0], .int .i64 0, .int .i64 er])) w6) := Lib.hid ⟨HBW.out.trans (Below.trans ⟨HG5.out.os, HG5.out.tape, HG5.out.output, HG5.out.size, fun i hi => Only.block HG5.out (by rw [HZ4.out]; omega) (by omega)⟩ hb6), rfl⟩
    simp [Leaves, settle, results, Try.results86, go_sem, c0, c1, c2, c3, c4]
    exact HE.out
  | ok k n F q l =>
    rw [hr] at HC
    clear hr
    go_enter_defers Try.func86, Try.ntmps86
    go_wp2_with fail
    refine HC.out.mono ?_
    rintro e w5 h5
    obtain ⟨x, c, rfl, hs5, hat5, hg5⟩ := h5.ok
    obtain ⟨g0, g1, g2⟩ := HG.out
    have f0 := (Only.block hg5 (by rw [HZ4.out]; omega) (by omega)).trans g0
    have f1 := (Only.block hg5 (by rw [HZ4.out]; omega) (by omega)).trans g1
    have f2 := (Only.block hg5 (by rw [HZ4.out]; omega) (by omega)).trans g2
    have c0 := cell_at f0 0
    have c1 := cell_at f0 1
    have c2 := cell_at f0 2
    have c3 := cell_at f1 0
    have c4 := cell_at f2 0
    obtain ⟨_, c5, _, _, _, _⟩ := hat5.facts
    have z0 := free_of f0
    have z1 := free_of f1
    have z2 := free_of f2
    simp at c0 c1 c2 c3 c4
    have HG5 := Lib.hid hg5
    have HS5 := Lib.hid hs5
    have HD := Lib.hid (get_done f0 f1 f2 (.int .i64 k) (.int .i64 n) (.slice x F.len c) (.int .i64 q) (.int .i64 0))
    clear h5 hg5 hs5 hat5 g0 g1 g2 f0 f1 f2
    go_wp2_with fail
    go_region
    go_wp2_with fail
    obtain ⟨q0, q1, q2, qb, qs, qk⟩ := HD.out
    have HE : Hid (GetPost (.ok k n F q l) w (.returned (.tuple #[.agg #[.int .i64 k, .int .i64 n, .slice x F.len c], .int .i64 q, .int .i64 0])) _) := Lib.hid ⟨HBW.out.trans (Below.trans ⟨HG5.out.os, HG5.out.tape, HG5.out.output, HG5.out.size, fun i hi => Only.block HG5.out (by rw [HZ4.out]; omega) (by omega)⟩ qb), x, c, rfl,
      (HS5.out.keep (fun b hb => qk b (by have := HZ4.out; omega))).weak (fun b hb => ⟨by have := HZ4.out; omega, by have := qs; omega⟩)⟩
    refine leaves_cons (f := 98) (args := #[.pointer (some ⟨w.heap.size, 0, none⟩), .pointer (some ⟨w.heap.size + 1, 0, none⟩), .pointer (some ⟨w.heap.size + 2, 0, none⟩)]) (by simp) (by simp [go_sem]) ?_
    refine (catch_idle _ _ _ _).mono ?_
    rintro e u' w6 ⟨rfl, rfl, rfl⟩
    have y0 := cell_at q0 0
    have y1 := cell_at q0 1
    have y2 := cell_at q0 2
    have y3 := cell_at q1 0
    have y4 := cell_at q2 0
    clear HD qb qs qk q0 q1 q2 c0 c1 c2 c3 c4 c5
    refine ⟨_, ?_, HE.out⟩
    simp at y0 y1 y2 y3 y4
    simp [results, Try.results86, go_sem, y0, y1, y2, y3, y4]
end Go.Proofs.Ythnkoamabfaioaa
