/- The contract of the program's own Get, for terms: what the recursive reader of bytes tells, or its error; nothing that was there changes. No condition but those that stand in each statement. -/
import Derived.Test.YthnkoamabfaioaaZP6
import Derived.Test.YthnkoamabfaioaaUrget
import Derived.Test.YthnkoamabfaioaaLcatch
import Derived.Test.YthnkoamabfaioaaZP4
import Derived.Test.YthnkoamabfaioaaZP0
import Derived.Deep.QuietTactic
import Derived.BigQuiet
import Derived.RegionTactic
import Derived.BigRegion
import Derived.ChangeAlike
import Derived.Deep.RegionWith
import Derived.Deep.RegionHeld3
import Derived.Test.YthnkoamabfaioaaZP1
import Derived.Deep.DeepCutAuto
namespace Go.Proofs.Ythnkoamabfaioaa
open Go.RowKit

theorem set4c {w : World} {b : Nat} {x y z u x' y' z' u' : Value} {t : TypeId} (h : w.heap[b]? = some (.cells #[x, y, z, u] t (0, 0))) : ((((w.setCell ⟨b, 0, none⟩ x').setCell ⟨b, 1, none⟩ y').setCell ⟨b, 2, none⟩ z').setCell ⟨b, 3, none⟩ u').heap[b]? = some (.cells #[x', y', z', u'] t (0, 0)) := by
  simp only [World.setCell, Array.getElem?_modify, if_true, h]; rfl
/-- The three results, as a Term, a place and an error have been laid into them. -/
def Res4 (w : World) (N : Nat) (x y z u q e : Value) : Prop := w.heap[N]? = some (.cells #[x, y, z, u] 29 (0, 0)) ∧ w.heap[N + 1]? = some (.cells #[q] 3 (0, 0)) ∧ w.heap[N + 2]? = some (.cells #[e] 35 (0, 0))
theorem Res4.lay {W : World} {N : Nat} {a b c d f g : Value} (h : Res4 W N a b c d f g) (x y z u q e : Value) :
    Res4 ((((((W.setCell ⟨N, 0, none⟩ x).setCell ⟨N, 1, none⟩ y).setCell ⟨N, 2, none⟩ z).setCell ⟨N, 3, none⟩ u).setCell ⟨N + 1, 0, none⟩ q).setCell ⟨N + 2, 0, none⟩ e) N x y z u q e ∧
    Below N W ((((((W.setCell ⟨N, 0, none⟩ x).setCell ⟨N, 1, none⟩ y).setCell ⟨N, 2, none⟩ z).setCell ⟨N, 3, none⟩ u).setCell ⟨N + 1, 0, none⟩ q).setCell ⟨N + 2, 0, none⟩ e) ∧
    ((((((W.setCell ⟨N, 0, none⟩ x).setCell ⟨N, 1, none⟩ y).setCell ⟨N, 2, none⟩ z).setCell ⟨N, 3, none⟩ u).setCell ⟨N + 1, 0, none⟩ q).setCell ⟨N + 2, 0, none⟩ e).heap.size = W.heap.size ∧
    ∀ i, N + 2 < i → ((((((W.setCell ⟨N, 0, none⟩ x).setCell ⟨N, 1, none⟩ y).setCell ⟨N, 2, none⟩ z).setCell ⟨N, 3, none⟩ u).setCell ⟨N + 1, 0, none⟩ q).setCell ⟨N + 2, 0, none⟩ e).heap[i]? = W.heap[i]? := by
  obtain ⟨g0, g1, g2⟩ := h
  have e0 := set4c (x' := x) (y' := y) (z' := z) (u' := u) g0
  have u0 := set4_only (w := W) N x y z u
  have s0 : ((((W.setCell ⟨N, 0, none⟩ x).setCell ⟨N, 1, none⟩ y).setCell ⟨N, 2, none⟩ z).setCell ⟨N, 3, none⟩ u).heap.size = W.heap.size := by simp
  have b0 : Below N W ((((W.setCell ⟨N, 0, none⟩ x).setCell ⟨N, 1, none⟩ y).setCell ⟨N, 2, none⟩ z).setCell ⟨N, 3, none⟩ u) := below_set (below_set (below_set (below_set (Below.refl N W) (Nat.le_refl N) 0 x) (Nat.le_refl N) 1 y) (Nat.le_refl N) 2 z) (Nat.le_refl N) 3 u
  have k0 : ∀ i, i ≠ N → ((((W.setCell ⟨N, 0, none⟩ x).setCell ⟨N, 1, none⟩ y).setCell ⟨N, 2, none⟩ z).setCell ⟨N, 3, none⟩ u).heap[i]? = W.heap[i]? := fun i hi => by
    rw [Below.heap_setCell _ _ _ _ hi, Below.heap_setCell _ _ _ _ hi, Below.heap_setCell _ _ _ _ hi, Below.heap_setCell _ _ _ _ hi]
  generalize (((W.setCell ⟨N, 0, none⟩ x).setCell ⟨N, 1, none⟩ y).setCell ⟨N, 2, none⟩ z).setCell ⟨N, 3, none⟩ u = A at e0 u0 s0 b0 k0 ⊢
  have e2 := set1 (x' := q) ((k0 (N + 1) (by omega)).trans g1)
  have k2 : ∀ i, i ≠ N + 1 → (A.setCell ⟨N + 1, 0, none⟩ q).heap[i]? = A.heap[i]? := fun i hi => Below.heap_setCell _ _ _ _ hi
  have s2 : (A.setCell ⟨N + 1, 0, none⟩ q).heap.size = W.heap.size := by simp [s0]
  have b2 : Below N W (A.setCell ⟨N + 1, 0, none⟩ q) := below_set b0 (Nat.le_succ N) 0 q
  generalize A.setCell ⟨N + 1, 0, none⟩ q = C at e2 k2 s2 b2 ⊢
  have e3 := set1 (x' := e) ((k2 (N + 2) (by omega)).trans ((k0 (N + 2) (by omega)).trans g2))
  have k3 : ∀ i, i ≠ N + 2 → (C.setCell ⟨N + 2, 0, none⟩ e).heap[i]? = C.heap[i]? := fun i hi => Below.heap_setCell _ _ _ _ hi
  exact ⟨⟨(k3 N (by omega)).trans ((k2 N (by omega)).trans e0), (k3 (N + 1) (by omega)).trans e2, e3⟩, below_set b2 (Nat.le_add_right N 2) 0 e, by simp [s2], fun i hi => (k3 i (by omega)).trans ((k2 i (by omega)).trans (k0 i (by omega)))⟩
theorem Res4.cells {w : World} {N : Nat} {x y z u q e : Value} (h : Res4 w N x y z u q e) : w.cell? ⟨N, 0, none⟩ = some x ∧ w.cell? ⟨N, 1, none⟩ = some y ∧ w.cell? ⟨N, 2, none⟩ = some z ∧ w.cell? ⟨N, 3, none⟩ = some u ∧ w.cell? ⟨N + 1, 0, none⟩ = some q ∧ w.cell? ⟨N + 2, 0, none⟩ = some e ∧
    (∀ o, w.frozen? ⟨N, o, none⟩ = false) ∧ (∀ o, w.frozen? ⟨N + 1, o, none⟩ = false) ∧ (∀ o, w.frozen? ⟨N + 2, o, none⟩ = false) ∧ N + 2 < w.heap.size :=
  ⟨cell_at h.1 0, cell_at h.1 1, cell_at h.1 2, cell_at h.1 3, cell_at h.2.1 0, cell_at h.2.2 0, free_of h.1, free_of h.2.1, free_of h.2.2, lt_of_block h.2.2⟩
theorem Res4.keep {w w' : World} {N : Nat} {x y z u q e : Value} (h : Res4 w N x y z u q e) (hk : ∀ i, N ≤ i → i ≤ N + 2 → w'.heap[i]? = w.heap[i]?) : Res4 w' N x y z u q e :=
  ⟨(hk N (by omega) (by omega)).trans h.1, (hk (N + 1) (by omega) (by omega)).trans h.2.1, (hk (N + 2) (by omega) (by omega)).trans h.2.2⟩

set_option maxRecDepth 100000 in
set_option maxHeartbeats 1000000 in
theorem xGet1_idle (R rm : Nat) (s : ByteArray) (p : Nat) (l : Int) (N : Nat) (w : World) (hat : XrAt w R rm s p l 0) :
    CallsD Try.prog 29 #[.pointer (some ⟨R, 0, none⟩), .pointer (some ⟨N, 0, none⟩), .pointer (some ⟨N + 1, 0, none⟩), .pointer (some ⟨N + 2, 0, none⟩)] .returning w fun e u' w' => u' = .returning ∧ (e = .returned (.tuple #[]) ∧ w' = w) := by
  obtain ⟨c0, c1, c2, c3, c4, fz, hR⟩ := hat.facts
  have d0 : (((0 : Nat) : Int) != 0) = false := rfl
  clear hat
  go_enter_d Try.func29, Try.ntmps29
  go_wp2_with fail
  go_end0
  exact ⟨rfl, rfl⟩
set_option maxRecDepth 100000 in
set_option maxHeartbeats 1000000 in
theorem xGet1_err (R rm : Nat) (s : ByteArray) (p er : Nat) (l : Int) (N : Nat) (w : World) (hat : XrAt w R rm s p l er) (he : er ≠ 0) (hRN : N + 2 < R) {x y z u q e0 : Value} (hr : Res4 w N x y z u q e0) :
    CallsD Try.prog 29 #[.pointer (some ⟨R, 0, none⟩), .pointer (some ⟨N, 0, none⟩), .pointer (some ⟨N + 1, 0, none⟩), .pointer (some ⟨N + 2, 0, none⟩)] .returning w fun e u' w' => u' = .returning ∧ (e = .returned (.tuple #[]) ∧ Res4 w' N (.int .i64 0) (.int .i64 0) (.slice none 0 0) (.slice none 0 0) (.int .i64 0) (.int .i64 er) ∧ Below N w w') := by
  obtain ⟨c0, c1, c2, c3, c4, fz, hR⟩ := hat.facts
  obtain ⟨r0, r1, r2, r3, r4, r5, f0, f1, f2, hN⟩ := hr.cells
  have d0 : ((er : Int) != 0) = true := by rw [bne_iff_ne]; omega
  have HL := Lib.hid (hr.lay (.int .i64 0) (.int .i64 0) (.slice none 0 0) (.slice none 0 0) (.int .i64 0) (.int .i64 er))
  have hn0 : R ≠ N := by omega
  have hn1 : R ≠ N + 1 := by omega
  have hn2 : R ≠ N + 2 := by omega
  clear hat hr
  go_enter_d Try.func29, Try.ntmps29
  go_wp2_with fail
  go_end0
  exact ⟨rfl, HL.out.1, HL.out.2.1⟩

/-- The world in which the reading begins: the three results, the table and the reader. -/
def w5x (w : World) (s : ByteArray) (a : Nat) : World := ((((w.alloc (.cells #[.int .i64 0, .int .i64 0, .slice none 0 0, .slice none 0 0] 29)).alloc (.cells #[.int .i64 0] 3)).alloc (.cells #[.int .i64 0] 35)).alloc (.map xTab 7)).alloc (.cells #[.map (some (w.heap.size + 3)), .string s, .int .i64 a, .int .i64 600, .int .i64 0] 61)
theorem w5x_facts (w : World) (s : ByteArray) (a : Nat) : XrAt (w5x w s a) (w.heap.size + 4) (w.heap.size + 3) s a (600 - ((0 : Nat) : Int)) 0 ∧ Res4 (w5x w s a) w.heap.size (.int .i64 0) (.int .i64 0) (.slice none 0 0) (.slice none 0 0) (.int .i64 0) (.int .i64 0) ∧ Below w.heap.size w (w5x w s a) ∧ (w5x w s a).heap.size = w.heap.size + 5 := by
  have n := five_new w (.cells #[.int .i64 0, .int .i64 0, .slice none 0 0, .slice none 0 0] 29) (.cells #[.int .i64 0] 3) (.cells #[.int .i64 0] 35) (.map xTab 7) (.cells #[.map (some (w.heap.size + 3)), .string s, .int .i64 a, .int .i64 600, .int .i64 0] 61)
  exact ⟨⟨n.2.2.2.2, n.2.2.2.1, by omega⟩, ⟨n.1, n.2.1, n.2.2.1⟩, (((((Below.refl _ _).alloc (Nat.le_refl _) _).alloc (by simp) _).alloc (by simp; omega) _).alloc (by simp; omega) _).alloc (by simp; omega) _, by simp [w5x]⟩

set_option maxRecDepth 100000 in
set_option maxHeartbeats 2000000 in
theorem xGet_any (s : ByteArray) (a : Nat) (w : World) (hs : s.size ≤ maxLen) (ha : a ≤ s.size) : Calls Try.prog 17 #[.string s, .int .i64 a] w (TgPost (rdT s 30 0 a 0) w) := by
  have hmf : ∀ (fn : Fn) (first cap : Array Value) (w : World), (Instr.makeFunc fn first cap).run Try.prog w = .ok (.func fn first cap) w := fun _ _ _ _ => rfl
  obtain ⟨hat, hres, hbw, hz5⟩ := w5x_facts w s a
  have HC : Hid (Calls Try.prog 30 #[.pointer (some ⟨w.heap.size + 4, 0, none⟩), .agg #[.int .i64 0, .int .i64 30]] (w5x w s a) (XtPost (w.heap.size + 4) (w.heap.size + 3) s (rdT s 30 0 a 0) (w5x w s a))) := Lib.hid (xterm_all (w.heap.size + 4) (w.heap.size + 3) s hs 30 0 a 0 _ hat ha (by omega) (by omega))
  have HRES := Lib.hid hres
  have HBW := Lib.hid hbw
  have HZ5 := Lib.hid hz5
  have HRD := Lib.hid (xReads_any (((w.alloc (.cells #[.int .i64 0, .int .i64 0, .slice none 0 0, .slice none 0 0] 29)).alloc (.cells #[.int .i64 0] 3)).alloc (.cells #[.int .i64 0] 35)))
  unfold maxLen at hs
  have d0 : decide ((a : Int) < 0) = false := by simp
  have d1 : decide (s.size < a) = false := by simp; omega
  clear hat hres hbw hz5
  go_enter_defers Try.func17, Try.ntmps17
  go_wp2_with fail
  refine HRD.out.mono ?_
  rintro e w4 ⟨rfl, rfl⟩
  go_wp2_with fail
  refine HC.out.mono ?_
  rintro e w6 ⟨k', n', la, ln, lc, ka, kn, kc, rfl, hg6, hx⟩
  have RES6 := HRES.out.keep (w' := w6) (fun i h1 h2 => Only.block hg6 (by rw [HZ5.out]; omega) (by omega))
  have HB6 : Hid (Below w.heap.size w w6) := Lib.hid (HBW.out.trans ⟨hg6.os, hg6.tape, hg6.output, hg6.size, fun i hi => Only.block hg6 (by rw [HZ5.out]; omega) (by omega)⟩)
  have hz6 := hg6.size
  rw [HZ5.out] at hz6
  obtain ⟨r0, r1, r2, r3, r4, r5, f0, f1, f2, hN⟩ := RES6.cells
  have hset := set4_only (w := w6) w.heap.size (.int .i64 k') (.int .i64 n') (.slice la ln lc) (.slice ka kn kc)
  have HX := Lib.hid (hx.turn (lo' := w.heap.size + 5) hset (by rw [HZ5.out]; omega) (by rw [HZ5.out]; omega) (by omega) (by omega))
  have RES7 : Res4 ((((w6.setCell ⟨w.heap.size, 0, none⟩ (.int .i64 k')).setCell ⟨w.heap.size, 1, none⟩ (.int .i64 n')).setCell ⟨w.heap.size, 2, none⟩ (.slice la ln lc)).setCell ⟨w.heap.size, 3, none⟩ (.slice ka kn kc)) w.heap.size (.int .i64 k') (.int .i64 n') (.slice la ln lc) (.slice ka kn kc) (.int .i64 0) (.int .i64 0) :=
    ⟨set4c RES6.1, (Only.block hset (by omega) (by omega)).trans RES6.2.1, (Only.block hset (by omega) (by omega)).trans RES6.2.2⟩
  have HB7 := Lib.hid (below_set (below_set (below_set (below_set HB6.out (Nat.le_refl _) 0 (.int .i64 k')) (Nat.le_refl _) 1 (.int .i64 n')) (Nat.le_refl _) 2 (.slice la ln lc)) (Nat.le_refl _) 3 (.slice ka kn kc))
  have HRES7 := Lib.hid RES7
  have hz7 := hset.size
  clear hset hx hg6 HB6 RES6 RES7 HC HRD HBW HRES
  go_upto_region 6 with fail
  generalize (((w6.setCell ⟨w.heap.size, 0, none⟩ (.int .i64 k')).setCell ⟨w.heap.size, 1, none⟩ (.int .i64 n')).setCell ⟨w.heap.size, 2, none⟩ (.slice la ln lc)).setCell ⟨w.heap.size, 3, none⟩ (.slice ka kn kc) = w7 at HX HB7 HRES7 hz7 ⊢
  clear r0 r1 r2 r3 r4 r5 f0 f1 f2 hN
  obtain ⟨r0, r1, r2, r3, r4, r5, f0, f1, f2, hN⟩ := HRES7.out.cells
  have hst : ∃ (p6 E6 : Nat) (l6 : Int), XrAt w7 (w.heap.size + 4) (w.heap.size + 3) s p6 l6 E6 ∧ ((rdT s 30 0 a 0 = .no E6 ∧ E6 ≠ 0) ∨ (E6 = 0 ∧ ∃ (k n : Nat) (ls : Fo) (ks : Ft) (m : Nat), rdT s 30 0 a 0 = .ok k n ls ks p6 m ∧ k' = k ∧ n' = n ∧ ln = ls.len ∧ kn = ks.len ∧
      SlIn w7 (fun b => w.heap.size + 5 ≤ b ∧ b < w7.heap.size) ls la lc ∧ TlIn w7 (fun b => w.heap.size + 5 ≤ b ∧ b < w7.heap.size) ks ka kc)) := by
    have h := HX.out
    cases hr : rdT s 30 0 a 0 with
    | no er =>
      rw [hr] at h
      obtain ⟨h0, p', l', h⟩ := h
      exact ⟨p', er, l', h, .inl ⟨rfl, h0⟩⟩
    | ok k n ls ks q m =>
      rw [hr] at h
      obtain ⟨h1, h2, h3, h4, h5, h6, h7, _⟩ := h
      exact ⟨q, 0, _, h7, .inr ⟨rfl, k, n, ls, ks, m, rfl, h1, h2, h3, h4, h5, h6⟩⟩
  obtain ⟨p6, E6, l6, hat7, hway⟩ := hst
  have HWAY := Lib.hid hway
  have HAT7 := Lib.hid hat7
  obtain ⟨c0, c1, c2, c3, c4, fz, hR⟩ := hat7.facts
  have HLAY := Lib.hid (HRES7.out.lay (.int .i64 k') (.int .i64 n') (.slice la ln lc) (.slice ka kn kc) (.int .i64 (p6 : Int)) (.int .i64 0))
  clear c0 c1 c3 c4 hway hat7 HX
  go_region
  go_wp2_with fail
  obtain ⟨hr8, hb8, hs8, hk8⟩ := HLAY.out
  generalize (((((w7.setCell ⟨w.heap.size, 0, none⟩ (.int .i64 k')).setCell ⟨w.heap.size, 1, none⟩ (.int .i64 n')).setCell ⟨w.heap.size, 2, none⟩ (.slice la ln lc)).setCell ⟨w.heap.size, 3, none⟩ (.slice ka kn kc)).setCell ⟨w.heap.size + 1, 0, none⟩ (.int .i64 (p6 : Int))).setCell ⟨w.heap.size + 2, 0, none⟩ (.int .i64 0) = w8 at hr8 hb8 hs8 hk8 ⊢
  have hat8 : XrAt w8.drew (w.heap.size + 4) (w.heap.size + 3) s p6 l6 E6 := (HAT7.out.turn (hk8 _ (by omega)) (hk8 _ (by omega))).drw
  have hr9 : Res4 w8.drew w.heap.size (.int .i64 k') (.int .i64 n') (.slice la ln lc) (.slice ka kn kc) (.int .i64 (p6 : Int)) (.int .i64 0) := hr8
  have hzd : w8.drew.heap.size = w8.heap.size := rfl
  have HB8 : Hid (Below w.heap.size w w8.drew) := Lib.hid (HB7.out.trans hb8).drew
  clear r0 r1 r2 r3 r4 r5 f0 f1 f2 hN c2 fz hR HLAY
  rcases HWAY.out with ⟨hr, he⟩ | ⟨rfl, k, n, ls, ks, m, hr, rfl, rfl, rfl, rfl, hl, hk⟩
  · rw [hr]
    refine leaves_cons (f := 29) (args := #[.pointer (some ⟨w.heap.size + 4, 0, none⟩), .pointer (some ⟨w.heap.size, 0, none⟩), .pointer (some ⟨w.heap.size + 1, 0, none⟩), .pointer (some ⟨w.heap.size + 2, 0, none⟩)]) (by simp) (by simp [go_sem]) ?_
    refine (xGet1_err (w.heap.size + 4) (w.heap.size + 3) s p6 E6 l6 w.heap.size _ hat8 he (by omega) hr9).mono ?_
    rintro e u' w9 ⟨rfl, rfl, h9, hb9⟩
    obtain ⟨y0, y1, y2, y3, y4, y5, _⟩ := h9.cells
    have HE : Hid (TgPost (.no E6) w (.returned (.tuple #[.agg #[.int .i64 0, .int .i64 0, .slice none 0 0, .slice none 0 0], .int .i64 0, .int .i64 E6])) w9) := Lib.hid ⟨HB8.out.trans hb9, rfl⟩
    refine ⟨_, ?_, HE.out⟩
    simp [results, Try.results17, go_sem, y0, y1, y2, y3, y4, y5]
  · rw [hr]
    refine leaves_cons (f := 29) (args := #[.pointer (some ⟨w.heap.size + 4, 0, none⟩), .pointer (some ⟨w.heap.size, 0, none⟩), .pointer (some ⟨w.heap.size + 1, 0, none⟩), .pointer (some ⟨w.heap.size + 2, 0, none⟩)]) (by simp) (by simp [go_sem]) ?_
    refine (xGet1_idle (w.heap.size + 4) (w.heap.size + 3) s p6 l6 w.heap.size _ hat8).mono ?_
    rintro e u' w9 ⟨rfl, rfl, rfl⟩
    obtain ⟨y0, y1, y2, y3, y4, y5, _⟩ := hr9.cells
    have HE : Hid (TgPost (.ok k n ls ks p6 m) w (.returned (.tuple #[.agg #[.int .i64 k, .int .i64 n, .slice la ls.len lc, .slice ka ks.len kc], .int .i64 p6, .int .i64 0])) w8.drew) := Lib.hid ⟨HB8.out, la, lc, ka, kc, rfl,
      ((hl.keep (w' := w8) (fun i hi => hk8 i (by omega))).weak (fun i hi => ⟨by omega, by omega⟩)).drawn, (hk.turn (w' := w8) (fun i hi => hk8 i (by omega)) (fun i hi => ⟨by omega, by omega⟩)).drawn⟩
    refine ⟨_, ?_, HE.out⟩
    simp [results, Try.results17, go_sem, y0, y1, y2, y3, y4, y5]
set_option maxRecDepth 100000 in
set_option maxHeartbeats 1000000 in
theorem xGet_no (s : ByteArray) (a : Int) (w : World) (hs : s.size ≤ maxLen) (ha : a < 0 ∨ (s.size : Int) < a) : Calls Try.prog 17 #[.string s, .int .i64 a] w (TgPost (.no 1) w) := by
  unfold maxLen at hs
  have HE : Hid (TgPost (.no 1) w (.returned (.tuple #[.agg #[.int .i64 0, .int .i64 0, .slice none 0 0, .slice none 0 0], .int .i64 0, .int .i64 1])) (((w.alloc (.cells #[.int .i64 0, .int .i64 0, .slice none 0 0, .slice none 0 0] 29)).alloc (.cells #[.int .i64 0] 3)).alloc (.cells #[.int .i64 1] 35))) := Lib.hid ⟨(((Below.refl _ _).alloc (Nat.le_refl _) _).alloc (by simp) _).alloc (by simp; omega) _, rfl⟩
  rcases ha with ha | ha
  · go_enter_defers Try.func17, Try.ntmps17
    go_wp2_with fail
    refine ⟨_, ?_, HE.out⟩
    simp [results, Try.results17, go_sem]
  · have h0 : ¬ a < 0 := by omega
    go_enter_defers Try.func17, Try.ntmps17
    go_wp2_with fail
    refine ⟨_, ?_, HE.out⟩
    simp [results, Try.results17, go_sem]
theorem xGet_ans (s : ByteArray) (a : Int) (w : World) (hs : s.size ≤ maxLen) : Calls Try.prog 17 #[.string s, .int .i64 a] w (TgPost (ansT s a) w) := by
  unfold ansT
  by_cases h : a < 0 ∨ (s.size : Int) < a
  · rw [if_pos h]; exact xGet_no s a w hs h
  · rw [if_neg h]
    have := xGet_any s a.toNat w hs (by omega)
    rwa [show ((a.toNat : Nat) : Int) = a by omega] at this
end Go.Proofs.Ythnkoamabfaioaa
/- The contract of the checker's fits: it looks at a term alone, and at its levels, by the table of kinds. -/
namespace Go.Proofs.Ythnkoamabfaioaa
open Go.RowKit

theorem run_store_nilFunc' (P : Program) (w : World) (a : Addr) (m : Mode) : (store a .nilFunc m).run P w = stored P w a .nilFunc m := run_store P w a _ m rfl
theorem run_store_func' (P : Program) (w : World) (a : Addr) (m : Mode) (f : Fn) (x y : Array Value) : (store a (.func f x y) m).run P w = stored P w a (.func f x y) m := run_store P w a _ m rfl
attribute [local go_sem] run_store_nilFunc' run_store_func'

/-- The checker's block, whole, and the table that it points to. -/
def TkAt (w : World) (C r : Nat) (p m left : Int) : Prop :=
  w.heap[C]? = some (.cells #[.map (some r), .int .i64 p, .int .i64 m, .int .i64 left] 88 (0, 0)) ∧ TabAt w r ∧ r + 4 < C
theorem TkAt.facts {w : World} {C r : Nat} {p m left : Int} (h : TkAt w C r p m left) :
    w.cell? ⟨C, 0, none⟩ = some (.map (some r)) ∧ w.cell? ⟨C, 1, none⟩ = some (.int .i64 p) ∧ w.cell? ⟨C, 2, none⟩ = some (.int .i64 m) ∧ w.cell? ⟨C, 3, none⟩ = some (.int .i64 left) ∧ w.frozen? ⟨C, 3, none⟩ = false ∧ C < w.heap.size := by
  obtain ⟨h1, _, _⟩ := h
  exact ⟨cell_at h1 0, cell_at h1 1, cell_at h1 2, cell_at h1 3, free_of h1 3, lt_of_block h1⟩
theorem TkAt.below {w w' : World} {C r : Nat} {p m left : Int} (h : TkAt w C r p m left) (hb : Below w.heap.size w w') : TkAt w' C r p m left := by
  have hlt := lt_of_block h.1
  exact ⟨(hb.block C hlt).trans h.1, h.2.1.below hb (by have := h.2.2; omega), h.2.2⟩
theorem TkAt.alloc {w : World} {C r : Nat} {p m left : Int} (h : TkAt w C r p m left) (o : Obj) : TkAt (w.alloc o) C r p m left := h.below ((Below.refl _ _).alloc (Nat.le_refl _) o)
theorem TkAt.set {w : World} {C r : Nat} {p m left : Int} (h : TkAt w C r p m left) (l : Int) : TkAt (w.setCell ⟨C, 3, none⟩ (.int .i64 l)) C r p m l := by
  obtain ⟨h1, h2, h3⟩ := h
  refine ⟨?_, h2.turn (fun b hb1 hb2 => Below.heap_setCell _ _ _ _ (by show b ≠ C; omega)), h3⟩
  simp only [World.setCell, Array.getElem?_modify, if_true, h1]; rfl

theorem quiet_more' {P : Program} {f : FuncId} {args : Array Value} {w : World} {a n : Nat} {v : Value}
    (h : Calls P f args (w.drewN (a + n)) fun e w' => e = .returned v ∧ w' = w.drewN (a + n)) :
    Calls P f args (w.drewN (a + n)) fun e w'' => e = .returned v ∧ ∃ m, w'' = w.drewN (a + m) :=
  h.mono fun _ _ ⟨he, hm⟩ => ⟨he, n, hm⟩

theorem tfits_yes {p m v k n : Int} {ls : Fo} {klen : Nat} (h1 : (klen : Int) = tkids k) (h2 : ¬ n < 0) (h3 : ¬ tlim v k ≤ n) (h4 : ¬ (ls.len : Int) < tlo k) (h5 : ¬ thi k < (ls.len : Int)) : tfitsB p m v k n ls klen = lvB p m ls := by
  unfold tfitsB
  rw [decide_eq_true h1, decide_eq_true (by omega : 0 ≤ n), decide_eq_true (by omega : n < tlim v k), decide_eq_true (by omega : tlo k ≤ (ls.len : Int)), decide_eq_true (by omega : (ls.len : Int) ≤ thi k)]
  rfl
theorem tfits_no {p m v k n : Int} {ls : Fo} {klen : Nat} (h : (klen : Int) ≠ tkids k ∨ n < 0 ∨ tlim v k ≤ n ∨ (ls.len : Int) < tlo k ∨ thi k < (ls.len : Int)) : tfitsB p m v k n ls klen = false := by
  unfold tfitsB
  rcases h with h | h | h | h | h
  · rw [decide_eq_false h]; rfl
  · rw [decide_eq_false (by omega : ¬ 0 ≤ n)]; simp
  · rw [decide_eq_false (by omega : ¬ n < tlim v k)]; simp
  · rw [decide_eq_false (by omega : ¬ tlo k ≤ (ls.len : Int))]; simp
  · rw [decide_eq_false (by omega : ¬ (ls.len : Int) ≤ thi k)]; simp

set_option maxRecDepth 100000 in
set_option maxHeartbeats 2000000 in
theorem tcfits_k (v p m left k n : Int) (la : Option Addr) (ll lc : Nat) (ka : Option Addr) (klen kc C r : Nat) (w : World) (hk : k < 1 ∨ 7 < k) (hat : TkAt w C r p m left) :
    Calls Try.prog 70 #[.pointer (some ⟨C, 0, none⟩), .agg #[.int .i64 k, .int .i64 n, .slice la ll lc, .slice ka klen kc], .int .i64 v] w fun e w' => e = .returned (.bool false) ∧ Below w.heap.size w w' := by
  obtain ⟨c0, c1, c2, c3, fz, hC⟩ := hat.facts
  have hat1 := hat.alloc (.cells #[.int .i64 k, .int .i64 n, .slice la ll lc, .slice ka klen kc] 29)
  have l1 := run_tlook_no (w.alloc (.cells #[.int .i64 k, .int .i64 n, .slice la ll lc, .slice ka klen kc] 29)).drew r hat1.2.1.drew k true hk
  have l2 := fun o => run_tlook_no ((w.alloc (.cells #[.int .i64 k, .int .i64 n, .slice la ll lc, .slice ka klen kc] 29)).alloc o).drew r (hat1.alloc o).2.1.drew k true hk
  simp only [if_true] at l1 l2
  clear hat1 hat
  go_enter Try.func70, Try.ntmps70
  go_wp2_with fail
  go_region
  go_wp2_with fail
  go_quiet (fail)
  go_wp2_with fail
  go_ret
  exact ⟨rfl, Below.draws (((Below.refl _ _).alloc (Nat.le_refl _) _).alloc (by simp) _).drew _⟩

theorem tfHeld {W w' : World} {N C : Nat} {x0 x1 x2 y1 y2 : Value} (h : Hid (Below W.heap.size W w')) (hC : C < N) (hN : N < W.heap.size) (q0 : W.cell? ⟨N, 0, none⟩ = some x0) (q1 : W.cell? ⟨N, 1, none⟩ = some x1) (q2 : W.cell? ⟨N, 2, none⟩ = some x2) (m1 : W.cell? ⟨C, 1, none⟩ = some y1) (m2 : W.cell? ⟨C, 2, none⟩ = some y2) :
    w'.cell? ⟨N, 0, none⟩ = some x0 ∧ w'.cell? ⟨N, 1, none⟩ = some x1 ∧ w'.cell? ⟨N, 2, none⟩ = some x2 ∧ w'.cell? ⟨C, 1, none⟩ = some y1 ∧ w'.cell? ⟨C, 2, none⟩ = some y2 :=
  ⟨(bcell h.out _ _ hN).trans q0, (bcell h.out _ _ hN).trans q1, (bcell h.out _ _ hN).trans q2, (bcell h.out _ _ (by omega)).trans m1, (bcell h.out _ _ (by omega)).trans m2⟩

set_option maxRecDepth 100000 in
set_option maxHeartbeats 4000000 in
theorem tcfits_f (v p m left k n lo hi L : Int) (K g : Nat) (ka' : Option Addr) (res : Bool) (ls : Fo) (la : Option Addr) (lc : Nat) (ka : Option Addr) (klen kc C r B : Nat) (w : World) (hg : g = 53 ∨ g = 54 ∨ g = 55)
    (hl : ∀ W : World, TabAt W r → (Instr.lookup 73 (.map (some r)) (.int .i64 k) true).run Try.prog W = .ok (.tuple #[.agg #[.func (.func g) #[] #[], .int .i64 lo, .int .i64 hi, .slice ka' K K], .bool true]) W)
    (hf : ∀ W : World, Calls Try.prog g #[.int .i64 v] W fun e w' => e = .returned (.int .i64 L) ∧ w' = W) (hat : TkAt w C r p m left) (hB : B ≤ w.heap.size) (hsl : SlIn w (· < B) ls la lc)
    (hres : res = if (klen : Int) = (K : Int) ∧ ¬ n < 0 ∧ ¬ L ≤ n ∧ ¬ (ls.len : Int) < lo ∧ ¬ hi < (ls.len : Int) then lvB p m ls else false) :
    Calls Try.prog 70 #[.pointer (some ⟨C, 0, none⟩), .agg #[.int .i64 k, .int .i64 n, .slice la ls.len lc, .slice ka klen kc], .int .i64 v] w fun e w' => e = .returned (.bool res) ∧ Below w.heap.size w w' := by
  obtain ⟨c0, c1, c2, c3, fz, hC⟩ := hat.facts
  have hat1 := hat.alloc (.cells #[.int .i64 k, .int .i64 n, .slice la ls.len lc, .slice ka klen kc] 29)
  have l1 := hl (w.alloc (.cells #[.int .i64 k, .int .i64 n, .slice la ls.len lc, .slice ka klen kc] 29)).drew hat1.2.1.drew
  have l2 := fun o => hl ((w.alloc (.cells #[.int .i64 k, .int .i64 n, .slice la ls.len lc, .slice ka klen kc] 29)).alloc o).drew (hat1.alloc o).2.1.drew
  have HF := Lib.hid hf
  have hend : Below w.heap.size w ((w.alloc (.cells #[.int .i64 k, .int .i64 n, .slice la ls.len lc, .slice ka klen kc] 29)).alloc (.cells #[.func (.func g) #[] #[], .int .i64 lo, .int .i64 hi, .slice ka' K K] 92)).drew := (((Below.refl _ _).alloc (Nat.le_refl _) _).alloc (by simp) _).drew
  have HE := Lib.hid hend
  have HE0 : Hid (Below w.heap.size w ((w.alloc (.cells #[.int .i64 k, .int .i64 n, .slice la ls.len lc, .slice ka klen kc] 29)).alloc (.cells #[.func (.func g) #[] #[], .int .i64 lo, .int .i64 hi, .slice ka' K K] 92))) := Lib.hid (((Below.refl _ _).alloc (Nat.le_refl _) _).alloc (by simp) _)
  have HSL := Lib.hid hsl
  have HB := Lib.hid hB
  have HAT := Lib.hid hat
  clear hat1 hat hl hf hend hsl hB
  by_cases h1 : (klen : Int) = (K : Int)
  · have d1 : ((klen : Int) != (K : Int)) = false := by rw [h1]; simp
    by_cases h2 : n < 0
    · rw [if_neg (fun h => h.2.1 h2)] at hres
      subst hres
      have d2 : decide (n < 0) = true := decide_eq_true h2
      clear h1 h2
      rcases hg with rfl | rfl | rfl
      all_goals
        go_enter Try.func70, Try.ntmps70
        go_wp2_with fail
        go_region
        go_wp2_with fail
        go_quiet (fail)
        go_wp2_with fail
        go_ret
        exact ⟨rfl, Below.draws HE.out _⟩
    · have d2 : decide (n < 0) = false := decide_eq_false h2
      by_cases h3 : L ≤ n
      · rw [if_neg (fun h => h.2.2.1 h3)] at hres
        subst hres
        have d3 : decide (L ≤ n) = true := decide_eq_true h3
        clear h1 h2 h3
        rcases hg with rfl | rfl | rfl
        all_goals
          go_enter Try.func70, Try.ntmps70
          go_wp2_with fail
          go_region
          go_wp2_with fail
          go_quiet (first | (go_at_call 53; exact quiet_more' (HF.out _)) | (go_at_call 54; exact quiet_more' (HF.out _)) | (go_at_call 55; exact quiet_more' (HF.out _)))
          go_wp2_with fail
          go_ret
          exact ⟨rfl, Below.draws HE.out _⟩
      · have d3 : decide (L ≤ n) = false := decide_eq_false h3
        by_cases h4 : (ls.len : Int) < lo
        · rw [if_neg (fun h => h.2.2.2.1 h4)] at hres
          subst hres
          have d4 : decide ((ls.len : Int) < lo) = true := decide_eq_true h4
          clear h1 h2 h3 h4
          rcases hg with rfl | rfl | rfl
          all_goals
            go_enter Try.func70, Try.ntmps70
            go_wp2_with fail
            go_region
            go_wp2_with fail
            go_quiet (first | (go_at_call 53; exact quiet_more' (HF.out _)) | (go_at_call 54; exact quiet_more' (HF.out _)) | (go_at_call 55; exact quiet_more' (HF.out _)))
            go_wp2_with fail
            go_ret
            exact ⟨rfl, Below.draws HE.out _⟩
        · have d4 : decide ((ls.len : Int) < lo) = false := decide_eq_false h4
          by_cases h5 : hi < (ls.len : Int)
          · rw [if_neg (fun h => h.2.2.2.2 h5)] at hres
            subst hres
            have d5 : decide (hi < (ls.len : Int)) = true := decide_eq_true h5
            clear h1 h2 h3 h4 h5
            rcases hg with rfl | rfl | rfl
            all_goals
              go_enter Try.func70, Try.ntmps70
              go_wp2_with fail
              go_region
              go_wp2_with fail
              go_quiet (first | (go_at_call 53; exact quiet_more' (HF.out _)) | (go_at_call 54; exact quiet_more' (HF.out _)) | (go_at_call 55; exact quiet_more' (HF.out _)))
              go_wp2_with fail
              go_ret
              exact ⟨rfl, Below.draws HE.out _⟩
          · have d5 : decide (hi < (ls.len : Int)) = false := decide_eq_false h5
            rw [if_pos ⟨h1, h2, h3, h4, h5⟩] at hres
            have HR := Lib.hid hres
            clear h1 h2 h3 h4 h5 hres
            have hlen := HSL.out.len
            have hC1 : C < w.heap.size + 1 + 1 := by omega
            rcases hg with rfl | rfl | rfl
            all_goals
              go_enter Try.func70, Try.ntmps70
              go_wp2_with fail
              go_region
              go_wp2_with fail
              go_quiet (first | (go_at_call 53; exact quiet_more' (HF.out _)) | (go_at_call 54; exact quiet_more' (HF.out _)) | (go_at_call 55; exact quiet_more' (HF.out _)))
              go_wp2_with fail
              go_loopw [65] (fun i wr => ∃ (j : Nat) (rr : Fo), i = .int .i64 j ∧ Hid (j + rr.len = ls.len) ∧ Hid (∀ b o, la = some ⟨b, o, none⟩ → FoIn w (· < B) rr b (o + j * 3)) ∧ Hid (lvB p m rr = lvB p m ls) ∧ Hid (Below w.heap.size w wr)) (fun i _ => ls.len - (intOf i).toNat)
              case atStart => exact ⟨0, ls, rfl, Lib.hid (by omega), Lib.hid (by rintro b o rfl; simpa using HSL.out.foIn), Lib.hid rfl, Lib.hid (Below.draws HE0.out _)⟩
              case round =>
                obtain ⟨j, rr, rfl, hj, hin, hall, hw⟩ := hrel
                cases rr with
                | nil =>
                  have hlt : ¬ (j : Int) < (ls.len : Int) := by have := hj.out; simp [Fo.len] at this; omega
                  have d' : decide ((j : Int) < (ls.len : Int)) = false := by simpa using hlt
                  go_wp2_with fail
                  go_ret
                  exact ⟨by rw [HR.out, ← hall.out]; rfl, hw.out⟩
                | cons k' n' ks r' =>
                  have hlt : j < ls.len := by have := hj.out; simp [Fo.len] at this; omega
                  have hlt' : (j : Int) < (ls.len : Int) := by omega
                  obtain ⟨b, o, rfl, hbB, hf0⟩ := HSL.out.some (by omega)
                  have hwB : Below B w wr := hw.out.mono HB.out
                  obtain ⟨e0, e1, ⟨a', cap', e2, hsl'⟩, hrest⟩ := ((hin.out b o rfl).below hwB _ _ _ hbB).first
                  have hatr := HAT.out.below hw.out
                  obtain ⟨g0, g1, g2, g3, gz, gC⟩ := hatr.facts
                  have hBr : B ≤ wr.heap.size := Nat.le_trans HB.out hw.out.size
                  have hnew := heap_new wr (.cells #[.int .i64 k', .int .i64 n', .slice a' ks.len cap'] 33)
                  have q0 := cell_at hnew 0
                  have q1 := cell_at hnew 1
                  have q2 := cell_at hnew 2
                  simp only [List.getElem?_toArray, List.getElem?_cons_zero, List.getElem?_cons_succ] at q0 q1 q2
                  have m1 := ((World.cell?_of_block (a := ⟨C, 1, none⟩) (heap_old wr (.cells #[.int .i64 k', .int .i64 n', .slice a' ks.len cap'] 33) gC))).trans g1
                  have m2 := ((World.cell?_of_block (a := ⟨C, 2, none⟩) (heap_old wr (.cells #[.int .i64 k', .int .i64 n', .slice a' ks.len cap'] 33) gC))).trans g2
                  have hb1 : Below wr.heap.size wr (wr.alloc (.cells #[.int .i64 k', .int .i64 n', .slice a' ks.len cap'] 33)) := (Below.refl _ _).alloc (Nat.le_refl _) _
                  have HB1 := Lib.hid hb1
                  have HC := Lib.hid (Right_any p m k' n' ks a' cap' B ((wr.alloc (.cells #[.int .i64 k', .int .i64 n', .slice a' ks.len cap'] 33)).drew) (hsl'.below ((hb1.mono hBr).drew)) (Nat.le_trans hBr hb1.size))
                  have hHC : Hid (lvB p m (.cons k' n' ks r') = (rightB p m k' n' ks && lvB p m r')) := Lib.hid rfl
                  generalize rightB p m k' n' ks = vv at HC hHC
                  clear hnew hb1 hsl' hf0 g0 g3 gz hatr
                  go_wp2_with fail
                  go_region_held3 (fun w' => w'.cell? ⟨wr.heap.size, 0, none⟩ = some (.int .i64 k') ∧ w'.cell? ⟨wr.heap.size, 1, none⟩ = some (.int .i64 n') ∧ w'.cell? ⟨wr.heap.size, 2, none⟩ = some (.slice a' ks.len cap') ∧ w'.cell? ⟨C, 1, none⟩ = some (.int .i64 p) ∧ w'.cell? ⟨C, 2, none⟩ = some (.int .i64 m))
                    (first | exact ⟨q0, q1, q2, m1, m2⟩ | exact tfHeld (W := (wr.alloc (.cells #[.int .i64 k', .int .i64 n', .slice a' ks.len cap'] 33)).drew) HB2 gC (by simp) q0 q1 q2 m1 m2)
                    (first | (go_at_call 72; refine HC.out.mono ?_; rintro e wN ⟨rfl, hbN⟩; have HB2 := Lib.hid hbN))
                  have hE := Lib.hid (Below.step (hw.out.trans (HB1.out.drew.mono hw.out.size)) hbN (by simp))
                  clear hbN HB1 HB2
                  cases vv with
                  | true =>
                    go_wp2_with fail
                    go_roundw
                    case rel => exact ⟨j + 1, r', by go_num, Lib.hid (by have := hj.out; simp [Fo.len] at this; omega), Lib.hid (by rintro b' o' h; cases h; have := (hin.out b o rfl).2.2.2; rwa [show o + (j + 1) * 3 = o + j * 3 + 3 by omega]), Lib.hid (by rw [← hall.out, hHC.out]; rfl), hE⟩
                    case measure => simp [intOf]; omega
                  | false =>
                    go_wp2_with fail
                    go_ret
                    exact ⟨by rw [HR.out, ← hall.out, hHC.out]; rfl, hE.out⟩
  · rw [if_neg (fun h => h1 h.1)] at hres
    subst hres
    have d1 : ((klen : Int) != (K : Int)) = true := by rw [bne_iff_ne]; exact h1
    clear h1
    rcases hg with rfl | rfl | rfl
    all_goals
      go_enter Try.func70, Try.ntmps70
      go_wp2_with fail
      go_region
      go_wp2_with fail
      go_quiet (fail)
      go_wp2_with fail
      go_ret
      exact ⟨rfl, Below.draws HE.out _⟩

theorem tcfits_any (v p m left k n : Int) (ls : Fo) (la : Option Addr) (lc : Nat) (ka : Option Addr) (klen kc C r B : Nat) (w : World) (hat : TkAt w C r p m left) (hB : B ≤ w.heap.size) (hsl : SlIn w (· < B) ls la lc) :
    Calls Try.prog 70 #[.pointer (some ⟨C, 0, none⟩), .agg #[.int .i64 k, .int .i64 n, .slice la ls.len lc, .slice ka klen kc], .int .i64 v] w fun e w' => e = .returned (.bool (tfitsB p m v k n ls klen)) ∧ Below w.heap.size w w' := by
  rcases tkids_cases k with ⟨h1, h7, h0, _⟩ | ⟨hk, he⟩
  · refine tcfits_f v p m left k n (tlo k) (thi k) (tlim v k) (tkids k).toNat (tFn k) (tAddr r k) _ ls la lc ka klen kc C r B w (by unfold tFn; split <;> (try split) <;> simp) (fun W hW => run_tlook W r hW k true h1 h7) (tFn_any k v) hat hB hsl ?_
    split
    · rename_i h
      obtain ⟨a1, a2, a3, a4, a5⟩ := h
      exact tfits_yes (by omega) a2 a3 a4 a5
    · rename_i h
      refine tfits_no ?_
      omega
  · rw [tfits_no (.inl (by omega))]
    exact tcfits_k v p m left k n la ls.len lc ka klen kc C r w hk hat
end Go.Proofs.Ythnkoamabfaioaa
/- The contract of the checker's way through a term: it counts down, and tells whether every term in it may be; and of right. -/
namespace Go.Proofs.Ythnkoamabfaioaa
open Go.RowKit

/-- What the checker's call answers: whether the term may be; and, if so, what is left stands in its block; nothing else that was there has changed. -/
def TkOk (C r : Nat) (p m : Int) (x : Option Nat) (w : World) (e : Ending) (w' : World) : Prop :=
  e = .returned (.bool x.isSome) ∧ (∃ l : Int, TkAt w' C r p m l ∧ ∀ y : Nat, x = some y → l = y) ∧ w.grownBy w' (some C)
theorem tkHeld {W w' : World} {N C b i : Nat} {x0 x1 x2 x3 y : Value} (h : Hid (W.grownBy w' (some C))) (hN : N < W.heap.size) (hb : b < W.heap.size) (hNC : N ≠ C) (hbC : b ≠ C) (q0 : W.cell? ⟨N, 0, none⟩ = some x0) (q1 : W.cell? ⟨N, 1, none⟩ = some x1) (q2 : W.cell? ⟨N, 2, none⟩ = some x2) (q3 : W.cell? ⟨N, 3, none⟩ = some x3) (m1 : W.cell? ⟨b, i, none⟩ = some y) :
    w'.cell? ⟨N, 0, none⟩ = some x0 ∧ w'.cell? ⟨N, 1, none⟩ = some x1 ∧ w'.cell? ⟨N, 2, none⟩ = some x2 ∧ w'.cell? ⟨N, 3, none⟩ = some x3 ∧ w'.cell? ⟨b, i, none⟩ = some y :=
  ⟨(World.cell?_of_block (a := ⟨N, 0, none⟩) (Only.block h.out hN hNC)).trans q0, (World.cell?_of_block (a := ⟨N, 1, none⟩) (Only.block h.out hN hNC)).trans q1, (World.cell?_of_block (a := ⟨N, 2, none⟩) (Only.block h.out hN hNC)).trans q2, (World.cell?_of_block (a := ⟨N, 3, none⟩) (Only.block h.out hN hNC)).trans q3, (World.cell?_of_block (a := ⟨b, i, none⟩) (Only.block h.out hb hbC)).trans m1⟩
theorem ctAll_nil_of (p m : Int) {f : Ft} (h : f.len = 0) (k0 : Int) (i : Nat) (v : Int) (d left : Nat) : ctAll p m f k0 i v d left = some left := by rw [Ft.len_zero h]; rfl

set_option maxRecDepth 100000 in
set_option maxHeartbeats 4000000 in
theorem tcright_any (p m : Int) (s : Nat) : ∀ (f : Ft), f.size < s → ∀ (k n v : Int) (ls : Fo) (d left : Nat) (la ka : Option Addr) (lc kc B C r : Nat) (w : World), SlIn w (· < B) ls la lc → TlIn w (· < B) f ka kc → B ≤ C → d ≤ 30 → left ≤ 600 → 0 ≤ v → v + d ≤ 2000 → TkAt w C r p m left →
    Calls Try.prog 52 #[.pointer (some ⟨C, 0, none⟩), .agg #[.int .i64 k, .int .i64 n, .slice la ls.len lc, .slice ka f.len kc], .int .i64 v, .int .i64 d] w (TkOk C r p m (ctOne p m v k n ls f d left) w) := by
  induction s with
  | zero => intro f hs; omega
  | succ s ih =>
    intro f hs k n v ls d left la ka lc kc B C r w hls hsl hB hd hleft hv0 hvd hat
    have IH := Lib.hid ih
    clear ih
    have hlen := hsl.len
    obtain ⟨c0, c1, c2, c3, f3, hC⟩ := hat.facts
    by_cases h1 : d = 0
    · rw [ctOne_no (.inl h1)]
      subst h1
      go_enter Try.func52, Try.ntmps52
      go_wp2_with fail
      go_ret
      exact ⟨rfl, ⟨_, hat.alloc _, fun y hy => by cases hy⟩, Only.alloc _ _ _⟩
    · have d1 : ((d : Int) == 0) = false := beq_eq_false_iff_ne.2 (by omega)
      by_cases h2 : left = 0
      · rw [ctOne_no (.inr (.inl h2))]
        have d2 : ((left : Int) == 0) = true := beq_iff_eq.2 (by omega)
        go_enter Try.func52, Try.ntmps52
        go_wp2_with fail
        go_ret
        exact ⟨rfl, ⟨_, hat.alloc _, fun y hy => by cases hy⟩, Only.alloc _ _ _⟩
      · have d2 : ((left : Int) == 0) = false := beq_eq_false_iff_ne.2 (by omega)
        have hb0 : Below w.heap.size w (w.alloc (.cells #[.int .i64 k, .int .i64 n, .slice la ls.len lc, .slice ka f.len kc] 29)) := (Below.refl _ _).alloc (Nat.le_refl _) _
        have HF := Lib.hid (tcfits_any v p m left k n ls la lc ka f.len kc C r B (w.alloc (.cells #[.int .i64 k, .int .i64 n, .slice la ls.len lc, .slice ka f.len kc] 29)) (hat.alloc _) (by simp; omega) (hls.below (hb0.mono (by omega))))
        have HV : Hid (∀ x, tfitsB p m v k n ls f.len = x → ctOne p m v k n ls f d left = if x then ctAll p m f k 0 v (d - 1) (left - 1) else none) := Lib.hid (fun x hx => by
          unfold ctOne; rw [hx]; cases x <;> simp [h1, h2])
        have HT : Hid (tfitsB p m v k n ls f.len = true → (f.len : Int) = tkids k) := Lib.hid tfits_len
        generalize tfitsB p m v k n ls f.len = x at HF HV HT
        have HV' := Lib.hid (HV.out x rfl)
        clear HV hb0
        cases x with
        | false =>
          rw [HV'.out]
          go_enter Try.func52, Try.ntmps52
          go_wp2_with fail
          refine HF.out.mono ?_
          rintro e w1 ⟨rfl, hb1⟩
          go_wp2_with fail
          go_ret
          exact ⟨rfl, ⟨_, (hat.alloc _).below hb1, fun y hy => by cases hy⟩, Only.after (Only.alloc _ _ _) (Only.below _ hb1)⟩
        | true =>
          have hk : 1 ≤ k ∧ k ≤ 7 ∧ (tkids k).toNat = f.len := by have := tkids_cases k; have := HT.out rfl; omega
          obtain ⟨hk1, hk7, hkn⟩ := hk
          have hK := HT
          clear HT
          go_enter Try.func52, Try.ntmps52
          go_wp2_with fail
          refine HF.out.mono ?_
          rintro e w1 ⟨rfl, hb1⟩
          have hat1 := (hat.alloc (.cells #[.int .i64 k, .int .i64 n, .slice la ls.len lc, .slice ka f.len kc] 29)).below hb1
          obtain ⟨g0, g1, g2, g3, fz, gC⟩ := hat1.facts
          have hb1' : Below (w.heap.size + 1) (w.alloc (.cells #[.int .i64 k, .int .i64 n, .slice la ls.len lc, .slice ka f.len kc] 29)) w1 := by simpa using hb1
          have b0 := bcell hb1' w.heap.size 0 (by omega)
          have b3 := bcell hb1' w.heap.size 3 (by omega)
          simp at b0 b3
          have hCn : C ≠ w.heap.size := by omega
          have hat2 := hat1.set ((left : Int) - 1)
          have hlook := run_tlook (w1.setCell ⟨C, 3, none⟩ (.int .i64 ((left : Int) - 1))).drew r hat2.2.1.drew k false hk1 hk7
          simp only [tRow, tRw, hkn] at hlook
          have hlook' : (Instr.lookup 73 (.map (some r)) (.int .i64 k) false).run Try.prog (w1.setCell ⟨C, 3, none⟩ (.int .i64 ((left : Int) - 1))).drew = .ok (.agg #[.func (.func (tFn k)) #[] #[], .int .i64 (tlo k), .int .i64 (thi k), .slice (tAddr r k) f.len f.len]) (w1.setCell ⟨C, 3, none⟩ (.int .i64 ((left : Int) - 1))).drew := hlook
          clear hlook hkn
          have fd := run_tfield3
          have HG0 : Hid (w.grownBy (w1.setCell ⟨C, 3, none⟩ (.int .i64 ((left : Int) - 1))) (some C)) := Lib.hid (Only.after (Only.after (Only.alloc _ _ _) (Only.below _ hb1)) (Only.set _ _ _ _))
          have HA2 := Lib.hid hat2
          clear hat2 hat1 hb1 hb1'
          go_wp2_with fail
          go_region
          go_wp2_with fail
          go_loopw [46] (fun i wr => ∃ (j : Nat) (rr : Ft) (q : Nat), i = .int .i64 j ∧ q ≤ 600 ∧ Hid (j + rr.len = f.len) ∧ Hid (rr.size ≤ f.size) ∧
              Hid (∀ b o, ka = some ⟨b, o, none⟩ → FtIn w (· < B) rr b (o + j * 4)) ∧ Hid (ctAll p m rr k j v (d - 1) q = ctAll p m f k 0 v (d - 1) (left - 1)) ∧ Hid (TkAt wr C r p m q) ∧ Hid (w.grownBy wr (some C)))
            (fun i _ => f.len - (intOf i).toNat)
          case atStart => exact ⟨0, f, left - 1, rfl, by omega, Lib.hid (by omega), Lib.hid (Nat.le_refl _), Lib.hid (by rintro b o rfl; simpa using hsl.ftIn), Lib.hid rfl, Lib.hid (by rw [show ((left - 1 : Nat) : Int) = (left : Int) - 1 by omega]; exact HA2.out.below (Below.refl _ _).drew), Lib.hid (Only.draws HG0.out 1)⟩
          case round =>
            obtain ⟨j, rr, q, rfl, hq, hj, hrs, hin, hall, hatr, hgr⟩ := hrel
            cases rr with
            | nil =>
              have hlt : ¬ (j : Int) < (f.len : Int) := by have := hj.out; simp [Ft.len] at this; omega
              have d' : decide ((j : Int) < (f.len : Int)) = false := by simpa using hlt
              go_wp2_with fail
              go_ret
              have hx : ctOne p m v k n ls f d left = some q := by rw [HV'.out, if_pos trivial, ← hall.out]; rfl
              rw [hx]
              exact ⟨rfl, ⟨_, hatr.out, fun y hy => by cases hy; rfl⟩, hgr.out⟩
            | cons k' n' ls' ks r' =>
              have hlt : j < f.len := by have := hj.out; simp [Ft.len] at this; omega
              have hlt' : (j : Int) < (f.len : Int) := by omega
              obtain ⟨b, o, rfl, hbB, hf0⟩ := hsl.some (by omega)
              obtain ⟨e0, e1, ⟨la', lc', e2, hls'⟩, ⟨ka', kc', e3, hsl'⟩, hrest⟩ := ((hin.out b o rfl).only hgr.out hB (by omega) hbB).first
              have hks : ks.size < s := by have := hrs.out; simp [Ft.size] at this; omega
              have HC := Lib.hid (ctAll_cons p m k' n' ls' ks r' k j v (d - 1) q)
              obtain ⟨bb, hbb, hb1, hb2, hb3⟩ := hatr.out.2.1.own (k := k) (i := j) (by have := hK.out trivial; omega)
              have hrC := hatr.out.2.2
              obtain ⟨_, _, _, _, _, hCr⟩ := hatr.out.facts
              have hnew := heap_new wr (.cells #[.int .i64 k', .int .i64 n', .slice la' ls'.len lc', .slice ka' ks.len kc'] 29)
              obtain ⟨q0, q1, q2, q3⟩ := cells4 hnew
              have m1 := (World.cell?_of_block (a := ⟨bb, j, none⟩) (heap_old wr (.cells #[.int .i64 k', .int .i64 n', .slice la' ls'.len lc', .slice ka' ks.len kc'] 29) (by omega : bb < wr.heap.size))).trans hb3
              have hbind : 0 ≤ bindK k j ∧ bindK k j ≤ 1 := by unfold bindK; split <;> omega
              have hcl := Lib.hid (ctOne_le p m (v + bindK k j) k' n' ls' ks (d - 1) q)
              have HCL := Lib.hid (IH.out ks hks k' n' (v + bindK k j) ls' (d - 1) q la' ka' lc' kc' B C r (wr.alloc (.cells #[.int .i64 k', .int .i64 n', .slice la' ls'.len lc', .slice ka' ks.len kc'] 29)).drew ((hls'.only (Only.alloc _ C _) hB (by omega)).below (Below.refl _ _).drew) ((hsl'.only (Only.alloc _ C _) hB (by omega)).below (Below.refl _ _).drew) hB (by omega) hq (by omega) (by omega) ((hatr.out.alloc _).below (Below.refl _ _).drew))
              have HW1 : Hid (IntKind.i64.wrap (v + bindK k j) = v + bindK k j) := Lib.hid (IntWalk.i64_in _ (by omega))
              have HW2 : Hid (IntKind.i64.wrap ((d : Int) - 1) = ((d - 1 : Nat) : Int)) := Lib.hid (by rw [IntWalk.i64_in _ (by omega)]; omega)
              generalize ctOne p m (v + bindK k j) k' n' ls' ks (d - 1) q = x at HC HCL hcl
              have HGR := Lib.hid (Only.draws (Only.after hgr.out (Only.alloc wr C (.cells #[.int .i64 k', .int .i64 n', .slice la' ls'.len lc', .slice ka' ks.len kc'] 29))) 1)
              rw [hbb]
              have hsz : wr.heap.size ≠ C := by omega
              have hbC : bb ≠ C := by omega
              have hbw : bb < wr.heap.size + 1 := by omega
              clear hnew hb3 hls' hsl' hf0 hrest hatr hK c0 c1 c2 c3 f3 g0 g1 g2 g3 fz b0 hlook' fd HA2 hbind hb1 hb2 hrC
              go_wp2_with fail
              go_region_held3 (fun w' => w'.cell? ⟨wr.heap.size, 0, none⟩ = some (.int .i64 k') ∧ w'.cell? ⟨wr.heap.size, 1, none⟩ = some (.int .i64 n') ∧ w'.cell? ⟨wr.heap.size, 2, none⟩ = some (.slice la' ls'.len lc') ∧ w'.cell? ⟨wr.heap.size, 3, none⟩ = some (.slice ka' ks.len kc') ∧ w'.cell? ⟨bb, j, none⟩ = some (.int .i64 (bindK k j)))
                (first | exact ⟨q0, q1, q2, q3, m1⟩ | exact tkHeld (W := (wr.alloc (.cells #[.int .i64 k', .int .i64 n', .slice la' ls'.len lc', .slice ka' ks.len kc'] 29)).drew) HB2 (by simp) (by simpa using hbw) hsz hbC q0 q1 q2 q3 m1)
                (first | (go_at_call 52; rw [HW1.out, HW2.out]; refine HCL.out.mono ?_; rintro e wN ⟨he, ⟨l, hat2, hl⟩, hg2⟩; subst he; have HB2 := Lib.hid hg2; have HAT := Lib.hid hat2; have HL := Lib.hid hl; clear hat2 hl hg2))
              have hg' := Lib.hid (Only.after HGR.out HB2.out)
              clear q0 q1 q2 q3 m1 HCL HW1 HW2
              cases x with
              | none =>
                go_wp2_with fail
                go_ret
                have hx : ctOne p m v k n ls f d left = none := by rw [HV'.out, if_pos trivial, ← hall.out, HC.out]
                rw [hx]
                exact ⟨rfl, ⟨_, HAT.out, fun y hy => by cases hy⟩, hg'.out⟩
              | some x =>
                have hx := hcl.out x rfl
                have hlx := HL.out x rfl
                subst hlx
                clear HL
                go_wp2_with fail
                go_roundw
                case rel => exact ⟨j + 1, r', x, by go_num, by omega, Lib.hid (by have := hj.out; simp [Ft.len] at this; omega), Lib.hid (by have := hrs.out; simp [Ft.size] at this; omega), Lib.hid (by rintro b' o' h; cases h; have := (hin.out b o rfl).2.2.2.2; rwa [show o + (j + 1) * 4 = o + j * 4 + 4 by omega]), Lib.hid (by rw [← hall.out, HC.out]), HAT, hg'⟩
                case measure => simp [intOf]; omega
end Go.Proofs.Ythnkoamabfaioaa
/- The contracts of right, wellFormed and Right: whether a term is right. No condition but that the term lies in memory. -/
namespace Go.Proofs.Ythnkoamabfaioaa
open Go.RowKit

set_option maxRecDepth 100000 in
set_option maxHeartbeats 4000000 in
theorem tright_any (p m v k n : Int) (ls : Fo) (f : Ft) (la ka : Option Addr) (lc kc B r : Nat) (w : World) (hls : SlIn w (· < B) ls la lc) (hsl : TlIn w (· < B) f ka kc) (hB : B ≤ w.heap.size) (hm : TabAt w r) :
    Calls Try.prog 35 #[.map (some r), .agg #[.int .i64 k, .int .i64 n, .slice la ls.len lc, .slice ka f.len kc], .int .i64 v, .int .i64 p, .int .i64 m] w fun e w' => e = .returned (.bool (tRightB p m v k n ls f)) ∧ Below w.heap.size w w' := by
  have hr := hm.lt
  have HM := Lib.hid hm
  clear hm
  by_cases h1 : v < 0
  · rw [tRightB_out k n ls f (by omega)]
    go_enter Try.func35, Try.ntmps35
    go_wp2_with fail
    go_ret
    exact ⟨rfl, (Below.refl _ _).alloc (Nat.le_refl _) _⟩
  · by_cases h2 : 1000 < v
    · rw [tRightB_out k n ls f (by omega)]
      go_enter Try.func35, Try.ntmps35
      go_wp2_with fail
      go_ret
      exact ⟨rfl, (Below.refl _ _).alloc (Nat.le_refl _) _⟩
    · by_cases h3 : p < 0
      · rw [tRightB_out k n ls f (by omega)]
        go_enter Try.func35, Try.ntmps35
        go_wp2_with fail
        go_ret
        exact ⟨rfl, (Below.refl _ _).alloc (Nat.le_refl _) _⟩
      · by_cases h4 : 5 < p
        · rw [tRightB_out k n ls f (by omega)]
          go_enter Try.func35, Try.ntmps35
          go_wp2_with fail
          go_ret
          exact ⟨rfl, (Below.refl _ _).alloc (Nat.le_refl _) _⟩
        · by_cases h5 : m < 0
          · rw [tRightB_out k n ls f (by omega)]
            go_enter Try.func35, Try.ntmps35
            go_wp2_with fail
            go_ret
            exact ⟨rfl, (Below.refl _ _).alloc (Nat.le_refl _) _⟩
          · by_cases h6 : 10 < m
            · rw [tRightB_out k n ls f (by omega)]
              go_enter Try.func35, Try.ntmps35
              go_wp2_with fail
              go_ret
              exact ⟨rfl, (Below.refl _ _).alloc (Nat.le_refl _) _⟩
            · rw [tRightB_c k n ls f (by omega)]
              go_enter Try.func35, Try.ntmps35
              go_wp2_with fail
              have hb : Below w.heap.size w ((w.alloc (.cells #[.int .i64 k, .int .i64 n, .slice la ls.len lc, .slice ka f.len kc] 29)).alloc (.cells #[.map (some r), .int .i64 p, .int .i64 m, .int .i64 600] 88)) := ((Below.refl _ _).alloc (Nat.le_refl _) _).alloc (by simp) _
              have hat : TkAt ((w.alloc (.cells #[.int .i64 k, .int .i64 n, .slice la ls.len lc, .slice ka f.len kc] 29)).alloc (.cells #[.map (some r), .int .i64 p, .int .i64 m, .int .i64 600] 88)) (w.heap.size + 1) r p m ((600 : Nat) : Int) :=
                ⟨by have := heap_new (w.alloc (.cells #[.int .i64 k, .int .i64 n, .slice la ls.len lc, .slice ka f.len kc] 29)) (.cells #[.map (some r), .int .i64 p, .int .i64 m, .int .i64 600] 88); simpa using this, HM.out.below hb hr, by omega⟩
              refine (tcright_any p m (f.size + 1) f (Nat.lt_succ_self _) k n v ls 30 600 la ka lc kc B (w.heap.size + 1) r _ (hls.below (hb.mono hB)) (hsl.below (hb.mono hB)) (by omega) (by omega) (by omega) (by omega) (by omega) hat).mono ?_
              rintro e w2 ⟨rfl, _, hg⟩
              have hg' := Lib.hid hg
              go_wp2_with fail
              go_ret
              exact ⟨rfl, ((hb.trans (Below.mk hg.os hg.tape hg.output hg.size (fun i hi => Only.block hg (by simp; omega) (by omega)))))⟩
theorem tRHeld {B : Nat} {W w' : World} {N : Nat} {x0 x1 x2 x3 : Value} (h : Below B W w') (hN : N < B) (q0 : W.cell? ⟨N, 0, none⟩ = some x0) (q1 : W.cell? ⟨N, 1, none⟩ = some x1) (q2 : W.cell? ⟨N, 2, none⟩ = some x2) (q3 : W.cell? ⟨N, 3, none⟩ = some x3) :
    Hid (Below B W w') ∧ w'.cell? ⟨N, 0, none⟩ = some x0 ∧ w'.cell? ⟨N, 1, none⟩ = some x1 ∧ w'.cell? ⟨N, 2, none⟩ = some x2 ∧ w'.cell? ⟨N, 3, none⟩ = some x3 :=
  ⟨Lib.hid h, (bcell h _ _ hN).trans q0, (bcell h _ _ hN).trans q1, (bcell h _ _ hN).trans q2, (bcell h _ _ hN).trans q3⟩

set_option maxRecDepth 100000 in
set_option maxHeartbeats 2000000 in
theorem tRight_any (p m v k n : Int) (ls : Fo) (f : Ft) (la ka : Option Addr) (lc kc B : Nat) (w : World) (hls : SlIn w (· < B) ls la lc) (hsl : TlIn w (· < B) f ka kc) (hB : B ≤ w.heap.size) :
    Calls Try.prog 24 #[.agg #[.int .i64 k, .int .i64 n, .slice la ls.len lc, .slice ka f.len kc], .int .i64 v, .int .i64 p, .int .i64 m] w fun e w' => e = .returned (.bool (tRightB p m v k n ls f)) ∧ Below w.heap.size w w' := by
  have HR : Hid (∀ (W : World) (r : Nat), Below w.heap.size w W → TabAt W r → Calls Try.prog 35 #[.map (some r), .agg #[.int .i64 k, .int .i64 n, .slice la ls.len lc, .slice ka f.len kc], .int .i64 v, .int .i64 p, .int .i64 m] W fun e w' => e = .returned (.bool (tRightB p m v k n ls f)) ∧ Below W.heap.size W w') := Lib.hid (by
    intro W r h h2
    exact tright_any p m v k n ls f la ka lc kc B r W (hls.below (h.mono hB)) (hsl.below (h.mono hB)) (Nat.le_trans hB h.size) h2)
  generalize tRightB p m v k n ls f = x at HR
  have hb : Below w.heap.size w (w.alloc (.cells #[.int .i64 k, .int .i64 n, .slice la ls.len lc, .slice ka f.len kc] 29)).drew := ((Below.refl _ _).alloc (Nat.le_refl _) _).drew
  have hnew := heap_new w (.cells #[.int .i64 k, .int .i64 n, .slice la ls.len lc, .slice ka f.len kc] 29)
  obtain ⟨q0, q1, q2, q3⟩ := cells4 hnew
  have HB := Lib.hid hb
  clear hls hsl hnew hb
  go_enter Try.func24, Try.ntmps24
  go_wp2_with fail
  go_region_held3 (fun w' => Hid (Below (w.heap.size + 1) (w.alloc (.cells #[.int .i64 k, .int .i64 n, .slice la ls.len lc, .slice ka f.len kc] 29)).drew w') ∧ w'.cell? ⟨w.heap.size, 0, none⟩ = some (.int .i64 k) ∧ w'.cell? ⟨w.heap.size, 1, none⟩ = some (.int .i64 n) ∧ w'.cell? ⟨w.heap.size, 2, none⟩ = some (.slice la ls.len lc) ∧ w'.cell? ⟨w.heap.size, 3, none⟩ = some (.slice ka f.len kc))
    (first | exact ⟨Lib.hid (Below.refl _ _), q0, q1, q2, q3⟩ | (go_split_ands; exact tRHeld (Below.step (Hid.out (by assumption)) hbN (by simp)) (Nat.lt_succ_self _) q0 q1 q2 q3))
    (first | (go_at_call 36; go_split_ands; refine (tkinds_any _).mono ?_; rintro e wN ⟨rfl, hT, hbN⟩; have HT : Hid (TabAt wN (w.heap.size + 1)) := Lib.hid (by simpa using hT); clear hT) | (go_at_call 35; go_split_ands; refine (HR.out wN (w.heap.size + 1) (HB.out.trans (Below.mono (Hid.out (by assumption)) (Nat.le_succ _))) HT.out).mono ?_; rintro e wN ⟨rfl, hbN⟩))
  all_goals go_split_ands
  all_goals have hEE := Lib.hid (HB.out.trans (Below.mono (Hid.out (by assumption : Hid (Below (w.heap.size + 1) (w.alloc (.cells #[.int .i64 k, .int .i64 n, .slice la ls.len lc, .slice ka f.len kc] 29)).drew wN))) (Nat.le_succ _)))
  all_goals go_wp2_with fail
  all_goals go_ret
  all_goals exact ⟨rfl, hEE.out⟩
end Go.Proofs.Ythnkoamabfaioaa
/- The contracts of the program's own Put, for terms, and of what it calls: a term's bytes behind those that are there already; a right term's bytes, or the refusal. No condition but those that stand in each statement. -/

namespace Go.Proofs.Ythnkoamabfaioaa
open Go.RowKit

theorem ApOk.chain {w w1 w2 : World} {base : Nat} {v v1 : Value} {pre l m : List Int} {e : Ending} (h : ApOk w base v pre l (.returned v1) w1) (k : ApOk w1 base v1 (pre ++ l) m e w2) : ApOk w base v pre (l ++ m) e w2 := by
  obtain ⟨v', e1, g1, g2, g3⟩ := h
  injection e1 with e1
  subst e1
  obtain ⟨v2, rfl, k1, k2, k3⟩ := k
  exact ⟨v2, rfl, by rw [← List.append_assoc]; exact k1, grown_trans g2 g3 k2, Near.trans g3 g2.size k3⟩
theorem ApOk.shift {w w' : World} {base : Nat} {v : Value} {pre h l : List Int} {e : Ending} (k : ApOk w base v (pre ++ h) l e w') : ApOk w base v pre (h ++ l) e w' := by
  obtain ⟨v', rfl, g1, g2, g3⟩ := k
  exact ⟨v', rfl, by rw [← List.append_assoc]; exact g1, g2, g3⟩
theorem ApOk.unalloc {w w' : World} {o : Obj} {base : Nat} {v : Value} {pre l : List Int} {e : Ending} (h : ApOk (w.alloc o) base v pre l e w') : ApOk w base v pre l e w' := by
  obtain ⟨v', rfl, g1, g2, g3⟩ := h
  exact ⟨v', rfl, g1, grown_alloc g2, g3.alloc⟩

set_option maxRecDepth 100000 in
set_option maxHeartbeats 1000000 in
theorem xNum_any (N : Nat) (hN : N ≤ 1099511627776) (base : Nat) (v : Value) (pre : List Int) (w : World) (hown : w.ownsRow base 5 1 v pre.length (u8s pre)) (hbase : base ≤ w.heap.size) (hl : pre.length ≤ 1000000) :
    Calls Try.prog 37 #[v, .int .i64 N] w (ApOk w base v pre (enc N)) := by
  go_enter Try.func37, Try.ntmps37
  go_wp2_with fail
  refine (put_any N hN _).mono ?_
  rintro e w1 ⟨rfl, hb1⟩
  have hsz := enc_len6 hN
  obtain ⟨v', w2, hr, h2, h3, h4⟩ := append_str 24 (owns_kept hown hb1) (strOfNums (enc N)) (by rw [strOfNums_size]; omega) (Nat.le_trans hbase hb1.size)
  have HR := Lib.hid hr
  rw [strOfNums_size, strCells_nums (enc_in N), ← u8s_append, ← List.length_append] at h2
  have HE : Hid (ApOk w base v pre (enc N) (.returned v') w2) := Lib.hid ⟨v', rfl, h2, grown_after (grown_below hb1) h3, by
    rcases h4 with h4 | h4
    · exact .inl h4
    · exact .inr (fun k hk => Nat.le_trans hb1.size (h4 k hk))⟩
  clear hr h2 h3 h4
  go_wp2_with (at_builtin; refine wpList_append2_run (by rfl) _ _ _ _ (by rfl) (by rfl) (by rfl) HR.out ?_)
  go_ret
  exact HE.out
theorem xNum_int (k : Int) (h0 : 0 ≤ k) (h1 : k ≤ 100000) (base : Nat) (v : Value) (pre : List Int) (w : World) (hown : w.ownsRow base 5 1 v pre.length (u8s pre)) (hbase : base ≤ w.heap.size) (hl : pre.length ≤ 1000000) :
    Calls Try.prog 37 #[v, .int .i64 k] w (ApOk w base v pre (enc k.toNat)) := by
  have := xNum_any k.toNat (by omega) base v pre w hown hbase hl
  rwa [show ((k.toNat : Nat) : Int) = k by omega] at this

theorem encF_in : ∀ F : Fo, InU8 (encF F)
  | .nil => by intro x hx; cases hx
  | .cons k n ks r => by
    intro x hx
    simp only [encF, List.mem_append] at hx
    have hh : ∀ y ∈ encH k n, 0 ≤ y ∧ y < 256 := by
      intro y hy
      unfold encH at hy
      rcases List.mem_append.1 hy with hy | hy
      · exact enc_in _ y hy
      · split at hy
        · exact enc_in _ y hy
        · cases hy
    rcases hx with (hx | hx) | hx
    · exact hh x hx
    · exact encF_in ks x hx
    · exact encF_in r x hx
theorem encL_in (k n : Int) (F : Fo) : InU8 (encL k n F) := by
  intro x hx
  have := encF_in (.cons k n F .nil) x (by rw [encF_one]; exact hx)
  exact this

set_option maxRecDepth 100000 in
set_option maxHeartbeats 1000000 in
theorem xLev_any (k n : Int) (F : Fo) (x : Option Addr) (c B base : Nat) (v : Value) (pre : List Int) (w : World) (hsl : SlIn w (· < B) F x c) (hB : B ≤ w.heap.size) (hown : w.ownsRow base 5 1 v pre.length (u8s pre)) (hbase : base ≤ w.heap.size)
    (hr : rightB 5 10 k n F = true) (hl : pre.length ≤ 1000000) :
    Calls Try.prog 38 #[v, .agg #[.int .i64 k, .int .i64 n, .slice x F.len c]] w (ApOk w base v pre (encL k n F)) := by
  have hbx : Below w.heap.size w (w.alloc (.cells #[.int .i64 k, .int .i64 n, .slice x F.len c] 33)) := (Below.refl _ _).alloc (Nat.le_refl _) _
  have HC := Lib.hid (lPut_any k n F x c B (w.alloc (.cells #[.int .i64 k, .int .i64 n, .slice x F.len c] 33)) (hsl.below (hbx.mono hB)) (by simp; omega))
  rw [lputV_yes hr] at HC
  have hsz := (right_len hr).1
  clear hr
  go_enter Try.func38, Try.ntmps38
  go_wp2_with fail
  refine HC.out.mono ?_
  rintro e w1 ⟨rfl, hb0⟩
  have hb1 : Below w.heap.size w w1 := Below.step hbx hb0 (Nat.le_refl _)
  obtain ⟨v', w2, hrn, h2, h3, h4⟩ := append_str 24 (owns_kept hown hb1) (strOfNums (encL k n F)) (by rw [strOfNums_size]; omega) (Nat.le_trans hbase hb1.size)
  have HR := Lib.hid hrn
  rw [strOfNums_size, strCells_nums (encL_in k n F), ← u8s_append, ← List.length_append] at h2
  have HE : Hid (ApOk w base v pre (encL k n F) (.returned v') w2) := Lib.hid ⟨v', rfl, h2, grown_after (grown_below hb1) h3, by
    rcases h4 with h4 | h4
    · exact .inl h4
    · exact .inr (fun k hk => Nat.le_trans hb1.size (h4 k hk))⟩
  clear hrn h2 h3 h4 hb0 HC
  go_wp2_with (at_builtin; refine wpList_append2_run (by rfl) _ _ _ _ (by rfl) (by rfl) (by rfl) HR.out ?_)
  go_ret
  exact HE.out

/-- What stands in slots while the Kids are gone through. -/
def ApT (w : World) (base : Nat) (v : Value) (pre : List Int) (B : Nat) (F : Ft) (x : Option Addr) (o : Value) (j : Nat) (rr : Ft) (wr : World) : Prop :=
  ∃ done : Ft, done.app rr = F ∧ done.len = j ∧ ApOk w base v pre (encTF done) (.returned o) wr ∧ (∀ b i, x = some ⟨b, i, none⟩ → FtIn w (· < B) rr b (i + j * 4))
theorem ApOk.nil {w : World} {base : Nat} {v : Value} {pre : List Int} (hown : w.ownsRow base 5 1 v pre.length (u8s pre)) : ApOk w base v pre [] (.returned v) w := ⟨v, rfl, by simpa using hown, grown_below (Below.refl _ _), .inl rfl⟩
theorem ApOk.own {w w1 : World} {base : Nat} {v v1 : Value} {pre l : List Int} (h : ApOk w base v pre l (.returned v1) w1) : w1.ownsRow base 5 1 v1 (pre ++ l).length (u8s (pre ++ l)) ∧ w.grownBy w1 v.ownBlock := by
  obtain ⟨v', e, g1, g2, _⟩ := h
  injection e with e
  subst e
  exact ⟨g1, g2⟩

set_option maxRecDepth 100000 in
set_option maxHeartbeats 8000000 in
theorem xApp_any (s : Nat) : ∀ (F : Ft), F.size < s → ∀ (k n : Int) (ls : Fo) (la x : Option Addr) (lc c B base : Nat) (v : Value) (pre : List Int) (w : World), SlIn w (· < B) ls la lc → TlIn w (· < B) F x c → B ≤ base → base ≤ w.heap.size → w.ownsRow base 5 1 v pre.length (u8s pre) →
    SmT (.cons k n ls F .nil) → (pre ++ encT k n ls F).length ≤ 1000000 →
    Calls Try.prog 25 #[v, .agg #[.int .i64 k, .int .i64 n, .slice la ls.len lc, .slice x F.len c]] w (ApOk w base v pre (encT k n ls F)) := by
  induction s with
  | zero => intro f hs; omega
  | succ s ih =>
    intro F hs k n ls la x lc c B base v pre w hls hsl hB hbase hown hsm hpl
    have IH := Lib.hid ih
    clear ih
    have hlen := hsl.len
    have hlenl := hls.len
    have HSM := Lib.hid hsm
    obtain ⟨⟨hk0, hk7, hn0, hn9, hlv, hl5⟩, _, _⟩ := hsm
    have HLV := Lib.hid hlv
    have HPL := Lib.hid hpl
    have hek : (enc k.toNat).length ≤ 2 := enc_two (by omega)
    have hen : (enc n.toNat).length ≤ 2 := enc_two (by omega)
    have hel : (enc ls.len).length ≤ 2 := enc_two (by omega)
    have hTl : pre.length + (encTh k n ls).length ≤ 1000000 := by simp only [encT, List.length_append] at hpl; omega
    have hbx : Below w.heap.size w (w.alloc (.cells #[.int .i64 k, .int .i64 n, .slice la ls.len lc, .slice x F.len c] 29)) := (Below.refl _ _).alloc (Nat.le_refl _) _
    have O0 := Lib.hid (owns_alloc hown (.cells #[.int .i64 k, .int .i64 n, .slice la ls.len lc, .slice x F.len c] 29))
    have HB0 := Lib.hid (heap_new w (.cells #[.int .i64 k, .int .i64 n, .slice la ls.len lc, .slice x F.len c] 29))
    have HNW := Lib.hid (row_new hown)
    have hls0 := hls.below (hbx.mono (Nat.le_trans hB hbase))
    have hsl0 := hsl.below (hbx.mono (Nat.le_trans hB hbase))
    have HSL0 := Lib.hid (And.intro hls0 hsl0)
    have hz0 : (w.alloc (.cells #[.int .i64 k, .int .i64 n, .slice la ls.len lc, .slice x F.len c] 29)).heap.size = w.heap.size + 1 := by simp
    clear hpl hlv hown hbx hls hsl hls0 hsl0
    obtain ⟨P, hP⟩ : ∃ P, P = enc k.toNat ++ ((if k = 1 ∨ k = 3 then enc n.toNat else []) ++ (if k = 3 then enc ls.len else [])) := ⟨_, rfl⟩
    have hTh : encTh k n ls = P ++ encF ls := by rw [hP]; simp only [encTh, List.append_assoc]
    have HTH := Lib.hid hTh
    rw [hTh, List.length_append] at hTl
    have hways : (Hid (P = enc k.toNat ++ enc n.toNat) ∧ (k == 1) = true ∧ (k == 3) = false) ∨ (Hid (P = (enc k.toNat ++ enc n.toNat) ++ enc ls.len) ∧ (k == 1) = false ∧ (k == 3) = true) ∨ (Hid (P = enc k.toNat) ∧ (k == 1) = false ∧ (k == 3) = false) := by
      by_cases h1 : k = 1
      · exact .inl ⟨Lib.hid (by rw [hP, if_pos (.inl h1), if_neg (by omega)]; simp), beq_iff_eq.2 h1, beq_eq_false_iff_ne.2 (by omega)⟩
      by_cases h3 : k = 3
      · exact .inr (.inl ⟨Lib.hid (by rw [hP, if_pos (.inr h3), if_pos h3]; simp), beq_eq_false_iff_ne.2 h1, beq_iff_eq.2 h3⟩)
      · exact .inr (.inr ⟨Lib.hid (by rw [hP, if_neg (by omega), if_neg h3]; simp), beq_eq_false_iff_ne.2 h1, beq_eq_false_iff_ne.2 h3⟩)
    clear hP hTh
    have hTl2 : pre.length + P.length ≤ 1000000 := by omega
    have HTL := Lib.hid hTl
    clear hTl
    obtain ⟨W0, hW0⟩ : ∃ W0, w.alloc (.cells #[.int .i64 k, .int .i64 n, .slice la ls.len lc, .slice x F.len c] 29) = W0 := ⟨_, rfl⟩
    have HW0 := Lib.hid hW0
    rw [hW0] at O0 HB0 HSL0 hz0
    -- what is known of the term's own box and of the row, whatever has been appended
    have L : Hid (∀ (l : List Int) (v1 : Value) (w1 : World), ApOk W0 base v pre l (.returned v1) w1 →
        w1.cell? ⟨w.heap.size, 0, none⟩ = some (.int .i64 k) ∧ w1.cell? ⟨w.heap.size, 1, none⟩ = some (.int .i64 n) ∧ w1.cell? ⟨w.heap.size, 2, none⟩ = some (.slice la ls.len lc) ∧ w1.cell? ⟨w.heap.size, 3, none⟩ = some (.slice x F.len c) ∧ w1.ownsRow base 5 1 v1 (pre ++ l).length (u8s (pre ++ l)) ∧ base ≤ w1.heap.size) := Lib.hid (by
      intro l v1 w1 h
      obtain ⟨g1, g2⟩ := h.own
      have hb := (g2.block w.heap.size (by omega) HNW.out).trans HB0.out
      exact ⟨cell_at hb 0, cell_at hb 1, cell_at hb 2, cell_at hb 3, g1, by have := g2.size; omega⟩)
    go_enter Try.func25, Try.ntmps25
    go_upto_region 1 with fail
    clear hW0
    obtain ⟨i0, i1, i2, i3, _, _⟩ := L.out [] v W0 (ApOk.nil O0.out)
    go_wp2_with fail
    refine (xNum_int k hk0 (by omega) base v pre W0 O0.out (by omega) (by omega)).mono ?_
    rintro e w1 h1
    obtain ⟨v1, rfl, _⟩ := id h1
    clear i0 i1 i2 i3
    obtain ⟨c0, c1, c2, c3, o1, z1⟩ := L.out _ v1 w1 h1
    have H1 := Lib.hid h1
    have O1 := Lib.hid o1
    clear h1 o1
    -- behind the head: the Levels are next
    rcases hways with ⟨HH, q1, q3⟩ | ⟨HH, q1, q3⟩ | ⟨HH, q1, q3⟩
    case' inl =>
      go_wp2_with fail
      refine (xNum_int n hn0 (by omega) base v1 _ w1 O1.out z1 (by have := congrArg List.length HH.out; simp only [List.length_append] at this ⊢; omega)).mono ?_
      rintro e wS h2
      obtain ⟨vS, rfl, _⟩ := id h2
      clear c0 c1 c2 c3
      have HS := Lib.hid (H1.out.chain h2)
      rw [← HH.out] at HS
      clear h2 H1 O1
      obtain ⟨b0, b1, b2, b3, o2, z2⟩ := L.out _ vS wS HS.out
      go_wp2_with fail
    case' inr.inl =>
      go_wp2_with fail
      refine (xNum_int n hn0 (by omega) base v1 _ w1 O1.out z1 (by have := congrArg List.length HH.out; simp only [List.length_append] at this ⊢; omega)).mono ?_
      rintro e w2 h2
      obtain ⟨v2, rfl, _⟩ := id h2
      clear c0 c1 c2 c3
      have H2 := Lib.hid (H1.out.chain h2)
      clear h2 H1 O1
      obtain ⟨c0, c1, c2, c3, o2, z2⟩ := L.out _ v2 w2 H2.out
      have O2 := Lib.hid o2
      clear o2
      go_wp2_with fail
      refine (xNum_int (ls.len : Int) (by omega) (by omega) base v2 _ w2 O2.out z2 (by have := congrArg List.length HH.out; simp only [List.length_append] at this ⊢; omega)).mono ?_
      rintro e wS h3
      obtain ⟨vS, rfl, _⟩ := id h3
      clear c0 c1 c2 c3
      rw [Int.toNat_natCast] at h3
      have HS := Lib.hid (H2.out.chain h3)
      rw [← HH.out] at HS
      clear h3 H2 O2
      obtain ⟨b0, b1, b2, b3, o3, z3⟩ := L.out _ vS wS HS.out
      go_wp2_with fail
    case' inr.inr =>
      obtain ⟨vS, rfl⟩ : ∃ u, u = v1 := ⟨v1, rfl⟩
      obtain ⟨wS, rfl⟩ : ∃ u, u = w1 := ⟨w1, rfl⟩
      have HS := H1
      rw [← HH.out] at HS
      obtain ⟨b0, b1, b2, b3, _, _⟩ := L.out _ vS wS HS.out
      clear H1 O1 c0 c1 c2 c3
      go_wp2_with fail
    all_goals
      have HR0 : Hid (ApR W0 base v (pre ++ P) B ls la vS 0 ls wS) := Lib.hid (by
        obtain ⟨v', e, g1, g2, g3⟩ := HS.out
        injection e with e
        subst e
        exact ⟨.nil, rfl, rfl, by simpa [encF] using g1, g2, g3, by rintro b i rfl; simpa using HSL0.out.1.foIn⟩)
      clear b0 b1 b2 b3
      go_loopw [0, 36] (fun o i wr => ∃ (j : Nat) (rr : Fo) (u : Value), u = o ∧ i = .int .i64 j ∧ Hid (j + rr.len = ls.len) ∧ Hid (ApR W0 base v (pre ++ P) B ls la u j rr wr)) (fun _ i _ => ls.len - (intOf i).toNat)
      case atStart => exact ⟨0, ls, vS, rfl, rfl, Lib.hid (by omega), HR0⟩
      case round =>
        obtain ⟨j, rr, u, hou, rfl, hj, hR⟩ := hrel
        subst hou
        cases rr with
        | nil =>
          have hlt : ¬ (j : Int) < (ls.len : Int) := by have := hj.out; simp [Fo.len] at this; omega
          have d' : decide ((j : Int) < (ls.len : Int)) = false := by simpa using hlt
          have HT := Lib.hid hR.out.end
          rw [← HTH.out] at HT
          obtain ⟨e0, e1, e2, e3, _, _⟩ := L.out _ u wr HT.out
          have HT0 : Hid (ApT W0 base v (pre ++ encTh k n ls) B F x u 0 F wr) := Lib.hid ⟨.nil, rfl, rfl, by
            obtain ⟨v', e, g1, g2, g3⟩ := HT.out
            injection e with e
            subst e
            exact ⟨_, rfl, by simpa [encTF] using g1, g2, g3⟩, by rintro b i rfl; simpa using HSL0.out.2.ftIn⟩
          clear hR HR0 HS
          go_wp2_with fail
          clear e0 e1 e2 e3
          go_loopw [0, 47] (fun o i wr => ∃ (j : Nat) (rr : Ft) (u : Value), u = o ∧ i = .int .i64 j ∧ Hid (j + rr.len = F.len) ∧ Hid (ApT W0 base v (pre ++ encTh k n ls) B F x u j rr wr)) (fun _ i _ => F.len - (intOf i).toNat)
          case atStart => exact ⟨0, F, u, rfl, rfl, Lib.hid (by omega), HT0⟩
          case round =>
            clear HT0
            obtain ⟨j, rr, u, hou, rfl, hj, hR⟩ := hrel
            subst hou
            cases rr with
            | nil =>
              have hlt : ¬ (j : Int) < (F.len : Int) := by have := hj.out; simp [Ft.len] at this; omega
              have d' : decide ((j : Int) < (F.len : Int)) = false := by simpa using hlt
              have HE : Hid (ApOk w base v pre (encT k n ls F) (.returned u) wr) := Lib.hid (by
                obtain ⟨done, r1, _, r3, _⟩ := hR.out
                rw [Ft.app_nil] at r1
                subst r1
                have h := r3.shift
                rw [← HW0.out] at h
                exact h.unalloc)
              go_wp2_with fail
              go_ret
              exact HE.out
            | cons k' n' ls' ks r' =>
              have hlt : j < F.len := by have := hj.out; simp [Ft.len] at this; omega
              obtain ⟨b, o, rfl, hbB, hf0⟩ := HSL0.out.2.some (by omega)
              obtain ⟨done, r1, r2, r3, r6⟩ := hR.out
              have hkeep : ∀ b, b < B → wr.heap[b]? = W0.heap[b]? := low_keep O0.out r3.own.2 hB (by omega)
              obtain ⟨e0, e1, ⟨la', lc', e2, hls'⟩, ⟨ka', kc', e3, hsl'⟩, _⟩ := (FtIn.keep hkeep _ _ _ hbB (r6 b o rfl)).first
              have hsmd : Hid (SmT (.cons k' n' ls' ks .nil)) := Lib.hid (by
                have h := HSM.out.2.1
                rw [← r1] at h
                have := (SmT.app h).2
                exact ⟨this.1, this.2.1, trivial⟩)
              have hks : Hid (ks.size < s) := Lib.hid (by have := congrArg Ft.size r1; rw [Ft.app_size] at this; simp only [Ft.size] at this; omega)
              have hpl' : Hid ((pre ++ encTh k n ls ++ encTF done ++ encT k' n' ls' ks).length ≤ 1000000) := Lib.hid (by
                have h := HPL.out
                rw [encT, ← r1, encTF_app] at h
                simp only [encTF, encT, List.length_append] at h ⊢
                omega)
              have O3 := Lib.hid r3.own.1
              have HZ : Hid (base ≤ wr.heap.size) := Lib.hid (by have := r3.own.2.size; omega)
              have HSL : Hid (SlIn wr (· < B) ls' la' lc' ∧ TlIn wr (· < B) ks ka' kc') := Lib.hid ⟨hls', hsl'⟩
              have HNX : Hid (∀ (v2 : Value) (w2 : World), ApOk wr base u (pre ++ encTh k n ls ++ encTF done) (encT k' n' ls' ks) (.returned v2) w2 → ApT W0 base v (pre ++ encTh k n ls) B F (some ⟨b, o, none⟩) v2 (j + 1) r' w2) := Lib.hid (fun v2 w2 h => ⟨done.app (.cons k' n' ls' ks .nil), by rw [Ft.app_assoc]; exact r1, by rw [Ft.app_len, r2]; rfl, by rw [encTF_app, encTF_one]; exact r3.chain h, by
                rintro b1 i1 h
                cases h
                have := FtIn.behind (.cons k' n' ls' ks .nil) r' b (o + j * 4) (r6 b o rfl)
                simp only [Ft.len] at this
                rwa [show o + (j + 1) * 4 = o + j * 4 + (0 + 1) * 4 by omega]⟩)
              clear r1 r2 r3 r6 hkeep hsl' hls' hf0
              go_wp2_with fail
              refine (IH.out ks hks.out k' n' ls' la' ka' lc' kc' B base u _ _ (HSL.out.1.below ((Below.refl _ _).alloc (Nat.le_trans hB HZ.out) _)) (HSL.out.2.below ((Below.refl _ _).alloc (Nat.le_trans hB HZ.out) _)) hB (by have := HZ.out; simp; omega) (owns_alloc O3.out _) hsmd.out hpl'.out).mono ?_
              rintro e w2 h2
              obtain ⟨v2, rfl, _⟩ := id h2
              have HN := Lib.hid (HNX.out v2 w2 h2.unalloc)
              clear h2 O3 HSL e0 e1 e2 e3
              go_wp2_with fail
              go_roundw
              case rel => exact ⟨j + 1, r', v2, rfl, by go_num, Lib.hid (by have := hj.out; simp [Ft.len] at this; omega), HN⟩
              case measure => simp [intOf]; omega
        | cons k' n' ks r' =>
          have hlt : j < ls.len := by have := hj.out; simp [Fo.len] at this; omega
          obtain ⟨b, o, rfl, hbB, hf0⟩ := HSL0.out.1.some (by omega)
          obtain ⟨done, r1, r2, r3, r4, r5, r6⟩ := hR.out
          have hkeep : ∀ b, b < B → wr.heap[b]? = W0.heap[b]? := low_keep O0.out r4 hB (by omega)
          obtain ⟨e0, e1, ⟨a', cap', e2, hsl'⟩, _⟩ := (FoIn.keep hkeep _ _ _ hbB (r6 b o rfl)).first
          have hrt : Hid (rightB 5 10 k' n' ks = true) := Lib.hid (by
            have h := HLV.out
            rw [← r1] at h
            have h2 := (lvB_app4.1 h).2
            simp only [lvB, Bool.and_eq_true] at h2
            exact h2.1)
          have hpl' : Hid ((pre ++ P ++ encF done).length ≤ 1000000) := Lib.hid (by
            have h := HTL.out
            rw [← r1, encF_app, List.length_append] at h
            simp only [List.length_append]
            omega)
          have O3 := Lib.hid r3
          have HZ : Hid (base ≤ wr.heap.size) := Lib.hid (by have := r4.size; omega)
          have HUN : Hid (∀ done' : Fo, done'.app (.cons k' n' ks r') = ls → pre ++ P ++ encF done = pre ++ P ++ encF done') := Lib.hid (fun done' h' => by
            have h1 : done'.len = done.len := by
              have a := congrArg Fo.len h'
              have b := congrArg Fo.len r1
              rw [Fo.app_len] at a b
              omega
            have := (Fo.app_eq (i := done') (j := done) (g := .cons k' n' ks r') (h := .cons k' n' ks r') h1).1 (h'.trans r1.symm)
            rw [this.1])
          have HSL : Hid (SlIn wr (· < B) ks a' cap') := Lib.hid hsl'
          clear r1 r2 r3 r4 r5 r6 hkeep hsl' hf0
          go_wp2_with fail
          refine (xLev_any k' n' ks a' cap' B base u _ _ (by exact HSL.out.below ((Below.refl _ _).alloc (Nat.le_trans hB HZ.out) _)) (by have := HZ.out; simp; omega) (owns_alloc O3.out _) (by have := HZ.out; simp; omega) hrt.out hpl'.out).mono ?_
          rintro e w2 h2
          obtain ⟨v2, rfl, _⟩ := id h2
          have HN := Lib.hid (hR.out.next HUN.out h2)
          clear h2 O3 HSL e0 e1 e2
          go_wp2_with fail
          go_roundw
          case rel => exact ⟨j + 1, r', v2, rfl, by go_num, Lib.hid (by have := hj.out; simp [Fo.len] at this; omega), HN⟩
          case measure => simp [intOf]; omega

theorem encT_pos (k n : Int) (ls : Fo) (F : Ft) : 1 ≤ (encT k n ls F).length := by
  have := enc_pos k.toNat
  simp only [encT, encTh, List.length_append]; omega
set_option maxRecDepth 100000 in
set_option maxHeartbeats 2000000 in
theorem putC_any (k n : Int) (ls : Fo) (F : Ft) (la x : Option Addr) (lc c B : Nat) (w : World) (hls : SlIn w (· < B) ls la lc) (hsl : TlIn w (· < B) F x c) (hB : B ≤ w.heap.size) :
    Calls Try.prog 14 #[.agg #[.int .i64 k, .int .i64 n, .slice la ls.len lc, .slice x F.len c]] w fun e w' => e = .returned (tputV k n ls F) ∧ Below w.heap.size w w' := by
  have HS : Hid (tRightB 5 10 1000 k n ls F = shB k n ls F) := Lib.hid rfl
  have HR := Lib.hid (fun (W : World) (h0 : SlIn W (· < B) ls la lc) (h1 : TlIn W (· < B) F x c) (h2 : B ≤ W.heap.size) => tRight_any 5 10 1000 k n ls F la x lc c B W h0 h1 h2)
  rw [HS.out] at HR
  have hbx : Below w.heap.size w (w.alloc (.cells #[.int .i64 k, .int .i64 n, .slice la ls.len lc, .slice x F.len c] 29)) := (Below.refl _ _).alloc (Nat.le_refl _) _
  have hs0 := hls.below (hbx.mono hB)
  have hs1 := hsl.below (hbx.mono hB)
  cases hv : shB k n ls F with
  | false =>
    rw [tputV_no hv]
    rw [hv] at HR
    clear hv HS
    go_enter Try.func14, Try.ntmps14
    go_wp2_with fail
    refine (HR.out _ hs0 hs1 (by simp; omega)).mono ?_
    rintro e w1 ⟨rfl, hb1⟩
    go_wp2_with fail
    go_ret2
    exact ⟨rfl, Below.step hbx hb1 (Nat.le_refl _)⟩
  | true =>
    rw [tputV_yes hv]
    have HSM := Lib.hid (sh_smT hv)
    rw [hv] at HR
    clear hv HS
    go_enter Try.func14, Try.ntmps14
    go_wp2_with fail
    refine (HR.out _ hs0 hs1 (by simp; omega)).mono ?_
    rintro e w1 ⟨rfl, hb1⟩
    obtain ⟨c0, c1, c2, c3, z1⟩ := boxed4 hb1
    have hw1 := Lib.hid (Below.step hbx hb1 (Nat.le_refl _))
    have hs2 := Lib.hid (And.intro (hls.below (hw1.out.mono hB)) (hsl.below (hw1.out.mono hB)))
    clear hb1 hs0 hs1
    go_wp2_with fail
    refine (xApp_any (F.size + 1) F (Nat.lt_succ_self _) k n ls la x lc c B w1.heap.size (.slice none 0 0) [] w1 hs2.out.1 hs2.out.2 (by omega) (Nat.le_refl _) (World.ownsRow_nil _ _ _ _) HSM.out.1 (by have := HSM.out.2; simp; omega)).mono ?_
    rintro e w2 ⟨v2, rfl, o2, g2, _⟩
    rw [List.nil_append] at o2
    have hcv := conv_row o2 (encT_pos k n ls F)
    have HB2 : Hid (Below w.heap.size w w2) := Lib.hid (hw1.out.trans ⟨g2.os, g2.tape, g2.output, g2.size, fun i hi => g2.block i (by omega) (by simp [Value.ownBlock])⟩)
    clear o2 g2 c0 c1 c2 c3
    go_wp2
    go_ret2
    exact ⟨rfl, HB2.out⟩
end Go.Proofs.Ythnkoamabfaioaa
/- What the program's own Get and Put of terms answer: their contracts, in the law's own words. No condition. -/
namespace Go.Proofs.Ythnkoamabfaioaa
open Go.RowKit

theorem getC : GetC := fun s a w hs => xGet_ans s a w hs
theorem putC : PutC := fun k n ls F la x lc c B w hls hsl hB => putC_any k n ls F la x lc c B w hls hsl hB
end Go.Proofs.Ythnkoamabfaioaa
