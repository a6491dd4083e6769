/- What stands in memory before a term's Kids are read: by its Kind. No condition but those that stand in each statement. -/
import Derived.Test.YthnkoamabfaioaaUlp
import Derived.Test.YthnkoamabfaioaaKmix
import Derived.Test.YthnkoamabfaioaaLlev2
namespace Go.Proofs.Ythnkoamabfaioaa
open Go.RowKit

theorem num_le {s : ByteArray} {p n q : Nat} (h : num s p = (n, q, 0)) : n ≤ 1099511627776 := by
  unfold num at h
  rcases rd_cases p (s.data.toList.drop p) 0 0 with g | g | ⟨m, cnt, g, _, _, _, _, g2⟩
  · rw [g] at h; simp at h
  · rw [g] at h; simp at h
  · rw [g] at h
    simp only [Prod.mk.injEq] at h
    omega
/-- What the reader's number tells, laid out. -/
def NIs (s : ByteArray) (p most n q E : Nat) : Prop := (E ≠ 0 ∧ n = 0 ∧ q = p ∧ ((num s p).2.2 = E ∨ ((num s p).2.2 = 0 ∧ most ≤ (num s p).1 ∧ E = 20))) ∨ (E = 0 ∧ num s p = (n, q, 0) ∧ n < most)
theorem NIs.le {s : ByteArray} {p most n q E : Nat} (h : NIs s p most n q E) (hp : p ≤ s.size) : q ≤ s.size := by
  rcases h with ⟨_, _, rfl, _⟩ | ⟨_, h, _⟩
  · exact hp
  · exact (num_lie h).1.2.1
theorem r14number_two (R : Nat) (s : ByteArray) (p m most : Nat) (w : World) (hat : R4At w R s p m 0) (hs : s.size ≤ maxLen) (hp : p ≤ s.size) :
    Calls Try.prog 50 #[.pointer (some ⟨R, 0, none⟩), .int .i64 most] w fun e w' => ∃ n q E : Nat, e = .returned (.int .i64 n) ∧ NIs s p most n q E ∧ R4At w' R s q m E ∧ w.grownBy w' (some R) := by
  rcases num_two s p with hn | ⟨k, q, hn, hq⟩
  · refine (r14number_no R s p m _ most w hat hs hp rfl hn).mono ?_
    rintro e w' ⟨rfl, ha, hg⟩
    exact ⟨0, p, _, rfl, .inl ⟨hn, rfl, rfl, .inl rfl⟩, ha, hg⟩
  · by_cases hm : k < most
    · refine (r14number_ok R s p m k q most w hat hs hp hn hm).mono ?_
      rintro e w' ⟨rfl, ha, hg⟩
      exact ⟨k, q, 0, rfl, .inr ⟨rfl, hn, hm⟩, ha, hg⟩
    · refine (r14number_big R s p m k q most w hat hs hp hn (by omega)).mono ?_
      rintro e w' ⟨rfl, ha, hg⟩
      exact ⟨0, p, 20, rfl, .inl ⟨by omega, rfl, rfl, .inr ⟨by rw [hn], by rw [hn]; show most ≤ k; omega, rfl⟩⟩, ha, hg⟩
/-- The Kind, of a number without a bound of its own. -/
theorem rdT_kind {s : ByteArray} {d b p m k q E : Nat} (hm : m < 600) (h : NIs s p 1099511627777 k q E) : (E ≠ 0 ∧ k = 0 ∧ rdT s (d + 1) b p m = .no E) ∨ (E = 0 ∧ rdT s (d + 1) b p m = rdKt s (rdT s d) k b q (m + 1)) := by
  rcases h with ⟨hE, hk, _, h | ⟨h1, h2, h3⟩⟩ | ⟨rfl, h, _⟩
  · refine .inl ⟨hE, hk, ?_⟩
    rw [rdT, if_neg (by omega), if_pos (by rw [h]; exact hE), h]
  · exfalso
    have := num_le (s := s) (p := p) (n := (num s p).1) (q := (num s p).2.1) (by rw [← h1])
    omega
  · exact .inr ⟨rfl, rdT_at hm h⟩
theorem rdKt_var {s : ByteArray} {st : Nat → Nat → Nat → Tl} {b q m n q2 E : Nat} (h : NIs s q (1000 + b) n q2 E) : rdKt s st 1 b q m = if E = 0 then .ok 1 n .nil .nil q2 m else .no E := by
  rw [rdKt, if_pos rfl]
  rcases h with ⟨hE, _, _, h | ⟨h1, h2, rfl⟩⟩ | ⟨rfl, h, hn⟩
  · rw [if_neg hE, if_pos (by rw [h]; exact hE), h]
  · rw [if_neg hE, if_neg (by rw [h1]; simp), if_pos h2]
  · rw [if_pos rfl, h, if_neg (by simp), if_neg (by simp; omega)]
theorem rdKt_const {s : ByteArray} {st : Nat → Nat → Nat → Tl} {b q m n q2 E : Nat} (h : NIs s q 20 n q2 E) : rdKt s st 3 b q m = if E = 0 then rdC s n q2 m else .no E := by
  rw [rdKt, if_neg (by omega), if_neg (by omega), if_pos rfl]
  rcases h with ⟨hE, _, _, h | ⟨h1, h2, rfl⟩⟩ | ⟨rfl, h, hn⟩
  · rw [if_neg hE, if_pos (by rw [h]; exact hE), h]
  · rw [if_neg hE, if_neg (by rw [h1]; simp), if_pos h2]
  · rw [if_pos rfl, h, if_neg (by simp), if_neg (by simp; omega)]
theorem rdC_two {s : ByteArray} {n q m c q2 E : Nat} (h : NIs s q 6 c q2 E) : rdC s n q m = if E = 0 then (rowsV s c q2).term 3 n m else .no E := by
  rw [rdC]
  rcases h with ⟨hE, _, _, h | ⟨h1, h2, rfl⟩⟩ | ⟨rfl, h, hn⟩
  · rw [if_neg hE, if_pos (by rw [h]; exact hE), h]
  · rw [if_neg hE, if_neg (by rw [h1]; simp), if_pos h2]
  · rw [if_pos rfl, h, if_neg (by simp), if_neg (by simp; omega)]
theorem rdKt_none {s : ByteArray} {st : Nat → Nat → Nat → Tl} {k b q m : Nat} (h : k = 0 ∨ 7 < k) : rdKt s st k b q m = .no 20 := by
  unfold rdKt
  rw [if_neg (by omega), if_neg (by omega), if_neg (by omega), if_neg (by omega), if_neg (by omega), if_neg (by omega), if_neg (by omega)]
/-- The Kind is read, nothing else. -/
def StB (w : World) (R TB : Nat) (k : Int) (W : World) : Prop := ZtAt W w.heap.size ∧ W.heap[TB]? = some (.cells #[.int .i64 k, .int .i64 0, .slice none 0 0, .slice none 0 0] 29 (0, 0)) ∧ w.grownBy W (some R) ∧ w.heap.size < TB
section
variable {w W : World} {R TB d b : Nat} {s : ByteArray} {k : Int}
theorem StB.call (h : StB w R TB k W) (hR : R < w.heap.size) {w2 : World} (hg : W.grownBy w2 (some R)) : StB w R TB k w2 := by
  obtain ⟨h0, h1, h2, h3⟩ := h
  have z := lt_of_block h0
  exact ⟨(Only.block hg z (by omega)).trans h0, (Only.block hg (lt_of_block h1) (by omega)).trans h1, Only.after h2 hg, h3⟩
theorem StB.facts (h : StB w R TB k W) : W.cell? ⟨TB, 0, none⟩ = some (.int .i64 k) ∧ W.cell? ⟨TB, 1, none⟩ = some (.int .i64 0) ∧ W.cell? ⟨TB, 2, none⟩ = some (.slice none 0 0) ∧ W.cell? ⟨TB, 3, none⟩ = some (.slice none 0 0) ∧ (∀ o, W.frozen? ⟨TB, o, none⟩ = false) ∧ TB < W.heap.size :=
  ⟨cell_at h.2.1 0, cell_at h.2.1 1, cell_at h.2.1 2, cell_at h.2.1 3, free_of h.2.1, lt_of_block h.2.1⟩
theorem StB.no (h : StB w R TB k W) {p' m' E : Nat} (hA : R4At W R s p' m' E) (hE : E ≠ 0) (c : Nat) : LpT w R s TB (.no E) d b k c 0 E (.slice none 0 0) W :=
  ⟨0, none, 0, 0, h.1, h.2.1, h.2.2.1, h.2.2.2, ⟨_, _, _, rfl⟩, .inl ⟨hE, rfl, p', m', hA⟩⟩
/-- The N is set. -/
theorem StB.setN (h : StB w R TB k W) (n : Int) : ZtAt (W.setCell ⟨TB, 1, none⟩ (.int .i64 n)) w.heap.size ∧ (W.setCell ⟨TB, 1, none⟩ (.int .i64 n)).heap[TB]? = some (.cells #[.int .i64 k, .int .i64 n, .slice none 0 0, .slice none 0 0] 29 (0, 0)) ∧ w.grownBy (W.setCell ⟨TB, 1, none⟩ (.int .i64 n)) (some R) ∧ (∀ x, x ≠ TB → (W.setCell ⟨TB, 1, none⟩ (.int .i64 n)).heap[x]? = W.heap[x]?) := by
  obtain ⟨h0, h1, h2, h3⟩ := h
  have e : ∀ x, x ≠ TB → (W.setCell ⟨TB, 1, none⟩ (.int .i64 n)).heap[x]? = W.heap[x]? := fun x hx => Below.heap_setCell _ _ _ _ hx
  exact ⟨(e _ (by omega)).trans h0, heap_setCell_same W TB 1 _ _ _ h1, Only.past h2 (Only.set _ _ _ _) (by omega), e⟩
theorem StB.noN (h : StB w R TB k W) (hR : R < w.heap.size) {p' m' E : Nat} (hA : R4At W R s p' m' E) (hE : E ≠ 0) (n : Int) (c : Nat) : LpT w R s TB (.no E) d b k c 0 E (.slice none 0 0) (W.setCell ⟨TB, 1, none⟩ (.int .i64 n)) := by
  obtain ⟨e0, e1, e2, e3⟩ := h.setN n
  exact ⟨n, none, 0, 0, e0, e1, e2, h.2.2.2, ⟨_, _, _, rfl⟩, .inl ⟨hE, rfl, p', m', (e3 R (by have := h.2.2.2; omega)).trans hA⟩⟩
/-- A term without Kids, Levels. -/
theorem StB.leaf {kN : Nat} (h : StB w R TB (kN : Int) W) (hR : R < w.heap.size) {q m' : Nat} (hA : R4At W R s q m' 0) (hq : q ≤ s.size) (hm : m' ≤ 600) (n : Nat) : LpT w R s TB (.ok kN n .nil .nil q m') d b (kN : Int) 0 0 0 (.slice none 0 0) (W.setCell ⟨TB, 1, none⟩ (.int .i64 n)) := by
  obtain ⟨e0, e1, e2, e3⟩ := h.setN n
  exact ⟨n, none, 0, 0, e0, e1, e2, h.2.2.2, ⟨_, _, _, rfl⟩, .inr ⟨rfl, kN, n, .nil, .nil, q, m', rfl, rfl, rfl, rfl, rfl, TsMix.nil _ _ _, SlIn.none _ _, (e3 R (by have := h.2.2.2; omega)).trans hA, hq, hm⟩⟩
/-- A term with Kids. -/
theorem StB.kids {kN : Nat} (h : StB w R TB (kN : Int) W) {q m' : Nat} (hA : R4At W R s q m' 0) (hq : q ≤ s.size) (hm : m' ≤ 600) (c : Nat) : LpT w R s TB ((rowsT (rdT s d) kN b c 0 q m').wrap kN) d b (kN : Int) c 0 0 (.slice none 0 0) W :=
  ⟨0, none, 0, 0, h.1, h.2.1, h.2.2.1, h.2.2.2, ⟨_, _, _, rfl⟩, .inr ⟨rfl, kN, 0, .nil, .nil, q, m', rfl, rfl, rfl, rfl, by rw [Ts.prep_nil]; cases rowsT (rdT s d) (kN : Int) b c 0 q m' <;> rfl, TsMix.nil _ _ _, SlIn.none _ _, hA, hq, hm⟩⟩
/-- No such Kind. -/
theorem StB.bad (h : StB w R TB k W) (hR : R < w.heap.size) {q m' : Nat} (hA : R4At W R s q m' 0) (c : Nat) : LpT w R s TB (.no 20) d b k c 0 20 (.slice none 0 0) (W.setCell ⟨R, 3, none⟩ (.int .i64 20)) :=
  (h.call hR (Only.set _ _ _ _)).no (hA.set3 20) (by omega) c
theorem rowsV_one {p k n q E : Nat} {F : Fo} (h : LvIs (rdL s 12 p 100) k n F q E) : rowsV s 1 p = if E = 0 then .ok (.cons k n F .nil) q 0 else .no E := by
  unfold rowsV
  cases hr : rdL s 12 p 100 with
  | no er =>
    rw [hr] at h
    obtain ⟨_, _, _, _, rfl⟩ := h
    have he := rdL_err s 12 p 100 E hr
    rw [if_neg he]
    exact rows_no (by unfold lvStep; rw [hr])
  | ok k1 n1 F1 q1 l1 =>
    rw [hr] at h
    obtain ⟨rfl, rfl, rfl, rfl, rfl⟩ := h
    rw [if_pos rfl, rows_ok (q := q) (l' := 0) (by unfold lvStep; rw [hr])]
    rfl
theorem lv_q {p k n q : Nat} {F : Fo} (hp : p ≤ s.size) (h : LvIs (rdL s 12 p 100) k n F q 0) : q ≤ s.size := by
  have h1 := rdL_once s 12 p 100 hp
  cases hr : rdL s 12 p 100 with
  | no er =>
    rw [hr] at h
    exact absurd h.2.2.2.2.symm (rdL_err s 12 p 100 er hr)
  | ok k1 n1 F1 q1 l1 =>
    rw [hr] at h h1
    obtain ⟨_, _, _, rfl, _⟩ := h
    exact h1.2.2.1.2.1
/-- The Levels are set: a Sort. -/
theorem StB.sort (h : StB w R TB 2 W) (hR : R < w.heap.size) {p m' k1 n1 q E : Nat} {F : Fo} {x : Option Addr} {c1 : Nat} {w2 : World} (hp : p ≤ s.size) (hm : m' ≤ 600) (hL : LvIs (rdL s 12 p 100) k1 n1 F q E) (hs : SlIn w2 (fun x => W.heap.size ≤ x ∧ x < w2.heap.size) F x c1) (hg : W.grownBy w2 (some R)) (hA : R4At w2 R s (if E = 0 then q else p) m' E) :
    w2.cell? ⟨TB, 2, none⟩ = some (.slice none 0 0) ∧ (w2.alloc (.cells #[.int .i64 k1, .int .i64 n1, .slice x F.len c1] 33)).cell? ⟨TB, 2, none⟩ = some (.slice none 0 0) ∧ (∀ o, (w2.alloc (.cells #[.int .i64 k1, .int .i64 n1, .slice x F.len c1] 33)).frozen? ⟨TB, o, none⟩ = false) ∧
    LpT w R s TB ((rowsV s 1 p).term 2 0 m') d b 2 0 0 E (.slice none 0 0) ((w2.alloc (.cells #[.int .i64 k1, .int .i64 n1, .slice x F.len c1] 33)).setCell ⟨TB, 2, none⟩ (.slice (some ⟨w2.heap.size, 0, none⟩) 1 1)) := by
  have h2 := h.call hR hg
  have hTB := lt_of_block h.2.1
  have z := hg.size
  have hb : Below w2.heap.size w2 (w2.alloc (.cells #[.int .i64 k1, .int .i64 n1, .slice x F.len c1] 33)) := (Below.refl _ _).alloc (Nat.le_refl _) _
  have hn := heap_new w2 (.cells #[.int .i64 k1, .int .i64 n1, .slice x F.len c1] 33)
  have b3 := (hb.block TB (by omega)).trans h2.2.1
  have b4 := heap_setCell_same _ TB 2 _ _ (.slice (some ⟨w2.heap.size, 0, none⟩) 1 1) b3
  have e : ∀ y, y ≠ TB → y < (w2.alloc (.cells #[.int .i64 k1, .int .i64 n1, .slice x F.len c1] 33)).heap.size → ((w2.alloc (.cells #[.int .i64 k1, .int .i64 n1, .slice x F.len c1] 33)).setCell ⟨TB, 2, none⟩ (.slice (some ⟨w2.heap.size, 0, none⟩) 1 1)).heap[y]? = (w2.alloc (.cells #[.int .i64 k1, .int .i64 n1, .slice x F.len c1] 33)).heap[y]? := fun y hy _ => Below.heap_setCell _ _ _ _ hy
  have za : (w2.alloc (.cells #[.int .i64 k1, .int .i64 n1, .slice x F.len c1] 33)).heap.size = w2.heap.size + 1 := by simp
  have e2 : ∀ y, y ≠ TB → y < w2.heap.size → ((w2.alloc (.cells #[.int .i64 k1, .int .i64 n1, .slice x F.len c1] 33)).setCell ⟨TB, 2, none⟩ (.slice (some ⟨w2.heap.size, 0, none⟩) 1 1)).heap[y]? = w2.heap[y]? := fun y hy hy2 => (e y hy (by omega)).trans (hb.block y hy2)
  have hlt := h.2.2.2
  have hz := lt_of_block h2.1
  have hG : w.grownBy ((w2.alloc (.cells #[.int .i64 k1, .int .i64 n1, .slice x F.len c1] 33)).setCell ⟨TB, 2, none⟩ (.slice (some ⟨w2.heap.size, 0, none⟩) 1 1)) (some R) := Only.past (Only.after h2.2.2.1 (Only.alloc _ _ _)) (Only.set _ _ _ _) (by omega)
  have hZ : ZtAt ((w2.alloc (.cells #[.int .i64 k1, .int .i64 n1, .slice x F.len c1] 33)).setCell ⟨TB, 2, none⟩ (.slice (some ⟨w2.heap.size, 0, none⟩) 1 1)) w.heap.size := (e2 _ (by omega) hz).trans h2.1
  have hA2 := (e2 R (by omega) (lt_of_block hA)).trans hA
  refine ⟨cell_at h2.2.1 2, cell_at b3 2, free_of b3, ?_⟩
  rw [rowsV_one hL]
  by_cases hE : E = 0
  · have hq := lv_q hp (hE ▸ hL)
    rw [if_pos hE] at hA2
    rw [if_pos hE]
    subst hE
    have hn2 := (e w2.heap.size (by omega) (by omega)).trans hn
    refine ⟨0, some ⟨w2.heap.size, 0, none⟩, 1, 1, hZ, b4, hG, hlt, ⟨_, _, _, rfl⟩, .inr ⟨rfl, 2, 0, .cons k1 n1 F .nil, .nil, q, m', rfl, rfl, rfl, rfl, rfl, TsMix.nil _ _ _, ?_, hA2, hq, hm⟩⟩
    refine SlIn.mk (Nat.le_refl _) (show 1 ≤ 1000000 by omega) ⟨by omega, lt_of_block hn2, fun e => by cases e⟩ (FoIn.push (cell_at hn2 0) (cell_at hn2 1) (cell_at hn2 2) ((hs.keep (fun y hy => e2 y (by omega) hy.2)).weak (fun y hy => ⟨by omega, by simp; omega, fun e => by cases e⟩)) trivial)
  · rw [if_neg hE] at hA2
    rw [if_neg hE]
    exact ⟨0, some ⟨w2.heap.size, 0, none⟩, 1, 1, hZ, b4, hG, hlt, ⟨_, _, _, rfl⟩, .inl ⟨hE, rfl, _, m', hA2⟩⟩
/-- A Const: its Levels are read, so many. -/
def CsT (w : World) (R : Nat) (s : ByteArray) (TB : Nat) (r : Tl) (n m c j E : Nat) (v : Value) (wr : World) : Prop :=
  ZtAt wr w.heap.size ∧ wr.heap[TB]? = some (.cells #[.int .i64 3, .int .i64 n, v, .slice none 0 0] 29 (0, 0)) ∧ w.grownBy wr (some R) ∧ w.heap.size < TB ∧ ∃ (G : Fo) (p : Nat), KsMix 0 (TB + 1) wr v G ∧ G.len = j ∧ R4At wr R s p m E ∧ p ≤ s.size ∧ ((E ≠ 0 ∧ r = .no E) ∨ (E = 0 ∧ r = ((rows (lvStep s) (c - j) p 0).prep G).term 3 n m))
theorem CsT.facts {r : Tl} {n m c j E : Nat} {v : Value} (h : CsT w R s TB r n m c j E v W) : (∃ p, R4At W R s p m E) ∧ W.cell? ⟨TB, 2, none⟩ = some v ∧ (∀ o, W.frozen? ⟨TB, o, none⟩ = false) ∧ TB < W.heap.size := by
  obtain ⟨_, h1, _, _, G, p, _, _, h5, _⟩ := h
  exact ⟨⟨p, h5⟩, cell_at h1 2, free_of h1, lt_of_block h1⟩
theorem StB.cons (h : StB w R TB 3 W) (hR : R < w.heap.size) {p m n c : Nat} {w2 : World} (hg : (W.setCell ⟨TB, 1, none⟩ (.int .i64 n)).grownBy w2 (some R)) (hA : R4At w2 R s p m 0) (hp : p ≤ s.size) : CsT w R s TB ((rowsV s c p).term 3 n m) n m c 0 0 (.slice none 0 0) w2 := by
  obtain ⟨e0, e1, e2, _⟩ := h.setN (n : Int)
  have hlt := h.2.2.2
  have z := lt_of_block e0
  refine ⟨(Only.block hg z (by omega)).trans e0, (Only.block hg (lt_of_block e1) (by omega)).trans e1, Only.after e2 hg, hlt, .nil, p, KsMix.nil _ _ _, rfl, hA, hp, .inr ⟨rfl, ?_⟩⟩
  rw [Rs.prep_nil]; rfl
theorem CsT.done {r : Tl} {n m c j E : Nat} {v : Value} (h : CsT w R s TB r n m c j E v W) (hE : E ≠ 0 ∨ c ≤ j) (hm : m ≤ 600) (kc : Nat) (hk : E = 0 → kc = 0) : LpT w R s TB r d b 3 kc 0 E (.slice none 0 0) W := by
  obtain ⟨h0, h1, h2, h3, G, p, h4, h5, h6, h7, h8⟩ := h
  obtain ⟨x, cc, hv, hs⟩ := h4.slice
  have h4' := h4
  rcases h8 with ⟨he, rfl⟩ | ⟨rfl, h8⟩
  · subst hv
    exact ⟨n, x, G.len, cc, h0, h1, h2, h3, ⟨_, _, _, rfl⟩, .inl ⟨he, rfl, p, m, h6⟩⟩
  · rw [show c - j = 0 by omega] at h8
    simp only [rows, Rs.prep, Fo.app_nil, Rs.term] at h8
    subst hv h8
    rw [hk rfl]
    exact ⟨n, x, G.len, cc, h0, h1, h2, h3, ⟨_, _, _, rfl⟩, .inr ⟨rfl, 3, n, G, .nil, p, m, rfl, rfl, rfl, rfl, rfl, TsMix.nil _ _ _, hs.weak (fun y hy => ⟨hy.1, hy.2, fun e => by cases e⟩), h6, h7, hm⟩⟩
/-- One level more has been read, or an error was met. -/
theorem CsT.next {wr : World} {r : Tl} {n m c j : Nat} {v : Value} (hL : CsT w R s TB r n m c j 0 v wr) (hjc : j < c) (hc : c ≤ 10) (hR : R < w.heap.size) :
    ∃ p, R4At wr R s p m 0 ∧ p ≤ s.size ∧ ∀ (w2 : World) (k1 n1 q E : Nat) (F : Fo) (x : Option Addr) (c1 : Nat), LvIs (rdL s 12 p 100) k1 n1 F q E → SlIn w2 (fun y => wr.heap.size ≤ y ∧ y < w2.heap.size) F x c1 → wr.grownBy w2 (some R) → R4At w2 R s (if E = 0 then q else p) m E →
      w2.cell? ⟨TB, 2, none⟩ = some v ∧ (w2.alloc (.cells #[.int .i64 k1, .int .i64 n1, .slice x F.len c1] 33)).cell? ⟨TB, 2, none⟩ = some v ∧ ∃ g' cap' w3, Hid ((Builtin.append_ #[26, 26] 26 #[v, .slice (some ⟨w2.heap.size, 0, none⟩) 1 1]).run Try.prog (w2.alloc (.cells #[.int .i64 k1, .int .i64 n1, .slice x F.len c1] 33)) = .ok (.slice (some ⟨g', 0, none⟩) (j + 1) cap') w3) ∧
        w3.cell? ⟨TB, 2, none⟩ = some v ∧ (∀ o, w3.frozen? ⟨TB, o, none⟩ = false) ∧ Hid (CsT w R s TB r n m c (j + 1) E (.slice (some ⟨g', 0, none⟩) (j + 1) cap') (w3.setCell ⟨TB, 2, none⟩ (.slice (some ⟨g', 0, none⟩) (j + 1) cap'))) := by
  obtain ⟨h0, h1, h2, h3, G, p, g3, g1, g5, g6, g7⟩ := hL
  rcases g7 with ⟨he, _⟩ | ⟨_, g2⟩
  · exact absurd rfl he
  refine ⟨p, g5, g6, fun w2 k1 n1 q E F x c1 q2 q3 q1 q4 => ?_⟩
  have hTB := lt_of_block h1
  have hvb := g3.lt
  have z1 := q1.size
  have zw := h2.size
  have nv : ∀ y, y ≤ TB → some y ≠ v.ownBlock := fun y hy e => by have := hvb y e.symm; omega
  have m2 : KsMix 0 (TB + 1) w2 v G := g3.grow z1 (fun y hy hy2 => Only.block q1 hy2 (by omega))
  have inMx : ∀ y, wr.heap.size ≤ y ∧ y < w2.heap.size → Mx 0 (TB + 1) w2 v y := fun y hy => ⟨by omega, hy.2, fun e => by have := hvb y e.symm; omega⟩
  obtain ⟨g', cap', w3, hrun, m3, same, z3, o1, o2, o3⟩ := m2.append k1 n1 (q3.weak inMx) 26 (by omega) (by omega) (by omega)
  rw [g1] at hrun m3
  have b2 : w2.heap[TB]? = some _ := (Only.block q1 hTB (by omega)).trans h1
  have b3 : w3.heap[TB]? = some _ := (same TB (by omega) (nv TB (Nat.le_refl _))).trans b2
  refine ⟨cell_at b2 2, cell_at ((heap_old _ _ (by omega)).trans b2) 2, g', cap', w3, Lib.hid hrun, cell_at b3 2, free_of b3, ?_⟩
  generalize hv' : Value.slice (some ⟨g', 0, none⟩) (j + 1) cap' = v' at hrun m3
  have z4 : (w3.setCell ⟨TB, 2, none⟩ v').heap.size = w3.heap.size := by simp
  have b4 : (w3.setCell ⟨TB, 2, none⟩ v').heap[TB]? = some (.cells #[.int .i64 3, .int .i64 (n : Int), v', .slice none 0 0] 29 (0, 0)) := heap_setCell_same w3 TB 2 _ _ v' b3
  have same4 : ∀ y, y < w2.heap.size → y ≠ TB → some y ≠ v.ownBlock → (w3.setCell ⟨TB, 2, none⟩ v').heap[y]? = w2.heap[y]? := fun y hy hn hn2 => (Below.heap_setCell _ _ _ _ hn).trans (same y hy hn2)
  have hg4 : w.grownBy (w3.setCell ⟨TB, 2, none⟩ v') (some R) := by
    refine ⟨(o1.trans q1.os).trans h2.os, (o2.trans q1.tape).trans h2.tape, (o3.trans q1.output).trans h2.output, by omega, fun i hi hne => ?_⟩
    have hiR : i ≠ R := fun e => hne (by rw [e])
    rw [same4 i (by omega) (by omega) (nv i (by omega)), Only.block q1 (by omega) hiR]
    exact h2.block i hi hne
  have hZ : ZtAt (w3.setCell ⟨TB, 2, none⟩ v') w.heap.size := ((same4 _ (by omega) (by omega) (nv _ (by omega))).trans (Only.block q1 (by omega) (by omega))).trans h0
  have hR4 : (w3.setCell ⟨TB, 2, none⟩ v').heap[R]? = w2.heap[R]? := same4 R (by omega) (by omega) (nv R (by omega))
  have hcj : c - j = (c - (j + 1)) + 1 := by omega
  have hq : (if E = 0 then q else p) ≤ s.size := by
    by_cases hE : E = 0
    · rw [if_pos hE]; exact lv_q g6 (hE ▸ q2)
    · rw [if_neg hE]; exact g6
  refine Lib.hid ⟨hZ, b4, hg4, h3, G.app (.cons k1 n1 F .nil), (if E = 0 then q else p), m3.setLow (Nat.zero_le _) (Nat.lt_succ_self _) 2 v', by rw [Fo.app_len, g1]; rfl, hR4.trans q4, hq, ?_⟩
  cases hrd : rdL s 12 p 100 with
  | no er =>
    rw [hrd] at q2
    obtain ⟨_, _, _, _, rfl⟩ := q2
    refine .inl ⟨rdL_err s 12 p 100 E hrd, ?_⟩
    rw [g2, hcj, rows_no (by unfold lvStep; rw [hrd])]; rfl
  | ok kk nn FF qq ll =>
    rw [hrd] at q2
    obtain ⟨rfl, rfl, rfl, rfl, rfl⟩ := q2
    refine .inr ⟨rfl, ?_⟩
    rw [if_pos rfl, g2, hcj, rows_ok (q := q) (l' := 0) (by unfold lvStep; rw [hrd]), Rs.prep_prep]
theorem StB.var (h : StB w R TB 1 W) {q m' n q2 E : Nat} (hA : R4At W R s q2 m' E) (hN : NIs s q (1000 + b) n q2 E) (hR : R < w.heap.size) (hq : q ≤ s.size) (hm : m' ≤ 600) : LpT w R s TB (rdKt s (rdT s d) 1 b q m') d b 1 0 0 E (.slice none 0 0) (W.setCell ⟨TB, 1, none⟩ (.int .i64 n)) := by
  rw [rdKt_var hN]
  by_cases hE : E = 0
  · subst hE
    rw [if_pos rfl]
    exact StB.leaf (kN := 1) h hR hA (hN.le hq) hm n
  · rw [if_neg hE]
    exact h.noN hR hA hE n 0
/-- A Const of which a number is wrong. -/
theorem StB.consN (h : StB w R TB 3 W) {p m E : Nat} (hA : R4At W R s p m E) (hE : E ≠ 0) (hR : R < w.heap.size) (hp : p ≤ s.size) (n : Nat) : CsT w R s TB (.no E) n m 0 0 E (.slice none 0 0) (W.setCell ⟨TB, 1, none⟩ (.int .i64 n)) := by
  obtain ⟨e0, e1, e2, e3⟩ := h.setN (n : Int)
  exact ⟨e0, e1, e2, h.2.2.2, .nil, p, KsMix.nil _ _ _, rfl, (e3 R (by have := h.2.2.2; omega)).trans hA, hp, .inl ⟨hE, rfl⟩⟩
theorem StB.consE (h : StB w R TB 3 W) (hR : R < w.heap.size) {p m n c E : Nat} {w2 : World} (hE : E ≠ 0) (hg : (W.setCell ⟨TB, 1, none⟩ (.int .i64 n)).grownBy w2 (some R)) (hA : R4At w2 R s p m E) (hp : p ≤ s.size) : CsT w R s TB (.no E) n m c 0 E (.slice none 0 0) w2 := by
  obtain ⟨e0, e1, e2, _⟩ := h.setN (n : Int)
  have hlt := h.2.2.2
  have z := lt_of_block e0
  exact ⟨(Only.block hg z (by omega)).trans e0, (Only.block hg (lt_of_block e1) (by omega)).trans e1, Only.after e2 hg, hlt, .nil, p, KsMix.nil _ _ _, rfl, hA, hp, .inl ⟨hE, rfl⟩⟩
theorem LtEnd.facts {r : Tl} {k n : Int} {la : Option Addr} {ln lc : Nat} {ka : Option Addr} {kn kc : Nat} {wr : World} (h : LtEnd w R s TB r k n la ln lc ka kn kc wr) :
    (wr.cell? ⟨w.heap.size, 0, none⟩ = some (.int .i64 0) ∧ wr.cell? ⟨w.heap.size, 1, none⟩ = some (.int .i64 0) ∧ wr.cell? ⟨w.heap.size, 2, none⟩ = some (.slice none 0 0) ∧ wr.cell? ⟨w.heap.size, 3, none⟩ = some (.slice none 0 0) ∧ (∀ o, wr.frozen? ⟨w.heap.size, o, none⟩ = false)) ∧
    wr.cell? ⟨TB, 0, none⟩ = some (.int .i64 k) ∧ wr.cell? ⟨TB, 1, none⟩ = some (.int .i64 n) ∧ wr.cell? ⟨TB, 2, none⟩ = some (.slice la ln lc) ∧ wr.cell? ⟨TB, 3, none⟩ = some (.slice ka kn kc) := by
  obtain ⟨h0, h1, _⟩ := h
  exact ⟨⟨cell_at h0 0, cell_at h0 1, cell_at h0 2, cell_at h0 3, free_of h0⟩, cell_at h1 0, cell_at h1 1, cell_at h1 2, cell_at h1 3⟩
end
end Go.Proofs.Ythnkoamabfaioaa
