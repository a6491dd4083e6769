/- Tmix. No condition but those that stand in each statement. -/
import Derived.Test.YtnfhpombnbpdcaaGreatZQ25
import Derived.Test.YtnfhpombnbpdcaaGreatZQ24
import Derived.Test.YtnfhpombnbpdcaaGreatZQ11
namespace Go.Proofs.YtnfhpombnbpdcaaGreat
open Go.RowKit
def TsMix (B lo : Nat) (W : World) (v : Value) (G : Ft) : Prop := ∃ xs, W.ownsRow lo 30 4 v G.len xs ∧ RepT W (Mx B lo W v) G xs
theorem TsMix.nil (B lo : Nat) (W : World) : TsMix B lo W (.slice none 0 0) .nil := ⟨[], World.ownsRow_nil _ _ _ _, rfl⟩
theorem TsMix.grow {B lo : Nat} {W W' : World} {v : Value} {G : Ft} (h : TsMix B lo W v G) (hz : W.heap.size ≤ W'.heap.size) (hk : ∀ b, (b < B ∨ lo ≤ b) → b < W.heap.size → W'.heap[b]? = W.heap[b]?) : TsMix B lo W' v G := by
  obtain ⟨xs, h1, h2⟩ := h
  refine ⟨xs, ?_, h2.turn (fun b hb => hk b hb.1 hb.2.1) (fun b hb => ⟨hb.1, Nat.lt_of_lt_of_le hb.2.1 hz, hb.2.2⟩)⟩
  refine ⟨h1.1, ?_⟩
  rcases h1.2 with hn | ⟨g, cap, cur, e, hb, hh, rest⟩
  · exact .inl hn
  · exact .inr ⟨g, cap, cur, e, hb, (hk g (.inr hb) (lt_of_block hh)).trans hh, rest⟩
theorem TsMix.grown {B lo R : Nat} {W W' : World} {v : Value} {G : Ft} (h : TsMix B lo W v G) (hg : W.grownBy W' (some R)) (hB : B ≤ R) (hR : R < lo) : TsMix B lo W' v G := h.grow hg.size (fun b h1 h2 => Only.block hg h2 (by omega))
theorem TsMix.setLow {B lo : Nat} {W : World} {v : Value} {G : Ft} (h : TsMix B lo W v G) {b : Nat} (hB : B ≤ b) (hb : b < lo) (i : Nat) (u : Value) : TsMix B lo (W.setCell ⟨b, i, none⟩ u) v G := h.grown (Only.set W b i u) hB hb
theorem TsMix.later {B lo : Nat} {W W' : World} {v : Value} {G : Ft} (h : TsMix B lo W v G) (hb : Below W.heap.size W W') : TsMix B lo W' v G := h.grow hb.size (fun b _ h2 => hb.block b h2)
theorem TsMix.lt {B lo : Nat} {W : World} {v : Value} {G : Ft} (h : TsMix B lo W v G) : ∀ g, v.ownBlock = some g → lo ≤ g ∧ g < W.heap.size := by
  obtain ⟨xs, h1, _⟩ := h
  exact h1.lt
theorem TsMix.out {B lo : Nat} {W W' : World} {v : Value} {G : Ft} (h : TsMix B lo W v G) (hlo : lo ≤ W.heap.size) (hB : B ≤ lo) {b : Nat} (hb : (b < B ∨ W.heap.size ≤ b) ∧ b < W'.heap.size) : Mx B lo W' v b :=
  ⟨by omega, hb.2, fun e => by have := h.lt b e.symm; omega⟩
theorem ownsRow_is {w : World} {base sz n : Nat} {t : TypeId} {v : Value} {xs : List Value} (h : w.ownsRow base t sz v n xs) (hn : 0 < n) : ∃ g cap, v = .slice (some ⟨g, 0, none⟩) n cap := by
  rcases h.2 with ⟨rfl, rfl⟩ | ⟨g, cap, cur, e, _⟩
  · omega
  · exact ⟨g, cap, e⟩
theorem TsMix.append {B lo : Nat} {W : World} {v : Value} {G F : Ft} {L : Fo} {la x : Option Addr} {lc c : Nat} (h : TsMix B lo W v G) (k n : Int) (hl : SlIn W (Mx B lo W v) L la lc) (hs : TlIn W (Mx B lo W v) F x c) (ty : TypeId) (hG : G.len ≤ 1000) (hW : lo ≤ W.heap.size) :
    ∃ g' cap' w3, (Builtin.append_ #[28, 28] ty #[v, .slice (some ⟨W.heap.size, 0, none⟩) 1 1]).run Tryz.prog (W.alloc (.cells #[.int .i64 k, .int .i64 n, .slice la L.len lc, .slice x F.len c] 30)) = .ok (.slice (some ⟨g', 0, none⟩) (G.len + 1) cap') w3 ∧
      TsMix B lo w3 (.slice (some ⟨g', 0, none⟩) (G.len + 1) cap') (G.app (.cons k n L F .nil)) ∧ (∀ b, b < W.heap.size → some b ≠ v.ownBlock → w3.heap[b]? = W.heap[b]?) ∧ W.heap.size + 1 ≤ w3.heap.size ∧ w3.os = W.os ∧ w3.tape = W.tape ∧ w3.output = W.output := by
  obtain ⟨xs, h1, h2⟩ := h
  obtain ⟨i0, hi, hz0, hz1, hz2⟩ := info_parts infoTerm
  have hE := heap_new W (.cells #[.int .i64 k, .int .i64 n, .slice la L.len lc, .slice x F.len c] 30)
  have hc : ∀ i u, [Value.int .i64 k, .int .i64 n, .slice la L.len lc, .slice x F.len c][i]? = some u → (W.alloc (.cells #[.int .i64 k, .int .i64 n, .slice la L.len lc, .slice x F.len c] 30)).cell? ((⟨W.heap.size, 0, none⟩ : Addr).add i) = some u := by
    intro i u hi
    match i, hi with
    | 0, hi => cases hi; exact cell_at hE 0
    | 1, hi => cases hi; exact cell_at hE 1
    | 2, hi => cases hi; exact cell_at hE 2
    | 3, hi => cases hi; exact cell_at hE 3
  have ho : ∀ u ∈ [Value.int .i64 k, .int .i64 n, .slice la L.len lc, .slice x F.len c], u.oneCell' = true := by
    intro u hu
    simp only [List.mem_cons, List.not_mem_nil, or_false] at hu
    rcases hu with rfl | rfl | rfl | rfl <;> rfl
  obtain ⟨v', w3, hrun, a1, a2, _, a3⟩ := run_append_own_at (P := Tryz.prog) _ lo 28 ty 30 i0 _ 4 64 Tryz.underlying28 hi hz0 hz1 hz2 rfl (by omega) v G.len xs (h1.alloc _) ⟨W.heap.size, 0, none⟩ 1 1 _ rfl hc ho (by unfold maxLen; omega) (by omega) (by simp; omega)
  obtain ⟨g', cap', rfl⟩ := ownsRow_is a1 (Nat.succ_pos _)
  have z2 := a2.size
  rw [World.size_alloc] at z2
  have same : ∀ b, b < W.heap.size → some b ≠ v.ownBlock → w3.heap[b]? = W.heap[b]? := fun b hb hn => (a2.block b (by rw [World.size_alloc]; omega) hn).trans (heap_old _ _ hb)
  have hnew : ∀ b, b < W.heap.size → some b ≠ v.ownBlock → some b ≠ (Value.slice (some ⟨g', 0, none⟩) (G.len + 1) cap').ownBlock := fun b hb hn => by
    rcases a3 with a3 | a3
    · rw [a3]; exact hn
    · rw [a3]; intro e; injection e with e; simp at e; omega
  have hQ : ∀ b, Mx B lo W v b → Mx B lo w3 (.slice (some ⟨g', 0, none⟩) (G.len + 1) cap') b := fun b hb => ⟨hb.1, by have := hb.2.1; omega, hnew b hb.2.1 hb.2.2⟩
  refine ⟨g', cap', w3, hrun, ⟨xs ++ [.int .i64 k, .int .i64 n, .slice la L.len lc, .slice x F.len c], ?_, ?_⟩, same, z2, a2.os, a2.tape, a2.output⟩
  · rw [Ft.app_len]; exact a1
  · exact RepT.snoc ((hl.keep (fun b hb => same b hb.2.1 hb.2.2)).weak hQ) (hs.turn (fun b hb => same b hb.2.1 hb.2.2) hQ) (h2.turn (fun b hb => same b hb.2.1 hb.2.2) hQ)
theorem TsMix.slice {B lo : Nat} {W : World} {v : Value} {G : Ft} (h : TsMix B lo W v G) : ∃ x c, v = .slice x G.len c ∧ TlIn W (fun b => (b < B ∨ lo ≤ b) ∧ b < W.heap.size) G x c := by
  obtain ⟨xs, ho, hr⟩ := h
  have hr2 := hr.turn (w' := W) (Q := fun b => (b < B ∨ lo ≤ b) ∧ b < W.heap.size) (fun _ _ => rfl) (fun b hb => ⟨hb.1, hb.2.1⟩)
  rcases ho.2 with ⟨rfl, h0⟩ | ⟨g, cap, cur, rfl, hb, hh, hle, hm, hs, ht⟩
  · rw [Ft.len_zero h0]
    exact ⟨none, 0, rfl, TlIn.none _ _⟩
  · refine ⟨some ⟨g, 0, none⟩, cap, rfl, hle, hm, (fun h => by cases h), fun _ => ⟨g, 0, rfl, ⟨.inr hb, lt_of_block hh⟩, RepT.ftIn hr2 (fun j u hu => ?_)⟩⟩
    rw [Nat.zero_add]
    rw [ho.cellAt j (by have := (List.getElem?_eq_some_iff.1 hu).1; rw [hr.length] at this; exact this)]
    exact hu
def TmPost (B : Nat) (T : Tm) (w : World) (e : Ending) (w' : World) : Prop :=
  ∃ (la : Option Addr) (lc : Nat) (x : Option Addr) (c : Nat), e = .returned (.agg #[.int .i64 T.k, .int .i64 T.n, .slice la T.ls.len lc, .slice x T.ks.len c]) ∧ SlIn w' (fun b => (b < B ∨ w.heap.size ≤ b) ∧ b < w'.heap.size) T.ls la lc ∧ TlIn w' (fun b => (b < B ∨ w.heap.size ≤ b) ∧ b < w'.heap.size) T.ks x c ∧ Below w.heap.size w w'
theorem TmPost.store {B R : Nat} {T : Tm} {w w1 w3 : World} {la x : Option Addr} {lc c : Nat} (hl : SlIn w3 (fun b => (b < B ∨ w1.heap.size ≤ b) ∧ b < w3.heap.size) T.ls la lc) (hs : TlIn w3 (fun b => (b < B ∨ w1.heap.size ≤ b) ∧ b < w3.heap.size) T.ks x c) (hb : Below w.heap.size w w3) (hB : B ≤ w.heap.size) (h1 : w.heap.size ≤ R) (h2 : R < w1.heap.size) :
    TmPost B T w (.returned (.agg #[.int .i64 T.k, .int .i64 T.n, .slice la T.ls.len lc, .slice x T.ks.len c])) ((((w3.setCell ⟨R, 0, none⟩ (.int .i64 T.k)).setCell ⟨R, 1, none⟩ (.int .i64 T.n)).setCell ⟨R, 2, none⟩ (.slice la T.ls.len lc)).setCell ⟨R, 3, none⟩ (.slice x T.ks.len c)) := by
  have hg := set4_only (w := w3) R (.int .i64 T.k) (.int .i64 T.n) (.slice la T.ls.len lc) (.slice x T.ks.len c)
  refine ⟨la, lc, x, c, rfl, ?_, ?_, ?_⟩
  · exact (hl.keep (fun b hb => Only.block hg hb.2 (by omega))).weak (fun b hb => ⟨by omega, Nat.lt_of_lt_of_le hb.2 hg.size⟩)
  · exact hs.turn (fun b hb => Only.block hg hb.2 (by omega)) (fun b hb => ⟨by omega, Nat.lt_of_lt_of_le hb.2 hg.size⟩)
  · exact ⟨hg.os.trans hb.os, hg.tape.trans hb.tape, hg.output.trans hb.output, Nat.le_trans hb.size hg.size, fun q hq => (Only.block hg (by have := hb.size; omega) (by omega)).trans (hb.block q hq)⟩
end Go.Proofs.YtnfhpombnbpdcaaGreat
