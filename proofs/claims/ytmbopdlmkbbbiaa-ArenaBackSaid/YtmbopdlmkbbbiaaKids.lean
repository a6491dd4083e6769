/- Kids that are made one by one in a row of the call's own: what lies in memory, what an append does, and the row as a slice. No condition but those that stand in each statement. -/
import Derived.Test.YtmbopdlmkbbbiaaKid
import Derived.RangeFuncBox
namespace Go.Proofs.Ytmbopdlmkbbbiaa
open Go.RowKit

/-- The value v is a row of the call's own, from block lo on, that holds the forest G, whose Kids lie in other blocks from lo on. -/
def KsOwn (lo : Nat) (W : World) (v : Value) (G : Fo) : Prop := ∃ xs, W.ownsRow lo 30 3 v G.len xs ∧ RepP W (fun b => lo ≤ b ∧ b < W.heap.size ∧ some b ≠ v.ownBlock) G xs
theorem KsOwn.nil (lo : Nat) (W : World) : KsOwn lo W (.slice none 0 0) .nil := ⟨[], World.ownsRow_nil _ _ _ _, rfl⟩
theorem KsOwn.grow {lo : Nat} {W W' : World} {v : Value} {G : Fo} (h : KsOwn lo W v G) (hz : W.heap.size ≤ W'.heap.size) (hk : ∀ b, lo ≤ b → b < W.heap.size → W'.heap[b]? = W.heap[b]?) : KsOwn lo W' v G := by
  obtain ⟨xs, h1, h2⟩ := h
  refine ⟨xs, ?_, h2.keep (fun b hb => hk b hb.1 hb.2.1) (fun b hb => ⟨hb.1, by omega, hb.2.2⟩)⟩
  refine ⟨h1.1, ?_⟩
  rcases h1.2 with hn | ⟨g, cap, cur, e, hb, hh, rest⟩
  · exact .inl hn
  · exact .inr ⟨g, cap, cur, e, hb, (hk g hb (lt_of_block hh)).trans hh, rest⟩
theorem KsOwn.grown {lo R : Nat} {W W' : World} {v : Value} {G : Fo} (h : KsOwn lo W v G) (hg : W.grownBy W' (some R)) (hR : R < lo) : KsOwn lo W' v G := h.grow hg.size (fun b h1 h2 => Only.block hg h2 (by omega))
theorem KsOwn.setLow {lo : Nat} {W : World} {v : Value} {G : Fo} (h : KsOwn lo W v G) {b : Nat} (hb : b < lo) (i : Nat) (u : Value) : KsOwn lo (W.setCell ⟨b, i, none⟩ u) v G := h.grown (Only.set W b i u) hb
theorem KsOwn.alloc {lo : Nat} {W : World} {v : Value} {G : Fo} (h : KsOwn lo W v G) (o : Obj) : KsOwn lo (W.alloc o) v G := h.grow (by simp) (fun b _ h2 => heap_old _ _ h2)
theorem KsOwn.drew {lo : Nat} {W : World} {v : Value} {G : Fo} (h : KsOwn lo W v G) (m : Nat) : KsOwn lo (W.drewN m) v G := h.grow (Nat.le_refl _) (fun _ _ _ => rfl)
theorem KsOwn.lt {lo : Nat} {W : World} {v : Value} {G : Fo} (h : KsOwn lo W v G) : ∀ g, v.ownBlock = some g → lo ≤ g ∧ g < W.heap.size := by
  obtain ⟨xs, h1, _⟩ := h
  exact h1.lt
/-- A level that was made later than the row: its blocks are none of the row's. -/
theorem KsOwn.fresh {lo : Nat} {W W' : World} {v : Value} {G F : Fo} {x : Option Addr} {c : Nat} (h : KsOwn lo W v G) (hlo : lo ≤ W.heap.size) (hs : SlIn W' (fun b => W.heap.size ≤ b ∧ b < W'.heap.size) F x c) : SlIn W' (fun b => lo ≤ b ∧ b < W'.heap.size ∧ some b ≠ v.ownBlock) F x c :=
  hs.weak (fun b hb => ⟨by omega, hb.2, fun e => by have := (h.lt b e.symm).2; omega⟩)
/-- THE APPEND of a level behind the row: what it comes to, and what else has changed. -/
theorem KsOwn.append {lo : Nat} {W : World} {v : Value} {G F : Fo} {x : Option Addr} {c : Nat} (h : KsOwn lo W v G) (k n : Int) (hs : SlIn W (fun b => lo ≤ b ∧ b < W.heap.size ∧ some b ≠ v.ownBlock) F x c) (ty : TypeId) (hG : G.len ≤ 1000) (hlo : 1 ≤ lo) (hW : lo ≤ W.heap.size) :
    ∃ g' cap' w3, (Builtin.append_ #[28, 28] ty #[v, .slice (some ⟨W.heap.size, 0, none⟩) 1 1]).run Try.prog (W.alloc (.cells #[.int .i64 k, .int .i64 n, .slice x F.len c] 30)) = .ok (.slice (some ⟨g', 0, none⟩) (G.len + 1) cap') w3 ∧
      KsOwn lo w3 (.slice (some ⟨g', 0, none⟩) (G.len + 1) cap') (G.app (.cons k n F .nil)) ∧ (∀ b, b < W.heap.size → some b ≠ v.ownBlock → w3.heap[b]? = W.heap[b]?) ∧ W.heap.size + 1 ≤ w3.heap.size ∧ w3.os = W.os ∧ w3.tape = W.tape ∧ w3.output = W.output := by
  obtain ⟨xs, h1, h2⟩ := h
  have hl : lo = (lo - 1) + 1 := by omega
  rw [hl] at h1
  obtain ⟨v', w3, hrun, a1, a2, a3⟩ := append_kid ty h1 hG (by omega) k n x F.len c
  obtain ⟨g', cap', rfl⟩ := ownsRow_succ a1
  rw [← hl] at a1 h1
  have z2 := a2.size
  rw [World.size_alloc] at z2
  have same : ∀ b, b < W.heap.size → some b ≠ v.ownBlock → w3.heap[b]? = W.heap[b]? := fun b hb hn => (a2.block b (by rw [World.size_alloc]; omega) hn).trans (heap_old _ _ hb)
  have hnew : ∀ b, b < W.heap.size → some b ≠ v.ownBlock → some b ≠ (Value.slice (some ⟨g', 0, none⟩) (G.len + 1) cap').ownBlock := fun b hb hn => by
    rcases a3 with a3 | a3
    · rw [a3]; exact hn
    · rw [a3]; intro e; injection e with e; omega
  refine ⟨g', cap', w3, hrun, ⟨xs ++ [.int .i64 k, .int .i64 n, .slice x F.len c], ?_, ?_⟩, same, z2, a2.os, a2.tape, a2.output⟩
  · rw [Fo.app_len]; exact a1
  · refine RepP.snoc ?_ (h2.keep (fun b hb => same b hb.2.1 hb.2.2) (fun b hb => ⟨hb.1, by omega, hnew b hb.2.1 hb.2.2⟩))
    exact (hs.keep (fun b hb => same b hb.2.1 hb.2.2)).weak (fun b hb => ⟨hb.1, by omega, hnew b hb.2.1 hb.2.2⟩)
/-- The row as a slice. -/
theorem KsOwn.slice {lo : Nat} {W : World} {v : Value} {G : Fo} (h : KsOwn lo W v G) : ∃ x c, v = .slice x G.len c ∧ SlIn W (fun b => lo ≤ b ∧ b < W.heap.size) G x c := by
  obtain ⟨xs, h1, h2⟩ := h
  exact RepP.slice h1 (h2.keep (fun _ _ => rfl) (fun b hb => ⟨hb.1, hb.2.1⟩)) rfl (fun g hg => h1.lt g hg)
end Go.Proofs.Ytmbopdlmkbbbiaa
