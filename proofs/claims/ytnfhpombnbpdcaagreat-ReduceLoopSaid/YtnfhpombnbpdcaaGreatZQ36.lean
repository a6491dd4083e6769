/- Ymem. No condition but those that stand in each statement. -/
import Derived.Test.YtnfhpombnbpdcaaGreatZQ29
import Derived.Test.YtnfhpombnbpdcaaGreatZQ26
import Derived.Test.YtnfhpombnbpdcaaGreatZQ33
namespace Go.Proofs.YtnfhpombnbpdcaaGreat
open Go.RowKit
def stF : List Tm → Ft
  | [] => .nil
  | x :: xs => (stF xs).app x.one
theorem stF_len : ∀ xs : List Tm, (stF xs).len = xs.length
  | [] => rfl
  | x :: xs => by rw [stF, Ft.app_len, stF_len xs]; rfl
theorem TsMix.append8 {B lo : Nat} {W : World} {v : Value} {G F : Ft} {L : Fo} {la x : Option Addr} {lc c : Nat} (h : TsMix B lo W v G) (k n : Int) (hl : SlIn W (Mx B lo W v) L la lc) (hs : TlIn W (Mx B lo W v) F x c) (ty : TypeId) (hG : G.len ≤ 8000000) (hW : lo ≤ W.heap.size) :
    ∃ g' cap' w3, (Builtin.append_ #[28, 28] ty #[v, .slice (some ⟨W.heap.size, 0, none⟩) 1 1]).run Tryz.prog (W.alloc (.cells #[.int .i64 k, .int .i64 n, .slice la L.len lc, .slice x F.len c] 30)) = .ok (.slice (some ⟨g', 0, none⟩) (G.len + 1) cap') w3 ∧
      (TsMix B lo w3 (.slice (some ⟨g', 0, none⟩) (G.len + 1) cap') (G.app (.cons k n L F .nil)) ∧ ∀ b, b < W.heap.size → some b ≠ v.ownBlock → some b ≠ (Value.slice (some ⟨g', 0, none⟩) (G.len + 1) cap').ownBlock) ∧ (∀ b, b < W.heap.size → some b ≠ v.ownBlock → w3.heap[b]? = W.heap[b]?) ∧ W.heap.size + 1 ≤ w3.heap.size ∧ w3.os = W.os ∧ w3.tape = W.tape ∧ w3.output = W.output := by
  obtain ⟨xs, h1, h2⟩ := h
  obtain ⟨i0, hi, hz0, hz1, hz2⟩ := info_parts infoTerm
  have hE := heap_new W (.cells #[.int .i64 k, .int .i64 n, .slice la L.len lc, .slice x F.len c] 30)
  have hc : ∀ i u, [Value.int .i64 k, .int .i64 n, .slice la L.len lc, .slice x F.len c][i]? = some u → (W.alloc (.cells #[.int .i64 k, .int .i64 n, .slice la L.len lc, .slice x F.len c] 30)).cell? ((⟨W.heap.size, 0, none⟩ : Addr).add i) = some u := by
    intro i u hi
    match i, hi with
    | 0, hi => cases hi; exact cell_at hE 0
    | 1, hi => cases hi; exact cell_at hE 1
    | 2, hi => cases hi; exact cell_at hE 2
    | 3, hi => cases hi; exact cell_at hE 3
  have ho : ∀ u ∈ [Value.int .i64 k, .int .i64 n, .slice la L.len lc, .slice x F.len c], u.oneCell' = true := by
    intro u hu
    simp only [List.mem_cons, List.not_mem_nil, or_false] at hu
    rcases hu with rfl | rfl | rfl | rfl <;> rfl
  obtain ⟨v', w3, hrun, a1, a2, _, a3⟩ := run_append_own_at (P := Tryz.prog) _ lo 28 ty 30 i0 _ 4 64 Tryz.underlying28 hi hz0 hz1 hz2 rfl (by omega) v G.len xs (h1.alloc _) ⟨W.heap.size, 0, none⟩ 1 1 _ rfl hc ho (by unfold maxLen; omega) (by omega) (by simp; omega)
  obtain ⟨g', cap', rfl⟩ := ownsRow_is a1 (Nat.succ_pos _)
  have z2 := a2.size
  rw [World.size_alloc] at z2
  have same : ∀ b, b < W.heap.size → some b ≠ v.ownBlock → w3.heap[b]? = W.heap[b]? := fun b hb hn => (a2.block b (by rw [World.size_alloc]; omega) hn).trans (heap_old _ _ hb)
  have hnew : ∀ b, b < W.heap.size → some b ≠ v.ownBlock → some b ≠ (Value.slice (some ⟨g', 0, none⟩) (G.len + 1) cap').ownBlock := fun b hb hn => by
    rcases a3 with a3 | a3
    · rw [a3]; exact hn
    · rw [a3]; intro e; injection e with e; simp at e; omega
  have hQ : ∀ b, Mx B lo W v b → Mx B lo w3 (.slice (some ⟨g', 0, none⟩) (G.len + 1) cap') b := fun b hb => ⟨hb.1, by have := hb.2.1; omega, hnew b hb.2.1 hb.2.2⟩
  refine ⟨g', cap', w3, hrun, ⟨⟨xs ++ [.int .i64 k, .int .i64 n, .slice la L.len lc, .slice x F.len c], ?_, ?_⟩, hnew⟩, same, z2, a2.os, a2.tape, a2.output⟩
  · rw [Ft.app_len]; exact a1
  · exact RepT.snoc ((hl.keep (fun b hb => same b hb.2.1 hb.2.2)).weak hQ) (hs.turn (fun b hb => same b hb.2.1 hb.2.2) hQ) (h2.turn (fun b hb => same b hb.2.1 hb.2.2) hQ)
theorem TsMix.drop {B lo : Nat} {W : World} {v : Value} {G : Ft} {x : Tm} (h : TsMix B lo W v (G.app x.one)) : ∃ (g cap : Nat) (la : Option Addr) (lc : Nat) (ka : Option Addr) (kc : Nat), v = .slice (some ⟨g, 0, none⟩) (G.len + 1) cap ∧ TsMix B lo W (.slice (some ⟨g, 0, none⟩) G.len cap) G ∧ G.len + 1 ≤ cap ∧ cap ≤ maxLen ∧
    W.cell? ⟨g, G.len * 4, none⟩ = some (.int .i64 x.k) ∧ W.cell? ⟨g, G.len * 4 + 1, none⟩ = some (.int .i64 x.n) ∧ W.cell? ⟨g, G.len * 4 + 2, none⟩ = some (.slice la x.ls.len lc) ∧ W.cell? ⟨g, G.len * 4 + 3, none⟩ = some (.slice ka x.ks.len kc) ∧ SlIn W (Mx B lo W v) x.ls la lc ∧ TlIn W (Mx B lo W v) x.ks ka kc := by
  obtain ⟨xs, h1, h2⟩ := h
  obtain ⟨x1, x2, rfl, r1, r2⟩ := h2.split
  obtain ⟨la, lc, ka, kc, x3, rfl, hl, hs, hr⟩ := r2
  obtain rfl : x3 = [] := hr
  have hlen : (G.app x.one).len = G.len + 1 := by rw [Ft.app_len]; rfl
  have hx1 := r1.length
  rw [hlen] at h1
  obtain ⟨g, cap, rfl⟩ := ownsRow_is h1 (Nat.succ_pos _)
  have hc : ∀ j, j < 4 → W.cell? ⟨g, G.len * 4 + j, none⟩ = [Value.int .i64 x.k, .int .i64 x.n, .slice la x.ls.len lc, .slice ka x.ks.len kc][j]? := fun j hj => by
    rw [World.ownsRow.cellAt h1 (G.len * 4 + j) (by omega), List.getElem?_append_right (by omega), show G.len * 4 + j - x1.length = j by omega]
  have hcap : G.len + 1 ≤ cap ∧ cap ≤ maxLen := by
    rcases h1.2 with ⟨e, _⟩ | ⟨g', c, cur, e, _, _, hl, hm, _⟩
    · cases e
    · injection e with _ _ e
      subst e
      exact ⟨hl, hm⟩
  refine ⟨g, cap, la, lc, ka, kc, rfl, ⟨x1, ⟨hx1, ?_⟩, ?_⟩, hcap.1, hcap.2, hc 0 (by omega), hc 1 (by omega), hc 2 (by omega), hc 3 (by omega), hl, hs⟩
  · rcases h1.2 with ⟨e, _⟩ | ⟨g', c, cur, e, hb, hh, hl, hm, hs, ht⟩
    · cases e
    · injection e with e1 _ e3
      refine .inr ⟨g', c, cur, by rw [e1, e3], hb, hh, by omega, hm, hs, ?_⟩
      have h3 : List.take (G.len * 4) (x1 ++ [Value.int .i64 x.k, .int .i64 x.n, .slice la x.ls.len lc, .slice ka x.ks.len kc]) = x1 := by rw [← hx1]; exact List.take_left
      have h4 : List.take (G.len * 4) (List.take ((G.len + 1) * 4) cur.toList) = x1 := by rw [ht]; exact h3
      rwa [List.take_take, Nat.min_eq_left (by omega)] at h4
  · exact r1
def AcP (MB lo : Nat) (w w' : World) : Prop := w'.os = w.os ∧ w'.tape = w.tape ∧ w'.output = w.output ∧ w.heap.size ≤ w'.heap.size ∧ ∀ b, b < lo → b < w.heap.size → b ≠ MB → w'.heap[b]? = w.heap[b]?
theorem AcP.refl (MB lo : Nat) (w : World) : AcP MB lo w w := ⟨rfl, rfl, rfl, Nat.le_refl _, fun _ _ _ _ => rfl⟩
theorem AcP.trans {MB lo : Nat} {a b c : World} (h : AcP MB lo a b) (k : AcP MB lo b c) : AcP MB lo a c :=
  ⟨k.1.trans h.1, k.2.1.trans h.2.1, k.2.2.1.trans h.2.2.1, Nat.le_trans h.2.2.2.1 k.2.2.2.1, fun q h1 h2 h3 => (k.2.2.2.2 q h1 (Nat.lt_of_lt_of_le h2 h.2.2.2.1) h3).trans (h.2.2.2.2 q h1 h2 h3)⟩
theorem AcP.of {MB lo : Nat} {a b : World} (h : Below a.heap.size a b) : AcP MB lo a b := ⟨h.os, h.tape, h.output, h.size, fun q _ h2 _ => h.block q h2⟩
theorem AcP.only {MB lo : Nat} {a b : World} (h : a.grownBy b (some MB)) : AcP MB lo a b := ⟨h.os, h.tape, h.output, h.size, fun _ _ h2 h3 => Only.block h h2 h3⟩
theorem AcP.set (MB lo : Nat) (w : World) (i : Nat) (v : Value) : AcP MB lo w (w.setCell ⟨MB, i, none⟩ v) := AcP.only (Only.set _ _ _ _)
def MiAt (B lo MB : Nat) (ea : Option Addr) (len cap : Nat) (T : Tm) (G : Ft) (n : Nat) (W : World) (la : Option Addr) (lc : Nat) (ka : Option Addr) (kc : Nat) (av : Value) : Prop :=
  W.heap[MB]? = some (.cells #[.slice ea len cap, .int .i64 T.k, .int .i64 T.n, .slice la T.ls.len lc, .slice ka T.ks.len kc, av, .int .i64 n] 64 (0, 0)) ∧ SlIn W (Mx B lo W av) T.ls la lc ∧ TlIn W (Mx B lo W av) T.ks ka kc ∧ TsMix B lo W av G ∧ B ≤ MB ∧ MB < lo ∧ lo ≤ W.heap.size
def Mi (B lo MB : Nat) (ea : Option Addr) (len cap : Nat) (T : Tm) (G : Ft) (n : Nat) (W : World) : Prop := ∃ la lc ka kc av, MiAt B lo MB ea len cap T G n W la lc ka kc av
theorem MiAt.cells {B lo MB : Nat} {ea : Option Addr} {len cap : Nat} {T : Tm} {G : Ft} {n : Nat} {W : World} {la : Option Addr} {lc : Nat} {ka : Option Addr} {kc : Nat} {av : Value} (h : MiAt B lo MB ea len cap T G n W la lc ka kc av) :
    (W.cell? ⟨MB, 0, none⟩ = some (.slice ea len cap) ∧ W.cell? ⟨MB, 1, none⟩ = some (.int .i64 T.k) ∧ W.cell? ⟨MB, 2, none⟩ = some (.int .i64 T.n) ∧ W.cell? ⟨MB, 3, none⟩ = some (.slice la T.ls.len lc) ∧ W.cell? ⟨MB, 4, none⟩ = some (.slice ka T.ks.len kc) ∧ W.cell? ⟨MB, 5, none⟩ = some av ∧ W.cell? ⟨MB, 6, none⟩ = some (.int .i64 n)) ∧ (∀ o, W.frozen? ⟨MB, o, none⟩ = false) ∧ MB < W.heap.size :=
  ⟨⟨cell_at h.1 0, cell_at h.1 1, cell_at h.1 2, cell_at h.1 3, cell_at h.1 4, cell_at h.1 5, cell_at h.1 6⟩, free_of h.1, lt_of_block h.1⟩
theorem Mx.up {B lo : Nat} {W W' : World} {v : Value} (hz : W.heap.size ≤ W'.heap.size) {b : Nat} (h : Mx B lo W v b) : Mx B lo W' v b := ⟨h.1, Nat.lt_of_lt_of_le h.2.1 hz, h.2.2⟩
theorem MiAt.later {B lo MB : Nat} {ea : Option Addr} {len cap : Nat} {T : Tm} {G : Ft} {n : Nat} {W W' : World} {la : Option Addr} {lc : Nat} {ka : Option Addr} {kc : Nat} {av : Value} (h : MiAt B lo MB ea len cap T G n W la lc ka kc av) (hb : Below W.heap.size W W') : MiAt B lo MB ea len cap T G n W' la lc ka kc av := by
  obtain ⟨h1, h2, h3, h4, h5, h6, h7⟩ := h
  exact ⟨(hb.block _ (lt_of_block h1)).trans h1, (h2.keep (fun b hx => hb.block b hx.2.1)).weak (fun b hx => hx.up hb.size), h3.turn (fun b hx => hb.block b hx.2.1) (fun b hx => hx.up hb.size), h4.later hb, h5, h6, Nat.le_trans h7 hb.size⟩
theorem Mx.off {B lo MB : Nat} {W : World} {v : Value} (h5 : B ≤ MB) (h6 : MB < lo) {b : Nat} (h : Mx B lo W v b) : b ≠ MB := by have := h.1; omega
theorem MiAt.keep {B lo MB : Nat} {ea : Option Addr} {len cap : Nat} {T : Tm} {G : Ft} {n : Nat} {W W' : World} {la : Option Addr} {lc : Nat} {ka : Option Addr} {kc : Nat} {av : Value} (h : MiAt B lo MB ea len cap T G n W la lc ka kc av) (hg : W.grownBy W' (some MB)) :
    SlIn W' (Mx B lo W' av) T.ls la lc ∧ TlIn W' (Mx B lo W' av) T.ks ka kc ∧ TsMix B lo W' av G := by
  obtain ⟨_, h2, h3, h4, h5, h6, _⟩ := h
  exact ⟨(h2.keep (fun b hx => Only.block hg hx.2.1 (hx.off h5 h6))).weak (fun b hx => hx.up hg.size), h3.turn (fun b hx => Only.block hg hx.2.1 (hx.off h5 h6)) (fun b hx => hx.up hg.size), h4.grown hg h5 h6⟩
theorem MiAt.burn {B lo MB : Nat} {ea : Option Addr} {len cap : Nat} {T : Tm} {G : Ft} {n : Nat} {W : World} {la : Option Addr} {lc : Nat} {ka : Option Addr} {kc : Nat} {av : Value} (h : MiAt B lo MB ea len cap T G n W la lc ka kc av) (m : Nat) : MiAt B lo MB ea len cap T G m (W.setCell ⟨MB, 6, none⟩ (.int .i64 m)) la lc ka kc av := by
  have hk := h.keep (Only.set W MB 6 (.int .i64 m))
  exact ⟨heap_setCell_same W MB 6 _ _ _ h.1, hk.1, hk.2.1, hk.2.2, h.2.2.2.2.1, h.2.2.2.2.2.1, by rw [World.size_setCell]; exact h.2.2.2.2.2.2⟩
theorem MiAt.next {B lo MB : Nat} {ea : Option Addr} {len cap : Nat} {T : Tm} {G : Ft} {n : Nat} {W0 W : World} {la : Option Addr} {lc : Nat} {ka : Option Addr} {kc : Nat} {av : Value} (h : MiAt B lo MB ea len cap T G n W0 la lc ka kc av) (hb : Below W0.heap.size W0 W) (A : Tm) {la' : Option Addr} {lc' : Nat} {ka' : Option Addr} {kc' : Nat}
    (hl : SlIn W (fun b => W0.heap.size ≤ b ∧ b < W.heap.size) A.ls la' lc') (hs : TlIn W (fun b => W0.heap.size ≤ b ∧ b < W.heap.size) A.ks ka' kc') :
    MiAt B lo MB ea len cap A G n ((((W.setCell ⟨MB, 1, none⟩ (.int .i64 A.k)).setCell ⟨MB, 2, none⟩ (.int .i64 A.n)).setCell ⟨MB, 3, none⟩ (.slice la' A.ls.len lc')).setCell ⟨MB, 4, none⟩ (.slice ka' A.ks.len kc')) la' lc' ka' kc' av ∧
    W.grownBy ((((W.setCell ⟨MB, 1, none⟩ (.int .i64 A.k)).setCell ⟨MB, 2, none⟩ (.int .i64 A.n)).setCell ⟨MB, 3, none⟩ (.slice la' A.ls.len lc')).setCell ⟨MB, 4, none⟩ (.slice ka' A.ks.len kc')) (some MB) := by
  have hW := h.later hb
  have hg : W.grownBy ((((W.setCell ⟨MB, 1, none⟩ (.int .i64 A.k)).setCell ⟨MB, 2, none⟩ (.int .i64 A.n)).setCell ⟨MB, 3, none⟩ (.slice la' A.ls.len lc')).setCell ⟨MB, 4, none⟩ (.slice ka' A.ks.len kc')) (some MB) := Only.after (Only.after (Only.after (Only.set _ _ _ _) (Only.set _ _ _ _)) (Only.set _ _ _ _)) (Only.set _ _ _ _)
  have hk := hW.keep hg
  have hz := hW.2.2.2.2.2.2
  have hz0 := h.2.2.2.2.2.2
  have hown : ∀ b, W0.heap.size ≤ b → some b ≠ av.ownBlock := fun b hx e => by have := (h.2.2.2.1.lt b e.symm).2; omega
  have hQ : ∀ b, (W0.heap.size ≤ b ∧ b < W.heap.size) → Mx B lo ((((W.setCell ⟨MB, 1, none⟩ (.int .i64 A.k)).setCell ⟨MB, 2, none⟩ (.int .i64 A.n)).setCell ⟨MB, 3, none⟩ (.slice la' A.ls.len lc')).setCell ⟨MB, 4, none⟩ (.slice ka' A.ks.len kc')) av b := fun b hx => ⟨.inr (by omega), Nat.lt_of_lt_of_le hx.2 hg.size, hown b hx.1⟩
  have hne : ∀ b, (W0.heap.size ≤ b ∧ b < W.heap.size) → b ≠ MB := fun b hx => by have := lt_of_block h.1; omega
  refine ⟨⟨?_, (hl.keep (fun b hx => Only.block hg hx.2 (hne b hx))).weak hQ, hs.turn (fun b hx => Only.block hg hx.2 (hne b hx)) hQ, hk.2.2, h.2.2.2.2.1, h.2.2.2.2.2.1, Nat.le_trans hz hg.size⟩, hg⟩
  have h1 := heap_setCell_same W MB 1 _ _ (.int .i64 A.k) hW.1
  have h2 := heap_setCell_same _ MB 2 _ _ (.int .i64 A.n) h1
  have h3 := heap_setCell_same _ MB 3 _ _ (.slice la' A.ls.len lc') h2
  have h4 := heap_setCell_same _ MB 4 _ _ (.slice ka' A.ks.len kc') h3
  exact h4
theorem MiAt.push {B lo MB : Nat} {ea : Option Addr} {len cap : Nat} {T : Tm} {G : Ft} {n : Nat} {W W2 : World} {la : Option Addr} {lc : Nat} {ka : Option Addr} {kc : Nat} {av : Value} (h : MiAt B lo MB ea len cap T G n W la lc ka kc av) (hb : Below W.heap.size W W2) (hG : G.len ≤ 8000000) (F X : Tm)
    {la1 : Option Addr} {lc1 : Nat} {ka1 : Option Addr} {kc1 : Nat} (f1 : SlIn W (Mx B lo W av) F.ls la1 lc1) (f2 : TlIn W (Mx B lo W av) F.ks ka1 kc1) {la2 : Option Addr} {lc2 : Nat} {ka2 : Option Addr} {kc2 : Nat} (x1 : SlIn W (Mx B lo W av) X.ls la2 lc2) (x2 : TlIn W (Mx B lo W av) X.ks ka2 kc2) :
    ∃ g' cap' w3, (Builtin.append_ #[28, 28] 28 #[av, .slice (some ⟨W2.heap.size, 0, none⟩) 1 1]).run Tryz.prog (W2.alloc (.cells #[.int .i64 X.k, .int .i64 X.n, .slice la2 X.ls.len lc2, .slice ka2 X.ks.len kc2] 30)) = .ok (.slice (some ⟨g', 0, none⟩) (G.len + 1) cap') w3 ∧
      (∀ o, w3.frozen? ⟨MB, o, none⟩ = false) ∧ MB < w3.heap.size ∧ ((∀ p, W.heap.size ≤ p → p < W2.heap.size → w3.heap[p]? = W2.heap[p]? ∧ ((((w3.setCell ⟨MB, 1, none⟩ (.int .i64 F.k)).setCell ⟨MB, 2, none⟩ (.int .i64 F.n)).setCell ⟨MB, 3, none⟩ (.slice la1 F.ls.len lc1)).setCell ⟨MB, 4, none⟩ (.slice ka1 F.ks.len kc1)).heap[p]? = W2.heap[p]?) ∧ w3.heap[MB]? = some (.cells #[.slice ea len cap, .int .i64 T.k, .int .i64 T.n, .slice la T.ls.len lc, .slice ka T.ks.len kc, av, .int .i64 n] 64 (0, 0)) ∧ ((((w3.setCell ⟨MB, 1, none⟩ (.int .i64 F.k)).setCell ⟨MB, 2, none⟩ (.int .i64 F.n)).setCell ⟨MB, 3, none⟩ (.slice la1 F.ls.len lc1)).setCell ⟨MB, 4, none⟩ (.slice ka1 F.ks.len kc1)).cell? ⟨MB, 5, none⟩ = some av) ∧
      MiAt B lo MB ea len cap F (G.app X.one) n (((((w3.setCell ⟨MB, 1, none⟩ (.int .i64 F.k)).setCell ⟨MB, 2, none⟩ (.int .i64 F.n)).setCell ⟨MB, 3, none⟩ (.slice la1 F.ls.len lc1)).setCell ⟨MB, 4, none⟩ (.slice ka1 F.ks.len kc1)).setCell ⟨MB, 5, none⟩ (.slice (some ⟨g', 0, none⟩) (G.len + 1) cap')) la1 lc1 ka1 kc1 (.slice (some ⟨g', 0, none⟩) (G.len + 1) cap') ∧
      AcP MB lo W (((((w3.setCell ⟨MB, 1, none⟩ (.int .i64 F.k)).setCell ⟨MB, 2, none⟩ (.int .i64 F.n)).setCell ⟨MB, 3, none⟩ (.slice la1 F.ls.len lc1)).setCell ⟨MB, 4, none⟩ (.slice ka1 F.ks.len kc1)).setCell ⟨MB, 5, none⟩ (.slice (some ⟨g', 0, none⟩) (G.len + 1) cap')) := by
  have hW := h.later hb
  have hz0 := h.2.2.2.2.2.2
  obtain ⟨h1, _, _, h4, h5, h6, h7⟩ := hW
  have up : ∀ b, Mx B lo W av b → Mx B lo W2 av b := fun b hx => hx.up hb.size
  obtain ⟨g', cap', w3, hrun, a1, same, z3, o1, o2, o3⟩ := h4.append8 X.k X.n ((x1.keep (fun b hx => hb.block b hx.2.1)).weak up) (x2.turn (fun b hx => hb.block b hx.2.1) up) 28 hG h7
  have hnMB : some MB ≠ av.ownBlock := fun e => by have := (h4.lt MB e.symm).1; omega
  have hlt := lt_of_block h1
  have e1 := (same MB hlt hnMB).trans h1
  have hg : w3.grownBy (((((w3.setCell ⟨MB, 1, none⟩ (.int .i64 F.k)).setCell ⟨MB, 2, none⟩ (.int .i64 F.n)).setCell ⟨MB, 3, none⟩ (.slice la1 F.ls.len lc1)).setCell ⟨MB, 4, none⟩ (.slice ka1 F.ks.len kc1)).setCell ⟨MB, 5, none⟩ (.slice (some ⟨g', 0, none⟩) (G.len + 1) cap')) (some MB) := Only.after (Only.after (Only.after (Only.after (Only.set _ _ _ _) (Only.set _ _ _ _)) (Only.set _ _ _ _)) (Only.set _ _ _ _)) (Only.set _ _ _ _)
  have hown : ∀ b, b < W2.heap.size → some b ≠ av.ownBlock → some b ≠ (Value.slice (some ⟨g', 0, none⟩) (G.len + 1) cap').ownBlock := a1.2
  have hsame : ∀ b, Mx B lo W av b → (((((w3.setCell ⟨MB, 1, none⟩ (.int .i64 F.k)).setCell ⟨MB, 2, none⟩ (.int .i64 F.n)).setCell ⟨MB, 3, none⟩ (.slice la1 F.ls.len lc1)).setCell ⟨MB, 4, none⟩ (.slice ka1 F.ks.len kc1)).setCell ⟨MB, 5, none⟩ (.slice (some ⟨g', 0, none⟩) (G.len + 1) cap')).heap[b]? = W.heap[b]? := fun b hx => by
    have hb2 : b < W2.heap.size := Nat.lt_of_lt_of_le hx.2.1 hb.size
    exact (Only.block hg (by omega) (hx.off h5 h6)).trans ((same b hb2 hx.2.2).trans (hb.block b hx.2.1))
  have hQ : ∀ b, Mx B lo W av b → Mx B lo (((((w3.setCell ⟨MB, 1, none⟩ (.int .i64 F.k)).setCell ⟨MB, 2, none⟩ (.int .i64 F.n)).setCell ⟨MB, 3, none⟩ (.slice la1 F.ls.len lc1)).setCell ⟨MB, 4, none⟩ (.slice ka1 F.ks.len kc1)).setCell ⟨MB, 5, none⟩ (.slice (some ⟨g', 0, none⟩) (G.len + 1) cap')) (.slice (some ⟨g', 0, none⟩) (G.len + 1) cap') b := fun b hx => by
    have hb2 : b < W2.heap.size := Nat.lt_of_lt_of_le hx.2.1 hb.size
    exact ⟨hx.1, Nat.lt_of_lt_of_le (by omega) hg.size, hown b hb2 hx.2.2⟩
  have hg4 : w3.grownBy ((((w3.setCell ⟨MB, 1, none⟩ (.int .i64 F.k)).setCell ⟨MB, 2, none⟩ (.int .i64 F.n)).setCell ⟨MB, 3, none⟩ (.slice la1 F.ls.len lc1)).setCell ⟨MB, 4, none⟩ (.slice ka1 F.ks.len kc1)) (some MB) := Only.after (Only.after (Only.after (Only.set _ _ _ _) (Only.set _ _ _ _)) (Only.set _ _ _ _)) (Only.set _ _ _ _)
  have hz2 := hb.size
  have hp : ∀ p, W.heap.size ≤ p → p < W2.heap.size → w3.heap[p]? = W2.heap[p]? := fun p h1 h2 => same p h2 (fun e => by have := (h.2.2.2.1.lt p e.symm).2; omega)
  have h4' := heap_setCell_same _ MB 4 _ _ (.slice ka1 F.ks.len kc1) (heap_setCell_same _ MB 3 _ _ (.slice la1 F.ls.len lc1) (heap_setCell_same _ MB 2 _ _ (.int .i64 F.n) (heap_setCell_same w3 MB 1 _ _ (.int .i64 F.k) e1)))
  refine ⟨g', cap', w3, hrun, free_of e1, lt_of_block e1, ⟨fun p q1 q2 => ⟨hp p q1 q2, (Only.block hg4 (by omega) (by have := lt_of_block h.1; omega)).trans (hp p q1 q2)⟩, e1, cell_at h4' 5⟩, ⟨?_, (f1.keep hsame).weak hQ, f2.turn hsame hQ, a1.1.grown hg h5 h6, h5, h6, Nat.le_trans (by omega) hg.size⟩, ?_⟩
  · have k1 := heap_setCell_same w3 MB 1 _ _ (.int .i64 F.k) e1
    have k2 := heap_setCell_same _ MB 2 _ _ (.int .i64 F.n) k1
    have k3 := heap_setCell_same _ MB 3 _ _ (.slice la1 F.ls.len lc1) k2
    have k4 := heap_setCell_same _ MB 4 _ _ (.slice ka1 F.ks.len kc1) k3
    have k5 := heap_setCell_same _ MB 5 _ _ (.slice (some ⟨g', 0, none⟩) (G.len + 1) cap') k4
    exact k5
  · refine ⟨hg.os.trans (o1.trans hb.os), hg.tape.trans (o2.trans hb.tape), hg.output.trans (o3.trans hb.output), by have := hb.size; have := hg.size; omega, fun b h1 h2 h3 => ?_⟩
    have hb2 : b < W2.heap.size := Nat.lt_of_lt_of_le h2 hb.size
    exact (Only.block hg (by omega) h3).trans ((same b hb2 (fun e => by have := (h4.lt b e.symm).1; omega)).trans (hb.block b h2))
theorem MiAt.pop {B lo MB : Nat} {ea : Option Addr} {len cap : Nat} {T : Tm} {G : Ft} {n : Nat} {W W2 : World} {la : Option Addr} {lc : Nat} {ka : Option Addr} {kc : Nat} {av : Value} {x : Tm} (h : MiAt B lo MB ea len cap T (G.app x.one) n W la lc ka kc av) (hb : Below W.heap.size W W2) :
    ∃ (g c : Nat) (xa : Option Addr) (xc : Nat) (ya : Option Addr) (yc : Nat), av = .slice (some ⟨g, 0, none⟩) (G.len + 1) c ∧ G.len + 1 ≤ c ∧ c ≤ maxLen ∧ (W.cell? ⟨g, G.len * 4, none⟩ = some (.int .i64 x.k) ∧ W.cell? ⟨g, G.len * 4 + 1, none⟩ = some (.int .i64 x.n) ∧ W.cell? ⟨g, G.len * 4 + 2, none⟩ = some (.slice xa x.ls.len xc) ∧ W.cell? ⟨g, G.len * 4 + 3, none⟩ = some (.slice ya x.ks.len yc)) ∧ g < W.heap.size ∧
      SlIn W (Mx B lo W av) x.ls xa xc ∧ TlIn W (Mx B lo W av) x.ks ya yc ∧ MiAt B lo MB ea len cap T G n (W2.setCell ⟨MB, 5, none⟩ (.slice (some ⟨g, 0, none⟩) G.len c)) la lc ka kc (.slice (some ⟨g, 0, none⟩) G.len c) := by
  obtain ⟨g, c, xa, xc, ya, yc, rfl, hd, hc, hm, c0, c1, c2, c3, hl, hs⟩ := h.2.2.2.1.drop
  have hW := h.later hb
  have hk := hW.keep (Only.set W2 MB 5 (.slice (some ⟨g, 0, none⟩) G.len c))
  have hz : lo ≤ (W2.setCell ⟨MB, 5, none⟩ (.slice (some ⟨g, 0, none⟩) G.len c)).heap.size := by rw [World.size_setCell]; exact hW.2.2.2.2.2.2
  exact ⟨g, c, xa, xc, ya, yc, rfl, hc, hm, ⟨c0, c1, c2, c3⟩, (h.2.2.2.1.lt g rfl).2, hl, hs, ⟨heap_setCell_same W2 MB 5 _ _ _ hW.1, hk.1, hk.2.1, (hd.later hb).setLow h.2.2.2.2.1 h.2.2.2.2.2.1 5 _, h.2.2.2.2.1, h.2.2.2.2.2.1, hz⟩⟩
end Go.Proofs.YtnfhpombnbpdcaaGreat
