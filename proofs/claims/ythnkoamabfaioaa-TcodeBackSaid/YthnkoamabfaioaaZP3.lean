/- The law's maker of terms by numbers: it makes some term whose shape is right, of so many free variables, at most so deep; it goes on in the numbers, and only makes new memory beside. -/
import Derived.Test.YthnkoamabfaioaaZP2
import Derived.Test.YthnkoamabfaioaaStep
import Derived.Deep.RegionLaw
import Derived.Test.YthnkoamabfaioaaTree
import Derived.Deep.RegionHeld3
namespace Go.Proofs.Ythnkoamabfaioaa
open Go.RowKit

/-- Where the maker stands, in the midst of a call that began at w. -/
def MkS (w W : World) (M : Nat) (a : Option Addr) (len cap t B : Nat) : Prop :=
  MkAt W M a len cap t ∧ U8In W (· < B) len a cap ∧ w.grownBy W (some M) ∧ W.heap[w.heap.size]? = some (.cells #[.int .i64 0, .int .i64 0, .slice none 0 0, .slice none 0 0] 29 (0, 0)) ∧ B ≤ M ∧ M < w.heap.size
theorem MkS.start {w : World} {M len cap t B : Nat} {a : Option Addr} (hat : MkAt w M a len cap t) (hin : U8In w (· < B) len a cap) (hB : B ≤ M) : MkS w (w.alloc (.cells #[.int .i64 0, .int .i64 0, .slice none 0 0, .slice none 0 0] 29)) M a len cap t B := by
  have hM := lt_of_block hat
  refine ⟨hat.only (Only.alloc w w.heap.size _) (by omega), hin.below ((Below.refl B w).alloc (by omega) _), Only.alloc _ _ _, heap_new _ _, hB, hM⟩
theorem MkS.next {w W W' : World} {M len cap t t2 B : Nat} {a : Option Addr} (h : MkS w W M a len cap t B) (hat : MkAt W' M a len cap t2) (hg : W.grownBy W' (some M)) : MkS w W' M a len cap t2 B := by
  obtain ⟨h1, h2, h3, h4, h5, h6⟩ := h
  have hz := h3.size
  exact ⟨hat, h2.keep (fun b hb => Only.block hg (by omega) (by omega)), Only.after h3 hg, (Only.block hg (lt_of_block h4) (by omega)).trans h4, h5, h6⟩
theorem MkS.later {w W W' : World} {M len cap t B : Nat} {a : Option Addr} (h : MkS w W M a len cap t B) (hb : Below W.heap.size W W') : MkS w W' M a len cap t B :=
  h.next ((hb.block _ (lt_of_block h.1)).trans h.1) (Only.below M hb)
theorem MkS.cells {w W : World} {M len cap t B : Nat} {a : Option Addr} (h : MkS w W M a len cap t B) : (W.cell? ⟨w.heap.size, 0, none⟩ = some (.int .i64 0) ∧ W.cell? ⟨w.heap.size, 1, none⟩ = some (.int .i64 0) ∧ W.cell? ⟨w.heap.size, 2, none⟩ = some (.slice none 0 0) ∧ W.cell? ⟨w.heap.size, 3, none⟩ = some (.slice none 0 0)) ∧ ∀ o, W.frozen? ⟨w.heap.size, o, none⟩ = false :=
  ⟨cells4 h.2.2.2.1, free_of h.2.2.2.1⟩
theorem MkS.done {v : Int} {w W : World} {M len cap t t' d lc kc B : Nat} {a la ka : Option Addr} {T : Tm} (h : MkS w W M a len cap t' B) (hok : okT v (d + 1 : Nat) T)
    (hl : SlIn W (fun b => w.heap.size < b ∧ b < W.heap.size) T.ls la lc) (hk : TlIn W (fun b => w.heap.size < b ∧ b < W.heap.size) T.ks ka kc) (ht : t' ≤ t + budT d) :
    MtOk v w M a len cap t d (.returned (.agg #[.int .i64 T.k, .int .i64 T.n, .slice la T.ls.len lc, .slice ka T.ks.len kc])) ((((W.setCell ⟨w.heap.size, 0, none⟩ (.int .i64 T.k)).setCell ⟨w.heap.size, 1, none⟩ (.int .i64 T.n)).setCell ⟨w.heap.size, 2, none⟩ (.slice la T.ls.len lc)).setCell ⟨w.heap.size, 3, none⟩ (.slice ka T.ks.len kc)) :=
  MtOk.store (Nat.le_refl _) h.2.2.2.2.2 hok hl hk h.1 ht h.2.2.1
theorem MkS.gt {w W : World} {M len cap t B : Nat} {a : Option Addr} (h : MkS w W M a len cap t B) : w.heap.size < W.heap.size := lt_of_block h.2.2.2.1
/-- What was made lies there still. -/
theorem MkS.tl {w W W' : World} {M len cap t B lo hi : Nat} {a : Option Addr} (h : MkS w W M a len cap t B) (hg : W.grownBy W' (some M)) (hlo : w.heap.size < lo) (hhi : hi ≤ W.heap.size) {F : Ft} {x : Option Addr} {c : Nat} (hs : TlIn W (fun b => lo ≤ b ∧ b < hi) F x c) : TlIn W' (fun b => lo ≤ b ∧ b < hi) F x c := by
  have := h.2.2.2.2.2
  exact hs.keep (fun b hb => Only.block hg (by omega) (by omega))
theorem MkS.sl {w W W' : World} {M len cap t B lo hi : Nat} {a : Option Addr} (h : MkS w W M a len cap t B) (hg : W.grownBy W' (some M)) (hlo : w.heap.size < lo) (hhi : hi ≤ W.heap.size) {F : Fo} {x : Option Addr} {c : Nat} (hs : SlIn W (fun b => lo ≤ b ∧ b < hi) F x c) : SlIn W' (fun b => lo ≤ b ∧ b < hi) F x c := by
  have := h.2.2.2.2.2
  exact hs.keep (fun b hb => Only.block hg (by omega) (by omega))

theorem MkS.over {w W W' : World} {M len cap t B : Nat} {a : Option Addr} (h : MkS w W M a len cap t B) (hs : ∀ b, b ≤ w.heap.size → W'.heap[b]? = W.heap[b]?) (hz : W.heap.size ≤ W'.heap.size) (h1 : W'.os = W.os) (h2 : W'.tape = W.tape) (h3 : W'.output = W.output) : MkS w W' M a len cap t B := by
  obtain ⟨p1, p2, p3, p4, p5, p6⟩ := h
  refine ⟨(hs _ (by omega)).trans p1, p2.keep (fun b hb => hs b (by omega)), ⟨h1.trans p3.os, h2.trans p3.tape, h3.trans p3.output, Nat.le_trans p3.size hz, fun b hb hn => (hs b (by omega)).trans (p3.block b hb hn)⟩, (hs _ (Nat.le_refl _)).trans p4, p5, p6⟩
/-- A Const that is being made: its box at N, its levels so far. -/
def CsR (w : World) (N : Nat) (n : Int) (M : Nat) (a : Option Addr) (len cap t0 B : Nat) (G : Fo) (v : Value) (wr : World) : Prop :=
  (∃ t', MkS w wr M a len cap t' B ∧ t' ≤ t0 + 11 * G.len) ∧ wr.heap[N]? = some (.cells #[.int .i64 3, .int .i64 n, v, .slice none 0 0] 29 (0, 0)) ∧ KsMix 0 (N + 1) wr v G ∧ w.heap.size < N ∧ lvB 5 10 G = true
theorem CsR.drew {w : World} {N M len cap t0 B : Nat} {n : Int} {a : Option Addr} {G : Fo} {v : Value} {wr : World} (h : CsR w N n M a len cap t0 B G v wr) : CsR w N n M a len cap t0 B G v wr.drew := by
  obtain ⟨⟨t', hS, ht⟩, hbx, hK, hN, hlv⟩ := h
  have hb : Below wr.heap.size wr wr.drew := (Below.refl _ _).drew
  exact ⟨⟨t', hS.later hb, ht⟩, (hb.block _ (lt_of_block hbx)).trans hbx, hK.later hb, hN, hlv⟩
theorem CsR.next {w : World} {N M len cap t0 B : Nat} {n : Int} {a : Option Addr} {G : Fo} {v : Value} {wr : World} (h : CsR w N n M a len cap t0 B G v wr) (hG : G.len ≤ 2) {t' : Nat} (hS : MkS w wr M a len cap t' B) (ht : t' ≤ t0 + 11 * G.len) {e : Ending} {w2 : World} (hm : MlOk 3 2 wr M a len cap t' 2 e w2) :
    ∃ (lk ln : Int) (F : Fo) (x : Option Addr) (c : Nat), e = .returned (.agg #[.int .i64 lk, .int .i64 ln, .slice x F.len c]) ∧ w2.cell? ⟨N, 2, none⟩ = some v ∧ (w2.alloc (.cells #[.int .i64 lk, .int .i64 ln, .slice x F.len c] 33)).cell? ⟨N, 2, none⟩ = some v ∧
      ∃ g' cap' w3, Hid ((Builtin.append_ #[26, 26] 26 #[v, .slice (some ⟨w2.heap.size, 0, none⟩) 1 1]).run Try.prog (w2.alloc (.cells #[.int .i64 lk, .int .i64 ln, .slice x F.len c] 33)) = .ok (.slice (some ⟨g', 0, none⟩) (G.len + 1) cap') w3) ∧
        w3.cell? ⟨N, 2, none⟩ = some v ∧ (∀ o, w3.frozen? ⟨N, o, none⟩ = false) ∧ Hid (CsR w N n M a len cap t0 B (G.app (.cons lk ln F .nil)) (.slice (some ⟨g', 0, none⟩) (G.len + 1) cap') (w3.setCell ⟨N, 2, none⟩ (.slice (some ⟨g', 0, none⟩) (G.len + 1) cap'))) := by
  obtain ⟨_, hbx, hK, hN, hlv⟩ := h
  obtain ⟨lk, ln, F, x, c, t2, rfl, hok, hs, hat2, ht2, hg⟩ := hm
  have hM := hS.2.2.2.2.2
  have hlt := lt_of_block hbx
  have e2 := (Only.block hg hlt (by omega)).trans hbx
  have hz := hg.size
  have hs' : SlIn w2 (fun b => (b < 0 ∨ wr.heap.size ≤ b) ∧ b < w2.heap.size) F x c := hs.weak (fun b hb => ⟨.inr hb.1, hb.2⟩)
  obtain ⟨g', cap', w3, hrun, k3, same, z3, o1, o2, o3⟩ := (hK.grown hg (Nat.zero_le _) (by omega)).append lk ln (hK.fresh (by omega) (Nat.zero_le _) hs') 26 (by omega) (by omega) (by omega)
  have nv : ∀ b, b ≤ N → some b ≠ v.ownBlock := fun b hb e => by have := (hK.lt b e.symm).1; omega
  have f2 := (same _ (by omega) (nv _ (Nat.le_refl _))).trans e2
  have hb2 : bud 2 = 11 := rfl
  refine ⟨lk, ln, F, x, c, rfl, cell_at e2 2, (World.cell?_of_block (w := w2) (a := ⟨N, 2, none⟩) (heap_old w2 _ (show N < w2.heap.size by omega))).trans (cell_at e2 2), g', cap', w3, Lib.hid hrun, cell_at f2 2, free_of f2, Lib.hid ⟨⟨t2, ?_, ?_⟩, heap_setCell_same w3 _ 2 _ _ _ f2, k3.setLow (Nat.zero_le _) (by omega) 2 _, hN, lvB_app hlv ?_⟩⟩
  · refine (hS.next hat2 hg).over (fun b hb => ?_) (by simp; omega) o1 o2 o3
    rw [Below.heap_setCell _ _ _ _ (show b ≠ N by omega)]
    exact same b (by omega) (nv b (by omega))
  · rw [Fo.app_len]; simp only [Fo.len]; omega
  · simp only [lvB, hok.right (by omega : 2 ≤ 4), Bool.true_and]
theorem budT_succ (d : Nat) : budT (d + 1) = 3 * budT d + 1 := rfl
theorem sl_in {w3 w4 W : World} {P : Nat → Prop} {R : Nat} {F : Fo} {x : Option Addr} {c : Nat} (h : SlIn w3 P F x c) (hP : ∀ b, P b → R < b ∧ b < w3.heap.size) (ha : Below w3.heap.size w3 W) (hb : Below W.heap.size W w4) : SlIn w4 (fun b => R < b ∧ b < w4.heap.size) F x c :=
  (h.keep (fun b hb' => (Below.step ha hb (Nat.le_refl _)).block b (hP b hb').2)).weak (fun b hb' => ⟨(hP b hb').1, Nat.lt_of_lt_of_le (hP b hb').2 (Nat.le_trans ha.size hb.size)⟩)
theorem tl_in {w3 w4 W : World} {P : Nat → Prop} {R : Nat} {F : Ft} {x : Option Addr} {c : Nat} (h : TlIn w3 P F x c) (hP : ∀ b, P b → R < b ∧ b < w3.heap.size) (ha : Below w3.heap.size w3 W) (hb : Below W.heap.size W w4) : TlIn w4 (fun b => R < b ∧ b < w4.heap.size) F x c :=
  h.turn (fun b hb' => (Below.step ha hb (Nat.le_refl _)).block b (hP b hb').2) (fun b hb' => ⟨(hP b hb').1, Nat.lt_of_lt_of_le (hP b hb').2 (Nat.le_trans ha.size hb.size)⟩)
/-- Two terms that were made, laid one behind the other. -/
theorem pair_in {w3 w4 : World} {R lo1 hi1 lo2 : Nat} {T U : Tm} {la ka la' ka' : Option Addr} {lc kc lc' kc' : Nat} (h1 : R < lo1) (h2 : R < lo2) (h3 : R < w3.heap.size) (hh : hi1 ≤ w3.heap.size)
    (s1 : SlIn w3 (fun b => lo1 ≤ b ∧ b < hi1) T.ls la lc) (k1 : TlIn w3 (fun b => lo1 ≤ b ∧ b < hi1) T.ks ka kc) (s2 : SlIn w3 (fun b => lo2 ≤ b ∧ b < w3.heap.size) U.ls la' lc') (k2 : TlIn w3 (fun b => lo2 ≤ b ∧ b < w3.heap.size) U.ks ka' kc')
    (hb : Below (w3.alloc (.cells #[.int .i64 T.k, .int .i64 T.n, .slice la T.ls.len lc, .slice ka T.ks.len kc, .int .i64 U.k, .int .i64 U.n, .slice la' U.ls.len lc', .slice ka' U.ks.len kc'] 29)).heap.size (w3.alloc (.cells #[.int .i64 T.k, .int .i64 T.n, .slice la T.ls.len lc, .slice ka T.ks.len kc, .int .i64 U.k, .int .i64 U.n, .slice la' U.ls.len lc', .slice ka' U.ks.len kc'] 29)) w4) :
    TlIn w4 (fun b => R < b ∧ b < w4.heap.size) (T.to (U.to .nil)) (some ⟨w3.heap.size, 0, none⟩) 2 := by
  have ha : Below w3.heap.size w3 (w3.alloc (.cells #[.int .i64 T.k, .int .i64 T.n, .slice la T.ls.len lc, .slice ka T.ks.len kc, .int .i64 U.k, .int .i64 U.n, .slice la' U.ls.len lc', .slice ka' U.ks.len kc'] 29)) := (Below.refl _ _).alloc (Nat.le_refl _) _
  have hn := (hb.block w3.heap.size (by simp)).trans (heap_new w3 (.cells #[.int .i64 T.k, .int .i64 T.n, .slice la T.ls.len lc, .slice ka T.ks.len kc, .int .i64 U.k, .int .i64 U.n, .slice la' U.ls.len lc', .slice ka' U.ks.len kc'] 29))
  have hz := lt_of_block hn
  exact TlIn.mk (Nat.le_refl _) (by omega) ⟨h3, hz⟩ (FtIn.push (cell_at hn 0) (cell_at hn 1) (cell_at hn 2) (sl_in s1 (fun b hb => ⟨by omega, by omega⟩) ha hb) (cell_at hn 3) (tl_in k1 (fun b hb => ⟨by omega, by omega⟩) ha hb) (FtIn.push (cell_at hn 4) (cell_at hn 5) (cell_at hn 6) (sl_in s2 (fun b hb => ⟨by omega, by omega⟩) ha hb) (cell_at hn 7) (tl_in k2 (fun b hb => ⟨by omega, by omega⟩) ha hb) trivial))
/-- Three. -/
theorem triple_in {w3 w4 : World} {R lo1 hi1 lo2 hi2 lo3 : Nat} {T U V : Tm} {la ka la' ka' la'' ka'' : Option Addr} {lc kc lc' kc' lc'' kc'' : Nat} (h1 : R < lo1) (h2 : R < lo2) (h2' : R < lo3) (h3 : R < w3.heap.size) (hh : hi1 ≤ w3.heap.size) (hh2 : hi2 ≤ w3.heap.size)
    (s1 : SlIn w3 (fun b => lo1 ≤ b ∧ b < hi1) T.ls la lc) (k1 : TlIn w3 (fun b => lo1 ≤ b ∧ b < hi1) T.ks ka kc) (s2 : SlIn w3 (fun b => lo2 ≤ b ∧ b < hi2) U.ls la' lc') (k2 : TlIn w3 (fun b => lo2 ≤ b ∧ b < hi2) U.ks ka' kc') (s3 : SlIn w3 (fun b => lo3 ≤ b ∧ b < w3.heap.size) V.ls la'' lc'') (k3 : TlIn w3 (fun b => lo3 ≤ b ∧ b < w3.heap.size) V.ks ka'' kc'')
    (hb : Below (w3.alloc (.cells #[.int .i64 T.k, .int .i64 T.n, .slice la T.ls.len lc, .slice ka T.ks.len kc, .int .i64 U.k, .int .i64 U.n, .slice la' U.ls.len lc', .slice ka' U.ks.len kc', .int .i64 V.k, .int .i64 V.n, .slice la'' V.ls.len lc'', .slice ka'' V.ks.len kc''] 29)).heap.size (w3.alloc (.cells #[.int .i64 T.k, .int .i64 T.n, .slice la T.ls.len lc, .slice ka T.ks.len kc, .int .i64 U.k, .int .i64 U.n, .slice la' U.ls.len lc', .slice ka' U.ks.len kc', .int .i64 V.k, .int .i64 V.n, .slice la'' V.ls.len lc'', .slice ka'' V.ks.len kc''] 29)) w4) :
    TlIn w4 (fun b => R < b ∧ b < w4.heap.size) (T.to (U.to (V.to .nil))) (some ⟨w3.heap.size, 0, none⟩) 3 := by
  have ha : Below w3.heap.size w3 (w3.alloc (.cells #[.int .i64 T.k, .int .i64 T.n, .slice la T.ls.len lc, .slice ka T.ks.len kc, .int .i64 U.k, .int .i64 U.n, .slice la' U.ls.len lc', .slice ka' U.ks.len kc', .int .i64 V.k, .int .i64 V.n, .slice la'' V.ls.len lc'', .slice ka'' V.ks.len kc''] 29)) := (Below.refl _ _).alloc (Nat.le_refl _) _
  have hn := (hb.block w3.heap.size (by simp)).trans (heap_new w3 (.cells #[.int .i64 T.k, .int .i64 T.n, .slice la T.ls.len lc, .slice ka T.ks.len kc, .int .i64 U.k, .int .i64 U.n, .slice la' U.ls.len lc', .slice ka' U.ks.len kc', .int .i64 V.k, .int .i64 V.n, .slice la'' V.ls.len lc'', .slice ka'' V.ks.len kc''] 29))
  have hz := lt_of_block hn
  exact TlIn.mk (Nat.le_refl _) (by omega) ⟨h3, hz⟩ (FtIn.push (cell_at hn 0) (cell_at hn 1) (cell_at hn 2) (sl_in s1 (fun b hb => ⟨by omega, by omega⟩) ha hb) (cell_at hn 3) (tl_in k1 (fun b hb => ⟨by omega, by omega⟩) ha hb) (FtIn.push (cell_at hn 4) (cell_at hn 5) (cell_at hn 6) (sl_in s2 (fun b hb => ⟨by omega, by omega⟩) ha hb) (cell_at hn 7) (tl_in k2 (fun b hb => ⟨by omega, by omega⟩) ha hb) (FtIn.push (cell_at hn 8) (cell_at hn 9) (cell_at hn 10) (sl_in s3 (fun b hb => ⟨by omega, by omega⟩) ha hb) (cell_at hn 11) (tl_in k3 (fun b hb => ⟨by omega, by omega⟩) ha hb) trivial)))

set_option maxRecDepth 100000 in
set_option maxHeartbeats 1000000 in
/-- A Sort of a level in new memory. -/
theorem tSort_in (k n : Int) (f : Fo) (a : Option Addr) (cap lo : Nat) (w : World) (hs : SlIn w (fun b => lo ≤ b ∧ b < w.heap.size) f a cap) (hB : lo ≤ w.heap.size) : Calls Try.prog 20 #[.agg #[.int .i64 k, .int .i64 n, .slice a f.len cap]] w fun e w' => ∃ x, e = .returned (.agg #[.int .i64 2, .int .i64 0, .slice x 1 1, .slice none 0 0]) ∧ SlIn w' (fun b => lo ≤ b ∧ b < w'.heap.size) (.cons k n f .nil) x 1 ∧ Below w.heap.size w w' := by
  have hb : Below w.heap.size w (((w.alloc (.cells #[.int .i64 k, .int .i64 n, .slice a f.len cap] 33)).alloc (.cells #[.int .i64 2, .int .i64 0, .slice (some ⟨w.heap.size + 1 + 1, 0, none⟩) 1 1, .slice none 0 0] 29)).alloc (.cells #[.int .i64 k, .int .i64 n, .slice a f.len cap] 33)) := (((Below.refl _ _).alloc (Nat.le_refl _) _).alloc (by simp) _).alloc (by simp; omega) _
  have hn := heap_second (w.alloc (.cells #[.int .i64 k, .int .i64 n, .slice a f.len cap] 33)) (.cells #[.int .i64 2, .int .i64 0, .slice (some ⟨w.heap.size + 1 + 1, 0, none⟩) 1 1, .slice none 0 0] 29) (.cells #[.int .i64 k, .int .i64 n, .slice a f.len cap] 33)
  have HB := Lib.hid hb
  have HN := Lib.hid hn
  have HS := Lib.hid hs
  clear hb hn hs
  go_enter Try.func20, Try.ntmps20
  go_wp2_with fail
  refine bodyPost_ret (v := .agg #[.int .i64 2, .int .i64 0, .slice (some ⟨w.heap.size + 1 + 1, 0, none⟩) 1 1, .slice none 0 0]) (by simp [results, Try.results20, go_sem]) rfl ?_
  have hn := HN.out
  simp only [World.size_alloc] at hn
  obtain ⟨c0, c1, c2⟩ := cells3 hn
  refine ⟨some ⟨w.heap.size + 1 + 1, 0, none⟩, rfl, ?_, HB.out⟩
  refine SlIn.mk (by simp [Fo.len]) (by omega) ⟨by omega, by simp⟩ (FoIn.push c0 c1 c2 ?_ trivial)
  exact (HS.out.keep (fun b hb => HB.out.block b hb.2)).weak (fun b hb => ⟨hb.1, by simp; omega⟩)

set_option maxRecDepth 100000 in
set_option maxHeartbeats 16000000 in
theorem tTerm_any (d : Nat) : ∀ (v : Int) (M len cap t B : Nat) (a : Option Addr) (D : Int) (w : World), MkAt w M a len cap t → U8In w (· < B) len a cap → B ≤ M → t + budT d ≤ 99900 → D = d + 1 → d ≤ 6 → 1 ≤ v → v + d ≤ 50 →
    Calls Try.prog 23 #[.pointer (some ⟨M, 0, none⟩), .int .i64 v, .int .i64 D] w (MtOk v w M a len cap t d) := by
  have e12 : (1 : Int) ≤ 12 := by omega
  induction d with
  | zero =>
    intro v M len cap t B a D w hat hin hB ht hD _ hv0 hv50
    obtain rfl : D = 1 := by omega
    clear hD
    have hbud := budT_ge 0
    have hv1 : 0 < v := by omega
    have dv : decide (0 < v) = true := decide_eq_true hv1
    have HT := Lib.hid ht
    have ht' : t ≤ 99880 := by omega
    have HS0 := Lib.hid (MkS.start hat hin hB)
    clear ht hbud hat hin
    go_enter Try.func23, Try.ntmps23
    go_wp2_with fail
    refine (pick_any M len cap t B a 12 _ HS0.out.1 HS0.out.2.1 hB (by omega) (by omega) (by omega)).mono ?_
    rintro e w1 ⟨x, hx0, hx1, rfl, hat1, hg1⟩
    have HS1 := Lib.hid (HS0.out.next hat1 hg1)
    clear hat1 hg1 HS0
    obtain ⟨⟨r0, r1, r2, r3⟩, rf⟩ := HS1.out.cells
    have hc : x = 0 ∨ x = 1 ∨ x = 2 ∨ x = 3 ∨ x = 4 ∨ x = 5 ∨ x = 6 ∨ x = 7 ∨ x = 8 ∨ x = 9 ∨ x = 10 ∨ x = 11 := by omega
    clear hx0 hx1 e12
    rcases hc with rfl | rfl | rfl | rfl | rfl | rfl | rfl | rfl | rfl | rfl | rfl | rfl
    · go_wp2_with fail
      refine (pick_any M len cap (t + 1) B a v _ HS1.out.1 HS1.out.2.1 hB (by omega) (by omega) (by omega)).mono ?_
      rintro e w2 ⟨y, hy0, hy1, rfl, hat2, hg2⟩
      have HS2 := Lib.hid (HS1.out.next hat2 hg2)
      clear hat2 hg2 HS1 r0 r1 r2 r3 rf
      go_wp2_with fail
      refine (tVar_any y _).mono ?_
      rintro e w3 ⟨rfl, hb3⟩
      have HS3 := Lib.hid (HS2.out.later hb3)
      clear hb3 HS2
      obtain ⟨⟨r0, r1, r2, r3⟩, rf⟩ := HS3.out.cells
      have HOK := Lib.hid (okT_V (v := v) (d := (0 + 1 : Nat)) hy0 hy1 (by omega))
      go_wp2_with fail
      refine bodyPost_ret (v := .agg #[.int .i64 1, .int .i64 y, .slice none 0 0, .slice none 0 0]) (by simp [results, Try.results23, go_sem, r0, r1, r2, r3]) rfl ?_
      exact HS3.out.done (T := tV y) (t := t) (d := 0) HOK.out (SlIn.none _ _) (TlIn.none _ _) (by have := budT_ge 0; omega)
    · go_wp2_with fail
      refine (pick_any M len cap (t + 1) B a v _ HS1.out.1 HS1.out.2.1 hB (by omega) (by omega) (by omega)).mono ?_
      rintro e w2 ⟨y, hy0, hy1, rfl, hat2, hg2⟩
      have HS2 := Lib.hid (HS1.out.next hat2 hg2)
      clear hat2 hg2 HS1 r0 r1 r2 r3 rf
      go_wp2_with fail
      refine (tVar_any y _).mono ?_
      rintro e w3 ⟨rfl, hb3⟩
      have HS3 := Lib.hid (HS2.out.later hb3)
      clear hb3 HS2
      obtain ⟨⟨r0, r1, r2, r3⟩, rf⟩ := HS3.out.cells
      have HOK := Lib.hid (okT_V (v := v) (d := (0 + 1 : Nat)) hy0 hy1 (by omega))
      go_wp2_with fail
      refine bodyPost_ret (v := .agg #[.int .i64 1, .int .i64 y, .slice none 0 0, .slice none 0 0]) (by simp [results, Try.results23, go_sem, r0, r1, r2, r3]) rfl ?_
      exact HS3.out.done (T := tV y) (t := t) (d := 0) HOK.out (SlIn.none _ _) (TlIn.none _ _) (by have := budT_ge 0; omega)
    · go_wp2_with fail
      refine (mLevel_any 3 2 (by omega) (by omega) (by omega) (by omega) 2 M len cap (t + 1) B a 3 _ HS1.out.1 HS1.out.2.1 hB (by show t + 1 + 23 ≤ 99990; omega) (by omega) (by omega)).mono ?_
      rintro e w2 ⟨lk, ln, F, fx, fc, t2, rfl, hlv, hsl, hat2, ht2, hg2⟩
      have HS2 := Lib.hid (HS1.out.next hat2 hg2)
      have HLV := Lib.hid (hlv.right (by omega))
      have ht2' : t2 ≤ t + 1 + 23 := ht2
      have HGT := Lib.hid HS1.out.gt
      have HGZ := Lib.hid hg2.size
      have HSL := Lib.hid hsl
      clear hat2 hg2 HS1 r0 r1 r2 r3 rf hlv hsl ht2
      go_wp2_with fail
      refine (tSort_in lk ln F fx fc w1.heap.size w2 HSL.out HGZ.out).mono ?_
      rintro e w3 ⟨sx, rfl, hs3, hb3⟩
      have HS3 := Lib.hid (HS2.out.later hb3)
      have HL3 := Lib.hid (hs3.weak (Q := fun b => w.heap.size < b ∧ b < w3.heap.size) (fun b hb => ⟨Nat.lt_of_lt_of_le HGT.out hb.1, hb.2⟩))
      clear hb3 HS2 hs3 HSL
      obtain ⟨⟨r0, r1, r2, r3⟩, rf⟩ := HS3.out.cells
      have HOK := Lib.hid (okT_sort (v := v) (d := (0 + 1 : Nat)) (by omega) HLV.out)
      go_wp2_with fail
      refine bodyPost_ret (v := .agg #[.int .i64 2, .int .i64 0, .slice sx 1 1, .slice none 0 0]) (by simp [results, Try.results23, go_sem, r0, r1, r2, r3]) rfl ?_
      exact HS3.out.done (T := ⟨2, 0, .cons lk ln F .nil, .nil⟩) (t := t) (d := 0) HOK.out HL3.out (TlIn.none _ _) (by have := budT_ge 0; omega)
    · go_wp2_with fail
      refine (pick_any M len cap (t + 1) B a 4 _ HS1.out.1 HS1.out.2.1 hB (by omega) (by omega) (by omega)).mono ?_
      rintro e w2 ⟨n, hn0, hn1, rfl, hat2, hg2⟩
      have HS2 := Lib.hid (HS1.out.next hat2 hg2)
      have HGT := Lib.hid HS2.out.gt
      have HS3 := Lib.hid (HS2.out.later ((Below.refl w2.heap.size w2).alloc (Nat.le_refl _) (.cells #[.int .i64 3, .int .i64 n, .slice none 0 0, .slice none 0 0] 29)))
      clear hat2 hg2 HS1 r0 r1 r2 r3 rf HS2
      go_wp2_with fail
      refine (pick_any M len cap (t + 1 + 1) B a 3 _ HS3.out.1 HS3.out.2.1 hB (by omega) (by omega) (by omega)).mono ?_
      rintro e w4 ⟨i0, hi0, hi1, rfl, hat4, hg4⟩
      have HR4 : Hid (CsR w w2.heap.size n M a len cap (t + 3) B .nil (.slice none 0 0) w4) := Lib.hid ⟨⟨t + 3, HS3.out.next hat4 hg4, Nat.le_refl _⟩, (Only.block hg4 (by simp) (by have := HGT.out; have := HS3.out.2.2.2.2.2; omega)).trans (heap_new w2 _), KsMix.nil _ _ _, HGT.out, rfl⟩
      clear hat4 hg4 HS3
      obtain ⟨j0, rfl⟩ : ∃ j0 : Nat, i0 = j0 := ⟨i0.toNat, by omega⟩
      have HJ0 : Hid (Fo.nil.len + j0 ≤ 2) := Lib.hid (by simp [Fo.len]; omega)
      clear hi0 hi1
      go_wp2_with fail
      go_loopw [9] (fun jv wr => ∃ (j : Nat) (G : Fo) (u : Value), jv = .int .i64 j ∧ Hid (G.len + j ≤ 2) ∧ Hid (CsR w w2.heap.size n M a len cap (t + 3) B G u wr)) (fun jv _ => (intOf jv).toNat)
      case atStart => exact ⟨j0, .nil, _, rfl, HJ0, HR4⟩
      case round =>
        obtain ⟨j, G, u, rfl, hj, hR⟩ := hrel
        clear HJ0 HR4
        obtain ⟨⟨t5, hS, ht5⟩, hbx, hK, hN, hlv⟩ := hR.out
        have HS := Lib.hid hS
        have HT5 := Lib.hid ht5
        cases j with
        | zero =>
          have dj : decide ((0 : Int) < ((0 : Nat) : Int)) = false := rfl
          obtain ⟨x5, c5, rfl, hsl⟩ := hK.slice
          have HSL := Lib.hid (hsl.weak (Q := fun b => w.heap.size < b ∧ b < wr.heap.size) (fun b hb => ⟨by have := hb.1; omega, hb.2⟩))
          obtain ⟨b0, b1, b2, b3⟩ := cells4 hbx
          obtain ⟨⟨r0, r1, r2, r3⟩, rf⟩ := HS.out.cells
          have HOK := Lib.hid (okT_const (v := v) (d := (0 + 1 : Nat)) (n := n) (ls := G) (by omega) hn0 (by omega) (by have := hj.out; omega) hlv)
          clear hK hbx hsl hlv hR hS ht5
          go_wp2_with fail
          refine bodyPost_ret (v := .agg #[.int .i64 3, .int .i64 n, .slice x5 G.len c5, .slice none 0 0]) (by simp [results, Try.results23, go_sem, r0, r1, r2, r3]) rfl ?_
          exact HS.out.done (T := ⟨3, n, G, .nil⟩) (t := t) (d := 0) HOK.out HSL.out (TlIn.none _ _) (by have := budT_ge 0; have := hj.out; have := HT5.out; omega)
        | succ j =>
          have dj : decide ((0 : Int) < ((j + 1 : Nat) : Int)) = true := decide_eq_true (by omega)
          have b2 := cell_at hbx 2
          have HC : Hid (Calls Try.prog 34 #[.pointer (some ⟨M, 0, none⟩), .int .i64 3, .int .i64 2, .int .i64 2] wr.drew (MlOk 3 2 wr.drew M a len cap t5 2)) := Lib.hid (mLevel_any 3 2 (by omega) (by omega) (by omega) (by omega) 1 M len cap t5 B a 2 wr.drew HS.out.1 HS.out.2.1 hB (by have := HT5.out; have := hj.out; have hb2 : bud (1 + 1) = 11 := rfl; rw [hb2]; omega) (by omega) (by omega))
          have HAP := Lib.hid (fun (e : Ending) (w5 : World) (h : MlOk 3 2 wr.drew M a len cap t5 2 e w5) => CsR.next (wr := wr.drew) hR.out.drew (by have := hj.out; omega) (HS.out.later ((Below.refl _ _).drew)) HT5.out h)
          have HJ := Lib.hid (show ∀ lk ln F, (G.app (.cons lk ln F .nil)).len + j ≤ 2 from fun lk ln F => by rw [Fo.app_len]; simp only [Fo.len]; have := hj.out; omega)
          have hj2 : j ≤ 2 := by have := hj.out; omega
          have hj3 : (j : Int) ≤ 2 := by omega
          have hj4 : (0 : Int) ≤ (j : Int) := by omega
          clear hK hbx hlv hR hS ht5 hj HT5
          go_wp2_with fail
          go_region_law (first
            | (refine step_append (by rfl) _ _ _ (by rfl) (by rfl) (by rfl) HRUN.out ?_)
            | (go_simp; go_at_call 34; refine HC.out.mono ?_; intro e w5 hP; obtain ⟨lk, ln, F, x5, c5, rfl, L2, L2a, g', cap', w6, HRUN, L3, Z3, HN⟩ := HAP.out e w5 hP; clear hP))
          all_goals
            go_wp2_with fail
            go_roundw
            case rel => exact ⟨j, _, _, by go_num, HJ.out _ _ _, HN⟩
            case measure => simp [intOf]
    · go_wp2_with fail
      refine (pick_any M len cap (t + 1) B a v _ HS1.out.1 HS1.out.2.1 hB (by omega) (by omega) (by omega)).mono ?_
      rintro e w2 ⟨y, hy0, hy1, rfl, hat2, hg2⟩
      have HS2 := Lib.hid (HS1.out.next hat2 hg2)
      clear hat2 hg2 HS1 r0 r1 r2 r3 rf
      go_wp2_with fail
      refine (tVar_any y _).mono ?_
      rintro e w3 ⟨rfl, hb3⟩
      have HS3 := Lib.hid (HS2.out.later hb3)
      clear hb3 HS2
      obtain ⟨⟨r0, r1, r2, r3⟩, rf⟩ := HS3.out.cells
      have HOK := Lib.hid (okT_V (v := v) (d := (0 + 1 : Nat)) hy0 hy1 (by omega))
      go_wp2_with fail
      refine bodyPost_ret (v := .agg #[.int .i64 1, .int .i64 y, .slice none 0 0, .slice none 0 0]) (by simp [results, Try.results23, go_sem, r0, r1, r2, r3]) rfl ?_
      exact HS3.out.done (T := tV y) (t := t) (d := 0) HOK.out (SlIn.none _ _) (TlIn.none _ _) (by have := budT_ge 0; omega)
    · go_wp2_with fail
      refine (pick_any M len cap (t + 1) B a v _ HS1.out.1 HS1.out.2.1 hB (by omega) (by omega) (by omega)).mono ?_
      rintro e w2 ⟨y, hy0, hy1, rfl, hat2, hg2⟩
      have HS2 := Lib.hid (HS1.out.next hat2 hg2)
      clear hat2 hg2 HS1 r0 r1 r2 r3 rf
      go_wp2_with fail
      refine (tVar_any y _).mono ?_
      rintro e w3 ⟨rfl, hb3⟩
      have HS3 := Lib.hid (HS2.out.later hb3)
      clear hb3 HS2
      obtain ⟨⟨r0, r1, r2, r3⟩, rf⟩ := HS3.out.cells
      have HOK := Lib.hid (okT_V (v := v) (d := (0 + 1 : Nat)) hy0 hy1 (by omega))
      go_wp2_with fail
      refine bodyPost_ret (v := .agg #[.int .i64 1, .int .i64 y, .slice none 0 0, .slice none 0 0]) (by simp [results, Try.results23, go_sem, r0, r1, r2, r3]) rfl ?_
      exact HS3.out.done (T := tV y) (t := t) (d := 0) HOK.out (SlIn.none _ _) (TlIn.none _ _) (by have := budT_ge 0; omega)
    · go_wp2_with fail
      refine (mLevel_any 3 2 (by omega) (by omega) (by omega) (by omega) 2 M len cap (t + 1) B a 3 _ HS1.out.1 HS1.out.2.1 hB (by show t + 1 + 23 ≤ 99990; omega) (by omega) (by omega)).mono ?_
      rintro e w2 ⟨lk, ln, F, fx, fc, t2, rfl, hlv, hsl, hat2, ht2, hg2⟩
      have HS2 := Lib.hid (HS1.out.next hat2 hg2)
      have HLV := Lib.hid (hlv.right (by omega))
      have ht2' : t2 ≤ t + 1 + 23 := ht2
      have HGT := Lib.hid HS1.out.gt
      have HGZ := Lib.hid hg2.size
      have HSL := Lib.hid hsl
      clear hat2 hg2 HS1 r0 r1 r2 r3 rf hlv hsl ht2
      go_wp2_with fail
      refine (tSort_in lk ln F fx fc w1.heap.size w2 HSL.out HGZ.out).mono ?_
      rintro e w3 ⟨sx, rfl, hs3, hb3⟩
      have HS3 := Lib.hid (HS2.out.later hb3)
      have HL3 := Lib.hid (hs3.weak (Q := fun b => w.heap.size < b ∧ b < w3.heap.size) (fun b hb => ⟨Nat.lt_of_lt_of_le HGT.out hb.1, hb.2⟩))
      clear hb3 HS2 hs3 HSL
      obtain ⟨⟨r0, r1, r2, r3⟩, rf⟩ := HS3.out.cells
      have HOK := Lib.hid (okT_sort (v := v) (d := (0 + 1 : Nat)) (by omega) HLV.out)
      go_wp2_with fail
      refine bodyPost_ret (v := .agg #[.int .i64 2, .int .i64 0, .slice sx 1 1, .slice none 0 0]) (by simp [results, Try.results23, go_sem, r0, r1, r2, r3]) rfl ?_
      exact HS3.out.done (T := ⟨2, 0, .cons lk ln F .nil, .nil⟩) (t := t) (d := 0) HOK.out HL3.out (TlIn.none _ _) (by have := budT_ge 0; omega)
    · go_wp2_with fail
      refine (pick_any M len cap (t + 1) B a 4 _ HS1.out.1 HS1.out.2.1 hB (by omega) (by omega) (by omega)).mono ?_
      rintro e w2 ⟨n, hn0, hn1, rfl, hat2, hg2⟩
      have HS2 := Lib.hid (HS1.out.next hat2 hg2)
      have HGT := Lib.hid HS2.out.gt
      have HS3 := Lib.hid (HS2.out.later ((Below.refl w2.heap.size w2).alloc (Nat.le_refl _) (.cells #[.int .i64 3, .int .i64 n, .slice none 0 0, .slice none 0 0] 29)))
      clear hat2 hg2 HS1 r0 r1 r2 r3 rf HS2
      go_wp2_with fail
      refine (pick_any M len cap (t + 1 + 1) B a 3 _ HS3.out.1 HS3.out.2.1 hB (by omega) (by omega) (by omega)).mono ?_
      rintro e w4 ⟨i0, hi0, hi1, rfl, hat4, hg4⟩
      have HR4 : Hid (CsR w w2.heap.size n M a len cap (t + 3) B .nil (.slice none 0 0) w4) := Lib.hid ⟨⟨t + 3, HS3.out.next hat4 hg4, Nat.le_refl _⟩, (Only.block hg4 (by simp) (by have := HGT.out; have := HS3.out.2.2.2.2.2; omega)).trans (heap_new w2 _), KsMix.nil _ _ _, HGT.out, rfl⟩
      clear hat4 hg4 HS3
      obtain ⟨j0, rfl⟩ : ∃ j0 : Nat, i0 = j0 := ⟨i0.toNat, by omega⟩
      have HJ0 : Hid (Fo.nil.len + j0 ≤ 2) := Lib.hid (by simp [Fo.len]; omega)
      clear hi0 hi1
      go_wp2_with fail
      go_loopw [9] (fun jv wr => ∃ (j : Nat) (G : Fo) (u : Value), jv = .int .i64 j ∧ Hid (G.len + j ≤ 2) ∧ Hid (CsR w w2.heap.size n M a len cap (t + 3) B G u wr)) (fun jv _ => (intOf jv).toNat)
      case atStart => exact ⟨j0, .nil, _, rfl, HJ0, HR4⟩
      case round =>
        obtain ⟨j, G, u, rfl, hj, hR⟩ := hrel
        clear HJ0 HR4
        obtain ⟨⟨t5, hS, ht5⟩, hbx, hK, hN, hlv⟩ := hR.out
        have HS := Lib.hid hS
        have HT5 := Lib.hid ht5
        cases j with
        | zero =>
          have dj : decide ((0 : Int) < ((0 : Nat) : Int)) = false := rfl
          obtain ⟨x5, c5, rfl, hsl⟩ := hK.slice
          have HSL := Lib.hid (hsl.weak (Q := fun b => w.heap.size < b ∧ b < wr.heap.size) (fun b hb => ⟨by have := hb.1; omega, hb.2⟩))
          obtain ⟨b0, b1, b2, b3⟩ := cells4 hbx
          obtain ⟨⟨r0, r1, r2, r3⟩, rf⟩ := HS.out.cells
          have HOK := Lib.hid (okT_const (v := v) (d := (0 + 1 : Nat)) (n := n) (ls := G) (by omega) hn0 (by omega) (by have := hj.out; omega) hlv)
          clear hK hbx hsl hlv hR hS ht5
          go_wp2_with fail
          refine bodyPost_ret (v := .agg #[.int .i64 3, .int .i64 n, .slice x5 G.len c5, .slice none 0 0]) (by simp [results, Try.results23, go_sem, r0, r1, r2, r3]) rfl ?_
          exact HS.out.done (T := ⟨3, n, G, .nil⟩) (t := t) (d := 0) HOK.out HSL.out (TlIn.none _ _) (by have := budT_ge 0; have := hj.out; have := HT5.out; omega)
        | succ j =>
          have dj : decide ((0 : Int) < ((j + 1 : Nat) : Int)) = true := decide_eq_true (by omega)
          have b2 := cell_at hbx 2
          have HC : Hid (Calls Try.prog 34 #[.pointer (some ⟨M, 0, none⟩), .int .i64 3, .int .i64 2, .int .i64 2] wr.drew (MlOk 3 2 wr.drew M a len cap t5 2)) := Lib.hid (mLevel_any 3 2 (by omega) (by omega) (by omega) (by omega) 1 M len cap t5 B a 2 wr.drew HS.out.1 HS.out.2.1 hB (by have := HT5.out; have := hj.out; have hb2 : bud (1 + 1) = 11 := rfl; rw [hb2]; omega) (by omega) (by omega))
          have HAP := Lib.hid (fun (e : Ending) (w5 : World) (h : MlOk 3 2 wr.drew M a len cap t5 2 e w5) => CsR.next (wr := wr.drew) hR.out.drew (by have := hj.out; omega) (HS.out.later ((Below.refl _ _).drew)) HT5.out h)
          have HJ := Lib.hid (show ∀ lk ln F, (G.app (.cons lk ln F .nil)).len + j ≤ 2 from fun lk ln F => by rw [Fo.app_len]; simp only [Fo.len]; have := hj.out; omega)
          have hj2 : j ≤ 2 := by have := hj.out; omega
          have hj3 : (j : Int) ≤ 2 := by omega
          have hj4 : (0 : Int) ≤ (j : Int) := by omega
          clear hK hbx hlv hR hS ht5 hj HT5
          go_wp2_with fail
          go_region_law (first
            | (refine step_append (by rfl) _ _ _ (by rfl) (by rfl) (by rfl) HRUN.out ?_)
            | (go_simp; go_at_call 34; refine HC.out.mono ?_; intro e w5 hP; obtain ⟨lk, ln, F, x5, c5, rfl, L2, L2a, g', cap', w6, HRUN, L3, Z3, HN⟩ := HAP.out e w5 hP; clear hP))
          all_goals
            go_wp2_with fail
            go_roundw
            case rel => exact ⟨j, _, _, by go_num, HJ.out _ _ _, HN⟩
            case measure => simp [intOf]
    · go_wp2_with fail
      refine (pick_any M len cap (t + 1) B a v _ HS1.out.1 HS1.out.2.1 hB (by omega) (by omega) (by omega)).mono ?_
      rintro e w2 ⟨y, hy0, hy1, rfl, hat2, hg2⟩
      have HS2 := Lib.hid (HS1.out.next hat2 hg2)
      clear hat2 hg2 HS1 r0 r1 r2 r3 rf
      go_wp2_with fail
      refine (tVar_any y _).mono ?_
      rintro e w3 ⟨rfl, hb3⟩
      have HS3 := Lib.hid (HS2.out.later hb3)
      clear hb3 HS2
      obtain ⟨⟨r0, r1, r2, r3⟩, rf⟩ := HS3.out.cells
      have HOK := Lib.hid (okT_V (v := v) (d := (0 + 1 : Nat)) hy0 hy1 (by omega))
      go_wp2_with fail
      refine bodyPost_ret (v := .agg #[.int .i64 1, .int .i64 y, .slice none 0 0, .slice none 0 0]) (by simp [results, Try.results23, go_sem, r0, r1, r2, r3]) rfl ?_
      exact HS3.out.done (T := tV y) (t := t) (d := 0) HOK.out (SlIn.none _ _) (TlIn.none _ _) (by have := budT_ge 0; omega)
    · go_wp2_with fail
      refine (pick_any M len cap (t + 1) B a v _ HS1.out.1 HS1.out.2.1 hB (by omega) (by omega) (by omega)).mono ?_
      rintro e w2 ⟨y, hy0, hy1, rfl, hat2, hg2⟩
      have HS2 := Lib.hid (HS1.out.next hat2 hg2)
      clear hat2 hg2 HS1 r0 r1 r2 r3 rf
      go_wp2_with fail
      refine (tVar_any y _).mono ?_
      rintro e w3 ⟨rfl, hb3⟩
      have HS3 := Lib.hid (HS2.out.later hb3)
      clear hb3 HS2
      obtain ⟨⟨r0, r1, r2, r3⟩, rf⟩ := HS3.out.cells
      have HOK := Lib.hid (okT_V (v := v) (d := (0 + 1 : Nat)) hy0 hy1 (by omega))
      go_wp2_with fail
      refine bodyPost_ret (v := .agg #[.int .i64 1, .int .i64 y, .slice none 0 0, .slice none 0 0]) (by simp [results, Try.results23, go_sem, r0, r1, r2, r3]) rfl ?_
      exact HS3.out.done (T := tV y) (t := t) (d := 0) HOK.out (SlIn.none _ _) (TlIn.none _ _) (by have := budT_ge 0; omega)
    · go_wp2_with fail
      refine (mLevel_any 3 2 (by omega) (by omega) (by omega) (by omega) 2 M len cap (t + 1) B a 3 _ HS1.out.1 HS1.out.2.1 hB (by show t + 1 + 23 ≤ 99990; omega) (by omega) (by omega)).mono ?_
      rintro e w2 ⟨lk, ln, F, fx, fc, t2, rfl, hlv, hsl, hat2, ht2, hg2⟩
      have HS2 := Lib.hid (HS1.out.next hat2 hg2)
      have HLV := Lib.hid (hlv.right (by omega))
      have ht2' : t2 ≤ t + 1 + 23 := ht2
      have HGT := Lib.hid HS1.out.gt
      have HGZ := Lib.hid hg2.size
      have HSL := Lib.hid hsl
      clear hat2 hg2 HS1 r0 r1 r2 r3 rf hlv hsl ht2
      go_wp2_with fail
      refine (tSort_in lk ln F fx fc w1.heap.size w2 HSL.out HGZ.out).mono ?_
      rintro e w3 ⟨sx, rfl, hs3, hb3⟩
      have HS3 := Lib.hid (HS2.out.later hb3)
      have HL3 := Lib.hid (hs3.weak (Q := fun b => w.heap.size < b ∧ b < w3.heap.size) (fun b hb => ⟨Nat.lt_of_lt_of_le HGT.out hb.1, hb.2⟩))
      clear hb3 HS2 hs3 HSL
      obtain ⟨⟨r0, r1, r2, r3⟩, rf⟩ := HS3.out.cells
      have HOK := Lib.hid (okT_sort (v := v) (d := (0 + 1 : Nat)) (by omega) HLV.out)
      go_wp2_with fail
      refine bodyPost_ret (v := .agg #[.int .i64 2, .int .i64 0, .slice sx 1 1, .slice none 0 0]) (by simp [results, Try.results23, go_sem, r0, r1, r2, r3]) rfl ?_
      exact HS3.out.done (T := ⟨2, 0, .cons lk ln F .nil, .nil⟩) (t := t) (d := 0) HOK.out HL3.out (TlIn.none _ _) (by have := budT_ge 0; omega)
    · go_wp2_with fail
      refine (pick_any M len cap (t + 1) B a 4 _ HS1.out.1 HS1.out.2.1 hB (by omega) (by omega) (by omega)).mono ?_
      rintro e w2 ⟨n, hn0, hn1, rfl, hat2, hg2⟩
      have HS2 := Lib.hid (HS1.out.next hat2 hg2)
      have HGT := Lib.hid HS2.out.gt
      have HS3 := Lib.hid (HS2.out.later ((Below.refl w2.heap.size w2).alloc (Nat.le_refl _) (.cells #[.int .i64 3, .int .i64 n, .slice none 0 0, .slice none 0 0] 29)))
      clear hat2 hg2 HS1 r0 r1 r2 r3 rf HS2
      go_wp2_with fail
      refine (pick_any M len cap (t + 1 + 1) B a 3 _ HS3.out.1 HS3.out.2.1 hB (by omega) (by omega) (by omega)).mono ?_
      rintro e w4 ⟨i0, hi0, hi1, rfl, hat4, hg4⟩
      have HR4 : Hid (CsR w w2.heap.size n M a len cap (t + 3) B .nil (.slice none 0 0) w4) := Lib.hid ⟨⟨t + 3, HS3.out.next hat4 hg4, Nat.le_refl _⟩, (Only.block hg4 (by simp) (by have := HGT.out; have := HS3.out.2.2.2.2.2; omega)).trans (heap_new w2 _), KsMix.nil _ _ _, HGT.out, rfl⟩
      clear hat4 hg4 HS3
      obtain ⟨j0, rfl⟩ : ∃ j0 : Nat, i0 = j0 := ⟨i0.toNat, by omega⟩
      have HJ0 : Hid (Fo.nil.len + j0 ≤ 2) := Lib.hid (by simp [Fo.len]; omega)
      clear hi0 hi1
      go_wp2_with fail
      go_loopw [9] (fun jv wr => ∃ (j : Nat) (G : Fo) (u : Value), jv = .int .i64 j ∧ Hid (G.len + j ≤ 2) ∧ Hid (CsR w w2.heap.size n M a len cap (t + 3) B G u wr)) (fun jv _ => (intOf jv).toNat)
      case atStart => exact ⟨j0, .nil, _, rfl, HJ0, HR4⟩
      case round =>
        obtain ⟨j, G, u, rfl, hj, hR⟩ := hrel
        clear HJ0 HR4
        obtain ⟨⟨t5, hS, ht5⟩, hbx, hK, hN, hlv⟩ := hR.out
        have HS := Lib.hid hS
        have HT5 := Lib.hid ht5
        cases j with
        | zero =>
          have dj : decide ((0 : Int) < ((0 : Nat) : Int)) = false := rfl
          obtain ⟨x5, c5, rfl, hsl⟩ := hK.slice
          have HSL := Lib.hid (hsl.weak (Q := fun b => w.heap.size < b ∧ b < wr.heap.size) (fun b hb => ⟨by have := hb.1; omega, hb.2⟩))
          obtain ⟨b0, b1, b2, b3⟩ := cells4 hbx
          obtain ⟨⟨r0, r1, r2, r3⟩, rf⟩ := HS.out.cells
          have HOK := Lib.hid (okT_const (v := v) (d := (0 + 1 : Nat)) (n := n) (ls := G) (by omega) hn0 (by omega) (by have := hj.out; omega) hlv)
          clear hK hbx hsl hlv hR hS ht5
          go_wp2_with fail
          refine bodyPost_ret (v := .agg #[.int .i64 3, .int .i64 n, .slice x5 G.len c5, .slice none 0 0]) (by simp [results, Try.results23, go_sem, r0, r1, r2, r3]) rfl ?_
          exact HS.out.done (T := ⟨3, n, G, .nil⟩) (t := t) (d := 0) HOK.out HSL.out (TlIn.none _ _) (by have := budT_ge 0; have := hj.out; have := HT5.out; omega)
        | succ j =>
          have dj : decide ((0 : Int) < ((j + 1 : Nat) : Int)) = true := decide_eq_true (by omega)
          have b2 := cell_at hbx 2
          have HC : Hid (Calls Try.prog 34 #[.pointer (some ⟨M, 0, none⟩), .int .i64 3, .int .i64 2, .int .i64 2] wr.drew (MlOk 3 2 wr.drew M a len cap t5 2)) := Lib.hid (mLevel_any 3 2 (by omega) (by omega) (by omega) (by omega) 1 M len cap t5 B a 2 wr.drew HS.out.1 HS.out.2.1 hB (by have := HT5.out; have := hj.out; have hb2 : bud (1 + 1) = 11 := rfl; rw [hb2]; omega) (by omega) (by omega))
          have HAP := Lib.hid (fun (e : Ending) (w5 : World) (h : MlOk 3 2 wr.drew M a len cap t5 2 e w5) => CsR.next (wr := wr.drew) hR.out.drew (by have := hj.out; omega) (HS.out.later ((Below.refl _ _).drew)) HT5.out h)
          have HJ := Lib.hid (show ∀ lk ln F, (G.app (.cons lk ln F .nil)).len + j ≤ 2 from fun lk ln F => by rw [Fo.app_len]; simp only [Fo.len]; have := hj.out; omega)
          have hj2 : j ≤ 2 := by have := hj.out; omega
          have hj3 : (j : Int) ≤ 2 := by omega
          have hj4 : (0 : Int) ≤ (j : Int) := by omega
          clear hK hbx hlv hR hS ht5 hj HT5
          go_wp2_with fail
          go_region_law (first
            | (refine step_append (by rfl) _ _ _ (by rfl) (by rfl) (by rfl) HRUN.out ?_)
            | (go_simp; go_at_call 34; refine HC.out.mono ?_; intro e w5 hP; obtain ⟨lk, ln, F, x5, c5, rfl, L2, L2a, g', cap', w6, HRUN, L3, Z3, HN⟩ := HAP.out e w5 hP; clear hP))
          all_goals
            go_wp2_with fail
            go_roundw
            case rel => exact ⟨j, _, _, by go_num, HJ.out _ _ _, HN⟩
            case measure => simp [intOf]
  | succ d ih =>
    intro v M len cap t B a D w hat hin hB ht hD hd hv0 hv50
    have IH := Lib.hid ih
    clear ih
    have hD2 : 2 ≤ D := by omega
    have hD3 : D ≤ 100 := by omega
    have dD : decide (D < 2) = false := decide_eq_false (by omega)
    have HD := Lib.hid hD
    have HV := Lib.hid hv50
    have hv60 : v ≤ 60 := by omega
    clear hD hv50
    have hbud := budT_ge (d + 1)
    have hv1 : 0 < v := by omega
    have dv : decide (0 < v) = true := decide_eq_true hv1
    have HT := Lib.hid ht
    have ht' : t ≤ 99880 := by omega
    have HS0 := Lib.hid (MkS.start hat hin hB)
    clear ht hbud hat hin
    go_enter Try.func23, Try.ntmps23
    go_wp2_with fail
    refine (pick_any M len cap t B a 12 _ HS0.out.1 HS0.out.2.1 hB (by omega) (by omega) (by omega)).mono ?_
    rintro e w1 ⟨x, hx0, hx1, rfl, hat1, hg1⟩
    have HS1 := Lib.hid (HS0.out.next hat1 hg1)
    clear hat1 hg1 HS0
    obtain ⟨⟨r0, r1, r2, r3⟩, rf⟩ := HS1.out.cells
    have hc : x = 0 ∨ x = 1 ∨ x = 2 ∨ x = 3 ∨ x = 4 ∨ x = 5 ∨ x = 6 ∨ x = 7 ∨ x = 8 ∨ x = 9 ∨ x = 10 ∨ x = 11 := by omega
    clear hx0 hx1 e12
    rcases hc with rfl | rfl | rfl | rfl | rfl | rfl | rfl | rfl | rfl | rfl | rfl | rfl
    · go_wp2_with fail
      refine (pick_any M len cap (t + 1) B a v _ HS1.out.1 HS1.out.2.1 hB (by omega) (by omega) (by omega)).mono ?_
      rintro e w2 ⟨y, hy0, hy1, rfl, hat2, hg2⟩
      have HS2 := Lib.hid (HS1.out.next hat2 hg2)
      clear hat2 hg2 HS1 r0 r1 r2 r3 rf
      go_wp2_with fail
      refine (tVar_any y _).mono ?_
      rintro e w3 ⟨rfl, hb3⟩
      have HS3 := Lib.hid (HS2.out.later hb3)
      clear hb3 HS2
      obtain ⟨⟨r0, r1, r2, r3⟩, rf⟩ := HS3.out.cells
      have HOK := Lib.hid (okT_V (v := v) (d := ((d + 1) + 1 : Nat)) hy0 hy1 (by omega))
      go_wp2_with fail
      refine bodyPost_ret (v := .agg #[.int .i64 1, .int .i64 y, .slice none 0 0, .slice none 0 0]) (by simp [results, Try.results23, go_sem, r0, r1, r2, r3]) rfl ?_
      exact HS3.out.done (T := tV y) (t := t) (d := (d + 1)) HOK.out (SlIn.none _ _) (TlIn.none _ _) (by have := budT_ge (d + 1); omega)
    · go_wp2_with fail
      refine (pick_any M len cap (t + 1) B a v _ HS1.out.1 HS1.out.2.1 hB (by omega) (by omega) (by omega)).mono ?_
      rintro e w2 ⟨y, hy0, hy1, rfl, hat2, hg2⟩
      have HS2 := Lib.hid (HS1.out.next hat2 hg2)
      clear hat2 hg2 HS1 r0 r1 r2 r3 rf
      go_wp2_with fail
      refine (tVar_any y _).mono ?_
      rintro e w3 ⟨rfl, hb3⟩
      have HS3 := Lib.hid (HS2.out.later hb3)
      clear hb3 HS2
      obtain ⟨⟨r0, r1, r2, r3⟩, rf⟩ := HS3.out.cells
      have HOK := Lib.hid (okT_V (v := v) (d := ((d + 1) + 1 : Nat)) hy0 hy1 (by omega))
      go_wp2_with fail
      refine bodyPost_ret (v := .agg #[.int .i64 1, .int .i64 y, .slice none 0 0, .slice none 0 0]) (by simp [results, Try.results23, go_sem, r0, r1, r2, r3]) rfl ?_
      exact HS3.out.done (T := tV y) (t := t) (d := (d + 1)) HOK.out (SlIn.none _ _) (TlIn.none _ _) (by have := budT_ge (d + 1); omega)
    · go_wp2_with fail
      refine (mLevel_any 3 2 (by omega) (by omega) (by omega) (by omega) 2 M len cap (t + 1) B a 3 _ HS1.out.1 HS1.out.2.1 hB (by show t + 1 + 23 ≤ 99990; omega) (by omega) (by omega)).mono ?_
      rintro e w2 ⟨lk, ln, F, fx, fc, t2, rfl, hlv, hsl, hat2, ht2, hg2⟩
      have HS2 := Lib.hid (HS1.out.next hat2 hg2)
      have HLV := Lib.hid (hlv.right (by omega))
      have ht2' : t2 ≤ t + 1 + 23 := ht2
      have HGT := Lib.hid HS1.out.gt
      have HGZ := Lib.hid hg2.size
      have HSL := Lib.hid hsl
      clear hat2 hg2 HS1 r0 r1 r2 r3 rf hlv hsl ht2
      go_wp2_with fail
      refine (tSort_in lk ln F fx fc w1.heap.size w2 HSL.out HGZ.out).mono ?_
      rintro e w3 ⟨sx, rfl, hs3, hb3⟩
      have HS3 := Lib.hid (HS2.out.later hb3)
      have HL3 := Lib.hid (hs3.weak (Q := fun b => w.heap.size < b ∧ b < w3.heap.size) (fun b hb => ⟨Nat.lt_of_lt_of_le HGT.out hb.1, hb.2⟩))
      clear hb3 HS2 hs3 HSL
      obtain ⟨⟨r0, r1, r2, r3⟩, rf⟩ := HS3.out.cells
      have HOK := Lib.hid (okT_sort (v := v) (d := ((d + 1) + 1 : Nat)) (by omega) HLV.out)
      go_wp2_with fail
      refine bodyPost_ret (v := .agg #[.int .i64 2, .int .i64 0, .slice sx 1 1, .slice none 0 0]) (by simp [results, Try.results23, go_sem, r0, r1, r2, r3]) rfl ?_
      exact HS3.out.done (T := ⟨2, 0, .cons lk ln F .nil, .nil⟩) (t := t) (d := (d + 1)) HOK.out HL3.out (TlIn.none _ _) (by have := budT_ge (d + 1); omega)
    · go_wp2_with fail
      refine (pick_any M len cap (t + 1) B a 4 _ HS1.out.1 HS1.out.2.1 hB (by omega) (by omega) (by omega)).mono ?_
      rintro e w2 ⟨n, hn0, hn1, rfl, hat2, hg2⟩
      have HS2 := Lib.hid (HS1.out.next hat2 hg2)
      have HGT := Lib.hid HS2.out.gt
      have HS3 := Lib.hid (HS2.out.later ((Below.refl w2.heap.size w2).alloc (Nat.le_refl _) (.cells #[.int .i64 3, .int .i64 n, .slice none 0 0, .slice none 0 0] 29)))
      clear hat2 hg2 HS1 r0 r1 r2 r3 rf HS2
      go_wp2_with fail
      refine (pick_any M len cap (t + 1 + 1) B a 3 _ HS3.out.1 HS3.out.2.1 hB (by omega) (by omega) (by omega)).mono ?_
      rintro e w4 ⟨i0, hi0, hi1, rfl, hat4, hg4⟩
      have HR4 : Hid (CsR w w2.heap.size n M a len cap (t + 3) B .nil (.slice none 0 0) w4) := Lib.hid ⟨⟨t + 3, HS3.out.next hat4 hg4, Nat.le_refl _⟩, (Only.block hg4 (by simp) (by have := HGT.out; have := HS3.out.2.2.2.2.2; omega)).trans (heap_new w2 _), KsMix.nil _ _ _, HGT.out, rfl⟩
      clear hat4 hg4 HS3
      obtain ⟨j0, rfl⟩ : ∃ j0 : Nat, i0 = j0 := ⟨i0.toNat, by omega⟩
      have HJ0 : Hid (Fo.nil.len + j0 ≤ 2) := Lib.hid (by simp [Fo.len]; omega)
      clear hi0 hi1
      go_wp2_with fail
      go_loopw [9] (fun jv wr => ∃ (j : Nat) (G : Fo) (u : Value), jv = .int .i64 j ∧ Hid (G.len + j ≤ 2) ∧ Hid (CsR w w2.heap.size n M a len cap (t + 3) B G u wr)) (fun jv _ => (intOf jv).toNat)
      case atStart => exact ⟨j0, .nil, _, rfl, HJ0, HR4⟩
      case round =>
        obtain ⟨j, G, u, rfl, hj, hR⟩ := hrel
        clear HJ0 HR4
        obtain ⟨⟨t5, hS, ht5⟩, hbx, hK, hN, hlv⟩ := hR.out
        have HS := Lib.hid hS
        have HT5 := Lib.hid ht5
        cases j with
        | zero =>
          have dj : decide ((0 : Int) < ((0 : Nat) : Int)) = false := rfl
          obtain ⟨x5, c5, rfl, hsl⟩ := hK.slice
          have HSL := Lib.hid (hsl.weak (Q := fun b => w.heap.size < b ∧ b < wr.heap.size) (fun b hb => ⟨by have := hb.1; omega, hb.2⟩))
          obtain ⟨b0, b1, b2, b3⟩ := cells4 hbx
          obtain ⟨⟨r0, r1, r2, r3⟩, rf⟩ := HS.out.cells
          have HOK := Lib.hid (okT_const (v := v) (d := ((d + 1) + 1 : Nat)) (n := n) (ls := G) (by omega) hn0 (by omega) (by have := hj.out; omega) hlv)
          clear hK hbx hsl hlv hR hS ht5
          go_wp2_with fail
          refine bodyPost_ret (v := .agg #[.int .i64 3, .int .i64 n, .slice x5 G.len c5, .slice none 0 0]) (by simp [results, Try.results23, go_sem, r0, r1, r2, r3]) rfl ?_
          exact HS.out.done (T := ⟨3, n, G, .nil⟩) (t := t) (d := (d + 1)) HOK.out HSL.out (TlIn.none _ _) (by have := budT_ge (d + 1); have := hj.out; have := HT5.out; omega)
        | succ j =>
          have dj : decide ((0 : Int) < ((j + 1 : Nat) : Int)) = true := decide_eq_true (by omega)
          have b2 := cell_at hbx 2
          have HC : Hid (Calls Try.prog 34 #[.pointer (some ⟨M, 0, none⟩), .int .i64 3, .int .i64 2, .int .i64 2] wr.drew (MlOk 3 2 wr.drew M a len cap t5 2)) := Lib.hid (mLevel_any 3 2 (by omega) (by omega) (by omega) (by omega) 1 M len cap t5 B a 2 wr.drew HS.out.1 HS.out.2.1 hB (by have := HT5.out; have := hj.out; have hb2 : bud (1 + 1) = 11 := rfl; rw [hb2]; omega) (by omega) (by omega))
          have HAP := Lib.hid (fun (e : Ending) (w5 : World) (h : MlOk 3 2 wr.drew M a len cap t5 2 e w5) => CsR.next (wr := wr.drew) hR.out.drew (by have := hj.out; omega) (HS.out.later ((Below.refl _ _).drew)) HT5.out h)
          have HJ := Lib.hid (show ∀ lk ln F, (G.app (.cons lk ln F .nil)).len + j ≤ 2 from fun lk ln F => by rw [Fo.app_len]; simp only [Fo.len]; have := hj.out; omega)
          have hj2 : j ≤ 2 := by have := hj.out; omega
          have hj3 : (j : Int) ≤ 2 := by omega
          have hj4 : (0 : Int) ≤ (j : Int) := by omega
          clear hK hbx hlv hR hS ht5 hj HT5
          go_wp2_with fail
          go_region_law (first
            | (refine step_append (by rfl) _ _ _ (by rfl) (by rfl) (by rfl) HRUN.out ?_)
            | (go_simp; go_at_call 34; refine HC.out.mono ?_; intro e w5 hP; obtain ⟨lk, ln, F, x5, c5, rfl, L2, L2a, g', cap', w6, HRUN, L3, Z3, HN⟩ := HAP.out e w5 hP; clear hP))
          all_goals
            go_wp2_with fail
            go_roundw
            case rel => exact ⟨j, _, _, by go_num, HJ.out _ _ _, HN⟩
            case measure => simp [intOf]
    · go_wp2_with fail
      refine (IH.out (v) M len cap (t + 1) B a (D - 1) _ HS1.out.1 HS1.out.2.1 hB (by have := HT.out; rw [budT_succ] at this; omega) (by have := HD.out; omega) (by omega) (by omega) (by have := HV.out; omega)).mono ?_
      rintro e w2 ⟨T1, la1, lc1, ka1, kc1, t2, rfl, ok1, sl1, tl1, hat2, ht2, hg2⟩
      have HS2 := Lib.hid (HS1.out.next hat2 hg2)
      have OK1 := Lib.hid ok1
      have GT1 := Lib.hid HS1.out.gt
      have SL12 := Lib.hid sl1
      have TL12 := Lib.hid tl1
      have HT2 := Lib.hid ht2
      have HZ2 := Lib.hid hg2.size
      clear ok1 sl1 tl1 hat2 ht2 hg2 r0 r1 r2 r3 rf
      go_wp2_with fail
      refine (IH.out (v) M len cap (t2) B a (D - 1) _ HS2.out.1 HS2.out.2.1 hB (by have := HT.out; have := HT2.out; rw [budT_succ] at *; omega) (by have := HD.out; omega) (by omega) (by omega) (by have := HV.out; omega)).mono ?_
      rintro e w3 ⟨T2, la2, lc2, ka2, kc2, t3, rfl, ok2, sl2, tl2, hat3, ht3, hg3⟩
      have HS3 := Lib.hid (HS2.out.next hat3 hg3)
      have OK2 := Lib.hid ok2
      have GT2 := Lib.hid HS2.out.gt
      have SL23 := Lib.hid sl2
      have TL23 := Lib.hid tl2
      have HT3 := Lib.hid ht3
      have HZ3 := Lib.hid hg3.size
      have SL13 := Lib.hid (HS2.out.sl hg3 GT1.out (Nat.le_refl _) SL12.out)
      have TL13 := Lib.hid (HS2.out.tl hg3 GT1.out (Nat.le_refl _) TL12.out)
      clear ok2 sl2 tl2 hat3 ht3 hg3 SL12 TL12 HS1 HS2
      have HAL := Lib.hid ((Below.refl w3.heap.size w3).alloc (Nat.le_refl _) (.cells #[.int .i64 T1.k, .int .i64 T1.n, .slice la1 T1.ls.len lc1, .slice ka1 T1.ks.len kc1, .int .i64 T2.k, .int .i64 T2.n, .slice la2 T2.ls.len lc2, .slice ka2 T2.ks.len kc2] 29))
      go_wp2_with fail
      refine (tBind_any 4 (some ⟨w3.heap.size, 0, none⟩) 2 2 _).mono ?_
      rintro e w4 ⟨rfl, hb4⟩
      have HS4 := Lib.hid ((HS3.out.later HAL.out).later hb4)
      have HTL := Lib.hid (pair_in GT1.out GT2.out HS3.out.gt HZ3.out SL13.out TL13.out SL23.out TL23.out hb4)
      have HOK : Hid (okT v (d + 1 + 1 : Nat) ⟨4, 0, .nil, T1.to (T2.to .nil)⟩) := Lib.hid (by
        have h := okT_two (q := 4) (by omega) OK1.out (B := T2) (by simpa [bindK] using OK2.out)
        rwa [show ((d + 1 : Nat) : Int) + 1 = ((d + 1 + 1 : Nat) : Int) by omega] at h)
      obtain ⟨⟨r0, r1, r2, r3⟩, rf⟩ := HS4.out.cells
      clear hb4 HS3 HAL SL13 TL13 SL23 TL23
      go_wp2_with fail
      refine bodyPost_ret (v := .agg #[.int .i64 4, .int .i64 0, .slice none 0 0, .slice (some ⟨w3.heap.size, 0, none⟩) 2 2]) (by simp [results, Try.results23, go_sem, r0, r1, r2, r3]) rfl ?_
      exact HS4.out.done (T := ⟨4, 0, .nil, T1.to (T2.to .nil)⟩) (t := t) (d := d + 1) HOK.out (SlIn.none _ _) HTL.out (by have := HT2.out; have := HT3.out; rw [budT_succ]; omega)
    · go_wp2_with fail
      refine (IH.out (v) M len cap (t + 1) B a (D - 1) _ HS1.out.1 HS1.out.2.1 hB (by have := HT.out; rw [budT_succ] at this; omega) (by have := HD.out; omega) (by omega) (by omega) (by have := HV.out; omega)).mono ?_
      rintro e w2 ⟨T1, la1, lc1, ka1, kc1, t2, rfl, ok1, sl1, tl1, hat2, ht2, hg2⟩
      have HS2 := Lib.hid (HS1.out.next hat2 hg2)
      have OK1 := Lib.hid ok1
      have GT1 := Lib.hid HS1.out.gt
      have SL12 := Lib.hid sl1
      have TL12 := Lib.hid tl1
      have HT2 := Lib.hid ht2
      have HZ2 := Lib.hid hg2.size
      clear ok1 sl1 tl1 hat2 ht2 hg2 r0 r1 r2 r3 rf
      go_wp2_with fail
      refine (IH.out (v) M len cap (t2) B a (D - 1) _ HS2.out.1 HS2.out.2.1 hB (by have := HT.out; have := HT2.out; rw [budT_succ] at *; omega) (by have := HD.out; omega) (by omega) (by omega) (by have := HV.out; omega)).mono ?_
      rintro e w3 ⟨T2, la2, lc2, ka2, kc2, t3, rfl, ok2, sl2, tl2, hat3, ht3, hg3⟩
      have HS3 := Lib.hid (HS2.out.next hat3 hg3)
      have OK2 := Lib.hid ok2
      have GT2 := Lib.hid HS2.out.gt
      have SL23 := Lib.hid sl2
      have TL23 := Lib.hid tl2
      have HT3 := Lib.hid ht3
      have HZ3 := Lib.hid hg3.size
      have SL13 := Lib.hid (HS2.out.sl hg3 GT1.out (Nat.le_refl _) SL12.out)
      have TL13 := Lib.hid (HS2.out.tl hg3 GT1.out (Nat.le_refl _) TL12.out)
      clear ok2 sl2 tl2 hat3 ht3 hg3 SL12 TL12 HS1 HS2
      have HAL := Lib.hid ((Below.refl w3.heap.size w3).alloc (Nat.le_refl _) (.cells #[.int .i64 T1.k, .int .i64 T1.n, .slice la1 T1.ls.len lc1, .slice ka1 T1.ks.len kc1, .int .i64 T2.k, .int .i64 T2.n, .slice la2 T2.ls.len lc2, .slice ka2 T2.ks.len kc2] 29))
      go_wp2_with fail
      refine (tBind_any 4 (some ⟨w3.heap.size, 0, none⟩) 2 2 _).mono ?_
      rintro e w4 ⟨rfl, hb4⟩
      have HS4 := Lib.hid ((HS3.out.later HAL.out).later hb4)
      have HTL := Lib.hid (pair_in GT1.out GT2.out HS3.out.gt HZ3.out SL13.out TL13.out SL23.out TL23.out hb4)
      have HOK : Hid (okT v (d + 1 + 1 : Nat) ⟨4, 0, .nil, T1.to (T2.to .nil)⟩) := Lib.hid (by
        have h := okT_two (q := 4) (by omega) OK1.out (B := T2) (by simpa [bindK] using OK2.out)
        rwa [show ((d + 1 : Nat) : Int) + 1 = ((d + 1 + 1 : Nat) : Int) by omega] at h)
      obtain ⟨⟨r0, r1, r2, r3⟩, rf⟩ := HS4.out.cells
      clear hb4 HS3 HAL SL13 TL13 SL23 TL23
      go_wp2_with fail
      refine bodyPost_ret (v := .agg #[.int .i64 4, .int .i64 0, .slice none 0 0, .slice (some ⟨w3.heap.size, 0, none⟩) 2 2]) (by simp [results, Try.results23, go_sem, r0, r1, r2, r3]) rfl ?_
      exact HS4.out.done (T := ⟨4, 0, .nil, T1.to (T2.to .nil)⟩) (t := t) (d := d + 1) HOK.out (SlIn.none _ _) HTL.out (by have := HT2.out; have := HT3.out; rw [budT_succ]; omega)
    · go_wp2_with fail
      refine (IH.out (v) M len cap (t + 1) B a (D - 1) _ HS1.out.1 HS1.out.2.1 hB (by have := HT.out; rw [budT_succ] at this; omega) (by have := HD.out; omega) (by omega) (by omega) (by have := HV.out; omega)).mono ?_
      rintro e w2 ⟨T1, la1, lc1, ka1, kc1, t2, rfl, ok1, sl1, tl1, hat2, ht2, hg2⟩
      have HS2 := Lib.hid (HS1.out.next hat2 hg2)
      have OK1 := Lib.hid ok1
      have GT1 := Lib.hid HS1.out.gt
      have SL12 := Lib.hid sl1
      have TL12 := Lib.hid tl1
      have HT2 := Lib.hid ht2
      have HZ2 := Lib.hid hg2.size
      clear ok1 sl1 tl1 hat2 ht2 hg2 r0 r1 r2 r3 rf
      go_wp2_with fail
      refine (IH.out (v) M len cap (t2) B a (D - 1) _ HS2.out.1 HS2.out.2.1 hB (by have := HT.out; have := HT2.out; rw [budT_succ] at *; omega) (by have := HD.out; omega) (by omega) (by omega) (by have := HV.out; omega)).mono ?_
      rintro e w3 ⟨T2, la2, lc2, ka2, kc2, t3, rfl, ok2, sl2, tl2, hat3, ht3, hg3⟩
      have HS3 := Lib.hid (HS2.out.next hat3 hg3)
      have OK2 := Lib.hid ok2
      have GT2 := Lib.hid HS2.out.gt
      have SL23 := Lib.hid sl2
      have TL23 := Lib.hid tl2
      have HT3 := Lib.hid ht3
      have HZ3 := Lib.hid hg3.size
      have SL13 := Lib.hid (HS2.out.sl hg3 GT1.out (Nat.le_refl _) SL12.out)
      have TL13 := Lib.hid (HS2.out.tl hg3 GT1.out (Nat.le_refl _) TL12.out)
      clear ok2 sl2 tl2 hat3 ht3 hg3 SL12 TL12 HS1 HS2
      have HAL := Lib.hid ((Below.refl w3.heap.size w3).alloc (Nat.le_refl _) (.cells #[.int .i64 T1.k, .int .i64 T1.n, .slice la1 T1.ls.len lc1, .slice ka1 T1.ks.len kc1, .int .i64 T2.k, .int .i64 T2.n, .slice la2 T2.ls.len lc2, .slice ka2 T2.ks.len kc2] 29))
      go_wp2_with fail
      refine (tBind_any 4 (some ⟨w3.heap.size, 0, none⟩) 2 2 _).mono ?_
      rintro e w4 ⟨rfl, hb4⟩
      have HS4 := Lib.hid ((HS3.out.later HAL.out).later hb4)
      have HTL := Lib.hid (pair_in GT1.out GT2.out HS3.out.gt HZ3.out SL13.out TL13.out SL23.out TL23.out hb4)
      have HOK : Hid (okT v (d + 1 + 1 : Nat) ⟨4, 0, .nil, T1.to (T2.to .nil)⟩) := Lib.hid (by
        have h := okT_two (q := 4) (by omega) OK1.out (B := T2) (by simpa [bindK] using OK2.out)
        rwa [show ((d + 1 : Nat) : Int) + 1 = ((d + 1 + 1 : Nat) : Int) by omega] at h)
      obtain ⟨⟨r0, r1, r2, r3⟩, rf⟩ := HS4.out.cells
      clear hb4 HS3 HAL SL13 TL13 SL23 TL23
      go_wp2_with fail
      refine bodyPost_ret (v := .agg #[.int .i64 4, .int .i64 0, .slice none 0 0, .slice (some ⟨w3.heap.size, 0, none⟩) 2 2]) (by simp [results, Try.results23, go_sem, r0, r1, r2, r3]) rfl ?_
      exact HS4.out.done (T := ⟨4, 0, .nil, T1.to (T2.to .nil)⟩) (t := t) (d := d + 1) HOK.out (SlIn.none _ _) HTL.out (by have := HT2.out; have := HT3.out; rw [budT_succ]; omega)
    · go_wp2_with fail
      refine (IH.out (v) M len cap (t + 1) B a (D - 1) _ HS1.out.1 HS1.out.2.1 hB (by have := HT.out; rw [budT_succ] at this; omega) (by have := HD.out; omega) (by omega) (by omega) (by have := HV.out; omega)).mono ?_
      rintro e w2 ⟨T1, la1, lc1, ka1, kc1, t2, rfl, ok1, sl1, tl1, hat2, ht2, hg2⟩
      have HS2 := Lib.hid (HS1.out.next hat2 hg2)
      have OK1 := Lib.hid ok1
      have GT1 := Lib.hid HS1.out.gt
      have SL12 := Lib.hid sl1
      have TL12 := Lib.hid tl1
      have HT2 := Lib.hid ht2
      have HZ2 := Lib.hid hg2.size
      clear ok1 sl1 tl1 hat2 ht2 hg2 r0 r1 r2 r3 rf
      go_wp2_with fail
      refine (IH.out (v + 1) M len cap (t2) B a (D - 1) _ HS2.out.1 HS2.out.2.1 hB (by have := HT.out; have := HT2.out; rw [budT_succ] at *; omega) (by have := HD.out; omega) (by omega) (by omega) (by have := HV.out; omega)).mono ?_
      rintro e w3 ⟨T2, la2, lc2, ka2, kc2, t3, rfl, ok2, sl2, tl2, hat3, ht3, hg3⟩
      have HS3 := Lib.hid (HS2.out.next hat3 hg3)
      have OK2 := Lib.hid ok2
      have GT2 := Lib.hid HS2.out.gt
      have SL23 := Lib.hid sl2
      have TL23 := Lib.hid tl2
      have HT3 := Lib.hid ht3
      have HZ3 := Lib.hid hg3.size
      have SL13 := Lib.hid (HS2.out.sl hg3 GT1.out (Nat.le_refl _) SL12.out)
      have TL13 := Lib.hid (HS2.out.tl hg3 GT1.out (Nat.le_refl _) TL12.out)
      clear ok2 sl2 tl2 hat3 ht3 hg3 SL12 TL12 HS1 HS2
      have HAL := Lib.hid ((Below.refl w3.heap.size w3).alloc (Nat.le_refl _) (.cells #[.int .i64 T1.k, .int .i64 T1.n, .slice la1 T1.ls.len lc1, .slice ka1 T1.ks.len kc1, .int .i64 T2.k, .int .i64 T2.n, .slice la2 T2.ls.len lc2, .slice ka2 T2.ks.len kc2] 29))
      go_wp2_with fail
      refine (tBind_any 5 (some ⟨w3.heap.size, 0, none⟩) 2 2 _).mono ?_
      rintro e w4 ⟨rfl, hb4⟩
      have HS4 := Lib.hid ((HS3.out.later HAL.out).later hb4)
      have HTL := Lib.hid (pair_in GT1.out GT2.out HS3.out.gt HZ3.out SL13.out TL13.out SL23.out TL23.out hb4)
      have HOK : Hid (okT v (d + 1 + 1 : Nat) ⟨5, 0, .nil, T1.to (T2.to .nil)⟩) := Lib.hid (by
        have h := okT_two (q := 5) (by omega) OK1.out (B := T2) (by simpa [bindK] using OK2.out)
        rwa [show ((d + 1 : Nat) : Int) + 1 = ((d + 1 + 1 : Nat) : Int) by omega] at h)
      obtain ⟨⟨r0, r1, r2, r3⟩, rf⟩ := HS4.out.cells
      clear hb4 HS3 HAL SL13 TL13 SL23 TL23
      go_wp2_with fail
      refine bodyPost_ret (v := .agg #[.int .i64 5, .int .i64 0, .slice none 0 0, .slice (some ⟨w3.heap.size, 0, none⟩) 2 2]) (by simp [results, Try.results23, go_sem, r0, r1, r2, r3]) rfl ?_
      exact HS4.out.done (T := ⟨5, 0, .nil, T1.to (T2.to .nil)⟩) (t := t) (d := d + 1) HOK.out (SlIn.none _ _) HTL.out (by have := HT2.out; have := HT3.out; rw [budT_succ]; omega)
    · go_wp2_with fail
      refine (IH.out (v) M len cap (t + 1) B a (D - 1) _ HS1.out.1 HS1.out.2.1 hB (by have := HT.out; rw [budT_succ] at this; omega) (by have := HD.out; omega) (by omega) (by omega) (by have := HV.out; omega)).mono ?_
      rintro e w2 ⟨T1, la1, lc1, ka1, kc1, t2, rfl, ok1, sl1, tl1, hat2, ht2, hg2⟩
      have HS2 := Lib.hid (HS1.out.next hat2 hg2)
      have OK1 := Lib.hid ok1
      have GT1 := Lib.hid HS1.out.gt
      have SL12 := Lib.hid sl1
      have TL12 := Lib.hid tl1
      have HT2 := Lib.hid ht2
      have HZ2 := Lib.hid hg2.size
      clear ok1 sl1 tl1 hat2 ht2 hg2 r0 r1 r2 r3 rf
      go_wp2_with fail
      refine (IH.out (v + 1) M len cap (t2) B a (D - 1) _ HS2.out.1 HS2.out.2.1 hB (by have := HT.out; have := HT2.out; rw [budT_succ] at *; omega) (by have := HD.out; omega) (by omega) (by omega) (by have := HV.out; omega)).mono ?_
      rintro e w3 ⟨T2, la2, lc2, ka2, kc2, t3, rfl, ok2, sl2, tl2, hat3, ht3, hg3⟩
      have HS3 := Lib.hid (HS2.out.next hat3 hg3)
      have OK2 := Lib.hid ok2
      have GT2 := Lib.hid HS2.out.gt
      have SL23 := Lib.hid sl2
      have TL23 := Lib.hid tl2
      have HT3 := Lib.hid ht3
      have HZ3 := Lib.hid hg3.size
      have SL13 := Lib.hid (HS2.out.sl hg3 GT1.out (Nat.le_refl _) SL12.out)
      have TL13 := Lib.hid (HS2.out.tl hg3 GT1.out (Nat.le_refl _) TL12.out)
      clear ok2 sl2 tl2 hat3 ht3 hg3 SL12 TL12 HS1 HS2
      have HAL := Lib.hid ((Below.refl w3.heap.size w3).alloc (Nat.le_refl _) (.cells #[.int .i64 T1.k, .int .i64 T1.n, .slice la1 T1.ls.len lc1, .slice ka1 T1.ks.len kc1, .int .i64 T2.k, .int .i64 T2.n, .slice la2 T2.ls.len lc2, .slice ka2 T2.ks.len kc2] 29))
      go_wp2_with fail
      refine (tBind_any 5 (some ⟨w3.heap.size, 0, none⟩) 2 2 _).mono ?_
      rintro e w4 ⟨rfl, hb4⟩
      have HS4 := Lib.hid ((HS3.out.later HAL.out).later hb4)
      have HTL := Lib.hid (pair_in GT1.out GT2.out HS3.out.gt HZ3.out SL13.out TL13.out SL23.out TL23.out hb4)
      have HOK : Hid (okT v (d + 1 + 1 : Nat) ⟨5, 0, .nil, T1.to (T2.to .nil)⟩) := Lib.hid (by
        have h := okT_two (q := 5) (by omega) OK1.out (B := T2) (by simpa [bindK] using OK2.out)
        rwa [show ((d + 1 : Nat) : Int) + 1 = ((d + 1 + 1 : Nat) : Int) by omega] at h)
      obtain ⟨⟨r0, r1, r2, r3⟩, rf⟩ := HS4.out.cells
      clear hb4 HS3 HAL SL13 TL13 SL23 TL23
      go_wp2_with fail
      refine bodyPost_ret (v := .agg #[.int .i64 5, .int .i64 0, .slice none 0 0, .slice (some ⟨w3.heap.size, 0, none⟩) 2 2]) (by simp [results, Try.results23, go_sem, r0, r1, r2, r3]) rfl ?_
      exact HS4.out.done (T := ⟨5, 0, .nil, T1.to (T2.to .nil)⟩) (t := t) (d := d + 1) HOK.out (SlIn.none _ _) HTL.out (by have := HT2.out; have := HT3.out; rw [budT_succ]; omega)
    · go_wp2_with fail
      refine (IH.out (v) M len cap (t + 1) B a (D - 1) _ HS1.out.1 HS1.out.2.1 hB (by have := HT.out; rw [budT_succ] at this; omega) (by have := HD.out; omega) (by omega) (by omega) (by have := HV.out; omega)).mono ?_
      rintro e w2 ⟨T1, la1, lc1, ka1, kc1, t2, rfl, ok1, sl1, tl1, hat2, ht2, hg2⟩
      have HS2 := Lib.hid (HS1.out.next hat2 hg2)
      have OK1 := Lib.hid ok1
      have GT1 := Lib.hid HS1.out.gt
      have SL12 := Lib.hid sl1
      have TL12 := Lib.hid tl1
      have HT2 := Lib.hid ht2
      have HZ2 := Lib.hid hg2.size
      clear ok1 sl1 tl1 hat2 ht2 hg2 r0 r1 r2 r3 rf
      go_wp2_with fail
      refine (IH.out (v + 1) M len cap (t2) B a (D - 1) _ HS2.out.1 HS2.out.2.1 hB (by have := HT.out; have := HT2.out; rw [budT_succ] at *; omega) (by have := HD.out; omega) (by omega) (by omega) (by have := HV.out; omega)).mono ?_
      rintro e w3 ⟨T2, la2, lc2, ka2, kc2, t3, rfl, ok2, sl2, tl2, hat3, ht3, hg3⟩
      have HS3 := Lib.hid (HS2.out.next hat3 hg3)
      have OK2 := Lib.hid ok2
      have GT2 := Lib.hid HS2.out.gt
      have SL23 := Lib.hid sl2
      have TL23 := Lib.hid tl2
      have HT3 := Lib.hid ht3
      have HZ3 := Lib.hid hg3.size
      have SL13 := Lib.hid (HS2.out.sl hg3 GT1.out (Nat.le_refl _) SL12.out)
      have TL13 := Lib.hid (HS2.out.tl hg3 GT1.out (Nat.le_refl _) TL12.out)
      clear ok2 sl2 tl2 hat3 ht3 hg3 SL12 TL12 HS1 HS2
      have HAL := Lib.hid ((Below.refl w3.heap.size w3).alloc (Nat.le_refl _) (.cells #[.int .i64 T1.k, .int .i64 T1.n, .slice la1 T1.ls.len lc1, .slice ka1 T1.ks.len kc1, .int .i64 T2.k, .int .i64 T2.n, .slice la2 T2.ls.len lc2, .slice ka2 T2.ks.len kc2] 29))
      go_wp2_with fail
      refine (tBind_any 6 (some ⟨w3.heap.size, 0, none⟩) 2 2 _).mono ?_
      rintro e w4 ⟨rfl, hb4⟩
      have HS4 := Lib.hid ((HS3.out.later HAL.out).later hb4)
      have HTL := Lib.hid (pair_in GT1.out GT2.out HS3.out.gt HZ3.out SL13.out TL13.out SL23.out TL23.out hb4)
      have HOK : Hid (okT v (d + 1 + 1 : Nat) ⟨6, 0, .nil, T1.to (T2.to .nil)⟩) := Lib.hid (by
        have h := okT_two (q := 6) (by omega) OK1.out (B := T2) (by simpa [bindK] using OK2.out)
        rwa [show ((d + 1 : Nat) : Int) + 1 = ((d + 1 + 1 : Nat) : Int) by omega] at h)
      obtain ⟨⟨r0, r1, r2, r3⟩, rf⟩ := HS4.out.cells
      clear hb4 HS3 HAL SL13 TL13 SL23 TL23
      go_wp2_with fail
      refine bodyPost_ret (v := .agg #[.int .i64 6, .int .i64 0, .slice none 0 0, .slice (some ⟨w3.heap.size, 0, none⟩) 2 2]) (by simp [results, Try.results23, go_sem, r0, r1, r2, r3]) rfl ?_
      exact HS4.out.done (T := ⟨6, 0, .nil, T1.to (T2.to .nil)⟩) (t := t) (d := d + 1) HOK.out (SlIn.none _ _) HTL.out (by have := HT2.out; have := HT3.out; rw [budT_succ]; omega)
    · go_wp2_with fail
      refine (IH.out (v) M len cap (t + 1) B a (D - 1) _ HS1.out.1 HS1.out.2.1 hB (by have := HT.out; rw [budT_succ] at this; omega) (by have := HD.out; omega) (by omega) (by omega) (by have := HV.out; omega)).mono ?_
      rintro e w2 ⟨T1, la1, lc1, ka1, kc1, t2, rfl, ok1, sl1, tl1, hat2, ht2, hg2⟩
      have HS2 := Lib.hid (HS1.out.next hat2 hg2)
      have OK1 := Lib.hid ok1
      have GT1 := Lib.hid HS1.out.gt
      have SL12 := Lib.hid sl1
      have TL12 := Lib.hid tl1
      have HT2 := Lib.hid ht2
      have HZ2 := Lib.hid hg2.size
      clear ok1 sl1 tl1 hat2 ht2 hg2 r0 r1 r2 r3 rf
      go_wp2_with fail
      refine (IH.out (v + 1) M len cap (t2) B a (D - 1) _ HS2.out.1 HS2.out.2.1 hB (by have := HT.out; have := HT2.out; rw [budT_succ] at *; omega) (by have := HD.out; omega) (by omega) (by omega) (by have := HV.out; omega)).mono ?_
      rintro e w3 ⟨T2, la2, lc2, ka2, kc2, t3, rfl, ok2, sl2, tl2, hat3, ht3, hg3⟩
      have HS3 := Lib.hid (HS2.out.next hat3 hg3)
      have OK2 := Lib.hid ok2
      have GT2 := Lib.hid HS2.out.gt
      have SL23 := Lib.hid sl2
      have TL23 := Lib.hid tl2
      have HT3 := Lib.hid ht3
      have HZ3 := Lib.hid hg3.size
      have SL13 := Lib.hid (HS2.out.sl hg3 GT1.out (Nat.le_refl _) SL12.out)
      have TL13 := Lib.hid (HS2.out.tl hg3 GT1.out (Nat.le_refl _) TL12.out)
      clear ok2 sl2 tl2 hat3 ht3 hg3 SL12 TL12 HS1 HS2
      have HAL := Lib.hid ((Below.refl w3.heap.size w3).alloc (Nat.le_refl _) (.cells #[.int .i64 T1.k, .int .i64 T1.n, .slice la1 T1.ls.len lc1, .slice ka1 T1.ks.len kc1, .int .i64 T2.k, .int .i64 T2.n, .slice la2 T2.ls.len lc2, .slice ka2 T2.ks.len kc2] 29))
      go_wp2_with fail
      refine (tBind_any 6 (some ⟨w3.heap.size, 0, none⟩) 2 2 _).mono ?_
      rintro e w4 ⟨rfl, hb4⟩
      have HS4 := Lib.hid ((HS3.out.later HAL.out).later hb4)
      have HTL := Lib.hid (pair_in GT1.out GT2.out HS3.out.gt HZ3.out SL13.out TL13.out SL23.out TL23.out hb4)
      have HOK : Hid (okT v (d + 1 + 1 : Nat) ⟨6, 0, .nil, T1.to (T2.to .nil)⟩) := Lib.hid (by
        have h := okT_two (q := 6) (by omega) OK1.out (B := T2) (by simpa [bindK] using OK2.out)
        rwa [show ((d + 1 : Nat) : Int) + 1 = ((d + 1 + 1 : Nat) : Int) by omega] at h)
      obtain ⟨⟨r0, r1, r2, r3⟩, rf⟩ := HS4.out.cells
      clear hb4 HS3 HAL SL13 TL13 SL23 TL23
      go_wp2_with fail
      refine bodyPost_ret (v := .agg #[.int .i64 6, .int .i64 0, .slice none 0 0, .slice (some ⟨w3.heap.size, 0, none⟩) 2 2]) (by simp [results, Try.results23, go_sem, r0, r1, r2, r3]) rfl ?_
      exact HS4.out.done (T := ⟨6, 0, .nil, T1.to (T2.to .nil)⟩) (t := t) (d := d + 1) HOK.out (SlIn.none _ _) HTL.out (by have := HT2.out; have := HT3.out; rw [budT_succ]; omega)
    · go_wp2_with fail
      refine (IH.out (v) M len cap (t + 1) B a (D - 1) _ HS1.out.1 HS1.out.2.1 hB (by have := HT.out; rw [budT_succ] at this; omega) (by have := HD.out; omega) (by omega) (by omega) (by have := HV.out; omega)).mono ?_
      rintro e w2 ⟨T1, la1, lc1, ka1, kc1, t2, rfl, ok1, sl1, tl1, hat2, ht2, hg2⟩
      have HS2 := Lib.hid (HS1.out.next hat2 hg2)
      have OK1 := Lib.hid ok1
      have GT1 := Lib.hid HS1.out.gt
      have SL12 := Lib.hid sl1
      have TL12 := Lib.hid tl1
      have HT2 := Lib.hid ht2
      have HZ2 := Lib.hid hg2.size
      clear ok1 sl1 tl1 hat2 ht2 hg2 r0 r1 r2 r3 rf
      go_wp2_with fail
      refine (IH.out (v) M len cap (t2) B a (D - 1) _ HS2.out.1 HS2.out.2.1 hB (by have := HT.out; have := HT2.out; rw [budT_succ] at *; omega) (by have := HD.out; omega) (by omega) (by omega) (by have := HV.out; omega)).mono ?_
      rintro e w3 ⟨T2, la2, lc2, ka2, kc2, t3, rfl, ok2, sl2, tl2, hat3, ht3, hg3⟩
      have HS3 := Lib.hid (HS2.out.next hat3 hg3)
      have OK2 := Lib.hid ok2
      have GT2 := Lib.hid HS2.out.gt
      have SL23 := Lib.hid sl2
      have TL23 := Lib.hid tl2
      have HT3 := Lib.hid ht3
      have HZ3 := Lib.hid hg3.size
      have SL13 := Lib.hid (HS2.out.sl hg3 GT1.out (Nat.le_refl _) SL12.out)
      have TL13 := Lib.hid (HS2.out.tl hg3 GT1.out (Nat.le_refl _) TL12.out)
      clear ok2 sl2 tl2 hat3 ht3 hg3 SL12 TL12 HS1
      go_wp2_with fail
      refine (IH.out (v + 1) M len cap (t3) B a (D - 1) _ HS3.out.1 HS3.out.2.1 hB (by have := HT.out; have := HT2.out; have := HT3.out; rw [budT_succ] at *; omega) (by have := HD.out; omega) (by omega) (by omega) (by have := HV.out; omega)).mono ?_
      rintro e w4 ⟨T3, la3, lc3, ka3, kc3, t4, rfl, ok3, sl3, tl3, hat4, ht4, hg4⟩
      have HS4 := Lib.hid (HS3.out.next hat4 hg4)
      have OK3 := Lib.hid ok3
      have GT3 := Lib.hid HS3.out.gt
      have SL34 := Lib.hid sl3
      have TL34 := Lib.hid tl3
      have HT4 := Lib.hid ht4
      have HZ4 := Lib.hid hg4.size
      have SL14 := Lib.hid (HS3.out.sl hg4 GT1.out HZ3.out SL13.out)
      have TL14 := Lib.hid (HS3.out.tl hg4 GT1.out HZ3.out TL13.out)
      have SL24 := Lib.hid (HS3.out.sl hg4 GT2.out (Nat.le_refl _) SL23.out)
      have TL24 := Lib.hid (HS3.out.tl hg4 GT2.out (Nat.le_refl _) TL23.out)
      clear ok3 sl3 tl3 hat4 ht4 hg4 SL13 TL13 SL23 TL23 HS2 HS3
      have HAL := Lib.hid ((Below.refl w4.heap.size w4).alloc (Nat.le_refl _) (.cells #[.int .i64 T1.k, .int .i64 T1.n, .slice la1 T1.ls.len lc1, .slice ka1 T1.ks.len kc1, .int .i64 T2.k, .int .i64 T2.n, .slice la2 T2.ls.len lc2, .slice ka2 T2.ks.len kc2, .int .i64 T3.k, .int .i64 T3.n, .slice la3 T3.ls.len lc3, .slice ka3 T3.ks.len kc3] 29))
      go_wp2_with fail
      refine (tBind_any 7 (some ⟨w4.heap.size, 0, none⟩) 3 3 _).mono ?_
      rintro e w5 ⟨rfl, hb5⟩
      have HS5 := Lib.hid ((HS4.out.later HAL.out).later hb5)
      have HTL := Lib.hid (triple_in GT1.out GT2.out GT3.out HS4.out.gt (Nat.le_trans HZ3.out HZ4.out) HZ4.out SL14.out TL14.out SL24.out TL24.out SL34.out TL34.out hb5)
      have HOK : Hid (okT v (d + 1 + 1 : Nat) ⟨7, 0, .nil, T1.to (T2.to (T3.to .nil))⟩) := Lib.hid (by
        have h := okT_let OK1.out OK2.out OK3.out
        rwa [show ((d + 1 : Nat) : Int) + 1 = ((d + 1 + 1 : Nat) : Int) by omega] at h)
      obtain ⟨⟨r0, r1, r2, r3⟩, rf⟩ := HS5.out.cells
      clear hb5 HS4 HAL SL14 TL14 SL24 TL24 SL34 TL34
      go_wp2_with fail
      refine bodyPost_ret (v := .agg #[.int .i64 7, .int .i64 0, .slice none 0 0, .slice (some ⟨w4.heap.size, 0, none⟩) 3 3]) (by simp [results, Try.results23, go_sem, r0, r1, r2, r3]) rfl ?_
      exact HS5.out.done (T := ⟨7, 0, .nil, T1.to (T2.to (T3.to .nil))⟩) (t := t) (d := d + 1) HOK.out (SlIn.none _ _) HTL.out (by have := HT2.out; have := HT3.out; have := HT4.out; rw [budT_succ]; omega)
end Go.Proofs.Ythnkoamabfaioaa
/- The contract of the document's own Same: whether two levels are the same. -/
namespace Go.Proofs.Ythnkoamabfaioaa
open Go.RowKit

/-- What the region of the call holds on to, in a world that is only more. -/
theorem heldT {wr w' : World} {x y b b' o o' j cap cap' cap1 cap2 L : Nat} {k1 n1 k2 n2 : Int} {a1 a2 : Option Addr} {l l' : Nat} (hb : Below wr.heap.size wr w') (hx : x < wr.heap.size) (hy : y < wr.heap.size) (h1 : b < wr.heap.size) (h2 : b' < wr.heap.size)
    (c2 : wr.cell? ⟨x, 2, none⟩ = some (.slice (some ⟨b, o, none⟩) L cap)) (c5 : wr.cell? ⟨y, 2, none⟩ = some (.slice (some ⟨b', o', none⟩) L cap'))
    (e0 : wr.cell? ⟨b, o + j * 3, none⟩ = some (.int .i64 k1)) (e1 : wr.cell? ⟨b, o + j * 3 + 1, none⟩ = some (.int .i64 n1)) (e2 : wr.cell? ⟨b, o + j * 3 + 2, none⟩ = some (.slice a1 l cap1))
    (e3 : wr.cell? ⟨b', o' + j * 3, none⟩ = some (.int .i64 k2)) (e4 : wr.cell? ⟨b', o' + j * 3 + 1, none⟩ = some (.int .i64 n2)) (e5 : wr.cell? ⟨b', o' + j * 3 + 2, none⟩ = some (.slice a2 l' cap2)) :
    Hid (Below wr.heap.size wr w') ∧ w'.cell? ⟨x, 2, none⟩ = some (.slice (some ⟨b, o, none⟩) L cap) ∧ w'.cell? ⟨y, 2, none⟩ = some (.slice (some ⟨b', o', none⟩) L cap') ∧
      w'.cell? ⟨b, o + j * 3, none⟩ = some (.int .i64 k1) ∧ w'.cell? ⟨b, o + j * 3 + 1, none⟩ = some (.int .i64 n1) ∧ w'.cell? ⟨b, o + j * 3 + 2, none⟩ = some (.slice a1 l cap1) ∧
      w'.cell? ⟨b', o' + j * 3, none⟩ = some (.int .i64 k2) ∧ w'.cell? ⟨b', o' + j * 3 + 1, none⟩ = some (.int .i64 n2) ∧ w'.cell? ⟨b', o' + j * 3 + 2, none⟩ = some (.slice a2 l' cap2) :=
  ⟨Lib.hid hb, (bcell hb _ _ hx).trans c2, (bcell hb _ _ hy).trans c5, (bcell hb _ _ h1).trans e0, (bcell hb _ _ h1).trans e1, (bcell hb _ _ h1).trans e2, (bcell hb _ _ h2).trans e3, (bcell hb _ _ h2).trans e4, (bcell hb _ _ h2).trans e5⟩

set_option maxRecDepth 100000 in
set_option maxHeartbeats 2000000 in
theorem rSame_any (s : Nat) : ∀ (f g : Fo), f.size < s → ∀ (k n k' n' : Int) (a a' : Option Addr) (cap cap' B : Nat) (w : World), SlIn w (· < B) f a cap → SlIn w (· < B) g a' cap' → B ≤ w.heap.size →
    Calls Try.prog 31 #[.agg #[.int .i64 k, .int .i64 n, .slice a f.len cap], .agg #[.int .i64 k', .int .i64 n', .slice a' g.len cap']] w fun e w' => e = .returned (.bool (decide (k = k' ∧ n = n' ∧ f = g))) ∧ Below w.heap.size w w' := by
  induction s with
  | zero => intro f g hs; omega
  | succ s ih =>
    intro f g hs k n k' n' a a' cap cap' B w hsl hsl' hB
    have IH := Lib.hid ih
    clear ih
    have hlen := hsl.len
    have hlen' := hsl'.len
    have hbx : Below w.heap.size w ((w.alloc (.cells #[.int .i64 k, .int .i64 n, .slice a f.len cap] 33)).alloc (.cells #[.int .i64 k', .int .i64 n', .slice a' g.len cap'] 33)) := ((Below.refl _ _).alloc (Nat.le_refl _) _).alloc (by simp) _
    by_cases h1 : k = k'
    · by_cases h2 : n = n'
      · by_cases h3 : f.len = g.len
        · subst h1 h2
          have HP : Hid (decide (k = k ∧ n = n ∧ f = g) = decide (f = g)) := Lib.hid (by simp)
          rw [HP.out]
          obtain ⟨L, hLf, hLg⟩ : ∃ L, f.len = L ∧ g.len = L := ⟨_, h3, rfl⟩
          have H3 := Lib.hid hLf
          have HL := Lib.hid hLg
          rw [hLf] at hlen
          rw [hLf, hLg] at hbx
          rw [hLf, hLg]
          clear h3 hLf hLg HP hlen'
          go_enter Try.func31, Try.ntmps31
          go_wp2_with fail
          go_loopw [5] (fun i wr => ∃ (j : Nat) (r r' : Fo), i = .int .i64 j ∧ Hid (j + r.len = L) ∧ Hid (r.len = r'.len) ∧ Hid (r.size ≤ f.size) ∧
              Hid (∀ b o, a = some ⟨b, o, none⟩ → FoIn w (· < B) r b (o + j * 3)) ∧ Hid (∀ b o, a' = some ⟨b, o, none⟩ → FoIn w (· < B) r' b (o + j * 3)) ∧ Hid (decide (f = g) = decide (r = r')) ∧
              Below (w.heap.size + 2) ((w.alloc (.cells #[.int .i64 k, .int .i64 n, .slice a L cap] 33)).alloc (.cells #[.int .i64 k, .int .i64 n, .slice a' L cap'] 33)) wr)
            (fun i _ => L - (intOf i).toNat)
          case atStart => exact ⟨0, f, g, rfl, Lib.hid (by rw [H3.out]; omega), Lib.hid (by rw [H3.out, HL.out]), Lib.hid (Nat.le_refl _), Lib.hid (by rintro b o rfl; simpa using hsl.foIn), Lib.hid (by rintro b o rfl; simpa using hsl'.foIn), Lib.hid rfl, Below.refl _ _⟩
          case round =>
            obtain ⟨j, r, r', rfl, hj, hjj, hrs, hin, hin', heq, hb⟩ := hrel
            have c2 := bcell hb w.heap.size 2 (by omega)
            have c5 := bcell hb (w.heap.size + 1) 2 (by omega)
            simp at c2 c5
            have hwB : Below B w wr := (hbx.mono hB).trans (hb.mono (by omega))
            have hwW : Below w.heap.size w wr := hbx.trans (hb.mono (by omega))
            have HSZ : Hid (w.heap.size + 2 ≤ wr.heap.size) := Lib.hid (by have := hb.size; simpa using this)
            match r, r' with
            | .nil, .cons .. => have := hjj.out; simp [Fo.len] at this
            | .cons .., .nil => have := hjj.out; simp [Fo.len] at this
            | .nil, .nil =>
              have hlt : ¬ (j : Int) < (L : Int) := by have := hj.out; simp [Fo.len] at this; omega
              have d' : decide ((j : Int) < (L : Int)) = false := by simpa using hlt
              go_wp2_with fail
              go_ret
              exact ⟨by rw [heq.out]; rfl, hwW⟩
            | .cons k1 n1 ks r1, .cons k2 n2 ks' r2 =>
              have hlt : j < L := by have := hj.out; simp [Fo.len] at this; omega
              obtain ⟨b, o, rfl, hbB, _⟩ := hsl.some (by rw [H3.out]; omega)
              obtain ⟨b', o', rfl, hbB', _⟩ := hsl'.some (by rw [HL.out]; omega)
              obtain ⟨e0, e1, ⟨a1, cap1, e2, hsl1⟩, _⟩ := (hin.out b o rfl).below hwB _ _ _ hbB |>.first
              obtain ⟨e3, e4, ⟨a2, cap2, e5, hsl2⟩, _⟩ := (hin'.out b' o' rfl).below hwB _ _ _ hbB' |>.first
              have hks : ks.size < s := by have := hrs.out; simp [Fo.size] at this; omega
              have HC : Hid (∀ v, decide (k1 = k2 ∧ n1 = n2 ∧ ks = ks') = v → decide (Fo.cons k1 n1 ks r1 = Fo.cons k2 n2 ks' r2) = (v && decide (r1 = r2))) := Lib.hid (by
                rintro v rfl
                rw [Bool.eq_iff_iff]
                simp [and_assoc])
              have C1 := Lib.hid (fun W h1 h2 h3 => IH.out ks ks' hks k1 n1 k2 n2 a1 a2 cap1 cap2 B W h1 h2 h3)
              generalize hv : decide (k1 = k2 ∧ n1 = n2 ∧ ks = ks') = v at C1
              have HC' := Lib.hid (HC.out v hv)
              clear HC hv
              have hlt' : (j : Int) < (L : Int) := by omega
              go_wp2_with fail
              go_region_held3 (fun w' => Hid (Below wr.heap.size wr w') ∧ w'.cell? ⟨w.heap.size, 2, none⟩ = some (.slice (some ⟨b, o, none⟩) L cap) ∧ w'.cell? ⟨w.heap.size + 1, 2, none⟩ = some (.slice (some ⟨b', o', none⟩) L cap') ∧
                  w'.cell? ⟨b, o + j * 3, none⟩ = some (.int .i64 k1) ∧ w'.cell? ⟨b, o + j * 3 + 1, none⟩ = some (.int .i64 n1) ∧ w'.cell? ⟨b, o + j * 3 + 2, none⟩ = some (.slice a1 ks.len cap1) ∧
                  w'.cell? ⟨b', o' + j * 3, none⟩ = some (.int .i64 k2) ∧ w'.cell? ⟨b', o' + j * 3 + 1, none⟩ = some (.int .i64 n2) ∧ w'.cell? ⟨b', o' + j * 3 + 2, none⟩ = some (.slice a2 ks'.len cap2))
                (first | exact ⟨Lib.hid (Below.refl _ _).drew, c2, c5, e0, e1, e2, e3, e4, e5⟩ | exact heldT (Below.step (Below.refl _ _).drew hbN (Nat.le_refl _)) (by have := HSZ.out; omega) (by have := HSZ.out; omega) (by have := HSZ.out; omega) (by have := HSZ.out; omega) c2 c5 e0 e1 e2 e3 e4 e5)
                (first | (go_at_call 31; refine (C1.out _ (by exact hsl1.below (Below.refl _ _).drew) (by exact hsl2.below (Below.refl _ _).drew) (by exact Nat.le_trans hB hwB.size)).mono ?_; rintro e wN ⟨rfl, hbN⟩))
              have hbE := Lib.hid (Below.step hb (Below.step (Below.refl _ _).drew hbN (Nat.le_refl _)) (by simp))
              have hwE := Lib.hid (Below.step hwW (Below.step (Below.refl _ _).drew hbN (Nat.le_refl _)) (Nat.le_refl _))
              clear c2 c5 e0 e1 e2 e3 e4 e5
              cases v with
              | true =>
                go_wp2_with fail
                go_roundw
                case rel => exact ⟨j + 1, r1, r2, by go_num, Lib.hid (by have := hj.out; simp [Fo.len] at this; omega), Lib.hid (by have := hjj.out; simpa [Fo.len] using this), Lib.hid (by have := hrs.out; simp [Fo.size] at this; omega), Lib.hid (by rintro b' o' h; cases h; have := (hin.out b o rfl).2.2.2; rwa [show o + (j + 1) * 3 = o + j * 3 + 3 by omega]), Lib.hid (by rintro b1 o1 h; cases h; have := (hin'.out b' o' rfl).2.2.2; rwa [show o' + (j + 1) * 3 = o' + j * 3 + 3 by omega]), Lib.hid (by rw [heq.out, HC'.out]; rfl), hbE.out⟩
                case measure => simp [intOf]; omega
              | false =>
                go_wp2_with fail
                go_ret
                exact ⟨by rw [heq.out, HC'.out]; rfl, hwE.out⟩
        · have d3 : ((f.len : Int) != (g.len : Int)) = true := by rw [bne_iff_ne]; omega
          have e : decide (k = k' ∧ n = n' ∧ f = g) = false := decide_eq_false (fun h => h3 (by rw [h.2.2]))
          rw [e]
          subst h1 h2
          clear e h3
          go_enter Try.func31, Try.ntmps31
          go_wp2_with fail
          go_ret
          exact ⟨rfl, hbx⟩
      · have d2 : (n != n') = true := by rw [bne_iff_ne]; exact h2
        have e : decide (k = k' ∧ n = n' ∧ f = g) = false := decide_eq_false (fun h => h2 h.2.1)
        rw [e]
        subst h1
        clear e h2
        go_enter Try.func31, Try.ntmps31
        go_wp2_with fail
        go_ret
        exact ⟨rfl, hbx⟩
    · have d1 : (k != k') = true := by rw [bne_iff_ne]; exact h1
      have e : decide (k = k' ∧ n = n' ∧ f = g) = false := decide_eq_false (fun h => h1 h.1)
      rw [e]
      clear e h1
      go_enter Try.func31, Try.ntmps31
      go_wp2_with fail
      go_ret
      exact ⟨rfl, hbx⟩
end Go.Proofs.Ythnkoamabfaioaa
