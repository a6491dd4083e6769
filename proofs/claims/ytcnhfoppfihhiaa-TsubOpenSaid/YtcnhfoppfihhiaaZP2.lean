/- The law's maker of terms by numbers: it makes some term whose shape is right, of so many free variables, at most so deep; it goes on in the numbers, and only makes new memory beside. -/
import Derived.Test.YtcnhfoppfihhiaaTmk
import Derived.Test.YtcnhfoppfihhiaaZP1
import Derived.Test.YtcnhfoppfihhiaaStep
import Derived.Deep.RegionLaw
import Derived.Test.YtcnhfoppfihhiaaMaker
import Derived.Test.YtcnhfoppfihhiaaKid
import Derived.RangeFuncBox
import Derived.Test.YtcnhfoppfihhiaaMono
import Derived.Test.YtcnhfoppfihhiaaWpl
import Derived.Test.YtcnhfoppfihhiaaSsub
namespace Go.Proofs.Ytcnhfoppfihhiaa
open Go.RowKit

/-- Where the maker stands, in the midst of a call that began at w. -/
def MkS (w W : World) (M : Nat) (a : Option Addr) (len cap t B : Nat) : Prop :=
  MkAt W M a len cap t ∧ U8In W (· < B) len a cap ∧ w.grownBy W (some M) ∧ W.heap[w.heap.size]? = some (.cells #[.int .i64 0, .int .i64 0, .slice none 0 0, .slice none 0 0] 29 (0, 0)) ∧ B ≤ M ∧ M < w.heap.size
theorem MkS.start {w : World} {M len cap t B : Nat} {a : Option Addr} (hat : MkAt w M a len cap t) (hin : U8In w (· < B) len a cap) (hB : B ≤ M) : MkS w (w.alloc (.cells #[.int .i64 0, .int .i64 0, .slice none 0 0, .slice none 0 0] 29)) M a len cap t B := by
  have hM := lt_of_block hat
  refine ⟨hat.only (Only.alloc w w.heap.size _) (by omega), hin.below ((Below.refl B w).alloc (by omega) _), Only.alloc _ _ _, heap_new _ _, hB, hM⟩
theorem MkS.next {w W W' : World} {M len cap t t2 B : Nat} {a : Option Addr} (h : MkS w W M a len cap t B) (hat : MkAt W' M a len cap t2) (hg : W.grownBy W' (some M)) : MkS w W' M a len cap t2 B := by
  obtain ⟨h1, h2, h3, h4, h5, h6⟩ := h
  have hz := h3.size
  exact ⟨hat, h2.keep (fun b hb => Only.block hg (by omega) (by omega)), Only.after h3 hg, (Only.block hg (lt_of_block h4) (by omega)).trans h4, h5, h6⟩
theorem MkS.later {w W W' : World} {M len cap t B : Nat} {a : Option Addr} (h : MkS w W M a len cap t B) (hb : Below W.heap.size W W') : MkS w W' M a len cap t B :=
  h.next ((hb.block _ (lt_of_block h.1)).trans h.1) (Only.below M hb)
theorem MkS.cells {w W : World} {M len cap t B : Nat} {a : Option Addr} (h : MkS w W M a len cap t B) : (W.cell? ⟨w.heap.size, 0, none⟩ = some (.int .i64 0) ∧ W.cell? ⟨w.heap.size, 1, none⟩ = some (.int .i64 0) ∧ W.cell? ⟨w.heap.size, 2, none⟩ = some (.slice none 0 0) ∧ W.cell? ⟨w.heap.size, 3, none⟩ = some (.slice none 0 0)) ∧ ∀ o, W.frozen? ⟨w.heap.size, o, none⟩ = false :=
  ⟨cells4 h.2.2.2.1, free_of h.2.2.2.1⟩
theorem MkS.done {v : Int} {w W : World} {M len cap t t' d lc kc B : Nat} {a la ka : Option Addr} {T : Tm} (h : MkS w W M a len cap t' B) (hok : okT v (d + 1 : Nat) T)
    (hl : SlIn W (fun b => w.heap.size < b ∧ b < W.heap.size) T.ls la lc) (hk : TlIn W (fun b => w.heap.size < b ∧ b < W.heap.size) T.ks ka kc) (ht : t' ≤ t + budT d) :
    MtOk v w M a len cap t d (.returned (.agg #[.int .i64 T.k, .int .i64 T.n, .slice la T.ls.len lc, .slice ka T.ks.len kc])) ((((W.setCell ⟨w.heap.size, 0, none⟩ (.int .i64 T.k)).setCell ⟨w.heap.size, 1, none⟩ (.int .i64 T.n)).setCell ⟨w.heap.size, 2, none⟩ (.slice la T.ls.len lc)).setCell ⟨w.heap.size, 3, none⟩ (.slice ka T.ks.len kc)) :=
  MtOk.store (Nat.le_refl _) h.2.2.2.2.2 hok hl hk h.1 ht h.2.2.1
theorem MkS.gt {w W : World} {M len cap t B : Nat} {a : Option Addr} (h : MkS w W M a len cap t B) : w.heap.size < W.heap.size := lt_of_block h.2.2.2.1
/-- What was made lies there still. -/
theorem MkS.tl {w W W' : World} {M len cap t B lo hi : Nat} {a : Option Addr} (h : MkS w W M a len cap t B) (hg : W.grownBy W' (some M)) (hlo : w.heap.size < lo) (hhi : hi ≤ W.heap.size) {F : Ft} {x : Option Addr} {c : Nat} (hs : TlIn W (fun b => lo ≤ b ∧ b < hi) F x c) : TlIn W' (fun b => lo ≤ b ∧ b < hi) F x c := by
  have := h.2.2.2.2.2
  exact hs.keep (fun b hb => Only.block hg (by omega) (by omega))
theorem MkS.sl {w W W' : World} {M len cap t B lo hi : Nat} {a : Option Addr} (h : MkS w W M a len cap t B) (hg : W.grownBy W' (some M)) (hlo : w.heap.size < lo) (hhi : hi ≤ W.heap.size) {F : Fo} {x : Option Addr} {c : Nat} (hs : SlIn W (fun b => lo ≤ b ∧ b < hi) F x c) : SlIn W' (fun b => lo ≤ b ∧ b < hi) F x c := by
  have := h.2.2.2.2.2
  exact hs.keep (fun b hb => Only.block hg (by omega) (by omega))

theorem MkS.over {w W W' : World} {M len cap t B : Nat} {a : Option Addr} (h : MkS w W M a len cap t B) (hs : ∀ b, b ≤ w.heap.size → W'.heap[b]? = W.heap[b]?) (hz : W.heap.size ≤ W'.heap.size) (h1 : W'.os = W.os) (h2 : W'.tape = W.tape) (h3 : W'.output = W.output) : MkS w W' M a len cap t B := by
  obtain ⟨p1, p2, p3, p4, p5, p6⟩ := h
  refine ⟨(hs _ (by omega)).trans p1, p2.keep (fun b hb => hs b (by omega)), ⟨h1.trans p3.os, h2.trans p3.tape, h3.trans p3.output, Nat.le_trans p3.size hz, fun b hb hn => (hs b (by omega)).trans (p3.block b hb hn)⟩, (hs _ (Nat.le_refl _)).trans p4, p5, p6⟩
/-- A Const that is being made: its box at N, its levels so far. -/
def CsR (w : World) (N : Nat) (n : Int) (M : Nat) (a : Option Addr) (len cap t0 B : Nat) (G : Fo) (v : Value) (wr : World) : Prop :=
  (∃ t', MkS w wr M a len cap t' B ∧ t' ≤ t0 + 11 * G.len) ∧ wr.heap[N]? = some (.cells #[.int .i64 3, .int .i64 n, v, .slice none 0 0] 29 (0, 0)) ∧ KsMix 0 (N + 1) wr v G ∧ w.heap.size < N ∧ lvB 5 10 G = true
theorem CsR.drew {w : World} {N M len cap t0 B : Nat} {n : Int} {a : Option Addr} {G : Fo} {v : Value} {wr : World} (h : CsR w N n M a len cap t0 B G v wr) : CsR w N n M a len cap t0 B G v wr.drew := by
  obtain ⟨⟨t', hS, ht⟩, hbx, hK, hN, hlv⟩ := h
  have hb : Below wr.heap.size wr wr.drew := (Below.refl _ _).drew
  exact ⟨⟨t', hS.later hb, ht⟩, (hb.block _ (lt_of_block hbx)).trans hbx, hK.later hb, hN, hlv⟩
theorem CsR.next {w : World} {N M len cap t0 B : Nat} {n : Int} {a : Option Addr} {G : Fo} {v : Value} {wr : World} (h : CsR w N n M a len cap t0 B G v wr) (hG : G.len ≤ 2) {t' : Nat} (hS : MkS w wr M a len cap t' B) (ht : t' ≤ t0 + 11 * G.len) {e : Ending} {w2 : World} (hm : MlOk 3 2 wr M a len cap t' 2 e w2) :
    ∃ (lk ln : Int) (F : Fo) (x : Option Addr) (c : Nat), e = .returned (.agg #[.int .i64 lk, .int .i64 ln, .slice x F.len c]) ∧ w2.cell? ⟨N, 2, none⟩ = some v ∧ (w2.alloc (.cells #[.int .i64 lk, .int .i64 ln, .slice x F.len c] 38)).cell? ⟨N, 2, none⟩ = some v ∧
      ∃ g' cap' w3, Hid ((Builtin.append_ #[26, 26] 26 #[v, .slice (some ⟨w2.heap.size, 0, none⟩) 1 1]).run Try.prog (w2.alloc (.cells #[.int .i64 lk, .int .i64 ln, .slice x F.len c] 38)) = .ok (.slice (some ⟨g', 0, none⟩) (G.len + 1) cap') w3) ∧
        w3.cell? ⟨N, 2, none⟩ = some v ∧ (∀ o, w3.frozen? ⟨N, o, none⟩ = false) ∧ Hid (CsR w N n M a len cap t0 B (G.app (.cons lk ln F .nil)) (.slice (some ⟨g', 0, none⟩) (G.len + 1) cap') (w3.setCell ⟨N, 2, none⟩ (.slice (some ⟨g', 0, none⟩) (G.len + 1) cap'))) := by
  obtain ⟨_, hbx, hK, hN, hlv⟩ := h
  obtain ⟨lk, ln, F, x, c, t2, rfl, hok, hs, hat2, ht2, hg⟩ := hm
  have hM := hS.2.2.2.2.2
  have hlt := lt_of_block hbx
  have e2 := (Only.block hg hlt (by omega)).trans hbx
  have hz := hg.size
  have hs' : SlIn w2 (fun b => (b < 0 ∨ wr.heap.size ≤ b) ∧ b < w2.heap.size) F x c := hs.weak (fun b hb => ⟨.inr hb.1, hb.2⟩)
  obtain ⟨g', cap', w3, hrun, k3, same, z3, o1, o2, o3⟩ := (hK.grown hg (Nat.zero_le _) (by omega)).append lk ln (hK.fresh (by omega) (Nat.zero_le _) hs') 26 (by omega) (by omega) (by omega)
  have nv : ∀ b, b ≤ N → some b ≠ v.ownBlock := fun b hb e => by have := (hK.lt b e.symm).1; omega
  have f2 := (same _ (by omega) (nv _ (Nat.le_refl _))).trans e2
  have hb2 : bud 2 = 11 := rfl
  refine ⟨lk, ln, F, x, c, rfl, cell_at e2 2, (World.cell?_of_block (w := w2) (a := ⟨N, 2, none⟩) (heap_old w2 _ (show N < w2.heap.size by omega))).trans (cell_at e2 2), g', cap', w3, Lib.hid hrun, cell_at f2 2, free_of f2, Lib.hid ⟨⟨t2, ?_, ?_⟩, heap_setCell_same w3 _ 2 _ _ _ f2, k3.setLow (Nat.zero_le _) (by omega) 2 _, hN, lvB_app hlv ?_⟩⟩
  · refine (hS.next hat2 hg).over (fun b hb => ?_) (by simp; omega) o1 o2 o3
    rw [Below.heap_setCell _ _ _ _ (show b ≠ N by omega)]
    exact same b (by omega) (nv b (by omega))
  · rw [Fo.app_len]; simp only [Fo.len]; omega
  · simp only [lvB, hok.right (by omega : 2 ≤ 4), Bool.true_and]
theorem budT_succ (d : Nat) : budT (d + 1) = 3 * budT d + 1 := rfl
theorem sl_in {w3 w4 W : World} {P : Nat → Prop} {R : Nat} {F : Fo} {x : Option Addr} {c : Nat} (h : SlIn w3 P F x c) (hP : ∀ b, P b → R < b ∧ b < w3.heap.size) (ha : Below w3.heap.size w3 W) (hb : Below W.heap.size W w4) : SlIn w4 (fun b => R < b ∧ b < w4.heap.size) F x c :=
  (h.keep (fun b hb' => (Below.step ha hb (Nat.le_refl _)).block b (hP b hb').2)).weak (fun b hb' => ⟨(hP b hb').1, Nat.lt_of_lt_of_le (hP b hb').2 (Nat.le_trans ha.size hb.size)⟩)
theorem tl_in {w3 w4 W : World} {P : Nat → Prop} {R : Nat} {F : Ft} {x : Option Addr} {c : Nat} (h : TlIn w3 P F x c) (hP : ∀ b, P b → R < b ∧ b < w3.heap.size) (ha : Below w3.heap.size w3 W) (hb : Below W.heap.size W w4) : TlIn w4 (fun b => R < b ∧ b < w4.heap.size) F x c :=
  h.turn (fun b hb' => (Below.step ha hb (Nat.le_refl _)).block b (hP b hb').2) (fun b hb' => ⟨(hP b hb').1, Nat.lt_of_lt_of_le (hP b hb').2 (Nat.le_trans ha.size hb.size)⟩)
/-- Two terms that were made, laid one behind the other. -/
theorem pair_in {w3 w4 : World} {R lo1 hi1 lo2 : Nat} {T U : Tm} {la ka la' ka' : Option Addr} {lc kc lc' kc' : Nat} (h1 : R < lo1) (h2 : R < lo2) (h3 : R < w3.heap.size) (hh : hi1 ≤ w3.heap.size)
    (s1 : SlIn w3 (fun b => lo1 ≤ b ∧ b < hi1) T.ls la lc) (k1 : TlIn w3 (fun b => lo1 ≤ b ∧ b < hi1) T.ks ka kc) (s2 : SlIn w3 (fun b => lo2 ≤ b ∧ b < w3.heap.size) U.ls la' lc') (k2 : TlIn w3 (fun b => lo2 ≤ b ∧ b < w3.heap.size) U.ks ka' kc')
    (hb : Below (w3.alloc (.cells #[.int .i64 T.k, .int .i64 T.n, .slice la T.ls.len lc, .slice ka T.ks.len kc, .int .i64 U.k, .int .i64 U.n, .slice la' U.ls.len lc', .slice ka' U.ks.len kc'] 29)).heap.size (w3.alloc (.cells #[.int .i64 T.k, .int .i64 T.n, .slice la T.ls.len lc, .slice ka T.ks.len kc, .int .i64 U.k, .int .i64 U.n, .slice la' U.ls.len lc', .slice ka' U.ks.len kc'] 29)) w4) :
    TlIn w4 (fun b => R < b ∧ b < w4.heap.size) (T.to (U.to .nil)) (some ⟨w3.heap.size, 0, none⟩) 2 := by
  have ha : Below w3.heap.size w3 (w3.alloc (.cells #[.int .i64 T.k, .int .i64 T.n, .slice la T.ls.len lc, .slice ka T.ks.len kc, .int .i64 U.k, .int .i64 U.n, .slice la' U.ls.len lc', .slice ka' U.ks.len kc'] 29)) := (Below.refl _ _).alloc (Nat.le_refl _) _
  have hn := (hb.block w3.heap.size (by simp)).trans (heap_new w3 (.cells #[.int .i64 T.k, .int .i64 T.n, .slice la T.ls.len lc, .slice ka T.ks.len kc, .int .i64 U.k, .int .i64 U.n, .slice la' U.ls.len lc', .slice ka' U.ks.len kc'] 29))
  have hz := lt_of_block hn
  exact TlIn.mk (Nat.le_refl _) (by omega) ⟨h3, hz⟩ (FtIn.push (cell_at hn 0) (cell_at hn 1) (cell_at hn 2) (sl_in s1 (fun b hb => ⟨by omega, by omega⟩) ha hb) (cell_at hn 3) (tl_in k1 (fun b hb => ⟨by omega, by omega⟩) ha hb) (FtIn.push (cell_at hn 4) (cell_at hn 5) (cell_at hn 6) (sl_in s2 (fun b hb => ⟨by omega, by omega⟩) ha hb) (cell_at hn 7) (tl_in k2 (fun b hb => ⟨by omega, by omega⟩) ha hb) trivial))
/-- Three. -/
theorem triple_in {w3 w4 : World} {R lo1 hi1 lo2 hi2 lo3 : Nat} {T U V : Tm} {la ka la' ka' la'' ka'' : Option Addr} {lc kc lc' kc' lc'' kc'' : Nat} (h1 : R < lo1) (h2 : R < lo2) (h2' : R < lo3) (h3 : R < w3.heap.size) (hh : hi1 ≤ w3.heap.size) (hh2 : hi2 ≤ w3.heap.size)
    (s1 : SlIn w3 (fun b => lo1 ≤ b ∧ b < hi1) T.ls la lc) (k1 : TlIn w3 (fun b => lo1 ≤ b ∧ b < hi1) T.ks ka kc) (s2 : SlIn w3 (fun b => lo2 ≤ b ∧ b < hi2) U.ls la' lc') (k2 : TlIn w3 (fun b => lo2 ≤ b ∧ b < hi2) U.ks ka' kc') (s3 : SlIn w3 (fun b => lo3 ≤ b ∧ b < w3.heap.size) V.ls la'' lc'') (k3 : TlIn w3 (fun b => lo3 ≤ b ∧ b < w3.heap.size) V.ks ka'' kc'')
    (hb : Below (w3.alloc (.cells #[.int .i64 T.k, .int .i64 T.n, .slice la T.ls.len lc, .slice ka T.ks.len kc, .int .i64 U.k, .int .i64 U.n, .slice la' U.ls.len lc', .slice ka' U.ks.len kc', .int .i64 V.k, .int .i64 V.n, .slice la'' V.ls.len lc'', .slice ka'' V.ks.len kc''] 29)).heap.size (w3.alloc (.cells #[.int .i64 T.k, .int .i64 T.n, .slice la T.ls.len lc, .slice ka T.ks.len kc, .int .i64 U.k, .int .i64 U.n, .slice la' U.ls.len lc', .slice ka' U.ks.len kc', .int .i64 V.k, .int .i64 V.n, .slice la'' V.ls.len lc'', .slice ka'' V.ks.len kc''] 29)) w4) :
    TlIn w4 (fun b => R < b ∧ b < w4.heap.size) (T.to (U.to (V.to .nil))) (some ⟨w3.heap.size, 0, none⟩) 3 := by
  have ha : Below w3.heap.size w3 (w3.alloc (.cells #[.int .i64 T.k, .int .i64 T.n, .slice la T.ls.len lc, .slice ka T.ks.len kc, .int .i64 U.k, .int .i64 U.n, .slice la' U.ls.len lc', .slice ka' U.ks.len kc', .int .i64 V.k, .int .i64 V.n, .slice la'' V.ls.len lc'', .slice ka'' V.ks.len kc''] 29)) := (Below.refl _ _).alloc (Nat.le_refl _) _
  have hn := (hb.block w3.heap.size (by simp)).trans (heap_new w3 (.cells #[.int .i64 T.k, .int .i64 T.n, .slice la T.ls.len lc, .slice ka T.ks.len kc, .int .i64 U.k, .int .i64 U.n, .slice la' U.ls.len lc', .slice ka' U.ks.len kc', .int .i64 V.k, .int .i64 V.n, .slice la'' V.ls.len lc'', .slice ka'' V.ks.len kc''] 29))
  have hz := lt_of_block hn
  exact TlIn.mk (Nat.le_refl _) (by omega) ⟨h3, hz⟩ (FtIn.push (cell_at hn 0) (cell_at hn 1) (cell_at hn 2) (sl_in s1 (fun b hb => ⟨by omega, by omega⟩) ha hb) (cell_at hn 3) (tl_in k1 (fun b hb => ⟨by omega, by omega⟩) ha hb) (FtIn.push (cell_at hn 4) (cell_at hn 5) (cell_at hn 6) (sl_in s2 (fun b hb => ⟨by omega, by omega⟩) ha hb) (cell_at hn 7) (tl_in k2 (fun b hb => ⟨by omega, by omega⟩) ha hb) (FtIn.push (cell_at hn 8) (cell_at hn 9) (cell_at hn 10) (sl_in s3 (fun b hb => ⟨by omega, by omega⟩) ha hb) (cell_at hn 11) (tl_in k3 (fun b hb => ⟨by omega, by omega⟩) ha hb) trivial)))

set_option maxRecDepth 100000 in
set_option maxHeartbeats 1000000 in
/-- A Sort of a level in new memory. -/
theorem tSort_in (k n : Int) (f : Fo) (a : Option Addr) (cap lo : Nat) (w : World) (hs : SlIn w (fun b => lo ≤ b ∧ b < w.heap.size) f a cap) (hB : lo ≤ w.heap.size) : Calls Try.prog 11 #[.agg #[.int .i64 k, .int .i64 n, .slice a f.len cap]] w fun e w' => ∃ x, e = .returned (.agg #[.int .i64 2, .int .i64 0, .slice x 1 1, .slice none 0 0]) ∧ SlIn w' (fun b => lo ≤ b ∧ b < w'.heap.size) (.cons k n f .nil) x 1 ∧ Below w.heap.size w w' := by
  have hb : Below w.heap.size w (((w.alloc (.cells #[.int .i64 k, .int .i64 n, .slice a f.len cap] 38)).alloc (.cells #[.int .i64 2, .int .i64 0, .slice (some ⟨w.heap.size + 1 + 1, 0, none⟩) 1 1, .slice none 0 0] 29)).alloc (.cells #[.int .i64 k, .int .i64 n, .slice a f.len cap] 38)) := (((Below.refl _ _).alloc (Nat.le_refl _) _).alloc (by simp) _).alloc (by simp; omega) _
  have hn := heap_second (w.alloc (.cells #[.int .i64 k, .int .i64 n, .slice a f.len cap] 38)) (.cells #[.int .i64 2, .int .i64 0, .slice (some ⟨w.heap.size + 1 + 1, 0, none⟩) 1 1, .slice none 0 0] 29) (.cells #[.int .i64 k, .int .i64 n, .slice a f.len cap] 38)
  have HB := Lib.hid hb
  have HN := Lib.hid hn
  have HS := Lib.hid hs
  clear hb hn hs
  go_enter Try.func11, Try.ntmps11
  go_wp2_with fail
  refine bodyPost_ret (v := .agg #[.int .i64 2, .int .i64 0, .slice (some ⟨w.heap.size + 1 + 1, 0, none⟩) 1 1, .slice none 0 0]) (by simp [results, Try.results11, go_sem]) rfl ?_
  have hn := HN.out
  simp only [World.size_alloc] at hn
  obtain ⟨c0, c1, c2⟩ := cells3 hn
  refine ⟨some ⟨w.heap.size + 1 + 1, 0, none⟩, rfl, ?_, HB.out⟩
  refine SlIn.mk (by simp [Fo.len]) (by omega) ⟨by omega, by simp⟩ (FoIn.push c0 c1 c2 ?_ trivial)
  exact (HS.out.keep (fun b hb => HB.out.block b hb.2)).weak (fun b hb => ⟨hb.1, by simp; omega⟩)

set_option maxRecDepth 100000 in
set_option maxHeartbeats 16000000 in
theorem tTerm_any (d : Nat) : ∀ (v : Int) (M len cap t B : Nat) (a : Option Addr) (D : Int) (w : World), MkAt w M a len cap t → U8In w (· < B) len a cap → B ≤ M → t + budT d ≤ 99900 → D = d + 1 → d ≤ 6 → 1 ≤ v → v + d ≤ 50 →
    Calls Try.prog 22 #[.pointer (some ⟨M, 0, none⟩), .int .i64 v, .int .i64 D] w (MtOk v w M a len cap t d) := by
  have e12 : (1 : Int) ≤ 12 := by omega
  induction d with
  | zero =>
    intro v M len cap t B a D w hat hin hB ht hD _ hv0 hv50
    obtain rfl : D = 1 := by omega
    clear hD
    have hbud := budT_ge 0
    have hv1 : 0 < v := by omega
    have dv : decide (0 < v) = true := decide_eq_true hv1
    have HT := Lib.hid ht
    have ht' : t ≤ 99880 := by omega
    have HS0 := Lib.hid (MkS.start hat hin hB)
    clear ht hbud hat hin
    go_enter Try.func22, Try.ntmps22
    go_wp2_with fail
    refine (pick_any M len cap t B a 12 _ HS0.out.1 HS0.out.2.1 hB (by omega) (by omega) (by omega)).mono ?_
    rintro e w1 ⟨x, hx0, hx1, rfl, hat1, hg1⟩
    have HS1 := Lib.hid (HS0.out.next hat1 hg1)
    clear hat1 hg1 HS0
    obtain ⟨⟨r0, r1, r2, r3⟩, rf⟩ := HS1.out.cells
    have hc : x = 0 ∨ x = 1 ∨ x = 2 ∨ x = 3 ∨ x = 4 ∨ x = 5 ∨ x = 6 ∨ x = 7 ∨ x = 8 ∨ x = 9 ∨ x = 10 ∨ x = 11 := by omega
    clear hx0 hx1 e12
    rcases hc with rfl | rfl | rfl | rfl | rfl | rfl | rfl | rfl | rfl | rfl | rfl | rfl
    · go_wp2_with fail
      refine (pick_any M len cap (t + 1) B a v _ HS1.out.1 HS1.out.2.1 hB (by omega) (by omega) (by omega)).mono ?_
      rintro e w2 ⟨y, hy0, hy1, rfl, hat2, hg2⟩
      have HS2 := Lib.hid (HS1.out.next hat2 hg2)
      clear hat2 hg2 HS1 r0 r1 r2 r3 rf
      go_wp2_with fail
      refine (tVar_any y _).mono ?_
      rintro e w3 ⟨rfl, hb3⟩
      have HS3 := Lib.hid (HS2.out.later hb3)
      clear hb3 HS2
      obtain ⟨⟨r0, r1, r2, r3⟩, rf⟩ := HS3.out.cells
      have HOK := Lib.hid (okT_V (v := v) (d := (0 + 1 : Nat)) hy0 hy1 (by omega))
      go_wp2_with fail
      refine bodyPost_ret (v := .agg #[.int .i64 1, .int .i64 y, .slice none 0 0, .slice none 0 0]) (by simp [results, Try.results22, go_sem, r0, r1, r2, r3]) rfl ?_
      exact HS3.out.done (T := tV y) (t := t) (d := 0) HOK.out (SlIn.none _ _) (TlIn.none _ _) (by have := budT_ge 0; omega)
    · go_wp2_with fail
      refine (pick_any M len cap (t + 1) B a v _ HS1.out.1 HS1.out.2.1 hB (by omega) (by omega) (by omega)).mono ?_
      rintro e w2 ⟨y, hy0, hy1, rfl, hat2, hg2⟩
      have HS2 := Lib.hid (HS1.out.next hat2 hg2)
      clear hat2 hg2 HS1 r0 r1 r2 r3 rf
      go_wp2_with fail
      refine (tVar_any y _).mono ?_
      rintro e w3 ⟨rfl, hb3⟩
      have HS3 := Lib.hid (HS2.out.later hb3)
      clear hb3 HS2
      obtain ⟨⟨r0, r1, r2, r3⟩, rf⟩ := HS3.out.cells
      have HOK := Lib.hid (okT_V (v := v) (d := (0 + 1 : Nat)) hy0 hy1 (by omega))
      go_wp2_with fail
      refine bodyPost_ret (v := .agg #[.int .i64 1, .int .i64 y, .slice none 0 0, .slice none 0 0]) (by simp [results, Try.results22, go_sem, r0, r1, r2, r3]) rfl ?_
      exact HS3.out.done (T := tV y) (t := t) (d := 0) HOK.out (SlIn.none _ _) (TlIn.none _ _) (by have := budT_ge 0; omega)
    · go_wp2_with fail
      refine (mLevel_any 3 2 (by omega) (by omega) (by omega) (by omega) 2 M len cap (t + 1) B a 3 _ HS1.out.1 HS1.out.2.1 hB (by show t + 1 + 23 ≤ 99990; omega) (by omega) (by omega)).mono ?_
      rintro e w2 ⟨lk, ln, F, fx, fc, t2, rfl, hlv, hsl, hat2, ht2, hg2⟩
      have HS2 := Lib.hid (HS1.out.next hat2 hg2)
      have HLV := Lib.hid (hlv.right (by omega))
      have ht2' : t2 ≤ t + 1 + 23 := ht2
      have HGT := Lib.hid HS1.out.gt
      have HGZ := Lib.hid hg2.size
      have HSL := Lib.hid hsl
      clear hat2 hg2 HS1 r0 r1 r2 r3 rf hlv hsl ht2
      go_wp2_with fail
      refine (tSort_in lk ln F fx fc w1.heap.size w2 HSL.out HGZ.out).mono ?_
      rintro e w3 ⟨sx, rfl, hs3, hb3⟩
      have HS3 := Lib.hid (HS2.out.later hb3)
      have HL3 := Lib.hid (hs3.weak (Q := fun b => w.heap.size < b ∧ b < w3.heap.size) (fun b hb => ⟨Nat.lt_of_lt_of_le HGT.out hb.1, hb.2⟩))
      clear hb3 HS2 hs3 HSL
      obtain ⟨⟨r0, r1, r2, r3⟩, rf⟩ := HS3.out.cells
      have HOK := Lib.hid (okT_sort (v := v) (d := (0 + 1 : Nat)) (by omega) HLV.out)
      go_wp2_with fail
      refine bodyPost_ret (v := .agg #[.int .i64 2, .int .i64 0, .slice sx 1 1, .slice none 0 0]) (by simp [results, Try.results22, go_sem, r0, r1, r2, r3]) rfl ?_
      exact HS3.out.done (T := ⟨2, 0, .cons lk ln F .nil, .nil⟩) (t := t) (d := 0) HOK.out HL3.out (TlIn.none _ _) (by have := budT_ge 0; omega)
    · go_wp2_with fail
      refine (pick_any M len cap (t + 1) B a 4 _ HS1.out.1 HS1.out.2.1 hB (by omega) (by omega) (by omega)).mono ?_
      rintro e w2 ⟨n, hn0, hn1, rfl, hat2, hg2⟩
      have HS2 := Lib.hid (HS1.out.next hat2 hg2)
      have HGT := Lib.hid HS2.out.gt
      have HS3 := Lib.hid (HS2.out.later ((Below.refl w2.heap.size w2).alloc (Nat.le_refl _) (.cells #[.int .i64 3, .int .i64 n, .slice none 0 0, .slice none 0 0] 29)))
      clear hat2 hg2 HS1 r0 r1 r2 r3 rf HS2
      go_wp2_with fail
      refine (pick_any M len cap (t + 1 + 1) B a 3 _ HS3.out.1 HS3.out.2.1 hB (by omega) (by omega) (by omega)).mono ?_
      rintro e w4 ⟨i0, hi0, hi1, rfl, hat4, hg4⟩
      have HR4 : Hid (CsR w w2.heap.size n M a len cap (t + 3) B .nil (.slice none 0 0) w4) := Lib.hid ⟨⟨t + 3, HS3.out.next hat4 hg4, Nat.le_refl _⟩, (Only.block hg4 (by simp) (by have := HGT.out; have := HS3.out.2.2.2.2.2; omega)).trans (heap_new w2 _), KsMix.nil _ _ _, HGT.out, rfl⟩
      clear hat4 hg4 HS3
      obtain ⟨j0, rfl⟩ : ∃ j0 : Nat, i0 = j0 := ⟨i0.toNat, by omega⟩
      have HJ0 : Hid (Fo.nil.len + j0 ≤ 2) := Lib.hid (by simp [Fo.len]; omega)
      clear hi0 hi1
      go_wp2_with fail
      go_loopw [9] (fun jv wr => ∃ (j : Nat) (G : Fo) (u : Value), jv = .int .i64 j ∧ Hid (G.len + j ≤ 2) ∧ Hid (CsR w w2.heap.size n M a len cap (t + 3) B G u wr)) (fun jv _ => (intOf jv).toNat)
      case atStart => exact ⟨j0, .nil, _, rfl, HJ0, HR4⟩
      case round =>
        obtain ⟨j, G, u, rfl, hj, hR⟩ := hrel
        clear HJ0 HR4
        obtain ⟨⟨t5, hS, ht5⟩, hbx, hK, hN, hlv⟩ := hR.out
        have HS := Lib.hid hS
        have HT5 := Lib.hid ht5
        cases j with
        | zero =>
          have dj : decide ((0 : Int) < ((0 : Nat) : Int)) = false := rfl
          obtain ⟨x5, c5, rfl, hsl⟩ := hK.slice
          have HSL := Lib.hid (hsl.weak (Q := fun b => w.heap.size < b ∧ b < wr.heap.size) (fun b hb => ⟨by have := hb.1; omega, hb.2⟩))
          obtain ⟨b0, b1, b2, b3⟩ := cells4 hbx
          obtain ⟨⟨r0, r1, r2, r3⟩, rf⟩ := HS.out.cells
          have HOK := Lib.hid (okT_const (v := v) (d := (0 + 1 : Nat)) (n := n) (ls := G) (by omega) hn0 (by omega) (by have := hj.out; omega) hlv)
          clear hK hbx hsl hlv hR hS ht5
          go_wp2_with fail
          refine bodyPost_ret (v := .agg #[.int .i64 3, .int .i64 n, .slice x5 G.len c5, .slice none 0 0]) (by simp [results, Try.results22, go_sem, r0, r1, r2, r3]) rfl ?_
          exact HS.out.done (T := ⟨3, n, G, .nil⟩) (t := t) (d := 0) HOK.out HSL.out (TlIn.none _ _) (by have := budT_ge 0; have := hj.out; have := HT5.out; omega)
        | succ j =>
          have dj : decide ((0 : Int) < ((j + 1 : Nat) : Int)) = true := decide_eq_true (by omega)
          have b2 := cell_at hbx 2
          have HC : Hid (Calls Try.prog 40 #[.pointer (some ⟨M, 0, none⟩), .int .i64 3, .int .i64 2, .int .i64 2] wr.drew (MlOk 3 2 wr.drew M a len cap t5 2)) := Lib.hid (mLevel_any 3 2 (by omega) (by omega) (by omega) (by omega) 1 M len cap t5 B a 2 wr.drew HS.out.1 HS.out.2.1 hB (by have := HT5.out; have := hj.out; have hb2 : bud (1 + 1) = 11 := rfl; rw [hb2]; omega) (by omega) (by omega))
          have HAP := Lib.hid (fun (e : Ending) (w5 : World) (h : MlOk 3 2 wr.drew M a len cap t5 2 e w5) => CsR.next (wr := wr.drew) hR.out.drew (by have := hj.out; omega) (HS.out.later ((Below.refl _ _).drew)) HT5.out h)
          have HJ := Lib.hid (show ∀ lk ln F, (G.app (.cons lk ln F .nil)).len + j ≤ 2 from fun lk ln F => by rw [Fo.app_len]; simp only [Fo.len]; have := hj.out; omega)
          have hj2 : j ≤ 2 := by have := hj.out; omega
          have hj3 : (j : Int) ≤ 2 := by omega
          have hj4 : (0 : Int) ≤ (j : Int) := by omega
          clear hK hbx hlv hR hS ht5 hj HT5
          go_wp2_with fail
          go_region_law (first
            | (refine step_append (by rfl) _ _ _ (by rfl) (by rfl) (by rfl) HRUN.out ?_)
            | (go_simp; go_at_call 40; refine HC.out.mono ?_; intro e w5 hP; obtain ⟨lk, ln, F, x5, c5, rfl, L2, L2a, g', cap', w6, HRUN, L3, Z3, HN⟩ := HAP.out e w5 hP; clear hP))
          all_goals
            go_wp2_with fail
            go_roundw
            case rel => exact ⟨j, _, _, by go_num, HJ.out _ _ _, HN⟩
            case measure => simp [intOf]
    · go_wp2_with fail
      refine (pick_any M len cap (t + 1) B a v _ HS1.out.1 HS1.out.2.1 hB (by omega) (by omega) (by omega)).mono ?_
      rintro e w2 ⟨y, hy0, hy1, rfl, hat2, hg2⟩
      have HS2 := Lib.hid (HS1.out.next hat2 hg2)
      clear hat2 hg2 HS1 r0 r1 r2 r3 rf
      go_wp2_with fail
      refine (tVar_any y _).mono ?_
      rintro e w3 ⟨rfl, hb3⟩
      have HS3 := Lib.hid (HS2.out.later hb3)
      clear hb3 HS2
      obtain ⟨⟨r0, r1, r2, r3⟩, rf⟩ := HS3.out.cells
      have HOK := Lib.hid (okT_V (v := v) (d := (0 + 1 : Nat)) hy0 hy1 (by omega))
      go_wp2_with fail
      refine bodyPost_ret (v := .agg #[.int .i64 1, .int .i64 y, .slice none 0 0, .slice none 0 0]) (by simp [results, Try.results22, go_sem, r0, r1, r2, r3]) rfl ?_
      exact HS3.out.done (T := tV y) (t := t) (d := 0) HOK.out (SlIn.none _ _) (TlIn.none _ _) (by have := budT_ge 0; omega)
    · go_wp2_with fail
      refine (pick_any M len cap (t + 1) B a v _ HS1.out.1 HS1.out.2.1 hB (by omega) (by omega) (by omega)).mono ?_
      rintro e w2 ⟨y, hy0, hy1, rfl, hat2, hg2⟩
      have HS2 := Lib.hid (HS1.out.next hat2 hg2)
      clear hat2 hg2 HS1 r0 r1 r2 r3 rf
      go_wp2_with fail
      refine (tVar_any y _).mono ?_
      rintro e w3 ⟨rfl, hb3⟩
      have HS3 := Lib.hid (HS2.out.later hb3)
      clear hb3 HS2
      obtain ⟨⟨r0, r1, r2, r3⟩, rf⟩ := HS3.out.cells
      have HOK := Lib.hid (okT_V (v := v) (d := (0 + 1 : Nat)) hy0 hy1 (by omega))
      go_wp2_with fail
      refine bodyPost_ret (v := .agg #[.int .i64 1, .int .i64 y, .slice none 0 0, .slice none 0 0]) (by simp [results, Try.results22, go_sem, r0, r1, r2, r3]) rfl ?_
      exact HS3.out.done (T := tV y) (t := t) (d := 0) HOK.out (SlIn.none _ _) (TlIn.none _ _) (by have := budT_ge 0; omega)
    · go_wp2_with fail
      refine (mLevel_any 3 2 (by omega) (by omega) (by omega) (by omega) 2 M len cap (t + 1) B a 3 _ HS1.out.1 HS1.out.2.1 hB (by show t + 1 + 23 ≤ 99990; omega) (by omega) (by omega)).mono ?_
      rintro e w2 ⟨lk, ln, F, fx, fc, t2, rfl, hlv, hsl, hat2, ht2, hg2⟩
      have HS2 := Lib.hid (HS1.out.next hat2 hg2)
      have HLV := Lib.hid (hlv.right (by omega))
      have ht2' : t2 ≤ t + 1 + 23 := ht2
      have HGT := Lib.hid HS1.out.gt
      have HGZ := Lib.hid hg2.size
      have HSL := Lib.hid hsl
      clear hat2 hg2 HS1 r0 r1 r2 r3 rf hlv hsl ht2
      go_wp2_with fail
      refine (tSort_in lk ln F fx fc w1.heap.size w2 HSL.out HGZ.out).mono ?_
      rintro e w3 ⟨sx, rfl, hs3, hb3⟩
      have HS3 := Lib.hid (HS2.out.later hb3)
      have HL3 := Lib.hid (hs3.weak (Q := fun b => w.heap.size < b ∧ b < w3.heap.size) (fun b hb => ⟨Nat.lt_of_lt_of_le HGT.out hb.1, hb.2⟩))
      clear hb3 HS2 hs3 HSL
      obtain ⟨⟨r0, r1, r2, r3⟩, rf⟩ := HS3.out.cells
      have HOK := Lib.hid (okT_sort (v := v) (d := (0 + 1 : Nat)) (by omega) HLV.out)
      go_wp2_with fail
      refine bodyPost_ret (v := .agg #[.int .i64 2, .int .i64 0, .slice sx 1 1, .slice none 0 0]) (by simp [results, Try.results22, go_sem, r0, r1, r2, r3]) rfl ?_
      exact HS3.out.done (T := ⟨2, 0, .cons lk ln F .nil, .nil⟩) (t := t) (d := 0) HOK.out HL3.out (TlIn.none _ _) (by have := budT_ge 0; omega)
    · go_wp2_with fail
      refine (pick_any M len cap (t + 1) B a 4 _ HS1.out.1 HS1.out.2.1 hB (by omega) (by omega) (by omega)).mono ?_
      rintro e w2 ⟨n, hn0, hn1, rfl, hat2, hg2⟩
      have HS2 := Lib.hid (HS1.out.next hat2 hg2)
      have HGT := Lib.hid HS2.out.gt
      have HS3 := Lib.hid (HS2.out.later ((Below.refl w2.heap.size w2).alloc (Nat.le_refl _) (.cells #[.int .i64 3, .int .i64 n, .slice none 0 0, .slice none 0 0] 29)))
      clear hat2 hg2 HS1 r0 r1 r2 r3 rf HS2
      go_wp2_with fail
      refine (pick_any M len cap (t + 1 + 1) B a 3 _ HS3.out.1 HS3.out.2.1 hB (by omega) (by omega) (by omega)).mono ?_
      rintro e w4 ⟨i0, hi0, hi1, rfl, hat4, hg4⟩
      have HR4 : Hid (CsR w w2.heap.size n M a len cap (t + 3) B .nil (.slice none 0 0) w4) := Lib.hid ⟨⟨t + 3, HS3.out.next hat4 hg4, Nat.le_refl _⟩, (Only.block hg4 (by simp) (by have := HGT.out; have := HS3.out.2.2.2.2.2; omega)).trans (heap_new w2 _), KsMix.nil _ _ _, HGT.out, rfl⟩
      clear hat4 hg4 HS3
      obtain ⟨j0, rfl⟩ : ∃ j0 : Nat, i0 = j0 := ⟨i0.toNat, by omega⟩
      have HJ0 : Hid (Fo.nil.len + j0 ≤ 2) := Lib.hid (by simp [Fo.len]; omega)
      clear hi0 hi1
      go_wp2_with fail
      go_loopw [9] (fun jv wr => ∃ (j : Nat) (G : Fo) (u : Value), jv = .int .i64 j ∧ Hid (G.len + j ≤ 2) ∧ Hid (CsR w w2.heap.size n M a len cap (t + 3) B G u wr)) (fun jv _ => (intOf jv).toNat)
      case atStart => exact ⟨j0, .nil, _, rfl, HJ0, HR4⟩
      case round =>
        obtain ⟨j, G, u, rfl, hj, hR⟩ := hrel
        clear HJ0 HR4
        obtain ⟨⟨t5, hS, ht5⟩, hbx, hK, hN, hlv⟩ := hR.out
        have HS := Lib.hid hS
        have HT5 := Lib.hid ht5
        cases j with
        | zero =>
          have dj : decide ((0 : Int) < ((0 : Nat) : Int)) = false := rfl
          obtain ⟨x5, c5, rfl, hsl⟩ := hK.slice
          have HSL := Lib.hid (hsl.weak (Q := fun b => w.heap.size < b ∧ b < wr.heap.size) (fun b hb => ⟨by have := hb.1; omega, hb.2⟩))
          obtain ⟨b0, b1, b2, b3⟩ := cells4 hbx
          obtain ⟨⟨r0, r1, r2, r3⟩, rf⟩ := HS.out.cells
          have HOK := Lib.hid (okT_const (v := v) (d := (0 + 1 : Nat)) (n := n) (ls := G) (by omega) hn0 (by omega) (by have := hj.out; omega) hlv)
          clear hK hbx hsl hlv hR hS ht5
          go_wp2_with fail
          refine bodyPost_ret (v := .agg #[.int .i64 3, .int .i64 n, .slice x5 G.len c5, .slice none 0 0]) (by simp [results, Try.results22, go_sem, r0, r1, r2, r3]) rfl ?_
          exact HS.out.done (T := ⟨3, n, G, .nil⟩) (t := t) (d := 0) HOK.out HSL.out (TlIn.none _ _) (by have := budT_ge 0; have := hj.out; have := HT5.out; omega)
        | succ j =>
          have dj : decide ((0 : Int) < ((j + 1 : Nat) : Int)) = true := decide_eq_true (by omega)
          have b2 := cell_at hbx 2
          have HC : Hid (Calls Try.prog 40 #[.pointer (some ⟨M, 0, none⟩), .int .i64 3, .int .i64 2, .int .i64 2] wr.drew (MlOk 3 2 wr.drew M a len cap t5 2)) := Lib.hid (mLevel_any 3 2 (by omega) (by omega) (by omega) (by omega) 1 M len cap t5 B a 2 wr.drew HS.out.1 HS.out.2.1 hB (by have := HT5.out; have := hj.out; have hb2 : bud (1 + 1) = 11 := rfl; rw [hb2]; omega) (by omega) (by omega))
          have HAP := Lib.hid (fun (e : Ending) (w5 : World) (h : MlOk 3 2 wr.drew M a len cap t5 2 e w5) => CsR.next (wr := wr.drew) hR.out.drew (by have := hj.out; omega) (HS.out.later ((Below.refl _ _).drew)) HT5.out h)
          have HJ := Lib.hid (show ∀ lk ln F, (G.app (.cons lk ln F .nil)).len + j ≤ 2 from fun lk ln F => by rw [Fo.app_len]; simp only [Fo.len]; have := hj.out; omega)
          have hj2 : j ≤ 2 := by have := hj.out; omega
          have hj3 : (j : Int) ≤ 2 := by omega
          have hj4 : (0 : Int) ≤ (j : Int) := by omega
          clear hK hbx hlv hR hS ht5 hj HT5
          go_wp2_with fail
          go_region_law (first
            | (refine step_append (by rfl) _ _ _ (by rfl) (by rfl) (by rfl) HRUN.out ?_)
            | (go_simp; go_at_call 40; refine HC.out.mono ?_; intro e w5 hP; obtain ⟨lk, ln, F, x5, c5, rfl, L2, L2a, g', cap', w6, HRUN, L3, Z3, HN⟩ := HAP.out e w5 hP; clear hP))
          all_goals
            go_wp2_with fail
            go_roundw
            case rel => exact ⟨j, _, _, by go_num, HJ.out _ _ _, HN⟩
            case measure => simp [intOf]
    · go_wp2_with fail
      refine (pick_any M len cap (t + 1) B a v _ HS1.out.1 HS1.out.2.1 hB (by omega) (by omega) (by omega)).mono ?_
      rintro e w2 ⟨y, hy0, hy1, rfl, hat2, hg2⟩
      have HS2 := Lib.hid (HS1.out.next hat2 hg2)
      clear hat2 hg2 HS1 r0 r1 r2 r3 rf
      go_wp2_with fail
      refine (tVar_any y _).mono ?_
      rintro e w3 ⟨rfl, hb3⟩
      have HS3 := Lib.hid (HS2.out.later hb3)
      clear hb3 HS2
      obtain ⟨⟨r0, r1, r2, r3⟩, rf⟩ := HS3.out.cells
      have HOK := Lib.hid (okT_V (v := v) (d := (0 + 1 : Nat)) hy0 hy1 (by omega))
      go_wp2_with fail
      refine bodyPost_ret (v := .agg #[.int .i64 1, .int .i64 y, .slice none 0 0, .slice none 0 0]) (by simp [results, Try.results22, go_sem, r0, r1, r2, r3]) rfl ?_
      exact HS3.out.done (T := tV y) (t := t) (d := 0) HOK.out (SlIn.none _ _) (TlIn.none _ _) (by have := budT_ge 0; omega)
    · go_wp2_with fail
      refine (pick_any M len cap (t + 1) B a v _ HS1.out.1 HS1.out.2.1 hB (by omega) (by omega) (by omega)).mono ?_
      rintro e w2 ⟨y, hy0, hy1, rfl, hat2, hg2⟩
      have HS2 := Lib.hid (HS1.out.next hat2 hg2)
      clear hat2 hg2 HS1 r0 r1 r2 r3 rf
      go_wp2_with fail
      refine (tVar_any y _).mono ?_
      rintro e w3 ⟨rfl, hb3⟩
      have HS3 := Lib.hid (HS2.out.later hb3)
      clear hb3 HS2
      obtain ⟨⟨r0, r1, r2, r3⟩, rf⟩ := HS3.out.cells
      have HOK := Lib.hid (okT_V (v := v) (d := (0 + 1 : Nat)) hy0 hy1 (by omega))
      go_wp2_with fail
      refine bodyPost_ret (v := .agg #[.int .i64 1, .int .i64 y, .slice none 0 0, .slice none 0 0]) (by simp [results, Try.results22, go_sem, r0, r1, r2, r3]) rfl ?_
      exact HS3.out.done (T := tV y) (t := t) (d := 0) HOK.out (SlIn.none _ _) (TlIn.none _ _) (by have := budT_ge 0; omega)
    · go_wp2_with fail
      refine (mLevel_any 3 2 (by omega) (by omega) (by omega) (by omega) 2 M len cap (t + 1) B a 3 _ HS1.out.1 HS1.out.2.1 hB (by show t + 1 + 23 ≤ 99990; omega) (by omega) (by omega)).mono ?_
      rintro e w2 ⟨lk, ln, F, fx, fc, t2, rfl, hlv, hsl, hat2, ht2, hg2⟩
      have HS2 := Lib.hid (HS1.out.next hat2 hg2)
      have HLV := Lib.hid (hlv.right (by omega))
      have ht2' : t2 ≤ t + 1 + 23 := ht2
      have HGT := Lib.hid HS1.out.gt
      have HGZ := Lib.hid hg2.size
      have HSL := Lib.hid hsl
      clear hat2 hg2 HS1 r0 r1 r2 r3 rf hlv hsl ht2
      go_wp2_with fail
      refine (tSort_in lk ln F fx fc w1.heap.size w2 HSL.out HGZ.out).mono ?_
      rintro e w3 ⟨sx, rfl, hs3, hb3⟩
      have HS3 := Lib.hid (HS2.out.later hb3)
      have HL3 := Lib.hid (hs3.weak (Q := fun b => w.heap.size < b ∧ b < w3.heap.size) (fun b hb => ⟨Nat.lt_of_lt_of_le HGT.out hb.1, hb.2⟩))
      clear hb3 HS2 hs3 HSL
      obtain ⟨⟨r0, r1, r2, r3⟩, rf⟩ := HS3.out.cells
      have HOK := Lib.hid (okT_sort (v := v) (d := (0 + 1 : Nat)) (by omega) HLV.out)
      go_wp2_with fail
      refine bodyPost_ret (v := .agg #[.int .i64 2, .int .i64 0, .slice sx 1 1, .slice none 0 0]) (by simp [results, Try.results22, go_sem, r0, r1, r2, r3]) rfl ?_
      exact HS3.out.done (T := ⟨2, 0, .cons lk ln F .nil, .nil⟩) (t := t) (d := 0) HOK.out HL3.out (TlIn.none _ _) (by have := budT_ge 0; omega)
    · go_wp2_with fail
      refine (pick_any M len cap (t + 1) B a 4 _ HS1.out.1 HS1.out.2.1 hB (by omega) (by omega) (by omega)).mono ?_
      rintro e w2 ⟨n, hn0, hn1, rfl, hat2, hg2⟩
      have HS2 := Lib.hid (HS1.out.next hat2 hg2)
      have HGT := Lib.hid HS2.out.gt
      have HS3 := Lib.hid (HS2.out.later ((Below.refl w2.heap.size w2).alloc (Nat.le_refl _) (.cells #[.int .i64 3, .int .i64 n, .slice none 0 0, .slice none 0 0] 29)))
      clear hat2 hg2 HS1 r0 r1 r2 r3 rf HS2
      go_wp2_with fail
      refine (pick_any M len cap (t + 1 + 1) B a 3 _ HS3.out.1 HS3.out.2.1 hB (by omega) (by omega) (by omega)).mono ?_
      rintro e w4 ⟨i0, hi0, hi1, rfl, hat4, hg4⟩
      have HR4 : Hid (CsR w w2.heap.size n M a len cap (t + 3) B .nil (.slice none 0 0) w4) := Lib.hid ⟨⟨t + 3, HS3.out.next hat4 hg4, Nat.le_refl _⟩, (Only.block hg4 (by simp) (by have := HGT.out; have := HS3.out.2.2.2.2.2; omega)).trans (heap_new w2 _), KsMix.nil _ _ _, HGT.out, rfl⟩
      clear hat4 hg4 HS3
      obtain ⟨j0, rfl⟩ : ∃ j0 : Nat, i0 = j0 := ⟨i0.toNat, by omega⟩
      have HJ0 : Hid (Fo.nil.len + j0 ≤ 2) := Lib.hid (by simp [Fo.len]; omega)
      clear hi0 hi1
      go_wp2_with fail
      go_loopw [9] (fun jv wr => ∃ (j : Nat) (G : Fo) (u : Value), jv = .int .i64 j ∧ Hid (G.len + j ≤ 2) ∧ Hid (CsR w w2.heap.size n M a len cap (t + 3) B G u wr)) (fun jv _ => (intOf jv).toNat)
      case atStart => exact ⟨j0, .nil, _, rfl, HJ0, HR4⟩
      case round =>
        obtain ⟨j, G, u, rfl, hj, hR⟩ := hrel
        clear HJ0 HR4
        obtain ⟨⟨t5, hS, ht5⟩, hbx, hK, hN, hlv⟩ := hR.out
        have HS := Lib.hid hS
        have HT5 := Lib.hid ht5
        cases j with
        | zero =>
          have dj : decide ((0 : Int) < ((0 : Nat) : Int)) = false := rfl
          obtain ⟨x5, c5, rfl, hsl⟩ := hK.slice
          have HSL := Lib.hid (hsl.weak (Q := fun b => w.heap.size < b ∧ b < wr.heap.size) (fun b hb => ⟨by have := hb.1; omega, hb.2⟩))
          obtain ⟨b0, b1, b2, b3⟩ := cells4 hbx
          obtain ⟨⟨r0, r1, r2, r3⟩, rf⟩ := HS.out.cells
          have HOK := Lib.hid (okT_const (v := v) (d := (0 + 1 : Nat)) (n := n) (ls := G) (by omega) hn0 (by omega) (by have := hj.out; omega) hlv)
          clear hK hbx hsl hlv hR hS ht5
          go_wp2_with fail
          refine bodyPost_ret (v := .agg #[.int .i64 3, .int .i64 n, .slice x5 G.len c5, .slice none 0 0]) (by simp [results, Try.results22, go_sem, r0, r1, r2, r3]) rfl ?_
          exact HS.out.done (T := ⟨3, n, G, .nil⟩) (t := t) (d := 0) HOK.out HSL.out (TlIn.none _ _) (by have := budT_ge 0; have := hj.out; have := HT5.out; omega)
        | succ j =>
          have dj : decide ((0 : Int) < ((j + 1 : Nat) : Int)) = true := decide_eq_true (by omega)
          have b2 := cell_at hbx 2
          have HC : Hid (Calls Try.prog 40 #[.pointer (some ⟨M, 0, none⟩), .int .i64 3, .int .i64 2, .int .i64 2] wr.drew (MlOk 3 2 wr.drew M a len cap t5 2)) := Lib.hid (mLevel_any 3 2 (by omega) (by omega) (by omega) (by omega) 1 M len cap t5 B a 2 wr.drew HS.out.1 HS.out.2.1 hB (by have := HT5.out; have := hj.out; have hb2 : bud (1 + 1) = 11 := rfl; rw [hb2]; omega) (by omega) (by omega))
          have HAP := Lib.hid (fun (e : Ending) (w5 : World) (h : MlOk 3 2 wr.drew M a len cap t5 2 e w5) => CsR.next (wr := wr.drew) hR.out.drew (by have := hj.out; omega) (HS.out.later ((Below.refl _ _).drew)) HT5.out h)
          have HJ := Lib.hid (show ∀ lk ln F, (G.app (.cons lk ln F .nil)).len + j ≤ 2 from fun lk ln F => by rw [Fo.app_len]; simp only [Fo.len]; have := hj.out; omega)
          have hj2 : j ≤ 2 := by have := hj.out; omega
          have hj3 : (j : Int) ≤ 2 := by omega
          have hj4 : (0 : Int) ≤ (j : Int) := by omega
          clear hK hbx hlv hR hS ht5 hj HT5
          go_wp2_with fail
          go_region_law (first
            | (refine step_append (by rfl) _ _ _ (by rfl) (by rfl) (by rfl) HRUN.out ?_)
            | (go_simp; go_at_call 40; refine HC.out.mono ?_; intro e w5 hP; obtain ⟨lk, ln, F, x5, c5, rfl, L2, L2a, g', cap', w6, HRUN, L3, Z3, HN⟩ := HAP.out e w5 hP; clear hP))
          all_goals
            go_wp2_with fail
            go_roundw
            case rel => exact ⟨j, _, _, by go_num, HJ.out _ _ _, HN⟩
            case measure => simp [intOf]
  | succ d ih =>
    intro v M len cap t B a D w hat hin hB ht hD hd hv0 hv50
    have IH := Lib.hid ih
    clear ih
    have hD2 : 2 ≤ D := by omega
    have hD3 : D ≤ 100 := by omega
    have dD : decide (D < 2) = false := decide_eq_false (by omega)
    have HD := Lib.hid hD
    have HV := Lib.hid hv50
    have hv60 : v ≤ 60 := by omega
    clear hD hv50
    have hbud := budT_ge (d + 1)
    have hv1 : 0 < v := by omega
    have dv : decide (0 < v) = true := decide_eq_true hv1
    have HT := Lib.hid ht
    have ht' : t ≤ 99880 := by omega
    have HS0 := Lib.hid (MkS.start hat hin hB)
    clear ht hbud hat hin
    go_enter Try.func22, Try.ntmps22
    go_wp2_with fail
    refine (pick_any M len cap t B a 12 _ HS0.out.1 HS0.out.2.1 hB (by omega) (by omega) (by omega)).mono ?_
    rintro e w1 ⟨x, hx0, hx1, rfl, hat1, hg1⟩
    have HS1 := Lib.hid (HS0.out.next hat1 hg1)
    clear hat1 hg1 HS0
    obtain ⟨⟨r0, r1, r2, r3⟩, rf⟩ := HS1.out.cells
    have hc : x = 0 ∨ x = 1 ∨ x = 2 ∨ x = 3 ∨ x = 4 ∨ x = 5 ∨ x = 6 ∨ x = 7 ∨ x = 8 ∨ x = 9 ∨ x = 10 ∨ x = 11 := by omega
    clear hx0 hx1 e12
    rcases hc with rfl | rfl | rfl | rfl | rfl | rfl | rfl | rfl | rfl | rfl | rfl | rfl
    · go_wp2_with fail
      refine (pick_any M len cap (t + 1) B a v _ HS1.out.1 HS1.out.2.1 hB (by omega) (by omega) (by omega)).mono ?_
      rintro e w2 ⟨y, hy0, hy1, rfl, hat2, hg2⟩
      have HS2 := Lib.hid (HS1.out.next hat2 hg2)
      clear hat2 hg2 HS1 r0 r1 r2 r3 rf
      go_wp2_with fail
      refine (tVar_any y _).mono ?_
      rintro e w3 ⟨rfl, hb3⟩
      have HS3 := Lib.hid (HS2.out.later hb3)
      clear hb3 HS2
      obtain ⟨⟨r0, r1, r2, r3⟩, rf⟩ := HS3.out.cells
      have HOK := Lib.hid (okT_V (v := v) (d := ((d + 1) + 1 : Nat)) hy0 hy1 (by omega))
      go_wp2_with fail
      refine bodyPost_ret (v := .agg #[.int .i64 1, .int .i64 y, .slice none 0 0, .slice none 0 0]) (by simp [results, Try.results22, go_sem, r0, r1, r2, r3]) rfl ?_
      exact HS3.out.done (T := tV y) (t := t) (d := (d + 1)) HOK.out (SlIn.none _ _) (TlIn.none _ _) (by have := budT_ge (d + 1); omega)
    · go_wp2_with fail
      refine (pick_any M len cap (t + 1) B a v _ HS1.out.1 HS1.out.2.1 hB (by omega) (by omega) (by omega)).mono ?_
      rintro e w2 ⟨y, hy0, hy1, rfl, hat2, hg2⟩
      have HS2 := Lib.hid (HS1.out.next hat2 hg2)
      clear hat2 hg2 HS1 r0 r1 r2 r3 rf
      go_wp2_with fail
      refine (tVar_any y _).mono ?_
      rintro e w3 ⟨rfl, hb3⟩
      have HS3 := Lib.hid (HS2.out.later hb3)
      clear hb3 HS2
      obtain ⟨⟨r0, r1, r2, r3⟩, rf⟩ := HS3.out.cells
      have HOK := Lib.hid (okT_V (v := v) (d := ((d + 1) + 1 : Nat)) hy0 hy1 (by omega))
      go_wp2_with fail
      refine bodyPost_ret (v := .agg #[.int .i64 1, .int .i64 y, .slice none 0 0, .slice none 0 0]) (by simp [results, Try.results22, go_sem, r0, r1, r2, r3]) rfl ?_
      exact HS3.out.done (T := tV y) (t := t) (d := (d + 1)) HOK.out (SlIn.none _ _) (TlIn.none _ _) (by have := budT_ge (d + 1); omega)
    · go_wp2_with fail
      refine (mLevel_any 3 2 (by omega) (by omega) (by omega) (by omega) 2 M len cap (t + 1) B a 3 _ HS1.out.1 HS1.out.2.1 hB (by show t + 1 + 23 ≤ 99990; omega) (by omega) (by omega)).mono ?_
      rintro e w2 ⟨lk, ln, F, fx, fc, t2, rfl, hlv, hsl, hat2, ht2, hg2⟩
      have HS2 := Lib.hid (HS1.out.next hat2 hg2)
      have HLV := Lib.hid (hlv.right (by omega))
      have ht2' : t2 ≤ t + 1 + 23 := ht2
      have HGT := Lib.hid HS1.out.gt
      have HGZ := Lib.hid hg2.size
      have HSL := Lib.hid hsl
      clear hat2 hg2 HS1 r0 r1 r2 r3 rf hlv hsl ht2
      go_wp2_with fail
      refine (tSort_in lk ln F fx fc w1.heap.size w2 HSL.out HGZ.out).mono ?_
      rintro e w3 ⟨sx, rfl, hs3, hb3⟩
      have HS3 := Lib.hid (HS2.out.later hb3)
      have HL3 := Lib.hid (hs3.weak (Q := fun b => w.heap.size < b ∧ b < w3.heap.size) (fun b hb => ⟨Nat.lt_of_lt_of_le HGT.out hb.1, hb.2⟩))
      clear hb3 HS2 hs3 HSL
      obtain ⟨⟨r0, r1, r2, r3⟩, rf⟩ := HS3.out.cells
      have HOK := Lib.hid (okT_sort (v := v) (d := ((d + 1) + 1 : Nat)) (by omega) HLV.out)
      go_wp2_with fail
      refine bodyPost_ret (v := .agg #[.int .i64 2, .int .i64 0, .slice sx 1 1, .slice none 0 0]) (by simp [results, Try.results22, go_sem, r0, r1, r2, r3]) rfl ?_
      exact HS3.out.done (T := ⟨2, 0, .cons lk ln F .nil, .nil⟩) (t := t) (d := (d + 1)) HOK.out HL3.out (TlIn.none _ _) (by have := budT_ge (d + 1); omega)
    · go_wp2_with fail
      refine (pick_any M len cap (t + 1) B a 4 _ HS1.out.1 HS1.out.2.1 hB (by omega) (by omega) (by omega)).mono ?_
      rintro e w2 ⟨n, hn0, hn1, rfl, hat2, hg2⟩
      have HS2 := Lib.hid (HS1.out.next hat2 hg2)
      have HGT := Lib.hid HS2.out.gt
      have HS3 := Lib.hid (HS2.out.later ((Below.refl w2.heap.size w2).alloc (Nat.le_refl _) (.cells #[.int .i64 3, .int .i64 n, .slice none 0 0, .slice none 0 0] 29)))
      clear hat2 hg2 HS1 r0 r1 r2 r3 rf HS2
      go_wp2_with fail
      refine (pick_any M len cap (t + 1 + 1) B a 3 _ HS3.out.1 HS3.out.2.1 hB (by omega) (by omega) (by omega)).mono ?_
      rintro e w4 ⟨i0, hi0, hi1, rfl, hat4, hg4⟩
      have HR4 : Hid (CsR w w2.heap.size n M a len cap (t + 3) B .nil (.slice none 0 0) w4) := Lib.hid ⟨⟨t + 3, HS3.out.next hat4 hg4, Nat.le_refl _⟩, (Only.block hg4 (by simp) (by have := HGT.out; have := HS3.out.2.2.2.2.2; omega)).trans (heap_new w2 _), KsMix.nil _ _ _, HGT.out, rfl⟩
      clear hat4 hg4 HS3
      obtain ⟨j0, rfl⟩ : ∃ j0 : Nat, i0 = j0 := ⟨i0.toNat, by omega⟩
      have HJ0 : Hid (Fo.nil.len + j0 ≤ 2) := Lib.hid (by simp [Fo.len]; omega)
      clear hi0 hi1
      go_wp2_with fail
      go_loopw [9] (fun jv wr => ∃ (j : Nat) (G : Fo) (u : Value), jv = .int .i64 j ∧ Hid (G.len + j ≤ 2) ∧ Hid (CsR w w2.heap.size n M a len cap (t + 3) B G u wr)) (fun jv _ => (intOf jv).toNat)
      case atStart => exact ⟨j0, .nil, _, rfl, HJ0, HR4⟩
      case round =>
        obtain ⟨j, G, u, rfl, hj, hR⟩ := hrel
        clear HJ0 HR4
        obtain ⟨⟨t5, hS, ht5⟩, hbx, hK, hN, hlv⟩ := hR.out
        have HS := Lib.hid hS
        have HT5 := Lib.hid ht5
        cases j with
        | zero =>
          have dj : decide ((0 : Int) < ((0 : Nat) : Int)) = false := rfl
          obtain ⟨x5, c5, rfl, hsl⟩ := hK.slice
          have HSL := Lib.hid (hsl.weak (Q := fun b => w.heap.size < b ∧ b < wr.heap.size) (fun b hb => ⟨by have := hb.1; omega, hb.2⟩))
          obtain ⟨b0, b1, b2, b3⟩ := cells4 hbx
          obtain ⟨⟨r0, r1, r2, r3⟩, rf⟩ := HS.out.cells
          have HOK := Lib.hid (okT_const (v := v) (d := ((d + 1) + 1 : Nat)) (n := n) (ls := G) (by omega) hn0 (by omega) (by have := hj.out; omega) hlv)
          clear hK hbx hsl hlv hR hS ht5
          go_wp2_with fail
          refine bodyPost_ret (v := .agg #[.int .i64 3, .int .i64 n, .slice x5 G.len c5, .slice none 0 0]) (by simp [results, Try.results22, go_sem, r0, r1, r2, r3]) rfl ?_
          exact HS.out.done (T := ⟨3, n, G, .nil⟩) (t := t) (d := (d + 1)) HOK.out HSL.out (TlIn.none _ _) (by have := budT_ge (d + 1); have := hj.out; have := HT5.out; omega)
        | succ j =>
          have dj : decide ((0 : Int) < ((j + 1 : Nat) : Int)) = true := decide_eq_true (by omega)
          have b2 := cell_at hbx 2
          have HC : Hid (Calls Try.prog 40 #[.pointer (some ⟨M, 0, none⟩), .int .i64 3, .int .i64 2, .int .i64 2] wr.drew (MlOk 3 2 wr.drew M a len cap t5 2)) := Lib.hid (mLevel_any 3 2 (by omega) (by omega) (by omega) (by omega) 1 M len cap t5 B a 2 wr.drew HS.out.1 HS.out.2.1 hB (by have := HT5.out; have := hj.out; have hb2 : bud (1 + 1) = 11 := rfl; rw [hb2]; omega) (by omega) (by omega))
          have HAP := Lib.hid (fun (e : Ending) (w5 : World) (h : MlOk 3 2 wr.drew M a len cap t5 2 e w5) => CsR.next (wr := wr.drew) hR.out.drew (by have := hj.out; omega) (HS.out.later ((Below.refl _ _).drew)) HT5.out h)
          have HJ := Lib.hid (show ∀ lk ln F, (G.app (.cons lk ln F .nil)).len + j ≤ 2 from fun lk ln F => by rw [Fo.app_len]; simp only [Fo.len]; have := hj.out; omega)
          have hj2 : j ≤ 2 := by have := hj.out; omega
          have hj3 : (j : Int) ≤ 2 := by omega
          have hj4 : (0 : Int) ≤ (j : Int) := by omega
          clear hK hbx hlv hR hS ht5 hj HT5
          go_wp2_with fail
          go_region_law (first
            | (refine step_append (by rfl) _ _ _ (by rfl) (by rfl) (by rfl) HRUN.out ?_)
            | (go_simp; go_at_call 40; refine HC.out.mono ?_; intro e w5 hP; obtain ⟨lk, ln, F, x5, c5, rfl, L2, L2a, g', cap', w6, HRUN, L3, Z3, HN⟩ := HAP.out e w5 hP; clear hP))
          all_goals
            go_wp2_with fail
            go_roundw
            case rel => exact ⟨j, _, _, by go_num, HJ.out _ _ _, HN⟩
            case measure => simp [intOf]
    · go_wp2_with fail
      refine (IH.out (v) M len cap (t + 1) B a (D - 1) _ HS1.out.1 HS1.out.2.1 hB (by have := HT.out; rw [budT_succ] at this; omega) (by have := HD.out; omega) (by omega) (by omega) (by have := HV.out; omega)).mono ?_
      rintro e w2 ⟨T1, la1, lc1, ka1, kc1, t2, rfl, ok1, sl1, tl1, hat2, ht2, hg2⟩
      have HS2 := Lib.hid (HS1.out.next hat2 hg2)
      have OK1 := Lib.hid ok1
      have GT1 := Lib.hid HS1.out.gt
      have SL12 := Lib.hid sl1
      have TL12 := Lib.hid tl1
      have HT2 := Lib.hid ht2
      have HZ2 := Lib.hid hg2.size
      clear ok1 sl1 tl1 hat2 ht2 hg2 r0 r1 r2 r3 rf
      go_wp2_with fail
      refine (IH.out (v) M len cap (t2) B a (D - 1) _ HS2.out.1 HS2.out.2.1 hB (by have := HT.out; have := HT2.out; rw [budT_succ] at *; omega) (by have := HD.out; omega) (by omega) (by omega) (by have := HV.out; omega)).mono ?_
      rintro e w3 ⟨T2, la2, lc2, ka2, kc2, t3, rfl, ok2, sl2, tl2, hat3, ht3, hg3⟩
      have HS3 := Lib.hid (HS2.out.next hat3 hg3)
      have OK2 := Lib.hid ok2
      have GT2 := Lib.hid HS2.out.gt
      have SL23 := Lib.hid sl2
      have TL23 := Lib.hid tl2
      have HT3 := Lib.hid ht3
      have HZ3 := Lib.hid hg3.size
      have SL13 := Lib.hid (HS2.out.sl hg3 GT1.out (Nat.le_refl _) SL12.out)
      have TL13 := Lib.hid (HS2.out.tl hg3 GT1.out (Nat.le_refl _) TL12.out)
      clear ok2 sl2 tl2 hat3 ht3 hg3 SL12 TL12 HS1 HS2
      have HAL := Lib.hid ((Below.refl w3.heap.size w3).alloc (Nat.le_refl _) (.cells #[.int .i64 T1.k, .int .i64 T1.n, .slice la1 T1.ls.len lc1, .slice ka1 T1.ks.len kc1, .int .i64 T2.k, .int .i64 T2.n, .slice la2 T2.ls.len lc2, .slice ka2 T2.ks.len kc2] 29))
      go_wp2_with fail
      refine (tBind_any 4 (some ⟨w3.heap.size, 0, none⟩) 2 2 _).mono ?_
      rintro e w4 ⟨rfl, hb4⟩
      have HS4 := Lib.hid ((HS3.out.later HAL.out).later hb4)
      have HTL := Lib.hid (pair_in GT1.out GT2.out HS3.out.gt HZ3.out SL13.out TL13.out SL23.out TL23.out hb4)
      have HOK : Hid (okT v (d + 1 + 1 : Nat) ⟨4, 0, .nil, T1.to (T2.to .nil)⟩) := Lib.hid (by
        have h := okT_two (q := 4) (by omega) OK1.out (B := T2) (by simpa [bindK] using OK2.out)
        rwa [show ((d + 1 : Nat) : Int) + 1 = ((d + 1 + 1 : Nat) : Int) by omega] at h)
      obtain ⟨⟨r0, r1, r2, r3⟩, rf⟩ := HS4.out.cells
      clear hb4 HS3 HAL SL13 TL13 SL23 TL23
      go_wp2_with fail
      refine bodyPost_ret (v := .agg #[.int .i64 4, .int .i64 0, .slice none 0 0, .slice (some ⟨w3.heap.size, 0, none⟩) 2 2]) (by simp [results, Try.results22, go_sem, r0, r1, r2, r3]) rfl ?_
      exact HS4.out.done (T := ⟨4, 0, .nil, T1.to (T2.to .nil)⟩) (t := t) (d := d + 1) HOK.out (SlIn.none _ _) HTL.out (by have := HT2.out; have := HT3.out; rw [budT_succ]; omega)
    · go_wp2_with fail
      refine (IH.out (v) M len cap (t + 1) B a (D - 1) _ HS1.out.1 HS1.out.2.1 hB (by have := HT.out; rw [budT_succ] at this; omega) (by have := HD.out; omega) (by omega) (by omega) (by have := HV.out; omega)).mono ?_
      rintro e w2 ⟨T1, la1, lc1, ka1, kc1, t2, rfl, ok1, sl1, tl1, hat2, ht2, hg2⟩
      have HS2 := Lib.hid (HS1.out.next hat2 hg2)
      have OK1 := Lib.hid ok1
      have GT1 := Lib.hid HS1.out.gt
      have SL12 := Lib.hid sl1
      have TL12 := Lib.hid tl1
      have HT2 := Lib.hid ht2
      have HZ2 := Lib.hid hg2.size
      clear ok1 sl1 tl1 hat2 ht2 hg2 r0 r1 r2 r3 rf
      go_wp2_with fail
      refine (IH.out (v) M len cap (t2) B a (D - 1) _ HS2.out.1 HS2.out.2.1 hB (by have := HT.out; have := HT2.out; rw [budT_succ] at *; omega) (by have := HD.out; omega) (by omega) (by omega) (by have := HV.out; omega)).mono ?_
      rintro e w3 ⟨T2, la2, lc2, ka2, kc2, t3, rfl, ok2, sl2, tl2, hat3, ht3, hg3⟩
      have HS3 := Lib.hid (HS2.out.next hat3 hg3)
      have OK2 := Lib.hid ok2
      have GT2 := Lib.hid HS2.out.gt
      have SL23 := Lib.hid sl2
      have TL23 := Lib.hid tl2
      have HT3 := Lib.hid ht3
      have HZ3 := Lib.hid hg3.size
      have SL13 := Lib.hid (HS2.out.sl hg3 GT1.out (Nat.le_refl _) SL12.out)
      have TL13 := Lib.hid (HS2.out.tl hg3 GT1.out (Nat.le_refl _) TL12.out)
      clear ok2 sl2 tl2 hat3 ht3 hg3 SL12 TL12 HS1 HS2
      have HAL := Lib.hid ((Below.refl w3.heap.size w3).alloc (Nat.le_refl _) (.cells #[.int .i64 T1.k, .int .i64 T1.n, .slice la1 T1.ls.len lc1, .slice ka1 T1.ks.len kc1, .int .i64 T2.k, .int .i64 T2.n, .slice la2 T2.ls.len lc2, .slice ka2 T2.ks.len kc2] 29))
      go_wp2_with fail
      refine (tBind_any 4 (some ⟨w3.heap.size, 0, none⟩) 2 2 _).mono ?_
      rintro e w4 ⟨rfl, hb4⟩
      have HS4 := Lib.hid ((HS3.out.later HAL.out).later hb4)
      have HTL := Lib.hid (pair_in GT1.out GT2.out HS3.out.gt HZ3.out SL13.out TL13.out SL23.out TL23.out hb4)
      have HOK : Hid (okT v (d + 1 + 1 : Nat) ⟨4, 0, .nil, T1.to (T2.to .nil)⟩) := Lib.hid (by
        have h := okT_two (q := 4) (by omega) OK1.out (B := T2) (by simpa [bindK] using OK2.out)
        rwa [show ((d + 1 : Nat) : Int) + 1 = ((d + 1 + 1 : Nat) : Int) by omega] at h)
      obtain ⟨⟨r0, r1, r2, r3⟩, rf⟩ := HS4.out.cells
      clear hb4 HS3 HAL SL13 TL13 SL23 TL23
      go_wp2_with fail
      refine bodyPost_ret (v := .agg #[.int .i64 4, .int .i64 0, .slice none 0 0, .slice (some ⟨w3.heap.size, 0, none⟩) 2 2]) (by simp [results, Try.results22, go_sem, r0, r1, r2, r3]) rfl ?_
      exact HS4.out.done (T := ⟨4, 0, .nil, T1.to (T2.to .nil)⟩) (t := t) (d := d + 1) HOK.out (SlIn.none _ _) HTL.out (by have := HT2.out; have := HT3.out; rw [budT_succ]; omega)
    · go_wp2_with fail
      refine (IH.out (v) M len cap (t + 1) B a (D - 1) _ HS1.out.1 HS1.out.2.1 hB (by have := HT.out; rw [budT_succ] at this; omega) (by have := HD.out; omega) (by omega) (by omega) (by have := HV.out; omega)).mono ?_
      rintro e w2 ⟨T1, la1, lc1, ka1, kc1, t2, rfl, ok1, sl1, tl1, hat2, ht2, hg2⟩
      have HS2 := Lib.hid (HS1.out.next hat2 hg2)
      have OK1 := Lib.hid ok1
      have GT1 := Lib.hid HS1.out.gt
      have SL12 := Lib.hid sl1
      have TL12 := Lib.hid tl1
      have HT2 := Lib.hid ht2
      have HZ2 := Lib.hid hg2.size
      clear ok1 sl1 tl1 hat2 ht2 hg2 r0 r1 r2 r3 rf
      go_wp2_with fail
      refine (IH.out (v) M len cap (t2) B a (D - 1) _ HS2.out.1 HS2.out.2.1 hB (by have := HT.out; have := HT2.out; rw [budT_succ] at *; omega) (by have := HD.out; omega) (by omega) (by omega) (by have := HV.out; omega)).mono ?_
      rintro e w3 ⟨T2, la2, lc2, ka2, kc2, t3, rfl, ok2, sl2, tl2, hat3, ht3, hg3⟩
      have HS3 := Lib.hid (HS2.out.next hat3 hg3)
      have OK2 := Lib.hid ok2
      have GT2 := Lib.hid HS2.out.gt
      have SL23 := Lib.hid sl2
      have TL23 := Lib.hid tl2
      have HT3 := Lib.hid ht3
      have HZ3 := Lib.hid hg3.size
      have SL13 := Lib.hid (HS2.out.sl hg3 GT1.out (Nat.le_refl _) SL12.out)
      have TL13 := Lib.hid (HS2.out.tl hg3 GT1.out (Nat.le_refl _) TL12.out)
      clear ok2 sl2 tl2 hat3 ht3 hg3 SL12 TL12 HS1 HS2
      have HAL := Lib.hid ((Below.refl w3.heap.size w3).alloc (Nat.le_refl _) (.cells #[.int .i64 T1.k, .int .i64 T1.n, .slice la1 T1.ls.len lc1, .slice ka1 T1.ks.len kc1, .int .i64 T2.k, .int .i64 T2.n, .slice la2 T2.ls.len lc2, .slice ka2 T2.ks.len kc2] 29))
      go_wp2_with fail
      refine (tBind_any 4 (some ⟨w3.heap.size, 0, none⟩) 2 2 _).mono ?_
      rintro e w4 ⟨rfl, hb4⟩
      have HS4 := Lib.hid ((HS3.out.later HAL.out).later hb4)
      have HTL := Lib.hid (pair_in GT1.out GT2.out HS3.out.gt HZ3.out SL13.out TL13.out SL23.out TL23.out hb4)
      have HOK : Hid (okT v (d + 1 + 1 : Nat) ⟨4, 0, .nil, T1.to (T2.to .nil)⟩) := Lib.hid (by
        have h := okT_two (q := 4) (by omega) OK1.out (B := T2) (by simpa [bindK] using OK2.out)
        rwa [show ((d + 1 : Nat) : Int) + 1 = ((d + 1 + 1 : Nat) : Int) by omega] at h)
      obtain ⟨⟨r0, r1, r2, r3⟩, rf⟩ := HS4.out.cells
      clear hb4 HS3 HAL SL13 TL13 SL23 TL23
      go_wp2_with fail
      refine bodyPost_ret (v := .agg #[.int .i64 4, .int .i64 0, .slice none 0 0, .slice (some ⟨w3.heap.size, 0, none⟩) 2 2]) (by simp [results, Try.results22, go_sem, r0, r1, r2, r3]) rfl ?_
      exact HS4.out.done (T := ⟨4, 0, .nil, T1.to (T2.to .nil)⟩) (t := t) (d := d + 1) HOK.out (SlIn.none _ _) HTL.out (by have := HT2.out; have := HT3.out; rw [budT_succ]; omega)
    · go_wp2_with fail
      refine (IH.out (v) M len cap (t + 1) B a (D - 1) _ HS1.out.1 HS1.out.2.1 hB (by have := HT.out; rw [budT_succ] at this; omega) (by have := HD.out; omega) (by omega) (by omega) (by have := HV.out; omega)).mono ?_
      rintro e w2 ⟨T1, la1, lc1, ka1, kc1, t2, rfl, ok1, sl1, tl1, hat2, ht2, hg2⟩
      have HS2 := Lib.hid (HS1.out.next hat2 hg2)
      have OK1 := Lib.hid ok1
      have GT1 := Lib.hid HS1.out.gt
      have SL12 := Lib.hid sl1
      have TL12 := Lib.hid tl1
      have HT2 := Lib.hid ht2
      have HZ2 := Lib.hid hg2.size
      clear ok1 sl1 tl1 hat2 ht2 hg2 r0 r1 r2 r3 rf
      go_wp2_with fail
      refine (IH.out (v + 1) M len cap (t2) B a (D - 1) _ HS2.out.1 HS2.out.2.1 hB (by have := HT.out; have := HT2.out; rw [budT_succ] at *; omega) (by have := HD.out; omega) (by omega) (by omega) (by have := HV.out; omega)).mono ?_
      rintro e w3 ⟨T2, la2, lc2, ka2, kc2, t3, rfl, ok2, sl2, tl2, hat3, ht3, hg3⟩
      have HS3 := Lib.hid (HS2.out.next hat3 hg3)
      have OK2 := Lib.hid ok2
      have GT2 := Lib.hid HS2.out.gt
      have SL23 := Lib.hid sl2
      have TL23 := Lib.hid tl2
      have HT3 := Lib.hid ht3
      have HZ3 := Lib.hid hg3.size
      have SL13 := Lib.hid (HS2.out.sl hg3 GT1.out (Nat.le_refl _) SL12.out)
      have TL13 := Lib.hid (HS2.out.tl hg3 GT1.out (Nat.le_refl _) TL12.out)
      clear ok2 sl2 tl2 hat3 ht3 hg3 SL12 TL12 HS1 HS2
      have HAL := Lib.hid ((Below.refl w3.heap.size w3).alloc (Nat.le_refl _) (.cells #[.int .i64 T1.k, .int .i64 T1.n, .slice la1 T1.ls.len lc1, .slice ka1 T1.ks.len kc1, .int .i64 T2.k, .int .i64 T2.n, .slice la2 T2.ls.len lc2, .slice ka2 T2.ks.len kc2] 29))
      go_wp2_with fail
      refine (tBind_any 5 (some ⟨w3.heap.size, 0, none⟩) 2 2 _).mono ?_
      rintro e w4 ⟨rfl, hb4⟩
      have HS4 := Lib.hid ((HS3.out.later HAL.out).later hb4)
      have HTL := Lib.hid (pair_in GT1.out GT2.out HS3.out.gt HZ3.out SL13.out TL13.out SL23.out TL23.out hb4)
      have HOK : Hid (okT v (d + 1 + 1 : Nat) ⟨5, 0, .nil, T1.to (T2.to .nil)⟩) := Lib.hid (by
        have h := okT_two (q := 5) (by omega) OK1.out (B := T2) (by simpa [bindK] using OK2.out)
        rwa [show ((d + 1 : Nat) : Int) + 1 = ((d + 1 + 1 : Nat) : Int) by omega] at h)
      obtain ⟨⟨r0, r1, r2, r3⟩, rf⟩ := HS4.out.cells
      clear hb4 HS3 HAL SL13 TL13 SL23 TL23
      go_wp2_with fail
      refine bodyPost_ret (v := .agg #[.int .i64 5, .int .i64 0, .slice none 0 0, .slice (some ⟨w3.heap.size, 0, none⟩) 2 2]) (by simp [results, Try.results22, go_sem, r0, r1, r2, r3]) rfl ?_
      exact HS4.out.done (T := ⟨5, 0, .nil, T1.to (T2.to .nil)⟩) (t := t) (d := d + 1) HOK.out (SlIn.none _ _) HTL.out (by have := HT2.out; have := HT3.out; rw [budT_succ]; omega)
    · go_wp2_with fail
      refine (IH.out (v) M len cap (t + 1) B a (D - 1) _ HS1.out.1 HS1.out.2.1 hB (by have := HT.out; rw [budT_succ] at this; omega) (by have := HD.out; omega) (by omega) (by omega) (by have := HV.out; omega)).mono ?_
      rintro e w2 ⟨T1, la1, lc1, ka1, kc1, t2, rfl, ok1, sl1, tl1, hat2, ht2, hg2⟩
      have HS2 := Lib.hid (HS1.out.next hat2 hg2)
      have OK1 := Lib.hid ok1
      have GT1 := Lib.hid HS1.out.gt
      have SL12 := Lib.hid sl1
      have TL12 := Lib.hid tl1
      have HT2 := Lib.hid ht2
      have HZ2 := Lib.hid hg2.size
      clear ok1 sl1 tl1 hat2 ht2 hg2 r0 r1 r2 r3 rf
      go_wp2_with fail
      refine (IH.out (v + 1) M len cap (t2) B a (D - 1) _ HS2.out.1 HS2.out.2.1 hB (by have := HT.out; have := HT2.out; rw [budT_succ] at *; omega) (by have := HD.out; omega) (by omega) (by omega) (by have := HV.out; omega)).mono ?_
      rintro e w3 ⟨T2, la2, lc2, ka2, kc2, t3, rfl, ok2, sl2, tl2, hat3, ht3, hg3⟩
      have HS3 := Lib.hid (HS2.out.next hat3 hg3)
      have OK2 := Lib.hid ok2
      have GT2 := Lib.hid HS2.out.gt
      have SL23 := Lib.hid sl2
      have TL23 := Lib.hid tl2
      have HT3 := Lib.hid ht3
      have HZ3 := Lib.hid hg3.size
      have SL13 := Lib.hid (HS2.out.sl hg3 GT1.out (Nat.le_refl _) SL12.out)
      have TL13 := Lib.hid (HS2.out.tl hg3 GT1.out (Nat.le_refl _) TL12.out)
      clear ok2 sl2 tl2 hat3 ht3 hg3 SL12 TL12 HS1 HS2
      have HAL := Lib.hid ((Below.refl w3.heap.size w3).alloc (Nat.le_refl _) (.cells #[.int .i64 T1.k, .int .i64 T1.n, .slice la1 T1.ls.len lc1, .slice ka1 T1.ks.len kc1, .int .i64 T2.k, .int .i64 T2.n, .slice la2 T2.ls.len lc2, .slice ka2 T2.ks.len kc2] 29))
      go_wp2_with fail
      refine (tBind_any 5 (some ⟨w3.heap.size, 0, none⟩) 2 2 _).mono ?_
      rintro e w4 ⟨rfl, hb4⟩
      have HS4 := Lib.hid ((HS3.out.later HAL.out).later hb4)
      have HTL := Lib.hid (pair_in GT1.out GT2.out HS3.out.gt HZ3.out SL13.out TL13.out SL23.out TL23.out hb4)
      have HOK : Hid (okT v (d + 1 + 1 : Nat) ⟨5, 0, .nil, T1.to (T2.to .nil)⟩) := Lib.hid (by
        have h := okT_two (q := 5) (by omega) OK1.out (B := T2) (by simpa [bindK] using OK2.out)
        rwa [show ((d + 1 : Nat) : Int) + 1 = ((d + 1 + 1 : Nat) : Int) by omega] at h)
      obtain ⟨⟨r0, r1, r2, r3⟩, rf⟩ := HS4.out.cells
      clear hb4 HS3 HAL SL13 TL13 SL23 TL23
      go_wp2_with fail
      refine bodyPost_ret (v := .agg #[.int .i64 5, .int .i64 0, .slice none 0 0, .slice (some ⟨w3.heap.size, 0, none⟩) 2 2]) (by simp [results, Try.results22, go_sem, r0, r1, r2, r3]) rfl ?_
      exact HS4.out.done (T := ⟨5, 0, .nil, T1.to (T2.to .nil)⟩) (t := t) (d := d + 1) HOK.out (SlIn.none _ _) HTL.out (by have := HT2.out; have := HT3.out; rw [budT_succ]; omega)
    · go_wp2_with fail
      refine (IH.out (v) M len cap (t + 1) B a (D - 1) _ HS1.out.1 HS1.out.2.1 hB (by have := HT.out; rw [budT_succ] at this; omega) (by have := HD.out; omega) (by omega) (by omega) (by have := HV.out; omega)).mono ?_
      rintro e w2 ⟨T1, la1, lc1, ka1, kc1, t2, rfl, ok1, sl1, tl1, hat2, ht2, hg2⟩
      have HS2 := Lib.hid (HS1.out.next hat2 hg2)
      have OK1 := Lib.hid ok1
      have GT1 := Lib.hid HS1.out.gt
      have SL12 := Lib.hid sl1
      have TL12 := Lib.hid tl1
      have HT2 := Lib.hid ht2
      have HZ2 := Lib.hid hg2.size
      clear ok1 sl1 tl1 hat2 ht2 hg2 r0 r1 r2 r3 rf
      go_wp2_with fail
      refine (IH.out (v + 1) M len cap (t2) B a (D - 1) _ HS2.out.1 HS2.out.2.1 hB (by have := HT.out; have := HT2.out; rw [budT_succ] at *; omega) (by have := HD.out; omega) (by omega) (by omega) (by have := HV.out; omega)).mono ?_
      rintro e w3 ⟨T2, la2, lc2, ka2, kc2, t3, rfl, ok2, sl2, tl2, hat3, ht3, hg3⟩
      have HS3 := Lib.hid (HS2.out.next hat3 hg3)
      have OK2 := Lib.hid ok2
      have GT2 := Lib.hid HS2.out.gt
      have SL23 := Lib.hid sl2
      have TL23 := Lib.hid tl2
      have HT3 := Lib.hid ht3
      have HZ3 := Lib.hid hg3.size
      have SL13 := Lib.hid (HS2.out.sl hg3 GT1.out (Nat.le_refl _) SL12.out)
      have TL13 := Lib.hid (HS2.out.tl hg3 GT1.out (Nat.le_refl _) TL12.out)
      clear ok2 sl2 tl2 hat3 ht3 hg3 SL12 TL12 HS1 HS2
      have HAL := Lib.hid ((Below.refl w3.heap.size w3).alloc (Nat.le_refl _) (.cells #[.int .i64 T1.k, .int .i64 T1.n, .slice la1 T1.ls.len lc1, .slice ka1 T1.ks.len kc1, .int .i64 T2.k, .int .i64 T2.n, .slice la2 T2.ls.len lc2, .slice ka2 T2.ks.len kc2] 29))
      go_wp2_with fail
      refine (tBind_any 6 (some ⟨w3.heap.size, 0, none⟩) 2 2 _).mono ?_
      rintro e w4 ⟨rfl, hb4⟩
      have HS4 := Lib.hid ((HS3.out.later HAL.out).later hb4)
      have HTL := Lib.hid (pair_in GT1.out GT2.out HS3.out.gt HZ3.out SL13.out TL13.out SL23.out TL23.out hb4)
      have HOK : Hid (okT v (d + 1 + 1 : Nat) ⟨6, 0, .nil, T1.to (T2.to .nil)⟩) := Lib.hid (by
        have h := okT_two (q := 6) (by omega) OK1.out (B := T2) (by simpa [bindK] using OK2.out)
        rwa [show ((d + 1 : Nat) : Int) + 1 = ((d + 1 + 1 : Nat) : Int) by omega] at h)
      obtain ⟨⟨r0, r1, r2, r3⟩, rf⟩ := HS4.out.cells
      clear hb4 HS3 HAL SL13 TL13 SL23 TL23
      go_wp2_with fail
      refine bodyPost_ret (v := .agg #[.int .i64 6, .int .i64 0, .slice none 0 0, .slice (some ⟨w3.heap.size, 0, none⟩) 2 2]) (by simp [results, Try.results22, go_sem, r0, r1, r2, r3]) rfl ?_
      exact HS4.out.done (T := ⟨6, 0, .nil, T1.to (T2.to .nil)⟩) (t := t) (d := d + 1) HOK.out (SlIn.none _ _) HTL.out (by have := HT2.out; have := HT3.out; rw [budT_succ]; omega)
    · go_wp2_with fail
      refine (IH.out (v) M len cap (t + 1) B a (D - 1) _ HS1.out.1 HS1.out.2.1 hB (by have := HT.out; rw [budT_succ] at this; omega) (by have := HD.out; omega) (by omega) (by omega) (by have := HV.out; omega)).mono ?_
      rintro e w2 ⟨T1, la1, lc1, ka1, kc1, t2, rfl, ok1, sl1, tl1, hat2, ht2, hg2⟩
      have HS2 := Lib.hid (HS1.out.next hat2 hg2)
      have OK1 := Lib.hid ok1
      have GT1 := Lib.hid HS1.out.gt
      have SL12 := Lib.hid sl1
      have TL12 := Lib.hid tl1
      have HT2 := Lib.hid ht2
      have HZ2 := Lib.hid hg2.size
      clear ok1 sl1 tl1 hat2 ht2 hg2 r0 r1 r2 r3 rf
      go_wp2_with fail
      refine (IH.out (v + 1) M len cap (t2) B a (D - 1) _ HS2.out.1 HS2.out.2.1 hB (by have := HT.out; have := HT2.out; rw [budT_succ] at *; omega) (by have := HD.out; omega) (by omega) (by omega) (by have := HV.out; omega)).mono ?_
      rintro e w3 ⟨T2, la2, lc2, ka2, kc2, t3, rfl, ok2, sl2, tl2, hat3, ht3, hg3⟩
      have HS3 := Lib.hid (HS2.out.next hat3 hg3)
      have OK2 := Lib.hid ok2
      have GT2 := Lib.hid HS2.out.gt
      have SL23 := Lib.hid sl2
      have TL23 := Lib.hid tl2
      have HT3 := Lib.hid ht3
      have HZ3 := Lib.hid hg3.size
      have SL13 := Lib.hid (HS2.out.sl hg3 GT1.out (Nat.le_refl _) SL12.out)
      have TL13 := Lib.hid (HS2.out.tl hg3 GT1.out (Nat.le_refl _) TL12.out)
      clear ok2 sl2 tl2 hat3 ht3 hg3 SL12 TL12 HS1 HS2
      have HAL := Lib.hid ((Below.refl w3.heap.size w3).alloc (Nat.le_refl _) (.cells #[.int .i64 T1.k, .int .i64 T1.n, .slice la1 T1.ls.len lc1, .slice ka1 T1.ks.len kc1, .int .i64 T2.k, .int .i64 T2.n, .slice la2 T2.ls.len lc2, .slice ka2 T2.ks.len kc2] 29))
      go_wp2_with fail
      refine (tBind_any 6 (some ⟨w3.heap.size, 0, none⟩) 2 2 _).mono ?_
      rintro e w4 ⟨rfl, hb4⟩
      have HS4 := Lib.hid ((HS3.out.later HAL.out).later hb4)
      have HTL := Lib.hid (pair_in GT1.out GT2.out HS3.out.gt HZ3.out SL13.out TL13.out SL23.out TL23.out hb4)
      have HOK : Hid (okT v (d + 1 + 1 : Nat) ⟨6, 0, .nil, T1.to (T2.to .nil)⟩) := Lib.hid (by
        have h := okT_two (q := 6) (by omega) OK1.out (B := T2) (by simpa [bindK] using OK2.out)
        rwa [show ((d + 1 : Nat) : Int) + 1 = ((d + 1 + 1 : Nat) : Int) by omega] at h)
      obtain ⟨⟨r0, r1, r2, r3⟩, rf⟩ := HS4.out.cells
      clear hb4 HS3 HAL SL13 TL13 SL23 TL23
      go_wp2_with fail
      refine bodyPost_ret (v := .agg #[.int .i64 6, .int .i64 0, .slice none 0 0, .slice (some ⟨w3.heap.size, 0, none⟩) 2 2]) (by simp [results, Try.results22, go_sem, r0, r1, r2, r3]) rfl ?_
      exact HS4.out.done (T := ⟨6, 0, .nil, T1.to (T2.to .nil)⟩) (t := t) (d := d + 1) HOK.out (SlIn.none _ _) HTL.out (by have := HT2.out; have := HT3.out; rw [budT_succ]; omega)
    · go_wp2_with fail
      refine (IH.out (v) M len cap (t + 1) B a (D - 1) _ HS1.out.1 HS1.out.2.1 hB (by have := HT.out; rw [budT_succ] at this; omega) (by have := HD.out; omega) (by omega) (by omega) (by have := HV.out; omega)).mono ?_
      rintro e w2 ⟨T1, la1, lc1, ka1, kc1, t2, rfl, ok1, sl1, tl1, hat2, ht2, hg2⟩
      have HS2 := Lib.hid (HS1.out.next hat2 hg2)
      have OK1 := Lib.hid ok1
      have GT1 := Lib.hid HS1.out.gt
      have SL12 := Lib.hid sl1
      have TL12 := Lib.hid tl1
      have HT2 := Lib.hid ht2
      have HZ2 := Lib.hid hg2.size
      clear ok1 sl1 tl1 hat2 ht2 hg2 r0 r1 r2 r3 rf
      go_wp2_with fail
      refine (IH.out (v) M len cap (t2) B a (D - 1) _ HS2.out.1 HS2.out.2.1 hB (by have := HT.out; have := HT2.out; rw [budT_succ] at *; omega) (by have := HD.out; omega) (by omega) (by omega) (by have := HV.out; omega)).mono ?_
      rintro e w3 ⟨T2, la2, lc2, ka2, kc2, t3, rfl, ok2, sl2, tl2, hat3, ht3, hg3⟩
      have HS3 := Lib.hid (HS2.out.next hat3 hg3)
      have OK2 := Lib.hid ok2
      have GT2 := Lib.hid HS2.out.gt
      have SL23 := Lib.hid sl2
      have TL23 := Lib.hid tl2
      have HT3 := Lib.hid ht3
      have HZ3 := Lib.hid hg3.size
      have SL13 := Lib.hid (HS2.out.sl hg3 GT1.out (Nat.le_refl _) SL12.out)
      have TL13 := Lib.hid (HS2.out.tl hg3 GT1.out (Nat.le_refl _) TL12.out)
      clear ok2 sl2 tl2 hat3 ht3 hg3 SL12 TL12 HS1
      go_wp2_with fail
      refine (IH.out (v + 1) M len cap (t3) B a (D - 1) _ HS3.out.1 HS3.out.2.1 hB (by have := HT.out; have := HT2.out; have := HT3.out; rw [budT_succ] at *; omega) (by have := HD.out; omega) (by omega) (by omega) (by have := HV.out; omega)).mono ?_
      rintro e w4 ⟨T3, la3, lc3, ka3, kc3, t4, rfl, ok3, sl3, tl3, hat4, ht4, hg4⟩
      have HS4 := Lib.hid (HS3.out.next hat4 hg4)
      have OK3 := Lib.hid ok3
      have GT3 := Lib.hid HS3.out.gt
      have SL34 := Lib.hid sl3
      have TL34 := Lib.hid tl3
      have HT4 := Lib.hid ht4
      have HZ4 := Lib.hid hg4.size
      have SL14 := Lib.hid (HS3.out.sl hg4 GT1.out HZ3.out SL13.out)
      have TL14 := Lib.hid (HS3.out.tl hg4 GT1.out HZ3.out TL13.out)
      have SL24 := Lib.hid (HS3.out.sl hg4 GT2.out (Nat.le_refl _) SL23.out)
      have TL24 := Lib.hid (HS3.out.tl hg4 GT2.out (Nat.le_refl _) TL23.out)
      clear ok3 sl3 tl3 hat4 ht4 hg4 SL13 TL13 SL23 TL23 HS2 HS3
      have HAL := Lib.hid ((Below.refl w4.heap.size w4).alloc (Nat.le_refl _) (.cells #[.int .i64 T1.k, .int .i64 T1.n, .slice la1 T1.ls.len lc1, .slice ka1 T1.ks.len kc1, .int .i64 T2.k, .int .i64 T2.n, .slice la2 T2.ls.len lc2, .slice ka2 T2.ks.len kc2, .int .i64 T3.k, .int .i64 T3.n, .slice la3 T3.ls.len lc3, .slice ka3 T3.ks.len kc3] 29))
      go_wp2_with fail
      refine (tBind_any 7 (some ⟨w4.heap.size, 0, none⟩) 3 3 _).mono ?_
      rintro e w5 ⟨rfl, hb5⟩
      have HS5 := Lib.hid ((HS4.out.later HAL.out).later hb5)
      have HTL := Lib.hid (triple_in GT1.out GT2.out GT3.out HS4.out.gt (Nat.le_trans HZ3.out HZ4.out) HZ4.out SL14.out TL14.out SL24.out TL24.out SL34.out TL34.out hb5)
      have HOK : Hid (okT v (d + 1 + 1 : Nat) ⟨7, 0, .nil, T1.to (T2.to (T3.to .nil))⟩) := Lib.hid (by
        have h := okT_let OK1.out OK2.out OK3.out
        rwa [show ((d + 1 : Nat) : Int) + 1 = ((d + 1 + 1 : Nat) : Int) by omega] at h)
      obtain ⟨⟨r0, r1, r2, r3⟩, rf⟩ := HS5.out.cells
      clear hb5 HS4 HAL SL14 TL14 SL24 TL24 SL34 TL34
      go_wp2_with fail
      refine bodyPost_ret (v := .agg #[.int .i64 7, .int .i64 0, .slice none 0 0, .slice (some ⟨w4.heap.size, 0, none⟩) 3 3]) (by simp [results, Try.results22, go_sem, r0, r1, r2, r3]) rfl ?_
      exact HS5.out.done (T := ⟨7, 0, .nil, T1.to (T2.to (T3.to .nil))⟩) (t := t) (d := d + 1) HOK.out (SlIn.none _ _) HTL.out (by have := HT2.out; have := HT3.out; have := HT4.out; rw [budT_succ]; omega)
end Go.Proofs.Ytcnhfoppfihhiaa
/- The contract of the law's own Made: a term whose shape is right, of at most three free variables, at most four deep, in new memory. No condition but that the numbers lie in memory. -/
namespace Go.Proofs.Ytcnhfoppfihhiaa
open Go.RowKit

/-- What Made answers. -/
def MdOk (v : Int) (d : Nat) (w : World) (e : Ending) (w' : World) : Prop :=
  ∃ (T : Tm) (la : Option Addr) (lc : Nat) (ka : Option Addr) (kc : Nat), e = .returned (.agg #[.int .i64 T.k, .int .i64 T.n, .slice la T.ls.len lc, .slice ka T.ks.len kc]) ∧ okT v (d + 1 : Nat) T ∧
    SlIn w' (fun b => w.heap.size ≤ b ∧ b < w'.heap.size) T.ls la lc ∧ TlIn w' (fun b => w.heap.size ≤ b ∧ b < w'.heap.size) T.ks ka kc ∧ Below w.heap.size w w'
set_option maxRecDepth 100000 in
set_option maxHeartbeats 2000000 in
theorem tMade_any (len cap : Nat) (a : Option Addr) (B : Nat) (w : World) (hin : U8In w (· < B) len a cap) (hB : B ≤ w.heap.size) :
    Calls Try.prog 8 #[.slice a len cap] w (MdOk 3 3 w) := by
  have hb : Below w.heap.size w ((w.alloc (.cells #[.int .i64 0, .int .i64 0, .slice none 0 0, .slice none 0 0] 29)).alloc (.cells #[.slice a len cap, .int .i64 0] 50)) := ((Below.refl _ _).alloc (Nat.le_refl _) _).alloc (by simp) _
  have HB := Lib.hid hb
  have hat : MkAt ((w.alloc (.cells #[.int .i64 0, .int .i64 0, .slice none 0 0, .slice none 0 0] 29)).alloc (.cells #[.slice a len cap, .int .i64 0] 50)) (w.heap.size + 1) a len cap 0 := heap_second w _ _
  have HR := Lib.hid ((heap_old (w.alloc (.cells #[.int .i64 0, .int .i64 0, .slice none 0 0, .slice none 0 0] 29)) (.cells #[.slice a len cap, .int .i64 0] 50) (b := w.heap.size) (by simp)).trans (heap_new w _))
  have HT := Lib.hid (tTerm_any 3 3 (w.heap.size + 1) len cap 0 B a 4 _ hat (hin.below (hb.mono hB)) (by omega) (by decide) (by omega) (by omega) (by omega) (by omega))
  clear hat hb hin
  go_enter Try.func8, Try.ntmps8
  go_wp2_with fail
  refine HT.out.mono ?_
  rintro e w1 ⟨T, la, lc, ka, kc, t', rfl, ok, sl, tl, _, _, hg⟩
  have hR1 := (Only.block hg (b := w.heap.size) (by simp; omega) (by omega)).trans HR.out
  have hz1 := hg.size
  simp at hz1
  obtain ⟨r0, r1, r2, r3⟩ := cells4 hR1
  have rf := free_of hR1
  have HSL := Lib.hid sl
  have HTL := Lib.hid tl
  have HOK := Lib.hid ok
  have HG := Lib.hid hg
  clear sl tl ok hg hR1 HT
  go_wp2_with fail
  refine bodyPost_ret (v := .agg #[.int .i64 T.k, .int .i64 T.n, .slice la T.ls.len lc, .slice ka T.ks.len kc]) (by simp [results, Try.results8, go_sem, r0, r1, r2, r3]) rfl ?_
  have u := set4_only (w := w1) w.heap.size (.int .i64 T.k) (.int .i64 T.n) (.slice la T.ls.len lc) (.slice ka T.ks.len kc)
  refine ⟨T, la, lc, ka, kc, rfl, HOK.out, ?_, ?_, ?_⟩
  · exact (HSL.out.keep (fun b hb => Only.block u hb.2 (by have := hb.1; simp at this; omega))).weak (fun b hb => ⟨by have := hb.1; simp at this; omega, Nat.lt_of_lt_of_le hb.2 u.size⟩)
  · exact HTL.out.turn (fun b hb => Only.block u hb.2 (by have := hb.1; simp at this; omega)) (fun b hb => ⟨by have := hb.1; simp at this; omega, Nat.lt_of_lt_of_le hb.2 u.size⟩)
  · refine ⟨u.os.trans (HG.out.os.trans HB.out.os), u.tape.trans (HG.out.tape.trans HB.out.tape), u.output.trans (HG.out.output.trans HB.out.output), Nat.le_trans HB.out.size (Nat.le_trans HG.out.size u.size), fun q hq => ?_⟩
    rw [Only.block u (by omega) (by omega), Only.block HG.out (by simp; omega) (by omega)]
    exact HB.out.block q hq
end Go.Proofs.Ytcnhfoppfihhiaa
/- A list of lists of bytes in memory. No condition but those that stand in each statement. -/
namespace Go.Proofs.Ytcnhfoppfihhiaa
open Go.RowKit

/-- The slice (a, cap) holds so many lists of bytes. -/
def RowsIn (w : World) (P : Nat → Prop) (len : Nat) (a : Option Addr) (cap : Nat) : Prop :=
  len ≤ cap ∧ cap ≤ maxLen ∧ (a = none → cap = 0) ∧ (0 < len → ∃ b o, a = some ⟨b, o, none⟩ ∧ P b ∧ ∀ i, i < len → ∃ (a' : Option Addr) (len' cap' : Nat), w.cell? ⟨b, o + i, none⟩ = some (.slice a' len' cap') ∧ U8In w P len' a' cap')
theorem U8In.keep' {w w' : World} {P : Nat → Prop} (hP : ∀ b, P b → w'.heap[b]? = w.heap[b]?) {len : Nat} {a : Option Addr} {cap : Nat} (h : U8In w P len a cap) : U8In w' P len a cap := by
  obtain ⟨h1, h2, h3, h4⟩ := h
  refine ⟨h1, h2, h3, fun h0 => ?_⟩
  obtain ⟨b, o, ha, hb, hc⟩ := h4 h0
  refine ⟨b, o, ha, hb, fun i hi => ?_⟩
  obtain ⟨x, h5, h6, h7⟩ := hc i hi
  exact ⟨x, h5, h6, (World.cell?_of_block (w := w) (hP b hb)).trans h7⟩
theorem RowsIn.below {w w' : World} {B len : Nat} {a : Option Addr} {cap : Nat} (hb : Below B w w') (h : RowsIn w (· < B) len a cap) : RowsIn w' (· < B) len a cap := by
  obtain ⟨h1, h2, h3, h4⟩ := h
  refine ⟨h1, h2, h3, fun h0 => ?_⟩
  obtain ⟨b, o, ha, hbB, hc⟩ := h4 h0
  refine ⟨b, o, ha, hbB, fun i hi => ?_⟩
  obtain ⟨a', l', c', h5, h6⟩ := hc i hi
  exact ⟨a', l', c', (bcell hb _ _ hbB).trans h5, h6.keep' (fun b hb' => hb.block b hb')⟩
theorem RowsIn.len {w : World} {P : Nat → Prop} {len : Nat} {a : Option Addr} {cap : Nat} (h : RowsIn w P len a cap) : len ≤ 9223372036854775807 := by
  have h1 := h.1
  have h2 := h.2.1
  unfold maxLen at h2
  omega
end Go.Proofs.Ytcnhfoppfihhiaa
/- Made: a right level by numbers, at most five deep; it only makes new memory. -/
namespace Go.Proofs.Ytcnhfoppfihhiaa
open Go.RowKit

/-- What Made answers. -/
def MadeOk (p m : Int) (w : World) (e : Ending) (w' : World) : Prop :=
  ∃ (k n : Int) (F : Fo) (x : Option Addr) (c : Nat), e = .returned (.agg #[.int .i64 k, .int .i64 n, .slice x F.len c]) ∧ LvOk p m 5 k n F ∧ SlIn w' (fun b => w.heap.size ≤ b ∧ b < w'.heap.size) F x c ∧ Below w.heap.size w w'
set_option maxRecDepth 100000 in
set_option maxHeartbeats 2000000 in
theorem made_any (p m : Int) (hp1 : 1 ≤ p) (hp2 : p ≤ 100) (hm1 : 1 ≤ m) (hm2 : m ≤ 100) (len cap B : Nat) (a : Option Addr) (w : World) (hin : U8In w (· < B) len a cap) (hB : B ≤ w.heap.size) :
    Calls Try.prog 23 #[.slice a len cap, .int .i64 p, .int .i64 m] w (MadeOk p m w) := by
  have hb0 : Below w.heap.size w ((w.alloc (.cells #[.int .i64 0, .int .i64 0, .slice none 0 0] 38)).alloc (.cells #[.slice a len cap, .int .i64 0] 50)) := ((Below.refl _ _).alloc (Nat.le_refl _) _).alloc (by simp) _
  have hat : MkAt ((w.alloc (.cells #[.int .i64 0, .int .i64 0, .slice none 0 0] 38)).alloc (.cells #[.slice a len cap, .int .i64 0] 50)) (w.heap.size + 1) a len cap 0 := heap_second _ _ _
  have hR0 : ((w.alloc (.cells #[.int .i64 0, .int .i64 0, .slice none 0 0] 38)).alloc (.cells #[.slice a len cap, .int .i64 0] 50)).heap[w.heap.size]? = some (.cells #[.int .i64 0, .int .i64 0, .slice none 0 0] 38 (0, 0)) := (heap_old _ _ (by simp)).trans (heap_new _ _)
  have HR0 := Lib.hid hR0
  clear hR0
  go_enter Try.func23, Try.ntmps23
  go_wp2_with fail
  refine (mLevel_any p m hp1 hp2 hm1 hm2 4 (w.heap.size + 1) len cap 0 B a 5 _ hat (hin.below (hb0.mono hB)) (by omega) (by decide) (by omega) (by omega)).mono ?_
  rintro e w1 ⟨k, n, F, x, c, t', rfl, hok, hs, hat1, _, hg⟩
  have hR1 := (Only.block hg (b := w.heap.size) (by simp; omega) (by omega)).trans HR0.out
  obtain ⟨r0, r1, r2⟩ := cells3 hR1
  have rf := free_of hR1
  have hlt := lt_of_block hR1
  have hz := hg.size
  simp at hz
  have hb1 : Below w.heap.size w w1 := hb0.trans ⟨hg.os, hg.tape, hg.output, hg.size, fun b hb => Only.block hg (by simp; omega) (by omega)⟩
  have hs1 : SlIn w1 (fun b => w.heap.size + 1 ≤ b ∧ b < w1.heap.size) F x c := hs.weak (fun b hb => ⟨by have := hb.1; simp at this; omega, hb.2⟩)
  have HX := Lib.hid (⟨hok, hs1, hb1⟩ : LvOk p m 5 k n F ∧ SlIn w1 (fun b => w.heap.size + 1 ≤ b ∧ b < w1.heap.size) F x c ∧ Below w.heap.size w w1)
  clear hok hs hat1 hg hR1 hb1 hs1 hat hb0
  go_wp2_with fail
  refine bodyPost_ret (v := .agg #[.int .i64 k, .int .i64 n, .slice x F.len c]) (by simp [results, Try.results23, go_sem, r0, r1, r2]) rfl ?_
  obtain ⟨hok, hs1, hb1⟩ := HX.out
  exact ⟨k, n, F, x, c, rfl, hok, hs1.carry (set3_only _ _ _ _) (by omega) (by omega), ((hb1.setCell (Nat.le_refl _) _).setCell (Nat.le_refl _) _).setCell (Nat.le_refl _) _⟩


end Go.Proofs.Ytcnhfoppfihhiaa
/- Kids that are made one by one in a row of the call's own: what lies in memory, what an append does, and the row as a slice. No condition but those that stand in each statement. -/
namespace Go.Proofs.Ytcnhfoppfihhiaa
open Go.RowKit

/-- The value v is a row of the call's own, from block lo on, that holds the forest G, whose Kids lie in other blocks from lo on. -/
def KsOwn (lo : Nat) (W : World) (v : Value) (G : Fo) : Prop := ∃ xs, W.ownsRow lo 38 3 v G.len xs ∧ RepP W (fun b => lo ≤ b ∧ b < W.heap.size ∧ some b ≠ v.ownBlock) G xs
theorem KsOwn.nil (lo : Nat) (W : World) : KsOwn lo W (.slice none 0 0) .nil := ⟨[], World.ownsRow_nil _ _ _ _, rfl⟩
theorem KsOwn.grow {lo : Nat} {W W' : World} {v : Value} {G : Fo} (h : KsOwn lo W v G) (hz : W.heap.size ≤ W'.heap.size) (hk : ∀ b, lo ≤ b → b < W.heap.size → W'.heap[b]? = W.heap[b]?) : KsOwn lo W' v G := by
  obtain ⟨xs, h1, h2⟩ := h
  refine ⟨xs, ?_, h2.keep (fun b hb => hk b hb.1 hb.2.1) (fun b hb => ⟨hb.1, by omega, hb.2.2⟩)⟩
  refine ⟨h1.1, ?_⟩
  rcases h1.2 with hn | ⟨g, cap, cur, e, hb, hh, rest⟩
  · exact .inl hn
  · exact .inr ⟨g, cap, cur, e, hb, (hk g hb (lt_of_block hh)).trans hh, rest⟩
theorem KsOwn.grown {lo R : Nat} {W W' : World} {v : Value} {G : Fo} (h : KsOwn lo W v G) (hg : W.grownBy W' (some R)) (hR : R < lo) : KsOwn lo W' v G := h.grow hg.size (fun b h1 h2 => Only.block hg h2 (by omega))
theorem KsOwn.setLow {lo : Nat} {W : World} {v : Value} {G : Fo} (h : KsOwn lo W v G) {b : Nat} (hb : b < lo) (i : Nat) (u : Value) : KsOwn lo (W.setCell ⟨b, i, none⟩ u) v G := h.grown (Only.set W b i u) hb
theorem KsOwn.alloc {lo : Nat} {W : World} {v : Value} {G : Fo} (h : KsOwn lo W v G) (o : Obj) : KsOwn lo (W.alloc o) v G := h.grow (by simp) (fun b _ h2 => heap_old _ _ h2)
theorem KsOwn.drew {lo : Nat} {W : World} {v : Value} {G : Fo} (h : KsOwn lo W v G) (m : Nat) : KsOwn lo (W.drewN m) v G := h.grow (Nat.le_refl _) (fun _ _ _ => rfl)
theorem KsOwn.lt {lo : Nat} {W : World} {v : Value} {G : Fo} (h : KsOwn lo W v G) : ∀ g, v.ownBlock = some g → lo ≤ g ∧ g < W.heap.size := by
  obtain ⟨xs, h1, _⟩ := h
  exact h1.lt
/-- A level that was made later than the row: its blocks are none of the row's. -/
theorem KsOwn.fresh {lo : Nat} {W W' : World} {v : Value} {G F : Fo} {x : Option Addr} {c : Nat} (h : KsOwn lo W v G) (hlo : lo ≤ W.heap.size) (hs : SlIn W' (fun b => W.heap.size ≤ b ∧ b < W'.heap.size) F x c) : SlIn W' (fun b => lo ≤ b ∧ b < W'.heap.size ∧ some b ≠ v.ownBlock) F x c :=
  hs.weak (fun b hb => ⟨by omega, hb.2, fun e => by have := (h.lt b e.symm).2; omega⟩)
/-- THE APPEND of a level behind the row: what it comes to, and what else has changed. -/
theorem KsOwn.append {lo : Nat} {W : World} {v : Value} {G F : Fo} {x : Option Addr} {c : Nat} (h : KsOwn lo W v G) (k n : Int) (hs : SlIn W (fun b => lo ≤ b ∧ b < W.heap.size ∧ some b ≠ v.ownBlock) F x c) (ty : TypeId) (hG : G.len ≤ 1000) (hlo : 1 ≤ lo) (hW : lo ≤ W.heap.size) :
    ∃ g' cap' w3, (Builtin.append_ #[26, 26] ty #[v, .slice (some ⟨W.heap.size, 0, none⟩) 1 1]).run Try.prog (W.alloc (.cells #[.int .i64 k, .int .i64 n, .slice x F.len c] 38)) = .ok (.slice (some ⟨g', 0, none⟩) (G.len + 1) cap') w3 ∧
      KsOwn lo w3 (.slice (some ⟨g', 0, none⟩) (G.len + 1) cap') (G.app (.cons k n F .nil)) ∧ (∀ b, b < W.heap.size → some b ≠ v.ownBlock → w3.heap[b]? = W.heap[b]?) ∧ W.heap.size + 1 ≤ w3.heap.size ∧ w3.os = W.os ∧ w3.tape = W.tape ∧ w3.output = W.output := by
  obtain ⟨xs, h1, h2⟩ := h
  have hl : lo = (lo - 1) + 1 := by omega
  rw [hl] at h1
  obtain ⟨v', w3, hrun, a1, a2, a3⟩ := append_kid ty h1 hG (by omega) k n x F.len c
  obtain ⟨g', cap', rfl⟩ := ownsRow_succ a1
  rw [← hl] at a1 h1
  have z2 := a2.size
  rw [World.size_alloc] at z2
  have same : ∀ b, b < W.heap.size → some b ≠ v.ownBlock → w3.heap[b]? = W.heap[b]? := fun b hb hn => (a2.block b (by rw [World.size_alloc]; omega) hn).trans (heap_old _ _ hb)
  have hnew : ∀ b, b < W.heap.size → some b ≠ v.ownBlock → some b ≠ (Value.slice (some ⟨g', 0, none⟩) (G.len + 1) cap').ownBlock := fun b hb hn => by
    rcases a3 with a3 | a3
    · rw [a3]; exact hn
    · rw [a3]; intro e; injection e with e; omega
  refine ⟨g', cap', w3, hrun, ⟨xs ++ [.int .i64 k, .int .i64 n, .slice x F.len c], ?_, ?_⟩, same, z2, a2.os, a2.tape, a2.output⟩
  · rw [Fo.app_len]; exact a1
  · refine RepP.snoc ?_ (h2.keep (fun b hb => same b hb.2.1 hb.2.2) (fun b hb => ⟨hb.1, by omega, hnew b hb.2.1 hb.2.2⟩))
    exact (hs.keep (fun b hb => same b hb.2.1 hb.2.2)).weak (fun b hb => ⟨hb.1, by omega, hnew b hb.2.1 hb.2.2⟩)
/-- The row as a slice. -/
theorem KsOwn.slice {lo : Nat} {W : World} {v : Value} {G : Fo} (h : KsOwn lo W v G) : ∃ x c, v = .slice x G.len c ∧ SlIn W (fun b => lo ≤ b ∧ b < W.heap.size) G x c := by
  obtain ⟨xs, h1, h2⟩ := h
  exact RepP.slice h1 (h2.keep (fun _ _ => rfl) (fun b hb => ⟨hb.1, hb.2.1⟩)) rfl (fun g hg => h1.lt g hg)
end Go.Proofs.Ytcnhfoppfihhiaa
/- The contract of the law's own list of levels by numbers: right levels, no more than are asked for. -/
namespace Go.Proofs.Ytcnhfoppfihhiaa
open Go.RowKit

theorem lv_right {d : Nat} {k n : Int} {F : Fo} (hd : d ≤ 6) (h : LvOk 5 10 d k n F) : rightB 5 10 k n F = true := by
  have hs : F.size + 2 ≤ 64 := Nat.le_trans h.2 (Nat.pow_le_pow_right (by omega) hd : 2 ^ d ≤ 2 ^ 6)
  unfold rightB
  simp only [Bool.and_eq_true, decide_eq_true_eq]
  exact ⟨by omega, by omega, rNode_mono h.1 (by omega) (fun h => rAll_mono h (by omega))⟩
theorem allR_snoc {k n : Int} {F : Fo} : ∀ {G : Fo}, allR G = true → rightB 5 10 k n F = true → allR (G.app (.cons k n F .nil)) = true
  | .nil, _, h => by show (rightB 5 10 k n F && true) = true; rw [h]; rfl
  | .cons a b c r, hG, h => by
    simp only [allR, Bool.and_eq_true] at hG
    show (rightB 5 10 a b c && allR (r.app (.cons k n F .nil))) = true
    rw [hG.1, allR_snoc hG.2 h]; rfl
/-- What is answered: a list of right levels. -/
def LsPost (many : Nat) (w : World) (e : Ending) (w' : World) : Prop := ∃ (G : Fo) (x : Option Addr) (c : Nat), e = .returned (.slice x G.len c) ∧ G.len ≤ many ∧ allR G = true ∧ SlIn w' (· < w'.heap.size) G x c ∧ Below w.heap.size w w'
/-- What stands in memory between two rounds. -/
def LsR (w : World) (j : Nat) (v : Value) (wr : World) : Prop := ∃ G : Fo, G.len = j ∧ allR G = true ∧ KsOwn w.heap.size wr v G ∧ Below w.heap.size w wr
/-- A level more: the append behind the others, and what lies there then. -/
theorem LsR.next {w : World} {j : Nat} {v : Value} {wr : World} (h : LsR w j v wr) (h1w : 1 ≤ w.heap.size) (hj : j ≤ 900) {w1 w2 : World} {k n : Int} {F : Fo} {x : Option Addr} {c : Nat} (hb : Below wr.heap.size wr w2) (hok : LvOk 5 10 5 k n F) (h1 : wr.heap.size ≤ w1.heap.size) (hs : SlIn w2 (fun b => w1.heap.size ≤ b ∧ b < w2.heap.size) F x c) :
    ∃ g' cap' w3, (Builtin.append_ #[26, 26] 26 #[v, .slice (some ⟨w2.heap.size, 0, none⟩) 1 1]).run Try.prog (w2.alloc (.cells #[.int .i64 k, .int .i64 n, .slice x F.len c] 38)) = .ok (.slice (some ⟨g', 0, none⟩) (j + 1) cap') w3 ∧ LsR w (j + 1) (.slice (some ⟨g', 0, none⟩) (j + 1) cap') w3 := by
  obtain ⟨G, hG, hr, ho, hw⟩ := h
  have hz := hw.size
  subst hG
  have hz2 := hb.size
  have ho2 : KsOwn w.heap.size w2 v G := ho.grow hb.size (fun b _ h2 => hb.block b h2)
  have hs2 : SlIn w2 (fun b => w.heap.size ≤ b ∧ b < w2.heap.size ∧ some b ≠ v.ownBlock) F x c := ho.fresh hz (hs.weak (fun b hb => ⟨by omega, hb.2⟩))
  obtain ⟨g', cap', w3, hrun, k3, same, z3, o1, o2, o3⟩ := ho2.append k n hs2 26 (by omega) (by omega) (by omega)
  refine ⟨g', cap', w3, hrun, G.app (.cons k n F .nil), by rw [Fo.app_len]; rfl, allR_snoc hr (lv_right (by omega) hok), k3, ?_⟩
  refine ⟨(o1.trans hb.os).trans hw.os, (o2.trans hb.tape).trans hw.tape, (o3.trans hb.output).trans hw.output, by have := hw.size; omega, fun b hb' => ?_⟩
  have h3 := hw.size
  exact (same b (by omega) (fun e => by have := (ho2.lt b e.symm).1; omega)).trans ((hb.block b (by omega)).trans (hw.block b hb'))

set_option maxRecDepth 100000 in
set_option maxHeartbeats 4000000 in
theorem levels5_any (many len cap B : Nat) (hm : many ≤ 100) (a : Option Addr) (w : World) (hin : RowsIn w (· < B) len a cap) (hB : B ≤ w.heap.size) (hw : 1 ≤ w.heap.size) : Calls Try.prog 9 #[.slice a len cap, .int .i64 many] w (LsPost many w) := by
  have hlen := hin.len
  have HIN := Lib.hid hin
  have HS : Hid (LsR w 0 (.slice none 0 0) w) := Lib.hid ⟨.nil, rfl, rfl, KsOwn.nil _ _, Below.refl _ _⟩
  clear hin
  go_enter Try.func9, Try.ntmps9
  go_wp2_with fail
  go_loopw [5, 6] (fun ov iv wr => ∃ (j : Nat) (v : Value), ov = v ∧ iv = .int .i64 j ∧ j ≤ len ∧ j ≤ many ∧ Hid (LsR w j v wr)) (fun _ iv _ => many - (intOf iv).toNat)
  case atStart => exact ⟨0, _, rfl, rfl, Nat.zero_le _, Nat.zero_le _, HS⟩
  case round =>
    obtain ⟨j, v, rfl, rfl, hj, hjm, hR⟩ := hrel
    have hj0 : (0 : Int) ≤ (j : Int) := by omega
    by_cases hjl : j < len
    · have hjl' : (j : Int) < (len : Int) := by omega
      by_cases hjk : j < many
      · have hjk' : (j : Int) < (many : Int) := by omega
        obtain ⟨b, o, rfl, hbB, hc⟩ := HIN.out.2.2.2 (by omega)
        obtain ⟨a', l', c', hcell, hu⟩ := hc j hjl
        have hb : Below w.heap.size w wr := hR.out.choose_spec.2.2.2
        have hbB' := hb.mono hB
        have e0 := (bcell hbB' b (o + j) hbB).trans hcell
        have HM := Lib.hid (made_any 5 10 (by omega) (by omega) (by omega) (by omega) l' c' B a' wr (hu.keep' (fun b h => hbB'.block b h)) (Nat.le_trans hB hb.size))
        have HN := Lib.hid (fun (w2 : World) (k n : Int) (F : Fo) (x : Option Addr) (c : Nat) (q1 : LvOk 5 10 5 k n F) (q2 : SlIn w2 (fun b => wr.heap.size ≤ b ∧ b < w2.heap.size) F x c) (q3 : Below wr.heap.size wr w2) => hR.out.next hw (by omega) q3 q1 (Nat.le_refl _) q2)
        clear hc hcell hu hb hbB' hR
        go_wp2_with fail
        refine HM.out.mono ?_
        rintro e w2 ⟨k, n, F, x, c, rfl, q1, q2, q3⟩
        obtain ⟨g', cap', w3, hrun, hN⟩ := HN.out w2 k n F x c q1 q2 q3
        have HRUN := Lib.hid hrun
        have HL := Lib.hid hN
        clear hrun hN q1 q2 q3 HN HM
        go_wp2_with (at_builtin; refine wpList_append_run (by rfl) _ _ _ (by rfl) (by rfl) (by rfl) HRUN.out ?_)
        go_roundw
        case rel => exact ⟨j + 1, _, rfl, by go_num, by omega, by omega, HL⟩
        case measure => simp [intOf]; omega
      · have hjk' : ¬ (j : Int) < (many : Int) := by omega
        have dk : decide ((j : Int) < (many : Int)) = false := by simpa using hjk'
        obtain ⟨G, hG, hr, ho, hb⟩ := hR.out
        obtain ⟨x, c, rfl, hsl⟩ := ho.slice
        have HE : Hid (LsPost many w (.returned (.slice x G.len c)) wr) := Lib.hid ⟨G, x, c, rfl, by omega, hr, hsl.weak (fun b h => h.2), hb⟩
        clear ho hsl hR hr hG
        go_wp2_with fail
        go_ret
        exact HE.out
    · have hjl' : ¬ (j : Int) < (len : Int) := by omega
      have dl : decide ((j : Int) < (len : Int)) = false := by simpa using hjl'
      obtain ⟨G, hG, hr, ho, hb⟩ := hR.out
      obtain ⟨x, c, rfl, hsl⟩ := ho.slice
      have HE : Hid (LsPost many w (.returned (.slice x G.len c)) wr) := Lib.hid ⟨G, x, c, rfl, by omega, hr, hsl.weak (fun b h => h.2), hb⟩
      clear ho hsl hR hr hG
      go_wp2_with fail
      go_ret
      exact HE.out
end Go.Proofs.Ytcnhfoppfihhiaa
