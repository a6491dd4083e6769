/- The contract of Same: whether two terms are the same. No condition but that they lie in memory and have no more than a million terms, and levels each. -/
import Derived.Test.YtokckghedpdfiaaTstack
import Derived.Test.YtokckghedpdfiaaTeq
import Derived.Test.YtokckghedpdfiaaStep
import Derived.RegionTactic
import Derived.BigRegion
import Derived.ChangeAlike
import Derived.Deep.LoopGhost
import Derived.Deep.DeepCutAuto
import Derived.Deep.RegionHeld3
namespace Go.Proofs.Ytokckghedpdfiaa
open Go.RowKit

/-- What the loop keeps: two stacks of the call's own, in two rows, that are the same just if the answer is yes. -/
def TSR (w : World) (B : Nat) (res : Bool) (N : Nat) (s5 s6 : Value) (wr : World) : Prop :=
  ∃ (F G : Ft) (ga ca gb cb : Nat), s5 = .slice (some ⟨ga, 0, none⟩) F.len ca ∧ s6 = .slice (some ⟨gb, 0, none⟩) G.len cb ∧ F.size = N ∧ F.len = G.len ∧ ga ≠ gb ∧ (F.size ≤ 1000001 ∧ F.lvsz 1000000) ∧ (G.size ≤ 1000001 ∧ G.lvsz 1000000) ∧
    TOwn w B wr w.heap.size ga ca F ∧ TOwn w B wr w.heap.size gb cb G ∧ res = decide (F = G) ∧ Below w.heap.size w wr
/-- The same, where there is a last term. -/
def TSS (w : World) (B : Nat) (res : Bool) (N L ga ca gb cb : Nat) (k1 n1 : Int) (l1 : Fo) (x1 : Option Addr) (d1 : Nat) (ks : Ft) (a1 : Option Addr) (c1 : Nat) (k2 n2 : Int) (l2 : Fo) (x2 : Option Addr) (d2 : Nat) (ks' : Ft) (a2 : Option Addr) (c2 : Nat) (wr : World) : Prop :=
  ∃ i j : Ft, i.len = L ∧ j.len = L ∧ i.size + ks.size + 1 = N ∧ ga ≠ gb ∧ (i.size + ks.size ≤ 1000000 ∧ i.lvsz 1000000 ∧ ks.lvsz 1000000 ∧ l1.size ≤ 1000000) ∧ (j.size + ks'.size ≤ 1000000 ∧ j.lvsz 1000000 ∧ ks'.lvsz 1000000 ∧ l2.size ≤ 1000000) ∧ TOwn w B wr w.heap.size ga ca i ∧ TOwn w B wr w.heap.size gb cb j ∧
    SlIn w (· < B) l1 x1 d1 ∧ SlIn w (· < B) l2 x2 d2 ∧ TlIn w (· < B) ks a1 c1 ∧ TlIn w (· < B) ks' a2 c2 ∧
    res = decide (i.app (.cons k1 n1 l1 ks .nil) = j.app (.cons k2 n2 l2 ks' .nil)) ∧ Below w.heap.size w wr
theorem TSR.split {w : World} {B : Nat} {res : Bool} {N : Nat} {s5 s6 : Value} {wr : World} (h : TSR w B res N s5 s6 wr) :
    (res = true ∧ Below w.heap.size w wr ∧ ∃ ga ca gb cb, s5 = .slice (some ⟨ga, 0, none⟩) 0 ca ∧ s6 = .slice (some ⟨gb, 0, none⟩) 0 cb) ∨
    ∃ (L ga ca gb cb : Nat) (k1 n1 : Int) (l1 : Fo) (x1 : Option Addr) (d1 : Nat) (ks : Ft) (a1 : Option Addr) (c1 : Nat) (k2 n2 : Int) (l2 : Fo) (x2 : Option Addr) (d2 : Nat) (ks' : Ft) (a2 : Option Addr) (c2 : Nat), s5 = .slice (some ⟨ga, 0, none⟩) (L + 1) ca ∧ s6 = .slice (some ⟨gb, 0, none⟩) (L + 1) cb ∧
      L ≤ 1000000 ∧ L + 1 ≤ ca ∧ L + 1 ≤ cb ∧ ca ≤ 9223372036854775807 ∧ cb ≤ 9223372036854775807 ∧ ks.len ≤ 1000000 ∧ ks'.len ≤ 1000000 ∧ ga < wr.heap.size ∧ gb < wr.heap.size ∧
      (wr.cell? ⟨ga, L * 4, none⟩ = some (.int .i64 k1) ∧ wr.cell? ⟨ga, L * 4 + 1, none⟩ = some (.int .i64 n1) ∧ wr.cell? ⟨ga, L * 4 + 2, none⟩ = some (.slice x1 l1.len d1) ∧ wr.cell? ⟨ga, L * 4 + 3, none⟩ = some (.slice a1 ks.len c1)) ∧
      (wr.cell? ⟨gb, L * 4, none⟩ = some (.int .i64 k2) ∧ wr.cell? ⟨gb, L * 4 + 1, none⟩ = some (.int .i64 n2) ∧ wr.cell? ⟨gb, L * 4 + 2, none⟩ = some (.slice x2 l2.len d2) ∧ wr.cell? ⟨gb, L * 4 + 3, none⟩ = some (.slice a2 ks'.len c2)) ∧
      TSS w B res N L ga ca gb cb k1 n1 l1 x1 d1 ks a1 c1 k2 n2 l2 x2 d2 ks' a2 c2 wr := by
  obtain ⟨F, G, ga, ca, gb, cb, rfl, rfl, hN, hl, hne, ⟨h1, hv1⟩, ⟨h2, hv2⟩, o1, o2, hr, hb⟩ := h
  rcases Nat.eq_zero_or_pos F.len with h0 | h0
  · have e1 := Ft.len_zero h0
    have e2 := Ft.len_zero (f := G) (by omega)
    subst e1 e2
    exact .inl ⟨hr, hb, ga, ca, gb, cb, rfl, rfl⟩
  · obtain ⟨i, k1, n1, l1, ks, rfl⟩ := Ft.snoc h0
    obtain ⟨j, k2, n2, l2, ks', rfl⟩ := Ft.snoc (f := G) (by omega)
    obtain ⟨u1, v1, a1, c1, x0, x1, x2, x3, hl1, hs1⟩ := o1.last
    obtain ⟨u2, v2, a2, c2, y0, y1, y2, y3, hl2, hs2⟩ := o2.last
    have hi : (i.app (.cons k1 n1 l1 ks .nil)).len = i.len + 1 := by rw [Ft.app_len]; rfl
    have hj : (j.app (.cons k2 n2 l2 ks' .nil)).len = j.len + 1 := by rw [Ft.app_len]; rfl
    have hij : j.len = i.len := by omega
    have z1 : (i.app (.cons k1 n1 l1 ks .nil)).size = i.size + ks.size + 1 := by rw [Ft.app_size]; simp [Ft.size]; omega
    have z2 : (j.app (.cons k2 n2 l2 ks' .nil)).size = j.size + ks'.size + 1 := by rw [Ft.app_size]; simp [Ft.size]; omega
    have q1 := o1.cap
    have q2 := o2.cap
    have m1 := Ft.len_le_size i
    have m2 := Ft.len_le_size ks
    have m3 := Ft.len_le_size ks'
    rw [Ft.lvsz_app] at hv1 hv2
    refine .inr ⟨i.len, ga, ca, gb, cb, k1, n1, l1, u1, v1, ks, a1, c1, k2, n2, l2, u2, v2, ks', a2, c2, by rw [hi], by rw [hj, hij], by omega, by omega, by omega, q1.2, q2.2, by omega, by omega, o1.lt.2, o2.lt.2, ⟨x0, x1, x2, x3⟩, ⟨by rw [← hij]; exact y0, by rw [← hij]; exact y1, by rw [← hij]; exact y2, by rw [← hij]; exact y3⟩, ?_⟩
    exact ⟨i, j, rfl, hij, by omega, hne, ⟨by omega, hv1.1, hv1.2.2.1, hv1.2.1⟩, ⟨by omega, hv2.1, hv2.2.2.1, hv2.2.1⟩, o1.cut, o2.cut, hl1, hl2, hs1, hs2, hr, hb⟩
section
variable {w : World} {B : Nat} {res : Bool} {N L ga ca gb cb : Nat} {k1 n1 : Int} {l1 : Fo} {x1 : Option Addr} {d1 : Nat} {ks : Ft} {a1 : Option Addr} {c1 : Nat} {k2 n2 : Int} {l2 : Fo} {x2 : Option Addr} {d2 : Nat} {ks' : Ft} {a2 : Option Addr} {c2 : Nat} {wr W : World}
theorem TSS.no (h : TSS w B res N L ga ca gb cb k1 n1 l1 x1 d1 ks a1 c1 k2 n2 l2 x2 d2 ks' a2 c2 wr)
    (hne : decide (k1 = k2 ∧ n1 = n2 ∧ ks.len = ks'.len ∧ l1 = l2) = false) : res = false := by
  obtain ⟨i, j, e1, e2, _, _, _, _, _, _, _, _, _, _, hr, _⟩ := h
  rw [hr]
  apply decide_eq_false
  rw [Ft.app_eq (by omega)]
  rintro ⟨_, h⟩
  injection h with h1 h2 h3 h4 _
  subst h1 h2 h3 h4
  simp at hne
theorem TSS.below (h : TSS w B res N L ga ca gb cb k1 n1 l1 x1 d1 ks a1 c1 k2 n2 l2 x2 d2 ks' a2 c2 wr) : Below w.heap.size w wr := by
  obtain ⟨i, j, _, _, _, _, _, _, _, _, _, _, _, _, _, hb⟩ := h
  exact hb
theorem TSS.pos (h : TSS w B res N L ga ca gb cb k1 n1 l1 x1 d1 ks a1 c1 k2 n2 l2 x2 d2 ks' a2 c2 wr) : 1 ≤ N := by
  obtain ⟨i, j, _, _, hN, _⟩ := h
  omega
/-- What alike asks for: the levels, in a world that is only more. -/
theorem TSS.lev (h : TSS w B res N L ga ca gb cb k1 n1 l1 x1 d1 ks a1 c1 k2 n2 l2 x2 d2 ks' a2 c2 wr) (hB : B ≤ w.heap.size) (hk : Below wr.heap.size wr W) : SlIn W (· < B) l1 x1 d1 ∧ SlIn W (· < B) l2 x2 d2 ∧ B ≤ W.heap.size ∧ l1.size ≤ 1000000 ∧ l2.size ≤ 1000000 := by
  obtain ⟨i, j, _, _, _, _, ⟨_, _, _, m1⟩, ⟨_, _, _, m2⟩, _, _, hl1, hl2, _, _, _, hb⟩ := h
  have hbW : Below w.heap.size w W := hb.trans (hk.mono hb.size)
  exact ⟨hl1.below (hbW.mono hB), hl2.below (hbW.mono hB), Nat.le_trans hB hbW.size, m1, m2⟩
/-- The first append, in a world that is only more. -/
theorem TSS.first (h : TSS w B res N L ga ca gb cb k1 n1 l1 x1 d1 ks a1 c1 k2 n2 l2 x2 d2 ks' a2 c2 wr)
    (hB : B ≤ w.heap.size) (hk : Below wr.heap.size wr W) (ty : TypeId) :
    ∃ ga' ca' wA, (Builtin.append_ #[23, 23] ty #[.slice (some ⟨ga, 0, none⟩) L ca, .slice a1 ks.len c1]).run Try.prog W = .ok (.slice (some ⟨ga', 0, none⟩) (L + ks.len) ca') wA ∧ W.grownBy wA (some ga) ∧
      (∀ wA', Below wA.heap.size wA wA' → ∀ ty, ∃ gb' cb' wB, (Builtin.append_ #[23, 23] ty #[.slice (some ⟨gb, 0, none⟩) L cb, .slice a2 ks'.len c2]).run Try.prog wA' = .ok (.slice (some ⟨gb', 0, none⟩) (L + ks'.len) cb') wB ∧ wA'.grownBy wB (some gb) ∧
        (decide (k1 = k2 ∧ n1 = n2 ∧ ks.len = ks'.len ∧ l1 = l2) = true → TSR w B res (N - 1) (.slice (some ⟨ga', 0, none⟩) (L + ks.len) ca') (.slice (some ⟨gb', 0, none⟩) (L + ks'.len) cb') wB)) := by
  obtain ⟨i, j, e1, e2, hN, hne, ⟨hz1, hv1, hv1', _⟩, ⟨hz2, hv2, hv2', _⟩, o1, o2, _, _, hs1, hs2, hr, hb⟩ := h
  have m1 := Ft.len_le_size i
  have m2 := Ft.len_le_size ks
  have m3 := Ft.len_le_size j
  have m4 := Ft.len_le_size ks'
  have b1 := o1.lt
  have b2 := o2.lt
  have hbW : Below w.heap.size w W := hb.trans (hk.mono hb.size)
  have o1W := o1.below hk
  have o2W := o2.below hk
  obtain ⟨ga', ca', wA, r1, r2, r3, r4⟩ := o1W.append (hbW.mono hB) ty hs1 (by omega) hbW.size
  rw [e1] at r1
  have t2 := r2.lt
  have o2A := o2W.kept r3 (by intro e; injection e with e; exact hne e)
  have hbA : Below w.heap.size w wA := hbW.trans ⟨r3.os, r3.tape, r3.output, r3.size, fun q hq => Only.block r3 (Nat.lt_of_lt_of_le hq hbW.size) (by omega)⟩
  have hsz := r3.size
  refine ⟨ga', ca', wA, r1, r3, fun wA' hk' ty' => ?_⟩
  have hbA' : Below w.heap.size w wA' := hbA.trans (hk'.mono hbA.size)
  obtain ⟨gb', cb', wB, q1, q2, q3, q4⟩ := (o2A.below hk').append (hbA'.mono hB) ty' hs2 (by omega) hbA'.size
  rw [e2] at q1
  have hsz' := hk'.size
  have hsk := hk.size
  have hgag : ga' ≠ gb := by
    rcases r4 with rfl | rfl
    · exact hne
    · omega
  refine ⟨gb', cb', wB, q1, q3, fun heq => ?_⟩
  obtain ⟨hk1, hn1, hlen, hll⟩ := of_decide_eq_true heq
  have o1B := (r2.below hk').kept q3 (by intro e; injection e with e; exact hgag e.symm)
  refine ⟨i.app ks, j.app ks', ga', ca', gb', cb', by rw [Ft.app_len, e1], by rw [Ft.app_len, e2], by rw [Ft.app_size]; omega, by rw [Ft.app_len, Ft.app_len]; omega, ?_, ⟨by rw [Ft.app_size]; omega, Ft.lvsz_app.2 ⟨hv1, hv1'⟩⟩, ⟨by rw [Ft.app_size]; omega, Ft.lvsz_app.2 ⟨hv2, hv2'⟩⟩, o1B, q2, ?_, ?_⟩
  · rcases q4 with rfl | rfl
    · exact hgag
    · omega
  · rw [hr]
    subst hk1 hn1 hll
    congr 1
    rw [Ft.app_eq (by omega), Ft.app_eq (by omega)]
    simp
  · exact hbA'.trans ⟨q3.os, q3.tape, q3.output, q3.size, fun q hq => Only.block q3 (Nat.lt_of_lt_of_le hq hbA'.size) (by omega)⟩
end
section
variable {f g : Ft} {k n k' n' : Int} {ls ls' : Fo} {la la' a a' : Option Addr} {lc lc' cap cap' B : Nat} {w : World} {res : Bool}
theorem TSR.start1 (hl : SlIn w (· < B) ls la lc) (hl' : SlIn w (· < B) ls' la' lc') (hsl : TlIn w (· < B) f a cap) (hsl' : TlIn w (· < B) g a' cap') (hf : f.size ≤ 1000000 ∧ f.lvsz 1000000 ∧ ls.size ≤ 1000000) (hg : g.size ≤ 1000000 ∧ g.lvsz 1000000 ∧ ls'.size ≤ 1000000) (hr : res = decide (Ft.cons k n ls f .nil = Ft.cons k' n' ls' g .nil)) :
    TSR w B res (f.size + 1) (.slice (some ⟨((w.alloc (.cells #[.int .i64 k, .int .i64 n, .slice la ls.len lc, .slice a f.len cap] 25)).alloc (.cells #[.int .i64 k', .int .i64 n', .slice la' ls'.len lc', .slice a' g.len cap'] 25)).heap.size, 0, none⟩) 1 1)
      (.slice (some ⟨(((w.alloc (.cells #[.int .i64 k, .int .i64 n, .slice la ls.len lc, .slice a f.len cap] 25)).alloc (.cells #[.int .i64 k', .int .i64 n', .slice la' ls'.len lc', .slice a' g.len cap'] 25)).alloc (.cells #[.int .i64 k, .int .i64 n, .slice la ls.len lc, .slice a f.len cap] 25)).heap.size, 0, none⟩) 1 1)
      ((((w.alloc (.cells #[.int .i64 k, .int .i64 n, .slice la ls.len lc, .slice a f.len cap] 25)).alloc (.cells #[.int .i64 k', .int .i64 n', .slice la' ls'.len lc', .slice a' g.len cap'] 25)).alloc (.cells #[.int .i64 k, .int .i64 n, .slice la ls.len lc, .slice a f.len cap] 25)).alloc (.cells #[.int .i64 k', .int .i64 n', .slice la' ls'.len lc', .slice a' g.len cap'] 25)).drew := by
  refine ⟨.cons k n ls f .nil, .cons k' n' ls' g .nil, _, 1, _, 1, rfl, rfl, by simp [Ft.size], rfl, by simp, ⟨by simp [Ft.size]; omega, hf.2.2, hf.2.1, trivial⟩, ⟨by simp [Ft.size]; omega, hg.2.2, hg.2.1, trivial⟩, ?_, ?_, hr, ?_⟩
  · exact ((TOwn.lit hl hsl (by simp; omega)).alloc _).drew
  · exact (TOwn.lit hl' hsl' (by simp; omega)).drew
  · exact (((((Below.refl _ _).alloc (Nat.le_refl _) _).alloc (by simp) _).alloc (by simp; omega) _).alloc (by simp; omega) _).drew
theorem TSR.start2 (hl : SlIn w (· < B) ls la lc) (hl' : SlIn w (· < B) ls' la' lc') (hsl : TlIn w (· < B) f a cap) (hsl' : TlIn w (· < B) g a' cap') (hf : f.size ≤ 1000000 ∧ f.lvsz 1000000 ∧ ls.size ≤ 1000000) (hg : g.size ≤ 1000000 ∧ g.lvsz 1000000 ∧ ls'.size ≤ 1000000) (hr : res = decide (Ft.cons k n ls f .nil = Ft.cons k' n' ls' g .nil)) :
    TSR w B res (f.size + 1) (.slice (some ⟨(((w.alloc (.cells #[.int .i64 k, .int .i64 n, .slice la ls.len lc, .slice a f.len cap] 25)).alloc (.cells #[.int .i64 k', .int .i64 n', .slice la' ls'.len lc', .slice a' g.len cap'] 25)).alloc (.cells #[.int .i64 k', .int .i64 n', .slice la' ls'.len lc', .slice a' g.len cap'] 25)).heap.size, 0, none⟩) 1 1)
      (.slice (some ⟨((w.alloc (.cells #[.int .i64 k, .int .i64 n, .slice la ls.len lc, .slice a f.len cap] 25)).alloc (.cells #[.int .i64 k', .int .i64 n', .slice la' ls'.len lc', .slice a' g.len cap'] 25)).heap.size, 0, none⟩) 1 1)
      ((((w.alloc (.cells #[.int .i64 k, .int .i64 n, .slice la ls.len lc, .slice a f.len cap] 25)).alloc (.cells #[.int .i64 k', .int .i64 n', .slice la' ls'.len lc', .slice a' g.len cap'] 25)).alloc (.cells #[.int .i64 k', .int .i64 n', .slice la' ls'.len lc', .slice a' g.len cap'] 25)).alloc (.cells #[.int .i64 k, .int .i64 n, .slice la ls.len lc, .slice a f.len cap] 25)).drew := by
  refine ⟨.cons k n ls f .nil, .cons k' n' ls' g .nil, _, 1, _, 1, rfl, rfl, by simp [Ft.size], rfl, by simp, ⟨by simp [Ft.size]; omega, hf.2.2, hf.2.1, trivial⟩, ⟨by simp [Ft.size]; omega, hg.2.2, hg.2.1, trivial⟩, ?_, ?_, hr, ?_⟩
  · exact (TOwn.lit hl hsl (by simp; omega)).drew
  · exact ((TOwn.lit hl' hsl' (by simp; omega)).alloc _).drew
  · exact (((((Below.refl _ _).alloc (Nat.le_refl _) _).alloc (by simp) _).alloc (by simp; omega) _).alloc (by simp; omega) _).drew
end

set_option maxRecDepth 100000 in
set_option maxHeartbeats 4000000 in
theorem tSame_any (f g : Ft) (k n k' n' : Int) (ls ls' : Fo) (la la' a a' : Option Addr) (lc lc' cap cap' B : Nat) (w : World) (hl : SlIn w (· < B) ls la lc) (hl' : SlIn w (· < B) ls' la' lc') (hsl : TlIn w (· < B) f a cap) (hsl' : TlIn w (· < B) g a' cap') (hB : B ≤ w.heap.size)
    (hf : f.size ≤ 1000000 ∧ f.lvsz 1000000 ∧ ls.size ≤ 1000000) (hg : g.size ≤ 1000000 ∧ g.lvsz 1000000 ∧ ls'.size ≤ 1000000) :
    Calls Try.prog 16 #[.agg #[.int .i64 k, .int .i64 n, .slice la ls.len lc, .slice a f.len cap], .agg #[.int .i64 k', .int .i64 n', .slice la' ls'.len lc', .slice a' g.len cap']] w fun e w' => e = .returned (.bool (decide (Ft.cons k n ls f .nil = Ft.cons k' n' ls' g .nil))) ∧ Below w.heap.size w w' := by
  generalize hres : decide (Ft.cons k n ls f .nil = Ft.cons k' n' ls' g .nil) = res
  have HRES : Hid (res = decide (Ft.cons k n ls f .nil = Ft.cons k' n' ls' g .nil)) := Lib.hid hres.symm
  have HF := Lib.hid hf
  have HG := Lib.hid hg
  clear hres hf hg
  go_enter Try.func16, Try.ntmps16
  go_upto_region 1 with fail
  go_cut [5, 6] (fun s5 s6 wx => TSR w B res (f.size + 1) s5 s6 wx)
  case first =>
    go_region
    all_goals go_wp2_with fail
    all_goals go_meet
    · have h := TSR.start1 (k := k) (n := n) (k' := k') (n' := n') hl hl' hsl hsl' HF.out HG.out HRES.out
      simpa using h
    · have h := TSR.start2 (k := k) (n := n) (k' := k') (n' := n') hl hl' hsl hsl' HF.out HG.out HRES.out
      simpa using h
  case rest =>
    go_wp2_with fail
    go_loopg [5, 6] (f.size + 1) (fun N v5 v6 wr => TSR w B res N v5 v6 wr)
    case atStart => exact hcut
    case round =>
      rcases hrel.split with ⟨hres, hb, ga, ca, gb, cb, rfl, rfl⟩ | ⟨L, ga, ca, gb, cb, k1, n1, l1, u1, v1, ks, a1, c1, k2, n2, l2, u2, v2, ks', a2, c2, rfl, rfl, hL, hca, hcb, hca', hcb', hkl, hkl', hga, hgb, ⟨x0, x1, x2, x3⟩, ⟨y0, y1, y2, y3⟩, hS⟩
      · have HR := Lib.hid hres
        clear hrel hres
        go_wp2_with fail
        go_ret
        exact ⟨by rw [HR.out]; rfl, hb⟩
      · clear hrel
        have HS := Lib.hid hS
        clear hS
        go_upto_region 4 with fail
        go_cut [8, 9] (fun s8 s9 wx => ∃ X Y : Nat, s8 = .pointer (some ⟨X, 0, none⟩) ∧ s9 = .pointer (some ⟨Y, 0, none⟩) ∧ Hid (wx.heap[X]? = some (.cells #[.int .i64 k1, .int .i64 n1, .slice u1 l1.len v1, .slice a1 ks.len c1] 25 (0, 0))) ∧ Hid (wx.heap[Y]? = some (.cells #[.int .i64 k2, .int .i64 n2, .slice u2 l2.len v2, .slice a2 ks'.len c2] 25 (0, 0))) ∧ wr.heap.size ≤ X ∧ wr.heap.size ≤ Y ∧ Below wr.heap.size wr wx)
        case first =>
          go_region
          all_goals go_wp2_with fail
          all_goals go_meet
          · refine ⟨wr.heap.size, wr.heap.size + 1, rfl, rfl, Lib.hid ?_, Lib.hid ?_, Nat.le_refl _, Nat.le_succ _, (((Below.refl _ _).alloc (Nat.le_refl _) _).alloc (by simp) _).drew⟩
            · exact (heap_old _ _ (by simp)).trans (heap_new _ _)
            · exact heap_second _ _ _
          · refine ⟨wr.heap.size + 1, wr.heap.size, rfl, rfl, Lib.hid ?_, Lib.hid ?_, Nat.le_succ _, Nat.le_refl _, (((Below.refl _ _).alloc (Nat.le_refl _) _).alloc (by simp) _).drew⟩
            · exact heap_second _ _ _
            · exact (heap_old _ _ (by simp)).trans (heap_new _ _)
        case rest =>
          clear x0 x1 x2 x3 y0 y1 y2 y3
          obtain ⟨X, Y, rfl, rfl, hX, hY, hX', hY', hbx⟩ := hcut
          obtain ⟨x0, x1, x2, x3⟩ := cells4 hX.out
          obtain ⟨y0, y1, y2, y3⟩ := cells4 hY.out
          have hXlt := lt_of_block hX.out
          have hYlt := lt_of_block hY.out
          obtain ⟨t1, t2, t3, t4, t5⟩ := HS.out.lev hB hbx
          have HAL := Lib.hid (talike_any l1 l2 k1 n1 k2 n2 u1 u2 a1 a2 v1 v2 ks.len ks'.len c1 c2 B wc t1 t2 t3 t4 t5)
          have HNO := Lib.hid (TSS.no HS.out)
          clear t1 t2 t3 t4 t5
          have HBX := Lib.hid hbx
          have HFIRST : Hid (∀ W, Below wr.heap.size wr W → ∀ ty, _) := Lib.hid (fun W h ty => TSS.first (W := W) HS.out hB h ty)
          have HBEL := Lib.hid HS.out.below
          have hpos := Lib.hid HS.out.pos
          generalize hv : decide (k1 = k2 ∧ n1 = n2 ∧ ks.len = ks'.len ∧ l1 = l2) = v at HAL HNO HFIRST
          have HV : Hid (v = true → ks.len = ks'.len) := Lib.hid (fun h => by rw [h] at hv; exact (of_decide_eq_true hv).2.2.1)
          clear hv hbx HS
          go_wp2_with fail
          refine HAL.out.mono ?_
          rintro e w4 ⟨rfl, hb4⟩
          have hbx4 : Below wr.heap.size wr w4 := HBX.out.trans (hb4.mono HBX.out.size)
          have hEnd := Lib.hid (HBEL.out.trans (hbx4.mono HBEL.out.size))
          cases v with
          | false =>
            have HR := Lib.hid (HNO.out rfl)
            clear hb4 HAL HNO HFIRST HV
            go_wp2_with fail
            go_ret
            exact ⟨by rw [HR.out]; rfl, hEnd.out⟩
          | true =>
            have h3 := HV.out rfl
            have x3' := (bcell hb4 X 3 hXlt).trans x3
            have y3' := (bcell hb4 Y 3 hYlt).trans y3
            have hX4 : X < w4.heap.size := Nat.lt_of_lt_of_le hXlt hb4.size
            have hY4 : Y < w4.heap.size := Nat.lt_of_lt_of_le hYlt hb4.size
            obtain ⟨ga', ca', wA, hrA, hgA, hnext⟩ := HFIRST.out w4.drew hbx4.drew 23
            have HN := Lib.hid hnext
            have hYga : Y ≠ ga := by omega
            have hXga : X ≠ ga := by omega
            have hYgb : Y ≠ gb := by omega
            have yA : wA.cell? ⟨Y, 3, none⟩ = some (.slice a2 ks'.len c2) := (World.cell?_of_block (w := w4.drew) (a := ⟨Y, 3, none⟩) (Only.block hgA hY4 hYga)).trans y3'
            have xA : wA.cell? ⟨X, 3, none⟩ = some (.slice a1 ks.len c1) := (World.cell?_of_block (w := w4.drew) (a := ⟨X, 3, none⟩) (Only.block hgA hX4 hXga)).trans x3'
            have hYA : Y < wA.heap.size := Nat.lt_of_lt_of_le hY4 hgA.size
            obtain ⟨gb', cb', wB, hrB, hgB, hfin⟩ := HN.out wA.drew (Below.refl _ _).drew 23
            have yB : wB.cell? ⟨Y, 3, none⟩ = some (.slice a2 ks'.len c2) := (World.cell?_of_block (w := wA.drew) (a := ⟨Y, 3, none⟩) (Only.block hgB hYA hYgb)).trans yA
            have HF2 := Lib.hid (hfin rfl)
            have HA := Lib.hid hrA
            have HB2 := Lib.hid hrB
            have b1 : (L : Int) ≤ (ca : Int) := by omega
            have b2 : (L : Int) ≤ (cb : Int) := by omega
            clear h3 hnext hfin hgA hgB hrA hrB HN x0 x1 x2 x3 y0 y1 y2 y3 hb4 HAL HNO HFIRST HV hX hY hbx4
            go_wp2_with fail
            go_region_held3 (fun w' => w'.cell? ⟨X, 3, none⟩ = some (.slice a1 ks.len c1)) (first | exact x3' | exact xA)
              ((refine step_append (by rfl) _ _ _ (by rfl) (by rfl) (by rfl) HA.out ?_))
            go_wp2_with fail
            go_region_held3 (fun w' => w'.cell? ⟨Y, 3, none⟩ = some (.slice a2 ks'.len c2)) (first | exact yA | exact yB)
              ((refine step_append (by rfl) _ _ _ (by rfl) (by rfl) (by rfl) HB2.out ?_))
            go_wp2_with fail
            go_roundg (gk - 1)
            case rel => exact HF2.out
            case measure => have := hpos.out; omega
end Go.Proofs.Ytokckghedpdfiaa
