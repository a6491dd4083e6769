/- The contract of Same: whether two levels are the same. -/
import Derived.Test.YtokckghedpdfiaaStack
import Derived.Test.YtokckghedpdfiaaStep
import Derived.RegionTactic
import Derived.BigRegion
import Derived.ChangeAlike
import Derived.Deep.LoopGhost
import Derived.Deep.DeepCutAuto
import Derived.Deep.RegionHeld3
namespace Go.Proofs.Ytokckghedpdfiaa
open Go.RowKit

/-- What the loop keeps: two stacks of the call's own, in two rows, that are the same just if the answer is yes. -/
def SameR (w : World) (B : Nat) (res : Bool) (N : Nat) (s5 s6 : Value) (wr : World) : Prop :=
  ∃ (F G : Fo) (ga ca gb cb : Nat), s5 = .slice (some ⟨ga, 0, none⟩) F.len ca ∧ s6 = .slice (some ⟨gb, 0, none⟩) G.len cb ∧ F.size = N ∧ F.len = G.len ∧ ga ≠ gb ∧ F.size ≤ 1000001 ∧ G.size ≤ 1000001 ∧
    Own w B wr w.heap.size ga ca F ∧ Own w B wr w.heap.size gb cb G ∧ res = decide (F = G) ∧ Below w.heap.size w wr
/-- The same, where there is a last level: it is k1, n1, ks on the one, k2, n2, ks' on the other. -/
def SameS (w : World) (B : Nat) (res : Bool) (N L ga ca gb cb : Nat) (k1 n1 : Int) (ks : Fo) (a1 : Option Addr) (c1 : Nat) (k2 n2 : Int) (ks' : Fo) (a2 : Option Addr) (c2 : Nat) (wr : World) : Prop :=
  ∃ i j : Fo, i.len = L ∧ j.len = L ∧ i.size + ks.size + 1 = N ∧ ga ≠ gb ∧ i.size + ks.size ≤ 1000000 ∧ j.size + ks'.size ≤ 1000000 ∧ Own w B wr w.heap.size ga ca i ∧ Own w B wr w.heap.size gb cb j ∧ SlIn w (· < B) ks a1 c1 ∧ SlIn w (· < B) ks' a2 c2 ∧
    res = decide (i.app (.cons k1 n1 ks .nil) = j.app (.cons k2 n2 ks' .nil)) ∧ Below w.heap.size w wr
theorem own_cap {w0 w : World} {B base g cap : Nat} {f : Fo} (h : Own w0 B w base g cap f) : f.len ≤ cap ∧ cap ≤ 9223372036854775807 := by
  obtain ⟨xs, ho, _⟩ := h
  rcases ho.2 with ⟨he, _⟩ | ⟨g', c', cur, hv, hb, hh, hle, hm, _⟩
  · cases he
  · injection hv with _ _ hv3
    subst hv3
    unfold maxLen at hm
    exact ⟨hle, by omega⟩
theorem SameR.split {w : World} {B : Nat} {res : Bool} {N : Nat} {s5 s6 : Value} {wr : World} (h : SameR w B res N s5 s6 wr) :
    (res = true ∧ Below w.heap.size w wr ∧ ∃ ga ca gb cb, s5 = .slice (some ⟨ga, 0, none⟩) 0 ca ∧ s6 = .slice (some ⟨gb, 0, none⟩) 0 cb) ∨
    ∃ (L ga ca gb cb : Nat) (k1 n1 : Int) (ks : Fo) (a1 : Option Addr) (c1 : Nat) (k2 n2 : Int) (ks' : Fo) (a2 : Option Addr) (c2 : Nat), s5 = .slice (some ⟨ga, 0, none⟩) (L + 1) ca ∧ s6 = .slice (some ⟨gb, 0, none⟩) (L + 1) cb ∧
      L ≤ 1000000 ∧ L + 1 ≤ ca ∧ L + 1 ≤ cb ∧ ca ≤ 9223372036854775807 ∧ cb ≤ 9223372036854775807 ∧ ks.len ≤ 1000000 ∧ ks'.len ≤ 1000000 ∧ ga < wr.heap.size ∧ gb < wr.heap.size ∧
      wr.cell? ⟨ga, L * 3, none⟩ = some (.int .i64 k1) ∧ wr.cell? ⟨ga, L * 3 + 1, none⟩ = some (.int .i64 n1) ∧ wr.cell? ⟨ga, L * 3 + 2, none⟩ = some (.slice a1 ks.len c1) ∧
      wr.cell? ⟨gb, L * 3, none⟩ = some (.int .i64 k2) ∧ wr.cell? ⟨gb, L * 3 + 1, none⟩ = some (.int .i64 n2) ∧ wr.cell? ⟨gb, L * 3 + 2, none⟩ = some (.slice a2 ks'.len c2) ∧
      SameS w B res N L ga ca gb cb k1 n1 ks a1 c1 k2 n2 ks' a2 c2 wr := by
  obtain ⟨F, G, ga, ca, gb, cb, rfl, rfl, hN, hl, hne, h1, h2, o1, o2, hr, hb⟩ := h
  rcases Nat.eq_zero_or_pos F.len with h0 | h0
  · have e1 := Fo.len_zero h0
    have e2 := Fo.len_zero (f := G) (by omega)
    subst e1 e2
    exact .inl ⟨hr, hb, ga, ca, gb, cb, rfl, rfl⟩
  · obtain ⟨i, k1, n1, ks, rfl⟩ := Fo.snoc h0
    obtain ⟨j, k2, n2, ks', rfl⟩ := Fo.snoc (f := G) (by omega)
    obtain ⟨a1, c1, x0, x1, x2, hs1⟩ := o1.last
    obtain ⟨a2, c2, y0, y1, y2, hs2⟩ := o2.last
    have hi : (i.app (.cons k1 n1 ks .nil)).len = i.len + 1 := by rw [Fo.app_len]; rfl
    have hj : (j.app (.cons k2 n2 ks' .nil)).len = j.len + 1 := by rw [Fo.app_len]; rfl
    have hij : j.len = i.len := by omega
    have z1 : (i.app (.cons k1 n1 ks .nil)).size = i.size + ks.size + 1 := by rw [Fo.app_size]; simp [Fo.size]; omega
    have z2 : (j.app (.cons k2 n2 ks' .nil)).size = j.size + ks'.size + 1 := by rw [Fo.app_size]; simp [Fo.size]; omega
    have q1 := own_cap o1
    have q2 := own_cap o2
    have l1 := Fo.len_le_size i
    have l2 := Fo.len_le_size ks
    have l3 := Fo.len_le_size ks'
    refine .inr ⟨i.len, ga, ca, gb, cb, k1, n1, ks, a1, c1, k2, n2, ks', a2, c2, by rw [hi], by rw [hj, hij], by omega, by omega, by omega, q1.2, q2.2, by omega, by omega, o1.lt.2, o2.lt.2, x0, x1, x2, by rw [← hij]; exact y0, by rw [← hij]; exact y1, by rw [← hij]; exact y2, ?_⟩
    exact ⟨i, j, rfl, hij, by omega, hne, by omega, by omega, o1.cut, o2.cut, hs1, hs2, hr, hb⟩
theorem SameS.no {w : World} {B : Nat} {res : Bool} {N L ga ca gb cb : Nat} {k1 n1 : Int} {ks : Fo} {a1 : Option Addr} {c1 : Nat} {k2 n2 : Int} {ks' : Fo} {a2 : Option Addr} {c2 : Nat} {wr : World} (h : SameS w B res N L ga ca gb cb k1 n1 ks a1 c1 k2 n2 ks' a2 c2 wr)
    (hne : k1 ≠ k2 ∨ n1 ≠ n2 ∨ ks.len ≠ ks'.len) : res = false := by
  obtain ⟨i, j, e1, e2, _, _, _, _, _, _, _, _, hr, _⟩ := h
  rw [hr]
  apply decide_eq_false
  rw [Fo.app_eq (by omega)]
  rintro ⟨_, h⟩
  injection h with h1 h2 h3 _
  subst h1 h2 h3
  simp at hne
theorem Own.below {w0 w w' : World} {B base g cap : Nat} {f : Fo} (h : Own w0 B w base g cap f) (hb : Below w.heap.size w w') : Own w0 B w' base g cap f :=
  h.kept (row := none) ⟨hb.os, hb.tape, hb.output, hb.size, fun i hi _ => hb.block i hi⟩ (by simp)
/-- The first append, in a world that is only more. -/
theorem SameS.first {w : World} {B : Nat} {res : Bool} {N L ga ca gb cb : Nat} {k1 n1 : Int} {ks : Fo} {a1 : Option Addr} {c1 : Nat} {k2 n2 : Int} {ks' : Fo} {a2 : Option Addr} {c2 : Nat} {wr W : World} (h : SameS w B res N L ga ca gb cb k1 n1 ks a1 c1 k2 n2 ks' a2 c2 wr)
    (hB : B ≤ w.heap.size) (hk : Below wr.heap.size wr W) (ty : TypeId) :
    ∃ ga' ca' wA, (Builtin.append_ #[22, 22] ty #[.slice (some ⟨ga, 0, none⟩) L ca, .slice a1 ks.len c1]).run Try.prog W = .ok (.slice (some ⟨ga', 0, none⟩) (L + ks.len) ca') wA ∧ W.grownBy wA (some ga) ∧
      (∀ wA', Below wA.heap.size wA wA' → ∀ ty, ∃ gb' cb' wB, (Builtin.append_ #[22, 22] ty #[.slice (some ⟨gb, 0, none⟩) L cb, .slice a2 ks'.len c2]).run Try.prog wA' = .ok (.slice (some ⟨gb', 0, none⟩) (L + ks'.len) cb') wB ∧ wA'.grownBy wB (some gb) ∧
        (k1 = k2 → n1 = n2 → ks.len = ks'.len → SameR w B res (N - 1) (.slice (some ⟨ga', 0, none⟩) (L + ks.len) ca') (.slice (some ⟨gb', 0, none⟩) (L + ks'.len) cb') wB)) := by
  obtain ⟨i, j, e1, e2, hN, hne, hz1, hz2, o1, o2, hs1, hs2, hr, hb⟩ := h
  have l1 := Fo.len_le_size i
  have l2 := Fo.len_le_size ks
  have l3 := Fo.len_le_size j
  have l4 := Fo.len_le_size ks'
  have b1 := o1.lt
  have b2 := o2.lt
  have hbW : Below w.heap.size w W := hb.trans (hk.mono hb.size)
  have o1W := o1.below hk
  have o2W := o2.below hk
  obtain ⟨ga', ca', wA, r1, r2, r3, r4⟩ := o1W.append (hbW.mono hB) ty hs1 (by omega) hbW.size
  rw [e1] at r1
  have t2 := r2.lt
  have o2A := o2W.kept r3 (by intro e; injection e with e; exact hne e)
  have hbA : Below w.heap.size w wA := hbW.trans ⟨r3.os, r3.tape, r3.output, r3.size, fun q hq => Only.block r3 (Nat.lt_of_lt_of_le hq hbW.size) (by omega)⟩
  have hsz := r3.size
  refine ⟨ga', ca', wA, r1, r3, fun wA' hk' ty' => ?_⟩
  have hbA' : Below w.heap.size w wA' := hbA.trans (hk'.mono hbA.size)
  obtain ⟨gb', cb', wB, q1, q2, q3, q4⟩ := (o2A.below hk').append (hbA'.mono hB) ty' hs2 (by omega) hbA'.size
  rw [e2] at q1
  have hsz' := hk'.size
  have hsk := hk.size
  have hgag : ga' ≠ gb := by
    rcases r4 with rfl | rfl
    · exact hne
    · omega
  refine ⟨gb', cb', wB, q1, q3, fun hk1 hn1 hlen => ?_⟩
  have o1B := (r2.below hk').kept q3 (by intro e; injection e with e; exact hgag e.symm)
  refine ⟨i.app ks, j.app ks', ga', ca', gb', cb', by rw [Fo.app_len, e1], by rw [Fo.app_len, e2], by rw [Fo.app_size]; omega, by rw [Fo.app_len, Fo.app_len]; omega, ?_, by rw [Fo.app_size]; omega, by rw [Fo.app_size]; omega, o1B, q2, ?_, ?_⟩
  · rcases q4 with rfl | rfl
    · exact hgag
    · omega
  · rw [hr]
    subst hk1 hn1
    congr 1
    rw [Fo.app_eq (by omega), Fo.app_eq (by omega)]
    simp
  · exact hbA'.trans ⟨q3.os, q3.tape, q3.output, q3.size, fun q hq => Only.block q3 (Nat.lt_of_lt_of_le hq hbA'.size) (by omega)⟩

theorem SameS.below {w : World} {B : Nat} {res : Bool} {N L ga ca gb cb : Nat} {k1 n1 : Int} {ks : Fo} {a1 : Option Addr} {c1 : Nat} {k2 n2 : Int} {ks' : Fo} {a2 : Option Addr} {c2 : Nat} {wr : World} (h : SameS w B res N L ga ca gb cb k1 n1 ks a1 c1 k2 n2 ks' a2 c2 wr) : Below w.heap.size w wr := by
  obtain ⟨i, j, _, _, _, _, _, _, _, _, _, _, _, hb⟩ := h
  exact hb
theorem SameS.pos {w : World} {B : Nat} {res : Bool} {N L ga ca gb cb : Nat} {k1 n1 : Int} {ks : Fo} {a1 : Option Addr} {c1 : Nat} {k2 n2 : Int} {ks' : Fo} {a2 : Option Addr} {c2 : Nat} {wr : World} (h : SameS w B res N L ga ca gb cb k1 n1 ks a1 c1 k2 n2 ks' a2 c2 wr) : 1 ≤ N := by
  obtain ⟨i, j, _, _, hN, _⟩ := h
  omega
section
variable {f g : Fo} {k n k' n' : Int} {a a' : Option Addr} {cap cap' B : Nat} {w : World} {res : Bool}
theorem SameR.start1 (hsl : SlIn w (· < B) f a cap) (hsl' : SlIn w (· < B) g a' cap') (hf : f.size ≤ 1000000) (hg : g.size ≤ 1000000) (hr : res = decide (Fo.cons k n f .nil = Fo.cons k' n' g .nil)) :
    SameR w B res (f.size + 1) (.slice (some ⟨((w.alloc (.cells #[.int .i64 k, .int .i64 n, .slice a f.len cap] 33)).alloc (.cells #[.int .i64 k', .int .i64 n', .slice a' g.len cap'] 33)).heap.size, 0, none⟩) 1 1)
      (.slice (some ⟨(((w.alloc (.cells #[.int .i64 k, .int .i64 n, .slice a f.len cap] 33)).alloc (.cells #[.int .i64 k', .int .i64 n', .slice a' g.len cap'] 33)).alloc (.cells #[.int .i64 k, .int .i64 n, .slice a f.len cap] 33)).heap.size, 0, none⟩) 1 1)
      ((((w.alloc (.cells #[.int .i64 k, .int .i64 n, .slice a f.len cap] 33)).alloc (.cells #[.int .i64 k', .int .i64 n', .slice a' g.len cap'] 33)).alloc (.cells #[.int .i64 k, .int .i64 n, .slice a f.len cap] 33)).alloc (.cells #[.int .i64 k', .int .i64 n', .slice a' g.len cap'] 33)).drew := by
  refine ⟨.cons k n f .nil, .cons k' n' g .nil, _, 1, _, 1, rfl, rfl, by simp [Fo.size], rfl, by simp, by simp [Fo.size]; omega, by simp [Fo.size]; omega, ?_, ?_, hr, ?_⟩
  · exact ((Own.lit hsl (by simp; omega)).alloc _).drew
  · exact (Own.lit hsl' (by simp; omega)).drew
  · exact (((((Below.refl _ _).alloc (Nat.le_refl _) _).alloc (by simp) _).alloc (by simp; omega) _).alloc (by simp; omega) _).drew
theorem SameR.start2 (hsl : SlIn w (· < B) f a cap) (hsl' : SlIn w (· < B) g a' cap') (hf : f.size ≤ 1000000) (hg : g.size ≤ 1000000) (hr : res = decide (Fo.cons k n f .nil = Fo.cons k' n' g .nil)) :
    SameR w B res (f.size + 1) (.slice (some ⟨(((w.alloc (.cells #[.int .i64 k, .int .i64 n, .slice a f.len cap] 33)).alloc (.cells #[.int .i64 k', .int .i64 n', .slice a' g.len cap'] 33)).alloc (.cells #[.int .i64 k', .int .i64 n', .slice a' g.len cap'] 33)).heap.size, 0, none⟩) 1 1)
      (.slice (some ⟨((w.alloc (.cells #[.int .i64 k, .int .i64 n, .slice a f.len cap] 33)).alloc (.cells #[.int .i64 k', .int .i64 n', .slice a' g.len cap'] 33)).heap.size, 0, none⟩) 1 1)
      ((((w.alloc (.cells #[.int .i64 k, .int .i64 n, .slice a f.len cap] 33)).alloc (.cells #[.int .i64 k', .int .i64 n', .slice a' g.len cap'] 33)).alloc (.cells #[.int .i64 k', .int .i64 n', .slice a' g.len cap'] 33)).alloc (.cells #[.int .i64 k, .int .i64 n, .slice a f.len cap] 33)).drew := by
  refine ⟨.cons k n f .nil, .cons k' n' g .nil, _, 1, _, 1, rfl, rfl, by simp [Fo.size], rfl, by simp, by simp [Fo.size]; omega, by simp [Fo.size]; omega, ?_, ?_, hr, ?_⟩
  · exact (Own.lit hsl (by simp; omega)).drew
  · exact ((Own.lit hsl' (by simp; omega)).alloc _).drew
  · exact (((((Below.refl _ _).alloc (Nat.le_refl _) _).alloc (by simp) _).alloc (by simp; omega) _).alloc (by simp; omega) _).drew
end

set_option maxRecDepth 100000 in
set_option maxHeartbeats 4000000 in
theorem Same_any (f g : Fo) (k n k' n' : Int) (a a' : Option Addr) (cap cap' B : Nat) (w : World) (hsl : SlIn w (· < B) f a cap) (hsl' : SlIn w (· < B) g a' cap') (hB : B ≤ w.heap.size) (hf : f.size ≤ 1000000) (hg : g.size ≤ 1000000) :
    Calls Try.prog 53 #[.agg #[.int .i64 k, .int .i64 n, .slice a f.len cap], .agg #[.int .i64 k', .int .i64 n', .slice a' g.len cap']] w fun e w' => e = .returned (.bool (decide (k = k' ∧ n = n' ∧ f = g))) ∧ Below w.heap.size w w' := by
  generalize hres : decide (k = k' ∧ n = n' ∧ f = g) = res
  have HRES : Hid (res = decide (Fo.cons k n f .nil = Fo.cons k' n' g .nil)) := Lib.hid (by rw [← hres]; congr 1; simp)
  clear hres
  go_enter Try.func53, Try.ntmps53
  go_upto_region 1 with fail
  go_cut [5, 6] (fun s5 s6 wx => SameR w B res (f.size + 1) s5 s6 wx)
  case first =>
    go_region
    all_goals go_wp2_with fail
    all_goals go_meet
    · have h := SameR.start1 (k := k) (n := n) (k' := k') (n' := n') hsl hsl' hf hg HRES.out
      simpa using h
    · have h := SameR.start2 (k := k) (n := n) (k' := k') (n' := n') hsl hsl' hf hg HRES.out
      simpa using h
  case rest =>
    go_wp2_with fail
    go_loopg [5, 6] (f.size + 1) (fun N v5 v6 wr => SameR w B res N v5 v6 wr)
    case atStart => exact hcut
    case round =>
      rcases hrel.split with ⟨hres, hb, ga, ca, gb, cb, rfl, rfl⟩ | ⟨L, ga, ca, gb, cb, k1, n1, ks, a1, c1, k2, n2, ks', a2, c2, rfl, rfl, hL, hca, hcb, hca', hcb', hkl, hkl', hga, hgb, x0, x1, x2, y0, y1, y2, hS⟩
      · have HR := Lib.hid hres
        clear hrel hres
        go_wp2_with fail
        go_ret
        exact ⟨by rw [HR.out]; rfl, hb⟩
      · clear hrel
        have HS := Lib.hid hS
        clear hS
        go_upto_region 4 with fail
        go_cut [8, 9] (fun s8 s9 wx => ∃ X Y : Nat, s8 = .pointer (some ⟨X, 0, none⟩) ∧ s9 = .pointer (some ⟨Y, 0, none⟩) ∧ Hid (wx.heap[X]? = some (.cells #[.int .i64 k1, .int .i64 n1, .slice a1 ks.len c1] 33 (0, 0))) ∧ Hid (wx.heap[Y]? = some (.cells #[.int .i64 k2, .int .i64 n2, .slice a2 ks'.len c2] 33 (0, 0))) ∧ wr.heap.size ≤ X ∧ wr.heap.size ≤ Y ∧ Below wr.heap.size wr wx)
        case first =>
          go_region
          all_goals go_wp2_with fail
          all_goals go_meet
          · refine ⟨wr.heap.size, wr.heap.size + 1, rfl, rfl, Lib.hid ?_, Lib.hid ?_, Nat.le_refl _, Nat.le_succ _, (((Below.refl _ _).alloc (Nat.le_refl _) _).alloc (by simp) _).drew⟩
            · exact (heap_old _ _ (by simp)).trans (heap_new _ _)
            · exact heap_second _ _ _
          · refine ⟨wr.heap.size + 1, wr.heap.size, rfl, rfl, Lib.hid ?_, Lib.hid ?_, Nat.le_succ _, Nat.le_refl _, (((Below.refl _ _).alloc (Nat.le_refl _) _).alloc (by simp) _).drew⟩
            · exact heap_second _ _ _
            · exact (heap_old _ _ (by simp)).trans (heap_new _ _)
        case rest =>
          clear x0 x1 x2 y0 y1 y2
          obtain ⟨X, Y, rfl, rfl, hX, hY, hX', hY', hbx⟩ := hcut
          obtain ⟨x0, x1, x2⟩ := cells3 hX.out
          obtain ⟨y0, y1, y2⟩ := cells3 hY.out
          have hYlt := lt_of_block hY.out
          have hEnd := Lib.hid (HS.out.below.trans (hbx.mono HS.out.below.size))
          by_cases h1 : k1 = k2
          · by_cases h2 : n1 = n2
            · by_cases h3 : ks.len = ks'.len
              · obtain ⟨ga', ca', wA, hrA, hgA, hnext⟩ := HS.out.first hB hbx.drew 22
                have HN := Lib.hid hnext
                have hYga : Y ≠ ga := by omega
                have yA : wA.cell? ⟨Y, 2, none⟩ = some (.slice a2 ks'.len c2) := (World.cell?_of_block (w := wc.drew) (a := ⟨Y, 2, none⟩) (Only.block hgA hYlt hYga)).trans y2
                have hXlt := lt_of_block hX.out
                have hXga : X ≠ ga := by omega
                have xA : wA.cell? ⟨X, 2, none⟩ = some (.slice a1 ks.len c1) := (World.cell?_of_block (w := wc.drew) (a := ⟨X, 2, none⟩) (Only.block hgA hXlt hXga)).trans x2
                have hYA : Y < wA.heap.size := Nat.lt_of_lt_of_le hYlt hgA.size
                have hYgb : Y ≠ gb := by omega
                obtain ⟨gb', cb', wB, hrB, hgB, hfin⟩ := HN.out wA.drew (Below.refl _ _).drew 22
                have yB : wB.cell? ⟨Y, 2, none⟩ = some (.slice a2 ks'.len c2) := (World.cell?_of_block (w := wA.drew) (a := ⟨Y, 2, none⟩) (Only.block hgB hYA hYgb)).trans yA
                have HF := Lib.hid (hfin h1 h2 h3)
                have HA := Lib.hid hrA
                have HB := Lib.hid hrB
                have hpos := Lib.hid HS.out.pos
                have H3 := Lib.hid h3
                subst h1 h2
                have d3 : ((ks.len : Int) != (ks'.len : Int)) = false := by rw [h3]; simp
                clear h3 hnext hfin hgA hgB hrA hrB
                have b1 : (L : Int) ≤ (ca : Int) := by omega
                have b2 : (L : Int) ≤ (cb : Int) := by omega
                go_wp2_with fail
                go_region_held3 (fun w' => w'.cell? ⟨X, 2, none⟩ = some (.slice a1 ks.len c1)) (first | exact x2 | exact xA)
                  ((refine step_append (by rfl) _ _ _ (by rfl) (by rfl) (by rfl) HA.out ?_))
                go_wp2_with fail
                go_region_held3 (fun w' => w'.cell? ⟨Y, 2, none⟩ = some (.slice a2 ks'.len c2)) (first | exact yA | exact yB)
                  ((refine step_append (by rfl) _ _ _ (by rfl) (by rfl) (by rfl) HB.out ?_))
                go_wp2_with fail
                go_roundg (gk - 1)
                case rel => exact HF.out
                case measure => have := hpos.out; omega
              · have d3 : ((ks.len : Int) != (ks'.len : Int)) = true := by rw [bne_iff_ne]; omega
                have HR := Lib.hid (HS.out.no (.inr (.inr h3)))
                subst h1 h2
                clear h3
                go_wp2_with fail
                go_ret
                exact ⟨by rw [HR.out]; rfl, hEnd.out⟩
            · have d2 : (n1 != n2) = true := by rw [bne_iff_ne]; exact h2
              have HR := Lib.hid (HS.out.no (.inr (.inl h2)))
              subst h1
              clear h2
              go_wp2_with fail
              go_ret
              exact ⟨by rw [HR.out]; rfl, hEnd.out⟩
          · have d1 : (k1 != k2) = true := by rw [bne_iff_ne]; exact h1
            have HR := Lib.hid (HS.out.no (.inl h1))
            clear h1
            go_wp2_with fail
            go_ret
            exact ⟨by rw [HR.out]; rfl, hEnd.out⟩
end Go.Proofs.Ytokckghedpdfiaa
