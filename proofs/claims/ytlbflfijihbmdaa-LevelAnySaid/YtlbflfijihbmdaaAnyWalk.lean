/- For every two levels, lists of values and number the law LevelAny returns true: what the program tells of them is what the document's own answer tells. No condition. -/
import Derived.Test.YtlbflfijihbmdaaFew
import Derived.Test.YtlbflfijihbmdaaDeep2
namespace Go.Proofs.Ytlbflfijihbmdaa.levelAny
open Go.ChangeShapes Go.WideShapes Go.ChangeAt Go.RowKit

theorem few_size : ∀ (f : Fo) (m : Int), 0 < fewF f m → fewF f m = m - f.size
  | .nil, m, _ => by simp [fewF, Fo.size]
  | .cons _ _ ks r, m, h => by
    unfold fewF at h ⊢
    split at h
    · rename_i hm
      rw [if_pos hm]
      have hk : 0 < fewF ks (m - 1) := by have := fewF_le r (fewF ks (m - 1)); omega
      rw [few_size r _ h, few_size ks _ hk]
      simp [Fo.size]; omega
    · omega

/-- What both makers of numerals answer of any number. -/
def nK (N : Int) : Int := if 0 ≤ N ∧ N < 12 then numK N.toNat else 0
def nF (N : Int) : Fo := if 0 ≤ N ∧ N < 12 then numF N.toNat else .nil
def nE (N : Int) : Int := if 0 ≤ N ∧ N < 12 then 0 else 1
def NumAns (w : World) (N : Int) (e : Ending) (w' : World) : Prop :=
  ∃ (a : Option Addr) (cap : Nat), e = .returned (.tuple #[.agg #[.int .i64 (nK N), .int .i64 0, .slice a (nF N).len cap], .int .i64 (nE N)]) ∧ SlIn w' (· < w'.heap.size) (nF N) a cap ∧ Below w.heap.size w w'
theorem ans_of {w : World} {N : Int} {e : Ending} {w' : World} (h0 : 0 ≤ N) (h1 : N < 12) (h : NumOk w N.toNat e w') : NumAns w N e w' := by
  obtain ⟨a, cap, he, hs, hb⟩ := h
  unfold NumAns nK nF nE
  rw [if_pos ⟨h0, h1⟩, if_pos ⟨h0, h1⟩, if_pos ⟨h0, h1⟩]
  exact ⟨a, cap, he, hs, hb⟩
theorem ans_no {w : World} {N : Int} {e : Ending} {w' : World} (hn : ¬ (0 ≤ N ∧ N < 12)) (h : NumNo w e w') : NumAns w N e w' := by
  obtain ⟨he, hb⟩ := h
  unfold NumAns nK nF nE
  rw [if_neg hn, if_neg hn, if_neg hn]
  exact ⟨none, 0, he, SlIn.none _ _, hb⟩
theorem num_ans (w : World) (N : Int) : Calls Try.prog 9 #[.int .i64 N] w (NumAns w N) := by
  by_cases h : 0 ≤ N ∧ N < 12
  · have := num_any w N.toNat (by omega)
    rw [show ((N.toNat : Nat) : Int) = N by omega] at this
    exact this.mono fun _ _ hh => ans_of h.1 h.2 hh
  · exact (num_no w N (by omega)).mono fun _ _ hh => ans_no h hh
theorem rnum_ans (w : World) (N : Int) : Calls Try.prog 10 #[.int .i64 N] w (NumAns w N) := by
  by_cases h : 0 ≤ N ∧ N < 12
  · have := rnum_any w N.toNat (by omega)
    rw [show ((N.toNat : Nat) : Int) = N by omega] at this
    exact this.mono fun _ _ hh => ans_of h.1 h.2 hh
  · exact (rnum_no w N (by omega)).mono fun _ _ hh => ans_no h hh

/-- Three cells of a block, and three of another one, in a world that is only more. -/
theorem held6 {wr w' : World} {x y l l' cap cap' : Nat} {k n k' n' : Int} {a a' : Option Addr} (hb : Below wr.heap.size wr w') (hx : x < wr.heap.size) (hy : y < wr.heap.size)
    (c : wr.cell? ⟨x, 0, none⟩ = some (.int .i64 k) ∧ wr.cell? ⟨x, 1, none⟩ = some (.int .i64 n) ∧ wr.cell? ⟨x, 2, none⟩ = some (.slice a l cap) ∧ wr.cell? ⟨y, 0, none⟩ = some (.int .i64 k') ∧ wr.cell? ⟨y, 1, none⟩ = some (.int .i64 n') ∧ wr.cell? ⟨y, 2, none⟩ = some (.slice a' l' cap')) :
    w'.cell? ⟨x, 0, none⟩ = some (.int .i64 k) ∧ w'.cell? ⟨x, 1, none⟩ = some (.int .i64 n) ∧ w'.cell? ⟨x, 2, none⟩ = some (.slice a l cap) ∧ w'.cell? ⟨y, 0, none⟩ = some (.int .i64 k') ∧ w'.cell? ⟨y, 1, none⟩ = some (.int .i64 n') ∧ w'.cell? ⟨y, 2, none⟩ = some (.slice a' l' cap') :=
  ⟨(bcell hb _ _ hx).trans c.1, (bcell hb _ _ hx).trans c.2.1, (bcell hb _ _ hx).trans c.2.2.1, (bcell hb _ _ hy).trans c.2.2.2.1, (bcell hb _ _ hy).trans c.2.2.2.2.1, (bcell hb _ _ hy).trans c.2.2.2.2.2⟩

theorem held12 {W w' : World} {b0 b1 b2 b3 l0 l1 l2 l3 c0 c1 c2 c3 : Nat} {k0 n0 k1 n1 k2 n2 k3 n3 : Int} {a0 a1 a2 a3 : Option Addr} (hb : Below W.heap.size W w') (h0 : b0 < W.heap.size) (h1 : b1 < W.heap.size) (h2 : b2 < W.heap.size) (h3 : b3 < W.heap.size)
    (h : W.cell? ⟨b0, 0, none⟩ = some (.int .i64 k0) ∧ W.cell? ⟨b0, 1, none⟩ = some (.int .i64 n0) ∧ W.cell? ⟨b0, 2, none⟩ = some (.slice a0 l0 c0) ∧ W.cell? ⟨b1, 0, none⟩ = some (.int .i64 k1) ∧ W.cell? ⟨b1, 1, none⟩ = some (.int .i64 n1) ∧ W.cell? ⟨b1, 2, none⟩ = some (.slice a1 l1 c1) ∧ W.cell? ⟨b2, 0, none⟩ = some (.int .i64 k2) ∧ W.cell? ⟨b2, 1, none⟩ = some (.int .i64 n2) ∧ W.cell? ⟨b2, 2, none⟩ = some (.slice a2 l2 c2) ∧ W.cell? ⟨b3, 0, none⟩ = some (.int .i64 k3) ∧ W.cell? ⟨b3, 1, none⟩ = some (.int .i64 n3) ∧ W.cell? ⟨b3, 2, none⟩ = some (.slice a3 l3 c3)) : Hid (Below W.heap.size W w') ∧ w'.cell? ⟨b0, 0, none⟩ = some (.int .i64 k0) ∧ w'.cell? ⟨b0, 1, none⟩ = some (.int .i64 n0) ∧ w'.cell? ⟨b0, 2, none⟩ = some (.slice a0 l0 c0) ∧ w'.cell? ⟨b1, 0, none⟩ = some (.int .i64 k1) ∧ w'.cell? ⟨b1, 1, none⟩ = some (.int .i64 n1) ∧ w'.cell? ⟨b1, 2, none⟩ = some (.slice a1 l1 c1) ∧ w'.cell? ⟨b2, 0, none⟩ = some (.int .i64 k2) ∧ w'.cell? ⟨b2, 1, none⟩ = some (.int .i64 n2) ∧ w'.cell? ⟨b2, 2, none⟩ = some (.slice a2 l2 c2) ∧ w'.cell? ⟨b3, 0, none⟩ = some (.int .i64 k3) ∧ w'.cell? ⟨b3, 1, none⟩ = some (.int .i64 n3) ∧ w'.cell? ⟨b3, 2, none⟩ = some (.slice a3 l3 c3) := by
  obtain ⟨x0, x1, x2, y0, y1, y2, z0, z1, z2, u0, u1, u2⟩ := h
  exact ⟨Lib.hid hb, (bcell hb _ _ h0).trans x0, (bcell hb _ _ h0).trans x1, (bcell hb _ _ h0).trans x2, (bcell hb _ _ h1).trans y0, (bcell hb _ _ h1).trans y1, (bcell hb _ _ h1).trans y2, (bcell hb _ _ h2).trans z0, (bcell hb _ _ h2).trans z1, (bcell hb _ _ h2).trans z2, (bcell hb _ _ h3).trans u0, (bcell hb _ _ h3).trans u1, (bcell hb _ _ h3).trans u2⟩

set_option maxRecDepth 100000 in
set_option maxHeartbeats 16000000 in
theorem walk (f g : Fo) (k n k' n' N : Int) (ps ms : List Int) (a a' ap am : Option Addr) (cap cap' cp cm B : Nat) (w : World) (hsl : SlIn w (· < B) f a cap) (hsl' : SlIn w (· < B) g a' cap') (hip : IntsIn w (· < B) ps ap cp) (him : IntsIn w (· < B) ms am cm)
    (hB : B ≤ w.heap.size) :
    Calls Try.prog 3 #[.agg #[.int .i64 k, .int .i64 n, .slice a f.len cap], .agg #[.int .i64 k', .int .i64 n', .slice a' g.len cap'], .slice ap ps.length cp, .slice am ms.length cm, .int .i64 N] w fun e w' => e = .returned (.bool true) ∧ Below w.heap.size w w' := by
  have hbx : Below w.heap.size w ((w.alloc (.cells #[.int .i64 k, .int .i64 n, .slice a f.len cap] 24)).alloc (.cells #[.int .i64 k', .int .i64 n', .slice a' g.len cap'] 24)) := ((Below.refl _ _).alloc (Nat.le_refl _) _).alloc (by simp) _
  have hl1 := hip.len
  have hl2 := him.len
  have hbB := hbx.mono hB
  have F1 := Lib.hid (fun W h1 h2 => few_any (f.size + 1) f (Nat.lt_succ_self _) k n 300 a cap B W h1 h2 (by omega) (by omega))
  have F2 := Lib.hid (fun W h1 h2 => few_any (g.size + 1) g (Nat.lt_succ_self _) k' n' 300 a' cap' B W h1 h2 (by omega) (by omega))
  have Z1 := Lib.hid (few_size f (300 - 1))
  have Z2 := Lib.hid (few_size g (300 - 1))
  generalize fewF f (300 - 1) = v1 at F1 Z1
  generalize fewF g (300 - 1) = v2 at F2 Z2
  by_cases h1 : v1 ≤ 0
  · have d1 : decide (v1 ≤ 0) = true := decide_eq_true h1
    go_enter Try.func3, Try.ntmps3
    go_wp2_with fail
    refine (F1.out _ (hsl.below hbB) (Nat.le_trans hB hbx.size)).mono ?_
    rintro e w1 ⟨rfl, hb1⟩
    have hE := Lib.hid (Below.step hbx hb1 (Nat.le_refl _))
    go_wp2_with fail
    refine (awake_any _).mono ?_
    rintro e w2 ⟨rfl, hb2⟩
    go_wp2_with fail
    go_ret
    exact ⟨rfl, Below.step hE.out hb2 (Nat.le_refl _)⟩
  · have d1 : decide (v1 ≤ 0) = false := decide_eq_false h1
    by_cases h2 : v2 ≤ 0
    · have d2 : decide (v2 ≤ 0) = true := decide_eq_true h2
      go_enter Try.func3, Try.ntmps3
      go_wp2_with fail
      refine (F1.out _ (hsl.below hbB) (Nat.le_trans hB hbx.size)).mono ?_
      rintro e w1 ⟨rfl, hb1⟩
      have hb1' : Below (w.heap.size + 2) ((w.alloc (.cells #[.int .i64 k, .int .i64 n, .slice a f.len cap] 24)).alloc (.cells #[.int .i64 k', .int .i64 n', .slice a' g.len cap'] 24)) w1 := by simpa using hb1
      have d0 := bcell hb1' (w.heap.size + 1) 0 (by omega)
      have d1' := bcell hb1' (w.heap.size + 1) 1 (by omega)
      have d2' := bcell hb1' (w.heap.size + 1) 2 (by omega)
      simp at d0 d1' d2'
      have hw1 : Below B w w1 := hbB.trans (hb1'.mono (by omega))
      clear hb1
      go_wp2_with fail
      refine (F2.out _ (hsl'.below hw1) (Nat.le_trans hB hw1.size)).mono ?_
      rintro e w2 ⟨rfl, hb2⟩
      have hb2' : Below (w.heap.size + 2) ((w.alloc (.cells #[.int .i64 k, .int .i64 n, .slice a f.len cap] 24)).alloc (.cells #[.int .i64 k', .int .i64 n', .slice a' g.len cap'] 24)) w2 := Below.step hb1' hb2 (by simp)
      have hE := Lib.hid (hbx.trans (hb2'.mono (by omega)))
      clear d0 d1' d2' hb2 hb1'
      go_wp2_with fail
      refine (awake_any _).mono ?_
      rintro e w3 ⟨rfl, hb3⟩
      go_wp2_with fail
      go_ret
      exact ⟨rfl, Below.step hE.out hb3 (Nat.le_refl _)⟩
    · have d2 : decide (v2 ≤ 0) = false := decide_eq_false h2
      by_cases h3 : 100 < ps.length
      · have d3 : decide ((100 : Int) < (ps.length : Int)) = true := by simp; omega
        go_enter Try.func3, Try.ntmps3
        go_wp2_with fail
        refine (F1.out _ (hsl.below hbB) (Nat.le_trans hB hbx.size)).mono ?_
        rintro e w1 ⟨rfl, hb1⟩
        have hb1' : Below (w.heap.size + 2) ((w.alloc (.cells #[.int .i64 k, .int .i64 n, .slice a f.len cap] 24)).alloc (.cells #[.int .i64 k', .int .i64 n', .slice a' g.len cap'] 24)) w1 := by simpa using hb1
        have d0 := bcell hb1' (w.heap.size + 1) 0 (by omega)
        have d1' := bcell hb1' (w.heap.size + 1) 1 (by omega)
        have d2' := bcell hb1' (w.heap.size + 1) 2 (by omega)
        simp at d0 d1' d2'
        have hw1 : Below B w w1 := hbB.trans (hb1'.mono (by omega))
        clear hb1
        go_wp2_with fail
        refine (F2.out _ (hsl'.below hw1) (Nat.le_trans hB hw1.size)).mono ?_
        rintro e w2 ⟨rfl, hb2⟩
        have hb2' : Below (w.heap.size + 2) ((w.alloc (.cells #[.int .i64 k, .int .i64 n, .slice a f.len cap] 24)).alloc (.cells #[.int .i64 k', .int .i64 n', .slice a' g.len cap'] 24)) w2 := Below.step hb1' hb2 (by simp)
        have hE := Lib.hid (hbx.trans (hb2'.mono (by omega)))
        clear d0 d1' d2' hb2 hb1'
        go_wp2_with fail
        refine (awake_any _).mono ?_
        rintro e w3 ⟨rfl, hb3⟩
        go_wp2_with fail
        go_ret
        exact ⟨rfl, Below.step hE.out hb3 (Nat.le_refl _)⟩
      · have d3 : decide ((100 : Int) < (ps.length : Int)) = false := by simp; omega
        by_cases h4 : 100 < ms.length
        · have d4 : decide ((100 : Int) < (ms.length : Int)) = true := by simp; omega
          go_enter Try.func3, Try.ntmps3
          go_wp2_with fail
          refine (F1.out _ (hsl.below hbB) (Nat.le_trans hB hbx.size)).mono ?_
          rintro e w1 ⟨rfl, hb1⟩
          have hb1' : Below (w.heap.size + 2) ((w.alloc (.cells #[.int .i64 k, .int .i64 n, .slice a f.len cap] 24)).alloc (.cells #[.int .i64 k', .int .i64 n', .slice a' g.len cap'] 24)) w1 := by simpa using hb1
          have d0 := bcell hb1' (w.heap.size + 1) 0 (by omega)
          have d1' := bcell hb1' (w.heap.size + 1) 1 (by omega)
          have d2' := bcell hb1' (w.heap.size + 1) 2 (by omega)
          simp at d0 d1' d2'
          have hw1 : Below B w w1 := hbB.trans (hb1'.mono (by omega))
          clear hb1
          go_wp2_with fail
          refine (F2.out _ (hsl'.below hw1) (Nat.le_trans hB hw1.size)).mono ?_
          rintro e w2 ⟨rfl, hb2⟩
          have hb2' : Below (w.heap.size + 2) ((w.alloc (.cells #[.int .i64 k, .int .i64 n, .slice a f.len cap] 24)).alloc (.cells #[.int .i64 k', .int .i64 n', .slice a' g.len cap'] 24)) w2 := Below.step hb1' hb2 (by simp)
          have hE := Lib.hid (hbx.trans (hb2'.mono (by omega)))
          clear d0 d1' d2' hb2 hb1'
          go_wp2_with fail
          refine (awake_any _).mono ?_
          rintro e w3 ⟨rfl, hb3⟩
          go_wp2_with fail
          go_ret
          exact ⟨rfl, Below.step hE.out hb3 (Nat.le_refl _)⟩
        · have d4 : decide ((100 : Int) < (ms.length : Int)) = false := by simp; omega
          have hf : f.size ≤ 1000000 := by have := Z1.out (by omega); omega
          have hg : g.size ≤ 1000000 := by have := Z2.out (by omega); omega
          have CT := Lib.hid (fun W h1 h2 h3 h4 h5 => told_any f g k n k' n' ps ms a a' ap am cap cap' cp cm B W h1 h2 h3 h4 h5 hf hg)
          have C1 := Lib.hid (fun W h1 h2 => Right_any N ms.length k n f a cap B W h1 h2)
          have C2 := Lib.hid (fun W h1 h2 => rRight_any N ms.length k n f a cap B W h1 h2)
          generalize rightB N ms.length k n f = v at C1 C2
          have CN := Lib.hid (fun W => num_ans W N)
          have CM := Lib.hid (fun W => rnum_ans W N)
          have CS := Lib.hid (fun a a' c c' B W h1 h2 h3 => rSame_any ((nF N).size + 1) (nF N) (nF N) (Nat.lt_succ_self _) (nK N) 0 (nK N) 0 a a' c c' B W h1 h2 h3)
          have hsame : decide (nK N = nK N ∧ (0 : Int) = 0 ∧ nF N = nF N) = true := by simp
          rw [hsame] at CS
          clear hsame
          unfold NumAns at CN CM
          generalize nK N = kx at CN CM CS
          generalize nF N = fx at CN CM CS
          generalize nE N = ex at CN CM
          have dex : (ex == ex) = true := by simp
          go_enter Try.func3, Try.ntmps3
          go_wp2_with fail
          refine (F1.out _ (hsl.below hbB) (Nat.le_trans hB hbx.size)).mono ?_
          rintro e w1 ⟨rfl, hb1⟩
          have hb1' : Below (w.heap.size + 2) ((w.alloc (.cells #[.int .i64 k, .int .i64 n, .slice a f.len cap] 24)).alloc (.cells #[.int .i64 k', .int .i64 n', .slice a' g.len cap'] 24)) w1 := by simpa using hb1
          have d0 := bcell hb1' (w.heap.size + 1) 0 (by omega)
          have d1' := bcell hb1' (w.heap.size + 1) 1 (by omega)
          have d2' := bcell hb1' (w.heap.size + 1) 2 (by omega)
          simp at d0 d1' d2'
          have hw1 : Below B w w1 := hbB.trans (hb1'.mono (by omega))
          clear hb1
          go_wp2_with fail
          refine (F2.out _ (hsl'.below hw1) (Nat.le_trans hB hw1.size)).mono ?_
          rintro e w2 ⟨rfl, hb2⟩
          have hb2' : Below (w.heap.size + 2) ((w.alloc (.cells #[.int .i64 k, .int .i64 n, .slice a f.len cap] 24)).alloc (.cells #[.int .i64 k', .int .i64 n', .slice a' g.len cap'] 24)) w2 := Below.step hb1' hb2 (by simp)
          have hE := Lib.hid (hbx.trans (hb2'.mono (by omega)))
          clear d0 d1' d2' hb2 hb1'
          have hz2 := Lib.hid (show w.heap.size + 2 ≤ w2.heap.size by have := hb2'.size; simpa using this)
          have c0 := bcell hb2' w.heap.size 0 (by omega)
          have c1 := bcell hb2' w.heap.size 1 (by omega)
          have c2 := bcell hb2' w.heap.size 2 (by omega)
          have c3 := bcell hb2' (w.heap.size + 1) 0 (by omega)
          have c4 := bcell hb2' (w.heap.size + 1) 1 (by omega)
          have c5 := bcell hb2' (w.heap.size + 1) 2 (by omega)
          simp at c0 c1 c2 c3 c4 c5
          have HC := Lib.hid (⟨c0, c1, c2, c3, c4, c5⟩ : w2.cell? ⟨w.heap.size, 0, none⟩ = some (.int .i64 k) ∧ w2.cell? ⟨w.heap.size, 1, none⟩ = some (.int .i64 n) ∧ w2.cell? ⟨w.heap.size, 2, none⟩ = some (.slice a f.len cap) ∧ w2.cell? ⟨w.heap.size + 1, 0, none⟩ = some (.int .i64 k') ∧ w2.cell? ⟨w.heap.size + 1, 1, none⟩ = some (.int .i64 n') ∧ w2.cell? ⟨w.heap.size + 1, 2, none⟩ = some (.slice a' g.len cap'))
          clear c0 c1 c2 c3 c4 c5 hb2' hw1
          go_wp2_with fail
          refine (CN.out _).mono ?_
          rintro e w3 ⟨ax, cx, rfl, hsx, hb3⟩
          have hE3 := Lib.hid (Below.step hE.out hb3 (Nat.le_refl _))
          have HSX := Lib.hid hsx
          have HB3 := Lib.hid hb3
          clear hsx hb3
          go_wp2_with fail
          refine (CM.out _).mono ?_
          rintro e w4 ⟨ay, cy, rfl, hsy, hb4⟩
          have hb4' : Below (w3.heap.size + 1) (w3.alloc (.cells #[.int .i64 kx, .int .i64 0, .slice ax fx.len cx] 24)) w4 := by simpa using hb4
          have x0 := bcell hb4' w3.heap.size 0 (by omega)
          have x1 := bcell hb4' w3.heap.size 1 (by omega)
          have x2 := bcell hb4' w3.heap.size 2 (by omega)
          simp at x0 x1 x2
          have hz4 : w3.heap.size < w4.heap.size := by have := hb4'.size; simp at this; omega
          have hz3 := HB3.out.size
          have b34 : Below w3.heap.size w3 w4 := ((Below.refl _ _).alloc (Nat.le_refl _) _).trans (hb4'.mono (by omega))
          have b24 : Below w2.heap.size w2 w4 := HB3.out.trans (b34.mono hz3)
          have hE4 := Lib.hid (Below.step hE3.out b34 (Nat.le_refl _))
          obtain ⟨c0, c1, c2, c3, c4, c5⟩ := held6 b24 (by have := hz2.out; omega) (by have := hz2.out; omega) HC.out
          have HSX4 := Lib.hid ((HSX.out.below b34).mono (B' := w4.heap.size) (by omega))
          have HSY4 := Lib.hid hsy
          have HSL := Lib.hid (⟨hsl.below (hE4.out.mono hB), hsl'.below (hE4.out.mono hB), hip.below (hE4.out.mono hB), him.below (hE4.out.mono hB)⟩ : SlIn w4 (· < B) f a cap ∧ SlIn w4 (· < B) g a' cap' ∧ IntsIn w4 (· < B) ps ap cp ∧ IntsIn w4 (· < B) ms am cm)
          have hB4 : B ≤ w4.heap.size := by have := hz2.out; omega
          have hw0 : w.heap.size < w4.heap.size := by have := hz2.out; omega
          have hw1' : w.heap.size + 1 < w4.heap.size := by have := hz2.out; omega
          clear hsy hb4 hb4' b24 b34
          have bA : Below w4.heap.size w4 (w4.alloc (.cells #[.int .i64 kx, .int .i64 0, .slice ay fx.len cy] 24)) := (Below.refl _ _).alloc (Nat.le_refl _) _
          have HS12 : Hid ((w4.alloc (.cells #[.int .i64 kx, .int .i64 0, .slice ay fx.len cy] 24)).cell? ⟨w.heap.size, 0, none⟩ = some (.int .i64 k) ∧ (w4.alloc (.cells #[.int .i64 kx, .int .i64 0, .slice ay fx.len cy] 24)).cell? ⟨w.heap.size, 1, none⟩ = some (.int .i64 n) ∧ (w4.alloc (.cells #[.int .i64 kx, .int .i64 0, .slice ay fx.len cy] 24)).cell? ⟨w.heap.size, 2, none⟩ = some (.slice a f.len cap) ∧ (w4.alloc (.cells #[.int .i64 kx, .int .i64 0, .slice ay fx.len cy] 24)).cell? ⟨w.heap.size + 1, 0, none⟩ = some (.int .i64 k') ∧ (w4.alloc (.cells #[.int .i64 kx, .int .i64 0, .slice ay fx.len cy] 24)).cell? ⟨w.heap.size + 1, 1, none⟩ = some (.int .i64 n') ∧ (w4.alloc (.cells #[.int .i64 kx, .int .i64 0, .slice ay fx.len cy] 24)).cell? ⟨w.heap.size + 1, 2, none⟩ = some (.slice a' g.len cap') ∧ (w4.alloc (.cells #[.int .i64 kx, .int .i64 0, .slice ay fx.len cy] 24)).cell? ⟨w3.heap.size, 0, none⟩ = some (.int .i64 kx) ∧ (w4.alloc (.cells #[.int .i64 kx, .int .i64 0, .slice ay fx.len cy] 24)).cell? ⟨w3.heap.size, 1, none⟩ = some (.int .i64 0) ∧ (w4.alloc (.cells #[.int .i64 kx, .int .i64 0, .slice ay fx.len cy] 24)).cell? ⟨w3.heap.size, 2, none⟩ = some (.slice ax fx.len cx) ∧ (w4.alloc (.cells #[.int .i64 kx, .int .i64 0, .slice ay fx.len cy] 24)).cell? ⟨w4.heap.size, 0, none⟩ = some (.int .i64 kx) ∧ (w4.alloc (.cells #[.int .i64 kx, .int .i64 0, .slice ay fx.len cy] 24)).cell? ⟨w4.heap.size, 1, none⟩ = some (.int .i64 0) ∧ (w4.alloc (.cells #[.int .i64 kx, .int .i64 0, .slice ay fx.len cy] 24)).cell? ⟨w4.heap.size, 2, none⟩ = some (.slice ay fx.len cy)) := Lib.hid (by
            obtain ⟨y0, y1, y2⟩ := cells3 (heap_new w4 (.cells #[.int .i64 kx, .int .i64 0, .slice ay fx.len cy] 24))
            exact ⟨(bcell bA _ _ hw0).trans c0, (bcell bA _ _ hw0).trans c1, (bcell bA _ _ hw0).trans c2, (bcell bA _ _ hw1').trans c3, (bcell bA _ _ hw1').trans c4, (bcell bA _ _ hw1').trans c5, (bcell bA _ _ hz4).trans x0, (bcell bA _ _ hz4).trans x1, (bcell bA _ _ hz4).trans x2, y0, y1, y2⟩)
          have HSW : Hid (SlIn (w4.alloc (.cells #[.int .i64 kx, .int .i64 0, .slice ay fx.len cy] 24)) (· < B) f a cap ∧ SlIn (w4.alloc (.cells #[.int .i64 kx, .int .i64 0, .slice ay fx.len cy] 24)) (· < B) g a' cap' ∧ IntsIn (w4.alloc (.cells #[.int .i64 kx, .int .i64 0, .slice ay fx.len cy] 24)) (· < B) ps ap cp ∧ IntsIn (w4.alloc (.cells #[.int .i64 kx, .int .i64 0, .slice ay fx.len cy] 24)) (· < B) ms am cm) :=
            Lib.hid ⟨HSL.out.1.below (bA.mono hB4), HSL.out.2.1.below (bA.mono hB4), HSL.out.2.2.1.below (bA.mono hB4), HSL.out.2.2.2.below (bA.mono hB4)⟩
          have HXW := Lib.hid ((HSX4.out.below bA).mono bA.size)
          have HYW := Lib.hid ((HSY4.out.below bA).mono bA.size)
          have hBW := Nat.le_trans hB4 bA.size
          have hEW := Lib.hid (hE4.out.trans (bA.mono hE4.out.size))
          have hsw4 : w4.heap.size < (w4.alloc (.cells #[.int .i64 kx, .int .i64 0, .slice ay fx.len cy] 24)).heap.size := by simp
          go_wp2_with fail
          generalize w4.alloc (.cells #[.int .i64 kx, .int .i64 0, .slice ay fx.len cy] 24) = W at HS12 HSW HXW HYW hBW hEW hsw4 ⊢
          clear bA c0 c1 c2 c3 c4 c5 x0 x1 x2
          have hA0 : w.heap.size < W.heap.size := by omega
          have hA1 : w.heap.size + 1 < W.heap.size := by omega
          have hA2 : w3.heap.size < W.heap.size := by omega
          go_region_held3 (fun w' => Hid (Below W.heap.size W w') ∧ w'.cell? ⟨w.heap.size, 0, none⟩ = some (.int .i64 k) ∧ w'.cell? ⟨w.heap.size, 1, none⟩ = some (.int .i64 n) ∧ w'.cell? ⟨w.heap.size, 2, none⟩ = some (.slice a f.len cap) ∧ w'.cell? ⟨w.heap.size + 1, 0, none⟩ = some (.int .i64 k') ∧ w'.cell? ⟨w.heap.size + 1, 1, none⟩ = some (.int .i64 n') ∧ w'.cell? ⟨w.heap.size + 1, 2, none⟩ = some (.slice a' g.len cap') ∧ w'.cell? ⟨w3.heap.size, 0, none⟩ = some (.int .i64 kx) ∧ w'.cell? ⟨w3.heap.size, 1, none⟩ = some (.int .i64 0) ∧ w'.cell? ⟨w3.heap.size, 2, none⟩ = some (.slice ax fx.len cx) ∧ w'.cell? ⟨w4.heap.size, 0, none⟩ = some (.int .i64 kx) ∧ w'.cell? ⟨w4.heap.size, 1, none⟩ = some (.int .i64 0) ∧ w'.cell? ⟨w4.heap.size, 2, none⟩ = some (.slice ay fx.len cy))
            (first | exact ⟨Lib.hid (Below.refl _ _).drew, HS12.out⟩ | (go_split_ands; exact held12 (Below.step (Hid.out (by assumption)) hbN (Nat.le_refl _)) hA0 hA1 hA2 hsw4 HS12.out))
            (first | (go_at_call 8; refine (awake_any _).mono ?_; rintro e wN ⟨rfl, hbN⟩) | (go_at_call 11; go_split_ands; refine (CT.out _ (by exact HSW.out.1.below (Below.mono (Hid.out (by assumption)) hBW)) (by exact HSW.out.2.1.below (Below.mono (Hid.out (by assumption)) hBW)) (by exact HSW.out.2.2.1.below (Below.mono (Hid.out (by assumption)) hBW)) (by exact HSW.out.2.2.2.below (Below.mono (Hid.out (by assumption)) hBW)) (by exact Nat.le_trans hBW (Below.size (Hid.out (by assumption))))).mono ?_; rintro e wN ⟨rfl, hbN⟩) | (go_at_call 12; go_split_ands; refine (C1.out _ (by exact HSW.out.1.below (Below.mono (Hid.out (by assumption)) hBW)) (by exact Nat.le_trans hBW (Below.size (Hid.out (by assumption))))).mono ?_; rintro e wN ⟨rfl, hbN⟩) | (go_at_call 13; go_split_ands; refine (C2.out _ (by exact HSW.out.1.below (Below.mono (Hid.out (by assumption)) hBW)) (by exact Nat.le_trans hBW (Below.size (Hid.out (by assumption))))).mono ?_; rintro e wN ⟨rfl, hbN⟩) | (go_at_call 14; go_split_ands; refine (CS.out _ _ _ _ W.heap.size _ (by exact HXW.out.below (Hid.out (by assumption))) (by exact HYW.out.below (Hid.out (by assumption))) (by exact Below.size (Hid.out (by assumption)))).mono ?_; rintro e wN ⟨rfl, hbN⟩))
          all_goals go_split_ands
          all_goals have hEE := Lib.hid (Below.step hEW.out (Hid.out (by assumption : Hid (Below W.heap.size W wN))) (Nat.le_refl _))
          all_goals go_wp2_with fail
          all_goals go_ret
          all_goals exact ⟨rfl, hEE.out⟩
end Go.Proofs.Ytlbflfijihbmdaa.levelAny
