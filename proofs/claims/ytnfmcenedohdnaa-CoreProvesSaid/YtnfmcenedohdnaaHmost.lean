/- The contract of the program's Most: the most that a clause adds, or the refusal. Condition: the clauses lie in memory. -/
import Derived.Test.YtnfmcenedohdnaaHright
namespace Go.Proofs.Ytnfmcenedohdnaa
open Go.RowKit Go.Shelf
attribute [local go_sem] Oper.semAt_some

def mostE (vars : Int) (l : List Cl) : Int := if hrB vars l = true then 0 else 1
def mostV (vars : Int) (l : List Cl) : Int := if hrB vars l = true then mostD 0 l else 0
theorem pairs_ok {vars : Int} {l : List Cl} (h : l.all (clB vars) = true) : ∀ x ∈ pairs l, atB vars x.1.2 = true ∧ atB vars x.2 = true := fun ⟨c, a⟩ hx => by
  obtain ⟨h1, h2⟩ := pairs_mem.1 hx
  obtain ⟨a1, _, a3⟩ := clB_of (List.all_eq_true.1 h c h1)
  refine ⟨a1, ?_⟩
  rcases h2 with h2 | h2
  · exact List.all_eq_true.1 a3 a h2
  · show atB vars a = true; rw [h2]; exact a1
theorem elL_in {l : List Cl} (pre : List (El l)) : ∀ x ∈ elL pre, x ∈ pairs l := fun x hx => by
  obtain ⟨y, _, rfl⟩ := List.mem_map.1 hx
  exact y.2

set_option maxRecDepth 100000 in
set_option maxHeartbeats 4000000 in
theorem hMost_in (n' : Nat) (hn : 3 ≤ n') (vars : Int) (l : List Cl) (a : Option Addr) (cap B : Nat) (w : World) (hin : ClsIn w (· < B) l a cap) (hB : B ≤ w.heap.size) :
    CallsIn Fence.wide n' Try.prog 41 #[.int .i64 vars, .slice a l.length cap] w fun e w' => e = .returned (.tuple #[.int .i64 (mostV vars l), .int .i64 (mostE vars l)]) ∧ Below w.heap.size w w' := by
  have hdd : ∀ k : Nat, (Fence.wide.depth.isSome = true → 1 ≤ k) := fun k h => by cases h
  have CR := Lib.hid (hRight_any vars l a cap B w hin hB)
  have HI := Lib.hid hin
  have HN : Hid (hrB vars l = false → mostV vars l = 0 ∧ mostE vars l = 1) := Lib.hid (fun h => by simp [mostV, mostE, h])
  have HY : Hid (hrB vars l = true → mostV vars l = mostD 0 l ∧ mostE vars l = 0) := Lib.hid (fun h => by simp [mostV, mostE, h])
  have HC : Hid (hrB vars l = true → l.all (clB vars) = true) := Lib.hid (fun h => (hrB_of h).2.2.2)
  generalize mostV vars l = V at HN HY ⊢
  generalize mostE vars l = E at HN HY ⊢
  clear hin
  cases hr : hrB vars l with
  | false =>
    obtain ⟨rfl, rfl⟩ := HN.out hr
    rw [hr] at CR
    clear hr HN HY HC
    refine callsIn_of_wp_marks Try.func41 rfl trivial ?_ rfl
    simp only [Try.ntmps41, List.size_toArray, List.length_cons, List.length_nil, Nat.reduceAdd, Nat.reduceSub, Array.replicate_succ, Array.replicate_zero, List.push_toArray, List.append_toArray, List.nil_append, List.cons_append]
    gi_wp2_with (refine ⟨trivial, hdd _, ?_⟩; gi_at_call 17; refine (callsIn_wide.2 CR.out).mono ?_; rintro e w1 ⟨rfl, hb1⟩)
    refine ⟨.tuple #[.int .i64 0, .int .i64 1], ?_, rfl, hb1⟩
    simp [results, Try.f41, go_sem]
  | true =>
    obtain ⟨rfl, rfl⟩ := HY.out hr
    rw [hr] at CR
    have HC1 := Lib.hid (HC.out hr)
    clear hr HN HY HC
    refine callsIn_of_wp_marks Try.func41 rfl trivial ?_ rfl
    simp only [Try.ntmps41, List.size_toArray, List.length_cons, List.length_nil, Nat.reduceAdd, Nat.reduceSub, Array.replicate_succ, Array.replicate_zero, List.push_toArray, List.append_toArray, List.nil_append, List.cons_append]
    gi_wp2_with (first | (refine ⟨trivial, hdd _, ?_⟩; gi_at_call 17; refine (callsIn_wide.2 CR.out).mono ?_; rintro e w1 ⟨rfl, hb1⟩) | (refine ⟨trivial, hdd _, ?_⟩; gi_at_call 27; refine (hatoms_in _ _ _ _ _).mono ?_; rintro e w' ⟨rfl, rfl⟩))
    have bO := (Boxed.new w1 3 (.int .i64 0)).alloc (.cells #[.slice a l.length cap] 22)
    have bN := Boxed.new (w1.alloc (.cells #[.int .i64 0] 3)) 22 (.slice a l.length cap)
    rw [World.size_alloc] at bN
    have hB2 : Below w.heap.size w ((w1.alloc (.cells #[.int .i64 0] 3)).alloc (.cells #[.slice a l.length cap] 22)) := (hb1.alloc hb1.size _).alloc (by have := hb1.size; simp; omega) _
    have hz : ((w1.alloc (.cells #[.int .i64 0] 3)).alloc (.cells #[.slice a l.length cap] 22)).heap.size = w1.heap.size + 1 + 1 := by simp
    have hz1 := hb1.size
    generalize (w1.alloc (.cells #[.int .i64 0] 3)).alloc (.cells #[.slice a l.length cap] 22) = W2 at bO bN hB2 hz ⊢
    have hws : w.heap.size ≤ W2.heap.size := hB2.size
    have hok := pairs_ok HC1.out
    refine wpIn_rangeFunc_ownH rfl (by omega) (gf := 35) (lb := #[.pointer (some ⟨w1.heap.size + 1, 0, none⟩)]) rfl trivial (enters_of Try.func35 (by kernel_rfl) rfl)
      (hatoms1_stops (n' - 1) (fun b => b = w1.heap.size) l a cap B (w1.heap.size + 1) W2 (Nat.le_trans hB hws) (fun b h => by omega) (HI.out.below (hB2.mono hB)) bN.cell (by omega)) (fun h k => KpO.trans h k) (KpO.put (Nat.le_trans hB hws)) (Below.refl _ _) (fun _ => rfl)
      (fun pre W => Boxed W w1.heap.size 3 (.int .i64 (mostP 0 (elL pre))) ∧ Below w.heap.size w W)
      (fun _ _ _ => False)
      (OwnFrom.and (Own.from (boxed_own _ _ _) _) (ownFrom_below (Nat.le_refl _) hws))
      (fun _ _ _ _ _ hs _ _ => hs)
      ⟨bO, hB2⟩
      (fun x a' W => ∃ Bx By : Nat, W.heap[Bx]? = some (.cells #[.slice x.1.2.1 x.1.1.1.1.length x.1.2.2, .int .i64 x.1.1.1.2.1, .int .i64 x.1.1.1.2.2] 28 (0, 0)) ∧ W.heap[By]? = some (.cells #[.int .i64 x.1.1.2.1, .int .i64 x.1.1.2.2] 26 (0, 0)) ∧ a' = { tmps := #[.int .i64 vars, .slice a l.length cap, undef, undef, .int .i64 0, .int .i64 0, .pointer (some ⟨w1.heap.size, 0, none⟩), .pointer (some ⟨Bx, 0, none⟩), .pointer (some ⟨By, 0, none⟩), .int .i64 vars, .slice a l.length cap, .bool true, .bool false, .slice a l.length cap, .func (.func 35) #[] #[.pointer (some ⟨w1.heap.size + 1, 0, none⟩)], .agg #[.slice x.1.2.1 x.1.1.1.1.length x.1.2.2, .int .i64 x.1.1.1.2.1, .int .i64 x.1.1.1.2.2], .agg #[.int .i64 x.1.1.2.1, .int .i64 x.1.1.2.2], undef, undef, undef, undef, undef, undef, undef, undef, undef], defers := [] })
      (fun x a' u W W' row hs hg hr => by
        obtain ⟨Bx, By, h1, h3, h2⟩ := hs
        have keep : ∀ {b : Nat} {cs : Array Value} {t : TypeId}, W.heap[b]? = some (.cells cs t (0, 0)) → W'.heap[b]? = some (.cells cs t (0, 0)) := fun h1 => (hg.block _ (lt_of_block h1) (fun e => by obtain ⟨_, o, ho, hc⟩ := hr _ e.symm; rw [h1] at ho; cases ho; cases hc)).trans h1
        exact ⟨Bx, By, keep h1, keep h3, h2⟩) ?assign ?body ?done ?stop
    case assign =>
      rintro lp pre ⟨⟨⟨⟨fr, tv, to⟩, xv, xo⟩, a', c'⟩, hm⟩ W K ⟨i1, i4⟩ hK
      dsimp only [elV] at hK ⊢
      gi_wp2
      refine hK _ _ (((KeepsOthers.alloc _ _).trans (KeepsOthers.alloc _ _)).from _) (KpO.trans (KpO.alloc _ _ (Nat.le_trans hB i4.size) _) (KpO.alloc _ _ (by have := i4.size; simp; omega) _)) ⟨(i1.alloc _).alloc _, (i4.alloc i4.size _).alloc (by have := i4.size; simp; omega) _⟩ ⟨W.heap.size, W.heap.size + 1, (heap_old _ _ (by simp)).trans (heap_new _ _), heap_second _ _ _, rfl⟩
    case body =>
      rintro lp pre ⟨⟨⟨⟨fr, tv, to⟩, xv, xo⟩, a', c'⟩, hm⟩ _ W hl _ ⟨i1, i4⟩ ⟨Bx, By, hBx, hBy, rfl⟩ hlt2
      dsimp only at hBx hBy ⊢
      have x1 := cell_at hBx 2
      have y1 := cell_at hBy 1
      simp at x1 y1
      have hx := hok _ hm
      obtain ⟨q1, q2, q3, q4⟩ := atB_of hx.1
      obtain ⟨p1, p2, p3, p4⟩ := atB_of hx.2
      simp only at q1 q2 q3 q4 p1 p2 p3 p4
      have hbd := mostP_bd (vars := vars) (elL pre) 0 (fun y hy => hok y (elL_in pre y hy)) (by omega) (by omega)
      have HSN : Hid (mostP 0 (elL (pre ++ [(⟨(((fr, (tv, to)), (xv, xo)), (a', c')), hm⟩ : El l)])) = max (mostP 0 (elL pre)) (to - xo)) := Lib.hid (by rw [elL_snoc, mostP_snoc])
      have cO := i1.cell
      have fO := i1.frozen
      have HI1 := Lib.hid i1
      generalize mostP 0 (elL pre) = s at hbd HSN cO HI1
      obtain ⟨s0, s1⟩ := hbd
      clear i1 hx
      by_cases hmx : s < to - xo
      · have HM : Hid (max s (to - xo) = to - xo) := Lib.hid (by omega)
        gi_wp2
        exact ⟨(KeepsOthers.setCell _ _ _).from _, KpO.set _ _ _ _ rfl (by omega), by rw [HSN.out, HM.out]; exact HI1.out.set _, i4.setCell (p := ⟨w1.heap.size, 0, none⟩) hz1 _⟩
      · have HM : Hid (max s (to - xo) = s) := Lib.hid (by omega)
        gi_wp2
        exact ⟨(KeepsOthers.setCell _ _ _).from _, KpO.set _ _ _ _ rfl (by omega), by rw [HSN.out, HM.out]; exact HI1.out.set _, i4.setCell (p := ⟨w1.heap.size, 0, none⟩) hz1 _⟩
    case done =>
      rintro D ys W hD hS ⟨i1, i4⟩ hK
      have c6 := i1.cell
      have HV : Hid (mostP 0 (elL ys) = mostD 0 l) := Lib.hid (by rw [hS, mostP_pairs l 0 (Int.le_refl _)])
      generalize mostP 0 (elL ys) = V at c6 HV
      clear i1 hS
      gi_wp2
      refine ⟨by simp, .inl ⟨_, _, rfl, run_takeDeferred hK, ?_⟩⟩
      refine ⟨.tuple #[.int .i64 V, .int .i64 0], ?_, by rw [HV.out], i4.trans (belowK_b (w := w) (Nat.le_refl _) W D _ _ (by omega) hK rfl rfl)⟩
      simp [results, Try.f41, go_sem]
    case stop =>
      rintro D c pre W _ _ h _
      exact h.elim
theorem hMost_any (vars : Int) (l : List Cl) (a : Option Addr) (cap B : Nat) (w : World) (hin : ClsIn w (· < B) l a cap) (hB : B ≤ w.heap.size) :
    Calls Try.prog 41 #[.int .i64 vars, .slice a l.length cap] w fun e w' => e = .returned (.tuple #[.int .i64 (mostV vars l), .int .i64 (mostE vars l)]) ∧ Below w.heap.size w w' :=
  (callsIn_wide (n := 3)).1 (hMost_in 3 (Nat.le_refl _) vars l a cap B w hin hB)
end Go.Proofs.Ytnfmcenedohdnaa
