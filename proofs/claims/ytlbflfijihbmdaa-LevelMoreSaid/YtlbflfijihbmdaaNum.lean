/- The contracts of both makers of numerals: n Succs over Zero, made in new memory. -/
import Derived.Test.YtlbflfijihbmdaaTree
namespace Go.Proofs.Ytlbflfijihbmdaa
open Go.RowKit

/-- The Kids of the numeral n. -/
def numF : Nat → Fo
  | 0 => .nil
  | n + 1 => .cons (if n = 0 then 1 else 2) 0 (numF n) .nil
def numK (n : Nat) : Int := if n = 0 then 1 else 2
theorem numF_len (n : Nat) : (numF n).len ≤ 1 := by cases n <;> simp [numF, Fo.len]
/-- What the loops of both makers keep: the variable's block, whole, and the Kids behind it, in later blocks. -/
def NumAt (w wr : World) (j : Nat) (a : Option Addr) (cap : Nat) : Prop :=
  wr.heap[w.heap.size + 1]? = some (.cells #[.int .i64 (numK j), .int .i64 0, .slice a (numF j).len cap] 24 (0, 0)) ∧
    SlIn wr (fun b => w.heap.size + 1 < b ∧ b < wr.heap.size) (numF j) a cap ∧
    Below (w.heap.size + 1) (w.alloc (.cells #[.int .i64 0, .int .i64 0, .slice none 0 0] 24)) wr
theorem numAt_start (w : World) : NumAt w ((w.alloc (.cells #[.int .i64 0, .int .i64 0, .slice none 0 0] 24)).alloc (.cells #[.int .i64 1, .int .i64 0, .slice none 0 0] 24)) 0 none 0 :=
  ⟨heap_second _ _ _, SlIn.none _ _, (Below.refl _ _).alloc (by simp) _⟩
theorem numAt_step {w wr : World} {j : Nat} {a : Option Addr} {cap : Nat} (h : NumAt w wr j a cap) :
    NumAt w ((((wr.setCell ⟨w.heap.size + 1, 0, none⟩ (.int .i64 2)).setCell ⟨w.heap.size + 1, 1, none⟩ (.int .i64 0)).setCell ⟨w.heap.size + 1, 2, none⟩ (.slice (some ⟨wr.heap.size, 0, none⟩) 1 1)).alloc
      (.cells #[.int .i64 (numK j), .int .i64 0, .slice a (numF j).len cap] 24)) (j + 1) (some ⟨wr.heap.size, 0, none⟩) 1 := by
  obtain ⟨h1, h2, h3⟩ := h
  have hlt := lt_of_block h1
  generalize hW : (((wr.setCell ⟨w.heap.size + 1, 0, none⟩ (.int .i64 2)).setCell ⟨w.heap.size + 1, 1, none⟩ (.int .i64 0)).setCell ⟨w.heap.size + 1, 2, none⟩ (.slice (some ⟨wr.heap.size, 0, none⟩) 1 1)) = W
  have hs : W.heap.size = wr.heap.size := by rw [← hW]; simp
  have hk : ∀ b, b ≠ w.heap.size + 1 → W.heap[b]? = wr.heap[b]? := fun b hb => by
    rw [← hW, Below.heap_setCell _ _ _ _ hb, Below.heap_setCell _ _ _ _ hb, Below.heap_setCell _ _ _ _ hb]
  have hw : W.heap[w.heap.size + 1]? = some (.cells #[.int .i64 2, .int .i64 0, .slice (some ⟨wr.heap.size, 0, none⟩) 1 1] 24 (0, 0)) := by rw [← hW]; exact set3 h1
  have hn := heap_new W (.cells #[.int .i64 (numK j), .int .i64 0, .slice a (numF j).len cap] 24)
  rw [hs] at hn
  obtain ⟨d0, d1, d2⟩ := cells3 hn
  refine ⟨?_, ?_, ?_⟩
  · rw [heap_old W _ (by omega), hw]; simp [numK, numF, Fo.len]
  · refine SlIn.mk (by simp [numF, Fo.len]) (by omega) ⟨by omega, by simp [hs]⟩ ?_
    refine FoIn.push (k := numK j) d0 d1 d2 ?_ trivial
    refine SlIn.weak (P := fun b => w.heap.size + 1 < b ∧ b < wr.heap.size) (fun b hb => ⟨hb.1, by simp [hs]; omega⟩) (h2.keep ?_)
    intro b hb
    rw [heap_old W _ (by omega), hk b (by omega)]
  · refine h3.trans ⟨?_, ?_, ?_, by simp [hs], fun b hb => ?_⟩
    · rw [← hW]; rfl
    · rw [← hW]; rfl
    · rw [← hW]; rfl
    · rw [heap_old W _ (by omega), hk b (by omega)]
theorem numAt_facts {w wr : World} {j : Nat} {a : Option Addr} {cap : Nat} (h : NumAt w wr j a cap) :
    (wr.cell? ⟨w.heap.size + 1, 0, none⟩ = some (.int .i64 (numK j)) ∧ wr.cell? ⟨w.heap.size + 1, 1, none⟩ = some (.int .i64 0) ∧ wr.cell? ⟨w.heap.size + 1, 2, none⟩ = some (.slice a (numF j).len cap)) ∧
    (wr.cell? ⟨w.heap.size, 0, none⟩ = some (.int .i64 0) ∧ wr.cell? ⟨w.heap.size, 1, none⟩ = some (.int .i64 0) ∧ wr.cell? ⟨w.heap.size, 2, none⟩ = some (.slice none 0 0)) ∧
    (∀ o, wr.frozen? ⟨w.heap.size + 1, o, none⟩ = false) ∧ (∀ o, wr.frozen? ⟨w.heap.size, o, none⟩ = false) ∧ w.heap.size + 1 < wr.heap.size := by
  obtain ⟨h1, h2, h3⟩ := h
  have h4 : wr.heap[w.heap.size]? = some (.cells #[.int .i64 0, .int .i64 0, .slice none 0 0] 24 (0, 0)) := (h3.block _ (by omega)).trans (heap_new _ _)
  exact ⟨cells3 h1, cells3 h4, free_of h1, free_of h4, lt_of_block h1⟩
theorem numAt_end {w wr : World} {j : Nat} {a : Option Addr} {cap : Nat} (h : NumAt w wr j a cap) (x y z : Value) :
    SlIn (((wr.setCell ⟨w.heap.size, 0, none⟩ x).setCell ⟨w.heap.size, 1, none⟩ y).setCell ⟨w.heap.size, 2, none⟩ z) (· < (((wr.setCell ⟨w.heap.size, 0, none⟩ x).setCell ⟨w.heap.size, 1, none⟩ y).setCell ⟨w.heap.size, 2, none⟩ z).heap.size) (numF j) a cap ∧
    Below w.heap.size w (((wr.setCell ⟨w.heap.size, 0, none⟩ x).setCell ⟨w.heap.size, 1, none⟩ y).setCell ⟨w.heap.size, 2, none⟩ z) := by
  obtain ⟨h1, h2, h3⟩ := h
  refine ⟨?_, ?_⟩
  · refine SlIn.weak (P := fun b => w.heap.size + 1 < b ∧ b < wr.heap.size) (fun b hb => by simp; omega) (h2.keep ?_)
    intro b hb
    rw [Below.heap_setCell _ _ _ _ (by simp; omega), Below.heap_setCell _ _ _ _ (by simp; omega), Below.heap_setCell _ _ _ _ (by simp; omega)]
  · exact (((((Below.refl _ _).alloc (Nat.le_refl _) _).trans (h3.mono (by omega))).setCell (Nat.le_refl _) _).setCell (Nat.le_refl _) _).setCell (Nat.le_refl _) _

/-- What both makers answer of a number from 0 to 11. -/
def NumOk (w : World) (n : Nat) (e : Ending) (w' : World) : Prop :=
  ∃ (a : Option Addr) (cap : Nat), e = .returned (.tuple #[.agg #[.int .i64 (numK n), .int .i64 0, .slice a (numF n).len cap], .int .i64 0]) ∧ SlIn w' (· < w'.heap.size) (numF n) a cap ∧ Below w.heap.size w w'

set_option maxRecDepth 100000 in
set_option maxHeartbeats 1000000 in
theorem num_any (w : World) (n : Nat) (h : n < 12) : Calls Try.prog 9 #[.int .i64 n] w (NumOk w n) := by
  have d0 : decide ((n : Int) < 0) = false := by simp
  have d1 : decide (12 ≤ (n : Int)) = false := by simp; omega
  go_enter Try.func9, Try.ntmps9
  go_wp2_with fail
  go_loopw [14] (fun i wr => ∃ (j : Nat) (a : Option Addr) (cap : Nat), i = .int .i64 j ∧ j ≤ n ∧ NumAt w wr j a cap) (fun i _ => n - (intOf i).toNat)
  case atStart => exact ⟨0, none, 0, rfl, by omega, numAt_start w⟩
  case round =>
    obtain ⟨j, a, cap, rfl, hj, hat⟩ := hrel
    obtain ⟨⟨c0, c1, c2⟩, ⟨c3, c4, c5⟩, f0, f1, hlt2⟩ := numAt_facts hat
    by_cases hlt : j < n
    · go_wp2_with fail
      go_roundw
      case rel => exact ⟨j + 1, _, _, by go_num, by omega, numAt_step hat⟩
      case measure => simp [intOf]; omega
    · obtain rfl : j = n := by omega
      have hE := Lib.hid (numAt_end hat)
      go_wp2_with fail
      refine bodyPost_ret (v := .tuple #[.agg #[.int .i64 (numK j), .int .i64 0, .slice a (numF j).len cap], .int .i64 0]) (by simp [results, Try.results9, go_sem, c3, c4, c5]) rfl ?_
      exact ⟨a, cap, rfl, hE.out _ _ _⟩

set_option maxRecDepth 100000 in
set_option maxHeartbeats 1000000 in
theorem rnum_any (w : World) (n : Nat) (h : n < 12) : Calls Try.prog 10 #[.int .i64 n] w (NumOk w n) := by
  have d0 : decide ((n : Int) < 0) = false := by simp
  have d1 : decide (12 ≤ (n : Int)) = false := by simp; omega
  go_enter Try.func10, Try.ntmps10
  go_wp2_with fail
  go_loopw [5] (fun i wr => ∃ (j : Nat) (a : Option Addr) (cap : Nat), i = .int .i64 j ∧ j ≤ n ∧ NumAt w wr j a cap) (fun i _ => n - (intOf i).toNat)
  case atStart => exact ⟨0, none, 0, rfl, by omega, numAt_start w⟩
  case round =>
    obtain ⟨j, a, cap, rfl, hj, hat⟩ := hrel
    obtain ⟨⟨c0, c1, c2⟩, ⟨c3, c4, c5⟩, f0, f1, hlt2⟩ := numAt_facts hat
    by_cases hlt : j < n
    · go_wp2_with fail
      go_roundw
      case rel => exact ⟨j + 1, _, _, by go_num, by omega, numAt_step hat⟩
      case measure => simp [intOf]; omega
    · obtain rfl : j = n := by omega
      have hE := Lib.hid (numAt_end hat)
      go_wp2_with fail
      refine bodyPost_ret (v := .tuple #[.agg #[.int .i64 (numK j), .int .i64 0, .slice a (numF j).len cap], .int .i64 0]) (by simp [results, Try.results10, go_sem, c3, c4, c5]) rfl ?_
      exact ⟨a, cap, rfl, hE.out _ _ _⟩

/-- What both makers answer of any other number. -/
def NumNo (w : World) (e : Ending) (w' : World) : Prop :=
  e = .returned (.tuple #[.agg #[.int .i64 0, .int .i64 0, .slice none 0 0], .int .i64 1]) ∧ Below w.heap.size w w'
set_option maxRecDepth 100000 in
set_option maxHeartbeats 1000000 in
theorem num_no (w : World) (n : Int) (h : n < 0 ∨ 12 ≤ n) : Calls Try.prog 9 #[.int .i64 n] w (NumNo w) := by
  rcases h with h | h
  · go_enter Try.func9, Try.ntmps9
    go_wp2_with fail
    refine bodyPost_ret (v := .tuple #[.agg #[.int .i64 0, .int .i64 0, .slice none 0 0], .int .i64 1]) (by simp [results, Try.results9, go_sem]) rfl ⟨rfl, ?_⟩
    exact (Below.refl _ _).alloc (Nat.le_refl _) _
  · have h0 : ¬ n < 0 := by omega
    go_enter Try.func9, Try.ntmps9
    go_wp2_with fail
    refine bodyPost_ret (v := .tuple #[.agg #[.int .i64 0, .int .i64 0, .slice none 0 0], .int .i64 1]) (by simp [results, Try.results9, go_sem]) rfl ⟨rfl, ?_⟩
    exact (Below.refl _ _).alloc (Nat.le_refl _) _
set_option maxRecDepth 100000 in
set_option maxHeartbeats 1000000 in
theorem rnum_no (w : World) (n : Int) (h : n < 0 ∨ 12 ≤ n) : Calls Try.prog 10 #[.int .i64 n] w (NumNo w) := by
  rcases h with h | h
  · go_enter Try.func10, Try.ntmps10
    go_wp2_with fail
    refine bodyPost_ret (v := .tuple #[.agg #[.int .i64 0, .int .i64 0, .slice none 0 0], .int .i64 1]) (by simp [results, Try.results10, go_sem]) rfl ⟨rfl, ?_⟩
    exact (Below.refl _ _).alloc (Nat.le_refl _) _
  · have h0 : ¬ n < 0 := by omega
    go_enter Try.func10, Try.ntmps10
    go_wp2_with fail
    refine bodyPost_ret (v := .tuple #[.agg #[.int .i64 0, .int .i64 0, .slice none 0 0], .int .i64 1]) (by simp [results, Try.results10, go_sem]) rfl ⟨rfl, ?_⟩
    exact (Below.refl _ _).alloc (Nat.le_refl _) _
end Go.Proofs.Ytlbflfijihbmdaa
