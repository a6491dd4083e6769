/- The contract of the program's Get of an arena: the level of a node, or the refusal. No condition but that the nodes lie in memory. -/
import Derived.Test.YtmbopdlmkbbbiaaAget
import Derived.Test.YtmbopdlmkbbbiaaAidx
namespace Go.Proofs.Ytmbopdlmkbbbiaa
open Go.RowKit

/-- What Get answers. -/
def GtPost (T : Fo) (er : Int) (w : World) (e : Ending) (w' : World) : Prop :=
  ∃ (k n : Int) (F : Fo) (x : Option Addr) (c : Nat), e = .returned (.tuple #[.agg #[.int .i64 k, .int .i64 n, .slice x F.len c], .int .i64 er]) ∧ (if er = 0 then T = .cons k n F .nil else k = 0 ∧ n = 0 ∧ F = .nil) ∧ SlIn w' (fun b => w.heap.size ≤ b ∧ b < w'.heap.size) F x c ∧ Below w.heap.size w w'
theorem gt_no {T : Fo} {er : Int} {w w' : World} (he : er ≠ 0) (h : Below w.heap.size w w') : GtPost T er w (.returned (.tuple #[.agg #[.int .i64 0, .int .i64 0, .slice none 0 0], .int .i64 er])) w' :=
  ⟨0, 0, .nil, none, 0, rfl, by rw [if_neg he]; exact ⟨rfl, rfl, rfl⟩, SlIn.none _ _, h⟩
/-- Get's variables: the arena, the result. -/
def GvAt (len : Nat) (a : Option Addr) (cap : Nat) (N : Nat) (W : World) : Prop :=
  W.heap[N]? = some (.cells #[.slice a len cap] 26 (0, 0)) ∧ W.heap[N + 1]? = some (.cells #[.int .i64 0, .int .i64 0, .slice none 0 0] 30 (0, 0))
theorem GvAt.facts {len : Nat} {a : Option Addr} {cap N : Nat} {W : World} (h : GvAt len a cap N W) : W.cell? ⟨N, 0, none⟩ = some (.slice a len cap) ∧ W.cell? ⟨N + 1, 0, none⟩ = some (.int .i64 0) ∧ W.cell? ⟨N + 1, 1, none⟩ = some (.int .i64 0) ∧ W.cell? ⟨N + 1, 2, none⟩ = some (.slice none 0 0) ∧ (∀ o, W.frozen? ⟨N + 1, o, none⟩ = false) ∧ N + 1 < W.heap.size ∧ N < W.heap.size :=
  ⟨cell_at h.1 0, cell_at h.2 0, cell_at h.2 1, cell_at h.2 2, free_of h.2, lt_of_block h.2, lt_of_block h.1⟩
theorem GvAt.below {len : Nat} {a : Option Addr} {cap N : Nat} {W W' : World} (h : GvAt len a cap N W) (hb : Below W.heap.size W W') : GvAt len a cap N W' := ⟨(hb.block _ (lt_of_block h.1)).trans h.1, (hb.block _ (lt_of_block h.2)).trans h.2⟩

set_option maxRecDepth 100000 in
set_option maxHeartbeats 4000000 in
theorem aGet_any (ns : List Nd) (a : Option Addr) (cap : Nat) (i : Int) (B : Nat) (w : World) (hin : NsIn w (· < B) ns a cap) (hB : B ≤ w.heap.size) :
    Calls Try.prog 14 #[.agg #[.slice a ns.length cap], .int .i64 i] w (GtPost (tr ns i.toNat) (getE ns i) w) := by
  have hb0 : Below w.heap.size w ((w.alloc (.cells #[.slice a ns.length cap] 26)).alloc (.cells #[.int .i64 0, .int .i64 0, .slice none 0 0] 30)) := ((Below.refl _ _).alloc (Nat.le_refl _) _).alloc (by simp) _
  have hat : GvAt ns.length a cap w.heap.size ((w.alloc (.cells #[.slice a ns.length cap] 26)).alloc (.cells #[.int .i64 0, .int .i64 0, .slice none 0 0] 30)) := ⟨(heap_old _ _ (by simp)).trans (heap_new _ _), heap_second _ _ _⟩
  have HAT := Lib.hid hat
  have HB0 := Lib.hid hb0
  have HIN := Lib.hid hin
  have hlen := hin.len
  have HRN : Hid (∀ (W : World), Below w.heap.size w W → Calls Try.prog 13 #[.agg #[.slice a ns.length cap]] W fun e w' => e = .returned (.bool (rightN ns)) ∧ Below W.heap.size W w') := Lib.hid (fun W h => aRight_any ns a cap B W (HIN.out.below (h.mono hB)) (Nat.le_trans hB h.size))
  clear hat hb0 hin
  have HXE : Hid (∀ (er : Int) (W : World), er ≠ 0 → Below w.heap.size w W → w.heap.size < W.heap.size → GtPost (tr ns i.toNat) er w (.returned (.tuple #[.agg #[.int .i64 0, .int .i64 0, .slice none 0 0], .int .i64 er])) (((W.setCell ⟨w.heap.size + 1, 0, none⟩ (.int .i64 0)).setCell ⟨w.heap.size + 1, 1, none⟩ (.int .i64 0)).setCell ⟨w.heap.size + 1, 2, none⟩ (.slice none 0 0))) := Lib.hid (fun er W he h1 _ =>
    gt_no he (((h1.setCell (by simp) _).setCell (by simp) _).setCell (by simp) _))
  cases hr : rightN ns with
  | false =>
    have hE : getE ns i = 1 := by unfold getE; rw [if_neg (by rw [hr]; simp)]
    rw [hE]
    rw [hr] at HRN
    clear hE hr
    go_enter Try.func14, Try.ntmps14
    go_wp2_with fail
    refine (HRN.out _ HB0.out).mono ?_
    rintro e w1 ⟨rfl, hb1⟩
    obtain ⟨c0, c1, c2, c3, c4, c5, c6⟩ := (HAT.out.below hb1).facts
    have HE := Lib.hid (HXE.out 1 w1 (by omega) (Below.step HB0.out hb1 (Nat.le_refl _)) c6)
    clear hb1
    go_wp2_with fail
    refine bodyPost_ret (v := .tuple #[.agg #[.int .i64 0, .int .i64 0, .slice none 0 0], .int .i64 1]) (by simp [results, Try.results14, go_sem, c1, c2, c3]) rfl ?_
    exact HE.out
  | true =>
    rw [hr] at HRN
    by_cases h0 : 0 ≤ i
    · by_cases h1 : i < ns.length
      · obtain ⟨j, rfl⟩ := Int.eq_ofNat_of_zero_le h0
        rw [Int.toNat_natCast]
        have hj : j < ns.length := by omega
        have h1' : decide ((j : Int) < 0) = false := by simp
        have h2' : decide (ns.length ≤ j) = false := by simp; omega
        have h3' : ¬ ns.length ≤ j := by omega
        have hE : getE ns j = if dF (tr ns j) ≤ 12 ∧ (tr ns j).size ≤ 100 then 0 else 2 := by unfold getE; rw [if_pos ⟨hr, by omega, by omega⟩, Int.toNat_natCast]
        have hcf := cF_eq (tr ns j) 12 100
        have HLV : Hid (∀ (W : World) (R : Nat), Below w.heap.size w W → w.heap.size ≤ R → ArAt W R a ns.length cap 100 → Calls Try.prog 35 #[.pointer (some ⟨R, 0, none⟩), .int .i64 j, .int .i64 12] W (AlPost R a ns.length cap (tr ns j) (cF (tr ns j) 12 100) W)) := Lib.hid (fun W R h1 h2 h3 =>
          alevel_any ns hr R a cap 12 (Nat.le_refl _) j 100 W h3 ((HIN.out.below (h1.mono hB)).mono (Nat.le_trans hB h2)) hj (Nat.le_refl _))
        have HJ := Lib.hid hj
        by_cases hok : dF (tr ns j) ≤ 12 ∧ (tr ns j).size ≤ 100
        · rw [if_pos hok] at hE hcf
          rw [hE]
          rw [hcf] at HLV
          rw [Int.toNat_natCast] at HXE
          clear hE hcf hok h0 h1 hr hj
          go_enter Try.func14, Try.ntmps14
          go_wp2_with fail
          refine (HRN.out _ HB0.out).mono ?_
          rintro e w1 ⟨rfl, hb1⟩
          have HAT1 := Lib.hid (HAT.out.below hb1)
          have HB1 := Lib.hid (Below.step HB0.out hb1 (Nat.le_refl _))
          obtain ⟨c0, c1, c2, c3, c4, c5, c6⟩ := HAT1.out.facts
          have HRA : Hid (ArAt (w1.alloc (.cells #[.slice a ns.length cap, .int .i64 100] 72)) w1.heap.size a ns.length cap 100) := Lib.hid (heap_new _ _)
          clear hb1
          go_wp2_with fail
          refine (HLV.out _ w1.heap.size (by exact HB1.out.alloc HB1.out.size _) HB1.out.size HRA.out).mono ?_
          rintro e w2 h2
          obtain ⟨k, n, F, x, c, t1, rfl, t2, _, t4⟩ := h2.ok
          have hlow : Below (w.heap.size + 1 + 1) w1 w2 := ((Below.refl _ _).alloc (by omega) _).trans ⟨t4.os, t4.tape, t4.output, t4.size, fun b hb => Only.block t4 (by simp; omega) (by omega)⟩
          have y1 := (hlow.block (w.heap.size + 1) (by omega)).trans HAT1.out.2
          obtain ⟨d1, d2, d3⟩ := cells3 y1
          have dz := free_of y1
          have hz2 : w.heap.size + 1 < w2.heap.size := lt_of_block y1
          have HF : Hid (GtPost (tr ns j) 0 w (.returned (.tuple #[.agg #[.int .i64 k, .int .i64 n, .slice x F.len c], .int .i64 0])) ((((w2.setCell ⟨w.heap.size + 1, 0, none⟩ (.int .i64 k)).setCell ⟨w.heap.size + 1, 1, none⟩ (.int .i64 n)).setCell ⟨w.heap.size + 1, 2, none⟩ (.slice x F.len c)).alloc (.cells #[.int .i64 k, .int .i64 n, .slice x F.len c] 30))) := Lib.hid (by
            have t2' := t2.carry (set3_only (w := w2) (w.heap.size + 1) (.int .i64 k) (.int .i64 n) (.slice x F.len c)) (lo' := w.heap.size) (by simp; omega) (by simp; omega)
            refine ⟨k, n, F, x, c, rfl, by rw [if_pos rfl]; exact t1, (t2'.keep (fun b hb => heap_old _ _ hb.2)).weak (fun b hb => ⟨hb.1, Nat.lt_of_lt_of_le hb.2 (by rw [World.size_alloc]; exact Nat.le_succ _)⟩), ?_⟩
            exact (((((Below.trans HB1.out (hlow.mono (by omega)))).setCell (by simp) _).setCell (by simp) _).setCell (by simp) _).alloc (by simp; omega) _)
          clear t1 t2 t4 hlow y1 c0 c1 c2 c3 c4 c5 c6
          go_wp2_with fail
          refine bodyPost_ret (v := .tuple #[.agg #[.int .i64 k, .int .i64 n, .slice x F.len c], .int .i64 0]) (by simp [results, Try.results14, go_sem, d1, d2, d3, hz2]) rfl ?_
          exact HF.out
        · rw [if_neg hok] at hE hcf
          rw [hE]
          rw [hcf] at HLV
          rw [Int.toNat_natCast] at HXE
          clear hE hcf hok h0 h1 hr hj
          go_enter Try.func14, Try.ntmps14
          go_wp2_with fail
          refine (HRN.out _ HB0.out).mono ?_
          rintro e w1 ⟨rfl, hb1⟩
          have HAT1 := Lib.hid (HAT.out.below hb1)
          have HB1 := Lib.hid (Below.step HB0.out hb1 (Nat.le_refl _))
          obtain ⟨c0, c1, c2, c3, c4, c5, c6⟩ := HAT1.out.facts
          have HRA : Hid (ArAt (w1.alloc (.cells #[.slice a ns.length cap, .int .i64 100] 72)) w1.heap.size a ns.length cap 100) := Lib.hid (heap_new _ _)
          clear hb1
          go_wp2_with fail
          refine (HLV.out _ w1.heap.size (by exact HB1.out.alloc HB1.out.size _) HB1.out.size HRA.out).mono ?_
          rintro e w2 h2
          obtain ⟨rfl, t4⟩ := h2.no
          have hlow : Below (w.heap.size + 1 + 1) w1 w2 := ((Below.refl _ _).alloc (by omega) _).trans ⟨t4.os, t4.tape, t4.output, t4.size, fun b hb => Only.block t4 (by simp; omega) (by omega)⟩
          have y1 := (hlow.block (w.heap.size + 1) (by omega)).trans HAT1.out.2
          obtain ⟨d1, d2, d3⟩ := cells3 y1
          have dz := free_of y1
          have hz2 : w.heap.size + 1 < w2.heap.size := lt_of_block y1
          have HF : Hid (GtPost (tr ns j) 2 w (.returned (.tuple #[.agg #[.int .i64 0, .int .i64 0, .slice none 0 0], .int .i64 2])) ((((w2.setCell ⟨w.heap.size + 1, 0, none⟩ (.int .i64 0)).setCell ⟨w.heap.size + 1, 1, none⟩ (.int .i64 0)).setCell ⟨w.heap.size + 1, 2, none⟩ (.slice none 0 0)).alloc (.cells #[.int .i64 0, .int .i64 0, .slice none 0 0] 30))) := Lib.hid
            (gt_no (by omega) ((((((Below.trans HB1.out (hlow.mono (by omega)))).setCell (by simp) _).setCell (by simp) _).setCell (by simp) _).alloc (by simp; omega) _))
          clear h2 t4 hlow y1 c0 c1 c2 c3 c4 c5 c6
          go_wp2_with fail
          refine bodyPost_ret (v := .tuple #[.agg #[.int .i64 0, .int .i64 0, .slice none 0 0], .int .i64 2]) (by simp [results, Try.results14, go_sem, d1, d2, d3, hz2]) rfl ?_
          exact HF.out
      · have h1' : (ns.length : Int) ≤ i := by omega
        have hE : getE ns i = 1 := by unfold getE; rw [if_neg (by omega)]
        rw [hE]
        have h2' : decide (i < 0) = false := by simpa using h0
        clear hE hr
        go_enter Try.func14, Try.ntmps14
        go_wp2_with fail
        refine (HRN.out _ HB0.out).mono ?_
        rintro e w1 ⟨rfl, hb1⟩
        obtain ⟨c0, c1, c2, c3, c4, c5, c6⟩ := (HAT.out.below hb1).facts
        have HE := Lib.hid (HXE.out 1 w1 (by omega) (Below.step HB0.out hb1 (Nat.le_refl _)) c6)
        clear hb1
        go_wp2_with fail
        refine bodyPost_ret (v := .tuple #[.agg #[.int .i64 0, .int .i64 0, .slice none 0 0], .int .i64 1]) (by simp [results, Try.results14, go_sem, c1, c2, c3]) rfl ?_
        exact HE.out
    · have h0' : i < 0 := by omega
      have hE : getE ns i = 1 := by unfold getE; rw [if_neg (by omega)]
      rw [hE]
      clear hE hr
      go_enter Try.func14, Try.ntmps14
      go_wp2_with fail
      refine (HRN.out _ HB0.out).mono ?_
      rintro e w1 ⟨rfl, hb1⟩
      obtain ⟨c0, c1, c2, c3, c4, c5, c6⟩ := (HAT.out.below hb1).facts
      have HE := Lib.hid (HXE.out 1 w1 (by omega) (Below.step HB0.out hb1 (Nat.le_refl _)) c6)
      clear hb1
      go_wp2_with fail
      refine bodyPost_ret (v := .tuple #[.agg #[.int .i64 0, .int .i64 0, .slice none 0 0], .int .i64 1]) (by simp [results, Try.results14, go_sem, c1, c2, c3]) rfl ?_
      exact HE.out
end Go.Proofs.Ytmbopdlmkbbbiaa
