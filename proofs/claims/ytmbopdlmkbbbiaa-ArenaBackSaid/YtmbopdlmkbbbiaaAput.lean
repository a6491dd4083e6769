/- The contract of the program's Put: what it adds to an arena, or the refusal. No condition but that the arena and the level lie in memory, and there are no more than 90000 nodes. -/
import Derived.Test.YtmbopdlmkbbbiaaAblevel
import Derived.Test.YtmbopdlmkbbbiaaRight
namespace Go.Proofs.Ytmbopdlmkbbbiaa
open Go.RowKit

/-- What Put answers. -/
def PtPost (v : List Nd × Nat × Int) (w : World) (e : Ending) (w' : World) : Prop :=
  ∃ x c, e = .returned (.tuple #[.agg #[.slice x v.1.length c], .int .i64 v.2.1, .int .i64 v.2.2]) ∧ NOwn w' w.heap.size (.slice x v.1.length c) v.1 ∧ Below w.heap.size w w'
/-- Put's variables: the arena, the level, and the result. -/
def PuAt (ns : List Nd) (a : Option Addr) (cap : Nat) (k n : Int) (F : Fo) (xa : Option Addr) (ca N : Nat) (W : World) : Prop :=
  W.heap[N]? = some (.cells #[.slice a ns.length cap] 26 (0, 0)) ∧ W.heap[N + 1]? = some (.cells #[.int .i64 k, .int .i64 n, .slice xa F.len ca] 30 (0, 0)) ∧ W.heap[N + 1 + 1]? = some (.cells #[.slice none 0 0] 26 (0, 0))
section
variable {ns : List Nd} {a : Option Addr} {cap : Nat} {k n : Int} {F : Fo} {xa : Option Addr} {ca N : Nat} {W W' : World}
theorem PuAt.facts (h : PuAt ns a cap k n F xa ca N W) : W.cell? ⟨N, 0, none⟩ = some (.slice a ns.length cap) ∧ W.cell? ⟨N + 1, 0, none⟩ = some (.int .i64 k) ∧ W.cell? ⟨N + 1, 1, none⟩ = some (.int .i64 n) ∧ W.cell? ⟨N + 1, 2, none⟩ = some (.slice xa F.len ca) ∧ W.cell? ⟨N + 1 + 1, 0, none⟩ = some (.slice none 0 0) ∧ (∀ o, W.frozen? ⟨N + 1 + 1, o, none⟩ = false) ∧ N + 1 + 1 < W.heap.size :=
  ⟨cell_at h.1 0, cell_at h.2.1 0, cell_at h.2.1 1, cell_at h.2.1 2, cell_at h.2.2 0, free_of h.2.2, lt_of_block h.2.2⟩
theorem PuAt.below (h : PuAt ns a cap k n F xa ca N W) (hb : Below W.heap.size W W') : PuAt ns a cap k n F xa ca N W' :=
  ⟨(hb.block _ (lt_of_block h.1)).trans h.1, (hb.block _ (lt_of_block h.2.1)).trans h.2.1, (hb.block _ (lt_of_block h.2.2)).trans h.2.2⟩
end

set_option maxRecDepth 100000 in
set_option maxHeartbeats 4000000 in
theorem aPut_any (ns : List Nd) (a : Option Addr) (cap : Nat) (k n : Int) (F : Fo) (xa : Option Addr) (ca B : Nat) (w : World) (hin : NsIn w (· < B) ns a cap) (hsl : SlIn w (· < B) F xa ca) (hB : B ≤ w.heap.size) (hn : ns.length ≤ 90000) :
    Calls Try.prog 12 #[.agg #[.slice a ns.length cap], .agg #[.int .i64 k, .int .i64 n, .slice xa F.len ca]] w (PtPost (putV ns k n F) w) := by
  have hb0 : Below w.heap.size w (((w.alloc (.cells #[.slice a ns.length cap] 26)).alloc (.cells #[.int .i64 k, .int .i64 n, .slice xa F.len ca] 30)).alloc (.cells #[.slice none 0 0] 26)) := (((Below.refl _ _).alloc (Nat.le_refl _) _).alloc (by simp) _).alloc (by simp; omega) _
  have hat : PuAt ns a cap k n F xa ca w.heap.size (((w.alloc (.cells #[.slice a ns.length cap] 26)).alloc (.cells #[.int .i64 k, .int .i64 n, .slice xa F.len ca] 30)).alloc (.cells #[.slice none 0 0] 26)) :=
    ⟨(heap_old _ _ (by simp; omega)).trans ((heap_old _ _ (by simp)).trans (heap_new _ _)), (heap_old _ _ (by simp)).trans (heap_second _ _ _), by
      have := heap_new ((w.alloc (.cells #[.slice a ns.length cap] 26)).alloc (.cells #[.int .i64 k, .int .i64 n, .slice xa F.len ca] 30)) (.cells #[.slice none 0 0] 26)
      simpa using this⟩
  have HAT := Lib.hid hat
  have HB0 := Lib.hid hb0
  have HIN := Lib.hid hin
  have HSL := Lib.hid hsl
  clear hat hb0 hin hsl
  -- what is told with an error
  have HX : Hid (∀ (er : Int) (W w2 : World) (x : Option Addr) (c : Nat), Below w.heap.size w W → PuAt ns a cap k n F xa ca w.heap.size W → NOwn w2 W.heap.size (.slice x ns.length c) ns → Below W.heap.size W w2 →
      PtPost (ns, 0, er) w (.returned (.tuple #[.agg #[.slice x ns.length c], .int .i64 0, .int .i64 er])) (w2.setCell ⟨w.heap.size + 1 + 1, 0, none⟩ (.slice x ns.length c))) := Lib.hid (by
    intro er W w2 x c h1 h2 h3 h4
    have hlt := lt_of_block h2.2.2
    exact ⟨x, c, rfl, (h3.setLow hlt 0 _).low (by omega), (Below.step h1 h4 (Nat.le_refl _)).setCell (by simp; omega) _⟩)
  have HCP : Hid (∀ (W : World), Below w.heap.size w W → Calls Try.prog 32 #[.agg #[.slice a ns.length cap]] W (CpPost ns W)) := Lib.hid (fun W h => acopied_any ns a cap B W (HIN.out.below (h.mono hB)) (Nat.le_trans hB h.size) (by omega))
  cases hr : rightN ns with
  | false =>
    have hv : putV ns k n F = (ns, 0, 1) := by unfold putV; rw [if_neg (by rw [hr]; simp)]
    rw [hv]
    have HC := Lib.hid (aidx_no ns a cap B _ (HIN.out.below (HB0.out.mono hB)) (Nat.le_trans hB HB0.out.size) hr)
    clear hv hr
    go_enter Try.func12, Try.ntmps12
    go_wp2_with fail
    refine HC.out.mono ?_
    rintro e w1 ⟨rfl, hb1⟩
    have HAT1 := Lib.hid (HAT.out.below hb1)
    have HB1 := Lib.hid (Below.step HB0.out hb1 (Nat.le_refl _))
    obtain ⟨c0, c1, c2, c3, c4, c5, c6⟩ := HAT1.out.facts
    clear hb1
    go_wp2_with fail
    refine (HCP.out _ HB1.out).mono ?_
    rintro e w2 ⟨x, c, rfl, h1, h2⟩
    obtain ⟨d0, d1, d2, d3, d4, d5, d6⟩ := (HAT1.out.below h2).facts
    have HE := Lib.hid (HX.out 1 w1 w2 x c HB1.out HAT1.out h1 h2)
    clear h1 h2 c0 c1 c2 c3 c4 c5 c6
    go_wp2_with fail
    refine bodyPost_ret (v := .tuple #[.agg #[.slice x ns.length c], .int .i64 0, .int .i64 1]) (by simp [results, Try.results12, go_sem, d4]) rfl ?_
    exact HE.out
  | true =>
    have HC := Lib.hid (aidx_yes ns a cap B _ (HIN.out.below (HB0.out.mono hB)) (Nat.le_trans hB HB0.out.size) hr)
    have HZ0 : Hid ((((w.alloc (.cells #[.slice a ns.length cap] 26)).alloc (.cells #[.int .i64 k, .int .i64 n, .slice xa F.len ca] 30)).alloc (.cells #[.slice none 0 0] 26)).heap.size = w.heap.size + 1 + 1 + 1) := Lib.hid (by simp)
    cases hR : rightB 5 10 k n F with
    | false =>
      have hv : putV ns k n F = (ns, 0, 1) := by unfold putV; rw [if_neg (by rw [hR]; simp)]
      rw [hv]
      have HRT : Hid (∀ (W : World), Below w.heap.size w W → Calls Try.prog 31 #[.agg #[.int .i64 k, .int .i64 n, .slice xa F.len ca], .int .i64 5, .int .i64 10] W fun e w' => e = .returned (.bool false) ∧ Below W.heap.size W w') := Lib.hid (fun W h => by
        have := Right_any 5 10 k n F xa ca B W (HSL.out.below (h.mono hB)) (Nat.le_trans hB h.size)
        rwa [hR] at this)
      clear hv hr hR
      go_enter Try.func12, Try.ntmps12
      go_wp2_with fail
      refine HC.out.mono ?_
      rintro e w1 ⟨rfl, _, hb1⟩
      have HAT1 := Lib.hid (HAT.out.below hb1)
      have HB1 := Lib.hid (Below.step HB0.out hb1 (Nat.le_refl _))
      obtain ⟨c0, c1, c2, c3, c4, c5, c6⟩ := HAT1.out.facts
      clear hb1
      go_wp2_with fail
      refine (HRT.out _ HB1.out).mono ?_
      rintro e w2 ⟨rfl, hb2⟩
      have HAT2 := Lib.hid (HAT1.out.below hb2)
      have HB2 := Lib.hid (Below.step HB1.out hb2 (Nat.le_refl _))
      clear c0 c1 c2 c3 c4 c5 c6 hb2
      obtain ⟨c0, c1, c2, c3, c4, c5, c6⟩ := HAT2.out.facts
      go_wp2_with fail
      refine (HCP.out _ HB2.out).mono ?_
      rintro e w3 ⟨x, c, rfl, h1, h2⟩
      obtain ⟨d0, d1, d2, d3, d4, d5, d6⟩ := (HAT2.out.below h2).facts
      have HE := Lib.hid (HX.out 1 w2 w3 x c HB2.out HAT2.out h1 h2)
      clear h1 h2 c0 c1 c2 c3 c4 c5 c6
      go_wp2_with fail
      refine bodyPost_ret (v := .tuple #[.agg #[.slice x ns.length c], .int .i64 0, .int .i64 1]) (by simp [results, Try.results12, go_sem, d4]) rfl ?_
      exact HE.out
    | true =>
      have HRT : Hid (∀ (W : World), Below w.heap.size w W → Calls Try.prog 31 #[.agg #[.int .i64 k, .int .i64 n, .slice xa F.len ca], .int .i64 5, .int .i64 10] W fun e w' => e = .returned (.bool true) ∧ Below W.heap.size W w') := Lib.hid (fun W h => by
        have := Right_any 5 10 k n F xa ca B W (HSL.out.below (h.mono hB)) (Nat.le_trans hB h.size)
        rwa [hR] at this)
      have HV : Hid (putV ns k n F = if (putL k n F ns).1.length ≤ 1000 then ((putL k n F ns).1, (putL k n F ns).2, 0) else (ns, 0, 2)) := Lib.hid (by unfold putV; rw [if_pos ⟨hr, hR⟩])
      have HW := Lib.hid (right_w2 hR)
      have hpl := putL_len k n F ns
      have HCL : Hid (∀ (W : World), Below w.heap.size w W → Calls Try.prog 33 #[.slice a ns.length cap] W (ClPost ns W)) := Lib.hid (fun W h => nclone_any ns a cap B W (HIN.out.below (h.mono hB)) (Nat.le_trans hB h.size) (by omega))
      have HLV : Hid (∀ (W : World) (BB : Nat) (x : Option Addr) (c : Nat), Below w.heap.size w W → BAt W w.heap.size BB (w.heap.size + 1 + 1 + 1) x c ns → Calls Try.prog 34 #[.pointer (some ⟨BB, 0, none⟩), .agg #[.int .i64 k, .int .i64 n, .slice xa F.len ca]] W (BnPost w.heap.size BB (w.heap.size + 1 + 1 + 1) x (putL k n F ns) W)) := Lib.hid (fun W BB x c h1 h2 =>
        blevel_any w.heap.size BB (w.heap.size + 1 + 1 + 1) (F.size + 1) F (Nat.lt_succ_self _) k n xa ca B x c ns W (HSL.out.below (h1.mono hB)) hB h1.size h2 HW.out.1 HW.out.2.1 (by have := HW.out.2.2; omega))
      clear hr hR
      have HPL : Hid ((putL k n F ns).1.length ≤ ns.length + 100) := Lib.hid (by have := HW.out.2.2; omega)
      generalize putL k n F ns = P at HV HLV hpl HPL
      go_enter Try.func12, Try.ntmps12
      go_wp2_with fail
      refine HC.out.mono ?_
      rintro e w1 ⟨rfl, hm1, hb1⟩
      rw [HZ0.out] at hm1
      have HM1 := Lib.hid hm1
      have HAT1 := Lib.hid (HAT.out.below hb1)
      have HB1 := Lib.hid (Below.step HB0.out hb1 (Nat.le_refl _))
      obtain ⟨c0, c1, c2, c3, c4, c5, c6⟩ := HAT1.out.facts
      clear hb1 hm1
      go_wp2_with fail
      refine (HRT.out _ HB1.out).mono ?_
      rintro e w2 ⟨rfl, hb2⟩
      have HM2 := Lib.hid ((hb2.block _ (lt_of_block HM1.out)).trans HM1.out)
      have HAT2 := Lib.hid (HAT1.out.below hb2)
      have HB2 := Lib.hid (Below.step HB1.out hb2 (Nat.le_refl _))
      clear c0 c1 c2 c3 c4 c5 c6 hb2
      obtain ⟨c0, c1, c2, c3, c4, c5, c6⟩ := HAT2.out.facts
      go_wp2_with fail
      refine (HCL.out _ HB2.out).mono ?_
      rintro e w3 ⟨x, c, rfl, ho3, hb3⟩
      have HM3 := Lib.hid ((hb3.block _ (lt_of_block HM2.out)).trans HM2.out)
      have HAT3 := Lib.hid (HAT2.out.below hb3)
      have HB3 := Lib.hid (Below.step HB2.out hb3 (Nat.le_refl _))
      have HO3 := Lib.hid ho3
      have HZ3 : Hid (w2.heap.size ≤ w3.heap.size) := Lib.hid hb3.size
      clear c0 c1 c2 c3 c4 c5 c6 hb3 ho3
      obtain ⟨c0, c1, c2, c3, c4, c5, c6⟩ := HAT3.out.facts
      have hbb : Below w3.heap.size w3 (w3.alloc (.cells #[.slice x ns.length c, .map (some (w.heap.size + 1 + 1 + 1))] 69)) := (Below.refl _ _).alloc (Nat.le_refl _) _
      have HBA : Hid (BAt (w3.alloc (.cells #[.slice x ns.length c, .map (some (w.heap.size + 1 + 1 + 1))] 69)) w.heap.size w3.heap.size (w.heap.size + 1 + 1 + 1) x c ns) := Lib.hid (by
        have hz := HB2.out.size
        refine ⟨heap_new _ _, (heap_old _ _ (lt_of_block HM3.out)).trans HM3.out, ?_, HB3.out.size, by omega⟩
        exact ((HO3.out.kept (Only.below w3.heap.size hbb) (by
          cases hv : (Value.slice x ns.length c).ownBlock with
          | none => exact .inl rfl
          | some g => exact .inr (fun e => by have := (HO3.out.lt g hv).2; injection e; omega))).low hz))
      have HATb := Lib.hid (HAT3.out.below hbb)
      have HBb := Lib.hid (Below.step HB3.out hbb (Nat.le_refl _))
      have hz30 : w.heap.size < w3.heap.size := by omega
      have hz31 : w.heap.size + 1 < w3.heap.size := by omega
      clear hbb
      go_wp2_with fail
      refine (HLV.out _ w3.heap.size x c HBb.out HBA.out).mono ?_
      rintro e w4 ⟨x4, c4', rfl, hA4, hC4, hN4⟩
      have hlow : ∀ q, q < w.heap.size + 1 + 1 + 1 → w4.heap[q]? = (w3.alloc (.cells #[.slice x ns.length c, .map (some (w.heap.size + 1 + 1 + 1))] 69)).heap[q]? := fun q hq => by
        refine hC4.block q (by simp; omega) (by omega) (by omega) (fun e => ?_)
        have h1 := (HO3.out.lt q (by rw [rowOf_eq]; exact e.symm)).1
        have h2 := HAT2.out.facts.2.2.2.2.2.2
        omega
      have HAT4 : Hid (PuAt ns a cap k n F xa ca w.heap.size w4) := Lib.hid ⟨(hlow _ (by omega)).trans HATb.out.1, (hlow _ (by omega)).trans HATb.out.2.1, (hlow _ (by omega)).trans HATb.out.2.2⟩
      have HB4 : Hid (Below w.heap.size w w4) := Lib.hid (HBb.out.trans ⟨hC4.os, hC4.tape, hC4.output, hC4.size, fun q hq => hlow q (by omega)⟩)
      have n0 := cell_at hA4.b 0
      simp at n0
      have HA4 := Lib.hid hA4
      clear c0 c1 c2 c3 c4 c5 c6 hlow hA4 hC4 hN4
      obtain ⟨c0, c1, c2, c3, c4, c5, c6⟩ := HAT4.out.facts
      by_cases hbig : P.1.length ≤ 1000
      · have hb' : ¬ (1000 : Int) < (P.1.length : Int) := by omega
        have d' : decide ((1000 : Int) < (P.1.length : Int)) = false := by simpa using hb'
        have hv := HV.out
        rw [if_pos hbig] at hv
        have HVV := Lib.hid hv
        have HE : Hid (PtPost (P.1, P.2, 0) w (.returned (.tuple #[.agg #[.slice x4 P.1.length c4'], .int .i64 P.2, .int .i64 0])) (w4.setCell ⟨w.heap.size + 1 + 1, 0, none⟩ (.slice x4 P.1.length c4'))) := Lib.hid
          ⟨x4, c4', rfl, (HA4.out.setOther HAT4.out.2.2 (by decide) (by decide) 0 _).own, HB4.out.setCell (by simp; omega) _⟩
        clear hv hbig
        go_wp2_with fail
        refine bodyPost_ret (v := .tuple #[.agg #[.slice x4 P.1.length c4'], .int .i64 P.2, .int .i64 0]) (by simp [results, Try.results12, go_sem, c4]) rfl ?_
        rw [HVV.out]
        exact HE.out
      · have hb' : (1000 : Int) < (P.1.length : Int) := by omega
        have hv := HV.out
        rw [if_neg hbig] at hv
        have HVV := Lib.hid hv
        clear hv hbig
        go_wp2_with fail
        refine (HCP.out _ HB4.out).mono ?_
        rintro e w5 ⟨x5, c5', rfl, h1, h2⟩
        obtain ⟨d0, d1, d2, d3, d4, d5, d6⟩ := (HAT4.out.below h2).facts
        have HE := Lib.hid (HX.out 2 w4 w5 x5 c5' HB4.out HAT4.out h1 h2)
        clear h1 h2 c0 c1 c2 c3 c4 c5 c6 n0
        go_wp2_with fail
        refine bodyPost_ret (v := .tuple #[.agg #[.slice x5 ns.length c5'], .int .i64 0, .int .i64 2]) (by simp [results, Try.results12, go_sem, d4]) rfl ?_
        rw [HVV.out]
        exact HE.out
end Go.Proofs.Ytmbopdlmkbbbiaa
