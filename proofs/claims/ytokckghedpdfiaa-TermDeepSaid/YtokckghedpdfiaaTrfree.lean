/- The contract of the document's own Free, of a term that is well-formed. -/
import Derived.Test.YtokckghedpdfiaaTwf
import Derived.Test.YtokckghedpdfiaaTrright2
namespace Go.Proofs.Ytokckghedpdfiaa
open Go.RowKit

set_option maxRecDepth 100000 in
set_option maxHeartbeats 4000000 in
theorem r13free_any (s : Nat) : ∀ (f : Ft), f.size < s → ∀ (k n : Int) (ls : Fo) (la ka : Option Addr) (lc kc B : Nat) (w : World), wf1 1030 k n ls f → TlIn w (· < B) f ka kc → B ≤ w.heap.size →
    Calls Try.prog 27 #[.agg #[.int .i64 k, .int .i64 n, .slice la ls.len lc, .slice ka f.len kc]] w fun e w' => e = .returned (.int .i64 (fr1 k n f)) ∧ Below w.heap.size w w' := by
  induction s with
  | zero => intro f hs; omega
  | succ s ih =>
    intro f hs k n ls la ka lc kc B w hwf hsl hB
    have IH := Lib.hid ih
    clear ih
    have hlen := hsl.len
    by_cases hk : k = 1
    · obtain ⟨hf, hls, hn0, hn1⟩ := wf1_leaf (hk ▸ hwf)
      clear hls hwf
      have e : fr1 k n f = n + 1 := if_pos hk
      rw [e]
      subst hf
      have hk' : (k == 1) = true := beq_iff_eq.2 hk
      clear hk e
      have c3 := (cells4 (heap_new w (.cells #[.int .i64 k, .int .i64 n, .slice la ls.len lc, .slice ka 0 kc] 25))).2.2.2
      simp only [Ft.len]
      go_enter Try.func27, Try.ntmps27
      go_wp2_with fail
      go_loopw [3, 4] (fun q i wr => q = .int .i64 (n + 1) ∧ i = .int .i64 0 ∧ wr = w.alloc (.cells #[.int .i64 k, .int .i64 n, .slice la ls.len lc, .slice ka 0 kc] 25)) (fun _ _ _ => 0)
      case atStart => exact ⟨rfl, rfl, rfl⟩
      case round =>
        obtain ⟨rfl, rfl, rfl⟩ := hrel
        go_wp2_with fail
        go_ret
        exact ⟨rfl, (Below.refl _ _).alloc (Nat.le_refl _) _⟩
    · have hk' : (k == 1) = false := beq_eq_false_iff_ne.2 hk
      have HFR : Hid (fr1 k n f = frF f k 0) := Lib.hid (if_neg hk)
      generalize fr1 k n f = res at HFR
      obtain ⟨⟨hk1, hk7, hlk⟩, _, hwk⟩ := hwf
      have HK := Lib.hid hlk
      have HW := Lib.hid hwk
      clear hlk hwk hk
      go_enter Try.func27, Try.ntmps27
      go_wp2_with fail
      go_loopw [3, 4] (fun q i wr => ∃ (j : Nat) (H rr : Ft) (x : Int), i = .int .i64 j ∧ q = .int .i64 x ∧ 0 ≤ x ∧ x ≤ 2000 ∧ Hid (f = H.app rr) ∧ Hid (H.len = j) ∧ Hid (max x (frF rr k j) = frF f k 0) ∧ Hid (Below (w.heap.size + 1) (w.alloc (.cells #[.int .i64 k, .int .i64 n, .slice la ls.len lc, .slice ka f.len kc] 25)) wr))
        (fun _ i _ => f.len - (intOf i).toNat)
      case atStart => exact ⟨0, .nil, f, 0, rfl, rfl, by omega, by omega, Lib.hid rfl, Lib.hid rfl, Lib.hid (by have := (frF_bd (N := 1030) (by omega) f k 0 HW.out).1; omega), Lib.hid (Below.refl _ _)⟩
      case round =>
        obtain ⟨j, H, rr, x, rfl, rfl, hx0, hx1, hf, hj, hall, hb⟩ := hrel
        have c0 := bcell hb.out w.heap.size 0 (by omega)
        have c3 := bcell hb.out w.heap.size 3 (by omega)
        simp at c0 c3
        have hwW : Hid (Below w.heap.size w wr) := Lib.hid (Below.trans ((Below.refl _ _).alloc (Nat.le_refl _) _) (hb.out.mono (by omega)))
        cases rr with
        | nil =>
          have hjl : ¬ (j : Int) < (f.len : Int) := by rw [hf.out, Ft.app_nil, hj.out]; omega
          have d' : decide ((j : Int) < (f.len : Int)) = false := by simpa using hjl
          go_wp2_with fail
          go_ret
          exact ⟨by rw [HFR.out, ← hall.out]; show Ending.returned (.int .i64 x) = .returned (.int .i64 (max x 0)); rw [show max x 0 = x by omega], hwW.out⟩
        | cons k' n' ls' ks r' =>
          have hjn : j < f.len := by rw [hf.out, Ft.app_len, hj.out]; simp [Ft.len]
          have hlt' : (j : Int) < (f.len : Int) := by omega
          have hwB : Below B w wr := hwW.out.mono hB
          obtain ⟨b, o, rfl, hbB, hf0⟩ := hsl.some (by omega)
          have hfa : FtIn w (· < B) (.cons k' n' ls' ks r') b (o + j * 4) := by
            have h1 := hf0
            rw [hf.out] at h1
            rw [← hj.out]
            exact FtIn.behind H _ b o h1
          obtain ⟨e0, e1, ⟨la', lc', e2, hls'⟩, ⟨ka', kc', e3, hsl'⟩, _⟩ := (hfa.below hwB _ _ _ hbB).first
          have hks : ks.size < s := by
            have h1 := hs
            rw [hf.out, Ft.app_size] at h1
            simp only [Ft.size] at h1
            omega
          have hwk' : wf1 1030 k' n' ls' ks := by
            have h1 := HW.out
            rw [hf.out, wfF_app] at h1
            exact (wfF_parts h1.2).1
          have hbd := fr1_bd (by omega) hwk'
          have hbi := bindK_le k j
          have hBr : B ≤ wr.heap.size := Nat.le_trans hB hwW.out.size
          have HCL : Hid (∀ W : World, Below wr.heap.size wr W → Calls Try.prog 27 #[.agg #[.int .i64 k', .int .i64 n', .slice la' ls'.len lc', .slice ka' ks.len kc']] W fun e w' => e = .returned (.int .i64 (fr1 k' n' ks)) ∧ Below W.heap.size W w') := Lib.hid (by
            intro W h
            exact IH.out ks hks k' n' ls' la' ka' lc' kc' B W hwk' (hsl'.below (h.mono hBr)) (Nat.le_trans hBr h.size))
          have HBI : Hid (∀ W, Calls Try.prog 46 #[.int .i64 k, .int .i64 j] W fun e w' => e = .returned (.int .i64 (bindK k j)) ∧ w' = W) := Lib.hid (r13binds_any k j)
          have HA : Hid (max x (max (fr1 k' n' ks - bindK k j) (frF r' k (j + 1))) = frF f k 0) := Lib.hid hall.out
          have HW1 : Hid (IntKind.i64.wrap (fr1 k' n' ks - bindK k j) = fr1 k' n' ks - bindK k j) := Lib.hid (IntWalk.i64_in _ (by omega))
          have hxx : -1 ≤ fr1 k' n' ks - bindK k j ∧ fr1 k' n' ks - bindK k j ≤ 1100 := by omega
          have HJ : Hid (f = (H.app (.cons k' n' ls' ks .nil)).app r') := Lib.hid (by rw [hf.out, Ft.app_assoc]; rfl)
          have HL : Hid ((H.app (.cons k' n' ls' ks .nil)).len = j + 1) := Lib.hid (by rw [Ft.app_len, hj.out]; rfl)
          have hbr : b < wr.heap.size := by omega
          have hwr1 : w.heap.size < wr.heap.size := by have := hb.out.size; simp at this; omega
          generalize hX : fr1 k' n' ks = X at HCL HA HW1 hxx
          generalize hY : bindK k j = Y at HA HW1 hxx HBI
          clear hX hY hbd hbi hls' hsl' hf0 hfa hwk' hf hall hj hBr
          go_wp2_with fail
          go_region_held3 (fun w' => Hid (Below wr.heap.size wr w') ∧ w'.cell? ⟨w.heap.size, 0, none⟩ = some (.int .i64 k) ∧ w'.cell? ⟨w.heap.size, 3, none⟩ = some (.slice (some ⟨b, o, none⟩) f.len kc) ∧ w'.cell? ⟨b, o + j * 4, none⟩ = some (.int .i64 k') ∧ w'.cell? ⟨b, o + j * 4 + 1, none⟩ = some (.int .i64 n') ∧ w'.cell? ⟨b, o + j * 4 + 2, none⟩ = some (.slice la' ls'.len lc') ∧ w'.cell? ⟨b, o + j * 4 + 3, none⟩ = some (.slice ka' ks.len kc'))
            (first | exact ⟨Lib.hid (Below.refl _ _).drew, c0, c3, e0, e1, e2, e3⟩ | (go_split_ands; exact rrHeld2 (Below.step (Hid.out (by assumption)) hbN (Nat.le_refl _)) hwr1 hbr c0 c3 e0 e1 e2 e3) | (go_split_ands; exact rrHeld2 (Hid.out (by assumption)) hwr1 hbr c0 c3 e0 e1 e2 e3))
            (first | (go_at_call 46; refine (HBI.out _).mono ?_; rintro e wN ⟨rfl, rfl⟩) | (go_at_call 27; go_split_ands; refine (HCL.out _ (Hid.out (by assumption))).mono ?_; rintro e wN ⟨rfl, hbN⟩))
          all_goals go_split_ands
          all_goals
            have hmax : (if x < X - Y then X - Y else x) = max x (X - Y) := by split <;> omega
            simp only [HW1.out, hmax]
            have HE := Lib.hid (Below.step hb.out (Hid.out (by assumption : Hid (Below wr.heap.size wr wN))) (by simp))
            have HMX : Hid (max (max x (X - Y)) (frF r' k (j + 1)) = frF f k 0) := Lib.hid (by rw [← HA.out]; omega)
            have hm0 : 0 ≤ max x (X - Y) := by omega
            have hm1 : max x (X - Y) ≤ 2000 := by omega
            generalize max x (X - Y) = M at HMX hm0 hm1 ⊢
            clear c0 c3 e0 e1 e2 e3 HCL HW1 HA hmax hbN HBI
            go_wp2_with fail
            go_roundw
            case rel => exact ⟨j + 1, _, r', M, by go_num, rfl, hm0, hm1, HJ, HL, HMX, HE⟩
            case measure => simp [intOf]; omega
end Go.Proofs.Ytokckghedpdfiaa
