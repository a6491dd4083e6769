/- The contract of the document's own Core. Condition: the clauses lie in memory. -/
import Derived.Test.YtnfmcenedohdnaaKsome
import Derived.Test.YtnfmcenedohdnaaJrsv
namespace Go.Proofs.Ytnfmcenedohdnaa
open Go.RowKit

theorem rsolve_at {vars : Int} {N : Nat} {l : List Cl} {x : Option Addr} {c : Nat} {W1 W : World} (hc : ClsIn W1 (· < W1.heap.size) l x c) (b1 : Below W1.heap.size W1 W) (hl : l.length = N) : Calls Try.prog 12 #[.int .i64 vars, .slice x N c] W (SiPost vars l W) := by
  subst hl
  exact r9Solve_int vars l x c W.heap.size W ((hc.below b1).mono b1.size) (Nat.le_refl _)
theorem some_at {l : List Cl} {ps : List Int} {a ap : Option Addr} {cap cp n : Nat} {W1 W2 W : World} (hi : InP l.length ps) (hlen : ps.length ≤ 1000) (hin : ClsIn W1 (· < W1.heap.size) l a cap) (b1 : Below W1.heap.size W1 W) (hip : IntsIn W2 (· < W2.heap.size) ps ap cp) (b2 : Below W2.heap.size W2 W) (hn : ps.length = n) :
    Calls Try.prog 26 #[.slice a l.length cap, .slice ap n cp] W fun e w' => ∃ x c, e = .returned (.slice x n c) ∧ ClsIn w' (· < w'.heap.size) (pickL l ps) x c ∧ Below W.heap.size W w' := by
  subst hn
  refine (r10some_any l ps a ap cap cp W.heap.size W hi hlen ((hin.below b1).mono b1.size) ((hip.below b2).mono b2.size) (Nat.le_refl _)).mono ?_
  rintro e w' ⟨x, c, rfl, hr, hb⟩
  have h := hr
  rw [← pickL_len l ps] at h
  exact ⟨x, c, rfl, h.cls hb.size, hb⟩
set_option maxRecDepth 100000 in
set_option maxHeartbeats 16000000 in
theorem r10Core_any (vars : Int) (l : List Cl) (a : Option Addr) (cap B : Nat) (w : World) (hin : ClsIn w (· < B) l a cap) (hB : B ≤ w.heap.size) :
    Calls Try.prog 15 #[.int .i64 vars, .slice a l.length cap] w (RowPost (coreR vars l) (coreE vars l) w) := by
  have hlen := hin.len
  have HC : Hid (ClsIn w (· < w.heap.size) l a cap) := Lib.hid (hin.mono hB)
  have HN : Hid (hrB vars l = false → coreR vars l = [] ∧ coreE vars l = 1) := Lib.hid (fun h => by simp [coreR, coreE, h])
  have HP : Hid (hrB vars l = true → posB vars l = true → coreR vars l = [] ∧ coreE vars l = 0) := Lib.hid (fun h1 h2 => by simp [coreR, coreE, h1, h2])
  have HY : Hid (hrB vars l = true → posB vars l = false → coreR vars l = coreK vars l l.length ∧ coreE vars l = 0) := Lib.hid (fun h1 h2 => by simp [coreR, coreE, h1, h2])
  have HL60 : Hid (hrB vars l = true → l.length ≤ 60) := Lib.hid (fun h => (hrB_of h).2.2.1)
  generalize coreR vars l = R at HN HP HY ⊢
  generalize coreE vars l = E at HN HP HY ⊢
  clear hin
  go_enter Try.func15, Try.ntmps15
  go_wp2_with fail
  refine (rsolve_at HC.out (Below.refl _ _) rfl).mono ?_
  rintro e w1 ⟨z1, is, n1, er, x1, c1, rfl, hs, _, b1⟩
  obtain ⟨rfl, rfl⟩ := hs.told
  have B1 := Lib.hid b1
  clear hs b1
  cases hr : hrB vars l with
  | false => as_aux_lemma =>
    obtain ⟨rfl, rfl⟩ := HN.out hr
    rw [if_neg (by decide)]
    clear HN HP HY hr
    go_wp2_with fail
    go_ret2
    exact RowPost.nil rfl B1.out
  | true =>
    rw [if_pos rfl]
    have hl60 := HL60.out hr
    cases hp : posB vars l with
    | true => as_aux_lemma =>
      obtain ⟨rfl, rfl⟩ := HP.out hr hp
      clear HN HP HY hr hp HL60
      go_wp2_with fail
      go_ret2
      exact RowPost.nil rfl B1.out
    | false =>
      obtain ⟨hR, rfl⟩ := HY.out hr hp
      have HRK := Lib.hid hR
      clear HN HP HY hr hp HL60 hR
      go_wp2_with fail
      go_loopw [10, 11] (fun uv iv wr => ∃ (k : Nat) (u : Value), uv = u ∧ iv = .int .i64 k ∧ k ≤ l.length ∧ Hid (IOwn wr w.heap.size u (uptoK k)) ∧ Hid (Below w.heap.size w wr)) (fun _ iv _ => l.length - (intOf iv).toNat)
      case atStart => exact ⟨0, _, rfl, rfl, Nat.zero_le _, Lib.hid (IOwn.nil _ _), B1⟩
      case round =>
        obtain ⟨k, u, rfl, rfl, hk, hown, hb⟩ := hrel
        by_cases hlt : k < l.length
        · obtain ⟨g2, c2, w3, HRUN, HOW3, HB3⟩ := hown.out.more hb.out 23 k (by rw [uptoK_len]; omega)
          rw [uptoK_len] at HRUN HOW3
          have HN3 : Hid (IOwn w3 w.heap.size (.slice (some ⟨g2, 0, none⟩) (k + 1) c2) (uptoK (k + 1))) := HOW3
          have hlt' : (k : Int) < (l.length : Int) := by omega
          clear hown HOW3
          go_wp2_with (at_builtin; refine wpList_append_run (by rfl) _ _ _ (by rfl) (by rfl) (by rfl) HRUN.out ?_)
          go_roundw
          case rel => exact ⟨k + 1, _, rfl, by go_num, by omega, HN3, HB3⟩
          case measure => simp [intOf]; omega
        · obtain rfl : k = l.length := by omega
          have HK0 : Hid (IOwn wr w.heap.size _ (coreK vars l 0)) := hown
          have hlt' : ¬ (l.length : Int) < (l.length : Int) := by omega
          clear hown
          go_wp2_with fail
          go_loopw [10, 12] (fun uv iv wr => ∃ (i : Nat) (u : Value), uv = u ∧ iv = .int .i64 i ∧ i ≤ l.length ∧ Hid (IOwn wr w.heap.size u (coreK vars l i)) ∧ Hid (Below w.heap.size w wr)) (fun _ iv _ => l.length - (intOf iv).toNat)
          case atStart => exact ⟨0, _, rfl, rfl, Nat.zero_le _, HK0, hb⟩
          case round =>
            clear HK0
            obtain ⟨i, u, rfl, rfl, hi, hown, hb⟩ := hrel
            by_cases hil : i < l.length
            · have hil' : (i : Int) < (l.length : Int) := by omega
              obtain ⟨W0, rfl⟩ : ∃ W0, W0 = wr := ⟨_, rfl⟩
              have HNL := Lib.hid (coreK_len vars l i)
              have HNI := Lib.hid (coreK_in vars l i)
              have HST : Hid (coreK vars l (i + 1) = if posB vars (pickL l (lessK i (coreK vars l i))) = true then coreK vars l i else lessK i (coreK vars l i)) := Lib.hid rfl
              obtain ⟨now, hnow⟩ : ∃ now, now = coreK vars l i := ⟨_, rfl⟩
              rw [← hnow] at hown HNL HNI HST
              have HTK := Lib.hid (fun k (hk : k < now.length) => lessK_take (i := (i : Int)) hk)
              have HLL := Lib.hid (fun k => lessK_len (i : Int) (now.take k))
              obtain ⟨xu, cu, rfl⟩ := hown.out.form
              have hnl := HNL.out
              have HIN := Lib.hid hown.out.ints
              clear hnow
              go_wp2_with fail
              go_loopw [13, 14] (fun vv kv wq => ∃ (k : Nat) (v : Value), vv = v ∧ kv = .int .i64 k ∧ k ≤ now.length ∧ Hid (IOwn wq W0.heap.size v (lessK i (now.take k))) ∧ Hid (Below W0.heap.size W0 wq)) (fun _ kv _ => now.length - (intOf kv).toNat)
              case atStart => exact ⟨0, _, rfl, rfl, Nat.zero_le _, Lib.hid (by simpa [lessK] using IOwn.nil _ _), Lib.hid (Below.refl _ _)⟩
              case round =>
                obtain ⟨k, v, rfl, rfl, hk, hv, hbq⟩ := hrel
                by_cases hkn : k < now.length
                · obtain ⟨gn, on, rfl, _, hcn⟩ := (HIN.out.below hbq.out).some (by omega)
                  have en := hcn k hkn
                  have HT := Lib.hid (HTK.out k hkn)
                  have hkn' : (k : Int) < (now.length : Int) := by omega
                  have hk0 : (0 : Int) ≤ (k : Int) := by omega
                  clear hcn
                  generalize now.getD k 0 = p at en HT
                  by_cases hpi : p = (i : Int)
                  · have HT2 : Hid (IOwn wr W0.heap.size _ (lessK i (now.take (k + 1)))) := Lib.hid (by rw [HT.out, if_pos hpi, List.append_nil]; exact hv.out)
                    have d1 : (p != (i : Int)) = false := by simp [hpi]
                    clear HT hv hpi
                    go_wp2_with fail
                    go_roundw
                    case rel => exact ⟨k + 1, _, rfl, by go_num, by omega, HT2, hbq⟩
                    case measure => simp [intOf]; omega
                  · have d1 : (p != (i : Int)) = true := by simpa using hpi
                    obtain ⟨g2, c2, w3, HRUN, HOW3, HB3⟩ := hv.out.more hbq.out 23 p (by have := HLL.out k; rw [List.length_take] at this; omega)
                    obtain ⟨xv, cv, rfl⟩ := hv.out.form
                    have HT2 : Hid (IOwn w3 W0.heap.size (.slice (some ⟨g2, 0, none⟩) ((lessK i (now.take k)).length + 1) c2) (lessK i (now.take (k + 1)))) := Lib.hid (by rw [HT.out, if_neg hpi]; exact HOW3.out)
                    generalize (lessK i (now.take k)).length = nl at HRUN HOW3 HT2 hv ⊢
                    clear HT hv hpi HOW3
                    go_wp2_with (at_builtin; refine wpList_append_run (by rfl) _ _ _ (by rfl) (by rfl) (by rfl) HRUN.out ?_)
                    go_roundw
                    case rel => exact ⟨k + 1, _, rfl, by go_num, by omega, HT2, HB3⟩
                    case measure => simp [intOf]; omega
                · have hkn' : ¬ (k : Int) < (now.length : Int) := by omega
                  have HV : Hid (IOwn wr W0.heap.size _ (lessK i now)) := Lib.hid (by have := hv.out; rwa [List.take_of_length_le (by omega)] at this)
                  obtain ⟨xv, cv, rfl⟩ := HV.out.form
                  have HLE := Lib.hid (lessK_len (i : Int) now)
                  have HLI := Lib.hid (lessK_in (i := (i : Int)) HNI.out)
                  obtain ⟨less, hless⟩ : ∃ q, q = lessK i now := ⟨_, rfl⟩
                  rw [← hless] at HV HST HLE HLI
                  rw [← hless]
                  have B5 := Lib.hid (Below.step hb.out hbq.out (Nat.le_refl _))
                  clear hv hless
                  go_wp2_with fail
                  refine (some_at HLI.out (by have := HLE.out; omega) HC.out B5.out HV.out.ints (Below.refl _ _) rfl).mono ?_
                  rintro e w6 ⟨x6, c6, rfl, hc6, b6⟩
                  have HC6 := Lib.hid hc6
                  have B6 := Lib.hid (Below.step B5.out b6 (Nat.le_refl _))
                  have L6 := Lib.hid b6
                  clear hc6 b6
                  go_wp2_with fail
                  refine (rsolve_at HC6.out (Below.refl _ _) (pickL_len l less)).mono ?_
                  rintro e w7 ⟨z7, is7, n7, er7, x7, c7, rfl, hs7, _, b7⟩
                  have h7 := hs7.told.1
                  have B7 := Lib.hid (Below.step B6.out b7 (Nat.le_refl _))
                  have L7 := Lib.hid (Below.step L6.out b7 (Nat.le_refl _))
                  rw [← h7] at HST
                  clear hs7 b7 h7
                  cases is7 with
                  | true =>
                    have HO : Hid (IOwn w7 w.heap.size (.slice xu now.length cu) (coreK vars l (i + 1))) := Lib.hid (by
                      rw [HST.out, if_pos rfl]
                      exact hown.out.keep (fun g hg => ((hbq.out.trans (L7.out.mono hbq.out.size)).block g (hown.out.lt g hg).2)))
                    clear HST hown
                    go_wp2_with fail
                    go_roundw
                    case rel => exact ⟨i + 1, _, rfl, by go_num, by omega, HO, B7⟩
                    case measure => simp [intOf]; omega
                  | false =>
                    have HO : Hid (IOwn w7 w.heap.size (.slice xv less.length cv) (coreK vars l (i + 1))) := Lib.hid (by
                      rw [HST.out, if_neg (by decide)]
                      exact (HV.out.keep (fun g hg => L7.out.block g (HV.out.lt g hg).2)).low hb.out.size)
                    clear HST hown
                    go_wp2_with fail
                    go_roundw
                    case rel => exact ⟨i + 1, _, rfl, by go_num, by omega, HO, B7⟩
                    case measure => simp [intOf]; omega
            · obtain rfl : i = l.length := by omega
              obtain ⟨xu, cu, rfl⟩ := hown.out.form
              have HE : Hid (RowPost R 0 w (.returned (.tuple #[.slice xu (coreK vars l l.length).length cu, .int .i64 0])) wr) := Lib.hid (by rw [HRK.out]; exact ⟨xu, cu, rfl, hown.out, hb.out⟩)
              have hlt' : ¬ (l.length : Int) < (l.length : Int) := by omega
              generalize (coreK vars l l.length).length = nk at HE hown ⊢
              clear hown
              go_wp2_with fail
              go_ret2
              exact HE.out
end Go.Proofs.Ytnfmcenedohdnaa
