/- Yrun. No condition but those that stand in each statement. -/
import Derived.Deep.LoopGhost
import Derived.Test.YtnfhpombnbpdcaaGreatZQ40
import Derived.Test.YtnfhpombnbpdcaaGreatZQ43
import Derived.Test.YtnfhpombnbpdcaaGreatZQ41
import Derived.Test.YtnfhpombnbpdcaaGreatZQ42
import Derived.Test.YtnfhpombnbpdcaaGreatZQ30
namespace Go.Proofs.YtnfhpombnbpdcaaGreat
open Go.RowKit
theorem least_w (Q : Nat → World → Prop) : ∃ μ : World → Nat, ∀ w n, Q n w → Q (μ w) w ∧ μ w ≤ n := by
  have h : ∀ w, ∃ m, ∀ n, Q n w → Q m w ∧ m ≤ n := fun w => by
    by_cases hx : ∃ n, Q n w
    · obtain ⟨n, hn⟩ := hx
      induction n using Nat.strongRecOn with
      | ind n ih =>
        by_cases hy : ∃ k, k < n ∧ Q k w
        · obtain ⟨k, hk, hq⟩ := hy
          exact ih k hk hq
        · exact ⟨n, fun k hk => ⟨hn, Nat.le_of_not_lt (fun hlt => hy ⟨k, hlt, hk⟩)⟩⟩
    · exact ⟨0, fun n hn => absurd ⟨n, hn⟩ hx⟩
  exact ⟨fun w => Classical.choose (h w), fun w => Classical.choose_spec (h w)⟩
theorem sh_big {T : Tm} (h : T.sh = true) : T.big ≤ 1001 := by
  have := (sh_small9 h).1
  unfold Tm.big
  omega
theorem openA_res (t u : Tm) : ((openA t u).2 = 0 ∧ (openA t u).1.oka ∧ (openA t u).1.big ≤ 1001) ∨ ((openA t u).2 = 1 ∨ (openA t u).2 = 2) := by
  unfold openA
  split
  · rcases fin1_cases (rep1 (gO u) t.k t.n t.ls t.ks 0) with ⟨h, e⟩ | e
    · rw [e]; exact .inl ⟨rfl, sh_oka h, sh_big h⟩
    · rw [e]; exact .inr (.inr rfl)
  · exact .inr (.inl rfl)
theorem qA_res (P Q : Fo) (T : Tm) : ((qA P Q T).2 = 0 ∧ (qA P Q T).1.oka ∧ (qA P Q T).1.big ≤ 1001) ∨ ((qA P Q T).2 = 1 ∨ (qA P Q T).2 = 2) := by
  unfold qA
  split
  · rename_i h
    split
    · rename_i h2
      have h3 := sh_q h.1 h2
      exact .inl ⟨rfl, sh_oka h3, sh_big h3⟩
    · exact .inr (.inr rfl)
  · exact .inr (.inl rfl)
def RnP (H : Hr) (B lo MB : Nat) (ea : Option Addr) (len cap : Nat) (w : World) (e : Ending) (w' : World) : Prop := AcP MB lo w w' ∧ match H with
  | .no er => er ≠ 0 ∧ e = .returned (.int .i64 er)
  | .ok A m => e = .returned (.int .i64 0) ∧ ∃ (T : Tm) (xs : List Tm), xs.length ≤ 8000000 ∧ apA T xs = A ∧ Mi B lo MB ea len cap T (stF xs) m w'
def RnR (E : List Dc) (H : Hr) (B lo MB : Nat) (ea : Option Addr) (cap : Nat) (w0 : World) (s : Nat) (wr : World) : Prop := ∃ (T : Tm) (xs : List Tm) (n : Nat), Mi B lo MB ea E.length cap T (stF xs) n wr ∧ AcP MB lo w0 wr ∧ rnH (E.map Dc.dl) n T xs = H ∧ T.oka ∧ T.big ≤ 1001 ∧ (∀ x ∈ xs, x.oka ∧ x.big ≤ 1001) ∧ xs.length + T.big + 1001 * n ≤ 8000000 ∧ s = T.big + 1001 * n
theorem RnR.step {E : List Dc} {H : Hr} {B lo MB : Nat} {ea : Option Addr} {cap : Nat} {w0 wr w' : World} {xs ys : List Tm} {n s0 : Nat} {A : Tm × Int} (hon : onto (fun m u => rnH (E.map Dc.dl) m u ys) n A = H) (hA : (A.2 = 0 ∧ A.1.oka ∧ A.1.big ≤ 1001) ∨ (A.2 = 1 ∨ A.2 = 2)) (hac : AcP MB lo w0 wr) (hys : ∀ x ∈ ys, x.oka ∧ x.big ≤ 1001) (hl : ys.length ≤ xs.length) (hb : xs.length + s0 ≤ 8000000) (hs : 1001 * n + 1 ≤ s0) {e : Ending} (h : StP B lo MB ea E.length cap A (stF ys) n wr e w') :
    (∃ v, e = .returned (.tuple #[.bool false, .int .i64 v]) ∧ RnP H B lo MB ea E.length cap w0 (.returned (.int .i64 v)) w') ∨ (e = .returned (.tuple #[.bool true, .int .i64 0]) ∧ ∃ s, s < s0 ∧ RnR E H B lo MB ea cap w0 s w') := by
  obtain ⟨h1, h2⟩ := h
  have h3 := hac.trans h1
  unfold onto at hon
  rcases h2 with ⟨rfl, rfl⟩ | ⟨hn, hz, rfl, hm⟩ | ⟨hn, hz, rfl⟩
  · rw [if_pos rfl] at hon
    refine .inl ⟨40, rfl, h3, ?_⟩
    rw [← hon]
    exact ⟨by decide, rfl⟩
  · rw [if_neg hn, if_pos hz] at hon
    rcases hA with ⟨_, ho, hg⟩ | hA
    · refine .inr ⟨rfl, A.1.big + 1001 * (n - 1), by omega, A.1, ys, n - 1, hm, h3, hon, ho, hg, hys, by omega, rfl⟩
    · omega
  · rw [if_neg hn, if_neg hz] at hon
    have h12 : A.2 = 1 ∨ A.2 = 2 := by
      rcases hA with ⟨h, _⟩ | h
      · exact absurd h hz
      · exact h
    have e1 : A.2 = ((A.2.toNat : Nat) : Int) := by omega
    refine .inl ⟨A.2, rfl, h3, ?_⟩
    rw [← hon]
    refine ⟨by omega, ?_⟩
    rw [← e1]
theorem RnR.fin {E : List Dc} {H : Hr} {B lo MB : Nat} {ea : Option Addr} {cap : Nat} {w0 wr : World} {T : Tm} {xs : List Tm} {n : Nat} (hm : Mi B lo MB ea E.length cap T (stF xs) n wr) (hac : AcP MB lo w0 wr) (hH : rnH (E.map Dc.dl) n T xs = H) (ho : T.oka) (h7 : T.k ≠ 7) (h4 : T.k ≠ 4) (hu : unf (E.map Dc.dl) T = none) (h5 : T.k = 5 → xs = []) (hl : xs.length ≤ 8000000) :
    RnP H B lo MB ea E.length cap w0 (.returned (.int .i64 0)) wr := by
  rw [rn_end _ _ ho xs h7 h4 hu h5] at hH
  refine ⟨hac, ?_⟩
  rw [← hH]
  exact ⟨rfl, T, xs, hl, rfl, hm⟩
set_option maxRecDepth 100000 in
set_option maxHeartbeats 8000000 in
theorem yRun_any (E : List Dc) (B MB : Nat) (ea : Option Addr) (cap : Nat) (T0 : Tm) (n0 : Nat) (hn0 : n0 ≤ 5000) (w : World) (h : ∀ W, Below w.heap.size w W → w.heap.size < W.heap.size → Mi B (w.heap.size + 1) MB ea E.length cap T0 .nil n0 W) (hE : DsIn w (· < B) E ea cap) (hB : B ≤ MB) (hM : MB < w.heap.size) (ho : T0.oka) (hz : T0.big ≤ 1001) :
    Calls Tryz.prog 25 #[.pointer (some ⟨MB, 0, none⟩)] w (RnP (hd (E.map Dc.dl) n0 T0) B (w.heap.size + 1) MB ea E.length cap w) := by
  have hb : Below w.heap.size w (w.alloc (.map yTab 4)) := (Below.refl _ _).alloc (Nat.le_refl _) _
  have HT := Lib.hid (heap_new w (.map yTab 4))
  have HRUN := Lib.hid (yActs_any w)
  have HR0 : Hid (RnR E (hd (E.map Dc.dl) n0 T0) B (w.heap.size + 1) MB ea cap (w.alloc (.map yTab 4)) (T0.big + 1001 * n0) (w.alloc (.map yTab 4))) := Lib.hid ⟨T0, [], n0, h _ hb (by simp), AcP.refl _ _ _, rn_nil _ _ _, ho, hz, fun x hx => (by cases hx), by simp; omega, rfl⟩
  have HE : Hid (∀ W, AcP MB (w.heap.size + 1) (w.alloc (.map yTab 4)) W → DsIn W (· < B) E ea cap) := Lib.hid (fun W hW => (hE.below (hb.mono (by omega))).keep (fun b hx => hW.2.2.2.2 b (by have : b < B := hx; omega) (by have : b < B := hx; simp; omega) (by have : b < B := hx; omega)))
  have HTW : Hid (∀ W, AcP MB (w.heap.size + 1) (w.alloc (.map yTab 4)) W → W.heap[w.heap.size]? = some (.map yTab 4)) := Lib.hid (fun W hW => (hW.2.2.2.2 w.heap.size (by omega) (by simp) (by omega)).trans HT.out)
  have HAC := Lib.hid (fun (W : World) (hW : AcP MB (w.heap.size + 1) (w.alloc (.map yTab 4)) W) => (AcP.of (MB := MB) (lo := w.heap.size + 1) hb).trans hW)
  have HEND : Hid (∀ e W, RnP (hd (E.map Dc.dl) n0 T0) B (w.heap.size + 1) MB ea E.length cap (w.alloc (.map yTab 4)) e W → RnP (hd (E.map Dc.dl) n0 T0) B (w.heap.size + 1) MB ea E.length cap w e W) := Lib.hid (fun e W hp => ⟨HAC.out W hp.1, hp.2⟩)
  generalize hd (E.map Dc.dl) n0 T0 = H at HR0 HEND ⊢
  clear h hE hb ho hz hn0
  go_enter Tryz.func25, Tryz.ntmps25
  go_wp2_with (go_at_call 35; refine HRUN.out.mono ?_; rintro e w1 ⟨rfl, rfl⟩)
  clear HRUN
  obtain ⟨μ, hμ⟩ := least_w (RnR E H B (w.heap.size + 1) MB ea cap (w.alloc (.map yTab 4)))
  have HMU := Lib.hid hμ
  clear hμ
  obtain ⟨W0, hW0⟩ : ∃ W0, w.alloc (.map yTab 4) = W0 := ⟨_, rfl⟩
  rw [hW0] at HR0 HE HTW HAC HEND HMU ⊢
  clear hW0 HT
  obtain ⟨TB, hTB⟩ : ∃ TB, w.heap.size = TB := ⟨_, rfl⟩
  rw [hTB] at HR0 HE HTW HAC HEND HMU ⊢
  clear hTB
  generalize TB + 1 = lo at HR0 HE HTW HAC HEND HMU ⊢
  go_loopw [] (fun wr => ∃ s, Hid (RnR E H B lo MB ea cap W0 s wr)) (fun wr => μ wr)
  case atStart => exact ⟨_, HR0⟩
  case round =>
    clear HR0
    obtain ⟨s1, hQ⟩ := hrel
    obtain ⟨T, xs, n, hm, hac, hH, hoa, hbg, hxs, hsum, hmu⟩ := (HMU.out _ _ hQ.out).1
    clear hQ s1
    have HMI := Lib.hid hm
    have hn5 : n ≤ 100000 := by omega
    obtain ⟨la, lc, ka, kc, av, hm⟩ := hm
    obtain ⟨⟨m0, m1, m2, m3, m4, m5, m6⟩, mf, ml⟩ := hm.cells
    have hT := HTW.out _ hac
    have HB1 : 1 ≤ T.big := by unfold Tm.big; omega
    clear hm
    by_cases h7 : T.k = 7
    · rw [h7] at m1
      have l1 := run_ylook7 wr TB hT
      have hon := hH
      rw [rn_let _ _ hoa xs h7] at hon
      have HC := Lib.hid (yLet_any B lo MB ea E.length cap T (stF xs) n hn5 wr HMI.out (oka_seven hoa h7))
      have HST : Hid (∀ e w', StP B lo MB ea E.length cap (openA (T.kid 2) (T.kid 1)) (stF xs) n wr e w' → _) := Lib.hid (fun e w' => RnR.step (s0 := μ wr) hon (openA_res _ _) hac hxs (Nat.le_refl _) (by omega) (by omega))
      clear hon hH hac hoa hbg hxs hsum hmu hT h7 HB1 HMI hn5
      go_wp2_with fail
      refine HC.out.mono ?_
      intro e w2 hp
      rcases HST.out _ _ hp with ⟨v', rfl, hF⟩ | ⟨rfl, s2, hs2, hR2⟩
      · have HF2 := Lib.hid (HEND.out _ _ hF)
        clear hp hF HST HC
        go_wp2_with fail
        go_ret
        exact HF2.out
      · have HR2 := Lib.hid hR2
        have HS2 := Lib.hid hs2
        clear hp hR2 hs2 HST HC
        go_wp2_with fail
        go_roundw
        case rel => exact ⟨s2, HR2⟩
        case measure => have h1 := (HMU.out _ _ HR2.out).2; have h2 := HS2.out; omega
    · by_cases h3 : T.k = 3
      · rw [h3] at m1
        have l1 := run_ylook3 wr TB hT
        have HC := Lib.hid (yUnf_any E B lo MB ea cap T (stF xs) n hn5 wr HMI.out (HE.out _ hac) h3 hoa.2.1)
        cases hu : unf (E.map Dc.dl) T with
        | none =>
          have HF : Hid (∀ e w', UfP E B lo MB ea cap T (stF xs) n wr e w' → e = .returned (.tuple #[.bool false, .int .i64 0]) ∧ RnP H B lo MB ea E.length cap W0 (.returned (.int .i64 0)) w') := Lib.hid (fun e w' hp => by
            unfold UfP at hp
            rw [hu] at hp
            obtain ⟨rfl, h1, h2⟩ := hp
            exact ⟨rfl, RnR.fin h2 (hac.trans h1) hH hoa h7 (by omega) hu (fun h => by omega) (by omega)⟩)
          clear hu hH hac hoa hbg hxs hsum hmu hT h7 h3 HB1 HMI hn5
          go_wp2_with fail
          refine HC.out.mono ?_
          intro e w2 hp
          obtain ⟨rfl, hF⟩ := HF.out _ _ hp
          have HF2 := Lib.hid (HEND.out _ _ hF)
          clear hp hF
          go_wp2_with fail
          go_ret
          exact HF2.out
        | some v =>
          have hon := hH
          rw [rn_unf _ _ hoa xs h7 hu] at hon
          have HU := Lib.hid hu
          have HST : Hid (∀ e w', StP B lo MB ea E.length cap (qA T.ls .nil v) (stF xs) n wr e w' → _) := Lib.hid (fun e w' => RnR.step (s0 := μ wr) hon (qA_res _ _ _) hac hxs (Nat.le_refl _) (by omega) (by omega))
          clear hu
          clear hon hH hac hoa hbg hxs hsum hmu hT h7 HB1 HMI hn5 h3
          go_wp2_with fail
          refine HC.out.mono ?_
          intro e w2 hp
          unfold UfP at hp
          rw [HU.out] at hp
          rcases HST.out _ _ hp with ⟨v', rfl, hF⟩ | ⟨rfl, s2, hs2, hR2⟩
          · have HF2 := Lib.hid (HEND.out _ _ hF)
            clear hp hF HST HC
            go_wp2_with fail
            go_ret
            exact HF2.out
          · have HR2 := Lib.hid hR2
            have HS2 := Lib.hid hs2
            clear hp hR2 hs2 HST HC
            go_wp2_with fail
            go_roundw
            case rel => exact ⟨s2, HR2⟩
            case measure => have h1 := (HMU.out _ _ HR2.out).2; have h2 := HS2.out; omega
      · by_cases h4 : T.k = 4
        · rw [h4] at m1
          have l1 := run_ylook4 wr TB hT
          have hkl := oka_four hoa h4
          have HC := Lib.hid (yPush_any B lo MB ea E.length cap T (stF xs) n wr HMI.out hkl (by rw [stF_len]; omega))
          have HN : Hid (∀ w', AcP MB lo wr w' → Mi B lo MB ea E.length cap (T.kid 0) ((stF xs).app (T.kid 1).one) n w' → ∃ s, s < μ wr ∧ RnR E H B lo MB ea cap W0 s w') := Lib.hid (fun w' h1 h2 => by
            have k0 := kidT_big T.ks 0 (by omega)
            have k1 := kidT_big T.ks 1 (by omega)
            have hbd : T.big = T.ks.size + 1 := rfl
            have e0 : (T.kid 0).big = (kidT T.ks 0).big := rfl
            have e1 : (T.kid 1).big = (kidT T.ks 1).big := rfl
            rw [rn_app _ _ hoa xs h4] at hH
            refine ⟨(T.kid 0).big + 1001 * n, by omega, T.kid 0, T.kid 1 :: xs, n, h2, hac.trans h1, hH, okA_kid hoa.2.2 (by omega), by omega, fun x hx => ?_, by simp only [List.length_cons]; omega, rfl⟩
            rcases List.mem_cons.1 hx with rfl | hx
            · exact ⟨okA_kid hoa.2.2 (by omega), by omega⟩
            · exact hxs x hx)
          clear hH hac hoa hbg hxs hsum hmu hT h7 h3 h4 HB1 HMI hn5 hkl
          go_wp2_with fail
          refine HC.out.mono ?_
          rintro e w2 ⟨rfl, p1, p2⟩
          obtain ⟨s2, hs2, hR2⟩ := HN.out _ p1 p2
          have HR2 := Lib.hid hR2
          have HS2 := Lib.hid hs2
          clear p1 p2 hR2 hs2
          go_wp2_with fail
          go_roundw
          case rel => exact ⟨s2, HR2⟩
          case measure => have h1 := (HMU.out _ _ HR2.out).2; have h2 := HS2.out; omega
        · by_cases h5 : T.k = 5
          · rw [h5] at m1
            have l1 := run_ylook5 wr TB hT
            have hu := unf_not3 (E := E.map Dc.dl) h3
            cases xs with
            | nil =>
              have HC := Lib.hid (yApply_nil B lo MB ea E.length cap T n wr HMI.out)
              have HF := Lib.hid (HEND.out _ _ (RnR.fin HMI.out hac hH hoa h7 h4 hu (fun _ => rfl) (by simp)))
              clear hu hH hac hoa hbg hxs hsum hmu hT h7 h3 h4 h5 HB1 HMI hn5
              go_wp2_with fail
              refine HC.out.mono ?_
              rintro e w2 ⟨rfl, rfl⟩
              go_wp2_with fail
              go_ret
              exact HF.out
            | cons x ys =>
              have hon := hH
              rw [rn_lam _ _ hoa x ys h5] at hon
              have HC := Lib.hid (yApply_any B lo MB ea E.length cap T x (stF ys) n hn5 wr HMI.out (oka_five hoa h5))
              have hys : ∀ z ∈ ys, z.oka ∧ z.big ≤ 1001 := fun z hz => hxs z (List.mem_cons_of_mem _ hz)
              have HST : Hid (∀ e w', StP B lo MB ea E.length cap (openA (T.kid 1) x) (stF ys) n wr e w' → _) := Lib.hid (fun e w' => RnR.step (s0 := μ wr) (xs := x :: ys) hon (openA_res _ _) hac hys (by simp) (by omega) (by omega))
              clear hu hys
              clear hon hH hac hoa hbg hxs hsum hmu hT h7 HB1 HMI hn5 h3 h4 h5
              go_wp2_with fail
              refine HC.out.mono ?_
              intro e w2 hp
              rcases HST.out _ _ hp with ⟨v', rfl, hF⟩ | ⟨rfl, s2, hs2, hR2⟩
              · have HF2 := Lib.hid (HEND.out _ _ hF)
                clear hp hF HST HC
                go_wp2_with fail
                go_ret
                exact HF2.out
              · have HR2 := Lib.hid hR2
                have HS2 := Lib.hid hs2
                clear hp hR2 hs2 HST HC
                go_wp2_with fail
                go_roundw
                case rel => exact ⟨s2, HR2⟩
                case measure => have h1 := (HMU.out _ _ HR2.out).2; have h2 := HS2.out; omega
          · have l1 := run_ylook_no wr TB hT T.k h7 h3 h4 h5
            have hu := unf_not3 (E := E.map Dc.dl) h3
            have HF := Lib.hid (HEND.out _ _ (RnR.fin HMI.out hac hH hoa h7 h4 hu (fun h => absurd h h5) (by omega)))
            clear hu hH hac hoa hbg hxs hsum hmu hT h7 h3 h4 h5 HB1 HMI hn5
            go_wp2_with fail
            go_ret
            exact HF.out
end Go.Proofs.YtnfhpombnbpdcaaGreat
