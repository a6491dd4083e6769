/- The contract of the document's own Value, of right levels and right values. -/
import Derived.Test.YtmbopdlmkbbbiaaVals
import Derived.Deep.RegionHeld3
namespace Go.Proofs.Ytmbopdlmkbbbiaa
open Go.RowKit

theorem vNode_1 (ps ms : List Int) (n : Int) (vs : List Int) : vNode ps ms 1 n vs = 0 := rfl
theorem vNode_2 (ps ms : List Int) (n v : Int) (vs : List Int) : vNode ps ms 2 n (v :: vs) = 1 + v := by simp [vNode]; omega
theorem vNode_3 (ps ms : List Int) (n v u : Int) (vs : List Int) : vNode ps ms 3 n (v :: u :: vs) = max v u := by simp [vNode]
theorem vNode_40 (ps ms : List Int) (n v : Int) (vs : List Int) : vNode ps ms 4 n (v :: 0 :: vs) = 0 := by simp [vNode]
theorem vNode_4 (ps ms : List Int) (n v u : Int) (vs : List Int) (h : u ≠ 0) : vNode ps ms 4 n (v :: u :: vs) = max v u := by simp [vNode, h]
theorem vNode_5 (ps ms : List Int) (n : Int) (vs : List Int) : vNode ps ms 5 n vs = ps.getD n.toNat 0 := rfl
theorem vNode_6 (ps ms : List Int) (n : Int) (vs : List Int) : vNode ps ms 6 n vs = ms.getD n.toNat 0 := rfl

/-- Of two Kids that are right: what their values are. -/
theorem kids_two {p m : Int} {k n k' n' : Int} {ks ks' : Fo} {d : Int} (h : rAll p m (.cons k n ks (.cons k' n' ks' .nil)) d = true) :
    rNode p m k n ks.len d (rAll p m ks (d - 1)) = true ∧ rNode p m k' n' ks'.len d (rAll p m ks' (d - 1)) = true := by
  simp only [rAll, Bool.and_eq_true, and_true] at h
  exact h
theorem kids_one {p m : Int} {k n : Int} {ks : Fo} {d : Int} (h : rAll p m (.cons k n ks .nil) d = true) :
    rNode p m k n ks.len d (rAll p m ks (d - 1)) = true := by
  simp only [rAll, Bool.and_eq_true, and_true] at h
  exact h
theorem node_bound {p m : Int} {ps ms : List Int} (hp : natsB ps = true) (hm : natsB ms = true) {k n : Int} {f : Fo} {d : Int} (h : rNode p m k n f.len d (rAll p m f (d - 1)) = true) :
    0 ≤ vNode ps ms k n (vals ps ms f) ∧ vNode ps ms k n (vals ps ms f) ≤ 1099511627776 + d := by
  obtain ⟨hd, _, _, _, hf⟩ := node_parts h
  have := vNode_bound hp hm k n (D := d - 1) (by omega) (vals_bound hp hm f (d - 1) hf (by omega))
  omega

theorem max_ite (v u : Int) : max v u = if v < u then u else v := by split <;> omega
/-- What the region of Max holds on to, in a world that is only more. -/
theorem heldS {w W w' : World} {B b o cap cap' cap'' x : Nat} {k' n' k'' n'' : Int} {a' a'' : Option Addr} {l l' : Nat} (hb : Below (w.heap.size + 1) W w') (hbB : b < B) (hB : B ≤ w.heap.size)
    (c2 : W.cell? ⟨w.heap.size, 2, none⟩ = some (.slice (some ⟨b, o, none⟩) x cap)) (e0 : W.cell? ⟨b, o, none⟩ = some (.int .i64 k')) (e1 : W.cell? ⟨b, o + 1, none⟩ = some (.int .i64 n')) (e2 : W.cell? ⟨b, o + 2, none⟩ = some (.slice a' l cap'))
    (e3 : W.cell? ⟨b, o + 3, none⟩ = some (.int .i64 k'')) (e4 : W.cell? ⟨b, o + 3 + 1, none⟩ = some (.int .i64 n'')) (e5 : W.cell? ⟨b, o + 3 + 2, none⟩ = some (.slice a'' l' cap'')) :
    Hid (Below (w.heap.size + 1) W w') ∧ w'.cell? ⟨w.heap.size, 2, none⟩ = some (.slice (some ⟨b, o, none⟩) x cap) ∧ w'.cell? ⟨b, o, none⟩ = some (.int .i64 k') ∧ w'.cell? ⟨b, o + 1, none⟩ = some (.int .i64 n') ∧ w'.cell? ⟨b, o + 2, none⟩ = some (.slice a' l cap') ∧
      w'.cell? ⟨b, o + 3, none⟩ = some (.int .i64 k'') ∧ w'.cell? ⟨b, o + 3 + 1, none⟩ = some (.int .i64 n'') ∧ w'.cell? ⟨b, o + 3 + 2, none⟩ = some (.slice a'' l' cap'') :=
  ⟨Lib.hid hb, (bcell hb _ _ (by omega)).trans c2, (bcell hb _ _ (by omega)).trans e0, (bcell hb _ _ (by omega)).trans e1, (bcell hb _ _ (by omega)).trans e2, (bcell hb _ _ (by omega)).trans e3, (bcell hb _ _ (by omega)).trans e4, (bcell hb _ _ (by omega)).trans e5⟩

set_option maxRecDepth 100000 in
set_option maxHeartbeats 4000000 in
theorem value_any (ps ms : List Int) (hp : natsB ps = true) (hm : natsB ms = true) (s : Nat) : ∀ (f : Fo), f.size < s → ∀ (k n d : Int) (a ap am : Option Addr) (cap cp cm B : Nat) (w : World),
    SlIn w (· < B) f a cap → IntsIn w (· < B) ps ap cp → IntsIn w (· < B) ms am cm → B ≤ w.heap.size → d ≤ 12 → rNode ps.length ms.length k n f.len d (rAll ps.length ms.length f (d - 1)) = true →
    Calls Try.prog 45 #[.agg #[.int .i64 k, .int .i64 n, .slice a f.len cap], .slice ap ps.length cp, .slice am ms.length cm] w fun e w' => e = .returned (.int .i64 (vNode ps ms k n (vals ps ms f))) ∧ Below w.heap.size w w' := by
  induction s with
  | zero => intro f hs; omega
  | succ s ih =>
    intro f hs k n d a ap am cap cp cm B w hsl hip him hB hd hr
    have IH := Lib.hid ih
    clear ih
    obtain ⟨hd1, hkl, hn0, hn1, hall⟩ := node_parts hr
    have HP := Lib.hid hp
    have HM := Lib.hid hm
    clear hp hm hr
    generalize hL : f.len = L at hkl ⊢
    have hbox : Below B w (w.alloc (.cells #[.int .i64 k, .int .i64 n, .slice a L cap] 30)) := (Below.refl _ _).alloc hB _
    rcases kidsOf_range k (by omega) with rfl | rfl | rfl | rfl | rfl | rfl
    · clear hall hkl hn1 hL
      rw [vNode_1]
      go_enter Try.func45, Try.ntmps45
      go_wp2_with fail
      go_ret
      exact ⟨rfl, (Below.refl _ _).alloc (Nat.le_refl _) _⟩
    · obtain rfl : L = 1 := by simp [kidsOf] at hkl; omega
      obtain ⟨k', n', ks, rfl⟩ := fo_one hL
      have hk := kids_one hall
      obtain ⟨hv0, hv1⟩ := node_bound HP.out HM.out hk
      have HK := Lib.hid hk
      clear hk hall hkl hn1 hL
      obtain ⟨b, o, rfl, hbB, hf0⟩ := hsl.some (by simp [Fo.len])
      obtain ⟨e0, e1, ⟨a', cap', e2, hsl'⟩, hrest⟩ := (hf0.below hbox _ _ _ hbB).first
      have hks : ks.size < s := by simp [Fo.size] at hs; omega
      rw [show vals ps ms (.cons k' n' ks .nil) = vNode ps ms k' n' (vals ps ms ks) :: [] from rfl, vNode_2]
      generalize hv : vNode ps ms k' n' (vals ps ms ks) = v at hv0 hv1 ⊢
      have HV := Lib.hid hv
      clear hv
      go_enter Try.func45, Try.ntmps45
      go_wp2_with fail
      refine (IH.out ks hks k' n' (d - 1) _ _ _ _ _ _ B _ hsl' (hip.below hbox) (him.below hbox) (Nat.le_trans hB hbox.size) (by omega) HK.out).mono ?_
      rintro e w2 ⟨rfl, hb2⟩
      rw [HV.out]
      go_wp2_with fail
      go_ret
      exact ⟨rfl, Below.step ((Below.refl _ _).alloc (Nat.le_refl _) _) hb2 (Nat.le_refl _)⟩
    · obtain rfl : L = 2 := by simp [kidsOf] at hkl; omega
      obtain ⟨k', n', ks, k'', n'', ks', rfl⟩ := fo_two hL
      obtain ⟨hk, hk'⟩ := kids_two hall
      obtain ⟨hv0, hv1⟩ := node_bound HP.out HM.out hk
      obtain ⟨hu0, hu1⟩ := node_bound HP.out HM.out hk'
      have HK := Lib.hid hk
      have HK' := Lib.hid hk'
      clear hk hk' hall hkl hn1 hL
      obtain ⟨b, o, rfl, hbB, hf0⟩ := hsl.some (by simp [Fo.len])
      obtain ⟨e0, e1, ⟨a', cap', e2, hsl'⟩, hrest⟩ := (hf0.below hbox _ _ _ hbB).first
      obtain ⟨e3, e4, ⟨a'', cap'', e5, hsl''⟩, _⟩ := hrest.first
      clear hrest
      have hks : ks.size < s := by simp [Fo.size] at hs; omega
      have hks' : ks'.size < s := by simp [Fo.size] at hs; omega
      rw [show vals ps ms (.cons k' n' ks (.cons k'' n'' ks' .nil)) = vNode ps ms k' n' (vals ps ms ks) :: vNode ps ms k'' n'' (vals ps ms ks') :: [] from rfl, vNode_3]
      have C1 := Lib.hid (fun W h1 h2 h3 h4 => IH.out ks hks k' n' (d - 1) a' ap am cap' cp cm B W h1 h2 h3 h4 (by omega) HK.out)
      have C2 := Lib.hid (fun W h1 h2 h3 h4 => IH.out ks' hks' k'' n'' (d - 1) a'' ap am cap'' cp cm B W h1 h2 h3 h4 (by omega) HK'.out)
      clear IH HK HK'
      generalize vNode ps ms k' n' (vals ps ms ks) = v at hv0 hv1 C1 ⊢
      generalize vNode ps ms k'' n'' (vals ps ms ks') = u at hu0 hu1 C2 ⊢
      have hbig : Below (w.heap.size + 1) (w.alloc (.cells #[.int .i64 3, .int .i64 n, .slice (some ⟨b, o, none⟩) 2 cap] 30)) (w.alloc (.cells #[.int .i64 3, .int .i64 n, .slice (some ⟨b, o, none⟩) 2 cap] 30)) := Below.refl _ _
      have c2 : (w.alloc (.cells #[.int .i64 3, .int .i64 n, .slice (some ⟨b, o, none⟩) 2 cap] 30)).cell? ⟨w.heap.size, 2, none⟩ = some (.slice (some ⟨b, o, none⟩) 2 cap) := by simp
      have hboxW := Lib.hid ((Below.refl w.heap.size w).alloc (Nat.le_refl _) (.cells #[.int .i64 3, .int .i64 n, .slice (some ⟨b, o, none⟩) 2 cap] 30))
      have hB1 : B ≤ w.heap.size + 1 := by omega
      have hipW := hip.below hbox
      have himW := him.below hbox
      go_enter Try.func45, Try.ntmps45
      go_wp2_with fail
      generalize hW : w.alloc (.cells #[.int .i64 3, .int .i64 n, .slice (some ⟨b, o, none⟩) 2 cap] 30) = W at *
      have hWs : W.heap.size = w.heap.size + 1 := by rw [← hW]; simp
      have HWs := Lib.hid hWs
      clear hW hWs hbig
      go_region_held3 (fun w' => Hid (Below (w.heap.size + 1) W w') ∧ w'.cell? ⟨w.heap.size, 2, none⟩ = some (.slice (some ⟨b, o, none⟩) 2 cap) ∧ w'.cell? ⟨b, o, none⟩ = some (.int .i64 k') ∧ w'.cell? ⟨b, o + 1, none⟩ = some (.int .i64 n') ∧ w'.cell? ⟨b, o + 2, none⟩ = some (.slice a' ks.len cap') ∧
          w'.cell? ⟨b, o + 3, none⟩ = some (.int .i64 k'') ∧ w'.cell? ⟨b, o + 3 + 1, none⟩ = some (.int .i64 n'') ∧ w'.cell? ⟨b, o + 3 + 2, none⟩ = some (.slice a'' ks'.len cap''))
        (first | exact ⟨Lib.hid (Below.refl _ _).drew, c2, e0, e1, e2, e3, e4, e5⟩ | (go_split_ands; exact heldS (Below.step (Hid.out (by assumption)) hbN (Nat.le_of_eq HWs.out.symm)) hbB hB c2 e0 e1 e2 e3 e4 e5))
        (first | (go_at_call_of 45 (Value.int .i64 k'); go_split_ands; refine (C1.out _ (by exact hsl'.below (Below.mono (Hid.out (by assumption)) hB1)) (by exact hipW.below (Below.mono (Hid.out (by assumption)) hB1)) (by exact himW.below (Below.mono (Hid.out (by assumption)) hB1)) (by exact Nat.le_trans hB1 (Nat.le_trans (Nat.le_of_eq HWs.out.symm) (Below.size (Hid.out (by assumption)))))).mono ?_; rintro e wN ⟨rfl, hbN⟩) | (go_at_call_of 45 (Value.int .i64 k''); go_split_ands; refine (C2.out _ (by exact hsl''.below (Below.mono (Hid.out (by assumption)) hB1)) (by exact hipW.below (Below.mono (Hid.out (by assumption)) hB1)) (by exact himW.below (Below.mono (Hid.out (by assumption)) hB1)) (by exact Nat.le_trans hB1 (Nat.le_trans (Nat.le_of_eq HWs.out.symm) (Below.size (Hid.out (by assumption)))))).mono ?_; rintro e wN ⟨rfl, hbN⟩))
      go_split_ands
      have hEnd : Hid (Below w.heap.size w wN) := Lib.hid (hboxW.out.trans (Below.mono (Hid.out (by assumption)) (Nat.le_succ _)))
      go_wp2_with fail
      all_goals go_ret
      all_goals exact ⟨by rw [max_ite]; first | (rw [if_pos (by assumption)]; rfl) | (rw [if_neg (by omega)]; rfl), hEnd.out⟩
    · obtain rfl : L = 2 := by simp [kidsOf] at hkl; omega
      obtain ⟨k', n', ks, k'', n'', ks', rfl⟩ := fo_two hL
      obtain ⟨hk, hk'⟩ := kids_two hall
      obtain ⟨hv0, hv1⟩ := node_bound HP.out HM.out hk
      obtain ⟨hu0, hu1⟩ := node_bound HP.out HM.out hk'
      have HK := Lib.hid hk
      have HK' := Lib.hid hk'
      clear hk hk' hall hkl hn1 hL
      obtain ⟨b, o, rfl, hbB, hf0⟩ := hsl.some (by simp [Fo.len])
      obtain ⟨e0, e1, ⟨a', cap', e2, hsl'⟩, hrest⟩ := (hf0.below hbox _ _ _ hbB).first
      obtain ⟨e3, e4, ⟨a'', cap'', e5, hsl''⟩, _⟩ := hrest.first
      clear hrest
      have hks : ks.size < s := by simp [Fo.size] at hs; omega
      have hks' : ks'.size < s := by simp [Fo.size] at hs; omega
      rw [show vals ps ms (.cons k' n' ks (.cons k'' n'' ks' .nil)) = vNode ps ms k' n' (vals ps ms ks) :: vNode ps ms k'' n'' (vals ps ms ks') :: [] from rfl]
      have C1 := Lib.hid (fun W h1 h2 h3 h4 => IH.out ks hks k' n' (d - 1) a' ap am cap' cp cm B W h1 h2 h3 h4 (by omega) HK.out)
      have C2 := Lib.hid (fun W h1 h2 h3 h4 => IH.out ks' hks' k'' n'' (d - 1) a'' ap am cap'' cp cm B W h1 h2 h3 h4 (by omega) HK'.out)
      clear IH HK HK'
      generalize vNode ps ms k' n' (vals ps ms ks) = v at hv0 hv1 C1 ⊢
      generalize vNode ps ms k'' n'' (vals ps ms ks') = u at hu0 hu1 C2 ⊢
      have hipW := hip.below hbox
      have himW := him.below hbox
      have hbb : b < w.heap.size := by omega
      by_cases hu : u = 0
      · subst hu
        rw [vNode_40]
        go_enter Try.func45, Try.ntmps45
        go_wp2_with fail
        refine (C2.out _ hsl'' hipW himW (Nat.le_trans hB hbox.size)).mono ?_
        rintro e w2 ⟨rfl, hb2⟩
        go_wp2_with fail
        go_ret
        exact ⟨rfl, Below.step ((Below.refl _ _).alloc (Nat.le_refl _) _) hb2 (Nat.le_refl _)⟩
      · have du : (u == 0) = false := beq_eq_false_iff_ne.2 hu
        rw [vNode_4 _ _ _ _ _ _ hu]
        clear hu
        have HS := Lib.hid hsl'
        go_enter Try.func45, Try.ntmps45
        go_wp2_with fail
        refine (C2.out _ hsl'' hipW himW (Nat.le_trans hB hbox.size)).mono ?_
        rintro e w2 ⟨rfl, hb2⟩
        have hb2' : Below (w.heap.size + 1) (w.alloc (.cells #[.int .i64 4, .int .i64 n, .slice (some ⟨b, o, none⟩) 2 cap] 30)) w2 := by simpa using hb2
        have g2 := bcell hb2' w.heap.size 2 (by omega)
        have g3 := (bcell hb2' b o (by omega)).trans e0
        have g4 := (bcell hb2' b (o + 1) (by omega)).trans e1
        have g5 := (bcell hb2' b (o + 2) (by omega)).trans e2
        simp at g2
        have hbB2 : Below B w w2 := hbox.trans (hb2'.mono (by omega))
        clear hb2 e0 e1 e2 e3 e4 e5
        go_wp2_with fail
        refine (C1.out _ (HS.out.below (hb2'.mono (by omega))) (hip.below hbB2) (him.below hbB2) (Nat.le_trans hB hbB2.size)).mono ?_
        rintro e w3 ⟨rfl, hb3⟩
        have hEnd := Lib.hid (Below.step (((Below.refl _ _).alloc (Nat.le_refl _) _).trans (hb2'.mono (by omega))) hb3 (Nat.le_refl _))
        go_wp2_with fail
        all_goals go_ret
        all_goals exact ⟨by rw [max_ite]; first | (rw [if_pos (by assumption)]; rfl) | (rw [if_neg (by omega)]; rfl), hEnd.out⟩
    · obtain rfl : L = 0 := by simp [kidsOf] at hkl; omega
      have hn2 : n < (ps.length : Int) := by simpa [limOf] using hn1
      clear hall hkl hn1 hL
      rw [vNode_5]
      obtain ⟨j, rfl⟩ := Int.eq_ofNat_of_zero_le hn0
      have hj : j < ps.length := by omega
      obtain ⟨b, o, rfl, hbB, hc⟩ := hip.some (by omega)
      have hcj := (bcell hbox b (o + j) hbB).trans (hc j hj)
      rw [Int.toNat_natCast]
      clear hc
      generalize ps.getD j 0 = x at hcj ⊢
      go_enter Try.func45, Try.ntmps45
      go_wp2_with fail
      go_ret
      exact ⟨rfl, (Below.refl _ _).alloc (Nat.le_refl _) _⟩
    · obtain rfl : L = 0 := by simp [kidsOf] at hkl; omega
      have hn2 : n < (ms.length : Int) := by simpa [limOf] using hn1
      clear hall hkl hn1 hL
      rw [vNode_6]
      obtain ⟨j, rfl⟩ := Int.eq_ofNat_of_zero_le hn0
      have hj : j < ms.length := by omega
      obtain ⟨b, o, rfl, hbB, hc⟩ := him.some (by omega)
      have hcj := (bcell hbox b (o + j) hbB).trans (hc j hj)
      rw [Int.toNat_natCast]
      clear hc
      generalize ms.getD j 0 = x at hcj ⊢
      go_enter Try.func45, Try.ntmps45
      go_wp2_with fail
      go_ret
      exact ⟨rfl, (Below.refl _ _).alloc (Nat.le_refl _) _⟩
end Go.Proofs.Ytmbopdlmkbbbiaa
