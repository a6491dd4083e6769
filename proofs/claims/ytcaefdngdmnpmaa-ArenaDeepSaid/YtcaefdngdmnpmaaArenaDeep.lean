/- For every two bytes and list of bytes the law ArenaDeep returns true: of arenas that are built by hand, up to a thousand deep, the program tells what the document's own answer tells. No condition. -/
import Derived.Test.YtcaefdngdmnpmaaDeep
namespace Go.Proofs.Ytcaefdngdmnpmaa.arenaDeep
open Go.ChangeShapes Go.WideShapes Go.ChangeAt Go.RowKit

theorem own : ownKnob Try.prog.godebug = none := by kernel_rfl

set_option maxRecDepth 100000 in
set_option maxHeartbeats 4000000 in
theorem walk (l1 c1 : Nat) (a1 : Option Addr) (X Y : Int) (w : World) (h1 : U8In w (· < w.heap.size) l1 a1 c1) (hX0 : 0 ≤ X) (hX1 : X ≤ 255) (hY0 : 0 ≤ Y) (hY1 : Y ≤ 255) :
    Calls Try.prog 6 #[.int .u8 X, .int .u8 Y, .slice a1 l1 c1] w fun e w' => e = .returned (.bool true) ∧ Below w.heap.size w w' := by
  have HM : Hid (∀ W, Below w.heap.size w W → Calls Try.prog 12 #[.slice a1 l1 c1, .int .i64 5, .int .i64 10] W (MadeOk 5 10 W)) := Lib.hid (fun W h => made_any 5 10 (by omega) (by omega) (by omega) (by omega) l1 c1 w.heap.size a1 W (h1.keep' (fun b hb => h.block b hb)) h.size)
  have HS := Lib.hid (start w)
  by_cases e : Y % 3 = 2
  case neg => exact walk01 l1 c1 a1 X Y w h1 hX0 hX1 hY0 hY1 e
  clear h1
  · obtain ⟨m, hm⟩ : ∃ m : Nat, 994 + X % 9 = (m : Int) := ⟨(994 + X % 9).toNat, by omega⟩
    have hm1 : m ≤ 1002 := by omega
    have b1 : (Y % 3 == 1) = false := by rw [e]; rfl
    have t1 : (Y.tmod 3 == 1) = false := by rw [Int.tmod_eq_emod_of_nonneg hY0, e]; rfl
    have b2 : (Y % 3 == 2) = true := by rw [e]; rfl
    have t2 : (Y.tmod 3 == 2) = true := by rw [Int.tmod_eq_emod_of_nonneg hY0, e]; rfl
    have HE := Lib.hid e
    clear e
    go_enter Try.func6, Try.ntmps6
    go_wp2_with fail
    try rw [hm]
    clear hm
    generalize (w.alloc (.cells #[.int .i64 1, .int .i64 0, .int .i64 0, .int .i64 0] 37)).alloc (.cells #[.slice (some ⟨w.heap.size, 0, none⟩) 1 1] 24) = W0 at HS ⊢
    go_loopw [9] (fun i wr => ∃ (j : Nat) (M : List Nd) (g c : Nat), i = .int .i64 j ∧ j ≤ m ∧ M.length = j + 1 ∧ Hid (SpAt w (w.heap.size + 1) g c M wr)) (fun i _ => m - (intOf i).toNat)
    case atStart => exact ⟨0, _, _, _, rfl, Nat.zero_le _, rfl, HS⟩
    case round =>
      obtain ⟨j, M, g, c, rfl, hj, hM, hR⟩ := hrel
      by_cases hlt : j < m
      · have hlt' : (j : Int) < (m : Int) := by omega
        have hj0 : (0 : Int) ≤ (j : Int) := by omega
        have ez := free_of hR.out.a
        have e0 := cell_at hR.out.a 0
        simp at e0
        have lA := lt_of_block hR.out.a
        have HPRE : Hid (SpAt w (w.heap.size + 1) g c M (wr.alloc (.cells #[.int .i64 2, .int .i64 0, .int .i64 j, .int .i64 0] 37))) := Lib.hid (SpAt.alloc hR.out _)
        obtain ⟨g2, c2, w3, hrun, p1, p2, p3⟩ := sp_push (A := w.heap.size + 1) (w := w) (w1 := wr.alloc (.cells #[.int .i64 2, .int .i64 0, .int .i64 j, .int .i64 0] 37)) (ns := M) (x := some ⟨g, 0, none⟩) (c := c) HPRE.out.own HPRE.out.hb HPRE.out.a (by omega) (by omega) (⟨2, 0, j, 0⟩ : Nd)
        rw [hM] at hrun p1 p3
        have hlM : (M ++ [(⟨2, 0, j, 0⟩ : Nd)]).length = j + 1 + 1 := by rw [List.length_append, hM]; rfl
        simp only [World.size_alloc] at hrun
        have HRUN := Lib.hid hrun
        have HZ := Lib.hid p3
        have HML := Lib.hid hlM
        rw [hM] at e0
        clear hrun p3 hlM hM hR HS HPRE
        go_wp2_with (at_builtin; refine wpList_append_run (by rfl) _ _ _ (by rfl) (by rfl) (by rfl) HRUN.out ?_)
        go_roundw
        case rel => exact ⟨j + 1, _, g2, c2, by go_num, by omega, HML.out, HZ⟩
        case measure => simp [intOf]; omega
      · have hlt' : ¬ (j : Int) < (m : Int) := by omega
        have u1 : Y % 3 = 2 := HE.out
        have u2 : Y.tmod 3 = 2 := by rw [Int.tmod_eq_emod_of_nonneg hY0]; exact u1
        have u3 : decide (Y.tmod 3 = 2) = true := by rw [u2]; rfl
        clear b1 t1 b2 t2
        have e0 := cell_at hR.out.a 0
        simp at e0
        have HLA := Lib.hid (lt_of_block hR.out.a)
        have HB := Lib.hid hR.out.hb
        have HT : Hid (∀ (i : Int) (v : Value) (W' : World), Below wr.heap.size wr W' → Lvl v W' → Calls Try.prog 10 #[.agg #[.slice (some ⟨g, 0, none⟩) M.length c], v, .int .i64 i] W' fun e w' => e = .returned (.bool true) ∧ Below W'.heap.size W' w') := Lib.hid (fun i v W' h hs => by
          obtain ⟨k, n, F, y, d, rfl, hs⟩ := hs
          exact told4_any M _ c k n F y d i W'.heap.size W' ((hR.out.tl.later h).mono h.size) hs (Nat.le_refl _) (by omega))
        generalize M.length = L at e0 HT hM
        have HHM := Lib.hid hM
        clear hM hR HS
        go_wp2_with fail
        refine wp_region_held_drew (S := fun w' => Hid (Below wr.heap.size wr w') ∧ w'.cell? ⟨w.heap.size + 1, 0, none⟩ = some (.slice (some ⟨g, 0, none⟩) L c)) (by kernel_rfl) ⟨Lib.hid (Below.refl _ _).drew, e0⟩ (fun hH => ?_)
        refine wpAnyH_ready (rs := [0]) (by kernel_rfl) (by simp) ?_
        refine AllReadyH.cons (o := _) (by simp only [List.getElem?_toArray, List.getElem?_cons_zero]; rfl) (fun K hK => ?_) AllReadyH.nil
        go_simp
        go_at_call 8
        refine (awake4_any _).mono ?_
        rintro e wN0 ⟨rfl, b0⟩
        have hN0 : Hid (Below wr.heap.size wr wN0) := Lib.hid (Below.step hH.1.out b0 (Nat.le_refl _))
        refine hK.out _ _ ⟨hN0, (bcell hN0.out _ 0 HLA.out).trans e0⟩ (fun hH0 => ?_)
        clear hH hK K
        have hH := hH0
        try simp only [Act.put, List.setIfInBounds_toArray, List.set_cons_zero, List.set_cons_succ]
        refine wpAnyH_take (i := 1) (v := ?_) (by simp only [List.getElem?_toArray, List.getElem?_cons_succ, List.getElem?_cons_zero]; rfl) (by kernel_rfl) (by kernel_rfl) (by kernel_rfl) (by intro _ _ _ h; exact h) (Or.inl ⟨by rfl, ?_⟩) hH ?_
        rotate_left
        · intro w' hSw
          obtain ⟨_, hc⟩ := hSw
          go_simp
          try with_reducible rfl
        try simp only [Act.put, List.setIfInBounds_toArray, List.set_cons_zero, List.set_cons_succ]
        refine wpAnyH_take (i := 2) (v := ?_) (by simp only [List.getElem?_toArray, List.getElem?_cons_succ, List.getElem?_cons_zero]; rfl) (by kernel_rfl) (by kernel_rfl) (by kernel_rfl) (by intro _ _ _ h; exact h) (Or.inl ⟨by rfl, ?_⟩) hH ?_
        rotate_left
        · intro w' hSw
          obtain ⟨_, hc⟩ := hSw
          go_simp
          try with_reducible rfl
        try simp only [Act.put, List.setIfInBounds_toArray, List.set_cons_zero, List.set_cons_succ]
        refine wpAnyH_take (i := 3) (v := ?_) (by simp only [List.getElem?_toArray, List.getElem?_cons_succ, List.getElem?_cons_zero]; rfl) (by kernel_rfl) (by kernel_rfl) (by kernel_rfl) (by intro _ _ _ h; exact h) (Or.inl ⟨by rfl, ?_⟩) hH ?_
        rotate_left
        · intro w' hSw
          obtain ⟨_, hc⟩ := hSw
          go_simp
          try with_reducible rfl
        try simp only [Act.put, List.setIfInBounds_toArray, List.set_cons_zero, List.set_cons_succ]
        refine wpAnyH_take (i := 5) (v := ?_) (by simp only [List.getElem?_toArray, List.getElem?_cons_succ, List.getElem?_cons_zero]; rfl) (by kernel_rfl) (by kernel_rfl) (by kernel_rfl) (by intro _ _ _ h; exact h) (Or.inl ⟨by rfl, ?_⟩) hH ?_
        rotate_left
        · intro w' hSw
          obtain ⟨_, hc⟩ := hSw
          go_simp
          try with_reducible rfl
        try simp only [Act.put, List.setIfInBounds_toArray, List.set_cons_zero, List.set_cons_succ]
        refine wpAnyH_ready (rs := [4]) (by kernel_rfl) (by simp) ?_
        refine AllReadyH.cons (o := _) (by simp only [List.getElem?_toArray, List.getElem?_cons_succ, List.getElem?_cons_zero]; rfl) (fun K hK => ?_) AllReadyH.nil
        go_simp
        go_at_call 12
        refine (HM.out _ (by exact Below.step HB.out hN0.out (Nat.le_refl _))).mono ?_
        rintro e wN4 ⟨k, n, F, y, d, rfl, _, sM, b4⟩
        have hN4 : Hid (Below wr.heap.size wr wN4) := Lib.hid (Below.step hH.1.out b4 (Nat.le_refl _))
        refine hK.out _ _ ⟨hN4, (bcell hN4.out _ 0 HLA.out).trans e0⟩ (fun hH4 => ?_)
        clear hH hK K
        have hH := hH4
        try simp only [Act.put, List.setIfInBounds_toArray, List.set_cons_zero, List.set_cons_succ]
        refine wpAnyH_ready (rs := [6]) (by kernel_rfl) (by simp) ?_
        refine AllReadyH.cons (o := _) (by simp only [List.getElem?_toArray, List.getElem?_cons_succ, List.getElem?_cons_zero]; rfl) (fun K hK => ?_) AllReadyH.nil
        go_simp
        go_at_call 10
        refine (HT.out _ _ _ hN4.out (Lvl.mk sM)).mono ?_
        rintro e wN6 ⟨rfl, b6⟩
        have hN6 : Hid (Below wr.heap.size wr wN6) := Lib.hid (Below.step hH.1.out b6 (Nat.le_refl _))
        refine hK.out _ _ ⟨hN6, (bcell hN6.out _ 0 HLA.out).trans e0⟩ (fun hH6 => ?_)
        clear hH hK K
        have hH := hH6
        try simp only [Act.put, List.setIfInBounds_toArray, List.set_cons_zero, List.set_cons_succ]
        refine wpAnyH_take (i := 7) (v := ?_) (by simp only [List.getElem?_toArray, List.getElem?_cons_succ, List.getElem?_cons_zero]; rfl) (by kernel_rfl) (by kernel_rfl) (by kernel_rfl) (by intro _ _ _ h; exact h) (Or.inl ⟨by rfl, ?_⟩) hH ?_
        rotate_left
        · intro w' hSw
          obtain ⟨_, hc⟩ := hSw
          go_simp
          try with_reducible rfl
        try simp only [Act.put, List.setIfInBounds_toArray, List.set_cons_zero, List.set_cons_succ]
        refine wpAnyH_take (i := 8) (v := ?_) (by simp only [List.getElem?_toArray, List.getElem?_cons_succ, List.getElem?_cons_zero]; rfl) (by kernel_rfl) (by kernel_rfl) (by kernel_rfl) (by intro _ _ _ h; exact h) (Or.inl ⟨by rfl, ?_⟩) hH ?_
        rotate_left
        · intro w' hSw
          obtain ⟨_, hc⟩ := hSw
          go_simp
          try with_reducible rfl
        try simp only [Act.put, List.setIfInBounds_toArray, List.set_cons_zero, List.set_cons_succ]
        refine wpAnyH_take (i := 9) (v := ?_) (by simp only [List.getElem?_toArray, List.getElem?_cons_succ, List.getElem?_cons_zero]; rfl) (by kernel_rfl) (by kernel_rfl) (by kernel_rfl) (by intro _ _ _ h; exact h) (Or.inl ⟨by rfl, ?_⟩) hH ?_
        rotate_left
        · intro w' hSw
          obtain ⟨_, hc⟩ := hSw
          go_simp
          try with_reducible rfl
        try simp only [Act.put, List.setIfInBounds_toArray, List.set_cons_zero, List.set_cons_succ]
        refine wpAnyH_take (i := 10) (v := ?_) (by simp only [List.getElem?_toArray, List.getElem?_cons_succ, List.getElem?_cons_zero]; rfl) (by kernel_rfl) (by kernel_rfl) (by kernel_rfl) (by intro _ _ _ h; exact h) (Or.inl ⟨by rfl, ?_⟩) hH ?_
        rotate_left
        · intro w' hSw
          obtain ⟨_, hc⟩ := hSw
          go_simp
          try with_reducible rfl
        try simp only [Act.put, List.setIfInBounds_toArray, List.set_cons_zero, List.set_cons_succ]
        refine wpAnyH_take (i := 11) (v := ?_) (by simp only [List.getElem?_toArray, List.getElem?_cons_succ, List.getElem?_cons_zero]; rfl) (by kernel_rfl) (by kernel_rfl) (by kernel_rfl) (by intro _ _ _ h; exact h) (Or.inl ⟨by rfl, ?_⟩) hH ?_
        rotate_left
        · intro w' hSw
          obtain ⟨_, hc⟩ := hSw
          go_simp
          try with_reducible rfl
        try simp only [Act.put, List.setIfInBounds_toArray, List.set_cons_zero, List.set_cons_succ]
        refine wpAnyH_take (i := 12) (v := ?_) (by simp only [List.getElem?_toArray, List.getElem?_cons_succ, List.getElem?_cons_zero]; rfl) (by kernel_rfl) (by kernel_rfl) (by kernel_rfl) (by intro _ _ _ h; exact h) (Or.inl ⟨by rfl, ?_⟩) hH ?_
        rotate_left
        · intro w' hSw
          obtain ⟨_, hc⟩ := hSw
          go_simp
          try with_reducible rfl
        try simp only [Act.put, List.setIfInBounds_toArray, List.set_cons_zero, List.set_cons_succ]
        refine wpAnyH_take (i := 13) (v := undef) (by simp only [List.getElem?_toArray, List.getElem?_cons_succ, List.getElem?_cons_zero]; rfl) (by kernel_rfl) (by kernel_rfl) (by kernel_rfl) (by intro _ _ _ h; exact h) (Or.inr ⟨by rfl, rfl⟩) hH ?_
        try simp only [Act.put, List.setIfInBounds_toArray, List.set_cons_zero, List.set_cons_succ]
        refine wpAnyH_take (i := 14) (v := undef) (by simp only [List.getElem?_toArray, List.getElem?_cons_succ, List.getElem?_cons_zero]; rfl) (by kernel_rfl) (by kernel_rfl) (by kernel_rfl) (by intro _ _ _ h; exact h) (Or.inr ⟨by rfl, rfl⟩) hH ?_
        try simp only [Act.put, List.setIfInBounds_toArray, List.set_cons_zero, List.set_cons_succ]
        refine wpAnyH_take (i := 15) (v := undef) (by simp only [List.getElem?_toArray, List.getElem?_cons_succ, List.getElem?_cons_zero]; rfl) (by kernel_rfl) (by kernel_rfl) (by kernel_rfl) (by intro _ _ _ h; exact h) (Or.inr ⟨by rfl, rfl⟩) hH ?_
        try simp only [Act.put, List.setIfInBounds_toArray, List.set_cons_zero, List.set_cons_succ]
        refine wpAnyH_take (i := 16) (v := undef) (by simp only [List.getElem?_toArray, List.getElem?_cons_succ, List.getElem?_cons_zero]; rfl) (by kernel_rfl) (by kernel_rfl) (by kernel_rfl) (by intro _ _ _ h; exact h) (Or.inr ⟨by rfl, rfl⟩) hH ?_
        try simp only [Act.put, List.setIfInBounds_toArray, List.set_cons_zero, List.set_cons_succ]
        refine wpAnyH_take (i := 17) (v := undef) (by simp only [List.getElem?_toArray, List.getElem?_cons_succ, List.getElem?_cons_zero]; rfl) (by kernel_rfl) (by kernel_rfl) (by kernel_rfl) (by intro _ _ _ h; exact h) (Or.inr ⟨by rfl, rfl⟩) hH ?_
        try simp only [Act.put, List.setIfInBounds_toArray, List.set_cons_zero, List.set_cons_succ]
        refine wpAnyH_take (i := 18) (v := ?_) (by simp only [List.getElem?_toArray, List.getElem?_cons_succ, List.getElem?_cons_zero]; rfl) (by kernel_rfl) (by kernel_rfl) (by kernel_rfl) (by intro _ _ _ h; exact h) (Or.inl ⟨by rfl, ?_⟩) hH ?_
        rotate_left
        · intro w' hSw
          obtain ⟨_, hc⟩ := hSw
          go_simp
          try with_reducible rfl
        try simp only [Act.put, List.setIfInBounds_toArray, List.set_cons_zero, List.set_cons_succ]
        refine wpAnyH_take (i := 19) (v := ?_) (by simp only [List.getElem?_toArray, List.getElem?_cons_succ, List.getElem?_cons_zero]; rfl) (by kernel_rfl) (by kernel_rfl) (by kernel_rfl) (by intro _ _ _ h; exact h) (Or.inl ⟨by rfl, ?_⟩) hH ?_
        rotate_left
        · intro w' hSw
          obtain ⟨_, hc⟩ := hSw
          go_simp
          try with_reducible rfl
        try simp only [Act.put, List.setIfInBounds_toArray, List.set_cons_zero, List.set_cons_succ]
        refine wpAnyH_take (i := 20) (v := ?_) (by simp only [List.getElem?_toArray, List.getElem?_cons_succ, List.getElem?_cons_zero]; rfl) (by kernel_rfl) (by kernel_rfl) (by kernel_rfl) (by intro _ _ _ h; exact h) (Or.inl ⟨by rfl, ?_⟩) hH ?_
        rotate_left
        · intro w' hSw
          obtain ⟨_, hc⟩ := hSw
          go_simp
          try with_reducible rfl
        try simp only [Act.put, List.setIfInBounds_toArray, List.set_cons_zero, List.set_cons_succ]
        refine wpAnyH_done (by kernel_rfl) ?_ _
        go_wp2_with fail
        go_ret
        exact ⟨rfl, Below.step HB.out hH.1.out (Nat.le_refl _)⟩

set_option maxRecDepth 100000 in
theorem lifted (os : Os) (started : os.Started) (H : Type) (enc : TypeId × Value → H) :
    ReturnsInHanded {} Try.checked os 6 .any (Rows.arenaDeepSpec.pre6 enc Try.prog Try.f6 Rows.arenaDeepRow.domain false) (Rows.arenaDeepSpec.post enc Try.prog Try.f6 false true false false) := by
  refine returnsInHanded_of_change (C := Try.checked) own started (by kernel_rfl) Try.func6
    (ChangeSpec.witness6 (enc := enc) (C := Try.checked) false ⟨#[], #[.int .u8 0, .int .u8 0, .slice none 0 0], []⟩ 8 (by kernel_rfl) (by kernel_rfl) (by kernel_rfl) (by kernel_rfl)) ?_
  intro W base args ds gs before hval0 hW hcnd _
  have hval : ∀ (j : Nat) t v, Try.f6.params[j]? = some t → args[j]? = some v → Value.okWide Try.prog W .any base t v := hval0
  have hW' := hW
  obtain ⟨p, q, hA0, hV, rfl, hfz, hnd⟩ := hW
  have hA : DataW.TrodAll enc Try.prog W 0 (fun _ => true) true Try.f6.params.toList args.toList ds p := hA0
  rw [Try.params6] at hA hval
  obtain ⟨v0, vs0, d0, ds0, p0, q0, hargs, rfl, rfl, h0, hr0⟩ := trodAll_cons hA
  obtain ⟨v1, vs1, d1, ds1, p1, q1, rfl, rfl, rfl, h1, hr1⟩ := trodAll_cons hr0
  obtain ⟨v2, vs2, d2, ds2, p2, q2, rfl, rfl, rfl, h2, hr2⟩ := trodAll_cons hr1
  obtain ⟨rfl, rfl, rfl⟩ := trodAll_nil hr2
  obtain rfl : args = #[v0, v1, v2] := by cases args; simp_all
  obtain ⟨rfl, rfl⟩ := trodVars_none hV
  obtain ⟨X, rfl, rfl, rfl, w0⟩ := open_int Try.underlying5 (hval 0 5 v0 rfl rfl) h0
  obtain ⟨Y, rfl, rfl, rfl, w1⟩ := open_int Try.underlying5 (hval 1 5 v1 rfl rfl) h1
  obtain ⟨n1, a1, c1, rfl, hs0⟩ := arg_bytes (hval 2 32 v2 rfl rfl) h2
  have hX := u8_range w0
  have hY := u8_range w1
  have hlt := hW'.lt
  refine (walk n1 c1 a1 X Y W hs0 hX.1 (by omega) hY.1 (by omega)).mono fun e W' ⟨he, hb⟩ => ?_
  subst he
  have t2 := Below.trod laidOut (by kernel_rfl) (of_decide_eq_true (by kernel_rfl)) h2 hb (fun x hx => hlt x (by simp [hx]))
  exact ⟨_, rfl, ⟨_, _, _, [], _, [], hW', trodAll_mk1 (shut_bool Try.underlying4 _), trodAll_mk3 (shut_int Try.underlying5 w0) (shut_int Try.underlying5 w1) t2, rfl, hb.frame _, fun h => by cases h⟩⟩

theorem over : Rows.arenaDeepRow.holds Try.pinned (OpenSpec.ofChange Rows.arenaDeepSpec) :=
  OpenClaim.holds_of_wide 6 Try.f6 rfl rfl rfl rfl rfl rfl rfl ⟨rfl, rfl, rfl, rfl, rfl⟩ rfl rfl rfl rfl rfl (by kernel_rfl) Try.func6 (by kernel_rfl)
    (of_decide_eq_true (by kernel_rfl)) (by unfold Func.isWrapper; first | (rw [if_pos (by decide +kernel)]; kernel_rfl) | (rw [if_neg (by decide +kernel)]; exact ⟨rfl, rfl⟩))
    (fun os started H enc _ => lifted os started H enc)

/-- THE STATEMENT -/
theorem proved : Rows.ArenaDeepSaid :=
  over
#print axioms proved
end Go.Proofs.Ytcaefdngdmnpmaa.arenaDeep
