/- The walk of the law TcodePut. The conditions: what the program's Put and Get answer (GetC, PutC). -/
import Derived.Test.YthnkoamabfaioaaZP4
import Derived.Deep.RegionHeld3
namespace Go.Proofs.Ythnkoamabfaioaa.tcodePut
open Go.RowKit

theorem behind4 {w : World} {P : Nat → Prop} : ∀ (G r : Fo) (b o : Nat), FoIn w P (G.app r) b o → FoIn w P r b (o + G.len * 3)
  | .nil, r, b, o, h => by simpa [Fo.app, Fo.len] using h
  | .cons _ _ _ G, r, b, o, h => by
    have h1 := behind4 G r b (o + 3) h.2.2.2
    simp only [Fo.len]
    rwa [show o + (G.len + 1) * 3 = o + 3 + G.len * 3 by omega]
theorem fo_split : ∀ (F : Fo) (j : Nat), j ≤ F.len → ∃ G H : Fo, G.app H = F ∧ G.len = j
  | F, 0, _ => ⟨.nil, F, rfl, rfl⟩
  | .cons k n ks r, j + 1, h => by
    obtain ⟨G, H, h1, h2⟩ := fo_split r j (by simp only [Fo.len] at h; omega)
    exact ⟨.cons k n ks G, H, by simp only [Fo.app, h1], by simp only [Fo.len, h2]⟩
  | .nil, j + 1, h => by simp [Fo.len] at h
/-- What both answer, in its two parts. -/
def ansS (k n : Int) (ls : Fo) (F : Ft) : ByteArray := if shB k n ls F = true then strOfNums (encT k n ls F) else strOfNums []
def ansE (k n : Int) (ls : Fo) (F : Ft) : Int := if shB k n ls F = true then 0 else 1
theorem tputV_ans (k n : Int) (ls : Fo) (F : Ft) : tputV k n ls F = .tuple #[.string (ansS k n ls F), .int .i64 (ansE k n ls F)] := by
  unfold tputV ansS ansE
  split <;> rfl
theorem put_ans (hP : PutC) {T : Tm} {la : Option Addr} {lc : Nat} {ka : Option Addr} {kc N : Nat} {w : World} (h : TmIn w N T la lc ka kc) : Calls Try.prog 14 #[.agg #[.int .i64 T.k, .int .i64 T.n, .slice la T.ls.len lc, .slice ka T.ks.len kc]] w fun e w' => e = .returned (.tuple #[.string (ansS T.k T.n T.ls T.ks), .int .i64 (ansE T.k T.n T.ls T.ks)]) ∧ Below w.heap.size w w' := by
  have := hP T.k T.n T.ls T.ks la ka lc kc w.heap.size w (h.1.mono h.2.2) (h.2.1.mono h.2.2) (Nat.le_refl _)
  rwa [tputV_ans] at this
theorem rput_ans {T : Tm} {la : Option Addr} {lc : Nat} {ka : Option Addr} {kc N : Nat} {w : World} (h : TmIn w N T la lc ka kc) : Calls Try.prog 15 #[.agg #[.int .i64 T.k, .int .i64 T.n, .slice la T.ls.len lc, .slice ka T.ks.len kc]] w fun e w' => e = .returned (.tuple #[.string (ansS T.k T.n T.ls T.ks), .int .i64 (ansE T.k T.n T.ls T.ks)]) ∧ Below w.heap.size w w' := by
  have := r14Put_any T.k T.n T.ls T.ks la ka lc kc w.heap.size w (h.1.mono h.2.2) (h.2.1.mono h.2.2) (Nat.le_refl _)
  rwa [tputV_ans] at this
/-- What lies there when the list of two terms has been laid. -/
def TwoAt (w : World) (A : Nat) (T U : Tm) (la : Option Addr) (lc : Nat) (ka : Option Addr) (kc : Nat) (lb : Option Addr) (ld : Nat) (kb : Option Addr) (kd : Nat) (W : World) : Prop :=
  W.heap[A]? = some (.cells #[.int .i64 T.k, .int .i64 T.n, .slice la T.ls.len lc, .slice ka T.ks.len kc, .int .i64 U.k, .int .i64 U.n, .slice lb U.ls.len ld, .slice kb U.ks.len kd] 29 (0, 0)) ∧ TmIn W A T la lc ka kc ∧ TmIn W A U lb ld kb kd ∧ Below w.heap.size w W
theorem TwoAt.below {w : World} {A : Nat} {T U : Tm} {la : Option Addr} {lc : Nat} {ka : Option Addr} {kc : Nat} {lb : Option Addr} {ld : Nat} {kb : Option Addr} {kd : Nat} {W W' : World} (h : TwoAt w A T U la lc ka kc lb ld kb kd W) (hb : Below W.heap.size W W') : TwoAt w A T U la lc ka kc lb ld kb kd W' := by
  obtain ⟨h1, h2, h3, h4⟩ := h
  exact ⟨(hb.block A (lt_of_block h1)).trans h1, h2.later hb, h3.later hb, h4.trans (hb.mono h4.size)⟩
set_option maxRecDepth 100000 in
set_option maxHeartbeats 8000000 in
theorem walk (hG : GetC) (hP : PutC) (T : Tm) (la : Option Addr) (lc : Nat) (ka : Option Addr) (kc len cap : Nat) (a : Option Addr) (w : World) (hT : TmIn w w.heap.size T la lc ka kc) (hin : U8In w (· < w.heap.size) len a cap) :
    Calls Try.prog 5 #[.agg #[.int .i64 T.k, .int .i64 T.n, .slice la T.ls.len lc, .slice ka T.ks.len kc], .slice a len cap] w fun e w' => e = .returned (.bool true) ∧ Below w.heap.size w w' := by
  have hbx : Below w.heap.size w (w.alloc (.cells #[.int .i64 T.k, .int .i64 T.n, .slice la T.ls.len lc, .slice ka T.ks.len kc] 29)) := (Below.refl _ _).alloc (Nat.le_refl _) _
  have T0 := Lib.hid (TmBox.new hT)
  have HB0 := Lib.hid hbx
  have HIN : Hid (∀ W, Below w.heap.size w W → Calls Try.prog 13 #[.slice a len cap] W (MdOk 3 3 W)) := Lib.hid (fun W h1 => tMade_any len cap a w.heap.size W (hin.below h1) h1.size)
  have hll := hT.1.len
  have hNN : 1 ≤ partsF T.ks 1001 1 ∧ partsF T.ks 1001 1 ≤ 1001 := by rw [partsF_eq T.ks 1001 1 (by omega) (by omega)]; omega
  have HN := Lib.hid (fun (W : World) (h : TmIn W w.heap.size T la lc ka kc) => r13parts_any (T.ks.size + 1) T.ks (Nat.lt_succ_self _) T.k T.n 1001 T.ls la ka lc kc w.heap.size W h.2.1 h.2.2 (by omega) (by omega))
  generalize partsF T.ks 1001 1 = N0 at HN hNN
  obtain ⟨hn1, hn2⟩ := hNN
  have HTI := Lib.hid hT
  clear hbx hT hin
  go_enter Try.func5, Try.ntmps5
  go_wp2_with fail
  refine (HN.out _ T0.out.2).mono ?_
  rintro e w1 ⟨rfl, hb1⟩
  have T1 := Lib.hid (T0.out.later hb1)
  have HB1 := Lib.hid (Below.step HB0.out hb1 (Nat.le_refl _))
  clear hb1 T0 HB0 HN
  go_wp2_with fail
  go_loopw [5, 6] (fun nv iv wr => ∃ (N : Int) (j : Nat), nv = .int .i64 N ∧ 0 ≤ N ∧ N ≤ 3000 ∧ iv = .int .i64 j ∧ j ≤ T.ls.len ∧ Hid (Below w1.heap.size w1 wr)) (fun _ iv _ => T.ls.len - (intOf iv).toNat)
  case atStart => exact ⟨N0, 0, rfl, by omega, by omega, rfl, Nat.zero_le _, Lib.hid (Below.refl _ _)⟩
  case round =>
    obtain ⟨N, j, rfl, hN0, hN1, rfl, hj, hbr⟩ := hrel
    have TR := Lib.hid (T1.out.later hbr.out)
    obtain ⟨c0, c1, c2, c3⟩ := TR.out.cells
    by_cases hlt : j < T.ls.len ∧ N ≤ 1000
    · obtain ⟨hl1, hl2⟩ := hlt
      have hlI : (j : Int) < (T.ls.len : Int) := by omega
      obtain ⟨b, o, hx, hbB, hf0⟩ := TR.out.2.1.some (by omega)
      subst hx
      obtain ⟨G, H, hgh, hgl⟩ : ∃ G H : Fo, G.app H = T.ls ∧ G.len = j := fo_split T.ls j (by omega)
      have hf1 : FoIn wr (· < w.heap.size) H b (o + j * 3) := by
        have h1 := hf0
        rw [← hgh] at h1
        rw [← hgl]
        exact behind4 G H b o h1
      cases H with
      | nil => exfalso; have := congrArg Fo.len hgh; rw [Fo.app_len] at this; simp [Fo.len] at this; omega
      | cons k' n' ks r' =>
        obtain ⟨e0, e1, ⟨a', cap', e2, hsl'⟩, _⟩ := hf1.first
        have HND := Lib.hid (nodes_any (ks.size + 1) ks (Nat.lt_succ_self _) k' n' 1001 a' cap' w.heap.size wr hsl' (Nat.le_trans TR.out.2.2.2 (Nat.le_refl _)) (by omega) (by omega))
        have hnn : 1 ≤ nodesF ks 1001 1 ∧ nodesF ks 1001 1 ≤ 1001 := by rw [nodesF_eq ks 1001 1 (by omega) (by omega)]; omega
        generalize nodesF ks 1001 1 = ND at HND hnn
        obtain ⟨hm1, hm2⟩ := hnn
        clear hf0 hf1 hsl' hgh hgl
        go_wp2_with fail
        refine HND.out.mono ?_
        rintro e w2 ⟨rfl, hb2⟩
        have HB2 := Lib.hid (Below.step hbr.out hb2 (Nat.le_refl _))
        clear hb2 HND e0 e1 e2 c0 c1 c2 c3
        go_wp2_with fail
        go_roundw
        case rel => exact ⟨N + ND, j + 1, by go_num, by omega, by omega, by go_num, by omega, HB2⟩
        case measure => simp [intOf]; omega
    · have HB2 := Lib.hid (Below.step HB1.out hbr.out (Nat.le_refl _))
      by_cases hN : 1000 < N
      · have dN : decide (N ≤ 1000) = false := by simpa using hN
        have dN2 : decide (1000 < N) = true := by simpa using hN
        by_cases hl1 : (j : Int) < (T.ls.len : Int)
        · clear hlt
          go_wp2_with fail
          refine (awake14_any hG hP _).mono ?_
          rintro e w2 ⟨rfl, hb2⟩
          go_wp2_with fail
          go_ret
          exact ⟨rfl, Below.step HB2.out hb2 (Nat.le_refl _)⟩
        · have dl : decide ((j : Int) < (T.ls.len : Int)) = false := by simpa using hl1
          clear hlt
          go_wp2_with fail
          refine (awake14_any hG hP _).mono ?_
          rintro e w2 ⟨rfl, hb2⟩
          go_wp2_with fail
          go_ret
          exact ⟨rfl, Below.step HB2.out hb2 (Nat.le_refl _)⟩
      · have hl1 : ¬ (j : Int) < (T.ls.len : Int) := by omega
        have dl : decide ((j : Int) < (T.ls.len : Int)) = false := by simpa using hl1
        have dN2 : decide (1000 < N) = false := by simpa using hN
        clear hlt c0 c1 c2 c3
        have HNX : Hid (∀ wN : World, Below wr.heap.size wr wN → wN.cell? ⟨w.heap.size, 0, none⟩ = some (.int .i64 T.k) ∧ wN.cell? ⟨w.heap.size, 1, none⟩ = some (.int .i64 T.n) ∧ wN.cell? ⟨w.heap.size, 2, none⟩ = some (.slice la T.ls.len lc) ∧ wN.cell? ⟨w.heap.size, 3, none⟩ = some (.slice ka T.ks.len kc)) := Lib.hid (fun wN hX => (TR.out.later hX).cells)
        obtain ⟨c0, c1, c2, c3⟩ := TR.out.cells
        go_upto_region 8 with fail
        clear c0 c1 c2 c3
        refine wp_region_held_drew (S := fun w' => Hid (Below wr.heap.size wr w') ∧ w'.cell? ⟨w.heap.size, 0, none⟩ = some (.int .i64 T.k) ∧ w'.cell? ⟨w.heap.size, 1, none⟩ = some (.int .i64 T.n) ∧ w'.cell? ⟨w.heap.size, 2, none⟩ = some (.slice la T.ls.len lc) ∧ w'.cell? ⟨w.heap.size, 3, none⟩ = some (.slice ka T.ks.len kc)) (by kernel_rfl) (⟨Lib.hid (Below.refl _ _).drew, HNX.out _ (Below.refl _ _).drew⟩) (fun hH => ?_)
        try simp only [Act.put, List.setIfInBounds_toArray, List.set_cons_zero, List.set_cons_succ]
        refine wpAnyH_take (i := 0) (v := ?_) (by simp only [List.getElem?_toArray, List.getElem?_cons_zero]; rfl) (by kernel_rfl) (by kernel_rfl) (by kernel_rfl) (by intro _ _ _ h; exact h) (Or.inl ⟨by rfl, ?_⟩) hH ?_
        rotate_left
        · intro w' hSw
          obtain ⟨s0, s1, s2, s3, s4⟩ := hSw
          go_simp
          try with_reducible rfl
        try simp only [Act.put, List.setIfInBounds_toArray, List.set_cons_zero, List.set_cons_succ]
        refine wpAnyH_take (i := 1) (v := ?_) (by simp only [List.getElem?_toArray, List.getElem?_cons_succ, List.getElem?_cons_zero]; rfl) (by kernel_rfl) (by kernel_rfl) (by kernel_rfl) (by intro _ _ _ h; exact h) (Or.inl ⟨by rfl, ?_⟩) hH ?_
        rotate_left
        · intro w' hSw
          obtain ⟨s0, s1, s2, s3, s4⟩ := hSw
          go_simp
          try with_reducible rfl
        try simp only [Act.put, List.setIfInBounds_toArray, List.set_cons_zero, List.set_cons_succ]
        refine wpAnyH_take (i := 5) (v := ?_) (by simp only [List.getElem?_toArray, List.getElem?_cons_succ, List.getElem?_cons_zero]; rfl) (by kernel_rfl) (by kernel_rfl) (by kernel_rfl) (by intro _ _ _ h; exact h) (Or.inl ⟨by rfl, ?_⟩) hH ?_
        rotate_left
        · intro w' hSw
          obtain ⟨s0, s1, s2, s3, s4⟩ := hSw
          go_simp
          try with_reducible rfl
        try simp only [Act.put, List.setIfInBounds_toArray, List.set_cons_zero, List.set_cons_succ]
        refine wpAnyH_ready (rs := [2]) (by kernel_rfl) (by simp) ?_
        refine AllReadyH.cons (o := _) (by simp only [List.getElem?_toArray, List.getElem?_cons_succ, List.getElem?_cons_zero]; rfl) (fun K hK => ?_) AllReadyH.nil
        go_simp
        go_at_call 13
        refine (HIN.out _ (Below.step HB2.out hH.1.out (Nat.le_refl _))).mono ?_
        rintro e w2 ⟨U, lb, ld, kb, kd, rfl, oku, sl2, tl2, hb7⟩
        have hX := Below.step hH.1.out hb7 (Nat.le_refl _)
        have U2 := Lib.hid (show TmIn w2 w2.heap.size U lb ld kb kd from ⟨sl2.weak (fun _ h => h.2), tl2.weak (fun _ h => h.2), Nat.le_refl _⟩)
        clear hH hb7 sl2 tl2 oku
        refine hK.out _ _ ⟨Lib.hid hX, HNX.out _ hX⟩ (fun hH => ?_)
        clear hK K hX
        try simp only [Act.put, List.setIfInBounds_toArray, List.set_cons_zero, List.set_cons_succ]
        refine wpAnyH_ready (rs := [3]) (by kernel_rfl) (by simp) ?_
        refine AllReadyH.cons (o := _) (by simp only [List.getElem?_toArray, List.getElem?_cons_succ, List.getElem?_cons_zero]; rfl) (fun K hK => ?_) AllReadyH.nil
        go_simp
        have hal : Below w2.heap.size w2 (w2.alloc (.cells #[.int .i64 T.k, .int .i64 T.n, .slice la T.ls.len lc, .slice ka T.ks.len kc, .int .i64 U.k, .int .i64 U.n, .slice lb U.ls.len ld, .slice kb U.ks.len kd] 29)) := (Below.refl _ _).alloc (Nat.le_refl _) _
        have hX := Below.step hH.1.out hal (Nat.le_refl _)
        have t2 := TR.out.2.later hH.1.out
        have HT : Hid (TwoAt w w2.heap.size T U la lc ka kc lb ld kb kd (w2.alloc (.cells #[.int .i64 T.k, .int .i64 T.n, .slice la T.ls.len lc, .slice ka T.ks.len kc, .int .i64 U.k, .int .i64 U.n, .slice lb U.ls.len ld, .slice kb U.ks.len kd] 29))) := Lib.hid ⟨heap_new _ _, TmIn.later (show TmIn w2 w2.heap.size T la lc ka kc from ⟨t2.1.mono t2.2.2, t2.2.1.mono t2.2.2, Nat.le_refl _⟩) hal, TmIn.later U2.out hal, Below.step HB2.out hX (Nat.le_refl _)⟩
        clear hH hal t2
        refine hK.out _ _ ⟨Lib.hid hX, HNX.out _ hX⟩ (fun hH => ?_)
        clear hK K hX
        try simp only [Act.put, List.setIfInBounds_toArray, List.set_cons_zero, List.set_cons_succ]
        refine wpAnyH_ready (rs := [4]) (by kernel_rfl) (by simp) ?_
        refine AllReadyH.cons (o := _) (by simp only [List.getElem?_toArray, List.getElem?_cons_succ, List.getElem?_cons_zero]; rfl) (fun K hK => ?_) AllReadyH.nil
        go_simp
        refine hK.out _ _ hH (fun hH => ?_)
        clear hK K
        try simp only [Act.put, List.setIfInBounds_toArray, List.set_cons_zero, List.set_cons_succ]
        refine wpAnyH_done (by kernel_rfl) ?_ _
        clear hH
        go_wp2_with fail
        go_loopw [42] (fun i wr => ∃ i' : Int, (i' = 0 ∨ i' = 1 ∨ i' = 2) ∧ i = .int .i64 i' ∧ Hid (TwoAt w w2.heap.size T U la lc ka kc lb ld kb kd wr)) (fun i _ => (2 - intOf i).toNat)
        case atStart => exact ⟨0, .inl rfl, rfl, HT⟩
        case round =>
          clear HT
          obtain ⟨i', hi', rfl, hT⟩ := hrel
          rcases hi' with rfl | rfl | rfl
          · obtain ⟨t1, t2, t3, t4⟩ := hT.out
            have y0 := cell_at t1 0
            have y1 := cell_at t1 1
            have y2 := cell_at t1 2
            have y3 := cell_at t1 3
            simp only [List.getElem?_toArray, List.getElem?_cons_zero, List.getElem?_cons_succ] at y0 y1 y2 y3
            have hal : Below wr.heap.size wr (wr.alloc (.cells #[.int .i64 T.k, .int .i64 T.n, .slice la T.ls.len lc, .slice ka T.ks.len kc] 29)) := (Below.refl _ _).alloc (Nat.le_refl _) _
            have X3 := Lib.hid (TmBox.new (show TmIn wr wr.heap.size T la lc ka kc from ⟨t2.1.mono t2.2.2, t2.2.1.mono t2.2.2, Nat.le_refl _⟩))
            have HT3 := Lib.hid (hT.out.below hal)
            clear t1 t2 t3 t4 hal
            go_wp2_with fail
            refine (put_ans hP X3.out.2).mono ?_
            rintro e w4 ⟨rfl, hb4⟩
            have X4 := Lib.hid (X3.out.later hb4)
            have HT4 := Lib.hid (HT3.out.below hb4)
            obtain ⟨u0, u1, u2, u3⟩ := X4.out.cells
            clear hb4 y0 y1 y2 y3 X3 HT3
            go_wp2_with fail
            refine (rput_ans X4.out.2).mono ?_
            rintro e w5 ⟨rfl, hb5⟩
            have HT5 := Lib.hid (HT4.out.below hb5)
            clear hb5 u0 u1 u2 u3 X4 HT4
            go_wp2_with fail
            go_roundw
            case rel => exact ⟨1, .inr (.inl rfl), rfl, HT5⟩
            case measure => simp [intOf]
          · obtain ⟨t1, t2, t3, t4⟩ := hT.out
            have y0 := cell_at t1 4
            have y1 := cell_at t1 5
            have y2 := cell_at t1 6
            have y3 := cell_at t1 7
            simp only [List.getElem?_toArray, List.getElem?_cons_zero, List.getElem?_cons_succ] at y0 y1 y2 y3
            have hal : Below wr.heap.size wr (wr.alloc (.cells #[.int .i64 U.k, .int .i64 U.n, .slice lb U.ls.len ld, .slice kb U.ks.len kd] 29)) := (Below.refl _ _).alloc (Nat.le_refl _) _
            have X3 := Lib.hid (TmBox.new (show TmIn wr wr.heap.size U lb ld kb kd from ⟨t3.1.mono t3.2.2, t3.2.1.mono t3.2.2, Nat.le_refl _⟩))
            have HT3 := Lib.hid (hT.out.below hal)
            clear t1 t2 t3 t4 hal
            go_wp2_with fail
            refine (put_ans hP X3.out.2).mono ?_
            rintro e w4 ⟨rfl, hb4⟩
            have X4 := Lib.hid (X3.out.later hb4)
            have HT4 := Lib.hid (HT3.out.below hb4)
            obtain ⟨u0, u1, u2, u3⟩ := X4.out.cells
            clear hb4 y0 y1 y2 y3 X3 HT3
            go_wp2_with fail
            refine (rput_ans X4.out.2).mono ?_
            rintro e w5 ⟨rfl, hb5⟩
            have HT5 := Lib.hid (HT4.out.below hb5)
            clear hb5 u0 u1 u2 u3 X4 HT4
            go_wp2_with fail
            go_roundw
            case rel => exact ⟨2, .inr (.inr rfl), rfl, HT5⟩
            case measure => simp [intOf]
          · go_wp2_with fail
            refine (awake14_any hG hP _).mono ?_
            rintro e w4 ⟨rfl, hb4⟩
            go_wp2_with fail
            go_ret
            exact ⟨rfl, Below.step hT.out.2.2.2 hb4 (Nat.le_refl _)⟩
end Go.Proofs.Ythnkoamabfaioaa.tcodePut
