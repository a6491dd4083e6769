/- Yaw. No condition but those that stand in each statement. -/
import Derived.Deep.CutBlock
import Derived.Test.YtnfhpombnbpdcaaGreatZQ37
import Derived.Test.YtnfhpombnbpdcaaGreatZQ51
import Derived.Test.YtnfhpombnbpdcaaGreatZQ30
namespace Go.Proofs.YtnfhpombnbpdcaaGreat
open Go.RowKit
def aE : List Dc := [⟨0, .nil, sOn, true, sZo⟩]
def aC : Tm := ⟨3, 0, .nil, .nil⟩
theorem aw1 : redV (redA [] aT 3) = (sOn, 2, 0) := by decide +kernel
theorem aw2 : redV (redA [] aT 0) = (tZ, 0, 40) := by decide +kernel
theorem aw3 : redV (redA aE aC 1) = (sZo, 0, 0) := by decide +kernel
theorem aw4 : redV (redA [] aT (-1)) = (tZ, 0, 1) := by decide +kernel
theorem aw5 : envB aE = true := by decide +kernel
theorem aw6 : envB [⟨0, .nil, tZ, false, tZ⟩] = false := by decide +kernel
theorem mk_one (w : World) : ∃ W, (Instr.makeSlice 25 (.int .i64 1) (.int .i64 1)).run Tryz.prog w = .ok (.slice (some ⟨w.heap.size, 0, none⟩) 1 1) W ∧ DsIn W (· < W.heap.size) [⟨0, .nil, tZ, false, tZ⟩] (some ⟨w.heap.size, 0, none⟩) 1 ∧ Below w.heap.size w W := by
 have hd := heap_new w (.cells #[.int .i64 0, .slice none 0 0, .int .i64 0, .int .i64 0, .slice none 0 0, .slice none 0 0, .bool false, .int .i64 0, .int .i64 0, .slice none 0 0, .slice none 0 0] 41)
 refine ⟨w.alloc (.cells #[.int .i64 0, .slice none 0 0, .int .i64 0, .int .i64 0, .slice none 0 0, .slice none 0 0, .bool false, .int .i64 0, .int .i64 0, .slice none 0 0, .slice none 0 0] 41), by kernel_rfl, ?_, (Below.refl _ _).alloc (Nat.le_refl _) _⟩
 refine ⟨Nat.le_refl _, by unfold maxLen; omega, (fun h => by cases h), fun _ => ⟨w.heap.size, 0, rfl, lt_of_block hd, fun i d hi => ?_⟩⟩
 match i with
 | 0 =>
  injection hi with hi
  subst hi
  exact ⟨cell_at hd 0, ⟨none, 0, 0, cell_at hd 1, rfl, Nat.le_refl _, Nat.zero_le _, fun _ => rfl, fun h => by simp at h⟩, ⟨cell_at hd 2, cell_at hd 3, none, 0, none, 0, cell_at hd 4, cell_at hd 5, SlIn.none _ _, TlIn.none _ _⟩, cell_at hd 6, ⟨cell_at hd 7, cell_at hd 8, none, 0, none, 0, cell_at hd 9, cell_at hd 10, SlIn.none _ _, TlIn.none _ _⟩⟩
 | i + 1 => simp at hi
theorem dsNil (w : World) (P : Nat → Prop) : DsIn w P [] none 0 := ⟨Nat.le_refl _, Nat.zero_le _, fun _ => rfl, fun h => by simp at h⟩
set_option maxRecDepth 100000 in
set_option maxHeartbeats 16000000 in
theorem awake16_any (w : World) : Calls Tryz.prog 9 #[] w fun e w' => e = .returned (.bool true) ∧ Below w.heap.size w w' := by
 go_enter Tryz.func9, Tryz.ntmps9
 go_wp2_with fail
 refine (rnum_any w 0 (by omega)).mono ?_
 rintro e w1 ⟨za, zc, rfl, hza, b1⟩
 have HZ : Hid (zOk za zc) := Lib.hid ⟨hza.2.1, hza.2.2.1⟩
 have HB1 := Lib.hid b1
 change Hid (Below w.heap.size w w1) at HB1
 clear hza b1
 go_upto_region 2 with fail
 obtain ⟨W0, hW0⟩ : ∃ W0, W0 = w1.alloc (.cells #[.int .i64 (nmlK 0), .int .i64 0, .slice za (nmlF 0).len zc] 45) := ⟨_, rfl⟩
 have hal : Below w1.heap.size w1 W0 := by rw [hW0]; exact (Below.refl _ _).alloc (Nat.le_refl _) _
 have hn1 : W0.heap[w1.heap.size]? = some (.cells #[.int .i64 1, .int .i64 0, .slice za 0 zc] 45 (0, 0)) := by rw [hW0]; exact heap_new _ _
 rw [← hW0]
 have HB2 := Lib.hid (Below.step HB1.out hal (Nat.le_refl _))
 generalize w1.heap.size = N1 at hn1 ⊢
 clear hW0 hal HB1
 have HNX : Hid (∀ wN : World, Below W0.heap.size W0 wN → wN.cell? ⟨N1, 0, none⟩ = some (.int .i64 1) ∧ wN.cell? ⟨N1, 1, none⟩ = some (.int .i64 0) ∧ wN.cell? ⟨N1, 2, none⟩ = some (.slice za 0 zc)) := Lib.hid (fun wN hX => cells3 ((hX.block _ (lt_of_block hn1)).trans hn1))
 have HA0 := Lib.hid (Aw2.start W0 za zc)
 clear hn1
 go_cut [3, 4] from 24 to 29 (fun s3 s4 wx => ∃ (X Y : Nat) (p q : Option Addr), s3 = .pointer (some ⟨X, 0, none⟩) ∧ s4 = .pointer (some ⟨Y, 0, none⟩) ∧ Hid (Aw4 W0 wx X Y p q))
 case first =>
  refine wp_region_held_drew (S := fun (w' : World) => Hid (Below W0.heap.size W0 w') ∧ w'.cell? ⟨N1, 0, none⟩ = some (.int .i64 1) ∧ w'.cell? ⟨N1, 1, none⟩ = some (.int .i64 0) ∧ w'.cell? ⟨N1, 2, none⟩ = some (.slice za 0 zc)) (by kernel_rfl) (⟨Lib.hid (Below.refl _ _).drew, HNX.out _ (Below.refl _ _).drew⟩) (fun hH => ?_)
  generalize W0.drew = V0 at HA0 hH ⊢
  refine tkH 0 ?_ hH ?_ ?_
  rotate_left
  ·intro w' hSw
   obtain ⟨s0, s1, s2, s3⟩ := hSw
   go_simp
   try with_reducible rfl
  refine tkH 2 ?_ hH ?_ ?_
  rotate_left
  ·intro w' hSw
   obtain ⟨s0, s1, s2, s3⟩ := hSw
   go_simp
   try with_reducible rfl
  refine rdH [1, 3, 6, 7] ?_
  refine consH (fun K hK => ?_) ?_
  ·go_simp
   go_at_call 14
   refine (ask1 HZ.out _).mono ?_
   rintro e V1 ⟨p, rfl, hs, hb7⟩
   have HA1 := Lib.hid (HA0.out.call1 hb7 hs)
   clear hs hb7 HA0 hH
   refine hK.out _ _ ⟨Lib.hid HA1.out.low, HNX.out _ HA1.out.low⟩ (fun hH => ?_)
   clear hK K
   refine rdH [3, 6, 7] ?_
   refine consH (fun K hK => ?_) ?_
   ·go_simp
    clear hH
    have HA2 := Lib.hid (show Aw2 W0 (V1.alloc (.cells #[.int .i64 1, .int .i64 0, .slice za 0 zc] 45)) za zc _ _ _ _ _ from HA1.out.lit)
    clear HA1
    refine hK.out _ _ ⟨Lib.hid HA2.out.low, HNX.out _ HA2.out.low⟩ (fun hH => ?_)
    clear hK K
    generalize V1.alloc (.cells #[.int .i64 1, .int .i64 0, .slice za 0 zc] 45) = V2 at HA2 hH ⊢
    generalize V1.heap.size = N3 at HA2 ⊢
    refine tkH 4 ?_ hH ?_ ?_
    rotate_left
    ·intro w' hSw
     obtain ⟨s0, s1, s2, s3⟩ := hSw
     go_simp
     try with_reducible rfl
    refine rdH [5, 6, 7] ?_
    refine consH (fun K hK => ?_) ?_
    ·go_simp
     go_at_call 14
     refine (HA2.out.ask5 HZ.out).mono ?_
     rintro e V3 ⟨q, rfl, hs, hb7⟩
     have HA3 := Lib.hid (HA2.out.call5 hb7 hs)
     clear hs hb7 HA2 hH
     refine hK.out _ _ ⟨Lib.hid HA3.out.low, HNX.out _ HA3.out.low⟩ (fun hH => ?_)
     clear hK K
     refine rdH [6, 7] ?_
     refine consH (fun K hK => ?_) ?_
     ·go_simp
      clear hH
      have HA4 := Lib.hid (show Aw2 W0 (V3.alloc (.cells #[.int .i64 0, .int .i64 0, .slice none 0 0, .slice none 0 0] 30)) za zc _ _ _ _ _ from HA3.out.allocX)
      clear HA3
      refine hK.out _ _ ⟨Lib.hid HA4.out.low, HNX.out _ HA4.out.low⟩ (fun hH => ?_)
      clear hK K
      generalize V3.alloc (.cells #[.int .i64 0, .int .i64 0, .slice none 0 0, .slice none 0 0] 30) = V4 at HA4 hH ⊢
      generalize V3.heap.size = X at HA4 ⊢
      refine rdH [7] ?_
      refine consH (fun K hK => ?_) AllReadyH.nil
      go_simp
      clear hH
      have HA5 := Lib.hid (show Aw2 W0 (V4.alloc (.cells #[.int .i64 0, .int .i64 0, .slice none 0 0, .slice none 0 0] 30)) za zc _ _ _ _ _ from HA4.out.allocY)
      clear HA4
      refine hK.out _ _ ⟨Lib.hid HA5.out.low, HNX.out _ HA5.out.low⟩ (fun hH => ?_)
      clear hK K
      generalize V4.alloc (.cells #[.int .i64 0, .int .i64 0, .slice none 0 0, .slice none 0 0] 30) = V5 at HA5 hH ⊢
      generalize V4.heap.size = Y at HA5 ⊢
      refine rdH [8] ?_
      refine consH (fun K hK => ?_) AllReadyH.nil
      have hz := (HA5.out.x _ rfl).1
      obtain ⟨m0, m1, m2, m3⟩ := cells4 hz
      have mf := free_of hz
      have ml := lt_of_block hz
      have HA6 := Lib.hid HA5.out.put
      go_simp
      clear hz m0 m1 m2 m3 mf ml hH HA5
      refine hK.out _ _ ⟨Lib.hid HA6.out.1, HNX.out _ HA6.out.1⟩ (fun hH => ?_)
      clear hK K
      generalize (((V5.setCell ⟨X, 0, none⟩ (.int .i64 2)).setCell ⟨X, 1, none⟩ (.int .i64 0)).setCell ⟨X, 2, none⟩ (.slice p 1 1)).setCell ⟨X, 3, none⟩ (.slice none 0 0) = V6 at HA6 hH ⊢
      refine rdH [9] ?_
      refine consH (fun K hK => ?_) AllReadyH.nil
      have hz := HA6.out.2.2.1
      obtain ⟨m0, m1, m2, m3⟩ := cells4 hz
      have mf := free_of hz
      have ml := lt_of_block hz
      have HE := Lib.hid HA6.out.put
      go_simp
      clear hz m0 m1 m2 m3 mf ml hH HA6
      refine hK.out _ _ ⟨Lib.hid HE.out.1, HNX.out _ HE.out.1⟩ (fun hH => ?_)
      clear hK K
      try simp only [Act.put, List.setIfInBounds_toArray, List.set_cons_zero, List.set_cons_succ]
      refine wpAnyH_done (by kernel_rfl) ?_ _
      go_wp2_with fail
      go_meet
      exact ⟨X, Y, p, q, rfl, rfl, HE⟩
     refine consH (fun K hK => ?_) AllReadyH.nil
     go_simp
     clear hH
     have HA4 := Lib.hid (show Aw2 W0 (V3.alloc (.cells #[.int .i64 0, .int .i64 0, .slice none 0 0, .slice none 0 0] 30)) za zc _ _ _ _ _ from HA3.out.allocY)
     clear HA3
     refine hK.out _ _ ⟨Lib.hid HA4.out.low, HNX.out _ HA4.out.low⟩ (fun hH => ?_)
     clear hK K
     generalize V3.alloc (.cells #[.int .i64 0, .int .i64 0, .slice none 0 0, .slice none 0 0] 30) = V4 at HA4 hH ⊢
     generalize V3.heap.size = Y at HA4 ⊢
     refine rdH [6] ?_
     refine consH (fun K hK => ?_) AllReadyH.nil
     go_simp
     clear hH
     have HA5 := Lib.hid (show Aw2 W0 (V4.alloc (.cells #[.int .i64 0, .int .i64 0, .slice none 0 0, .slice none 0 0] 30)) za zc _ _ _ _ _ from HA4.out.allocX)
     clear HA4
     refine hK.out _ _ ⟨Lib.hid HA5.out.low, HNX.out _ HA5.out.low⟩ (fun hH => ?_)
     clear hK K
     generalize V4.alloc (.cells #[.int .i64 0, .int .i64 0, .slice none 0 0, .slice none 0 0] 30) = V5 at HA5 hH ⊢
     generalize V4.heap.size = X at HA5 ⊢
     refine rdH [8] ?_
     refine consH (fun K hK => ?_) AllReadyH.nil
     have hz := (HA5.out.x _ rfl).1
     obtain ⟨m0, m1, m2, m3⟩ := cells4 hz
     have mf := free_of hz
     have ml := lt_of_block hz
     have HA6 := Lib.hid HA5.out.put
     go_simp
     clear hz m0 m1 m2 m3 mf ml hH HA5
     refine hK.out _ _ ⟨Lib.hid HA6.out.1, HNX.out _ HA6.out.1⟩ (fun hH => ?_)
     clear hK K
     generalize (((V5.setCell ⟨X, 0, none⟩ (.int .i64 2)).setCell ⟨X, 1, none⟩ (.int .i64 0)).setCell ⟨X, 2, none⟩ (.slice p 1 1)).setCell ⟨X, 3, none⟩ (.slice none 0 0) = V6 at HA6 hH ⊢
     refine rdH [9] ?_
     refine consH (fun K hK => ?_) AllReadyH.nil
     have hz := HA6.out.2.2.1
     obtain ⟨m0, m1, m2, m3⟩ := cells4 hz
     have mf := free_of hz
     have ml := lt_of_block hz
     have HE := Lib.hid HA6.out.put
     go_simp
     clear hz m0 m1 m2 m3 mf ml hH HA6
     refine hK.out _ _ ⟨Lib.hid HE.out.1, HNX.out _ HE.out.1⟩ (fun hH => ?_)
     clear hK K
     try simp only [Act.put, List.setIfInBounds_toArray, List.set_cons_zero, List.set_cons_succ]
     refine wpAnyH_done (by kernel_rfl) ?_ _
     go_wp2_with fail
     go_meet
     exact ⟨X, Y, p, q, rfl, rfl, HE⟩
    refine consH (fun K hK => ?_) ?_
    ·go_simp
     clear hH
     have HA3 := Lib.hid (show Aw2 W0 (V2.alloc (.cells #[.int .i64 0, .int .i64 0, .slice none 0 0, .slice none 0 0] 30)) za zc _ _ _ _ _ from HA2.out.allocX)
     clear HA2
     refine hK.out _ _ ⟨Lib.hid HA3.out.low, HNX.out _ HA3.out.low⟩ (fun hH => ?_)
     clear hK K
     generalize V2.alloc (.cells #[.int .i64 0, .int .i64 0, .slice none 0 0, .slice none 0 0] 30) = V3 at HA3 hH ⊢
     generalize V2.heap.size = X at HA3 ⊢
     refine rdH [5, 7] ?_
     refine consH (fun K hK => ?_) ?_
     ·go_simp
      go_at_call 14
      refine (HA3.out.ask5 HZ.out).mono ?_
      rintro e V4 ⟨q, rfl, hs, hb7⟩
      have HA4 := Lib.hid (HA3.out.call5 hb7 hs)
      clear hs hb7 HA3 hH
      refine hK.out _ _ ⟨Lib.hid HA4.out.low, HNX.out _ HA4.out.low⟩ (fun hH => ?_)
      clear hK K
      refine rdH [7] ?_
      refine consH (fun K hK => ?_) AllReadyH.nil
      go_simp
      clear hH
      have HA5 := Lib.hid (show Aw2 W0 (V4.alloc (.cells #[.int .i64 0, .int .i64 0, .slice none 0 0, .slice none 0 0] 30)) za zc _ _ _ _ _ from HA4.out.allocY)
      clear HA4
      refine hK.out _ _ ⟨Lib.hid HA5.out.low, HNX.out _ HA5.out.low⟩ (fun hH => ?_)
      clear hK K
      generalize V4.alloc (.cells #[.int .i64 0, .int .i64 0, .slice none 0 0, .slice none 0 0] 30) = V5 at HA5 hH ⊢
      generalize V4.heap.size = Y at HA5 ⊢
      refine rdH [8] ?_
      refine consH (fun K hK => ?_) AllReadyH.nil
      have hz := (HA5.out.x _ rfl).1
      obtain ⟨m0, m1, m2, m3⟩ := cells4 hz
      have mf := free_of hz
      have ml := lt_of_block hz
      have HA6 := Lib.hid HA5.out.put
      go_simp
      clear hz m0 m1 m2 m3 mf ml hH HA5
      refine hK.out _ _ ⟨Lib.hid HA6.out.1, HNX.out _ HA6.out.1⟩ (fun hH => ?_)
      clear hK K
      generalize (((V5.setCell ⟨X, 0, none⟩ (.int .i64 2)).setCell ⟨X, 1, none⟩ (.int .i64 0)).setCell ⟨X, 2, none⟩ (.slice p 1 1)).setCell ⟨X, 3, none⟩ (.slice none 0 0) = V6 at HA6 hH ⊢
      refine rdH [9] ?_
      refine consH (fun K hK => ?_) AllReadyH.nil
      have hz := HA6.out.2.2.1
      obtain ⟨m0, m1, m2, m3⟩ := cells4 hz
      have mf := free_of hz
      have ml := lt_of_block hz
      have HE := Lib.hid HA6.out.put
      go_simp
      clear hz m0 m1 m2 m3 mf ml hH HA6
      refine hK.out _ _ ⟨Lib.hid HE.out.1, HNX.out _ HE.out.1⟩ (fun hH => ?_)
      clear hK K
      try simp only [Act.put, List.setIfInBounds_toArray, List.set_cons_zero, List.set_cons_succ]
      refine wpAnyH_done (by kernel_rfl) ?_ _
      go_wp2_with fail
      go_meet
      exact ⟨X, Y, p, q, rfl, rfl, HE⟩
     refine consH (fun K hK => ?_) AllReadyH.nil
     go_simp
     clear hH
     have HA4 := Lib.hid (show Aw2 W0 (V3.alloc (.cells #[.int .i64 0, .int .i64 0, .slice none 0 0, .slice none 0 0] 30)) za zc _ _ _ _ _ from HA3.out.allocY)
     clear HA3
     refine hK.out _ _ ⟨Lib.hid HA4.out.low, HNX.out _ HA4.out.low⟩ (fun hH => ?_)
     clear hK K
     generalize V3.alloc (.cells #[.int .i64 0, .int .i64 0, .slice none 0 0, .slice none 0 0] 30) = V4 at HA4 hH ⊢
     generalize V3.heap.size = Y at HA4 ⊢
     refine rdH [5] ?_
     refine consH (fun K hK => ?_) AllReadyH.nil
     go_simp
     go_at_call 14
     refine (HA4.out.ask5 HZ.out).mono ?_
     rintro e V5 ⟨q, rfl, hs, hb7⟩
     have HA5 := Lib.hid (HA4.out.call5 hb7 hs)
     clear hs hb7 HA4 hH
     refine hK.out _ _ ⟨Lib.hid HA5.out.low, HNX.out _ HA5.out.low⟩ (fun hH => ?_)
     clear hK K
     refine rdH [8] ?_
     refine consH (fun K hK => ?_) AllReadyH.nil
     have hz := (HA5.out.x _ rfl).1
     obtain ⟨m0, m1, m2, m3⟩ := cells4 hz
     have mf := free_of hz
     have ml := lt_of_block hz
     have HA6 := Lib.hid HA5.out.put
     go_simp
     clear hz m0 m1 m2 m3 mf ml hH HA5
     refine hK.out _ _ ⟨Lib.hid HA6.out.1, HNX.out _ HA6.out.1⟩ (fun hH => ?_)
     clear hK K
     generalize (((V5.setCell ⟨X, 0, none⟩ (.int .i64 2)).setCell ⟨X, 1, none⟩ (.int .i64 0)).setCell ⟨X, 2, none⟩ (.slice p 1 1)).setCell ⟨X, 3, none⟩ (.slice none 0 0) = V6 at HA6 hH ⊢
     refine rdH [9] ?_
     refine consH (fun K hK => ?_) AllReadyH.nil
     have hz := HA6.out.2.2.1
     obtain ⟨m0, m1, m2, m3⟩ := cells4 hz
     have mf := free_of hz
     have ml := lt_of_block hz
     have HE := Lib.hid HA6.out.put
     go_simp
     clear hz m0 m1 m2 m3 mf ml hH HA6
     refine hK.out _ _ ⟨Lib.hid HE.out.1, HNX.out _ HE.out.1⟩ (fun hH => ?_)
     clear hK K
     try simp only [Act.put, List.setIfInBounds_toArray, List.set_cons_zero, List.set_cons_succ]
     refine wpAnyH_done (by kernel_rfl) ?_ _
     go_wp2_with fail
     go_meet
     exact ⟨X, Y, p, q, rfl, rfl, HE⟩
    refine consH (fun K hK => ?_) AllReadyH.nil
    go_simp
    clear hH
    have HA3 := Lib.hid (show Aw2 W0 (V2.alloc (.cells #[.int .i64 0, .int .i64 0, .slice none 0 0, .slice none 0 0] 30)) za zc _ _ _ _ _ from HA2.out.allocY)
    clear HA2
    refine hK.out _ _ ⟨Lib.hid HA3.out.low, HNX.out _ HA3.out.low⟩ (fun hH => ?_)
    clear hK K
    generalize V2.alloc (.cells #[.int .i64 0, .int .i64 0, .slice none 0 0, .slice none 0 0] 30) = V3 at HA3 hH ⊢
    generalize V2.heap.size = Y at HA3 ⊢
    refine rdH [5, 6] ?_
    refine consH (fun K hK => ?_) ?_
    ·go_simp
     go_at_call 14
     refine (HA3.out.ask5 HZ.out).mono ?_
     rintro e V4 ⟨q, rfl, hs, hb7⟩
     have HA4 := Lib.hid (HA3.out.call5 hb7 hs)
     clear hs hb7 HA3 hH
     refine hK.out _ _ ⟨Lib.hid HA4.out.low, HNX.out _ HA4.out.low⟩ (fun hH => ?_)
     clear hK K
     refine rdH [6] ?_
     refine consH (fun K hK => ?_) AllReadyH.nil
     go_simp
     clear hH
     have HA5 := Lib.hid (show Aw2 W0 (V4.alloc (.cells #[.int .i64 0, .int .i64 0, .slice none 0 0, .slice none 0 0] 30)) za zc _ _ _ _ _ from HA4.out.allocX)
     clear HA4
     refine hK.out _ _ ⟨Lib.hid HA5.out.low, HNX.out _ HA5.out.low⟩ (fun hH => ?_)
     clear hK K
     generalize V4.alloc (.cells #[.int .i64 0, .int .i64 0, .slice none 0 0, .slice none 0 0] 30) = V5 at HA5 hH ⊢
     generalize V4.heap.size = X at HA5 ⊢
     refine rdH [8] ?_
     refine consH (fun K hK => ?_) AllReadyH.nil
     have hz := (HA5.out.x _ rfl).1
     obtain ⟨m0, m1, m2, m3⟩ := cells4 hz
     have mf := free_of hz
     have ml := lt_of_block hz
     have HA6 := Lib.hid HA5.out.put
     go_simp
     clear hz m0 m1 m2 m3 mf ml hH HA5
     refine hK.out _ _ ⟨Lib.hid HA6.out.1, HNX.out _ HA6.out.1⟩ (fun hH => ?_)
     clear hK K
     generalize (((V5.setCell ⟨X, 0, none⟩ (.int .i64 2)).setCell ⟨X, 1, none⟩ (.int .i64 0)).setCell ⟨X, 2, none⟩ (.slice p 1 1)).setCell ⟨X, 3, none⟩ (.slice none 0 0) = V6 at HA6 hH ⊢
     refine rdH [9] ?_
     refine consH (fun K hK => ?_) AllReadyH.nil
     have hz := HA6.out.2.2.1
     obtain ⟨m0, m1, m2, m3⟩ := cells4 hz
     have mf := free_of hz
     have ml := lt_of_block hz
     have HE := Lib.hid HA6.out.put
     go_simp
     clear hz m0 m1 m2 m3 mf ml hH HA6
     refine hK.out _ _ ⟨Lib.hid HE.out.1, HNX.out _ HE.out.1⟩ (fun hH => ?_)
     clear hK K
     try simp only [Act.put, List.setIfInBounds_toArray, List.set_cons_zero, List.set_cons_succ]
     refine wpAnyH_done (by kernel_rfl) ?_ _
     go_wp2_with fail
     go_meet
     exact ⟨X, Y, p, q, rfl, rfl, HE⟩
    refine consH (fun K hK => ?_) AllReadyH.nil
    go_simp
    clear hH
    have HA4 := Lib.hid (show Aw2 W0 (V3.alloc (.cells #[.int .i64 0, .int .i64 0, .slice none 0 0, .slice none 0 0] 30)) za zc _ _ _ _ _ from HA3.out.allocX)
    clear HA3
    refine hK.out _ _ ⟨Lib.hid HA4.out.low, HNX.out _ HA4.out.low⟩ (fun hH => ?_)
    clear hK K
    generalize V3.alloc (.cells #[.int .i64 0, .int .i64 0, .slice none 0 0, .slice none 0 0] 30) = V4 at HA4 hH ⊢
    generalize V3.heap.size = X at HA4 ⊢
    refine rdH [5] ?_
    refine consH (fun K hK => ?_) AllReadyH.nil
    go_simp
    go_at_call 14
    refine (HA4.out.ask5 HZ.out).mono ?_
    rintro e V5 ⟨q, rfl, hs, hb7⟩
    have HA5 := Lib.hid (HA4.out.call5 hb7 hs)
    clear hs hb7 HA4 hH
    refine hK.out _ _ ⟨Lib.hid HA5.out.low, HNX.out _ HA5.out.low⟩ (fun hH => ?_)
    clear hK K
    refine rdH [8] ?_
    refine consH (fun K hK => ?_) AllReadyH.nil
    have hz := (HA5.out.x _ rfl).1
    obtain ⟨m0, m1, m2, m3⟩ := cells4 hz
    have mf := free_of hz
    have ml := lt_of_block hz
    have HA6 := Lib.hid HA5.out.put
    go_simp
    clear hz m0 m1 m2 m3 mf ml hH HA5
    refine hK.out _ _ ⟨Lib.hid HA6.out.1, HNX.out _ HA6.out.1⟩ (fun hH => ?_)
    clear hK K
    generalize (((V5.setCell ⟨X, 0, none⟩ (.int .i64 2)).setCell ⟨X, 1, none⟩ (.int .i64 0)).setCell ⟨X, 2, none⟩ (.slice p 1 1)).setCell ⟨X, 3, none⟩ (.slice none 0 0) = V6 at HA6 hH ⊢
    refine rdH [9] ?_
    refine consH (fun K hK => ?_) AllReadyH.nil
    have hz := HA6.out.2.2.1
    obtain ⟨m0, m1, m2, m3⟩ := cells4 hz
    have mf := free_of hz
    have ml := lt_of_block hz
    have HE := Lib.hid HA6.out.put
    go_simp
    clear hz m0 m1 m2 m3 mf ml hH HA6
    refine hK.out _ _ ⟨Lib.hid HE.out.1, HNX.out _ HE.out.1⟩ (fun hH => ?_)
    clear hK K
    try simp only [Act.put, List.setIfInBounds_toArray, List.set_cons_zero, List.set_cons_succ]
    refine wpAnyH_done (by kernel_rfl) ?_ _
    go_wp2_with fail
    go_meet
    exact ⟨X, Y, p, q, rfl, rfl, HE⟩
   refine consH (fun K hK => ?_) ?_
   ·go_simp
    clear hH
    have HA2 := Lib.hid (show Aw2 W0 (V1.alloc (.cells #[.int .i64 0, .int .i64 0, .slice none 0 0, .slice none 0 0] 30)) za zc _ _ _ _ _ from HA1.out.allocX)
    clear HA1
    refine hK.out _ _ ⟨Lib.hid HA2.out.low, HNX.out _ HA2.out.low⟩ (fun hH => ?_)
    clear hK K
    generalize V1.alloc (.cells #[.int .i64 0, .int .i64 0, .slice none 0 0, .slice none 0 0] 30) = V2 at HA2 hH ⊢
    generalize V1.heap.size = X at HA2 ⊢
    refine rdH [3, 7] ?_
    refine consH (fun K hK => ?_) ?_
    ·go_simp
     clear hH
     have HA3 := Lib.hid (show Aw2 W0 (V2.alloc (.cells #[.int .i64 1, .int .i64 0, .slice za 0 zc] 45)) za zc _ _ _ _ _ from HA2.out.lit)
     clear HA2
     refine hK.out _ _ ⟨Lib.hid HA3.out.low, HNX.out _ HA3.out.low⟩ (fun hH => ?_)
     clear hK K
     generalize V2.alloc (.cells #[.int .i64 1, .int .i64 0, .slice za 0 zc] 45) = V3 at HA3 hH ⊢
     generalize V2.heap.size = N3 at HA3 ⊢
     refine tkH 4 ?_ hH ?_ ?_
     rotate_left
     ·intro w' hSw
      obtain ⟨s0, s1, s2, s3⟩ := hSw
      go_simp
      try with_reducible rfl
     refine rdH [5, 7] ?_
     refine consH (fun K hK => ?_) ?_
     ·go_simp
      go_at_call 14
      refine (HA3.out.ask5 HZ.out).mono ?_
      rintro e V4 ⟨q, rfl, hs, hb7⟩
      have HA4 := Lib.hid (HA3.out.call5 hb7 hs)
      clear hs hb7 HA3 hH
      refine hK.out _ _ ⟨Lib.hid HA4.out.low, HNX.out _ HA4.out.low⟩ (fun hH => ?_)
      clear hK K
      refine rdH [7] ?_
      refine consH (fun K hK => ?_) AllReadyH.nil
      go_simp
      clear hH
      have HA5 := Lib.hid (show Aw2 W0 (V4.alloc (.cells #[.int .i64 0, .int .i64 0, .slice none 0 0, .slice none 0 0] 30)) za zc _ _ _ _ _ from HA4.out.allocY)
      clear HA4
      refine hK.out _ _ ⟨Lib.hid HA5.out.low, HNX.out _ HA5.out.low⟩ (fun hH => ?_)
      clear hK K
      generalize V4.alloc (.cells #[.int .i64 0, .int .i64 0, .slice none 0 0, .slice none 0 0] 30) = V5 at HA5 hH ⊢
      generalize V4.heap.size = Y at HA5 ⊢
      refine rdH [8] ?_
      refine consH (fun K hK => ?_) AllReadyH.nil
      have hz := (HA5.out.x _ rfl).1
      obtain ⟨m0, m1, m2, m3⟩ := cells4 hz
      have mf := free_of hz
      have ml := lt_of_block hz
      have HA6 := Lib.hid HA5.out.put
      go_simp
      clear hz m0 m1 m2 m3 mf ml hH HA5
      refine hK.out _ _ ⟨Lib.hid HA6.out.1, HNX.out _ HA6.out.1⟩ (fun hH => ?_)
      clear hK K
      generalize (((V5.setCell ⟨X, 0, none⟩ (.int .i64 2)).setCell ⟨X, 1, none⟩ (.int .i64 0)).setCell ⟨X, 2, none⟩ (.slice p 1 1)).setCell ⟨X, 3, none⟩ (.slice none 0 0) = V6 at HA6 hH ⊢
      refine rdH [9] ?_
      refine consH (fun K hK => ?_) AllReadyH.nil
      have hz := HA6.out.2.2.1
      obtain ⟨m0, m1, m2, m3⟩ := cells4 hz
      have mf := free_of hz
      have ml := lt_of_block hz
      have HE := Lib.hid HA6.out.put
      go_simp
      clear hz m0 m1 m2 m3 mf ml hH HA6
      refine hK.out _ _ ⟨Lib.hid HE.out.1, HNX.out _ HE.out.1⟩ (fun hH => ?_)
      clear hK K
      try simp only [Act.put, List.setIfInBounds_toArray, List.set_cons_zero, List.set_cons_succ]
      refine wpAnyH_done (by kernel_rfl) ?_ _
      go_wp2_with fail
      go_meet
      exact ⟨X, Y, p, q, rfl, rfl, HE⟩
     refine consH (fun K hK => ?_) AllReadyH.nil
     go_simp
     clear hH
     have HA4 := Lib.hid (show Aw2 W0 (V3.alloc (.cells #[.int .i64 0, .int .i64 0, .slice none 0 0, .slice none 0 0] 30)) za zc _ _ _ _ _ from HA3.out.allocY)
     clear HA3
     refine hK.out _ _ ⟨Lib.hid HA4.out.low, HNX.out _ HA4.out.low⟩ (fun hH => ?_)
     clear hK K
     generalize V3.alloc (.cells #[.int .i64 0, .int .i64 0, .slice none 0 0, .slice none 0 0] 30) = V4 at HA4 hH ⊢
     generalize V3.heap.size = Y at HA4 ⊢
     refine rdH [5] ?_
     refine consH (fun K hK => ?_) AllReadyH.nil
     go_simp
     go_at_call 14
     refine (HA4.out.ask5 HZ.out).mono ?_
     rintro e V5 ⟨q, rfl, hs, hb7⟩
     have HA5 := Lib.hid (HA4.out.call5 hb7 hs)
     clear hs hb7 HA4 hH
     refine hK.out _ _ ⟨Lib.hid HA5.out.low, HNX.out _ HA5.out.low⟩ (fun hH => ?_)
     clear hK K
     refine rdH [8] ?_
     refine consH (fun K hK => ?_) AllReadyH.nil
     have hz := (HA5.out.x _ rfl).1
     obtain ⟨m0, m1, m2, m3⟩ := cells4 hz
     have mf := free_of hz
     have ml := lt_of_block hz
     have HA6 := Lib.hid HA5.out.put
     go_simp
     clear hz m0 m1 m2 m3 mf ml hH HA5
     refine hK.out _ _ ⟨Lib.hid HA6.out.1, HNX.out _ HA6.out.1⟩ (fun hH => ?_)
     clear hK K
     generalize (((V5.setCell ⟨X, 0, none⟩ (.int .i64 2)).setCell ⟨X, 1, none⟩ (.int .i64 0)).setCell ⟨X, 2, none⟩ (.slice p 1 1)).setCell ⟨X, 3, none⟩ (.slice none 0 0) = V6 at HA6 hH ⊢
     refine rdH [9] ?_
     refine consH (fun K hK => ?_) AllReadyH.nil
     have hz := HA6.out.2.2.1
     obtain ⟨m0, m1, m2, m3⟩ := cells4 hz
     have mf := free_of hz
     have ml := lt_of_block hz
     have HE := Lib.hid HA6.out.put
     go_simp
     clear hz m0 m1 m2 m3 mf ml hH HA6
     refine hK.out _ _ ⟨Lib.hid HE.out.1, HNX.out _ HE.out.1⟩ (fun hH => ?_)
     clear hK K
     try simp only [Act.put, List.setIfInBounds_toArray, List.set_cons_zero, List.set_cons_succ]
     refine wpAnyH_done (by kernel_rfl) ?_ _
     go_wp2_with fail
     go_meet
     exact ⟨X, Y, p, q, rfl, rfl, HE⟩
    refine consH (fun K hK => ?_) AllReadyH.nil
    go_simp
    clear hH
    have HA3 := Lib.hid (show Aw2 W0 (V2.alloc (.cells #[.int .i64 0, .int .i64 0, .slice none 0 0, .slice none 0 0] 30)) za zc _ _ _ _ _ from HA2.out.allocY)
    clear HA2
    refine hK.out _ _ ⟨Lib.hid HA3.out.low, HNX.out _ HA3.out.low⟩ (fun hH => ?_)
    clear hK K
    generalize V2.alloc (.cells #[.int .i64 0, .int .i64 0, .slice none 0 0, .slice none 0 0] 30) = V3 at HA3 hH ⊢
    generalize V2.heap.size = Y at HA3 ⊢
    refine rdH [3] ?_
    refine consH (fun K hK => ?_) AllReadyH.nil
    go_simp
    clear hH
    have HA4 := Lib.hid (show Aw2 W0 (V3.alloc (.cells #[.int .i64 1, .int .i64 0, .slice za 0 zc] 45)) za zc _ _ _ _ _ from HA3.out.lit)
    clear HA3
    refine hK.out _ _ ⟨Lib.hid HA4.out.low, HNX.out _ HA4.out.low⟩ (fun hH => ?_)
    clear hK K
    generalize V3.alloc (.cells #[.int .i64 1, .int .i64 0, .slice za 0 zc] 45) = V4 at HA4 hH ⊢
    generalize V3.heap.size = N3 at HA4 ⊢
    refine tkH 4 ?_ hH ?_ ?_
    rotate_left
    ·intro w' hSw
     obtain ⟨s0, s1, s2, s3⟩ := hSw
     go_simp
     try with_reducible rfl
    refine rdH [5] ?_
    refine consH (fun K hK => ?_) AllReadyH.nil
    go_simp
    go_at_call 14
    refine (HA4.out.ask5 HZ.out).mono ?_
    rintro e V5 ⟨q, rfl, hs, hb7⟩
    have HA5 := Lib.hid (HA4.out.call5 hb7 hs)
    clear hs hb7 HA4 hH
    refine hK.out _ _ ⟨Lib.hid HA5.out.low, HNX.out _ HA5.out.low⟩ (fun hH => ?_)
    clear hK K
    refine rdH [8] ?_
    refine consH (fun K hK => ?_) AllReadyH.nil
    have hz := (HA5.out.x _ rfl).1
    obtain ⟨m0, m1, m2, m3⟩ := cells4 hz
    have mf := free_of hz
    have ml := lt_of_block hz
    have HA6 := Lib.hid HA5.out.put
    go_simp
    clear hz m0 m1 m2 m3 mf ml hH HA5
    refine hK.out _ _ ⟨Lib.hid HA6.out.1, HNX.out _ HA6.out.1⟩ (fun hH => ?_)
    clear hK K
    generalize (((V5.setCell ⟨X, 0, none⟩ (.int .i64 2)).setCell ⟨X, 1, none⟩ (.int .i64 0)).setCell ⟨X, 2, none⟩ (.slice p 1 1)).setCell ⟨X, 3, none⟩ (.slice none 0 0) = V6 at HA6 hH ⊢
    refine rdH [9] ?_
    refine consH (fun K hK => ?_) AllReadyH.nil
    have hz := HA6.out.2.2.1
    obtain ⟨m0, m1, m2, m3⟩ := cells4 hz
    have mf := free_of hz
    have ml := lt_of_block hz
    have HE := Lib.hid HA6.out.put
    go_simp
    clear hz m0 m1 m2 m3 mf ml hH HA6
    refine hK.out _ _ ⟨Lib.hid HE.out.1, HNX.out _ HE.out.1⟩ (fun hH => ?_)
    clear hK K
    try simp only [Act.put, List.setIfInBounds_toArray, List.set_cons_zero, List.set_cons_succ]
    refine wpAnyH_done (by kernel_rfl) ?_ _
    go_wp2_with fail
    go_meet
    exact ⟨X, Y, p, q, rfl, rfl, HE⟩
   refine consH (fun K hK => ?_) AllReadyH.nil
   go_simp
   clear hH
   have HA2 := Lib.hid (show Aw2 W0 (V1.alloc (.cells #[.int .i64 0, .int .i64 0, .slice none 0 0, .slice none 0 0] 30)) za zc _ _ _ _ _ from HA1.out.allocY)
   clear HA1
   refine hK.out _ _ ⟨Lib.hid HA2.out.low, HNX.out _ HA2.out.low⟩ (fun hH => ?_)
   clear hK K
   generalize V1.alloc (.cells #[.int .i64 0, .int .i64 0, .slice none 0 0, .slice none 0 0] 30) = V2 at HA2 hH ⊢
   generalize V1.heap.size = Y at HA2 ⊢
   refine rdH [3, 6] ?_
   refine consH (fun K hK => ?_) ?_
   ·go_simp
    clear hH
    have HA3 := Lib.hid (show Aw2 W0 (V2.alloc (.cells #[.int .i64 1, .int .i64 0, .slice za 0 zc] 45)) za zc _ _ _ _ _ from HA2.out.lit)
    clear HA2
    refine hK.out _ _ ⟨Lib.hid HA3.out.low, HNX.out _ HA3.out.low⟩ (fun hH => ?_)
    clear hK K
    generalize V2.alloc (.cells #[.int .i64 1, .int .i64 0, .slice za 0 zc] 45) = V3 at HA3 hH ⊢
    generalize V2.heap.size = N3 at HA3 ⊢
    refine tkH 4 ?_ hH ?_ ?_
    rotate_left
    ·intro w' hSw
     obtain ⟨s0, s1, s2, s3⟩ := hSw
     go_simp
     try with_reducible rfl
    refine rdH [5, 6] ?_
    refine consH (fun K hK => ?_) ?_
    ·go_simp
     go_at_call 14
     refine (HA3.out.ask5 HZ.out).mono ?_
     rintro e V4 ⟨q, rfl, hs, hb7⟩
     have HA4 := Lib.hid (HA3.out.call5 hb7 hs)
     clear hs hb7 HA3 hH
     refine hK.out _ _ ⟨Lib.hid HA4.out.low, HNX.out _ HA4.out.low⟩ (fun hH => ?_)
     clear hK K
     refine rdH [6] ?_
     refine consH (fun K hK => ?_) AllReadyH.nil
     go_simp
     clear hH
     have HA5 := Lib.hid (show Aw2 W0 (V4.alloc (.cells #[.int .i64 0, .int .i64 0, .slice none 0 0, .slice none 0 0] 30)) za zc _ _ _ _ _ from HA4.out.allocX)
     clear HA4
     refine hK.out _ _ ⟨Lib.hid HA5.out.low, HNX.out _ HA5.out.low⟩ (fun hH => ?_)
     clear hK K
     generalize V4.alloc (.cells #[.int .i64 0, .int .i64 0, .slice none 0 0, .slice none 0 0] 30) = V5 at HA5 hH ⊢
     generalize V4.heap.size = X at HA5 ⊢
     refine rdH [8] ?_
     refine consH (fun K hK => ?_) AllReadyH.nil
     have hz := (HA5.out.x _ rfl).1
     obtain ⟨m0, m1, m2, m3⟩ := cells4 hz
     have mf := free_of hz
     have ml := lt_of_block hz
     have HA6 := Lib.hid HA5.out.put
     go_simp
     clear hz m0 m1 m2 m3 mf ml hH HA5
     refine hK.out _ _ ⟨Lib.hid HA6.out.1, HNX.out _ HA6.out.1⟩ (fun hH => ?_)
     clear hK K
     generalize (((V5.setCell ⟨X, 0, none⟩ (.int .i64 2)).setCell ⟨X, 1, none⟩ (.int .i64 0)).setCell ⟨X, 2, none⟩ (.slice p 1 1)).setCell ⟨X, 3, none⟩ (.slice none 0 0) = V6 at HA6 hH ⊢
     refine rdH [9] ?_
     refine consH (fun K hK => ?_) AllReadyH.nil
     have hz := HA6.out.2.2.1
     obtain ⟨m0, m1, m2, m3⟩ := cells4 hz
     have mf := free_of hz
     have ml := lt_of_block hz
     have HE := Lib.hid HA6.out.put
     go_simp
     clear hz m0 m1 m2 m3 mf ml hH HA6
     refine hK.out _ _ ⟨Lib.hid HE.out.1, HNX.out _ HE.out.1⟩ (fun hH => ?_)
     clear hK K
     try simp only [Act.put, List.setIfInBounds_toArray, List.set_cons_zero, List.set_cons_succ]
     refine wpAnyH_done (by kernel_rfl) ?_ _
     go_wp2_with fail
     go_meet
     exact ⟨X, Y, p, q, rfl, rfl, HE⟩
    refine consH (fun K hK => ?_) AllReadyH.nil
    go_simp
    clear hH
    have HA4 := Lib.hid (show Aw2 W0 (V3.alloc (.cells #[.int .i64 0, .int .i64 0, .slice none 0 0, .slice none 0 0] 30)) za zc _ _ _ _ _ from HA3.out.allocX)
    clear HA3
    refine hK.out _ _ ⟨Lib.hid HA4.out.low, HNX.out _ HA4.out.low⟩ (fun hH => ?_)
    clear hK K
    generalize V3.alloc (.cells #[.int .i64 0, .int .i64 0, .slice none 0 0, .slice none 0 0] 30) = V4 at HA4 hH ⊢
    generalize V3.heap.size = X at HA4 ⊢
    refine rdH [5] ?_
    refine consH (fun K hK => ?_) AllReadyH.nil
    go_simp
    go_at_call 14
    refine (HA4.out.ask5 HZ.out).mono ?_
    rintro e V5 ⟨q, rfl, hs, hb7⟩
    have HA5 := Lib.hid (HA4.out.call5 hb7 hs)
    clear hs hb7 HA4 hH
    refine hK.out _ _ ⟨Lib.hid HA5.out.low, HNX.out _ HA5.out.low⟩ (fun hH => ?_)
    clear hK K
    refine rdH [8] ?_
    refine consH (fun K hK => ?_) AllReadyH.nil
    have hz := (HA5.out.x _ rfl).1
    obtain ⟨m0, m1, m2, m3⟩ := cells4 hz
    have mf := free_of hz
    have ml := lt_of_block hz
    have HA6 := Lib.hid HA5.out.put
    go_simp
    clear hz m0 m1 m2 m3 mf ml hH HA5
    refine hK.out _ _ ⟨Lib.hid HA6.out.1, HNX.out _ HA6.out.1⟩ (fun hH => ?_)
    clear hK K
    generalize (((V5.setCell ⟨X, 0, none⟩ (.int .i64 2)).setCell ⟨X, 1, none⟩ (.int .i64 0)).setCell ⟨X, 2, none⟩ (.slice p 1 1)).setCell ⟨X, 3, none⟩ (.slice none 0 0) = V6 at HA6 hH ⊢
    refine rdH [9] ?_
    refine consH (fun K hK => ?_) AllReadyH.nil
    have hz := HA6.out.2.2.1
    obtain ⟨m0, m1, m2, m3⟩ := cells4 hz
    have mf := free_of hz
    have ml := lt_of_block hz
    have HE := Lib.hid HA6.out.put
    go_simp
    clear hz m0 m1 m2 m3 mf ml hH HA6
    refine hK.out _ _ ⟨Lib.hid HE.out.1, HNX.out _ HE.out.1⟩ (fun hH => ?_)
    clear hK K
    try simp only [Act.put, List.setIfInBounds_toArray, List.set_cons_zero, List.set_cons_succ]
    refine wpAnyH_done (by kernel_rfl) ?_ _
    go_wp2_with fail
    go_meet
    exact ⟨X, Y, p, q, rfl, rfl, HE⟩
   refine consH (fun K hK => ?_) AllReadyH.nil
   go_simp
   clear hH
   have HA3 := Lib.hid (show Aw2 W0 (V2.alloc (.cells #[.int .i64 0, .int .i64 0, .slice none 0 0, .slice none 0 0] 30)) za zc _ _ _ _ _ from HA2.out.allocX)
   clear HA2
   refine hK.out _ _ ⟨Lib.hid HA3.out.low, HNX.out _ HA3.out.low⟩ (fun hH => ?_)
   clear hK K
   generalize V2.alloc (.cells #[.int .i64 0, .int .i64 0, .slice none 0 0, .slice none 0 0] 30) = V3 at HA3 hH ⊢
   generalize V2.heap.size = X at HA3 ⊢
   refine rdH [3] ?_
   refine consH (fun K hK => ?_) AllReadyH.nil
   go_simp
   clear hH
   have HA4 := Lib.hid (show Aw2 W0 (V3.alloc (.cells #[.int .i64 1, .int .i64 0, .slice za 0 zc] 45)) za zc _ _ _ _ _ from HA3.out.lit)
   clear HA3
   refine hK.out _ _ ⟨Lib.hid HA4.out.low, HNX.out _ HA4.out.low⟩ (fun hH => ?_)
   clear hK K
   generalize V3.alloc (.cells #[.int .i64 1, .int .i64 0, .slice za 0 zc] 45) = V4 at HA4 hH ⊢
   generalize V3.heap.size = N3 at HA4 ⊢
   refine tkH 4 ?_ hH ?_ ?_
   rotate_left
   ·intro w' hSw
    obtain ⟨s0, s1, s2, s3⟩ := hSw
    go_simp
    try with_reducible rfl
   refine rdH [5] ?_
   refine consH (fun K hK => ?_) AllReadyH.nil
   go_simp
   go_at_call 14
   refine (HA4.out.ask5 HZ.out).mono ?_
   rintro e V5 ⟨q, rfl, hs, hb7⟩
   have HA5 := Lib.hid (HA4.out.call5 hb7 hs)
   clear hs hb7 HA4 hH
   refine hK.out _ _ ⟨Lib.hid HA5.out.low, HNX.out _ HA5.out.low⟩ (fun hH => ?_)
   clear hK K
   refine rdH [8] ?_
   refine consH (fun K hK => ?_) AllReadyH.nil
   have hz := (HA5.out.x _ rfl).1
   obtain ⟨m0, m1, m2, m3⟩ := cells4 hz
   have mf := free_of hz
   have ml := lt_of_block hz
   have HA6 := Lib.hid HA5.out.put
   go_simp
   clear hz m0 m1 m2 m3 mf ml hH HA5
   refine hK.out _ _ ⟨Lib.hid HA6.out.1, HNX.out _ HA6.out.1⟩ (fun hH => ?_)
   clear hK K
   generalize (((V5.setCell ⟨X, 0, none⟩ (.int .i64 2)).setCell ⟨X, 1, none⟩ (.int .i64 0)).setCell ⟨X, 2, none⟩ (.slice p 1 1)).setCell ⟨X, 3, none⟩ (.slice none 0 0) = V6 at HA6 hH ⊢
   refine rdH [9] ?_
   refine consH (fun K hK => ?_) AllReadyH.nil
   have hz := HA6.out.2.2.1
   obtain ⟨m0, m1, m2, m3⟩ := cells4 hz
   have mf := free_of hz
   have ml := lt_of_block hz
   have HE := Lib.hid HA6.out.put
   go_simp
   clear hz m0 m1 m2 m3 mf ml hH HA6
   refine hK.out _ _ ⟨Lib.hid HE.out.1, HNX.out _ HE.out.1⟩ (fun hH => ?_)
   clear hK K
   try simp only [Act.put, List.setIfInBounds_toArray, List.set_cons_zero, List.set_cons_succ]
   refine wpAnyH_done (by kernel_rfl) ?_ _
   go_wp2_with fail
   go_meet
   exact ⟨X, Y, p, q, rfl, rfl, HE⟩
  refine consH (fun K hK => ?_) ?_
  ·go_simp
   clear hH
   have HA1 := Lib.hid (show Aw2 W0 (V0.alloc (.cells #[.int .i64 1, .int .i64 0, .slice za 0 zc] 45)) za zc _ _ _ _ _ from HA0.out.lit)
   clear HA0
   refine hK.out _ _ ⟨Lib.hid HA1.out.low, HNX.out _ HA1.out.low⟩ (fun hH => ?_)
   clear hK K
   generalize V0.alloc (.cells #[.int .i64 1, .int .i64 0, .slice za 0 zc] 45) = V1 at HA1 hH ⊢
   generalize V0.heap.size = N3 at HA1 ⊢
   refine tkH 4 ?_ hH ?_ ?_
   rotate_left
   ·intro w' hSw
    obtain ⟨s0, s1, s2, s3⟩ := hSw
    go_simp
    try with_reducible rfl
   refine rdH [1, 6, 7] ?_
   refine consH (fun K hK => ?_) ?_
   ·go_simp
    go_at_call 14
    refine (ask1 HZ.out _).mono ?_
    rintro e V2 ⟨p, rfl, hs, hb7⟩
    have HA2 := Lib.hid (HA1.out.call1 hb7 hs)
    clear hs hb7 HA1 hH
    refine hK.out _ _ ⟨Lib.hid HA2.out.low, HNX.out _ HA2.out.low⟩ (fun hH => ?_)
    clear hK K
    refine rdH [5, 6, 7] ?_
    refine consH (fun K hK => ?_) ?_
    ·go_simp
     go_at_call 14
     refine (HA2.out.ask5 HZ.out).mono ?_
     rintro e V3 ⟨q, rfl, hs, hb7⟩
     have HA3 := Lib.hid (HA2.out.call5 hb7 hs)
     clear hs hb7 HA2 hH
     refine hK.out _ _ ⟨Lib.hid HA3.out.low, HNX.out _ HA3.out.low⟩ (fun hH => ?_)
     clear hK K
     refine rdH [6, 7] ?_
     refine consH (fun K hK => ?_) ?_
     ·go_simp
      clear hH
      have HA4 := Lib.hid (show Aw2 W0 (V3.alloc (.cells #[.int .i64 0, .int .i64 0, .slice none 0 0, .slice none 0 0] 30)) za zc _ _ _ _ _ from HA3.out.allocX)
      clear HA3
      refine hK.out _ _ ⟨Lib.hid HA4.out.low, HNX.out _ HA4.out.low⟩ (fun hH => ?_)
      clear hK K
      generalize V3.alloc (.cells #[.int .i64 0, .int .i64 0, .slice none 0 0, .slice none 0 0] 30) = V4 at HA4 hH ⊢
      generalize V3.heap.size = X at HA4 ⊢
      refine rdH [7] ?_
      refine consH (fun K hK => ?_) AllReadyH.nil
      go_simp
      clear hH
      have HA5 := Lib.hid (show Aw2 W0 (V4.alloc (.cells #[.int .i64 0, .int .i64 0, .slice none 0 0, .slice none 0 0] 30)) za zc _ _ _ _ _ from HA4.out.allocY)
      clear HA4
      refine hK.out _ _ ⟨Lib.hid HA5.out.low, HNX.out _ HA5.out.low⟩ (fun hH => ?_)
      clear hK K
      generalize V4.alloc (.cells #[.int .i64 0, .int .i64 0, .slice none 0 0, .slice none 0 0] 30) = V5 at HA5 hH ⊢
      generalize V4.heap.size = Y at HA5 ⊢
      refine rdH [8] ?_
      refine consH (fun K hK => ?_) AllReadyH.nil
      have hz := (HA5.out.x _ rfl).1
      obtain ⟨m0, m1, m2, m3⟩ := cells4 hz
      have mf := free_of hz
      have ml := lt_of_block hz
      have HA6 := Lib.hid HA5.out.put
      go_simp
      clear hz m0 m1 m2 m3 mf ml hH HA5
      refine hK.out _ _ ⟨Lib.hid HA6.out.1, HNX.out _ HA6.out.1⟩ (fun hH => ?_)
      clear hK K
      generalize (((V5.setCell ⟨X, 0, none⟩ (.int .i64 2)).setCell ⟨X, 1, none⟩ (.int .i64 0)).setCell ⟨X, 2, none⟩ (.slice p 1 1)).setCell ⟨X, 3, none⟩ (.slice none 0 0) = V6 at HA6 hH ⊢
      refine rdH [9] ?_
      refine consH (fun K hK => ?_) AllReadyH.nil
      have hz := HA6.out.2.2.1
      obtain ⟨m0, m1, m2, m3⟩ := cells4 hz
      have mf := free_of hz
      have ml := lt_of_block hz
      have HE := Lib.hid HA6.out.put
      go_simp
      clear hz m0 m1 m2 m3 mf ml hH HA6
      refine hK.out _ _ ⟨Lib.hid HE.out.1, HNX.out _ HE.out.1⟩ (fun hH => ?_)
      clear hK K
      try simp only [Act.put, List.setIfInBounds_toArray, List.set_cons_zero, List.set_cons_succ]
      refine wpAnyH_done (by kernel_rfl) ?_ _
      go_wp2_with fail
      go_meet
      exact ⟨X, Y, p, q, rfl, rfl, HE⟩
     refine consH (fun K hK => ?_) AllReadyH.nil
     go_simp
     clear hH
     have HA4 := Lib.hid (show Aw2 W0 (V3.alloc (.cells #[.int .i64 0, .int .i64 0, .slice none 0 0, .slice none 0 0] 30)) za zc _ _ _ _ _ from HA3.out.allocY)
     clear HA3
     refine hK.out _ _ ⟨Lib.hid HA4.out.low, HNX.out _ HA4.out.low⟩ (fun hH => ?_)
     clear hK K
     generalize V3.alloc (.cells #[.int .i64 0, .int .i64 0, .slice none 0 0, .slice none 0 0] 30) = V4 at HA4 hH ⊢
     generalize V3.heap.size = Y at HA4 ⊢
     refine rdH [6] ?_
     refine consH (fun K hK => ?_) AllReadyH.nil
     go_simp
     clear hH
     have HA5 := Lib.hid (show Aw2 W0 (V4.alloc (.cells #[.int .i64 0, .int .i64 0, .slice none 0 0, .slice none 0 0] 30)) za zc _ _ _ _ _ from HA4.out.allocX)
     clear HA4
     refine hK.out _ _ ⟨Lib.hid HA5.out.low, HNX.out _ HA5.out.low⟩ (fun hH => ?_)
     clear hK K
     generalize V4.alloc (.cells #[.int .i64 0, .int .i64 0, .slice none 0 0, .slice none 0 0] 30) = V5 at HA5 hH ⊢
     generalize V4.heap.size = X at HA5 ⊢
     refine rdH [8] ?_
     refine consH (fun K hK => ?_) AllReadyH.nil
     have hz := (HA5.out.x _ rfl).1
     obtain ⟨m0, m1, m2, m3⟩ := cells4 hz
     have mf := free_of hz
     have ml := lt_of_block hz
     have HA6 := Lib.hid HA5.out.put
     go_simp
     clear hz m0 m1 m2 m3 mf ml hH HA5
     refine hK.out _ _ ⟨Lib.hid HA6.out.1, HNX.out _ HA6.out.1⟩ (fun hH => ?_)
     clear hK K
     generalize (((V5.setCell ⟨X, 0, none⟩ (.int .i64 2)).setCell ⟨X, 1, none⟩ (.int .i64 0)).setCell ⟨X, 2, none⟩ (.slice p 1 1)).setCell ⟨X, 3, none⟩ (.slice none 0 0) = V6 at HA6 hH ⊢
     refine rdH [9] ?_
     refine consH (fun K hK => ?_) AllReadyH.nil
     have hz := HA6.out.2.2.1
     obtain ⟨m0, m1, m2, m3⟩ := cells4 hz
     have mf := free_of hz
     have ml := lt_of_block hz
     have HE := Lib.hid HA6.out.put
     go_simp
     clear hz m0 m1 m2 m3 mf ml hH HA6
     refine hK.out _ _ ⟨Lib.hid HE.out.1, HNX.out _ HE.out.1⟩ (fun hH => ?_)
     clear hK K
     try simp only [Act.put, List.setIfInBounds_toArray, List.set_cons_zero, List.set_cons_succ]
     refine wpAnyH_done (by kernel_rfl) ?_ _
     go_wp2_with fail
     go_meet
     exact ⟨X, Y, p, q, rfl, rfl, HE⟩
    refine consH (fun K hK => ?_) ?_
    ·go_simp
     clear hH
     have HA3 := Lib.hid (show Aw2 W0 (V2.alloc (.cells #[.int .i64 0, .int .i64 0, .slice none 0 0, .slice none 0 0] 30)) za zc _ _ _ _ _ from HA2.out.allocX)
     clear HA2
     refine hK.out _ _ ⟨Lib.hid HA3.out.low, HNX.out _ HA3.out.low⟩ (fun hH => ?_)
     clear hK K
     generalize V2.alloc (.cells #[.int .i64 0, .int .i64 0, .slice none 0 0, .slice none 0 0] 30) = V3 at HA3 hH ⊢
     generalize V2.heap.size = X at HA3 ⊢
     refine rdH [5, 7] ?_
     refine consH (fun K hK => ?_) ?_
     ·go_simp
      go_at_call 14
      refine (HA3.out.ask5 HZ.out).mono ?_
      rintro e V4 ⟨q, rfl, hs, hb7⟩
      have HA4 := Lib.hid (HA3.out.call5 hb7 hs)
      clear hs hb7 HA3 hH
      refine hK.out _ _ ⟨Lib.hid HA4.out.low, HNX.out _ HA4.out.low⟩ (fun hH => ?_)
      clear hK K
      refine rdH [7] ?_
      refine consH (fun K hK => ?_) AllReadyH.nil
      go_simp
      clear hH
      have HA5 := Lib.hid (show Aw2 W0 (V4.alloc (.cells #[.int .i64 0, .int .i64 0, .slice none 0 0, .slice none 0 0] 30)) za zc _ _ _ _ _ from HA4.out.allocY)
      clear HA4
      refine hK.out _ _ ⟨Lib.hid HA5.out.low, HNX.out _ HA5.out.low⟩ (fun hH => ?_)
      clear hK K
      generalize V4.alloc (.cells #[.int .i64 0, .int .i64 0, .slice none 0 0, .slice none 0 0] 30) = V5 at HA5 hH ⊢
      generalize V4.heap.size = Y at HA5 ⊢
      refine rdH [8] ?_
      refine consH (fun K hK => ?_) AllReadyH.nil
      have hz := (HA5.out.x _ rfl).1
      obtain ⟨m0, m1, m2, m3⟩ := cells4 hz
      have mf := free_of hz
      have ml := lt_of_block hz
      have HA6 := Lib.hid HA5.out.put
      go_simp
      clear hz m0 m1 m2 m3 mf ml hH HA5
      refine hK.out _ _ ⟨Lib.hid HA6.out.1, HNX.out _ HA6.out.1⟩ (fun hH => ?_)
      clear hK K
      generalize (((V5.setCell ⟨X, 0, none⟩ (.int .i64 2)).setCell ⟨X, 1, none⟩ (.int .i64 0)).setCell ⟨X, 2, none⟩ (.slice p 1 1)).setCell ⟨X, 3, none⟩ (.slice none 0 0) = V6 at HA6 hH ⊢
      refine rdH [9] ?_
      refine consH (fun K hK => ?_) AllReadyH.nil
      have hz := HA6.out.2.2.1
      obtain ⟨m0, m1, m2, m3⟩ := cells4 hz
      have mf := free_of hz
      have ml := lt_of_block hz
      have HE := Lib.hid HA6.out.put
      go_simp
      clear hz m0 m1 m2 m3 mf ml hH HA6
      refine hK.out _ _ ⟨Lib.hid HE.out.1, HNX.out _ HE.out.1⟩ (fun hH => ?_)
      clear hK K
      try simp only [Act.put, List.setIfInBounds_toArray, List.set_cons_zero, List.set_cons_succ]
      refine wpAnyH_done (by kernel_rfl) ?_ _
      go_wp2_with fail
      go_meet
      exact ⟨X, Y, p, q, rfl, rfl, HE⟩
     refine consH (fun K hK => ?_) AllReadyH.nil
     go_simp
     clear hH
     have HA4 := Lib.hid (show Aw2 W0 (V3.alloc (.cells #[.int .i64 0, .int .i64 0, .slice none 0 0, .slice none 0 0] 30)) za zc _ _ _ _ _ from HA3.out.allocY)
     clear HA3
     refine hK.out _ _ ⟨Lib.hid HA4.out.low, HNX.out _ HA4.out.low⟩ (fun hH => ?_)
     clear hK K
     generalize V3.alloc (.cells #[.int .i64 0, .int .i64 0, .slice none 0 0, .slice none 0 0] 30) = V4 at HA4 hH ⊢
     generalize V3.heap.size = Y at HA4 ⊢
     refine rdH [5] ?_
     refine consH (fun K hK => ?_) AllReadyH.nil
     go_simp
     go_at_call 14
     refine (HA4.out.ask5 HZ.out).mono ?_
     rintro e V5 ⟨q, rfl, hs, hb7⟩
     have HA5 := Lib.hid (HA4.out.call5 hb7 hs)
     clear hs hb7 HA4 hH
     refine hK.out _ _ ⟨Lib.hid HA5.out.low, HNX.out _ HA5.out.low⟩ (fun hH => ?_)
     clear hK K
     refine rdH [8] ?_
     refine consH (fun K hK => ?_) AllReadyH.nil
     have hz := (HA5.out.x _ rfl).1
     obtain ⟨m0, m1, m2, m3⟩ := cells4 hz
     have mf := free_of hz
     have ml := lt_of_block hz
     have HA6 := Lib.hid HA5.out.put
     go_simp
     clear hz m0 m1 m2 m3 mf ml hH HA5
     refine hK.out _ _ ⟨Lib.hid HA6.out.1, HNX.out _ HA6.out.1⟩ (fun hH => ?_)
     clear hK K
     generalize (((V5.setCell ⟨X, 0, none⟩ (.int .i64 2)).setCell ⟨X, 1, none⟩ (.int .i64 0)).setCell ⟨X, 2, none⟩ (.slice p 1 1)).setCell ⟨X, 3, none⟩ (.slice none 0 0) = V6 at HA6 hH ⊢
     refine rdH [9] ?_
     refine consH (fun K hK => ?_) AllReadyH.nil
     have hz := HA6.out.2.2.1
     obtain ⟨m0, m1, m2, m3⟩ := cells4 hz
     have mf := free_of hz
     have ml := lt_of_block hz
     have HE := Lib.hid HA6.out.put
     go_simp
     clear hz m0 m1 m2 m3 mf ml hH HA6
     refine hK.out _ _ ⟨Lib.hid HE.out.1, HNX.out _ HE.out.1⟩ (fun hH => ?_)
     clear hK K
     try simp only [Act.put, List.setIfInBounds_toArray, List.set_cons_zero, List.set_cons_succ]
     refine wpAnyH_done (by kernel_rfl) ?_ _
     go_wp2_with fail
     go_meet
     exact ⟨X, Y, p, q, rfl, rfl, HE⟩
    refine consH (fun K hK => ?_) AllReadyH.nil
    go_simp
    clear hH
    have HA3 := Lib.hid (show Aw2 W0 (V2.alloc (.cells #[.int .i64 0, .int .i64 0, .slice none 0 0, .slice none 0 0] 30)) za zc _ _ _ _ _ from HA2.out.allocY)
    clear HA2
    refine hK.out _ _ ⟨Lib.hid HA3.out.low, HNX.out _ HA3.out.low⟩ (fun hH => ?_)
    clear hK K
    generalize V2.alloc (.cells #[.int .i64 0, .int .i64 0, .slice none 0 0, .slice none 0 0] 30) = V3 at HA3 hH ⊢
    generalize V2.heap.size = Y at HA3 ⊢
    refine rdH [5, 6] ?_
    refine consH (fun K hK => ?_) ?_
    ·go_simp
     go_at_call 14
     refine (HA3.out.ask5 HZ.out).mono ?_
     rintro e V4 ⟨q, rfl, hs, hb7⟩
     have HA4 := Lib.hid (HA3.out.call5 hb7 hs)
     clear hs hb7 HA3 hH
     refine hK.out _ _ ⟨Lib.hid HA4.out.low, HNX.out _ HA4.out.low⟩ (fun hH => ?_)
     clear hK K
     refine rdH [6] ?_
     refine consH (fun K hK => ?_) AllReadyH.nil
     go_simp
     clear hH
     have HA5 := Lib.hid (show Aw2 W0 (V4.alloc (.cells #[.int .i64 0, .int .i64 0, .slice none 0 0, .slice none 0 0] 30)) za zc _ _ _ _ _ from HA4.out.allocX)
     clear HA4
     refine hK.out _ _ ⟨Lib.hid HA5.out.low, HNX.out _ HA5.out.low⟩ (fun hH => ?_)
     clear hK K
     generalize V4.alloc (.cells #[.int .i64 0, .int .i64 0, .slice none 0 0, .slice none 0 0] 30) = V5 at HA5 hH ⊢
     generalize V4.heap.size = X at HA5 ⊢
     refine rdH [8] ?_
     refine consH (fun K hK => ?_) AllReadyH.nil
     have hz := (HA5.out.x _ rfl).1
     obtain ⟨m0, m1, m2, m3⟩ := cells4 hz
     have mf := free_of hz
     have ml := lt_of_block hz
     have HA6 := Lib.hid HA5.out.put
     go_simp
     clear hz m0 m1 m2 m3 mf ml hH HA5
     refine hK.out _ _ ⟨Lib.hid HA6.out.1, HNX.out _ HA6.out.1⟩ (fun hH => ?_)
     clear hK K
     generalize (((V5.setCell ⟨X, 0, none⟩ (.int .i64 2)).setCell ⟨X, 1, none⟩ (.int .i64 0)).setCell ⟨X, 2, none⟩ (.slice p 1 1)).setCell ⟨X, 3, none⟩ (.slice none 0 0) = V6 at HA6 hH ⊢
     refine rdH [9] ?_
     refine consH (fun K hK => ?_) AllReadyH.nil
     have hz := HA6.out.2.2.1
     obtain ⟨m0, m1, m2, m3⟩ := cells4 hz
     have mf := free_of hz
     have ml := lt_of_block hz
     have HE := Lib.hid HA6.out.put
     go_simp
     clear hz m0 m1 m2 m3 mf ml hH HA6
     refine hK.out _ _ ⟨Lib.hid HE.out.1, HNX.out _ HE.out.1⟩ (fun hH => ?_)
     clear hK K
     try simp only [Act.put, List.setIfInBounds_toArray, List.set_cons_zero, List.set_cons_succ]
     refine wpAnyH_done (by kernel_rfl) ?_ _
     go_wp2_with fail
     go_meet
     exact ⟨X, Y, p, q, rfl, rfl, HE⟩
    refine consH (fun K hK => ?_) AllReadyH.nil
    go_simp
    clear hH
    have HA4 := Lib.hid (show Aw2 W0 (V3.alloc (.cells #[.int .i64 0, .int .i64 0, .slice none 0 0, .slice none 0 0] 30)) za zc _ _ _ _ _ from HA3.out.allocX)
    clear HA3
    refine hK.out _ _ ⟨Lib.hid HA4.out.low, HNX.out _ HA4.out.low⟩ (fun hH => ?_)
    clear hK K
    generalize V3.alloc (.cells #[.int .i64 0, .int .i64 0, .slice none 0 0, .slice none 0 0] 30) = V4 at HA4 hH ⊢
    generalize V3.heap.size = X at HA4 ⊢
    refine rdH [5] ?_
    refine consH (fun K hK => ?_) AllReadyH.nil
    go_simp
    go_at_call 14
    refine (HA4.out.ask5 HZ.out).mono ?_
    rintro e V5 ⟨q, rfl, hs, hb7⟩
    have HA5 := Lib.hid (HA4.out.call5 hb7 hs)
    clear hs hb7 HA4 hH
    refine hK.out _ _ ⟨Lib.hid HA5.out.low, HNX.out _ HA5.out.low⟩ (fun hH => ?_)
    clear hK K
    refine rdH [8] ?_
    refine consH (fun K hK => ?_) AllReadyH.nil
    have hz := (HA5.out.x _ rfl).1
    obtain ⟨m0, m1, m2, m3⟩ := cells4 hz
    have mf := free_of hz
    have ml := lt_of_block hz
    have HA6 := Lib.hid HA5.out.put
    go_simp
    clear hz m0 m1 m2 m3 mf ml hH HA5
    refine hK.out _ _ ⟨Lib.hid HA6.out.1, HNX.out _ HA6.out.1⟩ (fun hH => ?_)
    clear hK K
    generalize (((V5.setCell ⟨X, 0, none⟩ (.int .i64 2)).setCell ⟨X, 1, none⟩ (.int .i64 0)).setCell ⟨X, 2, none⟩ (.slice p 1 1)).setCell ⟨X, 3, none⟩ (.slice none 0 0) = V6 at HA6 hH ⊢
    refine rdH [9] ?_
    refine consH (fun K hK => ?_) AllReadyH.nil
    have hz := HA6.out.2.2.1
    obtain ⟨m0, m1, m2, m3⟩ := cells4 hz
    have mf := free_of hz
    have ml := lt_of_block hz
    have HE := Lib.hid HA6.out.put
    go_simp
    clear hz m0 m1 m2 m3 mf ml hH HA6
    refine hK.out _ _ ⟨Lib.hid HE.out.1, HNX.out _ HE.out.1⟩ (fun hH => ?_)
    clear hK K
    try simp only [Act.put, List.setIfInBounds_toArray, List.set_cons_zero, List.set_cons_succ]
    refine wpAnyH_done (by kernel_rfl) ?_ _
    go_wp2_with fail
    go_meet
    exact ⟨X, Y, p, q, rfl, rfl, HE⟩
   refine consH (fun K hK => ?_) ?_
   ·go_simp
    clear hH
    have HA2 := Lib.hid (show Aw2 W0 (V1.alloc (.cells #[.int .i64 0, .int .i64 0, .slice none 0 0, .slice none 0 0] 30)) za zc _ _ _ _ _ from HA1.out.allocX)
    clear HA1
    refine hK.out _ _ ⟨Lib.hid HA2.out.low, HNX.out _ HA2.out.low⟩ (fun hH => ?_)
    clear hK K
    generalize V1.alloc (.cells #[.int .i64 0, .int .i64 0, .slice none 0 0, .slice none 0 0] 30) = V2 at HA2 hH ⊢
    generalize V1.heap.size = X at HA2 ⊢
    refine rdH [1, 7] ?_
    refine consH (fun K hK => ?_) ?_
    ·go_simp
     go_at_call 14
     refine (ask1 HZ.out _).mono ?_
     rintro e V3 ⟨p, rfl, hs, hb7⟩
     have HA3 := Lib.hid (HA2.out.call1 hb7 hs)
     clear hs hb7 HA2 hH
     refine hK.out _ _ ⟨Lib.hid HA3.out.low, HNX.out _ HA3.out.low⟩ (fun hH => ?_)
     clear hK K
     refine rdH [5, 7] ?_
     refine consH (fun K hK => ?_) ?_
     ·go_simp
      go_at_call 14
      refine (HA3.out.ask5 HZ.out).mono ?_
      rintro e V4 ⟨q, rfl, hs, hb7⟩
      have HA4 := Lib.hid (HA3.out.call5 hb7 hs)
      clear hs hb7 HA3 hH
      refine hK.out _ _ ⟨Lib.hid HA4.out.low, HNX.out _ HA4.out.low⟩ (fun hH => ?_)
      clear hK K
      refine rdH [7] ?_
      refine consH (fun K hK => ?_) AllReadyH.nil
      go_simp
      clear hH
      have HA5 := Lib.hid (show Aw2 W0 (V4.alloc (.cells #[.int .i64 0, .int .i64 0, .slice none 0 0, .slice none 0 0] 30)) za zc _ _ _ _ _ from HA4.out.allocY)
      clear HA4
      refine hK.out _ _ ⟨Lib.hid HA5.out.low, HNX.out _ HA5.out.low⟩ (fun hH => ?_)
      clear hK K
      generalize V4.alloc (.cells #[.int .i64 0, .int .i64 0, .slice none 0 0, .slice none 0 0] 30) = V5 at HA5 hH ⊢
      generalize V4.heap.size = Y at HA5 ⊢
      refine rdH [8] ?_
      refine consH (fun K hK => ?_) AllReadyH.nil
      have hz := (HA5.out.x _ rfl).1
      obtain ⟨m0, m1, m2, m3⟩ := cells4 hz
      have mf := free_of hz
      have ml := lt_of_block hz
      have HA6 := Lib.hid HA5.out.put
      go_simp
      clear hz m0 m1 m2 m3 mf ml hH HA5
      refine hK.out _ _ ⟨Lib.hid HA6.out.1, HNX.out _ HA6.out.1⟩ (fun hH => ?_)
      clear hK K
      generalize (((V5.setCell ⟨X, 0, none⟩ (.int .i64 2)).setCell ⟨X, 1, none⟩ (.int .i64 0)).setCell ⟨X, 2, none⟩ (.slice p 1 1)).setCell ⟨X, 3, none⟩ (.slice none 0 0) = V6 at HA6 hH ⊢
      refine rdH [9] ?_
      refine consH (fun K hK => ?_) AllReadyH.nil
      have hz := HA6.out.2.2.1
      obtain ⟨m0, m1, m2, m3⟩ := cells4 hz
      have mf := free_of hz
      have ml := lt_of_block hz
      have HE := Lib.hid HA6.out.put
      go_simp
      clear hz m0 m1 m2 m3 mf ml hH HA6
      refine hK.out _ _ ⟨Lib.hid HE.out.1, HNX.out _ HE.out.1⟩ (fun hH => ?_)
      clear hK K
      try simp only [Act.put, List.setIfInBounds_toArray, List.set_cons_zero, List.set_cons_succ]
      refine wpAnyH_done (by kernel_rfl) ?_ _
      go_wp2_with fail
      go_meet
      exact ⟨X, Y, p, q, rfl, rfl, HE⟩
     refine consH (fun K hK => ?_) AllReadyH.nil
     go_simp
     clear hH
     have HA4 := Lib.hid (show Aw2 W0 (V3.alloc (.cells #[.int .i64 0, .int .i64 0, .slice none 0 0, .slice none 0 0] 30)) za zc _ _ _ _ _ from HA3.out.allocY)
     clear HA3
     refine hK.out _ _ ⟨Lib.hid HA4.out.low, HNX.out _ HA4.out.low⟩ (fun hH => ?_)
     clear hK K
     generalize V3.alloc (.cells #[.int .i64 0, .int .i64 0, .slice none 0 0, .slice none 0 0] 30) = V4 at HA4 hH ⊢
     generalize V3.heap.size = Y at HA4 ⊢
     refine rdH [5] ?_
     refine consH (fun K hK => ?_) AllReadyH.nil
     go_simp
     go_at_call 14
     refine (HA4.out.ask5 HZ.out).mono ?_
     rintro e V5 ⟨q, rfl, hs, hb7⟩
     have HA5 := Lib.hid (HA4.out.call5 hb7 hs)
     clear hs hb7 HA4 hH
     refine hK.out _ _ ⟨Lib.hid HA5.out.low, HNX.out _ HA5.out.low⟩ (fun hH => ?_)
     clear hK K
     refine rdH [8] ?_
     refine consH (fun K hK => ?_) AllReadyH.nil
     have hz := (HA5.out.x _ rfl).1
     obtain ⟨m0, m1, m2, m3⟩ := cells4 hz
     have mf := free_of hz
     have ml := lt_of_block hz
     have HA6 := Lib.hid HA5.out.put
     go_simp
     clear hz m0 m1 m2 m3 mf ml hH HA5
     refine hK.out _ _ ⟨Lib.hid HA6.out.1, HNX.out _ HA6.out.1⟩ (fun hH => ?_)
     clear hK K
     generalize (((V5.setCell ⟨X, 0, none⟩ (.int .i64 2)).setCell ⟨X, 1, none⟩ (.int .i64 0)).setCell ⟨X, 2, none⟩ (.slice p 1 1)).setCell ⟨X, 3, none⟩ (.slice none 0 0) = V6 at HA6 hH ⊢
     refine rdH [9] ?_
     refine consH (fun K hK => ?_) AllReadyH.nil
     have hz := HA6.out.2.2.1
     obtain ⟨m0, m1, m2, m3⟩ := cells4 hz
     have mf := free_of hz
     have ml := lt_of_block hz
     have HE := Lib.hid HA6.out.put
     go_simp
     clear hz m0 m1 m2 m3 mf ml hH HA6
     refine hK.out _ _ ⟨Lib.hid HE.out.1, HNX.out _ HE.out.1⟩ (fun hH => ?_)
     clear hK K
     try simp only [Act.put, List.setIfInBounds_toArray, List.set_cons_zero, List.set_cons_succ]
     refine wpAnyH_done (by kernel_rfl) ?_ _
     go_wp2_with fail
     go_meet
     exact ⟨X, Y, p, q, rfl, rfl, HE⟩
    refine consH (fun K hK => ?_) AllReadyH.nil
    go_simp
    clear hH
    have HA3 := Lib.hid (show Aw2 W0 (V2.alloc (.cells #[.int .i64 0, .int .i64 0, .slice none 0 0, .slice none 0 0] 30)) za zc _ _ _ _ _ from HA2.out.allocY)
    clear HA2
    refine hK.out _ _ ⟨Lib.hid HA3.out.low, HNX.out _ HA3.out.low⟩ (fun hH => ?_)
    clear hK K
    generalize V2.alloc (.cells #[.int .i64 0, .int .i64 0, .slice none 0 0, .slice none 0 0] 30) = V3 at HA3 hH ⊢
    generalize V2.heap.size = Y at HA3 ⊢
    refine rdH [1] ?_
    refine consH (fun K hK => ?_) AllReadyH.nil
    go_simp
    go_at_call 14
    refine (ask1 HZ.out _).mono ?_
    rintro e V4 ⟨p, rfl, hs, hb7⟩
    have HA4 := Lib.hid (HA3.out.call1 hb7 hs)
    clear hs hb7 HA3 hH
    refine hK.out _ _ ⟨Lib.hid HA4.out.low, HNX.out _ HA4.out.low⟩ (fun hH => ?_)
    clear hK K
    refine rdH [5] ?_
    refine consH (fun K hK => ?_) AllReadyH.nil
    go_simp
    go_at_call 14
    refine (HA4.out.ask5 HZ.out).mono ?_
    rintro e V5 ⟨q, rfl, hs, hb7⟩
    have HA5 := Lib.hid (HA4.out.call5 hb7 hs)
    clear hs hb7 HA4 hH
    refine hK.out _ _ ⟨Lib.hid HA5.out.low, HNX.out _ HA5.out.low⟩ (fun hH => ?_)
    clear hK K
    refine rdH [8] ?_
    refine consH (fun K hK => ?_) AllReadyH.nil
    have hz := (HA5.out.x _ rfl).1
    obtain ⟨m0, m1, m2, m3⟩ := cells4 hz
    have mf := free_of hz
    have ml := lt_of_block hz
    have HA6 := Lib.hid HA5.out.put
    go_simp
    clear hz m0 m1 m2 m3 mf ml hH HA5
    refine hK.out _ _ ⟨Lib.hid HA6.out.1, HNX.out _ HA6.out.1⟩ (fun hH => ?_)
    clear hK K
    generalize (((V5.setCell ⟨X, 0, none⟩ (.int .i64 2)).setCell ⟨X, 1, none⟩ (.int .i64 0)).setCell ⟨X, 2, none⟩ (.slice p 1 1)).setCell ⟨X, 3, none⟩ (.slice none 0 0) = V6 at HA6 hH ⊢
    refine rdH [9] ?_
    refine consH (fun K hK => ?_) AllReadyH.nil
    have hz := HA6.out.2.2.1
    obtain ⟨m0, m1, m2, m3⟩ := cells4 hz
    have mf := free_of hz
    have ml := lt_of_block hz
    have HE := Lib.hid HA6.out.put
    go_simp
    clear hz m0 m1 m2 m3 mf ml hH HA6
    refine hK.out _ _ ⟨Lib.hid HE.out.1, HNX.out _ HE.out.1⟩ (fun hH => ?_)
    clear hK K
    try simp only [Act.put, List.setIfInBounds_toArray, List.set_cons_zero, List.set_cons_succ]
    refine wpAnyH_done (by kernel_rfl) ?_ _
    go_wp2_with fail
    go_meet
    exact ⟨X, Y, p, q, rfl, rfl, HE⟩
   refine consH (fun K hK => ?_) AllReadyH.nil
   go_simp
   clear hH
   have HA2 := Lib.hid (show Aw2 W0 (V1.alloc (.cells #[.int .i64 0, .int .i64 0, .slice none 0 0, .slice none 0 0] 30)) za zc _ _ _ _ _ from HA1.out.allocY)
   clear HA1
   refine hK.out _ _ ⟨Lib.hid HA2.out.low, HNX.out _ HA2.out.low⟩ (fun hH => ?_)
   clear hK K
   generalize V1.alloc (.cells #[.int .i64 0, .int .i64 0, .slice none 0 0, .slice none 0 0] 30) = V2 at HA2 hH ⊢
   generalize V1.heap.size = Y at HA2 ⊢
   refine rdH [1, 6] ?_
   refine consH (fun K hK => ?_) ?_
   ·go_simp
    go_at_call 14
    refine (ask1 HZ.out _).mono ?_
    rintro e V3 ⟨p, rfl, hs, hb7⟩
    have HA3 := Lib.hid (HA2.out.call1 hb7 hs)
    clear hs hb7 HA2 hH
    refine hK.out _ _ ⟨Lib.hid HA3.out.low, HNX.out _ HA3.out.low⟩ (fun hH => ?_)
    clear hK K
    refine rdH [5, 6] ?_
    refine consH (fun K hK => ?_) ?_
    ·go_simp
     go_at_call 14
     refine (HA3.out.ask5 HZ.out).mono ?_
     rintro e V4 ⟨q, rfl, hs, hb7⟩
     have HA4 := Lib.hid (HA3.out.call5 hb7 hs)
     clear hs hb7 HA3 hH
     refine hK.out _ _ ⟨Lib.hid HA4.out.low, HNX.out _ HA4.out.low⟩ (fun hH => ?_)
     clear hK K
     refine rdH [6] ?_
     refine consH (fun K hK => ?_) AllReadyH.nil
     go_simp
     clear hH
     have HA5 := Lib.hid (show Aw2 W0 (V4.alloc (.cells #[.int .i64 0, .int .i64 0, .slice none 0 0, .slice none 0 0] 30)) za zc _ _ _ _ _ from HA4.out.allocX)
     clear HA4
     refine hK.out _ _ ⟨Lib.hid HA5.out.low, HNX.out _ HA5.out.low⟩ (fun hH => ?_)
     clear hK K
     generalize V4.alloc (.cells #[.int .i64 0, .int .i64 0, .slice none 0 0, .slice none 0 0] 30) = V5 at HA5 hH ⊢
     generalize V4.heap.size = X at HA5 ⊢
     refine rdH [8] ?_
     refine consH (fun K hK => ?_) AllReadyH.nil
     have hz := (HA5.out.x _ rfl).1
     obtain ⟨m0, m1, m2, m3⟩ := cells4 hz
     have mf := free_of hz
     have ml := lt_of_block hz
     have HA6 := Lib.hid HA5.out.put
     go_simp
     clear hz m0 m1 m2 m3 mf ml hH HA5
     refine hK.out _ _ ⟨Lib.hid HA6.out.1, HNX.out _ HA6.out.1⟩ (fun hH => ?_)
     clear hK K
     generalize (((V5.setCell ⟨X, 0, none⟩ (.int .i64 2)).setCell ⟨X, 1, none⟩ (.int .i64 0)).setCell ⟨X, 2, none⟩ (.slice p 1 1)).setCell ⟨X, 3, none⟩ (.slice none 0 0) = V6 at HA6 hH ⊢
     refine rdH [9] ?_
     refine consH (fun K hK => ?_) AllReadyH.nil
     have hz := HA6.out.2.2.1
     obtain ⟨m0, m1, m2, m3⟩ := cells4 hz
     have mf := free_of hz
     have ml := lt_of_block hz
     have HE := Lib.hid HA6.out.put
     go_simp
     clear hz m0 m1 m2 m3 mf ml hH HA6
     refine hK.out _ _ ⟨Lib.hid HE.out.1, HNX.out _ HE.out.1⟩ (fun hH => ?_)
     clear hK K
     try simp only [Act.put, List.setIfInBounds_toArray, List.set_cons_zero, List.set_cons_succ]
     refine wpAnyH_done (by kernel_rfl) ?_ _
     go_wp2_with fail
     go_meet
     exact ⟨X, Y, p, q, rfl, rfl, HE⟩
    refine consH (fun K hK => ?_) AllReadyH.nil
    go_simp
    clear hH
    have HA4 := Lib.hid (show Aw2 W0 (V3.alloc (.cells #[.int .i64 0, .int .i64 0, .slice none 0 0, .slice none 0 0] 30)) za zc _ _ _ _ _ from HA3.out.allocX)
    clear HA3
    refine hK.out _ _ ⟨Lib.hid HA4.out.low, HNX.out _ HA4.out.low⟩ (fun hH => ?_)
    clear hK K
    generalize V3.alloc (.cells #[.int .i64 0, .int .i64 0, .slice none 0 0, .slice none 0 0] 30) = V4 at HA4 hH ⊢
    generalize V3.heap.size = X at HA4 ⊢
    refine rdH [5] ?_
    refine consH (fun K hK => ?_) AllReadyH.nil
    go_simp
    go_at_call 14
    refine (HA4.out.ask5 HZ.out).mono ?_
    rintro e V5 ⟨q, rfl, hs, hb7⟩
    have HA5 := Lib.hid (HA4.out.call5 hb7 hs)
    clear hs hb7 HA4 hH
    refine hK.out _ _ ⟨Lib.hid HA5.out.low, HNX.out _ HA5.out.low⟩ (fun hH => ?_)
    clear hK K
    refine rdH [8] ?_
    refine consH (fun K hK => ?_) AllReadyH.nil
    have hz := (HA5.out.x _ rfl).1
    obtain ⟨m0, m1, m2, m3⟩ := cells4 hz
    have mf := free_of hz
    have ml := lt_of_block hz
    have HA6 := Lib.hid HA5.out.put
    go_simp
    clear hz m0 m1 m2 m3 mf ml hH HA5
    refine hK.out _ _ ⟨Lib.hid HA6.out.1, HNX.out _ HA6.out.1⟩ (fun hH => ?_)
    clear hK K
    generalize (((V5.setCell ⟨X, 0, none⟩ (.int .i64 2)).setCell ⟨X, 1, none⟩ (.int .i64 0)).setCell ⟨X, 2, none⟩ (.slice p 1 1)).setCell ⟨X, 3, none⟩ (.slice none 0 0) = V6 at HA6 hH ⊢
    refine rdH [9] ?_
    refine consH (fun K hK => ?_) AllReadyH.nil
    have hz := HA6.out.2.2.1
    obtain ⟨m0, m1, m2, m3⟩ := cells4 hz
    have mf := free_of hz
    have ml := lt_of_block hz
    have HE := Lib.hid HA6.out.put
    go_simp
    clear hz m0 m1 m2 m3 mf ml hH HA6
    refine hK.out _ _ ⟨Lib.hid HE.out.1, HNX.out _ HE.out.1⟩ (fun hH => ?_)
    clear hK K
    try simp only [Act.put, List.setIfInBounds_toArray, List.set_cons_zero, List.set_cons_succ]
    refine wpAnyH_done (by kernel_rfl) ?_ _
    go_wp2_with fail
    go_meet
    exact ⟨X, Y, p, q, rfl, rfl, HE⟩
   refine consH (fun K hK => ?_) AllReadyH.nil
   go_simp
   clear hH
   have HA3 := Lib.hid (show Aw2 W0 (V2.alloc (.cells #[.int .i64 0, .int .i64 0, .slice none 0 0, .slice none 0 0] 30)) za zc _ _ _ _ _ from HA2.out.allocX)
   clear HA2
   refine hK.out _ _ ⟨Lib.hid HA3.out.low, HNX.out _ HA3.out.low⟩ (fun hH => ?_)
   clear hK K
   generalize V2.alloc (.cells #[.int .i64 0, .int .i64 0, .slice none 0 0, .slice none 0 0] 30) = V3 at HA3 hH ⊢
   generalize V2.heap.size = X at HA3 ⊢
   refine rdH [1] ?_
   refine consH (fun K hK => ?_) AllReadyH.nil
   go_simp
   go_at_call 14
   refine (ask1 HZ.out _).mono ?_
   rintro e V4 ⟨p, rfl, hs, hb7⟩
   have HA4 := Lib.hid (HA3.out.call1 hb7 hs)
   clear hs hb7 HA3 hH
   refine hK.out _ _ ⟨Lib.hid HA4.out.low, HNX.out _ HA4.out.low⟩ (fun hH => ?_)
   clear hK K
   refine rdH [5] ?_
   refine consH (fun K hK => ?_) AllReadyH.nil
   go_simp
   go_at_call 14
   refine (HA4.out.ask5 HZ.out).mono ?_
   rintro e V5 ⟨q, rfl, hs, hb7⟩
   have HA5 := Lib.hid (HA4.out.call5 hb7 hs)
   clear hs hb7 HA4 hH
   refine hK.out _ _ ⟨Lib.hid HA5.out.low, HNX.out _ HA5.out.low⟩ (fun hH => ?_)
   clear hK K
   refine rdH [8] ?_
   refine consH (fun K hK => ?_) AllReadyH.nil
   have hz := (HA5.out.x _ rfl).1
   obtain ⟨m0, m1, m2, m3⟩ := cells4 hz
   have mf := free_of hz
   have ml := lt_of_block hz
   have HA6 := Lib.hid HA5.out.put
   go_simp
   clear hz m0 m1 m2 m3 mf ml hH HA5
   refine hK.out _ _ ⟨Lib.hid HA6.out.1, HNX.out _ HA6.out.1⟩ (fun hH => ?_)
   clear hK K
   generalize (((V5.setCell ⟨X, 0, none⟩ (.int .i64 2)).setCell ⟨X, 1, none⟩ (.int .i64 0)).setCell ⟨X, 2, none⟩ (.slice p 1 1)).setCell ⟨X, 3, none⟩ (.slice none 0 0) = V6 at HA6 hH ⊢
   refine rdH [9] ?_
   refine consH (fun K hK => ?_) AllReadyH.nil
   have hz := HA6.out.2.2.1
   obtain ⟨m0, m1, m2, m3⟩ := cells4 hz
   have mf := free_of hz
   have ml := lt_of_block hz
   have HE := Lib.hid HA6.out.put
   go_simp
   clear hz m0 m1 m2 m3 mf ml hH HA6
   refine hK.out _ _ ⟨Lib.hid HE.out.1, HNX.out _ HE.out.1⟩ (fun hH => ?_)
   clear hK K
   try simp only [Act.put, List.setIfInBounds_toArray, List.set_cons_zero, List.set_cons_succ]
   refine wpAnyH_done (by kernel_rfl) ?_ _
   go_wp2_with fail
   go_meet
   exact ⟨X, Y, p, q, rfl, rfl, HE⟩
  refine consH (fun K hK => ?_) ?_
  ·go_simp
   clear hH
   have HA1 := Lib.hid (show Aw2 W0 (V0.alloc (.cells #[.int .i64 0, .int .i64 0, .slice none 0 0, .slice none 0 0] 30)) za zc _ _ _ _ _ from HA0.out.allocX)
   clear HA0
   refine hK.out _ _ ⟨Lib.hid HA1.out.low, HNX.out _ HA1.out.low⟩ (fun hH => ?_)
   clear hK K
   generalize V0.alloc (.cells #[.int .i64 0, .int .i64 0, .slice none 0 0, .slice none 0 0] 30) = V1 at HA1 hH ⊢
   generalize V0.heap.size = X at HA1 ⊢
   refine rdH [1, 3, 7] ?_
   refine consH (fun K hK => ?_) ?_
   ·go_simp
    go_at_call 14
    refine (ask1 HZ.out _).mono ?_
    rintro e V2 ⟨p, rfl, hs, hb7⟩
    have HA2 := Lib.hid (HA1.out.call1 hb7 hs)
    clear hs hb7 HA1 hH
    refine hK.out _ _ ⟨Lib.hid HA2.out.low, HNX.out _ HA2.out.low⟩ (fun hH => ?_)
    clear hK K
    refine rdH [3, 7] ?_
    refine consH (fun K hK => ?_) ?_
    ·go_simp
     clear hH
     have HA3 := Lib.hid (show Aw2 W0 (V2.alloc (.cells #[.int .i64 1, .int .i64 0, .slice za 0 zc] 45)) za zc _ _ _ _ _ from HA2.out.lit)
     clear HA2
     refine hK.out _ _ ⟨Lib.hid HA3.out.low, HNX.out _ HA3.out.low⟩ (fun hH => ?_)
     clear hK K
     generalize V2.alloc (.cells #[.int .i64 1, .int .i64 0, .slice za 0 zc] 45) = V3 at HA3 hH ⊢
     generalize V2.heap.size = N3 at HA3 ⊢
     refine tkH 4 ?_ hH ?_ ?_
     rotate_left
     ·intro w' hSw
      obtain ⟨s0, s1, s2, s3⟩ := hSw
      go_simp
      try with_reducible rfl
     refine rdH [5, 7] ?_
     refine consH (fun K hK => ?_) ?_
     ·go_simp
      go_at_call 14
      refine (HA3.out.ask5 HZ.out).mono ?_
      rintro e V4 ⟨q, rfl, hs, hb7⟩
      have HA4 := Lib.hid (HA3.out.call5 hb7 hs)
      clear hs hb7 HA3 hH
      refine hK.out _ _ ⟨Lib.hid HA4.out.low, HNX.out _ HA4.out.low⟩ (fun hH => ?_)
      clear hK K
      refine rdH [7] ?_
      refine consH (fun K hK => ?_) AllReadyH.nil
      go_simp
      clear hH
      have HA5 := Lib.hid (show Aw2 W0 (V4.alloc (.cells #[.int .i64 0, .int .i64 0, .slice none 0 0, .slice none 0 0] 30)) za zc _ _ _ _ _ from HA4.out.allocY)
      clear HA4
      refine hK.out _ _ ⟨Lib.hid HA5.out.low, HNX.out _ HA5.out.low⟩ (fun hH => ?_)
      clear hK K
      generalize V4.alloc (.cells #[.int .i64 0, .int .i64 0, .slice none 0 0, .slice none 0 0] 30) = V5 at HA5 hH ⊢
      generalize V4.heap.size = Y at HA5 ⊢
      refine rdH [8] ?_
      refine consH (fun K hK => ?_) AllReadyH.nil
      have hz := (HA5.out.x _ rfl).1
      obtain ⟨m0, m1, m2, m3⟩ := cells4 hz
      have mf := free_of hz
      have ml := lt_of_block hz
      have HA6 := Lib.hid HA5.out.put
      go_simp
      clear hz m0 m1 m2 m3 mf ml hH HA5
      refine hK.out _ _ ⟨Lib.hid HA6.out.1, HNX.out _ HA6.out.1⟩ (fun hH => ?_)
      clear hK K
      generalize (((V5.setCell ⟨X, 0, none⟩ (.int .i64 2)).setCell ⟨X, 1, none⟩ (.int .i64 0)).setCell ⟨X, 2, none⟩ (.slice p 1 1)).setCell ⟨X, 3, none⟩ (.slice none 0 0) = V6 at HA6 hH ⊢
      refine rdH [9] ?_
      refine consH (fun K hK => ?_) AllReadyH.nil
      have hz := HA6.out.2.2.1
      obtain ⟨m0, m1, m2, m3⟩ := cells4 hz
      have mf := free_of hz
      have ml := lt_of_block hz
      have HE := Lib.hid HA6.out.put
      go_simp
      clear hz m0 m1 m2 m3 mf ml hH HA6
      refine hK.out _ _ ⟨Lib.hid HE.out.1, HNX.out _ HE.out.1⟩ (fun hH => ?_)
      clear hK K
      try simp only [Act.put, List.setIfInBounds_toArray, List.set_cons_zero, List.set_cons_succ]
      refine wpAnyH_done (by kernel_rfl) ?_ _
      go_wp2_with fail
      go_meet
      exact ⟨X, Y, p, q, rfl, rfl, HE⟩
     refine consH (fun K hK => ?_) AllReadyH.nil
     go_simp
     clear hH
     have HA4 := Lib.hid (show Aw2 W0 (V3.alloc (.cells #[.int .i64 0, .int .i64 0, .slice none 0 0, .slice none 0 0] 30)) za zc _ _ _ _ _ from HA3.out.allocY)
     clear HA3
     refine hK.out _ _ ⟨Lib.hid HA4.out.low, HNX.out _ HA4.out.low⟩ (fun hH => ?_)
     clear hK K
     generalize V3.alloc (.cells #[.int .i64 0, .int .i64 0, .slice none 0 0, .slice none 0 0] 30) = V4 at HA4 hH ⊢
     generalize V3.heap.size = Y at HA4 ⊢
     refine rdH [5] ?_
     refine consH (fun K hK => ?_) AllReadyH.nil
     go_simp
     go_at_call 14
     refine (HA4.out.ask5 HZ.out).mono ?_
     rintro e V5 ⟨q, rfl, hs, hb7⟩
     have HA5 := Lib.hid (HA4.out.call5 hb7 hs)
     clear hs hb7 HA4 hH
     refine hK.out _ _ ⟨Lib.hid HA5.out.low, HNX.out _ HA5.out.low⟩ (fun hH => ?_)
     clear hK K
     refine rdH [8] ?_
     refine consH (fun K hK => ?_) AllReadyH.nil
     have hz := (HA5.out.x _ rfl).1
     obtain ⟨m0, m1, m2, m3⟩ := cells4 hz
     have mf := free_of hz
     have ml := lt_of_block hz
     have HA6 := Lib.hid HA5.out.put
     go_simp
     clear hz m0 m1 m2 m3 mf ml hH HA5
     refine hK.out _ _ ⟨Lib.hid HA6.out.1, HNX.out _ HA6.out.1⟩ (fun hH => ?_)
     clear hK K
     generalize (((V5.setCell ⟨X, 0, none⟩ (.int .i64 2)).setCell ⟨X, 1, none⟩ (.int .i64 0)).setCell ⟨X, 2, none⟩ (.slice p 1 1)).setCell ⟨X, 3, none⟩ (.slice none 0 0) = V6 at HA6 hH ⊢
     refine rdH [9] ?_
     refine consH (fun K hK => ?_) AllReadyH.nil
     have hz := HA6.out.2.2.1
     obtain ⟨m0, m1, m2, m3⟩ := cells4 hz
     have mf := free_of hz
     have ml := lt_of_block hz
     have HE := Lib.hid HA6.out.put
     go_simp
     clear hz m0 m1 m2 m3 mf ml hH HA6
     refine hK.out _ _ ⟨Lib.hid HE.out.1, HNX.out _ HE.out.1⟩ (fun hH => ?_)
     clear hK K
     try simp only [Act.put, List.setIfInBounds_toArray, List.set_cons_zero, List.set_cons_succ]
     refine wpAnyH_done (by kernel_rfl) ?_ _
     go_wp2_with fail
     go_meet
     exact ⟨X, Y, p, q, rfl, rfl, HE⟩
    refine consH (fun K hK => ?_) AllReadyH.nil
    go_simp
    clear hH
    have HA3 := Lib.hid (show Aw2 W0 (V2.alloc (.cells #[.int .i64 0, .int .i64 0, .slice none 0 0, .slice none 0 0] 30)) za zc _ _ _ _ _ from HA2.out.allocY)
    clear HA2
    refine hK.out _ _ ⟨Lib.hid HA3.out.low, HNX.out _ HA3.out.low⟩ (fun hH => ?_)
    clear hK K
    generalize V2.alloc (.cells #[.int .i64 0, .int .i64 0, .slice none 0 0, .slice none 0 0] 30) = V3 at HA3 hH ⊢
    generalize V2.heap.size = Y at HA3 ⊢
    refine rdH [3] ?_
    refine consH (fun K hK => ?_) AllReadyH.nil
    go_simp
    clear hH
    have HA4 := Lib.hid (show Aw2 W0 (V3.alloc (.cells #[.int .i64 1, .int .i64 0, .slice za 0 zc] 45)) za zc _ _ _ _ _ from HA3.out.lit)
    clear HA3
    refine hK.out _ _ ⟨Lib.hid HA4.out.low, HNX.out _ HA4.out.low⟩ (fun hH => ?_)
    clear hK K
    generalize V3.alloc (.cells #[.int .i64 1, .int .i64 0, .slice za 0 zc] 45) = V4 at HA4 hH ⊢
    generalize V3.heap.size = N3 at HA4 ⊢
    refine tkH 4 ?_ hH ?_ ?_
    rotate_left
    ·intro w' hSw
     obtain ⟨s0, s1, s2, s3⟩ := hSw
     go_simp
     try with_reducible rfl
    refine rdH [5] ?_
    refine consH (fun K hK => ?_) AllReadyH.nil
    go_simp
    go_at_call 14
    refine (HA4.out.ask5 HZ.out).mono ?_
    rintro e V5 ⟨q, rfl, hs, hb7⟩
    have HA5 := Lib.hid (HA4.out.call5 hb7 hs)
    clear hs hb7 HA4 hH
    refine hK.out _ _ ⟨Lib.hid HA5.out.low, HNX.out _ HA5.out.low⟩ (fun hH => ?_)
    clear hK K
    refine rdH [8] ?_
    refine consH (fun K hK => ?_) AllReadyH.nil
    have hz := (HA5.out.x _ rfl).1
    obtain ⟨m0, m1, m2, m3⟩ := cells4 hz
    have mf := free_of hz
    have ml := lt_of_block hz
    have HA6 := Lib.hid HA5.out.put
    go_simp
    clear hz m0 m1 m2 m3 mf ml hH HA5
    refine hK.out _ _ ⟨Lib.hid HA6.out.1, HNX.out _ HA6.out.1⟩ (fun hH => ?_)
    clear hK K
    generalize (((V5.setCell ⟨X, 0, none⟩ (.int .i64 2)).setCell ⟨X, 1, none⟩ (.int .i64 0)).setCell ⟨X, 2, none⟩ (.slice p 1 1)).setCell ⟨X, 3, none⟩ (.slice none 0 0) = V6 at HA6 hH ⊢
    refine rdH [9] ?_
    refine consH (fun K hK => ?_) AllReadyH.nil
    have hz := HA6.out.2.2.1
    obtain ⟨m0, m1, m2, m3⟩ := cells4 hz
    have mf := free_of hz
    have ml := lt_of_block hz
    have HE := Lib.hid HA6.out.put
    go_simp
    clear hz m0 m1 m2 m3 mf ml hH HA6
    refine hK.out _ _ ⟨Lib.hid HE.out.1, HNX.out _ HE.out.1⟩ (fun hH => ?_)
    clear hK K
    try simp only [Act.put, List.setIfInBounds_toArray, List.set_cons_zero, List.set_cons_succ]
    refine wpAnyH_done (by kernel_rfl) ?_ _
    go_wp2_with fail
    go_meet
    exact ⟨X, Y, p, q, rfl, rfl, HE⟩
   refine consH (fun K hK => ?_) ?_
   ·go_simp
    clear hH
    have HA2 := Lib.hid (show Aw2 W0 (V1.alloc (.cells #[.int .i64 1, .int .i64 0, .slice za 0 zc] 45)) za zc _ _ _ _ _ from HA1.out.lit)
    clear HA1
    refine hK.out _ _ ⟨Lib.hid HA2.out.low, HNX.out _ HA2.out.low⟩ (fun hH => ?_)
    clear hK K
    generalize V1.alloc (.cells #[.int .i64 1, .int .i64 0, .slice za 0 zc] 45) = V2 at HA2 hH ⊢
    generalize V1.heap.size = N3 at HA2 ⊢
    refine tkH 4 ?_ hH ?_ ?_
    rotate_left
    ·intro w' hSw
     obtain ⟨s0, s1, s2, s3⟩ := hSw
     go_simp
     try with_reducible rfl
    refine rdH [1, 7] ?_
    refine consH (fun K hK => ?_) ?_
    ·go_simp
     go_at_call 14
     refine (ask1 HZ.out _).mono ?_
     rintro e V3 ⟨p, rfl, hs, hb7⟩
     have HA3 := Lib.hid (HA2.out.call1 hb7 hs)
     clear hs hb7 HA2 hH
     refine hK.out _ _ ⟨Lib.hid HA3.out.low, HNX.out _ HA3.out.low⟩ (fun hH => ?_)
     clear hK K
     refine rdH [5, 7] ?_
     refine consH (fun K hK => ?_) ?_
     ·go_simp
      go_at_call 14
      refine (HA3.out.ask5 HZ.out).mono ?_
      rintro e V4 ⟨q, rfl, hs, hb7⟩
      have HA4 := Lib.hid (HA3.out.call5 hb7 hs)
      clear hs hb7 HA3 hH
      refine hK.out _ _ ⟨Lib.hid HA4.out.low, HNX.out _ HA4.out.low⟩ (fun hH => ?_)
      clear hK K
      refine rdH [7] ?_
      refine consH (fun K hK => ?_) AllReadyH.nil
      go_simp
      clear hH
      have HA5 := Lib.hid (show Aw2 W0 (V4.alloc (.cells #[.int .i64 0, .int .i64 0, .slice none 0 0, .slice none 0 0] 30)) za zc _ _ _ _ _ from HA4.out.allocY)
      clear HA4
      refine hK.out _ _ ⟨Lib.hid HA5.out.low, HNX.out _ HA5.out.low⟩ (fun hH => ?_)
      clear hK K
      generalize V4.alloc (.cells #[.int .i64 0, .int .i64 0, .slice none 0 0, .slice none 0 0] 30) = V5 at HA5 hH ⊢
      generalize V4.heap.size = Y at HA5 ⊢
      refine rdH [8] ?_
      refine consH (fun K hK => ?_) AllReadyH.nil
      have hz := (HA5.out.x _ rfl).1
      obtain ⟨m0, m1, m2, m3⟩ := cells4 hz
      have mf := free_of hz
      have ml := lt_of_block hz
      have HA6 := Lib.hid HA5.out.put
      go_simp
      clear hz m0 m1 m2 m3 mf ml hH HA5
      refine hK.out _ _ ⟨Lib.hid HA6.out.1, HNX.out _ HA6.out.1⟩ (fun hH => ?_)
      clear hK K
      generalize (((V5.setCell ⟨X, 0, none⟩ (.int .i64 2)).setCell ⟨X, 1, none⟩ (.int .i64 0)).setCell ⟨X, 2, none⟩ (.slice p 1 1)).setCell ⟨X, 3, none⟩ (.slice none 0 0) = V6 at HA6 hH ⊢
      refine rdH [9] ?_
      refine consH (fun K hK => ?_) AllReadyH.nil
      have hz := HA6.out.2.2.1
      obtain ⟨m0, m1, m2, m3⟩ := cells4 hz
      have mf := free_of hz
      have ml := lt_of_block hz
      have HE := Lib.hid HA6.out.put
      go_simp
      clear hz m0 m1 m2 m3 mf ml hH HA6
      refine hK.out _ _ ⟨Lib.hid HE.out.1, HNX.out _ HE.out.1⟩ (fun hH => ?_)
      clear hK K
      try simp only [Act.put, List.setIfInBounds_toArray, List.set_cons_zero, List.set_cons_succ]
      refine wpAnyH_done (by kernel_rfl) ?_ _
      go_wp2_with fail
      go_meet
      exact ⟨X, Y, p, q, rfl, rfl, HE⟩
     refine consH (fun K hK => ?_) AllReadyH.nil
     go_simp
     clear hH
     have HA4 := Lib.hid (show Aw2 W0 (V3.alloc (.cells #[.int .i64 0, .int .i64 0, .slice none 0 0, .slice none 0 0] 30)) za zc _ _ _ _ _ from HA3.out.allocY)
     clear HA3
     refine hK.out _ _ ⟨Lib.hid HA4.out.low, HNX.out _ HA4.out.low⟩ (fun hH => ?_)
     clear hK K
     generalize V3.alloc (.cells #[.int .i64 0, .int .i64 0, .slice none 0 0, .slice none 0 0] 30) = V4 at HA4 hH ⊢
     generalize V3.heap.size = Y at HA4 ⊢
     refine rdH [5] ?_
     refine consH (fun K hK => ?_) AllReadyH.nil
     go_simp
     go_at_call 14
     refine (HA4.out.ask5 HZ.out).mono ?_
     rintro e V5 ⟨q, rfl, hs, hb7⟩
     have HA5 := Lib.hid (HA4.out.call5 hb7 hs)
     clear hs hb7 HA4 hH
     refine hK.out _ _ ⟨Lib.hid HA5.out.low, HNX.out _ HA5.out.low⟩ (fun hH => ?_)
     clear hK K
     refine rdH [8] ?_
     refine consH (fun K hK => ?_) AllReadyH.nil
     have hz := (HA5.out.x _ rfl).1
     obtain ⟨m0, m1, m2, m3⟩ := cells4 hz
     have mf := free_of hz
     have ml := lt_of_block hz
     have HA6 := Lib.hid HA5.out.put
     go_simp
     clear hz m0 m1 m2 m3 mf ml hH HA5
     refine hK.out _ _ ⟨Lib.hid HA6.out.1, HNX.out _ HA6.out.1⟩ (fun hH => ?_)
     clear hK K
     generalize (((V5.setCell ⟨X, 0, none⟩ (.int .i64 2)).setCell ⟨X, 1, none⟩ (.int .i64 0)).setCell ⟨X, 2, none⟩ (.slice p 1 1)).setCell ⟨X, 3, none⟩ (.slice none 0 0) = V6 at HA6 hH ⊢
     refine rdH [9] ?_
     refine consH (fun K hK => ?_) AllReadyH.nil
     have hz := HA6.out.2.2.1
     obtain ⟨m0, m1, m2, m3⟩ := cells4 hz
     have mf := free_of hz
     have ml := lt_of_block hz
     have HE := Lib.hid HA6.out.put
     go_simp
     clear hz m0 m1 m2 m3 mf ml hH HA6
     refine hK.out _ _ ⟨Lib.hid HE.out.1, HNX.out _ HE.out.1⟩ (fun hH => ?_)
     clear hK K
     try simp only [Act.put, List.setIfInBounds_toArray, List.set_cons_zero, List.set_cons_succ]
     refine wpAnyH_done (by kernel_rfl) ?_ _
     go_wp2_with fail
     go_meet
     exact ⟨X, Y, p, q, rfl, rfl, HE⟩
    refine consH (fun K hK => ?_) AllReadyH.nil
    go_simp
    clear hH
    have HA3 := Lib.hid (show Aw2 W0 (V2.alloc (.cells #[.int .i64 0, .int .i64 0, .slice none 0 0, .slice none 0 0] 30)) za zc _ _ _ _ _ from HA2.out.allocY)
    clear HA2
    refine hK.out _ _ ⟨Lib.hid HA3.out.low, HNX.out _ HA3.out.low⟩ (fun hH => ?_)
    clear hK K
    generalize V2.alloc (.cells #[.int .i64 0, .int .i64 0, .slice none 0 0, .slice none 0 0] 30) = V3 at HA3 hH ⊢
    generalize V2.heap.size = Y at HA3 ⊢
    refine rdH [1] ?_
    refine consH (fun K hK => ?_) AllReadyH.nil
    go_simp
    go_at_call 14
    refine (ask1 HZ.out _).mono ?_
    rintro e V4 ⟨p, rfl, hs, hb7⟩
    have HA4 := Lib.hid (HA3.out.call1 hb7 hs)
    clear hs hb7 HA3 hH
    refine hK.out _ _ ⟨Lib.hid HA4.out.low, HNX.out _ HA4.out.low⟩ (fun hH => ?_)
    clear hK K
    refine rdH [5] ?_
    refine consH (fun K hK => ?_) AllReadyH.nil
    go_simp
    go_at_call 14
    refine (HA4.out.ask5 HZ.out).mono ?_
    rintro e V5 ⟨q, rfl, hs, hb7⟩
    have HA5 := Lib.hid (HA4.out.call5 hb7 hs)
    clear hs hb7 HA4 hH
    refine hK.out _ _ ⟨Lib.hid HA5.out.low, HNX.out _ HA5.out.low⟩ (fun hH => ?_)
    clear hK K
    refine rdH [8] ?_
    refine consH (fun K hK => ?_) AllReadyH.nil
    have hz := (HA5.out.x _ rfl).1
    obtain ⟨m0, m1, m2, m3⟩ := cells4 hz
    have mf := free_of hz
    have ml := lt_of_block hz
    have HA6 := Lib.hid HA5.out.put
    go_simp
    clear hz m0 m1 m2 m3 mf ml hH HA5
    refine hK.out _ _ ⟨Lib.hid HA6.out.1, HNX.out _ HA6.out.1⟩ (fun hH => ?_)
    clear hK K
    generalize (((V5.setCell ⟨X, 0, none⟩ (.int .i64 2)).setCell ⟨X, 1, none⟩ (.int .i64 0)).setCell ⟨X, 2, none⟩ (.slice p 1 1)).setCell ⟨X, 3, none⟩ (.slice none 0 0) = V6 at HA6 hH ⊢
    refine rdH [9] ?_
    refine consH (fun K hK => ?_) AllReadyH.nil
    have hz := HA6.out.2.2.1
    obtain ⟨m0, m1, m2, m3⟩ := cells4 hz
    have mf := free_of hz
    have ml := lt_of_block hz
    have HE := Lib.hid HA6.out.put
    go_simp
    clear hz m0 m1 m2 m3 mf ml hH HA6
    refine hK.out _ _ ⟨Lib.hid HE.out.1, HNX.out _ HE.out.1⟩ (fun hH => ?_)
    clear hK K
    try simp only [Act.put, List.setIfInBounds_toArray, List.set_cons_zero, List.set_cons_succ]
    refine wpAnyH_done (by kernel_rfl) ?_ _
    go_wp2_with fail
    go_meet
    exact ⟨X, Y, p, q, rfl, rfl, HE⟩
   refine consH (fun K hK => ?_) AllReadyH.nil
   go_simp
   clear hH
   have HA2 := Lib.hid (show Aw2 W0 (V1.alloc (.cells #[.int .i64 0, .int .i64 0, .slice none 0 0, .slice none 0 0] 30)) za zc _ _ _ _ _ from HA1.out.allocY)
   clear HA1
   refine hK.out _ _ ⟨Lib.hid HA2.out.low, HNX.out _ HA2.out.low⟩ (fun hH => ?_)
   clear hK K
   generalize V1.alloc (.cells #[.int .i64 0, .int .i64 0, .slice none 0 0, .slice none 0 0] 30) = V2 at HA2 hH ⊢
   generalize V1.heap.size = Y at HA2 ⊢
   refine rdH [1, 3] ?_
   refine consH (fun K hK => ?_) ?_
   ·go_simp
    go_at_call 14
    refine (ask1 HZ.out _).mono ?_
    rintro e V3 ⟨p, rfl, hs, hb7⟩
    have HA3 := Lib.hid (HA2.out.call1 hb7 hs)
    clear hs hb7 HA2 hH
    refine hK.out _ _ ⟨Lib.hid HA3.out.low, HNX.out _ HA3.out.low⟩ (fun hH => ?_)
    clear hK K
    refine rdH [3] ?_
    refine consH (fun K hK => ?_) AllReadyH.nil
    go_simp
    clear hH
    have HA4 := Lib.hid (show Aw2 W0 (V3.alloc (.cells #[.int .i64 1, .int .i64 0, .slice za 0 zc] 45)) za zc _ _ _ _ _ from HA3.out.lit)
    clear HA3
    refine hK.out _ _ ⟨Lib.hid HA4.out.low, HNX.out _ HA4.out.low⟩ (fun hH => ?_)
    clear hK K
    generalize V3.alloc (.cells #[.int .i64 1, .int .i64 0, .slice za 0 zc] 45) = V4 at HA4 hH ⊢
    generalize V3.heap.size = N3 at HA4 ⊢
    refine tkH 4 ?_ hH ?_ ?_
    rotate_left
    ·intro w' hSw
     obtain ⟨s0, s1, s2, s3⟩ := hSw
     go_simp
     try with_reducible rfl
    refine rdH [5] ?_
    refine consH (fun K hK => ?_) AllReadyH.nil
    go_simp
    go_at_call 14
    refine (HA4.out.ask5 HZ.out).mono ?_
    rintro e V5 ⟨q, rfl, hs, hb7⟩
    have HA5 := Lib.hid (HA4.out.call5 hb7 hs)
    clear hs hb7 HA4 hH
    refine hK.out _ _ ⟨Lib.hid HA5.out.low, HNX.out _ HA5.out.low⟩ (fun hH => ?_)
    clear hK K
    refine rdH [8] ?_
    refine consH (fun K hK => ?_) AllReadyH.nil
    have hz := (HA5.out.x _ rfl).1
    obtain ⟨m0, m1, m2, m3⟩ := cells4 hz
    have mf := free_of hz
    have ml := lt_of_block hz
    have HA6 := Lib.hid HA5.out.put
    go_simp
    clear hz m0 m1 m2 m3 mf ml hH HA5
    refine hK.out _ _ ⟨Lib.hid HA6.out.1, HNX.out _ HA6.out.1⟩ (fun hH => ?_)
    clear hK K
    generalize (((V5.setCell ⟨X, 0, none⟩ (.int .i64 2)).setCell ⟨X, 1, none⟩ (.int .i64 0)).setCell ⟨X, 2, none⟩ (.slice p 1 1)).setCell ⟨X, 3, none⟩ (.slice none 0 0) = V6 at HA6 hH ⊢
    refine rdH [9] ?_
    refine consH (fun K hK => ?_) AllReadyH.nil
    have hz := HA6.out.2.2.1
    obtain ⟨m0, m1, m2, m3⟩ := cells4 hz
    have mf := free_of hz
    have ml := lt_of_block hz
    have HE := Lib.hid HA6.out.put
    go_simp
    clear hz m0 m1 m2 m3 mf ml hH HA6
    refine hK.out _ _ ⟨Lib.hid HE.out.1, HNX.out _ HE.out.1⟩ (fun hH => ?_)
    clear hK K
    try simp only [Act.put, List.setIfInBounds_toArray, List.set_cons_zero, List.set_cons_succ]
    refine wpAnyH_done (by kernel_rfl) ?_ _
    go_wp2_with fail
    go_meet
    exact ⟨X, Y, p, q, rfl, rfl, HE⟩
   refine consH (fun K hK => ?_) AllReadyH.nil
   go_simp
   clear hH
   have HA3 := Lib.hid (show Aw2 W0 (V2.alloc (.cells #[.int .i64 1, .int .i64 0, .slice za 0 zc] 45)) za zc _ _ _ _ _ from HA2.out.lit)
   clear HA2
   refine hK.out _ _ ⟨Lib.hid HA3.out.low, HNX.out _ HA3.out.low⟩ (fun hH => ?_)
   clear hK K
   generalize V2.alloc (.cells #[.int .i64 1, .int .i64 0, .slice za 0 zc] 45) = V3 at HA3 hH ⊢
   generalize V2.heap.size = N3 at HA3 ⊢
   refine tkH 4 ?_ hH ?_ ?_
   rotate_left
   ·intro w' hSw
    obtain ⟨s0, s1, s2, s3⟩ := hSw
    go_simp
    try with_reducible rfl
   refine rdH [1] ?_
   refine consH (fun K hK => ?_) AllReadyH.nil
   go_simp
   go_at_call 14
   refine (ask1 HZ.out _).mono ?_
   rintro e V4 ⟨p, rfl, hs, hb7⟩
   have HA4 := Lib.hid (HA3.out.call1 hb7 hs)
   clear hs hb7 HA3 hH
   refine hK.out _ _ ⟨Lib.hid HA4.out.low, HNX.out _ HA4.out.low⟩ (fun hH => ?_)
   clear hK K
   refine rdH [5] ?_
   refine consH (fun K hK => ?_) AllReadyH.nil
   go_simp
   go_at_call 14
   refine (HA4.out.ask5 HZ.out).mono ?_
   rintro e V5 ⟨q, rfl, hs, hb7⟩
   have HA5 := Lib.hid (HA4.out.call5 hb7 hs)
   clear hs hb7 HA4 hH
   refine hK.out _ _ ⟨Lib.hid HA5.out.low, HNX.out _ HA5.out.low⟩ (fun hH => ?_)
   clear hK K
   refine rdH [8] ?_
   refine consH (fun K hK => ?_) AllReadyH.nil
   have hz := (HA5.out.x _ rfl).1
   obtain ⟨m0, m1, m2, m3⟩ := cells4 hz
   have mf := free_of hz
   have ml := lt_of_block hz
   have HA6 := Lib.hid HA5.out.put
   go_simp
   clear hz m0 m1 m2 m3 mf ml hH HA5
   refine hK.out _ _ ⟨Lib.hid HA6.out.1, HNX.out _ HA6.out.1⟩ (fun hH => ?_)
   clear hK K
   generalize (((V5.setCell ⟨X, 0, none⟩ (.int .i64 2)).setCell ⟨X, 1, none⟩ (.int .i64 0)).setCell ⟨X, 2, none⟩ (.slice p 1 1)).setCell ⟨X, 3, none⟩ (.slice none 0 0) = V6 at HA6 hH ⊢
   refine rdH [9] ?_
   refine consH (fun K hK => ?_) AllReadyH.nil
   have hz := HA6.out.2.2.1
   obtain ⟨m0, m1, m2, m3⟩ := cells4 hz
   have mf := free_of hz
   have ml := lt_of_block hz
   have HE := Lib.hid HA6.out.put
   go_simp
   clear hz m0 m1 m2 m3 mf ml hH HA6
   refine hK.out _ _ ⟨Lib.hid HE.out.1, HNX.out _ HE.out.1⟩ (fun hH => ?_)
   clear hK K
   try simp only [Act.put, List.setIfInBounds_toArray, List.set_cons_zero, List.set_cons_succ]
   refine wpAnyH_done (by kernel_rfl) ?_ _
   go_wp2_with fail
   go_meet
   exact ⟨X, Y, p, q, rfl, rfl, HE⟩
  refine consH (fun K hK => ?_) AllReadyH.nil
  go_simp
  clear hH
  have HA1 := Lib.hid (show Aw2 W0 (V0.alloc (.cells #[.int .i64 0, .int .i64 0, .slice none 0 0, .slice none 0 0] 30)) za zc _ _ _ _ _ from HA0.out.allocY)
  clear HA0
  refine hK.out _ _ ⟨Lib.hid HA1.out.low, HNX.out _ HA1.out.low⟩ (fun hH => ?_)
  clear hK K
  generalize V0.alloc (.cells #[.int .i64 0, .int .i64 0, .slice none 0 0, .slice none 0 0] 30) = V1 at HA1 hH ⊢
  generalize V0.heap.size = Y at HA1 ⊢
  refine rdH [1, 3, 6] ?_
  refine consH (fun K hK => ?_) ?_
  ·go_simp
   go_at_call 14
   refine (ask1 HZ.out _).mono ?_
   rintro e V2 ⟨p, rfl, hs, hb7⟩
   have HA2 := Lib.hid (HA1.out.call1 hb7 hs)
   clear hs hb7 HA1 hH
   refine hK.out _ _ ⟨Lib.hid HA2.out.low, HNX.out _ HA2.out.low⟩ (fun hH => ?_)
   clear hK K
   refine rdH [3, 6] ?_
   refine consH (fun K hK => ?_) ?_
   ·go_simp
    clear hH
    have HA3 := Lib.hid (show Aw2 W0 (V2.alloc (.cells #[.int .i64 1, .int .i64 0, .slice za 0 zc] 45)) za zc _ _ _ _ _ from HA2.out.lit)
    clear HA2
    refine hK.out _ _ ⟨Lib.hid HA3.out.low, HNX.out _ HA3.out.low⟩ (fun hH => ?_)
    clear hK K
    generalize V2.alloc (.cells #[.int .i64 1, .int .i64 0, .slice za 0 zc] 45) = V3 at HA3 hH ⊢
    generalize V2.heap.size = N3 at HA3 ⊢
    refine tkH 4 ?_ hH ?_ ?_
    rotate_left
    ·intro w' hSw
     obtain ⟨s0, s1, s2, s3⟩ := hSw
     go_simp
     try with_reducible rfl
    refine rdH [5, 6] ?_
    refine consH (fun K hK => ?_) ?_
    ·go_simp
     go_at_call 14
     refine (HA3.out.ask5 HZ.out).mono ?_
     rintro e V4 ⟨q, rfl, hs, hb7⟩
     have HA4 := Lib.hid (HA3.out.call5 hb7 hs)
     clear hs hb7 HA3 hH
     refine hK.out _ _ ⟨Lib.hid HA4.out.low, HNX.out _ HA4.out.low⟩ (fun hH => ?_)
     clear hK K
     refine rdH [6] ?_
     refine consH (fun K hK => ?_) AllReadyH.nil
     go_simp
     clear hH
     have HA5 := Lib.hid (show Aw2 W0 (V4.alloc (.cells #[.int .i64 0, .int .i64 0, .slice none 0 0, .slice none 0 0] 30)) za zc _ _ _ _ _ from HA4.out.allocX)
     clear HA4
     refine hK.out _ _ ⟨Lib.hid HA5.out.low, HNX.out _ HA5.out.low⟩ (fun hH => ?_)
     clear hK K
     generalize V4.alloc (.cells #[.int .i64 0, .int .i64 0, .slice none 0 0, .slice none 0 0] 30) = V5 at HA5 hH ⊢
     generalize V4.heap.size = X at HA5 ⊢
     refine rdH [8] ?_
     refine consH (fun K hK => ?_) AllReadyH.nil
     have hz := (HA5.out.x _ rfl).1
     obtain ⟨m0, m1, m2, m3⟩ := cells4 hz
     have mf := free_of hz
     have ml := lt_of_block hz
     have HA6 := Lib.hid HA5.out.put
     go_simp
     clear hz m0 m1 m2 m3 mf ml hH HA5
     refine hK.out _ _ ⟨Lib.hid HA6.out.1, HNX.out _ HA6.out.1⟩ (fun hH => ?_)
     clear hK K
     generalize (((V5.setCell ⟨X, 0, none⟩ (.int .i64 2)).setCell ⟨X, 1, none⟩ (.int .i64 0)).setCell ⟨X, 2, none⟩ (.slice p 1 1)).setCell ⟨X, 3, none⟩ (.slice none 0 0) = V6 at HA6 hH ⊢
     refine rdH [9] ?_
     refine consH (fun K hK => ?_) AllReadyH.nil
     have hz := HA6.out.2.2.1
     obtain ⟨m0, m1, m2, m3⟩ := cells4 hz
     have mf := free_of hz
     have ml := lt_of_block hz
     have HE := Lib.hid HA6.out.put
     go_simp
     clear hz m0 m1 m2 m3 mf ml hH HA6
     refine hK.out _ _ ⟨Lib.hid HE.out.1, HNX.out _ HE.out.1⟩ (fun hH => ?_)
     clear hK K
     try simp only [Act.put, List.setIfInBounds_toArray, List.set_cons_zero, List.set_cons_succ]
     refine wpAnyH_done (by kernel_rfl) ?_ _
     go_wp2_with fail
     go_meet
     exact ⟨X, Y, p, q, rfl, rfl, HE⟩
    refine consH (fun K hK => ?_) AllReadyH.nil
    go_simp
    clear hH
    have HA4 := Lib.hid (show Aw2 W0 (V3.alloc (.cells #[.int .i64 0, .int .i64 0, .slice none 0 0, .slice none 0 0] 30)) za zc _ _ _ _ _ from HA3.out.allocX)
    clear HA3
    refine hK.out _ _ ⟨Lib.hid HA4.out.low, HNX.out _ HA4.out.low⟩ (fun hH => ?_)
    clear hK K
    generalize V3.alloc (.cells #[.int .i64 0, .int .i64 0, .slice none 0 0, .slice none 0 0] 30) = V4 at HA4 hH ⊢
    generalize V3.heap.size = X at HA4 ⊢
    refine rdH [5] ?_
    refine consH (fun K hK => ?_) AllReadyH.nil
    go_simp
    go_at_call 14
    refine (HA4.out.ask5 HZ.out).mono ?_
    rintro e V5 ⟨q, rfl, hs, hb7⟩
    have HA5 := Lib.hid (HA4.out.call5 hb7 hs)
    clear hs hb7 HA4 hH
    refine hK.out _ _ ⟨Lib.hid HA5.out.low, HNX.out _ HA5.out.low⟩ (fun hH => ?_)
    clear hK K
    refine rdH [8] ?_
    refine consH (fun K hK => ?_) AllReadyH.nil
    have hz := (HA5.out.x _ rfl).1
    obtain ⟨m0, m1, m2, m3⟩ := cells4 hz
    have mf := free_of hz
    have ml := lt_of_block hz
    have HA6 := Lib.hid HA5.out.put
    go_simp
    clear hz m0 m1 m2 m3 mf ml hH HA5
    refine hK.out _ _ ⟨Lib.hid HA6.out.1, HNX.out _ HA6.out.1⟩ (fun hH => ?_)
    clear hK K
    generalize (((V5.setCell ⟨X, 0, none⟩ (.int .i64 2)).setCell ⟨X, 1, none⟩ (.int .i64 0)).setCell ⟨X, 2, none⟩ (.slice p 1 1)).setCell ⟨X, 3, none⟩ (.slice none 0 0) = V6 at HA6 hH ⊢
    refine rdH [9] ?_
    refine consH (fun K hK => ?_) AllReadyH.nil
    have hz := HA6.out.2.2.1
    obtain ⟨m0, m1, m2, m3⟩ := cells4 hz
    have mf := free_of hz
    have ml := lt_of_block hz
    have HE := Lib.hid HA6.out.put
    go_simp
    clear hz m0 m1 m2 m3 mf ml hH HA6
    refine hK.out _ _ ⟨Lib.hid HE.out.1, HNX.out _ HE.out.1⟩ (fun hH => ?_)
    clear hK K
    try simp only [Act.put, List.setIfInBounds_toArray, List.set_cons_zero, List.set_cons_succ]
    refine wpAnyH_done (by kernel_rfl) ?_ _
    go_wp2_with fail
    go_meet
    exact ⟨X, Y, p, q, rfl, rfl, HE⟩
   refine consH (fun K hK => ?_) AllReadyH.nil
   go_simp
   clear hH
   have HA3 := Lib.hid (show Aw2 W0 (V2.alloc (.cells #[.int .i64 0, .int .i64 0, .slice none 0 0, .slice none 0 0] 30)) za zc _ _ _ _ _ from HA2.out.allocX)
   clear HA2
   refine hK.out _ _ ⟨Lib.hid HA3.out.low, HNX.out _ HA3.out.low⟩ (fun hH => ?_)
   clear hK K
   generalize V2.alloc (.cells #[.int .i64 0, .int .i64 0, .slice none 0 0, .slice none 0 0] 30) = V3 at HA3 hH ⊢
   generalize V2.heap.size = X at HA3 ⊢
   refine rdH [3] ?_
   refine consH (fun K hK => ?_) AllReadyH.nil
   go_simp
   clear hH
   have HA4 := Lib.hid (show Aw2 W0 (V3.alloc (.cells #[.int .i64 1, .int .i64 0, .slice za 0 zc] 45)) za zc _ _ _ _ _ from HA3.out.lit)
   clear HA3
   refine hK.out _ _ ⟨Lib.hid HA4.out.low, HNX.out _ HA4.out.low⟩ (fun hH => ?_)
   clear hK K
   generalize V3.alloc (.cells #[.int .i64 1, .int .i64 0, .slice za 0 zc] 45) = V4 at HA4 hH ⊢
   generalize V3.heap.size = N3 at HA4 ⊢
   refine tkH 4 ?_ hH ?_ ?_
   rotate_left
   ·intro w' hSw
    obtain ⟨s0, s1, s2, s3⟩ := hSw
    go_simp
    try with_reducible rfl
   refine rdH [5] ?_
   refine consH (fun K hK => ?_) AllReadyH.nil
   go_simp
   go_at_call 14
   refine (HA4.out.ask5 HZ.out).mono ?_
   rintro e V5 ⟨q, rfl, hs, hb7⟩
   have HA5 := Lib.hid (HA4.out.call5 hb7 hs)
   clear hs hb7 HA4 hH
   refine hK.out _ _ ⟨Lib.hid HA5.out.low, HNX.out _ HA5.out.low⟩ (fun hH => ?_)
   clear hK K
   refine rdH [8] ?_
   refine consH (fun K hK => ?_) AllReadyH.nil
   have hz := (HA5.out.x _ rfl).1
   obtain ⟨m0, m1, m2, m3⟩ := cells4 hz
   have mf := free_of hz
   have ml := lt_of_block hz
   have HA6 := Lib.hid HA5.out.put
   go_simp
   clear hz m0 m1 m2 m3 mf ml hH HA5
   refine hK.out _ _ ⟨Lib.hid HA6.out.1, HNX.out _ HA6.out.1⟩ (fun hH => ?_)
   clear hK K
   generalize (((V5.setCell ⟨X, 0, none⟩ (.int .i64 2)).setCell ⟨X, 1, none⟩ (.int .i64 0)).setCell ⟨X, 2, none⟩ (.slice p 1 1)).setCell ⟨X, 3, none⟩ (.slice none 0 0) = V6 at HA6 hH ⊢
   refine rdH [9] ?_
   refine consH (fun K hK => ?_) AllReadyH.nil
   have hz := HA6.out.2.2.1
   obtain ⟨m0, m1, m2, m3⟩ := cells4 hz
   have mf := free_of hz
   have ml := lt_of_block hz
   have HE := Lib.hid HA6.out.put
   go_simp
   clear hz m0 m1 m2 m3 mf ml hH HA6
   refine hK.out _ _ ⟨Lib.hid HE.out.1, HNX.out _ HE.out.1⟩ (fun hH => ?_)
   clear hK K
   try simp only [Act.put, List.setIfInBounds_toArray, List.set_cons_zero, List.set_cons_succ]
   refine wpAnyH_done (by kernel_rfl) ?_ _
   go_wp2_with fail
   go_meet
   exact ⟨X, Y, p, q, rfl, rfl, HE⟩
  refine consH (fun K hK => ?_) ?_
  ·go_simp
   clear hH
   have HA2 := Lib.hid (show Aw2 W0 (V1.alloc (.cells #[.int .i64 1, .int .i64 0, .slice za 0 zc] 45)) za zc _ _ _ _ _ from HA1.out.lit)
   clear HA1
   refine hK.out _ _ ⟨Lib.hid HA2.out.low, HNX.out _ HA2.out.low⟩ (fun hH => ?_)
   clear hK K
   generalize V1.alloc (.cells #[.int .i64 1, .int .i64 0, .slice za 0 zc] 45) = V2 at HA2 hH ⊢
   generalize V1.heap.size = N3 at HA2 ⊢
   refine tkH 4 ?_ hH ?_ ?_
   rotate_left
   ·intro w' hSw
    obtain ⟨s0, s1, s2, s3⟩ := hSw
    go_simp
    try with_reducible rfl
   refine rdH [1, 6] ?_
   refine consH (fun K hK => ?_) ?_
   ·go_simp
    go_at_call 14
    refine (ask1 HZ.out _).mono ?_
    rintro e V3 ⟨p, rfl, hs, hb7⟩
    have HA3 := Lib.hid (HA2.out.call1 hb7 hs)
    clear hs hb7 HA2 hH
    refine hK.out _ _ ⟨Lib.hid HA3.out.low, HNX.out _ HA3.out.low⟩ (fun hH => ?_)
    clear hK K
    refine rdH [5, 6] ?_
    refine consH (fun K hK => ?_) ?_
    ·go_simp
     go_at_call 14
     refine (HA3.out.ask5 HZ.out).mono ?_
     rintro e V4 ⟨q, rfl, hs, hb7⟩
     have HA4 := Lib.hid (HA3.out.call5 hb7 hs)
     clear hs hb7 HA3 hH
     refine hK.out _ _ ⟨Lib.hid HA4.out.low, HNX.out _ HA4.out.low⟩ (fun hH => ?_)
     clear hK K
     refine rdH [6] ?_
     refine consH (fun K hK => ?_) AllReadyH.nil
     go_simp
     clear hH
     have HA5 := Lib.hid (show Aw2 W0 (V4.alloc (.cells #[.int .i64 0, .int .i64 0, .slice none 0 0, .slice none 0 0] 30)) za zc _ _ _ _ _ from HA4.out.allocX)
     clear HA4
     refine hK.out _ _ ⟨Lib.hid HA5.out.low, HNX.out _ HA5.out.low⟩ (fun hH => ?_)
     clear hK K
     generalize V4.alloc (.cells #[.int .i64 0, .int .i64 0, .slice none 0 0, .slice none 0 0] 30) = V5 at HA5 hH ⊢
     generalize V4.heap.size = X at HA5 ⊢
     refine rdH [8] ?_
     refine consH (fun K hK => ?_) AllReadyH.nil
     have hz := (HA5.out.x _ rfl).1
     obtain ⟨m0, m1, m2, m3⟩ := cells4 hz
     have mf := free_of hz
     have ml := lt_of_block hz
     have HA6 := Lib.hid HA5.out.put
     go_simp
     clear hz m0 m1 m2 m3 mf ml hH HA5
     refine hK.out _ _ ⟨Lib.hid HA6.out.1, HNX.out _ HA6.out.1⟩ (fun hH => ?_)
     clear hK K
     generalize (((V5.setCell ⟨X, 0, none⟩ (.int .i64 2)).setCell ⟨X, 1, none⟩ (.int .i64 0)).setCell ⟨X, 2, none⟩ (.slice p 1 1)).setCell ⟨X, 3, none⟩ (.slice none 0 0) = V6 at HA6 hH ⊢
     refine rdH [9] ?_
     refine consH (fun K hK => ?_) AllReadyH.nil
     have hz := HA6.out.2.2.1
     obtain ⟨m0, m1, m2, m3⟩ := cells4 hz
     have mf := free_of hz
     have ml := lt_of_block hz
     have HE := Lib.hid HA6.out.put
     go_simp
     clear hz m0 m1 m2 m3 mf ml hH HA6
     refine hK.out _ _ ⟨Lib.hid HE.out.1, HNX.out _ HE.out.1⟩ (fun hH => ?_)
     clear hK K
     try simp only [Act.put, List.setIfInBounds_toArray, List.set_cons_zero, List.set_cons_succ]
     refine wpAnyH_done (by kernel_rfl) ?_ _
     go_wp2_with fail
     go_meet
     exact ⟨X, Y, p, q, rfl, rfl, HE⟩
    refine consH (fun K hK => ?_) AllReadyH.nil
    go_simp
    clear hH
    have HA4 := Lib.hid (show Aw2 W0 (V3.alloc (.cells #[.int .i64 0, .int .i64 0, .slice none 0 0, .slice none 0 0] 30)) za zc _ _ _ _ _ from HA3.out.allocX)
    clear HA3
    refine hK.out _ _ ⟨Lib.hid HA4.out.low, HNX.out _ HA4.out.low⟩ (fun hH => ?_)
    clear hK K
    generalize V3.alloc (.cells #[.int .i64 0, .int .i64 0, .slice none 0 0, .slice none 0 0] 30) = V4 at HA4 hH ⊢
    generalize V3.heap.size = X at HA4 ⊢
    refine rdH [5] ?_
    refine consH (fun K hK => ?_) AllReadyH.nil
    go_simp
    go_at_call 14
    refine (HA4.out.ask5 HZ.out).mono ?_
    rintro e V5 ⟨q, rfl, hs, hb7⟩
    have HA5 := Lib.hid (HA4.out.call5 hb7 hs)
    clear hs hb7 HA4 hH
    refine hK.out _ _ ⟨Lib.hid HA5.out.low, HNX.out _ HA5.out.low⟩ (fun hH => ?_)
    clear hK K
    refine rdH [8] ?_
    refine consH (fun K hK => ?_) AllReadyH.nil
    have hz := (HA5.out.x _ rfl).1
    obtain ⟨m0, m1, m2, m3⟩ := cells4 hz
    have mf := free_of hz
    have ml := lt_of_block hz
    have HA6 := Lib.hid HA5.out.put
    go_simp
    clear hz m0 m1 m2 m3 mf ml hH HA5
    refine hK.out _ _ ⟨Lib.hid HA6.out.1, HNX.out _ HA6.out.1⟩ (fun hH => ?_)
    clear hK K
    generalize (((V5.setCell ⟨X, 0, none⟩ (.int .i64 2)).setCell ⟨X, 1, none⟩ (.int .i64 0)).setCell ⟨X, 2, none⟩ (.slice p 1 1)).setCell ⟨X, 3, none⟩ (.slice none 0 0) = V6 at HA6 hH ⊢
    refine rdH [9] ?_
    refine consH (fun K hK => ?_) AllReadyH.nil
    have hz := HA6.out.2.2.1
    obtain ⟨m0, m1, m2, m3⟩ := cells4 hz
    have mf := free_of hz
    have ml := lt_of_block hz
    have HE := Lib.hid HA6.out.put
    go_simp
    clear hz m0 m1 m2 m3 mf ml hH HA6
    refine hK.out _ _ ⟨Lib.hid HE.out.1, HNX.out _ HE.out.1⟩ (fun hH => ?_)
    clear hK K
    try simp only [Act.put, List.setIfInBounds_toArray, List.set_cons_zero, List.set_cons_succ]
    refine wpAnyH_done (by kernel_rfl) ?_ _
    go_wp2_with fail
    go_meet
    exact ⟨X, Y, p, q, rfl, rfl, HE⟩
   refine consH (fun K hK => ?_) AllReadyH.nil
   go_simp
   clear hH
   have HA3 := Lib.hid (show Aw2 W0 (V2.alloc (.cells #[.int .i64 0, .int .i64 0, .slice none 0 0, .slice none 0 0] 30)) za zc _ _ _ _ _ from HA2.out.allocX)
   clear HA2
   refine hK.out _ _ ⟨Lib.hid HA3.out.low, HNX.out _ HA3.out.low⟩ (fun hH => ?_)
   clear hK K
   generalize V2.alloc (.cells #[.int .i64 0, .int .i64 0, .slice none 0 0, .slice none 0 0] 30) = V3 at HA3 hH ⊢
   generalize V2.heap.size = X at HA3 ⊢
   refine rdH [1] ?_
   refine consH (fun K hK => ?_) AllReadyH.nil
   go_simp
   go_at_call 14
   refine (ask1 HZ.out _).mono ?_
   rintro e V4 ⟨p, rfl, hs, hb7⟩
   have HA4 := Lib.hid (HA3.out.call1 hb7 hs)
   clear hs hb7 HA3 hH
   refine hK.out _ _ ⟨Lib.hid HA4.out.low, HNX.out _ HA4.out.low⟩ (fun hH => ?_)
   clear hK K
   refine rdH [5] ?_
   refine consH (fun K hK => ?_) AllReadyH.nil
   go_simp
   go_at_call 14
   refine (HA4.out.ask5 HZ.out).mono ?_
   rintro e V5 ⟨q, rfl, hs, hb7⟩
   have HA5 := Lib.hid (HA4.out.call5 hb7 hs)
   clear hs hb7 HA4 hH
   refine hK.out _ _ ⟨Lib.hid HA5.out.low, HNX.out _ HA5.out.low⟩ (fun hH => ?_)
   clear hK K
   refine rdH [8] ?_
   refine consH (fun K hK => ?_) AllReadyH.nil
   have hz := (HA5.out.x _ rfl).1
   obtain ⟨m0, m1, m2, m3⟩ := cells4 hz
   have mf := free_of hz
   have ml := lt_of_block hz
   have HA6 := Lib.hid HA5.out.put
   go_simp
   clear hz m0 m1 m2 m3 mf ml hH HA5
   refine hK.out _ _ ⟨Lib.hid HA6.out.1, HNX.out _ HA6.out.1⟩ (fun hH => ?_)
   clear hK K
   generalize (((V5.setCell ⟨X, 0, none⟩ (.int .i64 2)).setCell ⟨X, 1, none⟩ (.int .i64 0)).setCell ⟨X, 2, none⟩ (.slice p 1 1)).setCell ⟨X, 3, none⟩ (.slice none 0 0) = V6 at HA6 hH ⊢
   refine rdH [9] ?_
   refine consH (fun K hK => ?_) AllReadyH.nil
   have hz := HA6.out.2.2.1
   obtain ⟨m0, m1, m2, m3⟩ := cells4 hz
   have mf := free_of hz
   have ml := lt_of_block hz
   have HE := Lib.hid HA6.out.put
   go_simp
   clear hz m0 m1 m2 m3 mf ml hH HA6
   refine hK.out _ _ ⟨Lib.hid HE.out.1, HNX.out _ HE.out.1⟩ (fun hH => ?_)
   clear hK K
   try simp only [Act.put, List.setIfInBounds_toArray, List.set_cons_zero, List.set_cons_succ]
   refine wpAnyH_done (by kernel_rfl) ?_ _
   go_wp2_with fail
   go_meet
   exact ⟨X, Y, p, q, rfl, rfl, HE⟩
  refine consH (fun K hK => ?_) AllReadyH.nil
  go_simp
  clear hH
  have HA2 := Lib.hid (show Aw2 W0 (V1.alloc (.cells #[.int .i64 0, .int .i64 0, .slice none 0 0, .slice none 0 0] 30)) za zc _ _ _ _ _ from HA1.out.allocX)
  clear HA1
  refine hK.out _ _ ⟨Lib.hid HA2.out.low, HNX.out _ HA2.out.low⟩ (fun hH => ?_)
  clear hK K
  generalize V1.alloc (.cells #[.int .i64 0, .int .i64 0, .slice none 0 0, .slice none 0 0] 30) = V2 at HA2 hH ⊢
  generalize V1.heap.size = X at HA2 ⊢
  refine rdH [1, 3] ?_
  refine consH (fun K hK => ?_) ?_
  ·go_simp
   go_at_call 14
   refine (ask1 HZ.out _).mono ?_
   rintro e V3 ⟨p, rfl, hs, hb7⟩
   have HA3 := Lib.hid (HA2.out.call1 hb7 hs)
   clear hs hb7 HA2 hH
   refine hK.out _ _ ⟨Lib.hid HA3.out.low, HNX.out _ HA3.out.low⟩ (fun hH => ?_)
   clear hK K
   refine rdH [3] ?_
   refine consH (fun K hK => ?_) AllReadyH.nil
   go_simp
   clear hH
   have HA4 := Lib.hid (show Aw2 W0 (V3.alloc (.cells #[.int .i64 1, .int .i64 0, .slice za 0 zc] 45)) za zc _ _ _ _ _ from HA3.out.lit)
   clear HA3
   refine hK.out _ _ ⟨Lib.hid HA4.out.low, HNX.out _ HA4.out.low⟩ (fun hH => ?_)
   clear hK K
   generalize V3.alloc (.cells #[.int .i64 1, .int .i64 0, .slice za 0 zc] 45) = V4 at HA4 hH ⊢
   generalize V3.heap.size = N3 at HA4 ⊢
   refine tkH 4 ?_ hH ?_ ?_
   rotate_left
   ·intro w' hSw
    obtain ⟨s0, s1, s2, s3⟩ := hSw
    go_simp
    try with_reducible rfl
   refine rdH [5] ?_
   refine consH (fun K hK => ?_) AllReadyH.nil
   go_simp
   go_at_call 14
   refine (HA4.out.ask5 HZ.out).mono ?_
   rintro e V5 ⟨q, rfl, hs, hb7⟩
   have HA5 := Lib.hid (HA4.out.call5 hb7 hs)
   clear hs hb7 HA4 hH
   refine hK.out _ _ ⟨Lib.hid HA5.out.low, HNX.out _ HA5.out.low⟩ (fun hH => ?_)
   clear hK K
   refine rdH [8] ?_
   refine consH (fun K hK => ?_) AllReadyH.nil
   have hz := (HA5.out.x _ rfl).1
   obtain ⟨m0, m1, m2, m3⟩ := cells4 hz
   have mf := free_of hz
   have ml := lt_of_block hz
   have HA6 := Lib.hid HA5.out.put
   go_simp
   clear hz m0 m1 m2 m3 mf ml hH HA5
   refine hK.out _ _ ⟨Lib.hid HA6.out.1, HNX.out _ HA6.out.1⟩ (fun hH => ?_)
   clear hK K
   generalize (((V5.setCell ⟨X, 0, none⟩ (.int .i64 2)).setCell ⟨X, 1, none⟩ (.int .i64 0)).setCell ⟨X, 2, none⟩ (.slice p 1 1)).setCell ⟨X, 3, none⟩ (.slice none 0 0) = V6 at HA6 hH ⊢
   refine rdH [9] ?_
   refine consH (fun K hK => ?_) AllReadyH.nil
   have hz := HA6.out.2.2.1
   obtain ⟨m0, m1, m2, m3⟩ := cells4 hz
   have mf := free_of hz
   have ml := lt_of_block hz
   have HE := Lib.hid HA6.out.put
   go_simp
   clear hz m0 m1 m2 m3 mf ml hH HA6
   refine hK.out _ _ ⟨Lib.hid HE.out.1, HNX.out _ HE.out.1⟩ (fun hH => ?_)
   clear hK K
   try simp only [Act.put, List.setIfInBounds_toArray, List.set_cons_zero, List.set_cons_succ]
   refine wpAnyH_done (by kernel_rfl) ?_ _
   go_wp2_with fail
   go_meet
   exact ⟨X, Y, p, q, rfl, rfl, HE⟩
  refine consH (fun K hK => ?_) AllReadyH.nil
  go_simp
  clear hH
  have HA3 := Lib.hid (show Aw2 W0 (V2.alloc (.cells #[.int .i64 1, .int .i64 0, .slice za 0 zc] 45)) za zc _ _ _ _ _ from HA2.out.lit)
  clear HA2
  refine hK.out _ _ ⟨Lib.hid HA3.out.low, HNX.out _ HA3.out.low⟩ (fun hH => ?_)
  clear hK K
  generalize V2.alloc (.cells #[.int .i64 1, .int .i64 0, .slice za 0 zc] 45) = V3 at HA3 hH ⊢
  generalize V2.heap.size = N3 at HA3 ⊢
  refine tkH 4 ?_ hH ?_ ?_
  rotate_left
  ·intro w' hSw
   obtain ⟨s0, s1, s2, s3⟩ := hSw
   go_simp
   try with_reducible rfl
  refine rdH [1] ?_
  refine consH (fun K hK => ?_) AllReadyH.nil
  go_simp
  go_at_call 14
  refine (ask1 HZ.out _).mono ?_
  rintro e V4 ⟨p, rfl, hs, hb7⟩
  have HA4 := Lib.hid (HA3.out.call1 hb7 hs)
  clear hs hb7 HA3 hH
  refine hK.out _ _ ⟨Lib.hid HA4.out.low, HNX.out _ HA4.out.low⟩ (fun hH => ?_)
  clear hK K
  refine rdH [5] ?_
  refine consH (fun K hK => ?_) AllReadyH.nil
  go_simp
  go_at_call 14
  refine (HA4.out.ask5 HZ.out).mono ?_
  rintro e V5 ⟨q, rfl, hs, hb7⟩
  have HA5 := Lib.hid (HA4.out.call5 hb7 hs)
  clear hs hb7 HA4 hH
  refine hK.out _ _ ⟨Lib.hid HA5.out.low, HNX.out _ HA5.out.low⟩ (fun hH => ?_)
  clear hK K
  refine rdH [8] ?_
  refine consH (fun K hK => ?_) AllReadyH.nil
  have hz := (HA5.out.x _ rfl).1
  obtain ⟨m0, m1, m2, m3⟩ := cells4 hz
  have mf := free_of hz
  have ml := lt_of_block hz
  have HA6 := Lib.hid HA5.out.put
  go_simp
  clear hz m0 m1 m2 m3 mf ml hH HA5
  refine hK.out _ _ ⟨Lib.hid HA6.out.1, HNX.out _ HA6.out.1⟩ (fun hH => ?_)
  clear hK K
  generalize (((V5.setCell ⟨X, 0, none⟩ (.int .i64 2)).setCell ⟨X, 1, none⟩ (.int .i64 0)).setCell ⟨X, 2, none⟩ (.slice p 1 1)).setCell ⟨X, 3, none⟩ (.slice none 0 0) = V6 at HA6 hH ⊢
  refine rdH [9] ?_
  refine consH (fun K hK => ?_) AllReadyH.nil
  have hz := HA6.out.2.2.1
  obtain ⟨m0, m1, m2, m3⟩ := cells4 hz
  have mf := free_of hz
  have ml := lt_of_block hz
  have HE := Lib.hid HA6.out.put
  go_simp
  clear hz m0 m1 m2 m3 mf ml hH HA6
  refine hK.out _ _ ⟨Lib.hid HE.out.1, HNX.out _ HE.out.1⟩ (fun hH => ?_)
  clear hK K
  try simp only [Act.put, List.setIfInBounds_toArray, List.set_cons_zero, List.set_cons_succ]
  refine wpAnyH_done (by kernel_rfl) ?_ _
  go_wp2_with fail
  go_meet
  exact ⟨X, Y, p, q, rfl, rfl, HE⟩
 case rest =>
  obtain ⟨X, Y, p, q, rfl, rfl, hX⟩ := hcut
  obtain ⟨W1, hW1⟩ : ∃ W, W = wc := ⟨_, rfl⟩
  rw [← hW1] at hX ⊢
  have HX := Lib.hid hX.out
  have HN3 : Hid (∀ wN : World, Below W1.heap.size W1 wN → wN.cell? ⟨X, 0, none⟩ = some (.int .i64 2) ∧ wN.cell? ⟨X, 1, none⟩ = some (.int .i64 0) ∧ wN.cell? ⟨X, 2, none⟩ = some (.slice p 1 1) ∧ wN.cell? ⟨X, 3, none⟩ = some (.slice none 0 0)) := Lib.hid (fun wN hb => cells4 ((hb.block _ (lt_of_block HX.out.2.1)).trans HX.out.2.1))
  have HA0 := Lib.hid (Ai3.start W1 p)
  clear hX hW1 HNX
  go_upto_region 3 with fail
  go_cut [5] from 30 to 33 (fun s5 wx => ∃ (J M : Nat), s5 = .pointer (some ⟨J, 0, none⟩) ∧ Hid (Ai4 W1 wx p J M))
  case first =>
   refine wp_region_held_drew (S := fun (w' : World) => Hid (Below W1.heap.size W1 w') ∧ w'.cell? ⟨X, 0, none⟩ = some (.int .i64 2) ∧ w'.cell? ⟨X, 1, none⟩ = some (.int .i64 0) ∧ w'.cell? ⟨X, 2, none⟩ = some (.slice p 1 1) ∧ w'.cell? ⟨X, 3, none⟩ = some (.slice none 0 0)) (by kernel_rfl) (⟨Lib.hid (Below.refl _ _).drew, HN3.out _ (Below.refl _ _).drew⟩) (fun hH => ?_)
   generalize W1.drew = V0 at HA0 hH ⊢
   refine tkH 0 ?_ hH ?_ ?_
   rotate_left
   ·intro w' hSw
    obtain ⟨s0, s1, s2, s3, s4⟩ := hSw
    go_simp
    try with_reducible rfl
   refine rdH [1, 4] ?_
   refine consH (fun K hK => ?_) ?_
   ·go_simp
    go_at_call 13
    refine (tVar_any 0 _).mono ?_
    rintro e V1 ⟨rfl, hb7⟩
    have HA1 := Lib.hid (HA0.out.later hb7)
    clear hb7 HA0 hH
    refine hK.out _ _ ⟨Lib.hid HA1.out.low, HN3.out _ HA1.out.low⟩ (fun hH => ?_)
    clear hK K
    refine rdH [2, 4] ?_
    refine consH (fun K hK => ?_) ?_
    ·go_simp
     clear hH
     have HA2 := Lib.hid (show Ai3 W1 (V1.alloc (.cells #[.int .i64 2, .int .i64 0, .slice p 1 1, .slice none 0 0, .int .i64 1, .int .i64 0, .slice none 0 0, .slice none 0 0] 30)) p _ _ from HA1.out.lit)
     clear HA1
     refine hK.out _ _ ⟨Lib.hid HA2.out.low, HN3.out _ HA2.out.low⟩ (fun hH => ?_)
     clear hK K
     generalize V1.alloc (.cells #[.int .i64 2, .int .i64 0, .slice p 1 1, .slice none 0 0, .int .i64 1, .int .i64 0, .slice none 0 0, .slice none 0 0] 30) = V2 at HA2 hH ⊢
     generalize V1.heap.size = M at HA2 ⊢
     refine rdH [3, 4] ?_
     refine consH (fun K hK => ?_) ?_
     ·go_simp
      go_at_call 15
      refine (tBind_any 5 _ 2 2 _).mono ?_
      rintro e V3 ⟨rfl, hb7⟩
      have HA3 := Lib.hid (HA2.out.later hb7)
      clear hb7 HA2 hH
      refine hK.out _ _ ⟨Lib.hid HA3.out.low, HN3.out _ HA3.out.low⟩ (fun hH => ?_)
      clear hK K
      refine rdH [4] ?_
      refine consH (fun K hK => ?_) AllReadyH.nil
      go_simp
      clear hH
      have HA4 := Lib.hid (show Ai3 W1 (V3.alloc (.cells #[.int .i64 0, .int .i64 0, .slice none 0 0, .slice none 0 0] 30)) p _ _ from HA3.out.allocJ)
      clear HA3
      refine hK.out _ _ ⟨Lib.hid HA4.out.low, HN3.out _ HA4.out.low⟩ (fun hH => ?_)
      clear hK K
      generalize V3.alloc (.cells #[.int .i64 0, .int .i64 0, .slice none 0 0, .slice none 0 0] 30) = V4 at HA4 hH ⊢
      generalize V3.heap.size = J at HA4 ⊢
      refine rdH [5] ?_
      refine consH (fun K hK => ?_) AllReadyH.nil
      have hz := (HA4.out.j _ rfl).1
      obtain ⟨m0, m1, m2, m3⟩ := cells4 hz
      have mf := free_of hz
      have ml := lt_of_block hz
      have HE := Lib.hid HA4.out.put
      go_simp
      clear hz m0 m1 m2 m3 mf ml hH HA4
      refine hK.out _ _ ⟨Lib.hid HE.out.1, HN3.out _ HE.out.1⟩ (fun hH => ?_)
      clear hK K
      try simp only [Act.put, List.setIfInBounds_toArray, List.set_cons_zero, List.set_cons_succ]
      refine wpAnyH_done (by kernel_rfl) ?_ _
      go_wp2_with fail
      go_meet
      exact ⟨J, M, rfl, HE⟩
     refine consH (fun K hK => ?_) AllReadyH.nil
     go_simp
     clear hH
     have HA3 := Lib.hid (show Ai3 W1 (V2.alloc (.cells #[.int .i64 0, .int .i64 0, .slice none 0 0, .slice none 0 0] 30)) p _ _ from HA2.out.allocJ)
     clear HA2
     refine hK.out _ _ ⟨Lib.hid HA3.out.low, HN3.out _ HA3.out.low⟩ (fun hH => ?_)
     clear hK K
     generalize V2.alloc (.cells #[.int .i64 0, .int .i64 0, .slice none 0 0, .slice none 0 0] 30) = V3 at HA3 hH ⊢
     generalize V2.heap.size = J at HA3 ⊢
     refine rdH [3] ?_
     refine consH (fun K hK => ?_) AllReadyH.nil
     go_simp
     go_at_call 15
     refine (tBind_any 5 _ 2 2 _).mono ?_
     rintro e V4 ⟨rfl, hb7⟩
     have HA4 := Lib.hid (HA3.out.later hb7)
     clear hb7 HA3 hH
     refine hK.out _ _ ⟨Lib.hid HA4.out.low, HN3.out _ HA4.out.low⟩ (fun hH => ?_)
     clear hK K
     refine rdH [5] ?_
     refine consH (fun K hK => ?_) AllReadyH.nil
     have hz := (HA4.out.j _ rfl).1
     obtain ⟨m0, m1, m2, m3⟩ := cells4 hz
     have mf := free_of hz
     have ml := lt_of_block hz
     have HE := Lib.hid HA4.out.put
     go_simp
     clear hz m0 m1 m2 m3 mf ml hH HA4
     refine hK.out _ _ ⟨Lib.hid HE.out.1, HN3.out _ HE.out.1⟩ (fun hH => ?_)
     clear hK K
     try simp only [Act.put, List.setIfInBounds_toArray, List.set_cons_zero, List.set_cons_succ]
     refine wpAnyH_done (by kernel_rfl) ?_ _
     go_wp2_with fail
     go_meet
     exact ⟨J, M, rfl, HE⟩
    refine consH (fun K hK => ?_) AllReadyH.nil
    go_simp
    clear hH
    have HA2 := Lib.hid (show Ai3 W1 (V1.alloc (.cells #[.int .i64 0, .int .i64 0, .slice none 0 0, .slice none 0 0] 30)) p _ _ from HA1.out.allocJ)
    clear HA1
    refine hK.out _ _ ⟨Lib.hid HA2.out.low, HN3.out _ HA2.out.low⟩ (fun hH => ?_)
    clear hK K
    generalize V1.alloc (.cells #[.int .i64 0, .int .i64 0, .slice none 0 0, .slice none 0 0] 30) = V2 at HA2 hH ⊢
    generalize V1.heap.size = J at HA2 ⊢
    refine rdH [2] ?_
    refine consH (fun K hK => ?_) AllReadyH.nil
    go_simp
    clear hH
    have HA3 := Lib.hid (show Ai3 W1 (V2.alloc (.cells #[.int .i64 2, .int .i64 0, .slice p 1 1, .slice none 0 0, .int .i64 1, .int .i64 0, .slice none 0 0, .slice none 0 0] 30)) p _ _ from HA2.out.lit)
    clear HA2
    refine hK.out _ _ ⟨Lib.hid HA3.out.low, HN3.out _ HA3.out.low⟩ (fun hH => ?_)
    clear hK K
    generalize V2.alloc (.cells #[.int .i64 2, .int .i64 0, .slice p 1 1, .slice none 0 0, .int .i64 1, .int .i64 0, .slice none 0 0, .slice none 0 0] 30) = V3 at HA3 hH ⊢
    generalize V2.heap.size = M at HA3 ⊢
    refine rdH [3] ?_
    refine consH (fun K hK => ?_) AllReadyH.nil
    go_simp
    go_at_call 15
    refine (tBind_any 5 _ 2 2 _).mono ?_
    rintro e V4 ⟨rfl, hb7⟩
    have HA4 := Lib.hid (HA3.out.later hb7)
    clear hb7 HA3 hH
    refine hK.out _ _ ⟨Lib.hid HA4.out.low, HN3.out _ HA4.out.low⟩ (fun hH => ?_)
    clear hK K
    refine rdH [5] ?_
    refine consH (fun K hK => ?_) AllReadyH.nil
    have hz := (HA4.out.j _ rfl).1
    obtain ⟨m0, m1, m2, m3⟩ := cells4 hz
    have mf := free_of hz
    have ml := lt_of_block hz
    have HE := Lib.hid HA4.out.put
    go_simp
    clear hz m0 m1 m2 m3 mf ml hH HA4
    refine hK.out _ _ ⟨Lib.hid HE.out.1, HN3.out _ HE.out.1⟩ (fun hH => ?_)
    clear hK K
    try simp only [Act.put, List.setIfInBounds_toArray, List.set_cons_zero, List.set_cons_succ]
    refine wpAnyH_done (by kernel_rfl) ?_ _
    go_wp2_with fail
    go_meet
    exact ⟨J, M, rfl, HE⟩
   refine consH (fun K hK => ?_) AllReadyH.nil
   go_simp
   clear hH
   have HA1 := Lib.hid (show Ai3 W1 (V0.alloc (.cells #[.int .i64 0, .int .i64 0, .slice none 0 0, .slice none 0 0] 30)) p _ _ from HA0.out.allocJ)
   clear HA0
   refine hK.out _ _ ⟨Lib.hid HA1.out.low, HN3.out _ HA1.out.low⟩ (fun hH => ?_)
   clear hK K
   generalize V0.alloc (.cells #[.int .i64 0, .int .i64 0, .slice none 0 0, .slice none 0 0] 30) = V1 at HA1 hH ⊢
   generalize V0.heap.size = J at HA1 ⊢
   refine rdH [1] ?_
   refine consH (fun K hK => ?_) AllReadyH.nil
   go_simp
   go_at_call 13
   refine (tVar_any 0 _).mono ?_
   rintro e V2 ⟨rfl, hb7⟩
   have HA2 := Lib.hid (HA1.out.later hb7)
   clear hb7 HA1 hH
   refine hK.out _ _ ⟨Lib.hid HA2.out.low, HN3.out _ HA2.out.low⟩ (fun hH => ?_)
   clear hK K
   refine rdH [2] ?_
   refine consH (fun K hK => ?_) AllReadyH.nil
   go_simp
   clear hH
   have HA3 := Lib.hid (show Ai3 W1 (V2.alloc (.cells #[.int .i64 2, .int .i64 0, .slice p 1 1, .slice none 0 0, .int .i64 1, .int .i64 0, .slice none 0 0, .slice none 0 0] 30)) p _ _ from HA2.out.lit)
   clear HA2
   refine hK.out _ _ ⟨Lib.hid HA3.out.low, HN3.out _ HA3.out.low⟩ (fun hH => ?_)
   clear hK K
   generalize V2.alloc (.cells #[.int .i64 2, .int .i64 0, .slice p 1 1, .slice none 0 0, .int .i64 1, .int .i64 0, .slice none 0 0, .slice none 0 0] 30) = V3 at HA3 hH ⊢
   generalize V2.heap.size = M at HA3 ⊢
   refine rdH [3] ?_
   refine consH (fun K hK => ?_) AllReadyH.nil
   go_simp
   go_at_call 15
   refine (tBind_any 5 _ 2 2 _).mono ?_
   rintro e V4 ⟨rfl, hb7⟩
   have HA4 := Lib.hid (HA3.out.later hb7)
   clear hb7 HA3 hH
   refine hK.out _ _ ⟨Lib.hid HA4.out.low, HN3.out _ HA4.out.low⟩ (fun hH => ?_)
   clear hK K
   refine rdH [5] ?_
   refine consH (fun K hK => ?_) AllReadyH.nil
   have hz := (HA4.out.j _ rfl).1
   obtain ⟨m0, m1, m2, m3⟩ := cells4 hz
   have mf := free_of hz
   have ml := lt_of_block hz
   have HE := Lib.hid HA4.out.put
   go_simp
   clear hz m0 m1 m2 m3 mf ml hH HA4
   refine hK.out _ _ ⟨Lib.hid HE.out.1, HN3.out _ HE.out.1⟩ (fun hH => ?_)
   clear hK K
   try simp only [Act.put, List.setIfInBounds_toArray, List.set_cons_zero, List.set_cons_succ]
   refine wpAnyH_done (by kernel_rfl) ?_ _
   go_wp2_with fail
   go_meet
   exact ⟨J, M, rfl, HE⟩
  case rest =>
   obtain ⟨J, M, rfl, hI⟩ := hcut
   obtain ⟨W2, hW2⟩ : ∃ W, W = wc := ⟨_, rfl⟩
   rw [← hW2] at hI ⊢
   have HI := Lib.hid hI.out
   clear hI hW2 HN3 HA0
   obtain ⟨j0, j1, j2, j3⟩ := cells4 HI.out.2.1
   obtain ⟨y0, y1, y2, y3⟩ := cells4 ((HI.out.1.block _ (lt_of_block HX.out.2.2.1)).trans HX.out.2.2.1)
   have HMK := Lib.hid (AwT.mk4 HX.out HI.out HB2.out)
   go_wp2_with fail
   refine (tBind_any 4 _ 2 2 _).mono ?_
   rintro e w3 ⟨rfl, hb3⟩
   have HT3 := Lib.hid (HMK.out w3 hb3)
   clear hb3 HMK j0 j1 j2 j3 y0 y1 y2 y3 HI HX HB2
   go_upto_region 5 with fail
   generalize w3.alloc (.cells #[.int .i64 4, .int .i64 0, .slice none 0 0, .slice (some ⟨W2.heap.size, 0, none⟩) 2 2] 30) = W3 at HT3 ⊢
   generalize w3.heap.size = K at HT3 ⊢
   generalize (some ⟨W2.heap.size, 0, none⟩ : Option Addr) = ka at HT3
   -- the questions
   have Q1 : Hid (∀ W, AwT w W X Y K p q ka → Calls Tryz.prog 19 #[.slice none 0 0, .agg #[.int .i64 4, .int .i64 0, .slice none 0 0, .slice ka 2 2], .int .i64 3] W (RvPost (sOn, 2, 0) W)) := Lib.hid (fun W h => by
    have r := yRdC [] aT 3 none none ka 0 0 2 W.heap.size W (dsNil _ _) (SlIn.none _ _) h.a.2.1 (Nat.le_refl _)
    rwa [aw1] at r)
   have Q2 : Hid (∀ W, AwT w W X Y K p q ka → Calls Tryz.prog 19 #[.slice none 0 0, .agg #[.int .i64 4, .int .i64 0, .slice none 0 0, .slice ka 2 2], .int .i64 0] W (RvPost (tZ, 0, 40) W)) := Lib.hid (fun W h => by
    have r := yRdC [] aT 0 none none ka 0 0 2 W.heap.size W (dsNil _ _) (SlIn.none _ _) h.a.2.1 (Nat.le_refl _)
    rwa [aw2] at r)
   have Q4 : Hid (∀ W, AwT w W X Y K p q ka → Calls Tryz.prog 19 #[.slice none 0 0, .agg #[.int .i64 4, .int .i64 0, .slice none 0 0, .slice ka 2 2], .int .i64 (-1)] W (RvPost (tZ, 0, 1) W)) := Lib.hid (fun W h => by
    have r := yRdC [] aT (-1) none none ka 0 0 2 W.heap.size W (dsNil _ _) (SlIn.none _ _) h.a.2.1 (Nat.le_refl _)
    rwa [aw4] at r)
   obtain ⟨t0, t1, t2, t3⟩ := cells4 HT3.out.t
   go_wp2_with fail
   refine (Q1.out _ HT3.out).mono ?_
   rintro e w4 ⟨a1, c1, a2, c2, rfl, s1, s2, hb4⟩
   have hal : Below w4.heap.size w4 (w4.alloc (.cells #[.int .i64 sOn.k, .int .i64 sOn.n, .slice a1 sOn.ls.len c1, .slice a2 sOn.ks.len c2] 30)) := (Below.refl _ _).alloc (Nat.le_refl _) _
   have HT4 := Lib.hid ((HT3.out.later hb4).later hal)
   have HBA := Lib.hid (TmBox.new (W := w4) (T := sOn) ⟨s1, s2, Nat.le_refl _⟩)
   clear s1 s2 hb4 hal HT3 t0 t1 t2 t3
   go_upto_region 6 with fail
   generalize w4.alloc (.cells #[.int .i64 sOn.k, .int .i64 sOn.n, .slice a1 sOn.ls.len c1, .slice a2 sOn.ks.len c2] 30) = W4 at HT4 HBA ⊢
   generalize w4.heap.size = A at HBA ⊢
   obtain ⟨t0, t1, t2, t3⟩ := cells4 HT4.out.t
   go_wp2_with fail
   refine (Q2.out _ HT4.out).mono ?_
   rintro e w5 ⟨a3, c3, a4, c4, rfl, _, _, hb5⟩
   have hal : Below w5.heap.size w5 (w5.alloc (.cells #[.int .i64 tZ.k, .int .i64 tZ.n, .slice a3 tZ.ls.len c3, .slice a4 tZ.ks.len c4] 30)) := (Below.refl _ _).alloc (Nat.le_refl _) _
   have HT5 := Lib.hid ((HT4.out.later hb5).later hal)
   have HBA5 := Lib.hid ((HBA.out.later hb5).later hal)
   clear hb5 hal HT4 HBA t0 t1 t2 t3
   go_upto_region 7 with fail
   generalize w5.alloc (.cells #[.int .i64 tZ.k, .int .i64 tZ.n, .slice a3 tZ.ls.len c3, .slice a4 tZ.ks.len c4] 30) = W5 at HT5 HBA5 ⊢
   obtain ⟨x0, x1, x2, x3⟩ := cells4 HT5.out.x
   obtain ⟨y0, y1, y2, y3⟩ := cells4 HT5.out.y
   -- the declaration
   obtain ⟨W6, hW6⟩ : ∃ W6, W6 = W5.alloc (.cells #[.int .i64 0, .slice none 0 0, .int .i64 2, .int .i64 0, .slice q 1 1, .slice none 0 0, .bool true, .int .i64 2, .int .i64 0, .slice p 1 1, .slice none 0 0] 41) := ⟨_, rfl⟩
   have hal : Below W5.heap.size W5 W6 := by rw [hW6]; exact (Below.refl _ _).alloc (Nat.le_refl _) _
   have hd : W6.heap[W5.heap.size]? = some (.cells #[.int .i64 0, .slice none 0 0, .int .i64 2, .int .i64 0, .slice q 1 1, .slice none 0 0, .bool true, .int .i64 2, .int .i64 0, .slice p 1 1, .slice none 0 0] 41 (0, 0)) := by rw [hW6]; exact heap_new _ _
   have HT6 := Lib.hid (HT5.out.later hal)
   have HBA6 := Lib.hid (HBA5.out.later hal)
   have HD6 : Hid (∀ W, Below W6.heap.size W6 W → DsIn W (· < W.heap.size) aE (some ⟨W5.heap.size, 0, none⟩) 1) := Lib.hid (fun W hb => by
    have ht := HT6.out.later hb
    have hd' := (hb.block _ (lt_of_block hd)).trans hd
    refine ⟨Nat.le_refl _, by unfold maxLen; omega, (fun h => by cases h), fun _ => ⟨W5.heap.size, 0, rfl, lt_of_block hd', fun i d hi => ?_⟩⟩
    match i with
    | 0 =>
     injection hi with hi
     subst hi
     exact ⟨cell_at hd' 0, ⟨none, 0, 0, cell_at hd' 1, rfl, Nat.le_refl _, Nat.zero_le _, fun _ => rfl, fun h => by simp at h⟩, ⟨cell_at hd' 2, cell_at hd' 3, q, 1, none, 0, cell_at hd' 4, cell_at hd' 5, ht.o.1, ht.o.2.1⟩, cell_at hd' 6, ⟨cell_at hd' 7, cell_at hd' 8, p, 1, none, 0, cell_at hd' 9, cell_at hd' 10, ht.s.1, ht.s.2.1⟩⟩
    | i + 1 => simp [aE] at hi)
   clear hal hd
   go_upto_region 8 with fail
   rw [← hW6]
   clear hW6 HT5 HBA5 x0 x1 x2 x3 y0 y1 y2 y3
   generalize W5.heap.size = D at HD6 ⊢
   have Q3 := Lib.hid (yRdC aE aC 1 (some ⟨D, 0, none⟩) none none 1 0 0 W6.heap.size W6 (HD6.out W6 (Below.refl _ _)) (SlIn.none _ _) (TlIn.none _ _) (Nat.le_refl _))
   rw [aw3] at Q3
   go_wp2_with fail
   refine Q3.out.mono ?_
   rintro e w7 ⟨a5, c5, a6, c6, rfl, s1, s2, hb7⟩
   have hal : Below w7.heap.size w7 (w7.alloc (.cells #[.int .i64 sZo.k, .int .i64 sZo.n, .slice a5 sZo.ls.len c5, .slice a6 sZo.ks.len c6] 30)) := (Below.refl _ _).alloc (Nat.le_refl _) _
   have HT7 := Lib.hid ((HT6.out.later hb7).later hal)
   have HBA7 := Lib.hid ((HBA6.out.later hb7).later hal)
   have HBB := Lib.hid (TmBox.new (W := w7) (T := sZo) ⟨s1, s2, Nat.le_refl _⟩)
   have HL7 := Lib.hid (Below.step hb7 hal (Nat.le_refl _))
   clear s1 s2 hb7 hal HT6 HBA6 Q3
   go_upto_region 9 with fail
   generalize w7.alloc (.cells #[.int .i64 sZo.k, .int .i64 sZo.n, .slice a5 sZo.ls.len c5, .slice a6 sZo.ks.len c6] 30) = W7 at HT7 HBA7 HBB HL7 ⊢
   generalize w7.heap.size = Bv at HBB ⊢
   obtain ⟨t0, t1, t2, t3⟩ := cells4 HT7.out.t
   go_wp2_with fail
   refine (Q4.out _ HT7.out).mono ?_
   rintro e w8 ⟨a7, c7, a8, c8, rfl, _, _, hb8⟩
   have hal : Below w8.heap.size w8 (w8.alloc (.cells #[.int .i64 tZ.k, .int .i64 tZ.n, .slice a7 tZ.ls.len c7, .slice a8 tZ.ks.len c8] 30)) := (Below.refl _ _).alloc (Nat.le_refl _) _
   have HT8 := Lib.hid ((HT7.out.later hb8).later hal)
   have HBA8 := Lib.hid ((HBA7.out.later hb8).later hal)
   have HBB8 := Lib.hid ((HBB.out.later hb8).later hal)
   have HL8 := Lib.hid (Below.step HL7.out (Below.step hb8 hal (Nat.le_refl _)) (Nat.le_refl _))
   clear hb8 hal HT7 HBA7 HBB HL7 t0 t1 t2 t3 Q1 Q2 Q4
   go_upto_region 10 with fail
   generalize w8.alloc (.cells #[.int .i64 tZ.k, .int .i64 tZ.n, .slice a7 tZ.ls.len c7, .slice a8 tZ.ks.len c8] 30) = W8 at HT8 HBA8 HBB8 HL8 ⊢
   obtain ⟨x0, x1, x2, x3⟩ := cells4 HT8.out.x
   obtain ⟨y0, y1, y2, y3⟩ := cells4 HT8.out.y
   obtain ⟨e0, e1, e2, e3⟩ := HBA8.out.cells
   have SM := Lib.hid (r13same_two6 HBA8.out.2 HT8.out.o)
   go_wp2_with fail
   refine SM.out.mono ?_
   rintro e w9 ⟨rfl, hb9⟩
   have HT9 := Lib.hid (HT8.out.later hb9)
   have HBB9 := Lib.hid (HBB8.out.later hb9)
   have HL9 := Lib.hid (Below.step HL8.out hb9 (Nat.le_refl _))
   clear hb9 HT8 HBA8 HBB8 HL8 SM x0 x1 x2 x3 y0 y1 y2 y3 e0 e1 e2 e3
   obtain ⟨x0, x1, x2, x3⟩ := cells4 HT9.out.x
   obtain ⟨e0, e1, e2, e3⟩ := HBB9.out.cells
   have SM := Lib.hid (r13same_two6 HBB9.out.2 HT9.out.s)
   go_wp2_with fail
   refine SM.out.mono ?_
   rintro e w10 ⟨rfl, hb10⟩
   have HL10 := Lib.hid (Below.step HL9.out hb10 (Nat.le_refl _))
   have HW10 := Lib.hid (Below.step HT9.out.low hb10 (Nat.le_refl _))
   have R1 := Lib.hid (yRrC aE (some ⟨D, 0, none⟩) 1 w10.heap.size w10 (HD6.out _ HL10.out) (Nat.le_refl _))
   rw [aw5] at R1
   clear hb10 HT9 HBB9 HL9 SM x0 x1 x2 x3 e0 e1 e2 e3
   go_wp2_with fail
   refine R1.out.mono ?_
   rintro e w11 ⟨rfl, hb11⟩
   have HW11 := Lib.hid (Below.step HW10.out hb11 (Nat.le_refl _))
   clear hb11 R1 HW10 HL10 HD6
   obtain ⟨W12, hmk, hds, hb12⟩ := mk_one w11
   have HMK := Lib.hid hmk
   have HW12 := Lib.hid (Below.step HW11.out hb12 (Nat.le_refl _))
   have R2 := Lib.hid (yRrC [⟨0, .nil, tZ, false, tZ⟩] (some ⟨w11.heap.size, 0, none⟩) 1 W12.heap.size W12 hds (Nat.le_refl _))
   rw [aw6] at R2
   clear hmk hds hb12
   go_wp2_with (rw [HMK.out])
   refine R2.out.mono ?_
   rintro e w13 ⟨rfl, hb13⟩
   have HW13 := Lib.hid (Below.step HW12.out hb13 (Nat.le_refl _))
   clear hb13
   go_wp2_with fail
   go_ret
   exact ⟨rfl, HW13.out⟩
end Go.Proofs.YtnfhpombnbpdcaaGreat
