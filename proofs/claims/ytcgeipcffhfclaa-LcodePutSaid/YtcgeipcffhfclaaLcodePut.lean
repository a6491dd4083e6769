/- For every level and every list of bytes the law LcodePut returns true: the program's Put and the document's give the same bytes and the same error. No condition. -/
import Derived.Test.YtcgeipcffhfclaaAwake3
import Derived.Test.YtcgeipcffhfclaaMade
import Derived.Test.YtcgeipcffhfclaaOpen3
import Derived.Deep.RegionHeld3
import Derived.Carry
namespace Go.Proofs.Ytcgeipcffhfclaa.lcodePut
open Go.ChangeShapes Go.WideShapes Go.ChangeAt Go.RowKit

theorem own : ownKnob Try.prog.godebug = none := by kernel_rfl

/-- What both answer, in its two parts. -/
def ansS (k n : Int) (F : Fo) : ByteArray := if rightB 5 10 k n F = true then strOfNums (encL k n F) else strOfNums []
def ansE (k n : Int) (F : Fo) : Int := if rightB 5 10 k n F = true then 0 else 1
theorem lputV_ans (k n : Int) (F : Fo) : lputV k n F = .tuple #[.string (ansS k n F), .int .i64 (ansE k n F)] := by
  unfold lputV ansS ansE
  split <;> rfl
theorem put_ans (k n : Int) (F : Fo) (x : Option Addr) (c B : Nat) (w : World) (h1 : SlIn w (· < B) F x c) (h2 : B ≤ w.heap.size) : Calls Try.prog 13 #[.agg #[.int .i64 k, .int .i64 n, .slice x F.len c]] w fun e w' => e = .returned (.tuple #[.string (ansS k n F), .int .i64 (ansE k n F)]) ∧ Below w.heap.size w w' := by
  have := lPut_any k n F x c B w h1 h2
  rwa [lputV_ans] at this
theorem rput_ans (k n : Int) (F : Fo) (x : Option Addr) (c B : Nat) (w : World) (h1 : SlIn w (· < B) F x c) (h2 : B ≤ w.heap.size) : Calls Try.prog 14 #[.agg #[.int .i64 k, .int .i64 n, .slice x F.len c]] w fun e w' => e = .returned (.tuple #[.string (ansS k n F), .int .i64 (ansE k n F)]) ∧ Below w.heap.size w w' := by
  have := rlPut_any k n F x c B w h1 h2
  rwa [lputV_ans] at this

/-- What lies there when the list of two levels has been laid. -/
def TwoAt (w : World) (A : Nat) (k n : Int) (F : Fo) (x : Option Addr) (c : Nat) (k' n' : Int) (F' : Fo) (x' : Option Addr) (c' : Nat) (W : World) : Prop :=
  W.heap[A]? = some (.cells #[.int .i64 k, .int .i64 n, .slice x F.len c, .int .i64 k', .int .i64 n', .slice x' F'.len c'] 28 (0, 0)) ∧ SlIn W (· < A) F x c ∧ SlIn W (· < A) F' x' c' ∧ Below w.heap.size w W
theorem TwoAt.below {w : World} {A : Nat} {k n : Int} {F : Fo} {x : Option Addr} {c : Nat} {k' n' : Int} {F' : Fo} {x' : Option Addr} {c' : Nat} {W W' : World} (h : TwoAt w A k n F x c k' n' F' x' c' W) (hb : Below W.heap.size W W') (hw : w.heap.size ≤ W.heap.size) : TwoAt w A k n F x c k' n' F' x' c' W' := by
  obtain ⟨h1, h2, h3, h4⟩ := h
  have hlt := lt_of_block h1
  exact ⟨(hb.block A hlt).trans h1, h2.below (hb.mono (by omega)), h3.below (hb.mono (by omega)), h4.trans (hb.mono hw)⟩

set_option maxRecDepth 100000 in
set_option maxHeartbeats 4000000 in
theorem walk (k n : Int) (F : Fo) (x : Option Addr) (c len cap : Nat) (a : Option Addr) (w : World) (hsl : SlIn w (· < w.heap.size) F x c) (hin : U8In w (· < w.heap.size) len a cap) :
    Calls Try.prog 5 #[.agg #[.int .i64 k, .int .i64 n, .slice x F.len c], .slice a len cap] w fun e w' => e = .returned (.bool true) ∧ Below w.heap.size w w' := by
  have hbx : Below w.heap.size w (w.alloc (.cells #[.int .i64 k, .int .i64 n, .slice x F.len c] 28)) := (Below.refl _ _).alloc (Nat.le_refl _) _
  have HN := Lib.hid (fun (W : World) (h1 : SlIn W (· < w.heap.size) F x c) (h2 : w.heap.size ≤ W.heap.size) => nodes_any (F.size + 1) F (Nat.lt_succ_self _) k n 301 x c w.heap.size W h1 h2 (by omega) (by omega))
  have hnn : 1 ≤ nodesF F 301 1 ∧ nodesF F 301 1 ≤ 301 := by rw [nodesF_eq F 301 1 (by omega) (by omega)]; omega
  generalize nodesF F 301 1 = N at HN hnn
  obtain ⟨hn1, hn2⟩ := hnn
  by_cases h3 : 300 < N
  · go_enter Try.func5, Try.ntmps5
    go_wp2_with fail
    refine (HN.out _ (hsl.below hbx) (by simp)).mono ?_
    rintro e w1 ⟨rfl, hb1⟩
    have HB1 := Lib.hid (Below.step hbx hb1 (Nat.le_refl _))
    clear hb1
    go_wp2_with fail
    refine (awake3_any _).mono ?_
    rintro e w2 ⟨rfl, hb2⟩
    go_wp2_with fail
    go_ret
    exact ⟨rfl, Below.step HB1.out hb2 (Nat.le_refl _)⟩
  · have d3 : decide (300 < N) = false := by simpa using h3
    go_enter Try.func5, Try.ntmps5
    go_wp2_with fail
    refine (HN.out _ (hsl.below hbx) (by simp)).mono ?_
    rintro e w1 ⟨rfl, hb1⟩
    obtain ⟨c0, c1, c2, hz1⟩ := boxed3 hb1
    have HB1 := Lib.hid (Below.step hbx hb1 (Nat.le_refl _))
    have HIN : Hid (∀ W, Below w.heap.size w W → w.heap.size ≤ W.heap.size → Calls Try.prog 12 #[.slice a len cap, .int .i64 5, .int .i64 10] W (MadeOk 5 10 W)) := Lib.hid (fun W h1 h2 => made_any 5 10 (by omega) (by omega) (by omega) (by omega) len cap w.heap.size a W (hin.below h1) h2)
    clear hb1
    go_wp2_with fail
    go_region_held3 (fun w' => w'.cell? ⟨w.heap.size, 0, none⟩ = some (.int .i64 k) ∧ w'.cell? ⟨w.heap.size, 1, none⟩ = some (.int .i64 n) ∧ w'.cell? ⟨w.heap.size, 2, none⟩ = some (.slice x F.len c))
      (first | exact ⟨c0, c1, c2⟩ | exact ⟨(bcell hb2 _ _ hz1).trans c0, (bcell hb2 _ _ hz1).trans c1, (bcell hb2 _ _ hz1).trans c2⟩ | exact ⟨(bcell ((Below.refl _ _).alloc (Nat.le_refl _) _) _ _ (Nat.lt_of_lt_of_le hz1 hb2.size)).trans ((bcell hb2 _ _ hz1).trans c0), (bcell ((Below.refl _ _).alloc (Nat.le_refl _) _) _ _ (Nat.lt_of_lt_of_le hz1 hb2.size)).trans ((bcell hb2 _ _ hz1).trans c1), (bcell ((Below.refl _ _).alloc (Nat.le_refl _) _) _ _ (Nat.lt_of_lt_of_le hz1 hb2.size)).trans ((bcell hb2 _ _ hz1).trans c2)⟩)
      (first | (go_at_call 12; refine (HIN.out _ (by exact HB1.out.drew) (by exact HB1.out.size)).mono ?_; rintro e w2 ⟨k', n', F', x', c', rfl, hok, hs2, hb2⟩))
    have HT : Hid (TwoAt w w2.heap.size k n F x c k' n' F' x' c' (w2.alloc (.cells #[.int .i64 k, .int .i64 n, .slice x F.len c, .int .i64 k', .int .i64 n', .slice x' F'.len c'] 28))) := Lib.hid (by
      have b1 : Below w.heap.size w w2 := Below.step HB1.out.drew hb2 (Nat.le_refl _)
      refine ⟨heap_new _ _, ?_, ?_, b1.alloc b1.size _⟩
      · exact ((hsl.below b1).mono b1.size).below ((Below.refl _ _).alloc (Nat.le_refl _) _)
      · exact hs2.mine ((Below.refl _ _).alloc (Nat.le_refl _) _))
    have hzw : w.heap.size ≤ w2.heap.size := Nat.le_trans HB1.out.size hb2.size
    clear hb2 hs2 hok c0 c1 c2
    go_wp2_with fail
    go_loopw [20] (fun i wr => ∃ i' : Int, (i' = 0 ∨ i' = 1 ∨ i' = 2) ∧ i = .int .i64 i' ∧ Hid (TwoAt w w2.heap.size k n F x c k' n' F' x' c' wr) ∧ w2.heap.size ≤ wr.heap.size) (fun i _ => (2 - intOf i).toNat)
    case atStart => exact ⟨0, .inl rfl, rfl, HT, by simp⟩
    case round =>
      obtain ⟨i', hi', rfl, hT, hzr⟩ := hrel
      rcases hi' with rfl | rfl | rfl
      · obtain ⟨t1, t2, t3, t4⟩ := hT.out
        have y0 := cell_at t1 0
        have y1 := cell_at t1 1
        have y2 := cell_at t1 2
        simp at y0 y1 y2
        have hlt := lt_of_block t1
        have HS : Hid (∀ o, SlIn (wr.alloc o) (· < w2.heap.size) F x c) := Lib.hid (fun o => t2.below ((Below.refl _ _).alloc (by omega) o))
        clear t1 t2 t3 t4
        go_wp2_with fail
        refine (put_ans k n F x c w2.heap.size _ (HS.out _) (by simp; omega)).mono ?_
        rintro e w4 ⟨rfl, hb4⟩
        obtain ⟨u0, u1, u2, hz4⟩ := boxed3 hb4
        have HB4 : Hid (Below wr.heap.size wr w4) := Lib.hid (((Below.refl _ _).alloc (Nat.le_refl _) _).trans (hb4.mono (by simp)))
        have HS4 : Hid (SlIn w4 (· < w2.heap.size) F x c) := Lib.hid ((HS.out _).below (hb4.mono (by simp; omega)))
        clear hb4 y0 y1 y2
        go_wp2_with fail
        refine (rput_ans k n F x c w2.heap.size _ HS4.out (by omega)).mono ?_
        rintro e w5 ⟨rfl, hb5⟩
        have HT5 := Lib.hid (hT.out.below (Below.step HB4.out hb5 (Nat.le_refl _)) (Nat.le_trans hzw hzr))
        have HZ5 : Hid (w2.heap.size ≤ w5.heap.size) := Lib.hid (Nat.le_trans (Nat.le_of_lt hlt) (Nat.le_trans HB4.out.size hb5.size))
        clear hb5 u0 u1 u2
        go_wp2_with fail
        go_roundw
        case rel => exact ⟨1, .inr (.inl rfl), rfl, HT5, HZ5.out⟩
        case measure => simp [intOf]
      · obtain ⟨t1, t2, t3, t4⟩ := hT.out
        have y0 := cell_at t1 3
        have y1 := cell_at t1 4
        have y2 := cell_at t1 5
        simp at y0 y1 y2
        have hlt := lt_of_block t1
        have HS : Hid (∀ o, SlIn (wr.alloc o) (· < w2.heap.size) F' x' c') := Lib.hid (fun o => t3.below ((Below.refl _ _).alloc (by omega) o))
        clear t1 t2 t3 t4
        go_wp2_with fail
        refine (put_ans k' n' F' x' c' w2.heap.size _ (HS.out _) (by simp; omega)).mono ?_
        rintro e w4 ⟨rfl, hb4⟩
        obtain ⟨u0, u1, u2, hz4⟩ := boxed3 hb4
        have HB4 : Hid (Below wr.heap.size wr w4) := Lib.hid (((Below.refl _ _).alloc (Nat.le_refl _) _).trans (hb4.mono (by simp)))
        have HS4 : Hid (SlIn w4 (· < w2.heap.size) F' x' c') := Lib.hid ((HS.out _).below (hb4.mono (by simp; omega)))
        clear hb4 y0 y1 y2
        go_wp2_with fail
        refine (rput_ans k' n' F' x' c' w2.heap.size _ HS4.out (by omega)).mono ?_
        rintro e w5 ⟨rfl, hb5⟩
        have HT5 := Lib.hid (hT.out.below (Below.step HB4.out hb5 (Nat.le_refl _)) (Nat.le_trans hzw hzr))
        have HZ5 : Hid (w2.heap.size ≤ w5.heap.size) := Lib.hid (Nat.le_trans (Nat.le_of_lt hlt) (Nat.le_trans HB4.out.size hb5.size))
        clear hb5 u0 u1 u2
        go_wp2_with fail
        go_roundw
        case rel => exact ⟨2, .inr (.inr rfl), rfl, HT5, HZ5.out⟩
        case measure => simp [intOf]
      · go_wp2_with fail
        refine (awake3_any _).mono ?_
        rintro e w4 ⟨rfl, hb4⟩
        go_wp2_with fail
        go_ret
        exact ⟨rfl, Below.step hT.out.2.2.2 hb4 (Nat.le_refl _)⟩

set_option maxRecDepth 100000 in
theorem lifted (os : Os) (started : os.Started) (H : Type) (enc : TypeId × Value → H) :
    ReturnsInHanded {} Try.checked os 5 .any (Rows.lcodePutSpec.pre6 enc Try.prog Try.f5 Rows.lcodePutRow.domain false) (Rows.lcodePutSpec.post enc Try.prog Try.f5 false true false false) := by
  refine returnsInHanded_of_change (C := Try.checked) own started (by kernel_rfl) Try.func5
    (ChangeSpec.witness6 (enc := enc) (C := Try.checked) false ⟨#[], #[.agg #[.int .i64 0, .int .i64 0, .slice none 0 0], .slice none 0 0], []⟩ 8 (by kernel_rfl) (by kernel_rfl) (by kernel_rfl) (by kernel_rfl)) ?_
  intro W base args ds gs before hval0 hW hcnd _
  have hval : ∀ (j : Nat) t v, Try.f5.params[j]? = some t → args[j]? = some v → Value.okWide Try.prog W .any base t v := hval0
  have hW' := hW
  obtain ⟨p, q, hA0, hV, rfl, hfz, hnd⟩ := hW
  have hA : DataW.TrodAll enc Try.prog W 0 (fun _ => true) true Try.f5.params.toList args.toList ds p := hA0
  rw [Try.params5] at hA hval
  obtain ⟨v0, v1, d0, d1, p0, p1, rfl, rfl, rfl, h0, h1⟩ := trodAll_two hA
  obtain ⟨rfl, rfl⟩ := trodVars_none hV
  obtain ⟨k, n, F, a, cap, rfl, hs0⟩ := arg_level (hval 0 28 v0 rfl rfl) h0
  obtain ⟨n1, a1, c1, rfl, hs1⟩ := arg_bytes (hval 1 24 v1 rfl rfl) h1
  clear hA0 hval0
  have hlt := hW'.lt
  refine (walk k n F a cap n1 c1 a1 W hs0 hs1).mono fun e W' ⟨he, hb⟩ => ?_
  subst he
  have t0 := Below.trod laidOut (by kernel_rfl) (of_decide_eq_true (by kernel_rfl)) h0 hb (fun x hx => hlt x (by simp [hx]))
  have t1 := Below.trod laidOut (by kernel_rfl) (of_decide_eq_true (by kernel_rfl)) h1 hb (fun x hx => hlt x (by simp [hx]))
  exact ⟨_, rfl, ⟨_, _, _, [], _, [], hW', trodAll_mk1 (shut_bool Try.underlying4 _), trodAll_mk2 t0 t1, rfl, hb.frame _, fun h => by cases h⟩⟩

theorem over : Rows.lcodePutRow.holds Try.pinned (OpenSpec.ofChange Rows.lcodePutSpec) :=
  OpenClaim.holds_of_wide 5 Try.f5 rfl rfl rfl rfl rfl rfl rfl ⟨rfl, rfl, rfl, rfl, rfl⟩ rfl rfl rfl rfl rfl (by kernel_rfl) Try.func5 (by kernel_rfl)
    (of_decide_eq_true (by kernel_rfl)) (by unfold Func.isWrapper; first | (rw [if_pos (by decide +kernel)]; kernel_rfl) | (rw [if_neg (by decide +kernel)]; exact ⟨rfl, rfl⟩))
    (fun os started H enc _ => lifted os started H enc)

/-- THE STATEMENT -/
theorem proved : Rows.LcodePutSaid :=
  over
#print axioms proved
end Go.Proofs.Ytcgeipcffhfclaa.lcodePut
