/- For every input the law LevelDeep returns true: of levels that are deep, or have many others, the program and the document's own answer tell the same. No condition. -/
import Derived.Test.YtlbflfijihbmdaaDeep2
namespace Go.Proofs.Ytlbflfijihbmdaa.levelDeep
open Go.ChangeShapes Go.WideShapes Go.ChangeAt Go.RowKit

theorem own : ownKnob Try.prog.godebug = none := by kernel_rfl

set_option maxRecDepth 100000 in
set_option maxHeartbeats 8000000 in
theorem walk_wide (x y : Int) (w : World) (hx0 : 0 ≤ x) (hx1 : x < 256) :
    Calls Try.prog 5 #[.int .u8 x, .bool true, .int .u8 y] w fun e w' => e = .returned (.bool true) ∧ Below w.heap.size w w' := by
  go_enter Try.func5, Try.ntmps5
  go_wp2_with fail
  go_loopw [8] (fun i wr => ∃ (j : Nat) (F : Fo) (k n : Int) (a : Option Addr) (cap : Nat), i = .int .i64 j ∧ j ≤ 4 ∧ Hid (F.size + 2 ≤ 2 ^ (j + 2)) ∧ Hid (LvAt w w.heap.size wr k n F a cap)) (fun i _ => 4 - (intOf i).toNat)
  case atStart => exact ⟨0, _, _, _, _, _, rfl, by omega, Lib.hid (by decide), Lib.hid (LvAt.startTwo w)⟩
  case round =>
    obtain ⟨j, F, k, n, a, cap, rfl, hj, hs, hat⟩ := hrel
    obtain ⟨c0, c1, c2, fz, hlt⟩ := hat.out.facts
    by_cases hlt4 : j < 4
    · go_wp2_with fail
      go_roundw
      case rel => exact ⟨j + 1, _, 3, 0, _, _, by go_num, by omega, Lib.hid (by have := hs.out; simp only [Fo.size]; rw [Nat.pow_succ]; omega), Lib.hid (hat.out.two 3 k n k n hat.out.2.1 hat.out.2.1)⟩
      case measure => simp [intOf]; omega
    · have hF : F.size ≤ 62 := by
        have := hs.out
        obtain rfl : j = 4 := by omega
        omega
      have d4 : decide ((j : Int) < 4) = false := by simp; omega
      have hx6 := Int.emod_lt_of_pos x (b := 6) (by omega)
      have hx7 := Int.emod_nonneg x (b := 6) (by omega)
      go_wp2_with fail
      go_loopw [9] (fun i wr => ∃ (j : Nat) (F : Fo) (k n : Int) (a : Option Addr) (cap : Nat), i = .int .i64 j ∧ j ≤ 6 ∧ Hid (F.size ≤ 62 + 20 * j) ∧ Hid (LvAt w w.heap.size wr k n F a cap)) (fun i _ => 6 - (intOf i).toNat)
      case atStart => exact ⟨0, _, _, _, _, _, rfl, by omega, Lib.hid (by omega), hat⟩
      case round =>
        obtain ⟨j, F, k, n, a, cap, rfl, hj, hs, hat⟩ := hrel
        obtain ⟨c0, c1, c2, fz, hlt⟩ := hat.out.facts
        by_cases hlt5 : (j : Int) < x % 6
        · go_upto_region 11 with fail
          go_cut [38] (fun s38 wx => ∃ (M : Nat) (q : Nat), wr.heap.size = q ∧ M = q + 1 ∧ Hid (LvAt w w.heap.size wx 3 0 (.cons k n F (.cons 3 0 pz .nil)) (some ⟨M, 0, none⟩) 2) ∧ wx.cell? ⟨M, 3, none⟩ = some (.int .i64 3) ∧ wx.cell? ⟨M, 4, none⟩ = some (.int .i64 0) ∧ wx.cell? ⟨M, 5, none⟩ = some (.slice (some ⟨q, 0, none⟩) 2 2) ∧ Hid (SlIn wx (fun b => w.heap.size < b ∧ b < wx.heap.size) pz (some ⟨q, 0, none⟩) 2))
          case first =>
            go_wp2_with fail
            go_meet
            have h3 := hat.out.three
            obtain ⟨e0, e1, e2, e3⟩ := h3.2 _ rfl
            exact ⟨_, _, rfl, rfl, Lib.hid h3.1, e0, e1, e2, Lib.hid e3⟩
          case rest =>
            clear c0 c1 c2 fz hlt
            obtain ⟨M, q, hq, hM, HL, e0, e1, e2, HS⟩ := hcut
            clear hq hM
            obtain ⟨c0, c1, c2, fz, hlt⟩ := HL.out.facts
            have l2 : (Fo.cons k n F (.cons 3 0 pz .nil)).len = 2 := rfl
            rw [l2] at c2
            clear l2
            have hMlt := Lib.hid (World.block_lt_of_cell? _ _ e0)
            by_cases hpar : j % 2 = 0
            · have dp : (((j : Int) % 2) == 0) = true := beq_iff_eq.2 (by omega)
              clear hpar
              go_wp2_with fail
              go_region
              go_wp2_with fail
              go_roundw
              case rel => exact ⟨j + 1, _, 4, 0, _, _, by go_num, by omega, Lib.hid (by have := hs.out; simp only [Fo.size, pz]; omega), Lib.hid ((HL.out.two 4 3 0 3 0 HL.out.2.1 HS.out).below (Below.refl _ _).drew)⟩
              case measure => simp [intOf]; omega
            · have dp : (((j : Int) % 2) == 0) = false := beq_eq_false_iff_ne.2 (by omega)
              clear hpar
              go_wp2_with fail
              go_roundw
              case rel => exact ⟨j + 1, _, 3, 0, _, _, by go_num, by omega, Lib.hid (by have := hs.out; simp only [Fo.size, pz]; omega), HL⟩
              case measure => simp [intOf]; omega
        · have d5 : decide ((j : Int) < x % 6) = false := by simpa using hlt5
          go_wp2_with fail
          refine (awake_any _).mono ?_
          rintro e w2 ⟨rfl, hb2⟩
          have hat2 := hat.out.below hb2
          have HAT := Lib.hid hat2
          have hE := Lib.hid hat2.2.2
          clear c0 c1 c2 fz hlt
          obtain ⟨c0, c1, c2, fz, hlt⟩ := hat2.facts
          clear hat2
          go_wp2_with fail
          refine (told_any F F k n k n [4] [] a a _ none cap cap 1 0 (w2.heap.size + 1) _ (HAT.out.sl _) (HAT.out.sl _) (ints_new _ _) (IntsIn.none _ _) (by simp) (by have := hs.out; omega) (by have := hs.out; omega)).mono ?_
          rintro e w3 ⟨rfl, hb3⟩
          have hE3 := Lib.hid (Below.step (hE.out.alloc (Nat.le_of_lt hlt) _) hb3 (Nat.le_refl _))
          go_wp2_with fail
          go_ret
          exact ⟨rfl, hE3.out⟩
set_option maxRecDepth 100000 in
set_option maxHeartbeats 8000000 in
theorem walk_deep (x y : Int) (w : World) (hx0 : 0 ≤ x) (hx1 : x < 256) (hy0 : 0 ≤ y) (hy1 : y < 256) :
    Calls Try.prog 5 #[.int .u8 x, .bool false, .int .u8 y] w fun e w' => e = .returned (.bool true) ∧ Below w.heap.size w w' := by
  go_enter Try.func5, Try.ntmps5
  go_wp2_with fail
  go_loopw [10] (fun i wr => ∃ (j : Nat) (F : Fo) (k n : Int) (a : Option Addr) (cap : Nat), i = .int .i64 j ∧ j ≤ 15 ∧ Hid (F.size ≤ 20 * j) ∧ Hid (LvAt w w.heap.size wr k n F a cap)) (fun i _ => 15 - (intOf i).toNat)
  case atStart => exact ⟨0, _, _, _, _, _, rfl, by omega, Lib.hid (by simp [Fo.size]), Lib.hid (LvAt.start w)⟩
  case round =>
        obtain ⟨j, F, k, n, a, cap, rfl, hj, hs, hat⟩ := hrel
        obtain ⟨c0, c1, c2, fz, hlt⟩ := hat.out.facts
        have hx6 := Int.emod_lt_of_pos x (b := 15) (by omega)
        have hx7 := Int.emod_nonneg x (b := 15) (by omega)
        by_cases hlt5 : (j : Int) < x % 15
        · have hy2 : y % 2 = 0 ∨ y % 2 = 1 := by omega
          rcases hy2 with hy2 | hy2
          · go_wp2_with fail
            go_region
            all_goals go_wp2_with fail
            all_goals go_roundw
            case rel => exact ⟨j + 1, _, 2, 0, _, _, by go_num, by omega, Lib.hid (by have := hs.out; simp only [Fo.size]; omega), Lib.hid (hat.out.one 2 _ _ _ (.inr ⟨rfl, rfl⟩))⟩
            case measure => simp [intOf]; omega
            case rel => exact ⟨j + 1, _, 2, 0, _, _, by go_num, by omega, Lib.hid (by have := hs.out; simp only [Fo.size]; omega), Lib.hid (hat.out.one 2 _ _ _ (.inl ⟨rfl, rfl⟩))⟩
            case measure => simp [intOf]; omega
          · go_wp2_with fail
            go_region
            all_goals go_wp2_with fail
            all_goals go_roundw
            case rel => exact ⟨j + 1, _, 3, 0, _, _, by go_num, by omega, Lib.hid (by have := hs.out; simp only [Fo.size]; omega), Lib.hid (hat.out.both 3 _ _ _ (.inr ⟨rfl, rfl⟩))⟩
            case measure => simp [intOf]; omega
            case rel => exact ⟨j + 1, _, 3, 0, _, _, by go_num, by omega, Lib.hid (by have := hs.out; simp only [Fo.size]; omega), Lib.hid (hat.out.both 3 _ _ _ (.inl ⟨rfl, rfl⟩))⟩
            case measure => simp [intOf]; omega
        · have d5 : decide ((j : Int) < x % 15) = false := by simpa using hlt5
          go_wp2_with fail
          refine (awake_any _).mono ?_
          rintro e w2 ⟨rfl, hb2⟩
          have hat2 := hat.out.below hb2
          have HAT := Lib.hid hat2
          have hE := Lib.hid hat2.2.2
          clear c0 c1 c2 fz hlt
          obtain ⟨c0, c1, c2, fz, hlt⟩ := hat2.facts
          clear hat2
          go_wp2_with fail
          refine (told_any F F k n k n [4] [] a a _ none cap cap 1 0 (w2.heap.size + 1) _ (HAT.out.sl _) (HAT.out.sl _) (ints_new _ _) (IntsIn.none _ _) (by simp) (by have := hs.out; omega) (by have := hs.out; omega)).mono ?_
          rintro e w3 ⟨rfl, hb3⟩
          have hE3 := Lib.hid (Below.step (hE.out.alloc (Nat.le_of_lt hlt) _) hb3 (Nat.le_refl _))
          go_wp2_with fail
          go_ret
          exact ⟨rfl, hE3.out⟩

theorem walk (x y : Int) (b : Bool) (w : World) (hx0 : 0 ≤ x) (hx1 : x < 256) (hy0 : 0 ≤ y) (hy1 : y < 256) :
    Calls Try.prog 5 #[.int .u8 x, .bool b, .int .u8 y] w fun e w' => e = .returned (.bool true) ∧ Below w.heap.size w w' := by
  cases b with
  | true => exact walk_wide x y w hx0 hx1
  | false => exact walk_deep x y w hx0 hx1 hy0 hy1

theorem u8_range {a : Int} (w0 : (Lit.int .u8 a).wf = true) : 0 ≤ a ∧ a < 256 := by
  have e1 : IntKind.u8.min = 0 := rfl
  have e2 : IntKind.u8.max = 255 := rfl
  simp only [Lit.wf, e1, e2, Bool.and_eq_true, decide_eq_true_eq] at w0
  omega

set_option maxRecDepth 100000 in
theorem lifted (os : Os) (started : os.Started) (H : Type) (enc : TypeId × Value → H) :
    ReturnsInHanded {} Try.checked os 5 .any (Rows.levelDeepSpec.pre6 enc Try.prog Try.f5 Rows.levelDeepRow.domain false) (Rows.levelDeepSpec.post enc Try.prog Try.f5 false true false false) := by
  refine returnsInHanded_of_change (C := Try.checked) own started (by kernel_rfl) Try.func5
    (ChangeSpec.witness6 (enc := enc) (C := Try.checked) false ⟨#[], #[.int .u8 0, .bool false, .int .u8 0], []⟩ 8 (by kernel_rfl) (by kernel_rfl) (by kernel_rfl) (by kernel_rfl)) ?_
  intro W base args ds gs before hval0 hW hcnd _
  have hval : ∀ (j : Nat) t v, Try.f5.params[j]? = some t → args[j]? = some v → Value.okWide Try.prog W .any base t v := hval0
  have hW' := hW
  obtain ⟨p, q, hA0, hV, rfl, hfz, hnd⟩ := hW
  have hA : DataW.TrodAll enc Try.prog W 0 (fun _ => true) true Try.f5.params.toList args.toList ds p := hA0
  rw [Try.params5] at hA hval
  obtain ⟨v0, v1, v2, d0, d1, d2, p0, p1, p2, rfl, rfl, rfl, h0, h1, h2⟩ := trodAll_three hA
  obtain ⟨rfl, rfl⟩ := trodVars_none hV
  obtain ⟨a0, rfl, rfl, rfl, w0⟩ := open_int Try.underlying5 (hval 0 5 v0 rfl rfl) h0
  obtain ⟨b, rfl, rfl, rfl⟩ := open_bool Try.underlying4 (hval 1 4 v1 rfl rfl) h1
  obtain ⟨a2, rfl, rfl, rfl, w2⟩ := open_int Try.underlying5 (hval 2 5 v2 rfl rfl) h2
  clear hA0 hval0
  simp only [List.append_nil] at hW'
  have r0 := u8_range w0
  have r2 := u8_range w2
  refine (walk a0 a2 b W r0.1 r0.2 r2.1 r2.2).mono fun e W' ⟨he, hb⟩ => ?_
  subst he
  exact ⟨_, rfl, ⟨_, _, _, [], _, [], hW', trodAll_mk1 (shut_bool Try.underlying4 _), trodAll_mk3 (shut_int Try.underlying5 w0) (shut_bool Try.underlying4 _) (shut_int Try.underlying5 w2), rfl, hb.frame _, fun h => by cases h⟩⟩

theorem over : Rows.levelDeepRow.holds Try.pinned (OpenSpec.ofChange Rows.levelDeepSpec) :=
  OpenClaim.holds_of_wide 5 Try.f5 rfl rfl rfl rfl rfl rfl rfl ⟨rfl, rfl, rfl, rfl, rfl⟩ rfl rfl rfl rfl rfl (by kernel_rfl) Try.func5 (by kernel_rfl)
    (of_decide_eq_true (by kernel_rfl)) (by unfold Func.isWrapper; first | (rw [if_pos (by decide +kernel)]; kernel_rfl) | (rw [if_neg (by decide +kernel)]; exact ⟨rfl, rfl⟩))
    (fun os started H enc _ => lifted os started H enc)

/-- THE STATEMENT -/
theorem proved : Rows.LevelDeepSaid :=
  over
#print axioms proved
end Go.Proofs.Ytlbflfijihbmdaa.levelDeep
