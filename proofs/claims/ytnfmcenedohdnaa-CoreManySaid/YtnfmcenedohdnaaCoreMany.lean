/- For all numbers the law CoreMany returns true: of very many clauses the program tells what the document says. No condition. -/
import Derived.Test.YtnfmcenedohdnaaKaw
import Derived.Test.YtnfmcenedohdnaaKprov
import Derived.Test.YtnfmcenedohdnaaHmade
import Derived.Test.YtnfmcenedohdnaaHopen
import Derived.Test.YtnfmcenedohdnaaWpl
import Derived.Carry
namespace Go.Proofs.Ytnfmcenedohdnaa
open Go.RowKit

theorem COwn.place {w : World} {base : Nat} {v : Value} {l : List Cl} (h : COwn w base v l) {i : Nat} (hi : i < l.length) : ∃ g c a cap, v = .slice (some ⟨g, 0, none⟩) l.length c ∧ g < w.heap.size ∧ w.cell? ⟨g, i * 3, none⟩ = some (.slice a (l.getD i cl0).1.length cap) ∧ w.cell? ⟨g, i * 3 + 1, none⟩ = some (.int .i64 (l.getD i cl0).2.1) ∧ w.cell? ⟨g, i * 3 + 2, none⟩ = some (.int .i64 (l.getD i cl0).2.2) ∧ AtsIn w (fun b => base ≤ b ∧ b < w.heap.size ∧ ¬ OwnB v b) (l.getD i cl0).1 a cap := by
  obtain ⟨xs, h, hr⟩ := h
  rcases h.2 with ⟨_, h0⟩ | ⟨g, cap, cur, rfl, hb, hh, _⟩
  · omega
  · obtain ⟨⟨a, cap', q1, q2⟩, q3, q4⟩ := hr.at i hi
    exact ⟨g, cap, a, cap', rfl, lt_of_block hh, (World.ownsRow.cellAt h (i * 3) (by omega)).trans q1, (World.ownsRow.cellAt h (i * 3 + 1) (by omega)).trans q3, (World.ownsRow.cellAt h (i * 3 + 2) (by omega)).trans q4, q2⟩
theorem COwn.lit (W : World) (base : Nat) (hb : base ≤ W.heap.size) : COwn ((W.alloc (.cells #[.int .i64 0, .int .i64 0] 26)).alloc (.cells #[.slice (some ⟨W.heap.size, 0, none⟩) 1 1, .int .i64 0, .int .i64 1] 28)) base (.slice (some ⟨W.heap.size + 1, 0, none⟩) 1 1) [([(0, 0)], (0, 1))] := by
  have hA : ((W.alloc (.cells #[.int .i64 0, .int .i64 0] 26)).alloc (.cells #[.slice (some ⟨W.heap.size, 0, none⟩) 1 1, .int .i64 0, .int .i64 1] 28)).heap[W.heap.size]? = some (.cells #[.int .i64 0, .int .i64 0] 26 (0, 0)) := (heap_old _ _ (by simp)).trans (heap_new _ _)
  have hC : ((W.alloc (.cells #[.int .i64 0, .int .i64 0] 26)).alloc (.cells #[.slice (some ⟨W.heap.size, 0, none⟩) 1 1, .int .i64 0, .int .i64 1] 28)).heap[W.heap.size + 1]? = some (.cells #[.slice (some ⟨W.heap.size, 0, none⟩) 1 1, .int .i64 0, .int .i64 1] 28 (0, 0)) := heap_second _ _ _
  refine ⟨[.slice (some ⟨W.heap.size, 0, none⟩) 1 1, .int .i64 0, .int .i64 1], ⟨rfl, .inr ⟨W.heap.size + 1, 1, _, rfl, by omega, hC, Nat.le_refl _, by unfold maxLen; omega, rfl, rfl⟩⟩, ⟨some ⟨W.heap.size, 0, none⟩, 1, [], rfl, ?_, rfl⟩⟩
  refine ⟨Nat.le_refl _, by unfold maxLen; omega, (fun h => by cases h), fun _ => ⟨W.heap.size, 0, rfl, ⟨hb, by simp; omega, fun hO => by unfold OwnB at hO; injection hO with hO; exact absurd hO (by show ¬ W.heap.size + 1 = W.heap.size; omega)⟩, fun j hj => ?_⟩⟩
  have hj0 : j = 0 := by simp at hj; exact hj
  subst hj0
  exact ⟨cell_at hA 0, cell_at hA 1⟩
end Go.Proofs.Ytnfmcenedohdnaa
namespace Go.Proofs.Ytnfmcenedohdnaa.coreMany
open Go.ChangeShapes Go.WideShapes Go.ChangeAt Go.RowKit

set_option maxRecDepth 100000 in
set_option maxHeartbeats 8000000 in
theorem walk (hC : CoreC) (hP : ProvC) (n many : Int) (h0 : 0 ≤ n) (h1 : n < 256) (m0 : 0 ≤ many) (m1 : many < 256) (ll cl B : Nat) (al : Option Addr) (w : World) (hl : ByIn w (· < B) ll al cl) (hB : B ≤ w.heap.size) :
    Calls Try.prog 5 #[.int .u8 n, .slice al ll cl, .int .u8 many] w fun e w' => e = .returned (.bool true) ∧ Below w.heap.size w w' := by
  have CM := Lib.hid (made8_any n h0 h1 ll cl B al w hl hB)
  have CV := Lib.hid (fun W => vars8_any n h0 h1 W)
  have CA := Lib.hid (fun W => awake10_any hC hP W)
  have CS := Lib.hid (fun (V : Int) (l : List Cl) (ps : List Int) x c y d (W1 W2 W : World) (hc : ClsIn W1 (· < W1.heap.size) l x c) (bc : Below W1.heap.size W1 W) (hi : IntsIn W2 (· < W2.heap.size) ps y d) (bi : Below W2.heap.size W2 W) (hp : ps.length ≤ 1000) => same10_any hC hP V l ps x y c d W.heap.size W ((hc.below bc).mono bc.size) ((hi.below bi).mono bi.size) (Nat.le_refl _) hp)
  have HV := Lib.hid (varsN_bd n)
  generalize varsN n = V at CM CV HV
  clear hl hC hP
  go_enter Try.func5, Try.ntmps5
  go_wp2_with fail
  refine CM.out.mono ?_
  rintro e w2 ⟨l, x, c, rfl, hco, _, h30, b2⟩
  by_cases hl0 : l.length = 0
  · have d0 : ((l.length : Int) == 0) = true := by simpa using hl0
    have HCO := Lib.hid (COwn.lit w2 w.heap.size b2.size)
    have HB : Hid (Below w.heap.size w _) := Lib.hid ((b2.alloc b2.size (.cells #[.int .i64 0, .int .i64 0] 26)).alloc (Nat.le_trans b2.size (by simp)) (.cells #[.slice (some ⟨w2.heap.size, 0, none⟩) 1 1, .int .i64 0, .int .i64 1] 28))
    have hL1 : 1 ≤ [((([(0, 0)], (0, 1)) : Cl))].length := Nat.le_refl _
    have hL3 : [((([(0, 0)], (0, 1)) : Cl))].length ≤ 30 := by decide
    clear hco
    go_wp2_with fail
    have m2 := Int.emod_nonneg many (b := 8) (by omega)
    have m3 := Int.emod_lt_of_pos many (b := 8) (by omega)
    go_loopw [7, 9] (fun cv iv wr => ∃ (i : Nat) (L : List Cl) (v : Value), cv = v ∧ iv = .int .i64 i ∧ i ≤ L.length ∧ 1 ≤ L.length ∧ L.length ≤ 62 ∧ Hid (COwn wr w.heap.size v L) ∧ Hid (Below w.heap.size w wr)) (fun _ iv _ => 100 - (intOf iv).toNat)
    case atStart => exact ⟨0, _, _, rfl, rfl, Nat.zero_le _, hL1, by omega, HCO, HB⟩
    case round =>
      clear HCO HB
      obtain ⟨i, L, v, rfl, rfl, hi, hkL, h62, hown, hb⟩ := hrel
      by_cases hgo : (L.length : Int) < 55 + many % 8
      · have d1 : decide ((L.length : Int) < 55 + many % 8) = true := decide_eq_true hgo
        have hi0 : (0 : Int) ≤ (i : Int) := by omega
        have hjL : (0 : Int) < (L.length : Int) := by omega
        obtain ⟨g, c2, a, cap, rfl, hg, e0, e1, e2, hat⟩ := hown.out.place (i := 0) (by omega)
        rw [Nat.zero_mul] at e0 e1 e2
        rw [Nat.zero_add] at e1 e2
        obtain ⟨g3, c3, w3, HRUN, HOW3, HTU3⟩ := hown.out.push 22 (L.getD 0 cl0) hat (by omega) hb.out.size
        have HB3 : Hid (Below w.heap.size w w3) := Lib.hid (hb.out.trans (HTU3.low hb.out.size (fun b hO => (hown.out.lt b hO).1)))
        have HO3 : Hid (COwn w3 w.heap.size (.slice (some ⟨g3, 0, none⟩) (L.length + 1) c3) (L ++ [L.getD 0 cl0])) := Lib.hid HOW3
        have HR3 := Lib.hid HRUN
        have hL9 : (L ++ [L.getD 0 cl0]).length = L.length + 1 := by simp
        clear hat hown HOW3 HTU3 HRUN
        generalize L.getD 0 cl0 = q at e0 e1 e2 HO3 HR3 hL9
        obtain ⟨q1, q2, q3⟩ := q
        go_wp2_with (at_builtin; refine wpList_append_run (by rfl) _ _ _ (by rfl) (by rfl) (by rfl) HR3.out ?_)
        go_roundw
        case rel => exact ⟨i + 1, L ++ [(q1, q2, q3)], _, rfl, by go_num, by omega, by omega, by omega, HO3, HB3⟩
        case measure => simp [intOf]; omega
      · have d1 : decide ((L.length : Int) < 55 + many % 8) = false := decide_eq_false hgo
        obtain ⟨xv, cv2, rfl⟩ := hown.out.form
        have HCL := Lib.hid (hown.out.cls.weak (Q := (· < wr.heap.size)) (fun b hb => hb.2))
        have B0 := hb
        clear hown hgo
        go_wp2_with fail
        refine (CA.out _).mono ?_
        rintro e w4 ⟨rfl, b4⟩
        have B4 := Lib.hid (Below.step B0.out b4 (Nat.le_refl _))
        have L4 := Lib.hid b4
        clear b4
        go_wp2_with fail
        refine (CV.out _).mono ?_
        rintro e w' ⟨rfl, rfl⟩
        go_wp2_with fail
        refine (CS.out (V : Int) L [(L.length : Int) - 1] xv cv2 (some ⟨w4.heap.size, 0, none⟩) 1 wr _ _ HCL.out (L4.out.alloc L4.out.size _) (.mk (o := 0) (Nat.le_refl _) (by omega) (by simp) (fun i hi => by
          have hi0 : i = 0 := by simp at hi; exact hi
          subst hi0
          exact cell_at (heap_new w4 (.cells #[.int .i64 ((L.length : Int) - 1)] 3)) 0)) (Below.refl _ _) (by simp)).mono ?_
        rintro e w5 ⟨rfl, b5⟩
        have B5 := Lib.hid (Below.step (B4.out.alloc B4.out.size (.cells #[.int .i64 ((L.length : Int) - 1)] 3)) b5 (Nat.le_refl _))
        clear b5
        go_wp2_with fail
        go_ret
        exact ⟨rfl, B5.out⟩
  · have d0 : ((l.length : Int) == 0) = false := by simpa using hl0
    have HCO := Lib.hid hco
    have HB := Lib.hid b2
    have hL1 : 1 ≤ l.length := by omega
    have hL3 : l.length ≤ 30 := h30
    clear hco
    go_wp2_with fail
    have hKL : l.length ≤ l.length := Nat.le_refl _
    have m2 := Int.emod_nonneg many (b := 8) (by omega)
    have m3 := Int.emod_lt_of_pos many (b := 8) (by omega)
    go_loopw [7, 9] (fun cv iv wr => ∃ (i : Nat) (L : List Cl) (v : Value), cv = v ∧ iv = .int .i64 i ∧ i ≤ L.length ∧ l.length ≤ L.length ∧ L.length ≤ 62 ∧ Hid (COwn wr w.heap.size v L) ∧ Hid (Below w.heap.size w wr)) (fun _ iv _ => 100 - (intOf iv).toNat)
    case atStart => exact ⟨0, l, _, rfl, rfl, Nat.zero_le _, hKL, by omega, HCO, HB⟩
    case round =>
      clear HCO HB
      obtain ⟨i, L, v, rfl, rfl, hi, hkL, h62, hown, hb⟩ := hrel
      by_cases hgo : (L.length : Int) < 55 + many % 8
      · have d1 : decide ((L.length : Int) < 55 + many % 8) = true := decide_eq_true hgo
        have hjk : i % l.length < l.length := Nat.mod_lt _ (by omega)
        have hi0 : (0 : Int) ≤ (i : Int) := by omega
        have hkn : ¬ (l.length : Int) = 0 := by omega
        have hj1 : (i : Int) % (l.length : Int) < (L.length : Int) := by rw [← Int.natCast_emod]; omega
        have hj2 : 0 ≤ (i : Int) % (l.length : Int) := by rw [← Int.natCast_emod]; omega
        have hj3 : i % l.length < L.length := by omega
        obtain ⟨g, c2, a, cap, rfl, hg, e0, e1, e2, hat⟩ := hown.out.place (i := i % l.length) (by omega)
        obtain ⟨g3, c3, w3, HRUN, HOW3, HTU3⟩ := hown.out.push 22 (L.getD (i % l.length) cl0) hat (by omega) hb.out.size
        have HB3 : Hid (Below w.heap.size w w3) := Lib.hid (hb.out.trans (HTU3.low hb.out.size (fun b hO => (hown.out.lt b hO).1)))
        have HO3 : Hid (COwn w3 w.heap.size (.slice (some ⟨g3, 0, none⟩) (L.length + 1) c3) (L ++ [L.getD (i % l.length) cl0])) := Lib.hid HOW3
        have HR3 := Lib.hid HRUN
        have hL9 : (L ++ [L.getD (i % l.length) cl0]).length = L.length + 1 := by simp
        clear hat hown HOW3 HTU3 HRUN
        generalize L.getD (i % l.length) cl0 = q at e0 e1 e2 HO3 HR3 hL9
        obtain ⟨q1, q2, q3⟩ := q
        go_wp2_with (at_builtin; refine wpList_append_run (by rfl) _ _ _ (by rfl) (by rfl) (by rfl) HR3.out ?_)
        go_roundw
        case rel => exact ⟨i + 1, L ++ [(q1, q2, q3)], _, rfl, by go_num, by omega, by omega, by omega, HO3, HB3⟩
        case measure => simp [intOf]; omega
      · have d1 : decide ((L.length : Int) < 55 + many % 8) = false := decide_eq_false hgo
        obtain ⟨xv, cv2, rfl⟩ := hown.out.form
        have HCL := Lib.hid (hown.out.cls.weak (Q := (· < wr.heap.size)) (fun b hb => hb.2))
        have B0 := hb
        clear hown hgo
        go_wp2_with fail
        refine (CA.out _).mono ?_
        rintro e w4 ⟨rfl, b4⟩
        have B4 := Lib.hid (Below.step B0.out b4 (Nat.le_refl _))
        have L4 := Lib.hid b4
        clear b4
        go_wp2_with fail
        refine (CV.out _).mono ?_
        rintro e w' ⟨rfl, rfl⟩
        go_wp2_with fail
        refine (CS.out (V : Int) L [(L.length : Int) - 1] xv cv2 (some ⟨w4.heap.size, 0, none⟩) 1 wr _ _ HCL.out (L4.out.alloc L4.out.size _) (.mk (o := 0) (Nat.le_refl _) (by omega) (by simp) (fun i hi => by
          have hi0 : i = 0 := by simp at hi; exact hi
          subst hi0
          exact cell_at (heap_new w4 (.cells #[.int .i64 ((L.length : Int) - 1)] 3)) 0)) (Below.refl _ _) (by simp)).mono ?_
        rintro e w5 ⟨rfl, b5⟩
        have B5 := Lib.hid (Below.step (B4.out.alloc B4.out.size (.cells #[.int .i64 ((L.length : Int) - 1)] 3)) b5 (Nat.le_refl _))
        clear b5
        go_wp2_with fail
        go_ret
        exact ⟨rfl, B5.out⟩
theorem own : ownKnob Try.prog.godebug = none := by kernel_rfl

set_option maxRecDepth 100000 in
theorem lifted (hC : CoreC) (hP : ProvC) (os : Os) (started : os.Started) (H : Type) (enc : TypeId × Value → H) :
    ReturnsInHanded {} Try.checked os 5 .any (Rows.coreManySpec.pre6 enc Try.prog Try.f5 Rows.coreManyRow.domain false) (Rows.coreManySpec.post enc Try.prog Try.f5 false true false false) := by
  refine returnsInHanded_of_change (C := Try.checked) own started (by kernel_rfl) Try.func5
    (ChangeSpec.witness6 (enc := enc) (C := Try.checked) false ⟨#[], #[.int .u8 0, .slice none 0 0, .int .u8 0], []⟩ 8 (by kernel_rfl) (by kernel_rfl) (by kernel_rfl) (by kernel_rfl)) ?_
  intro W base args ds gs before hval0 hW hcnd _
  have hval : ∀ (j : Nat) t v, Try.f5.params[j]? = some t → args[j]? = some v → Value.okWide Try.prog W .any base t v := hval0
  have hW' := hW
  obtain ⟨p, q, hA0, hV, rfl, hfz, hnd⟩ := hW
  have hA : DataW.TrodAll enc Try.prog W 0 (fun _ => true) true Try.f5.params.toList args.toList ds p := hA0
  rw [Try.params5] at hA hval
  obtain ⟨v0, vs0, d0, ds0, p0, q0, hargs, rfl, rfl, h0, hr0⟩ := trodAll_cons hA
  obtain ⟨v1, vs1, d1, ds1, p1, q1, rfl, rfl, rfl, h1, hr1⟩ := trodAll_cons hr0
  obtain ⟨v2, vs2, d2, ds2, p2, q2, rfl, rfl, rfl, h2, hr2⟩ := trodAll_cons hr1
  obtain ⟨rfl, rfl, rfl⟩ := trodAll_nil hr2
  obtain rfl : args = #[v0, v1, v2] := by cases args; simp_all
  obtain ⟨rfl, rfl⟩ := trodVars_none hV
  obtain ⟨N, rfl, rfl, rfl, w0⟩ := open_int Try.underlying5 (hval 0 5 v0 rfl rfl) h0
  obtain ⟨ll, al, cl, rfl, hs1⟩ := h_arg_bytes (hval 1 31 v1 rfl rfl) h1
  obtain ⟨K, rfl, rfl, rfl, w2⟩ := open_int Try.underlying5 (hval 2 5 v2 rfl rfl) h2
  have hN := h_u8_range w0
  have hK := h_u8_range w2
  have hlt := hW'.lt
  refine (walk hC hP N K hN.1 hN.2 hK.1 hK.2 ll cl W.heap.size al W hs1 (Nat.le_refl _)).mono fun e W' ⟨he, hb⟩ => ?_
  subst he
  have t1 := Below.trod h_laidOut (by kernel_rfl) (of_decide_eq_true (by kernel_rfl)) h1 hb (fun x hx => hlt x (by simp [hx]))
  exact ⟨_, rfl, ⟨_, _, _, [], _, [], hW', trodAll_mk1 (shut_bool Try.underlying4 _), ⟨_, _, shut_int Try.underlying5 w0, trodAll_mk2 t1 (shut_int Try.underlying5 w2), rfl⟩, rfl, hb.frame _, fun h => by cases h⟩⟩

theorem over : Rows.coreManyRow.holds Try.pinned (OpenSpec.ofChange Rows.coreManySpec) :=
  OpenClaim.holds_of_wide 5 Try.f5 rfl rfl rfl rfl rfl rfl rfl ⟨rfl, rfl, rfl, rfl, rfl⟩ rfl rfl rfl rfl rfl (by kernel_rfl) Try.func5 (by kernel_rfl)
    (of_decide_eq_true (by kernel_rfl)) (by unfold Func.isWrapper; first | (rw [if_pos (by decide +kernel)]; kernel_rfl) | (rw [if_neg (by decide +kernel)]; exact ⟨rfl, rfl⟩))
    (fun os started H enc _ => lifted coreC provC os started H enc)

/-- THE STATEMENT -/
theorem proved : Rows.CoreManySaid :=
  over
#print axioms proved
end Go.Proofs.Ytnfmcenedohdnaa.coreMany
