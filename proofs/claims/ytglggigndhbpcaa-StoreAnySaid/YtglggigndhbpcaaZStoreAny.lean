/- For every store, all clauses, atoms and numbers the law StoreAny returns true: what the program tells of them is what the document's own answer tells. No condition. -/
import Derived.Test.YtglggigndhbpcaaZLlaw
import Derived.Test.YtglggigndhbpcaaZLn
import Derived.Test.YtglggigndhbpcaaZLfew
import Derived.Test.YtglggigndhbpcaaZLopen
import Derived.Carry
namespace Go.Proofs.Ytglggigndhbpcaa.storeAny
open Go.ChangeShapes Go.WideShapes Go.ChangeAt Go.RowKit

/-- What has been boxed lies there still. -/
def Bxs (w : World) (vs av aw : Int) (x : Option Addr) (n c : Nat) (xm : Option Addr) (nm cm : Nat) (W : World) : Prop :=
  W.heap[w.heap.size]? = some (.cells #[.int .i64 vs, .slice x n c, .slice xm nm cm] 25 (0, 0)) ∧ W.heap[w.heap.size + 1]? = some (.cells #[.int .i64 av, .int .i64 aw] 27 (0, 0)) ∧ Below w.heap.size w W
theorem Bxs.next {w W W' : World} {vs av aw : Int} {x xm : Option Addr} {n c nm cm : Nat} (h : Bxs w vs av aw x n c xm nm cm W) (hb : Below W.heap.size W W') : Bxs w vs av aw x n c xm nm cm W' := by
  obtain ⟨h1, h2, h3⟩ := h
  exact ⟨(hb.block _ (lt_of_block h1)).trans h1, (hb.block _ (lt_of_block h2)).trans h2, Below.step h3 hb (Nat.le_refl _)⟩
theorem Bxs.facts {w W : World} {vs av aw : Int} {x xm : Option Addr} {n c nm cm : Nat} (h : Bxs w vs av aw x n c xm nm cm W) : W.cell? ⟨w.heap.size, 0, none⟩ = some (.int .i64 vs) ∧ W.cell? ⟨w.heap.size, 1, none⟩ = some (.slice x n c) ∧ W.cell? ⟨w.heap.size, 2, none⟩ = some (.slice xm nm cm) ∧ W.cell? ⟨w.heap.size + 1, 0, none⟩ = some (.int .i64 av) ∧ W.cell? ⟨w.heap.size + 1, 1, none⟩ = some (.int .i64 aw) :=
  ⟨cell_at h.1 0, cell_at h.1 1, cell_at h.1 2, cell_at h.2.1 0, cell_at h.2.1 1⟩
theorem bxs_start (w : World) (vs av aw : Int) (x xm : Option Addr) (n c nm cm : Nat) : Bxs w vs av aw x n c xm nm cm ((w.alloc (.cells #[.int .i64 vs, .slice x n c, .slice xm nm cm] 25)).alloc (.cells #[.int .i64 av, .int .i64 aw] 27)) :=
  ⟨(heap_old _ _ (by simp)).trans (heap_new w _), heap_second _ _ _, ((Below.refl _ _).alloc (Nat.le_refl _) _).alloc (by simp) _⟩
set_option maxRecDepth 100000 in
set_option maxHeartbeats 16000000 in
theorem walk (vs av aw n : Int) (l k : List Cl) (b : List At) (m : List Int) (a am ak ab : Option Addr) (cap cm ck cb : Nat) (w : World) (hin : ClsIn w (· < w.heap.size) l a cap) (him : IntsIn w (· < w.heap.size) m am cm) (hik : ClsIn w (· < w.heap.size) k ak ck) (hib : AtsIn w (· < w.heap.size) b ab cb) (u0 : ∀ c ∈ l, c.1.length ≤ 140737488355328) (u1 : ∀ c ∈ k, c.1.length ≤ 140737488355328) (u3 : b.length ≤ 140737488355328) :
    Calls Try.prog 3 #[.agg #[.int .i64 vs, .slice a l.length cap, .slice am m.length cm], .slice ak k.length ck, .agg #[.int .i64 av, .int .i64 aw], .slice ab b.length cb, .int .i64 n] w fun e w' => e = .returned (.bool true) ∧ Below w.heap.size w w' := by
  have HS := Lib.hid (bxs_start w vs av aw a am l.length cap m.length cm)
  have hlm := him.len
  have hlb := hib.len
  have F0 := Lib.hid (fun (W : World) (h : Below w.heap.size w W) => few11_any l a cap w.heap.size W (hin.below h) u0)
  have F1 := Lib.hid (fun (W : World) (h : Below w.heap.size w W) => few11_any k ak ck w.heap.size W (hik.below h) u1)
  have HAW : Hid (∀ W, Calls Try.prog 12 #[] W fun e w' => e = .returned (.bool true) ∧ Below W.heap.size W w') := Lib.hid awake11_any
  have HT := Lib.hid (fun (W : World) (h : Below w.heap.size w W) (f0 : FewL l) (f1 : FewL k) (f3 : b.length ≤ 150) (f4 : m.length ≤ 100) => told_at (V := vs) (av := av) (aw := aw) ((hin.below h).mono h.size) ((him.below h).mono h.size) ((hik.below h).mono h.size) ((hib.below h).weak (fun q hq => Nat.lt_of_lt_of_le hq h.size)) rfl rfl rfl rfl (by have := f0.1; have := f1.1; omega) (by omega) (by omega) (fun c hc => Nat.le_trans (f0.2 c hc) (by omega)) (fun c hc => Nat.le_trans (f1.2 c hc) (by omega)))
  have HIB := Lib.hid hib
  have HSA := Lib.hid (fun (x y : Option Addr) (c d : Nat) (W1 W2 W : World) (h1 : IntsIn W1 (· < W1.heap.size) (zerosJ (newV n).toNat) x c) (b1 : Below W1.heap.size W1 W) (h2 : IntsIn W2 (· < W2.heap.size) (zerosJ (newV n).toNat) y d) (b2 : Below W2.heap.size W2 W) => r11Same_yes (newV n) [] (zerosJ (newV n).toNat) none x none y 0 c 0 d W.heap.size W (.none _ _) (.none _ _) ((h1.below b1).mono b1.size) ((h2.below b2).mono b2.size) (Nat.le_refl _))
  have CN1 := Lib.hid (fun W => sNew_any n W)
  have CN2 := Lib.hid (fun W => r11New_any n W)
  unfold NwPost at CN1 CN2
  generalize newV n = V at CN1 CN2 HSA
  generalize newE n = E at CN1 CN2
  generalize zerosJ V.toNat = Z at CN1 CN2 HSA
  clear hin him hik hib u0 u1
  have hee : (E == E) = true := by simp
  have hne : (E != E) = false := by simp
  obtain ⟨p0, p1, p2, p3, p4⟩ := HS.out.facts
  go_enter Try.func3, Try.ntmps3
  go_wp2_with fail
  refine (CN1.out _).mono ?_
  rintro e w1 ⟨x1, c1, rfl, o1, b1⟩
  have S1 := Lib.hid (HS.out.next b1)
  have I1 := Lib.hid o1.ints
  clear o1 b1 HS
  go_wp2_with fail
  refine (CN2.out _).mono ?_
  rintro e w2 ⟨x2, c2, rfl, o2, b2⟩
  have hbx : Below w1.heap.size w1 (w1.alloc (.cells #[.int .i64 V, .slice none 0 0, .slice x1 Z.length c1] 25)) := (Below.refl _ _).alloc (Nat.le_refl _) _
  have b12 : Below w1.heap.size w1 w2 := hbx.trans (b2.mono (by simp))
  have hby : Below w2.heap.size w2 (w2.alloc (.cells #[.int .i64 V, .slice none 0 0, .slice x2 Z.length c2] 25)) := (Below.refl _ _).alloc (Nat.le_refl _) _
  have q1 : w2.heap[w1.heap.size]? = some (.cells #[.int .i64 V, .slice none 0 0, .slice x1 Z.length c1] 25 (0, 0)) := (b2.block _ (by simp)).trans (heap_new w1 _)
  have q2 := heap_new w2 (.cells #[.int .i64 V, .slice none 0 0, .slice x2 Z.length c2] 25)
  have q3 := (hby.block _ (lt_of_block q1)).trans q1
  have s0 := cell_at q3 0
  have s1 := cell_at q3 1
  have s2 := cell_at q3 2
  have s3 := cell_at q2 0
  have s4 := cell_at q2 1
  have s5 := cell_at q2 2
  simp at s0 s1 s2 s3 s4 s5
  have SM := Lib.hid (HSA.out x1 x2 c1 c2 w1 w2 _ I1.out (b12.trans (hby.mono b12.size)) o2.ints hby)
  have S2 := Lib.hid ((S1.out.next b12).next hby)
  clear b2 o2 hbx hby b12 q1 q2 q3 S1 I1 HSA CN1 CN2 p0 p1 p2 p3 p4
  go_wp2_with fail
  refine SM.out.mono ?_
  rintro e w3 ⟨rfl, b3⟩
  have S3 := Lib.hid (S2.out.next b3)
  clear b3 S2 SM s0 s1 s2 s3 s4 s5
  obtain ⟨p0, p1, p2, p3, p4⟩ := S3.out.facts
  go_wp2_with fail
  refine (F0.out _ S3.out.2.2).mono ?_
  rintro e w4 ⟨r0, rfl, hr0, b4⟩
  have S4 := Lib.hid (S3.out.next b4)
  have R0 := Lib.hid hr0
  clear b4 S3 p0 p1 p2 p3 p4 hr0
  obtain ⟨p0, p1, p2, p3, p4⟩ := S4.out.facts
  have HEND : Hid (∀ W, Below w.heap.size w W → Calls Try.prog 12 #[] W fun e w' => e = .returned (.bool true) ∧ Below w.heap.size w w') := Lib.hid (fun W h => by
    refine (HAW.out W).mono ?_
    rintro e w' ⟨rfl, hb⟩
    exact ⟨rfl, Below.step h hb (Nat.le_refl _)⟩)
  cases r0 with
  | false =>
    have HE4 := Lib.hid (HEND.out w4 S4.out.2.2)
    go_wp2_with fail
    refine HE4.out.mono ?_
    rintro e w5 ⟨rfl, b5⟩
    have B5 := Lib.hid b5
    clear b5
    go_wp2_with fail
    go_ret
    exact ⟨rfl, B5.out⟩
  | true =>
    have R0' : Hid (FewL l) := Lib.hid (R0.out rfl)
    clear R0
    go_wp2_with fail
    refine (F1.out _ S4.out.2.2).mono ?_
    rintro e w5 ⟨r1, rfl, hr1, b5⟩
    have S5 := Lib.hid (S4.out.next b5)
    have R1 := Lib.hid hr1
    clear b5 S4 p0 p1 p2 p3 p4 hr1
    obtain ⟨p0, p1, p2, p3, p4⟩ := S5.out.facts
    cases r1 with
    | false =>
      have HE5 := Lib.hid (HEND.out w5 S5.out.2.2)
      go_wp2_with fail
      refine HE5.out.mono ?_
      rintro e w6 ⟨rfl, b6⟩
      have B6 := Lib.hid b6
      clear b6
      go_wp2_with fail
      go_ret
      exact ⟨rfl, B6.out⟩
    | true =>
      have R1' : Hid (FewL k) := Lib.hid (R1.out rfl)
      clear R1
      have hib5 := (HIB.out.below S5.out.2.2).weak (Q := (· < w5.heap.size)) (fun q hq => Nat.lt_of_lt_of_le hq S5.out.2.2.size)
      have F2 := Lib.hid (few11_any [(b, (av, aw))] (some ⟨w5.heap.size, 0, none⟩) 1 _ _ (sone_cls (av := av) (aw := aw) hib5) (fun c hc => by rw [List.mem_singleton.1 hc]; exact u3))
      clear hib5
      go_wp2_with fail
      refine F2.out.mono ?_
      rintro e w6 ⟨r2, rfl, hr2, b6⟩
      have S6 := Lib.hid (S5.out.next (((Below.refl _ _).alloc (Nat.le_refl _) _).trans (b6.mono (by simp))))
      have R2 : Hid (r2 = true → b.length ≤ 150) := Lib.hid (fun h => (hr2 h).2 (b, (av, aw)) (List.mem_singleton.2 rfl))
      clear b6 S5 p0 p1 p2 p3 p4 hr2 F2
      obtain ⟨p0, p1, p2, p3, p4⟩ := S6.out.facts
      have HE6 := Lib.hid (HEND.out w6 S6.out.2.2)
      cases r2 with
      | false =>
        go_wp2_with fail
        refine HE6.out.mono ?_
        rintro e w7 ⟨rfl, b7⟩
        have B7 := Lib.hid b7
        clear b7
        go_wp2_with fail
        go_ret
        exact ⟨rfl, B7.out⟩
      | true =>
        have R2' : Hid (b.length ≤ 150) := Lib.hid (R2.out rfl)
        clear R2
        by_cases hm : 100 < m.length
        · have d3 : decide ((100 : Int) < (m.length : Int)) = true := by simp; omega
          go_wp2_with fail
          refine HE6.out.mono ?_
          rintro e w7 ⟨rfl, b7⟩
          have B7 := Lib.hid b7
          clear b7
          go_wp2_with fail
          go_ret
          exact ⟨rfl, B7.out⟩
        · have d3 : decide ((100 : Int) < (m.length : Int)) = false := by simp; omega
          have HTT := Lib.hid (fun (W : World) (h : Below w.heap.size w W) => HT.out W h R0'.out R1'.out R2'.out (by omega))
          clear HT R0' R1' R2' F0 F1 u3
          go_wp2_with fail
          go_loop [15] (fun iv => ∃ i : Nat, iv = .int .i64 i ∧ i ≤ b.length) (fun iv => b.length - (intOf iv).toNat)
          case atStart => exact ⟨0, rfl, Nat.zero_le _⟩
          case round =>
            obtain ⟨i, rfl, hi⟩ := hrel
            have hi0 : (0 : Int) ≤ (i : Int) := by omega
            by_cases hil : i < b.length
            · have hil' : (i : Int) < (b.length : Int) := by omega
              obtain ⟨g, o, rfl, hg, hc⟩ := (HIB.out.below S6.out.2.2).some (by omega)
              have q1 := (hc i hil).2
              generalize (b.getD i at0).2 = ot at q1
              clear hc
              by_cases hto : 20 < ot ∧ ot < 1000
              · have d4 : decide (20 < ot) = true := decide_eq_true hto.1
                have d5 : decide (ot < 1000) = true := decide_eq_true hto.2
                clear hto
                go_wp2_with fail
                refine HE6.out.mono ?_
                rintro e w7 ⟨rfl, b7⟩
                have B7 := Lib.hid b7
                clear b7
                go_wp2_with fail
                go_ret
                exact ⟨rfl, B7.out⟩
              · by_cases h20 : 20 < ot
                · have d4 : decide (20 < ot) = true := decide_eq_true h20
                  have d5 : decide (ot < 1000) = false := decide_eq_false (fun h => hto ⟨h20, h⟩)
                  clear hto
                  go_wp2_with fail
                  go_round
                  case rel => exact ⟨i + 1, by go_num, by omega⟩
                  case measure => simp [intOf]; omega
                · have d4 : decide (20 < ot) = false := decide_eq_false h20
                  clear hto
                  go_wp2_with fail
                  go_round
                  case rel => exact ⟨i + 1, by go_num, by omega⟩
                  case measure => simp [intOf]; omega
            · have hil' : decide ((i : Int) < (b.length : Int)) = false := by simp; omega
              have HA6 := Lib.hid (HAW.out w6)
              go_wp2_with fail
              refine HA6.out.mono ?_
              rintro e w7 ⟨rfl, b7⟩
              have S7 := Lib.hid (S6.out.next b7)
              clear b7 S6 p0 p1 p2 p3 p4 HE6 HA6
              obtain ⟨p0, p1, p2, p3, p4⟩ := S7.out.facts
              have T7 := Lib.hid (HTT.out w7 S7.out.2.2)
              go_wp2_with fail
              refine T7.out.mono ?_
              rintro e w8 ⟨rfl, b8⟩
              have B8 := Lib.hid (Below.step S7.out.2.2 b8 (Nat.le_refl _))
              clear b8
              go_wp2_with fail
              go_ret
              exact ⟨rfl, B8.out⟩

theorem own : ownKnob Try.prog.godebug = none := by kernel_rfl

set_option maxRecDepth 100000 in
theorem lifted (os : Os) (started : os.Started) (H : Type) (enc : TypeId × Value → H) :
    ReturnsInHanded {} Try.checked os 3 .any (Rows.storeAnySpec.pre6 enc Try.prog Try.f3 Rows.storeAnyRow.domain false) (Rows.storeAnySpec.post enc Try.prog Try.f3 false true false false) := by
  refine returnsInHanded_of_change_sized (C := Try.checked) own started (by kernel_rfl) Try.func3
    (ChangeSpec.witness6 (enc := enc) (C := Try.checked) false ⟨#[], #[.agg #[.int .i64 0, .slice none 0 0, .slice none 0 0], .slice none 0 0, .agg #[.int .i64 0, .int .i64 0], .slice none 0 0, .int .i64 0], []⟩ 8 (by kernel_rfl) (by kernel_rfl) (by kernel_rfl) (by kernel_rfl)) ?_
  intro W base args ds gs before hval0 hW hcnd hsz0 _
  have hval : ∀ (j : Nat) t v, Try.f3.params[j]? = some t → args[j]? = some v → Value.okWide Try.prog W .any base t v := hval0
  have hsz : (DataW.weightsEach Try.prog (Try.f3.params.toList ++ Rows.storeAnySpec.plain.varTypes Try.prog) (ds ++ gs)).all (· ≤ reachBytes) = true := hsz0
  have hW' := hW
  obtain ⟨p, q, hA0, hV, rfl, hfz, hnd⟩ := hW
  have hA : DataW.TrodAll enc Try.prog W 0 (fun _ => true) true Try.f3.params.toList args.toList ds p := hA0
  rw [Try.params3] at hA hval hsz
  obtain ⟨v0, vs0, d0, ds0, p0, q0, hargs, rfl, rfl, h0, hr0⟩ := trodAll_cons hA
  obtain ⟨v1, vs1, d1, ds1, p1, q1, rfl, rfl, rfl, h1, hr1⟩ := trodAll_cons hr0
  obtain ⟨v2, vs2, d2, ds2, p2, q2, rfl, rfl, rfl, h2, hr2⟩ := trodAll_cons hr1
  obtain ⟨v3, vs3, d3, ds3, p3, q3, rfl, rfl, rfl, h3, hr3⟩ := trodAll_cons hr2
  obtain ⟨v4, vs4, d4, ds4, p4, q4, rfl, rfl, rfl, h4, hr4⟩ := trodAll_cons hr3
  obtain ⟨rfl, rfl, rfl⟩ := trodAll_nil hr4
  obtain rfl : args = #[v0, v1, v2, v3, v4] := by cases args; simp_all
  obtain ⟨rfl, rfl⟩ := trodVars_none hV
  have z0 := small_of hsz (j := 0) (t := 25) rfl rfl
  have z1 := small_of hsz (j := 1) (t := 22) rfl rfl
  have z3 := small_of hsz (j := 3) (t := 28) rfl rfl
  obtain ⟨vs, l, a, cap, m, am, cm, rfl, hs1, hs2, hm0⟩ := l_arg_store (hval 0 25 v0 rfl rfl) h0
  obtain ⟨k, ak, ck, rfl, hs3, hm1⟩ := l_arg_clauses (hval 1 22 v1 rfl rfl) h1
  obtain ⟨av, aw, rfl⟩ := l_arg_atom (hval 2 27 v2 rfl rfl) h2
  obtain ⟨b, ab, cb, rfl, hs4, hm3⟩ := l_arg_atoms (hval 3 28 v3 rfl rfl) h3
  obtain ⟨N, rfl, rfl, rfl, w0⟩ := open_int Try.underlying3 (hval 4 3 v4 rfl rfl) h4
  have hlt := hW'.lt
  have e47 : reachBytes ≤ 140737488355328 := by decide
  have u0 : ∀ c ∈ l, c.1.length ≤ 140737488355328 := fun c hc => Nat.le_trans (hm0 z0 c hc) e47
  have u1 : ∀ c ∈ k, c.1.length ≤ 140737488355328 := fun c hc => Nat.le_trans (hm1 z1 c hc) e47
  have u3 : b.length ≤ 140737488355328 := Nat.le_trans (hm3 z3) e47
  clear hA0 hval0 hsz0 hsz z0 z1 z3 hm0 hm1 hm3 e47
  simp only [List.append_nil] at hW'
  refine (walk vs av aw N l k b m a am ak ab cap cm ck cb W hs1 hs2 hs3 hs4 u0 u1 u3).mono fun e W' ⟨he, hb⟩ => ?_
  subst he
  have t0 := Below.trod h_laidOut (by kernel_rfl) (of_decide_eq_true (by kernel_rfl)) h0 hb (fun x hx => hlt x (by simp [hx]))
  have t1 := Below.trod h_laidOut (by kernel_rfl) (of_decide_eq_true (by kernel_rfl)) h1 hb (fun x hx => hlt x (by simp [hx]))
  have t2 := Below.trod h_laidOut (by kernel_rfl) (of_decide_eq_true (by kernel_rfl)) h2 hb (fun x hx => hlt x (by simp [hx]))
  have t3 := Below.trod h_laidOut (by kernel_rfl) (of_decide_eq_true (by kernel_rfl)) h3 hb (fun x hx => hlt x (by simp [hx]))
  exact ⟨_, rfl, ⟨_, _, _, [], _, [], hW', trodAll_mk1 (shut_bool Try.underlying4 _), ⟨_, _, t0, ⟨_, _, t1, ⟨_, _, t2, trodAll_mk2 t3 (shut_int Try.underlying3 w0), rfl⟩, rfl⟩, rfl⟩, rfl, hb.frame _, fun h => by cases h⟩⟩

theorem over : Rows.storeAnyRow.holds Try.pinned (OpenSpec.ofChange Rows.storeAnySpec) :=
  OpenClaim.holds_of_wide 3 Try.f3 rfl rfl rfl rfl rfl rfl rfl ⟨rfl, rfl, rfl, rfl, rfl⟩ rfl rfl rfl rfl rfl (by kernel_rfl) Try.func3 (by kernel_rfl)
    (of_decide_eq_true (by kernel_rfl)) (by unfold Func.isWrapper; first | (rw [if_pos (by decide +kernel)]; kernel_rfl) | (rw [if_neg (by decide +kernel)]; exact ⟨rfl, rfl⟩))
    (fun os started H enc _ => lifted os started H enc)

/-- THE STATEMENT -/
theorem proved : Rows.StoreAnySaid :=
  over
#print axioms proved
end Go.Proofs.Ytglggigndhbpcaa.storeAny
