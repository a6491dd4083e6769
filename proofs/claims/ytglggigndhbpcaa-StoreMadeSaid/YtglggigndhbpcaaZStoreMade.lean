/- For all numbers the law StoreMade returns true: of stores by numbers the program tells what the document says. No condition. -/
import Derived.Test.YtglggigndhbpcaaZLlaw
import Derived.Test.YtglggigndhbpcaaZHopen
import Derived.Carry
namespace Go.Proofs.Ytglggigndhbpcaa.storeMade
open Go.ChangeShapes Go.WideShapes Go.ChangeAt Go.RowKit

set_option maxRecDepth 100000 in
set_option maxHeartbeats 16000000 in
theorem walk (n : Int) (h0 : 0 ≤ n) (h1 : n < 256) (ll cl lk ck lb cb B : Nat) (al ak ab : Option Addr) (w : World) (hl : ByIn w (· < B) ll al cl) (hk : ByIn w (· < B) lk ak ck) (hbb : ByIn w (· < B) lb ab cb) (hB : B ≤ w.heap.size) :
    Calls Try.prog 4 #[.int .u8 n, .slice al ll cl, .slice ak lk ck, .slice ab lb cb] w fun e w' => e = .returned (.bool true) ∧ Below w.heap.size w w' := by
  have CS := Lib.hid (made11_any n h0 h1 ll cl B al w hl hB)
  have CM := Lib.hid (fun W (h : Below w.heap.size w W) => made8_any n h0 h1 lk ck B ak W (hk.below (h.mono hB)) (Nat.le_trans hB h.size))
  have CA := Lib.hid (fun W (h : Below w.heap.size w W) => atoms11_any n h0 h1 lb cb B ab W (hbb.below (h.mono hB)) (Nat.le_trans hB h.size))
  generalize varsN n = V at CS CM CA
  clear hl hk hbb
  go_enter Try.func4, Try.ntmps4
  go_wp2_with fail
  refine CS.out.mono ?_
  rintro e w1 ⟨l, m, x, c, xm, cm, rfl, hs, hr, hl15, b1⟩
  have hbd := rgS_bd hr
  have hbx := heap_new w1 (.cells #[.int .i64 V, .slice x l.length c, .slice xm m.length cm] 25)
  have hsz : Below w.heap.size w (w1.alloc (.cells #[.int .i64 V, .slice x l.length c, .slice xm m.length cm] 25)) := b1.alloc b1.size _
  have HL : Hid (ClsIn (w1.alloc (.cells #[.int .i64 V, .slice x l.length c, .slice xm m.length cm] 25)) (· < w1.heap.size) l x c) := Lib.hid (hs.cls.keep (fun b hb => heap_old _ _ hb))
  have HM : Hid (IntsIn (w1.alloc (.cells #[.int .i64 V, .slice x l.length c, .slice xm m.length cm] 25)) (· < w1.heap.size) m xm cm) := Lib.hid (hs.ints.keep (fun b hb => heap_old _ _ hb))
  have HF := Lib.hid (six_le hr)
  have HML : Hid (m.length ≤ 16) := Lib.hid (by have := hbd.1; have := hbd.2.2.2.2.2.1; omega)
  have HL15 := Lib.hid hl15
  have HX := Lib.hid hbx
  have B1 := Lib.hid hsz
  have HZ : Hid ((w1.alloc (.cells #[.int .i64 V, .slice x l.length c, .slice xm m.length cm] 25)).heap.size = w1.heap.size + 1) := Lib.hid (by simp)
  clear hs hr hbd hbx hsz b1 CS hl15
  go_wp2_with fail
  generalize w1.alloc (.cells #[.int .i64 V, .slice x l.length c, .slice xm m.length cm] 25) = W1 at *
  generalize w1.heap.size = X at *
  have CM1 := Lib.hid (CM.out W1 B1.out)
  refine CM1.out.mono ?_
  rintro e w2 ⟨K, y, d, rfl, hK, hKall, hK30, b2⟩
  have A2 := Lib.hid b2
  have HK0 := Lib.hid (hK.cls.weak (Q := (· < w2.heap.size)) (fun b hb => hb.2))
  have HKA := Lib.hid hKall
  have hd := hK.cls.1
  have hdm := hK.cls.2.1
  have CA2 := Lib.hid (CA.out w2 (Below.step B1.out b2 (Nat.le_refl _)))
  have HST : Hid (∀ W, Below W1.heap.size W1 W → W.cell? ⟨X, 0, none⟩ = some (.int .i64 V) ∧ W.cell? ⟨X, 1, none⟩ = some (.slice x l.length c) ∧ W.cell? ⟨X, 2, none⟩ = some (.slice xm m.length cm)) := Lib.hid (fun W h => by
    have := (h.block X (lt_of_block HX.out)).trans HX.out
    exact ⟨cell_at this 0, cell_at this 1, cell_at this 2⟩)
  have HTO : Hid (∀ (W : World) (av aw : Int) (K' : List Cl) (b : List At) (z : Option Addr) (e n3 n4 : Nat), Below w2.heap.size w2 W → ClsIn w2 (· < w2.heap.size) K' y d → AtsIn W (· < W.heap.size) b z e → K'.length = n3 → b.length = n4 → n3 ≤ 30 → n4 ≤ 4 → (∀ c ∈ K', c.1.length ≤ 1000) →
      Calls Try.prog 13 #[.agg #[.int .i64 V, .slice x l.length c, .slice xm m.length cm], .slice y n3 d, .agg #[.int .i64 av, .int .i64 aw], .slice z n4 e] W fun e w' => e = .returned (.bool true) ∧ Below W.heap.size W w') := Lib.hid (fun W av aw K' b z e n3 n4 hW hK' hb e3 e4 h3 h4 hf => by
    have hW1 : Below W1.heap.size W1 W := A2.out.trans (hW.mono A2.out.size)
    have hz := hW1.size
    have hX := HZ.out
    exact told_at ((HL.out.below (hW1.mono (by omega))).mono (by omega)) ((HM.out.below (hW1.mono (by omega))).mono (by omega)) ((hK'.below hW).mono hW.size) hb rfl rfl e3 e4 (by have := HL15.out; omega) (by have := HML.out; omega) (by omega) HF.out hf)
  clear hK hKall b2 CM1 CA CM HL HM HF HML HL15
  by_cases h15 : 15 < K.length
  · have h15' : (15 : Int) < (K.length : Int) := by omega
    have HKK := Lib.hid (cls_take HK0.out (k := 15) (by omega))
    have HKA' := Lib.hid (all_take HKA.out 15)
    have HN : Hid ((K.take 15).length = 15) := Lib.hid (by rw [List.length_take]; omega)
    generalize K.take 15 = K' at HKK HKA' HN
    have hd15 : 15 ≤ d := by omega
    have hd15' : (15 : Int) ≤ (d : Int) := by omega
    clear HK0 HKA
    have HN3 : Hid (15 ≤ 30) := Lib.hid (by omega)
    go_wp2_with fail
    refine CA2.out.mono ?_
    rintro e w3 ⟨b, z, e9, rfl, hbo, hball, hb4, b3⟩
    have B3 := Lib.hid b3
    have HB := Lib.hid (hbo.ats.weak (Q := (· < w3.heap.size)) (fun q hq => hq.2))
    have HB4 := Lib.hid hb4
    have HBW : Hid (Below w.heap.size w w3) := Lib.hid (Below.step (Below.step B1.out A2.out (Nat.le_refl _)) b3 (Nat.le_refl _))
    have HST3 : Hid (∀ W, Below w3.heap.size w3 W → W.cell? ⟨X, 0, none⟩ = some (.int .i64 V) ∧ W.cell? ⟨X, 1, none⟩ = some (.slice x l.length c) ∧ W.cell? ⟨X, 2, none⟩ = some (.slice xm m.length cm)) := Lib.hid (fun W h => HST.out W (A2.out.trans ((b3.trans (h.mono b3.size)).mono A2.out.size)))
    have HTO3 : Hid (∀ (W : World) (av aw : Int) (q : List At) (z : Option Addr) (e n4 : Nat), Below w3.heap.size w3 W → AtsIn W (· < W.heap.size) q z e → q.length = n4 → n4 ≤ 4 →
      Calls Try.prog 13 #[.agg #[.int .i64 V, .slice x l.length c, .slice xm m.length cm], .slice y 15 d, .agg #[.int .i64 av, .int .i64 aw], .slice z n4 e] W fun e w' => e = .returned (.bool true) ∧ Below W.heap.size W w') := Lib.hid (fun W av aw q z e n4 hW hq e4 h4 => HTO.out W av aw K' q z e 15 n4 (b3.trans (hW.mono b3.size)) HKK.out hq HN.out e4 HN3.out h4 (cl_thousand HKA'.out))
    clear hbo hball hb4 b3 CA2 HST HTO HKK HKA' HN HN3 h15' hd15 hd15' h15 hd hdm hK30 HX HZ A2 B1
    generalize K.length = KL
    cases b with
    | nil =>
      go_wp2_with fail
      refine (awake11_any _).mono ?_
      rintro e w4 ⟨rfl, b4⟩
      obtain ⟨s0, s1, s2⟩ := HST3.out w4 b4
      have T4 := Lib.hid (HTO3.out w4 0 0 [] none 0 0 b4 (.none _ _) rfl (by omega))
      have B4 := Lib.hid (Below.step HBW.out b4 (Nat.le_refl _))
      clear b4 HST3 HTO3 HB
      go_wp2_with fail
      refine T4.out.mono ?_
      rintro e w5 ⟨rfl, b5⟩
      have B5 := Lib.hid (Below.step B4.out b5 (Nat.le_refl _))
      clear b5 T4
      go_wp2_with fail
      go_ret
      exact ⟨rfl, B5.out⟩
    | cons a r =>
      obtain ⟨g, o, rfl, hg, hc⟩ := HB.out.some (by simp)
      obtain ⟨q0, q1⟩ := hc 0 (by simp)
      simp only [Nat.zero_mul, Nat.add_zero, List.getD_cons_zero] at q0 q1
      have hle := HB.out.1
      have hlm := HB.out.2.1
      unfold maxLen at hlm
      rw [List.length_cons] at hle
      have HTL := Lib.hid (ats_tail HB.out)
      have hr4 := HB4.out
      rw [List.length_cons] at hr4
      have HAW : Hid (∀ W, Calls Try.prog 12 #[] W fun e w' => e = .returned (.bool true) ∧ Below W.heap.size W w') := Lib.hid awake11_any
      obtain ⟨av, aw⟩ := a
      simp only at q0 q1
      simp only [List.length_cons]
      obtain ⟨rl, hrl⟩ : ∃ k, k = r.length := ⟨_, rfl⟩
      rw [← hrl] at hle hr4
      rw [← hrl]
      have HRL := Lib.hid hrl.symm
      have p0 : (0 : Int) ≤ (rl : Int) := by omega
      have p1 : (0 : Int) < (rl : Int) + 1 := by omega
      have p2 : (1 : Int) ≤ (rl : Int) + 1 := by omega
      have p3 : 1 ≤ e9 := by omega
      have p4 : (1 : Int) ≤ (e9 : Int) := by omega
      have p5 : (rl : Int) + 1 ≤ (e9 : Int) := by omega
      have p6 : ¬ (rl : Int) + 1 = 0 := by omega
      have HT5 := Lib.hid (fun (W : World) (hW : Below w3.heap.size w3 W) => HTO3.out W av aw r _ (e9 - 1) rl hW ((HTL.out.below hW).weak (fun q hq => Nat.lt_of_lt_of_le hq hW.size)) HRL.out (by omega))
      clear hc hrl HTO3
      go_upto_region 8 with fail
      go_region_law (first
        | (go_simp; go_at_call 12; refine (HAW.out _).mono ?_; rintro e w4 ⟨rfl, b4⟩
           have b4' := bl_drew0 b4
           obtain ⟨s0, s1, s2⟩ := HST3.out w4 b4'
           have q2 := (bcell b4' g o hg).trans q0
           have q3 := (bcell b4' g (o + 1) hg).trans q1
           have T4 := Lib.hid (HT5.out w4 b4')
           have B4 := Lib.hid (Below.step HBW.out b4' (Nat.le_refl _))
           clear b4 b4')
        | (go_simp; go_at_call 13; refine T4.out.mono ?_; rintro e w5 ⟨rfl, b5⟩; have B5 := Lib.hid (Below.step B4.out b5 (Nat.le_refl _)); clear b5))
      all_goals go_wp2_with fail
      all_goals go_ret
      all_goals exact ⟨rfl, B5.out⟩
  · have h15' : ¬ (15 : Int) < (K.length : Int) := by omega
    have HKK := HK0
    have HKA' := HKA
    have hd0 : (K.length : Int) ≤ (d : Int) := by omega
    obtain ⟨K', hK'⟩ : ∃ q, q = K := ⟨_, rfl⟩
    rw [← hK'] at HKK HKA'
    have HN : Hid (K'.length = K.length) := Lib.hid (by rw [hK'])
    clear HK0 HKA hK'
    have HN3 : Hid (K.length ≤ 30) := Lib.hid hK30
    go_wp2_with fail
    generalize K.length = KL at HN HN3 hd hd0 ⊢
    refine CA2.out.mono ?_
    rintro e w3 ⟨b, z, e9, rfl, hbo, hball, hb4, b3⟩
    have B3 := Lib.hid b3
    have HB := Lib.hid (hbo.ats.weak (Q := (· < w3.heap.size)) (fun q hq => hq.2))
    have HB4 := Lib.hid hb4
    have HBW : Hid (Below w.heap.size w w3) := Lib.hid (Below.step (Below.step B1.out A2.out (Nat.le_refl _)) b3 (Nat.le_refl _))
    have HST3 : Hid (∀ W, Below w3.heap.size w3 W → W.cell? ⟨X, 0, none⟩ = some (.int .i64 V) ∧ W.cell? ⟨X, 1, none⟩ = some (.slice x l.length c) ∧ W.cell? ⟨X, 2, none⟩ = some (.slice xm m.length cm)) := Lib.hid (fun W h => HST.out W (A2.out.trans ((b3.trans (h.mono b3.size)).mono A2.out.size)))
    have HTO3 : Hid (∀ (W : World) (av aw : Int) (q : List At) (z : Option Addr) (e n4 : Nat), Below w3.heap.size w3 W → AtsIn W (· < W.heap.size) q z e → q.length = n4 → n4 ≤ 4 →
      Calls Try.prog 13 #[.agg #[.int .i64 V, .slice x l.length c, .slice xm m.length cm], .slice y KL d, .agg #[.int .i64 av, .int .i64 aw], .slice z n4 e] W fun e w' => e = .returned (.bool true) ∧ Below W.heap.size W w') := Lib.hid (fun W av aw q z e n4 hW hq e4 h4 => HTO.out W av aw K' q z e KL n4 (b3.trans (hW.mono b3.size)) HKK.out hq HN.out e4 HN3.out h4 (cl_thousand HKA'.out))
    clear hbo hball hb4 b3 CA2 HST HTO HKK HKA' HN HN3 h15' h15 hd hd0 hdm hK30 HX HZ A2 B1
    cases b with
    | nil =>
      go_wp2_with fail
      refine (awake11_any _).mono ?_
      rintro e w4 ⟨rfl, b4⟩
      obtain ⟨s0, s1, s2⟩ := HST3.out w4 b4
      have T4 := Lib.hid (HTO3.out w4 0 0 [] none 0 0 b4 (.none _ _) rfl (by omega))
      have B4 := Lib.hid (Below.step HBW.out b4 (Nat.le_refl _))
      clear b4 HST3 HTO3 HB
      go_wp2_with fail
      refine T4.out.mono ?_
      rintro e w5 ⟨rfl, b5⟩
      have B5 := Lib.hid (Below.step B4.out b5 (Nat.le_refl _))
      clear b5 T4
      go_wp2_with fail
      go_ret
      exact ⟨rfl, B5.out⟩
    | cons a r =>
      obtain ⟨g, o, rfl, hg, hc⟩ := HB.out.some (by simp)
      obtain ⟨q0, q1⟩ := hc 0 (by simp)
      simp only [Nat.zero_mul, Nat.add_zero, List.getD_cons_zero] at q0 q1
      have hle := HB.out.1
      have hlm := HB.out.2.1
      unfold maxLen at hlm
      rw [List.length_cons] at hle
      have HTL := Lib.hid (ats_tail HB.out)
      have hr4 := HB4.out
      rw [List.length_cons] at hr4
      have HAW : Hid (∀ W, Calls Try.prog 12 #[] W fun e w' => e = .returned (.bool true) ∧ Below W.heap.size W w') := Lib.hid awake11_any
      obtain ⟨av, aw⟩ := a
      simp only at q0 q1
      simp only [List.length_cons]
      obtain ⟨rl, hrl⟩ : ∃ k, k = r.length := ⟨_, rfl⟩
      rw [← hrl] at hle hr4
      rw [← hrl]
      have HRL := Lib.hid hrl.symm
      have p0 : (0 : Int) ≤ (rl : Int) := by omega
      have p1 : (0 : Int) < (rl : Int) + 1 := by omega
      have p2 : (1 : Int) ≤ (rl : Int) + 1 := by omega
      have p3 : 1 ≤ e9 := by omega
      have p4 : (1 : Int) ≤ (e9 : Int) := by omega
      have p5 : (rl : Int) + 1 ≤ (e9 : Int) := by omega
      have p6 : ¬ (rl : Int) + 1 = 0 := by omega
      have HT5 := Lib.hid (fun (W : World) (hW : Below w3.heap.size w3 W) => HTO3.out W av aw r _ (e9 - 1) rl hW ((HTL.out.below hW).weak (fun q hq => Nat.lt_of_lt_of_le hq hW.size)) HRL.out (by omega))
      clear hc hrl HTO3
      go_upto_region 8 with fail
      go_region_law (first
        | (go_simp; go_at_call 12; refine (HAW.out _).mono ?_; rintro e w4 ⟨rfl, b4⟩
           have b4' := bl_drew0 b4
           obtain ⟨s0, s1, s2⟩ := HST3.out w4 b4'
           have q2 := (bcell b4' g o hg).trans q0
           have q3 := (bcell b4' g (o + 1) hg).trans q1
           have T4 := Lib.hid (HT5.out w4 b4')
           have B4 := Lib.hid (Below.step HBW.out b4' (Nat.le_refl _))
           clear b4 b4')
        | (go_simp; go_at_call 13; refine T4.out.mono ?_; rintro e w5 ⟨rfl, b5⟩; have B5 := Lib.hid (Below.step B4.out b5 (Nat.le_refl _)); clear b5))
      all_goals go_wp2_with fail
      all_goals go_ret
      all_goals exact ⟨rfl, B5.out⟩

theorem own : ownKnob Try.prog.godebug = none := by kernel_rfl

set_option maxRecDepth 100000 in
theorem lifted (os : Os) (started : os.Started) (H : Type) (enc : TypeId × Value → H) :
    ReturnsInHanded {} Try.checked os 4 .any (Rows.storeMadeSpec.pre6 enc Try.prog Try.f4 Rows.storeMadeRow.domain false) (Rows.storeMadeSpec.post enc Try.prog Try.f4 false true false false) := by
  refine returnsInHanded_of_change (C := Try.checked) own started (by kernel_rfl) Try.func4
    (ChangeSpec.witness6 (enc := enc) (C := Try.checked) false ⟨#[], #[.int .u8 0, .slice none 0 0, .slice none 0 0, .slice none 0 0], []⟩ 8 (by kernel_rfl) (by kernel_rfl) (by kernel_rfl) (by kernel_rfl)) ?_
  intro W base args ds gs before hval0 hW hcnd _
  have hval : ∀ (j : Nat) t v, Try.f4.params[j]? = some t → args[j]? = some v → Value.okWide Try.prog W .any base t v := hval0
  have hW' := hW
  obtain ⟨p, q, hA0, hV, rfl, hfz, hnd⟩ := hW
  have hA : DataW.TrodAll enc Try.prog W 0 (fun _ => true) true Try.f4.params.toList args.toList ds p := hA0
  rw [Try.params4] at hA hval
  obtain ⟨v0, vs0, d0, ds0, p0, q0, hargs, rfl, rfl, h0, hr0⟩ := trodAll_cons hA
  obtain ⟨v1, vs1, d1, ds1, p1, q1, rfl, rfl, rfl, h1, hr1⟩ := trodAll_cons hr0
  obtain ⟨v2, vs2, d2, ds2, p2, q2, rfl, rfl, rfl, h2, hr2⟩ := trodAll_cons hr1
  obtain ⟨v3, vs3, d3, ds3, p3, q3, rfl, rfl, rfl, h3, hr3⟩ := trodAll_cons hr2
  obtain ⟨rfl, rfl, rfl⟩ := trodAll_nil hr3
  obtain rfl : args = #[v0, v1, v2, v3] := by cases args; simp_all
  obtain ⟨rfl, rfl⟩ := trodVars_none hV
  obtain ⟨N, rfl, rfl, rfl, w0⟩ := open_int Try.underlying5 (hval 0 5 v0 rfl rfl) h0
  obtain ⟨ll, al, cl, rfl, hs1⟩ := h_arg_bytes (hval 1 39 v1 rfl rfl) h1
  obtain ⟨lk, ak, ck, rfl, hs2⟩ := h_arg_bytes (hval 2 39 v2 rfl rfl) h2
  obtain ⟨lb, ab, cb, rfl, hs3⟩ := h_arg_bytes (hval 3 39 v3 rfl rfl) h3
  have hN := h_u8_range w0
  have hlt := hW'.lt
  refine (walk N hN.1 hN.2 ll cl lk ck lb cb W.heap.size al ak ab W hs1 hs2 hs3 (Nat.le_refl _)).mono fun e W' ⟨he, hb⟩ => ?_
  subst he
  have t1 := Below.trod h_laidOut (by kernel_rfl) (of_decide_eq_true (by kernel_rfl)) h1 hb (fun x hx => hlt x (by simp [hx]))
  have t2 := Below.trod h_laidOut (by kernel_rfl) (of_decide_eq_true (by kernel_rfl)) h2 hb (fun x hx => hlt x (by simp [hx]))
  have t3 := Below.trod h_laidOut (by kernel_rfl) (of_decide_eq_true (by kernel_rfl)) h3 hb (fun x hx => hlt x (by simp [hx]))
  exact ⟨_, rfl, ⟨_, _, _, [], _, [], hW', trodAll_mk1 (shut_bool Try.underlying4 _), ⟨_, _, shut_int Try.underlying5 w0, ⟨_, _, t1, trodAll_mk2 t2 t3, rfl⟩, rfl⟩, rfl, hb.frame _, fun h => by cases h⟩⟩

theorem over : Rows.storeMadeRow.holds Try.pinned (OpenSpec.ofChange Rows.storeMadeSpec) :=
  OpenClaim.holds_of_wide 4 Try.f4 rfl rfl rfl rfl rfl rfl rfl ⟨rfl, rfl, rfl, rfl, rfl⟩ rfl rfl rfl rfl rfl (by kernel_rfl) Try.func4 (by kernel_rfl)
    (of_decide_eq_true (by kernel_rfl)) (by unfold Func.isWrapper; first | (rw [if_pos (by decide +kernel)]; kernel_rfl) | (rw [if_neg (by decide +kernel)]; exact ⟨rfl, rfl⟩))
    (fun os started H enc _ => lifted os started H enc)

/-- THE STATEMENT -/
theorem proved : Rows.StoreMadeSaid :=
  over
#print axioms proved
end Go.Proofs.Ytglggigndhbpcaa.storeMade
