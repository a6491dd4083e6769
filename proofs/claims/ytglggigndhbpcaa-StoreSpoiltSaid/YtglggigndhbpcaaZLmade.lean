/- The contract of the law's maker of a store by numbers: it makes a right one, of at most fifteen clauses, in memory of its own. Condition: the numbers lie in memory. -/
import Derived.Test.YtglggigndhbpcaaZLro
import Derived.Test.YtglggigndhbpcaaZLn
import Derived.Test.YtglggigndhbpcaaZHmade
import Derived.Deep.RegionLaw
namespace Go.Proofs.Ytglggigndhbpcaa
open Go.RowKit

/-- What Made answers. -/
def MsPost (V : Nat) (w : World) (e : Ending) (w' : World) : Prop :=
  ∃ (l : List Cl) (m : List Int) (x : Option Addr) (c : Nat) (xm : Option Addr) (cm : Nat), e = .returned (.agg #[.int .i64 V, .slice x l.length c, .slice xm m.length cm]) ∧ StOwn w' (w.heap.size + 1) l x c m xm cm ∧ rgS V l m = true ∧ l.length ≤ 15 ∧ Below w.heap.size w w'
/-- The state: so many clauses have been tried. -/
def MsSt (w : World) (X V j : Nat) (W : World) : Prop :=
  ∃ (l : List Cl) (m : List Int) (x : Option Addr) (c : Nat) (xm : Option Addr) (cm : Nat), BxS W w.heap.size (.int .i64 0) (.slice none 0 0) (.slice none 0 0) ∧ BxS W X (.int .i64 V) (.slice x l.length c) (.slice xm m.length cm) ∧ w.heap.size < X ∧ StOwn W (w.heap.size + 1) l x c m xm cm ∧ rgS V l m = true ∧ l.length ≤ j ∧ Below w.heap.size w W
theorem rgS_bd {V : Nat} {l : List Cl} {m : List Int} (h : rgS V l m = true) : m.length = V ∧ l.length ≤ 60 ∧ (∀ c ∈ l, c.1.length ≤ 6) ∧ hrB V l = true ∧ 1 ≤ V ∧ V ≤ 16 ∧ natsB m = true := by
  obtain ⟨hp, rfl⟩ := rgS_of h
  obtain ⟨V', e, h1, h2, hr, _, hl, hn⟩ := lm_of hp
  obtain rfl : V = V' := by omega
  obtain ⟨_, _, h3, h4⟩ := hrB_of hr
  exact ⟨hl, h3, fun c hc => (frB_of (clB_of (List.all_eq_true.1 h4 c hc)).2.1).2, hr, h1, h2, hn⟩
/-- A part of a row: one clause. -/
theorem cls_part {w : World} {P : Nat → Prop} {l : List Cl} {b o cap : Nat} (h : ClsIn w P l (.some ⟨b, o, none⟩) cap) {i : Nat} (hi : i < l.length) {d : Nat} (hd : 1 ≤ d) (hd2 : d ≤ cap) : ClsIn w P [l.getD i cl0] (.some ⟨b, o + i * 3, none⟩) d := by
  obtain ⟨b', o', e, hb, hf⟩ := h.some (by omega)
  cases e
  refine ⟨hd, Nat.le_trans hd2 h.2.1, (fun e => by cases e), fun _ => ⟨b, o + i * 3, rfl, hb, fun k hk => ?_⟩⟩
  have hk0 : k = 0 := by simp at hk; exact hk
  subst hk0
  exact hf i hi
theorem add_one_len {vars : Int} {l : List Cl} {m : List Int} {c : Cl} {j : Nat} (h : l.length ≤ j) : (addL vars l m [c]).length ≤ j + 1 := Nat.le_trans addL_len (by simp; omega)
theorem MsSt.below {w W W' : World} {X V j : Nat} (h : MsSt w X V j W) (hb : Below W.heap.size W W') : MsSt w X V j W' := by
  obtain ⟨l, m, x, c, xm, cm, h0, hX, h1, hs, hr, hl, hbw⟩ := h
  exact ⟨l, m, x, c, xm, cm, (hb.block _ (lt_of_block h0)).trans h0, (hb.block _ (lt_of_block hX)).trans hX, h1, hs.below hb, hr, hl, Below.step hbw hb (Nat.le_refl _)⟩
/-- One clause more is tried. -/
theorem MsSt.next {w W W3 : World} {X V j : Nat} {l : List Cl} {m : List Int} {c3 cm3 : Nat} {x3 xm3 : Option Addr} (h0 : BxS W w.heap.size (.int .i64 0) (.slice none 0 0) (.slice none 0 0)) {a b z : Value} (hX : BxS W X a b z) (hwX : w.heap.size < X) (hb : Below w.heap.size w W) (hb3 : Below W.heap.size W W3) (hs : StOwn W3 W.heap.size l x3 c3 m xm3 cm3) (hr : rgS V l m = true) (hl : l.length ≤ j) :
    BxS W3 X a b z ∧ Hid (MsSt w X V j (((W3.setCell ⟨X, 0, none⟩ (.int .i64 V)).setCell ⟨X, 1, none⟩ (.slice x3 l.length c3)).setCell ⟨X, 2, none⟩ (.slice xm3 m.length cm3))) := by
  have hXl := lt_of_block hX
  have hX3 : BxS W3 X a b z := (hb3.block X hXl).trans hX
  have h03 : BxS W3 w.heap.size _ _ _ := (hb3.block _ (by omega)).trans h0
  exact ⟨hX3, Lib.hid ⟨l, m, x3, c3, xm3, cm3, (set3_old _ _ _ _ _ (by omega)).trans h03, hX3.set3 _ _ _, hwX, (hs.set3 hXl _ _ _).low (by omega), hr, hl, (((Below.step hb hb3 (Nat.le_refl _)).setCell (p := ⟨X, 0, none⟩) (by show w.heap.size ≤ X; omega) _).setCell (p := ⟨X, 1, none⟩) (by show w.heap.size ≤ X; omega) _).setCell (p := ⟨X, 2, none⟩) (by show w.heap.size ≤ X; omega) _⟩⟩
/-- The end. -/
theorem MsSt.fin {w W : World} {X V j : Nat} (h : MsSt w X V j W) (hj : j ≤ 15) :
    ∃ (l : List Cl) (m : List Int) (x : Option Addr) (c : Nat) (xm : Option Addr) (cm : Nat), BxS W X (.int .i64 V) (.slice x l.length c) (.slice xm m.length cm) ∧ BxS W w.heap.size (.int .i64 0) (.slice none 0 0) (.slice none 0 0) ∧
      Hid (MsPost V w (.returned (.agg #[.int .i64 V, .slice x l.length c, .slice xm m.length cm])) (((W.setCell ⟨w.heap.size, 0, none⟩ (.int .i64 V)).setCell ⟨w.heap.size, 1, none⟩ (.slice x l.length c)).setCell ⟨w.heap.size, 2, none⟩ (.slice xm m.length cm))) ∧
      Hid (BxS (((W.setCell ⟨w.heap.size, 0, none⟩ (.int .i64 V)).setCell ⟨w.heap.size, 1, none⟩ (.slice x l.length c)).setCell ⟨w.heap.size, 2, none⟩ (.slice xm m.length cm)) w.heap.size (.int .i64 V) (.slice x l.length c) (.slice xm m.length cm)) := by
  obtain ⟨l, m, x, c, xm, cm, h0, hX, _, hs, hr, hl, hb⟩ := h
  exact ⟨l, m, x, c, xm, cm, hX, h0, Lib.hid ⟨l, m, x, c, xm, cm, rfl, hs.set3 (by omega) _ _ _, hr, by omega, ((hb.setCell (p := ⟨_, 0, none⟩) (Nat.le_refl _) _).setCell (p := ⟨_, 1, none⟩) (Nat.le_refl _) _).setCell (p := ⟨_, 2, none⟩) (Nat.le_refl _) _⟩, Lib.hid (h0.set3 _ _ _)⟩
theorem MsSt.start {w w0 w1 : World} {V : Nat} {x : Option Addr} {c : Nat} (h1 : 1 ≤ V) (h2 : V ≤ 16) (h0 : BxS w0 w.heap.size (.int .i64 0) (.slice none 0 0) (.slice none 0 0)) (hb0 : Below w.heap.size w w0) (hi : IOwn w1 (w0.heap.size + 1) (.slice x (zerosJ V).length c) (zerosJ V)) (hb : Below w0.heap.size w0 w1) :
    Hid (MsSt w w1.heap.size V 0 (w1.alloc (.cells #[.int .i64 V, .slice none 0 0, .slice x V c] 25))) := by
  have hl := lt_of_block h0
  have hz := hb.size
  have hn := new_right (vars := V) ⟨by omega, by omega⟩
  have hr := hn.2.2
  rw [hn.1] at hr
  have e : (zerosJ V).length = V := zerosJ_len _
  refine Lib.hid ⟨[], zerosJ V, none, 0, x, c, (heap_old _ _ (by omega)).trans ((hb.block _ hl).trans h0), ?_, by omega, ⟨w1.heap.size, by omega, by simp, (hi.low (by omega)).keep (fun g hg => heap_old _ _ (hi.lt g hg).2), fun g hg => (hi.lt g hg).2, COwn.nil _ _⟩, hr, Nat.zero_le _, ?_⟩
  · rw [e]; exact heap_new _ _
  · exact (Below.step hb0 hb (by omega)).alloc (by omega) _
theorem six_le {V : Nat} {l : List Cl} {m : List Int} (h : rgS V l m = true) : ∀ c ∈ l, c.1.length ≤ 1000 := fun c hc => Nat.le_trans ((rgS_bd h).2.2.1 c hc) (by omega)
theorem cl_six {V : Nat} {K : List Cl} (h : K.all (clB V) = true) {j : Nat} (hj : j < K.length) : ∀ c ∈ [K.getD j cl0], c.1.length ≤ 1000 := fun c hc => by
  rw [List.mem_singleton.1 hc]
  have := (frB_of (clB_of (all_getD h cl0 hj)).2.1).2
  omega
set_option maxRecDepth 100000 in
set_option maxHeartbeats 8000000 in
theorem made11_any (n : Int) (h0 : 0 ≤ n) (h1 : n < 256) (len cap B : Nat) (a : Option Addr) (w : World) (hin : ByIn w (· < B) len a cap) (hB : B ≤ w.heap.size) :
    Calls Try.prog 14 #[.int .u8 n, .slice a len cap] w (MsPost (varsN n) w) := by
  have CM := Lib.hid (fun W (h : Below w.heap.size w W) => made8_any n h0 h1 len cap B a W (hin.below (h.mono hB)) (Nat.le_trans hB h.size))
  have CV := Lib.hid (fun W => vars8_any n h0 h1 W)
  obtain ⟨hV1, hV2⟩ := varsN_bd n
  generalize varsN n = V at CM CV hV1 hV2 ⊢
  have hv1 : (1 : Int) ≤ V ∧ (V : Int) ≤ 16 := by omega
  have HST := Lib.hid (fun (w1 : World) (x : Option Addr) (c : Nat) => @MsSt.start w (w.alloc (.cells #[.int .i64 0, .slice none 0 0, .slice none 0 0] 25)) w1 V x c (by omega) (by omega) (heap_new _ _) ((Below.refl _ _).alloc (Nat.le_refl _) _))
  have CN : Hid (∀ W, Calls Try.prog 9 #[.int .i64 V] W (fun e w' => ∃ x c, e = .returned (.tuple #[.agg #[.int .i64 V, .slice none 0 0, .slice x V c], .int .i64 0]) ∧ IOwn w' (W.heap.size + 1) (.slice x (zerosJ V).length c) (zerosJ V) ∧ Below W.heap.size W w')) := Lib.hid (fun W => by
    have := r11New_any V W
    refine this.mono ?_
    rintro e w' ⟨x, c, rfl, hi, hb⟩
    have hn := new_right hv1
    rw [hn.1] at hi ⊢
    rw [hn.2.1]
    have e : (zerosJ (V : Int).toNat).length = V := zerosJ_len _
    exact ⟨x, c, by rw [e], hi, hb⟩)
  clear hin
  go_enter Try.func14, Try.ntmps14
  go_wp2_with fail
  refine (CV.out _).mono ?_
  rintro e w' ⟨rfl, rfl⟩
  go_wp2_with fail
  refine (CN.out _).mono ?_
  rintro e w1 ⟨x, c, rfl, hi, hb⟩
  have HS := HST.out w1 x c hi hb
  have HB1 : Hid (Below w.heap.size w (w1.alloc (.cells #[.int .i64 V, .slice none 0 0, .slice x V c] 25))) := Lib.hid (by
    have : Below w.heap.size w w1 := ((Below.refl _ _).alloc (Nat.le_refl _) _).trans (hb.mono (by simp))
    exact this.alloc this.size _)
  clear hi hb HST CN
  have CM1 := Lib.hid (CM.out _ HB1.out)
  go_wp2_with fail
  refine CM1.out.mono ?_
  rintro e w2 ⟨K, y, d, rfl, hK, hKall, hK30, b2⟩
  have HK : Hid (ClsIn w2 (fun b => w1.heap.size < b ∧ b < w2.heap.size) K y d) := Lib.hid (hK.cls.weak (fun b hb => ⟨by have := hb.1; simp at this; omega, hb.2⟩))
  have HS2 : Hid (MsSt w w1.heap.size V 0 w2) := Lib.hid (HS.out.below b2)
  have HALL := Lib.hid hKall
  generalize w1.heap.size = X at HK HS2 ⊢
  clear hK hKall hK30 b2 CM CM1 HS HB1 CV
  go_wp2_with fail
  go_loopw [8] (fun iv wr => ∃ j : Nat, iv = .int .i64 j ∧ j ≤ K.length ∧ j ≤ 15 ∧ Hid (MsSt w X V j wr) ∧ Hid (ClsIn wr (fun b => X < b ∧ b < wr.heap.size) K y d)) (fun iv _ => 15 - (intOf iv).toNat)
  case atStart => exact ⟨0, rfl, Nat.zero_le _, Nat.zero_le _, HS2, HK⟩
  case round =>
    obtain ⟨j, rfl, hj, hj15, hS, hC⟩ := hrel
    by_cases hlt : j < K.length ∧ j < 15
    · obtain ⟨hl1, hl2⟩ := hlt
      have hl1' : (j : Int) < (K.length : Int) := by omega
      have hl2' : (j : Int) < 15 := by omega
      have hj0 : (0 : Int) ≤ (j : Int) := by omega
      have d1 : decide (j < K.length) = true := by simpa using hl1
      obtain ⟨b, o, rfl, _, _⟩ := hC.out.some (by omega)
      have hd := hC.out.1
      have hdl := hC.out.2.1
      obtain ⟨l, m, x3, c3, xm3, cm3, r0, rX, hwX, rs, rr, rl, rb⟩ := hS.out
      have c0 := cell_at rX 0
      have c1 := cell_at rX 1
      have c2 := cell_at rX 2
      simp at c0 c1 c2
      have hXl := lt_of_block rX
      have hbd := rgS_bd rr
      have HP : Hid (Calls Try.prog 25 #[.agg #[.int .i64 V, .slice x3 l.length c3, .slice xm3 m.length cm3], .slice (some ⟨b, o + j * 3, none⟩) 1 (d - j)] wr.drew (RaP V (addL V l m [K.getD j cl0]) (addM V l m [K.getD j cl0]) (addC V l m [K.getD j cl0]) (addE V l m [K.getD j cl0]) wr.drew)) :=
        Lib.hid (r11Add_any V l [K.getD j cl0] m x3 xm3 _ c3 cm3 (d - j) wr.heap.size wr.drew (rs.cls.keep (fun _ _ => rfl)) (rs.ints.keep (fun _ _ => rfl)) (((cls_part hC.out hl1 (by omega) (by omega)).weak (fun b hb => hb.2)).keep (fun _ _ => rfl)) (Nat.le_refl _) (by omega) (by omega) (by simp) (six_le rr) (cl_six HALL.out hl1))
      have HN : Hid (∀ (w3 : World) (x' xm' : Option Addr) (c' cm' : Nat), Below wr.drew.heap.size wr.drew w3 → StOwn w3 wr.drew.heap.size (addL V l m [K.getD j cl0]) x' c' (addM V l m [K.getD j cl0]) xm' cm' →
          BxS w3 X (.int .i64 V) (.slice x3 l.length c3) (.slice xm3 m.length cm3) ∧ Hid (MsSt w X V (j + 1) (((w3.setCell ⟨X, 0, none⟩ (.int .i64 V)).setCell ⟨X, 1, none⟩ (.slice x' (addL V l m [K.getD j cl0]).length c')).setCell ⟨X, 2, none⟩ (.slice xm' (addM V l m [K.getD j cl0]).length cm'))) ∧
          Hid (ClsIn (((w3.setCell ⟨X, 0, none⟩ (.int .i64 V)).setCell ⟨X, 1, none⟩ (.slice x' (addL V l m [K.getD j cl0]).length c')).setCell ⟨X, 2, none⟩ (.slice xm' (addM V l m [K.getD j cl0]).length cm')) (fun b => X < b ∧ b < (((w3.setCell ⟨X, 0, none⟩ (.int .i64 V)).setCell ⟨X, 1, none⟩ (.slice x' (addL V l m [K.getD j cl0]).length c')).setCell ⟨X, 2, none⟩ (.slice xm' (addM V l m [K.getD j cl0]).length cm')).heap.size) K (some ⟨b, o, none⟩) d)) := Lib.hid (fun w3 x' xm' c' cm' h1 h2 => by
        have hb3 : Below wr.heap.size wr w3 := (Below.refl _ _).drew.trans h1
        obtain ⟨k1, k2⟩ := MsSt.next r0 rX hwX rb hb3 h2 (add_right rr) (add_one_len rl)
        exact ⟨k1, k2, Lib.hid ((hC.out.keep (fun q hq => (set3_old _ _ _ _ _ (by omega)).trans (hb3.block q hq.2))).weak (fun q hq => ⟨hq.1, by have := hb3.size; simp; omega⟩))⟩)
      generalize addL V l m [K.getD j cl0] = L at HP HN
      generalize addM V l m [K.getD j cl0] = M at HP HN
      generalize addC V l m [K.getD j cl0] = C at HP
      generalize addE V l m [K.getD j cl0] = E at HP
      clear r0 rX rs rr rl rb hbd hS hC
      have hdn : ¬ d = j := by omega
      have q1 : (j : Int) ≤ (d : Int) := by omega
      have q2 : (j : Int) ≤ (K.length : Int) := by omega
      have q3 : (j : Int) + 1 ≤ (K.length : Int) := by omega
      have q4 : (0 : Int) ≤ (j : Int) + 1 := by omega
      have q5 : (j : Int) + 1 ≤ (d : Int) := by omega
      have hc0 : ¬ d = 0 := by omega
      have hw1 : IntKind.i64.wrap ((j : Int) + 1) = (j : Int) + 1 := IntWalk.i64_in _ (by omega)
      go_upto_region 6 with fail
      go_region_law (go_simp; go_at_call 25; refine HP.out.mono ?_; rintro e w3 ⟨x', c', xm', cm', xp, cp, rfl, o3, _, b3⟩; obtain ⟨n1, N2, N3⟩ := HN.out w3 x' xm' c' cm' b3 o3; have e0 := cell_at n1 0; have e1 := cell_at n1 1; have e2 := cell_at n1 2; have e3 := free_of n1; simp at e0 e1 e2; clear n1 o3 b3)
      clear hw1
      all_goals go_wp2_with fail
      all_goals go_roundw
      case rel => exact ⟨j + 1, by go_num, by omega, by omega, N2, N3⟩
      case measure => simp [intOf]; omega
    · obtain ⟨l, m, x3, c3, xm3, cm3, rX, r0, HE, HQ⟩ := hS.out.fin hj15
      have c0 := cell_at rX 0
      have c1 := cell_at rX 1
      have c2 := cell_at rX 2
      have n0 := cell_at r0 0
      have n1 := cell_at r0 1
      have n2 := cell_at r0 2
      have nz := free_of r0
      simp at c0 c1 c2 n0 n1 n2
      have hcase : j = K.length ∨ (j < K.length ∧ j = 15) := by
        by_cases h : j < K.length
        · exact .inr ⟨h, by omega⟩
        · exact .inl (by omega)
      clear hlt rX r0 hS hC
      have e0 := cell_at HQ.out 0
      have e1 := cell_at HQ.out 1
      have e2 := cell_at HQ.out 2
      simp at e0 e1 e2
      rcases hcase with rfl | ⟨hl1, rfl⟩
      · go_wp2_with fail
        refine bodyPost_ret (v := .agg #[.int .i64 V, .slice x3 l.length c3, .slice xm3 m.length cm3]) (by simp [results, Try.f14, go_sem, e0, e1, e2]) rfl ?_
        exact HE.out
      · have hl1' : ((15 : Nat) : Int) < (K.length : Int) := by omega
        go_wp2_with fail
        refine bodyPost_ret (v := .agg #[.int .i64 V, .slice x3 l.length c3, .slice xm3 m.length cm3]) (by simp [results, Try.f14, go_sem, e0, e1, e2]) rfl ?_
        exact HE.out
end Go.Proofs.Ytglggigndhbpcaa
