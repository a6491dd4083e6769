/- The contract of the law's own comparison of what is told of a store: it returns true. Condition: all lies in memory; at most 1000 clauses in all, 900 values, 1000 atoms, and atoms of each clause. -/
import Derived.Test.YtglggigndhbpcaaZLro
import Derived.Test.YtglggigndhbpcaaZLrsame
import Derived.Test.YtglggigndhbpcaaZLfol
import Derived.Test.YtglggigndhbpcaaZLg
import Derived.Deep.RegionHeld3
namespace Go.Proofs.Ytglggigndhbpcaa
open Go.RowKit

set_option maxRecDepth 100000 in
set_option maxHeartbeats 8000000 in
theorem told11_any (vars av aw : Int) (l k : List Cl) (b : List At) (m : List Int) (a am ak ab : Option Addr) (cap cm ck cb B : Nat) (w : World) (hin : ClsIn w (· < B) l a cap) (him : IntsIn w (· < B) m am cm) (hik : ClsIn w (· < B) k ak ck) (hib : AtsIn w (· < B) b ab cb) (hB : B ≤ w.heap.size) (hl : l.length + k.length ≤ 1000) (hm : m.length ≤ 900) (hb : b.length ≤ 1000) (hf : ∀ c ∈ l, c.1.length ≤ 1000) (hfk : ∀ c ∈ k, c.1.length ≤ 1000) :
    Calls Try.prog 13 #[.agg #[.int .i64 vars, .slice a l.length cap, .slice am m.length cm], .slice ak k.length ck, .agg #[.int .i64 av, .int .i64 aw], .slice ab b.length cb] w fun e w' => e = .returned (.bool true) ∧ Below w.heap.size w w' := by
  have HLe : ∀ {W : World}, Below w.heap.size w W → B ≤ W.heap.size := fun h => Nat.le_trans hB h.size
  have C1 := Lib.hid (fun (W : World) (h : Below w.heap.size w W) => sAdd_any vars l k m a am ak cap cm ck B W (hin.below (h.mono hB)) (him.below (h.mono hB)) (hik.below (h.mono hB)) (HLe h) hl hm hf hfk)
  have C2 := Lib.hid (fun (W : World) (h : Below w.heap.size w W) => r11Add_any vars l k m a am ak cap cm ck B W (hin.below (h.mono hB)) (him.below (h.mono hB)) (hik.below (h.mono hB)) (HLe h) (by omega) (by omega) (by omega) hf hfk)
  have C3 := Lib.hid (fun (W : World) (h : Below w.heap.size w W) => sFollows_any vars av aw l b m a am ab cap cm cb B W (hin.below (h.mono hB)) (him.below (h.mono hB)) (hib.below (h.mono hB)) (HLe h) (by omega) hb)
  have C4 := Lib.hid (fun (W : World) (h : Below w.heap.size w W) => r11Follows_any vars av aw l b m a am ab cap cm cb B W (hin.below (h.mono hB)) (him.below (h.mono hB)) (hib.below (h.mono hB)) (HLe h) (by omega) (by omega) hb hf)
  have C5 := Lib.hid (fun (W : World) (h : Below w.heap.size w W) => sRight_any vars l m a am cap cm B W (hin.below (h.mono hB)) (him.below (h.mono hB)) (HLe h))
  have C6 := Lib.hid (fun (W : World) (h : Below w.heap.size w W) => r11Right_any vars l m a am cap cm B W (hin.below (h.mono hB)) (him.below (h.mono hB)) (HLe h))
  generalize addL vars l m k = L at C1 C2
  generalize addM vars l m k = M at C1 C2
  generalize addC vars l m k = C at C1 C2
  generalize addE vars l m k = E at C1 C2
  generalize folB vars l m (av, aw) b = R at C3 C4
  generalize folE vars l m (av, aw) b = F at C3 C4
  generalize rgS vars l m = V at C5 C6
  have hbw : Below w.heap.size w ((w.alloc (.cells #[.int .i64 vars, .slice a l.length cap, .slice am m.length cm] 25)).alloc (.cells #[.int .i64 av, .int .i64 aw] 27)) := ((Below.refl _ _).alloc (Nat.le_refl _) _).alloc (by simp) _
  obtain ⟨W0, hW0⟩ : ∃ W, W = (w.alloc (.cells #[.int .i64 vars, .slice a l.length cap, .slice am m.length cm] 25)).alloc (.cells #[.int .i64 av, .int .i64 aw] 27) := ⟨_, rfl⟩
  have HS0 : Hid (W0.heap.size = w.heap.size + 1 + 1) := Lib.hid (by rw [hW0]; simp)
  have Q0 : Hid (W0.heap[w.heap.size]? = some (.cells #[.int .i64 vars, .slice a l.length cap, .slice am m.length cm] 25 (0, 0))) := Lib.hid (by
    rw [hW0]; exact (heap_old _ _ (by simp)).trans (heap_new w _))
  have Q1 : Hid (W0.heap[w.heap.size + 1]? = some (.cells #[.int .i64 av, .int .i64 aw] 27 (0, 0))) := Lib.hid (by
    rw [hW0]
    have := heap_new (w.alloc (.cells #[.int .i64 vars, .slice a l.length cap, .slice am m.length cm] 25)) (.cells #[.int .i64 av, .int .i64 aw] 27)
    rwa [World.size_alloc] at this)
  rw [← hW0] at hbw
  have HB0 := Lib.hid hbw
  have C10 := Lib.hid (C1.out W0 hbw)
  clear hin him hik hib hB hl hm hb hf hfk HLe C1 hbw
  rw [hW0] at C10
  go_enter Try.func13, Try.ntmps13
  go_wp2_with fail
  refine C10.out.mono ?_
  rintro e w1 ⟨x1, c1, xm1, cm1, xp1, cp1, rfl, hL1, hM1, hC1, b1⟩
  rw [← hW0] at b1
  have B1 : Hid (Below W0.heap.size W0 (w1.alloc (.cells #[.int .i64 vars, .slice x1 L.length c1, .slice xm1 M.length cm1] 25))) := Lib.hid (b1.alloc b1.size _)
  have HL1 := Lib.hid hL1
  have HM1 := Lib.hid hM1
  have HC1 := Lib.hid hC1
  have HB1 := Lib.hid b1
  have q0 := (B1.out.block w.heap.size (by have := HS0.out; omega)).trans Q0.out
  have p0 := cell_at q0 0
  have p1 := cell_at q0 1
  have p2 := cell_at q0 2
  simp at p0 p1 p2
  have HZ1 : Hid (W0.heap.size ≤ w1.heap.size) := Lib.hid b1.size
  clear hL1 hM1 hC1 b1 q0 hW0 C10 HB1
  have C20 := Lib.hid (C2.out _ (HB0.out.trans (B1.out.mono HB0.out.size)))
  go_wp2_with fail
  refine C20.out.mono ?_
  rintro e w2 ⟨x2, c2, xm2, cm2, xp2, cp2, rfl, hst, hC2, b2⟩
  have HB2 : Hid (Below W0.heap.size W0 (w2.alloc (.cells #[.int .i64 vars, .slice x2 L.length c2, .slice xm2 M.length cm2] 25))) := Lib.hid ((B1.out.trans (b2.mono B1.out.size)).alloc (Nat.le_trans B1.out.size b2.size) _)
  have HL2 := Lib.hid hst.cls
  have HM2 := Lib.hid hst.ints
  have HC2 := Lib.hid hC2
  have B12 : Hid (Below w1.heap.size w1 w2) := Lib.hid (((Below.refl _ _).alloc (Nat.le_refl _) _).trans (b2.mono (by simp)))
  have T1 : Hid (w2.heap[w1.heap.size]? = some (.cells #[.int .i64 vars, .slice x1 L.length c1, .slice xm1 M.length cm1] 25 (0, 0))) := Lib.hid ((b2.block w1.heap.size (by simp)).trans (heap_new w1 _))
  have T2 : Hid ((w2.alloc (.cells #[.int .i64 vars, .slice x2 L.length c2, .slice xm2 M.length cm2] 25)).heap[w2.heap.size]? = some (.cells #[.int .i64 vars, .slice x2 L.length c2, .slice xm2 M.length cm2] 25 (0, 0))) := Lib.hid (heap_new w2 _)
  have q0 := (HB2.out.block w.heap.size (by have := HS0.out; omega)).trans Q0.out
  have q1 := (HB2.out.block (w.heap.size + 1) (by have := HS0.out; omega)).trans Q1.out
  have p0 := cell_at q0 0
  have p1 := cell_at q0 1
  have p2 := cell_at q0 2
  have p3 := cell_at q1 0
  have p4 := cell_at q1 1
  simp at p0 p1 p2 p3 p4
  have C30 := Lib.hid (C3.out _ (HB0.out.trans (HB2.out.mono HB0.out.size)))
  clear hst hC2 b2 q0 q1 C20
  go_wp2_with fail
  refine C30.out.mono ?_
  rintro e w3 ⟨rfl, b3⟩
  have HB3 : Hid (Below W0.heap.size W0 w3) := Lib.hid (HB2.out.trans (b3.mono HB2.out.size))
  have B23 := Lib.hid b3
  have q0 := (HB3.out.block w.heap.size (by have := HS0.out; omega)).trans Q0.out
  have q1 := (HB3.out.block (w.heap.size + 1) (by have := HS0.out; omega)).trans Q1.out
  have p0 := cell_at q0 0
  have p1 := cell_at q0 1
  have p2 := cell_at q0 2
  have p3 := cell_at q1 0
  have p4 := cell_at q1 1
  simp at p0 p1 p2 p3 p4
  have C40 := Lib.hid (C4.out _ (HB0.out.trans (HB3.out.mono HB0.out.size)))
  clear b3 q0 q1 C30
  go_wp2_with fail
  refine C40.out.mono ?_
  rintro e w4 ⟨rfl, b4⟩
  have HB4 : Hid (Below W0.heap.size W0 w4) := Lib.hid (HB3.out.trans (b4.mono HB3.out.size))
  have B24 : Hid (Below (w2.alloc (.cells #[.int .i64 vars, .slice x2 L.length c2, .slice xm2 M.length cm2] 25)).heap.size (w2.alloc (.cells #[.int .i64 vars, .slice x2 L.length c2, .slice xm2 M.length cm2] 25)) w4) := Lib.hid (B23.out.trans (b4.mono B23.out.size))
  clear b4 C40 C2 C3 C4 p0 p1 p2 p3 p4
  have HW24 : Hid (Below w2.heap.size w2 w4) := Lib.hid (((Below.refl _ _).alloc (Nat.le_refl _) _).trans (B24.out.mono (by simp)))
  have T14 : Hid (w4.heap[w1.heap.size]? = some (.cells #[.int .i64 vars, .slice x1 L.length c1, .slice xm1 M.length cm1] 25 (0, 0))) := Lib.hid ((HW24.out.block _ (lt_of_block T1.out)).trans T1.out)
  have T24 : Hid (w4.heap[w2.heap.size]? = some (.cells #[.int .i64 vars, .slice x2 L.length c2, .slice xm2 M.length cm2] 25 (0, 0))) := Lib.hid ((B24.out.block _ (lt_of_block T2.out)).trans T2.out)
  have T04 : Hid (w4.heap[w.heap.size]? = some (.cells #[.int .i64 vars, .slice a l.length cap, .slice am m.length cm] 25 (0, 0))) := Lib.hid ((HB4.out.block w.heap.size (by have := HS0.out; omega)).trans Q0.out)
  have HSS : Hid (∀ W, Below w4.heap.size w4 W → Hid (Below w4.heap.size w4 W) ∧ W.cell? ⟨w.heap.size, 0, none⟩ = some (.int .i64 vars) ∧ W.cell? ⟨w.heap.size, 1, none⟩ = some (.slice a l.length cap) ∧ W.cell? ⟨w.heap.size, 2, none⟩ = some (.slice am m.length cm) ∧
      W.cell? ⟨w1.heap.size, 0, none⟩ = some (.int .i64 vars) ∧ W.cell? ⟨w1.heap.size, 1, none⟩ = some (.slice x1 L.length c1) ∧ W.cell? ⟨w1.heap.size, 2, none⟩ = some (.slice xm1 M.length cm1) ∧
      W.cell? ⟨w2.heap.size, 0, none⟩ = some (.int .i64 vars) ∧ W.cell? ⟨w2.heap.size, 1, none⟩ = some (.slice x2 L.length c2) ∧ W.cell? ⟨w2.heap.size, 2, none⟩ = some (.slice xm2 M.length cm2)) := Lib.hid (fun W hW => by
    have h0 := (hW.block _ (lt_of_block T04.out)).trans T04.out
    have h1 := (hW.block _ (lt_of_block T14.out)).trans T14.out
    have h2 := (hW.block _ (lt_of_block T24.out)).trans T24.out
    exact ⟨Lib.hid hW, cell_at h0 0, cell_at h0 1, cell_at h0 2, cell_at h1 0, cell_at h1 1, cell_at h1 2, cell_at h2 0, cell_at h2 1, cell_at h2 2⟩)
  have CS := Lib.hid (fun (W : World) (h : Below w4.heap.size w4 W) => by
    have hA : Below w2.heap.size w2 W := HW24.out.trans (h.mono HW24.out.size)
    have hB1 : Below w1.heap.size w1 W := B12.out.trans (hA.mono B12.out.size)
    exact r11Same_yes vars L M x1 xm1 x2 xm2 c1 cm1 c2 cm2 w2.heap.size W ((HL1.out.below hB1).mono B12.out.size) (HL2.out.below hA) ((HM1.out.below hB1).mono B12.out.size) (HM2.out.below hA) hA.size)
  have CI := Lib.hid (fun (W : World) (h : Below w4.heap.size w4 W) => by
    have hA : Below w2.heap.size w2 W := HW24.out.trans (h.mono HW24.out.size)
    have hB1 : Below w1.heap.size w1 W := B12.out.trans (hA.mono B12.out.size)
    have := ints8_any C C xp1 xp2 cp1 cp2 w2.heap.size W ((HC1.out.below hB1).mono B12.out.size) (HC2.out.below hA) hA.size
    rwa [show eqI C C = true from decide_eq_true rfl] at this)
  have C50 := Lib.hid (fun (W : World) (h : Below w4.heap.size w4 W) => C5.out W (HB0.out.trans ((HB4.out.trans (h.mono HB4.out.size)).mono HB0.out.size)))
  have C60 := Lib.hid (fun (W : World) (h : Below w4.heap.size w4 W) => C6.out W (HB0.out.trans ((HB4.out.trans (h.mono HB4.out.size)).mono HB0.out.size)))
  have HE : Hid (∀ W, Below w4.heap.size w4 W → Below w.heap.size w W) := Lib.hid (fun W h => HB0.out.trans ((HB4.out.trans (h.mono HB4.out.size)).mono HB0.out.size))
  obtain ⟨_, s0, s1, s2, s3, s4, s5, s6, s7, s8⟩ := HSS.out w4 (Below.refl _ _)
  have d1 : (E == E) = true := by simp
  have d2 : (R == R) = true := by simp
  have d3 : (F == F) = true := by simp
  clear C5 C6 T1 T2 T14 T24 T04 HL1 HM1 HC1 HL2 HM2 HC2 Q0 Q1 B12 B23 B24 HW24 HB2 HB3 HB4 B1 HS0 HZ1
  cases V <;>
  · go_wp2_with fail
    go_region_held3 (fun w' => Hid (Below w4.heap.size w4 w') ∧ w'.cell? ⟨w.heap.size, 0, none⟩ = some (.int .i64 vars) ∧ w'.cell? ⟨w.heap.size, 1, none⟩ = some (.slice a l.length cap) ∧ w'.cell? ⟨w.heap.size, 2, none⟩ = some (.slice am m.length cm) ∧
        w'.cell? ⟨w1.heap.size, 0, none⟩ = some (.int .i64 vars) ∧ w'.cell? ⟨w1.heap.size, 1, none⟩ = some (.slice x1 L.length c1) ∧ w'.cell? ⟨w1.heap.size, 2, none⟩ = some (.slice xm1 M.length cm1) ∧
        w'.cell? ⟨w2.heap.size, 0, none⟩ = some (.int .i64 vars) ∧ w'.cell? ⟨w2.heap.size, 1, none⟩ = some (.slice x2 L.length c2) ∧ w'.cell? ⟨w2.heap.size, 2, none⟩ = some (.slice xm2 M.length cm2))
      (first | exact HSS.out _ (Below.refl _ _).drew | (go_split_ands; exact HSS.out _ (Below.step (Hid.out (by assumption)) hbN (Nat.le_refl _))))
      (first
        | (go_at_call 24; go_split_ands; refine (C50.out _ (Hid.out (by assumption))).mono ?_; rintro e wN ⟨rfl, hbN⟩)
        | (go_at_call 27; go_split_ands; refine (C60.out _ (Hid.out (by assumption))).mono ?_; rintro e wN ⟨rfl, hbN⟩)
        | (go_at_call 10; go_split_ands; refine (CS.out _ (Hid.out (by assumption))).mono ?_; rintro e wN ⟨rfl, hbN⟩)
        | (go_at_call 22; go_split_ands; refine (CI.out _ (Hid.out (by assumption))).mono ?_; rintro e wN ⟨rfl, hbN⟩))
    all_goals go_split_ands
    all_goals have HBN := HE.out wN (Hid.out (by assumption : Hid (Below w4.heap.size w4 wN)))
    all_goals clear HSS HE
    all_goals go_wp2_with fail
    all_goals go_ret
    all_goals exact ⟨rfl, HBN⟩
end Go.Proofs.Ytglggigndhbpcaa
