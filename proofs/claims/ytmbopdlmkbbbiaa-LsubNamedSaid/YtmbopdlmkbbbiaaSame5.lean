/- The contract of what the law asks of a level: it is told what the document says. Condition: the level is right. -/
import Derived.Test.YtmbopdlmkbbbiaaLaw5
import Derived.Deep.RegionHeld3
namespace Go.Proofs.Ytmbopdlmkbbbiaa
open Go.RowKit

/-- The cells that the law's last line reads. -/
def SmAt (s p q : Nat) (k n : Int) (a : Option Addr) (fl cap : Nat) (k1 n1 : Int) (x1 : Option Addr) (l1 c1 : Nat) (k2 n2 : Int) (x2 : Option Addr) (l2 c2 : Nat) (W0 w' : World) : Prop :=
  Hid (Below W0.heap.size W0 w') ∧ w'.cell? ⟨s, 0, none⟩ = some (.int .i64 k) ∧ w'.cell? ⟨s, 1, none⟩ = some (.int .i64 n) ∧ w'.cell? ⟨s, 2, none⟩ = some (.slice a fl cap) ∧
  w'.cell? ⟨p, 0, none⟩ = some (.int .i64 k1) ∧ w'.cell? ⟨p, 1, none⟩ = some (.int .i64 n1) ∧ w'.cell? ⟨p, 2, none⟩ = some (.slice x1 l1 c1) ∧
  w'.cell? ⟨q, 0, none⟩ = some (.int .i64 k2) ∧ w'.cell? ⟨q, 1, none⟩ = some (.int .i64 n2) ∧ w'.cell? ⟨q, 2, none⟩ = some (.slice x2 l2 c2)
theorem SmAt.below {s p q : Nat} {k n : Int} {a : Option Addr} {fl cap : Nat} {k1 n1 : Int} {x1 : Option Addr} {l1 c1 : Nat} {k2 n2 : Int} {x2 : Option Addr} {l2 c2 : Nat} {W0 w' : World} (h : SmAt s p q k n a fl cap k1 n1 x1 l1 c1 k2 n2 x2 l2 c2 W0 W0) (hb : Below W0.heap.size W0 w') (hs : s < W0.heap.size) (hp : p < W0.heap.size) (hq : q < W0.heap.size) :
    SmAt s p q k n a fl cap k1 n1 x1 l1 c1 k2 n2 x2 l2 c2 W0 w' := by
  obtain ⟨_, h1, h2, h3, h4, h5, h6, h7, h8, h9⟩ := h
  exact ⟨Lib.hid hb, (bcell hb _ _ hs).trans h1, (bcell hb _ _ hs).trans h2, (bcell hb _ _ hs).trans h3, (bcell hb _ _ hp).trans h4, (bcell hb _ _ hp).trans h5, (bcell hb _ _ hp).trans h6, (bcell hb _ _ hq).trans h7, (bcell hb _ _ hq).trans h8, (bcell hb _ _ hq).trans h9⟩
/-- A row of numbers that lies in a world, and in all later ones. -/
def RowL (zs : List Int) (x : Option Addr) (c : Nat) (w : World) : Prop := ∀ W, Below w.heap.size w W → IntsIn W (· < w.heap.size) zs x c ∧ w.heap.size ≤ W.heap.size
theorem RowL.of {zs : List Int} {x : Option Addr} {c base : Nat} {w : World} (h : IOwn w base (.slice x zs.length c) zs) : RowL zs x c w := fun _ hb => ⟨h.ints.below hb, hb.size⟩
theorem rows_yes {zs : List Int} {x x' : Option Addr} {c c' : Nat} {w1 w2 W : World} (h1 : RowL zs x c w1) (h2 : RowL zs x' c' w2) (b1 : Below w1.heap.size w1 W) (b2 : Below w2.heap.size w2 W) :
    Calls Try.prog 23 #[.slice x zs.length c, .slice x' zs.length c'] W fun e w' => e = .returned (.bool true) ∧ Below W.heap.size W w' :=
  ints5_yes zs x x' c c' W.heap.size W ((h1 W b1).1.weak (fun _ h => Nat.lt_of_lt_of_le h (h1 W b1).2)) ((h2 W b2).1.weak (fun _ h => Nat.lt_of_lt_of_le h (h2 W b2).2)) (Nat.le_refl _)

set_option maxRecDepth 100000 in
set_option maxHeartbeats 8000000 in
theorem same5_any (P Q : Fo) (k n : Int) (f : Fo) (a ap aq : Option Addr) (cap cp cq B : Nat) (w : World) (hr : rightB 5 10 k n f = true) (hsl : SlIn w (· < B) f a cap) (hsp : SlIn w (· < B) P ap cp) (hsq : SlIn w (· < B) Q aq cq) (hB : B ≤ w.heap.size) :
    Calls Try.prog 17 #[.agg #[.int .i64 k, .int .i64 n, .slice a f.len cap], .slice ap P.len cp, .slice aq Q.len cq] w fun e w' => e = .returned (.bool true) ∧ Below w.heap.size w w' := by
  have CS := Lib.hid (fun W (h : Below w.heap.size w W) => sSub_any P Q k n f a ap aq cap cp cq B W (hsl.below (h.mono hB)) (hsp.below (h.mono hB)) (hsq.below (h.mono hB)) (Nat.le_trans hB h.size))
  have CR := Lib.hid (fun W (h : Below w.heap.size w W) => r5Sub_any P Q k n f a ap aq cap cp cq B W (hsl.below (h.mono hB)) (hsp.below (h.mono hB)) (hsq.below (h.mono hB)) (Nat.le_trans hB h.size))
  have CP := Lib.hid (fun W (h : Below w.heap.size w W) => sParams_any k n f a cap B W hr (hsl.below (h.mono hB)) (Nat.le_trans hB h.size))
  have CM := Lib.hid (fun W (h : Below w.heap.size w W) => sMetas_any k n f a cap B W hr (hsl.below (h.mono hB)) (Nat.le_trans hB h.size))
  have CP' := Lib.hid (fun W (h : Below w.heap.size w W) => r5Params_any k n f a cap B W hr (hsl.below (h.mono hB)) (Nat.le_trans hB h.size))
  have CM' := Lib.hid (fun W (h : Below w.heap.size w W) => r5Metas_any k n f a cap B W hr (hsl.below (h.mono hB)) (Nat.le_trans hB h.size))
  generalize nm1 5 k n f [] = zp at CP CP'
  generalize nm1 6 k n f [] = zm at CM CM'
  generalize subT P Q k n f = T at CS CR
  generalize subE P Q k n f = E at CS CR
  have hb0 : Below w.heap.size w (w.alloc (.cells #[.int .i64 k, .int .i64 n, .slice a f.len cap] 30)) := (Below.refl _ _).alloc (Nat.le_refl _) _
  have u0 := heap_new w (.cells #[.int .i64 k, .int .i64 n, .slice a f.len cap] 30)
  have HB0 := Lib.hid hb0
  have HU0 := Lib.hid u0
  have dE : (E == E) = true := by simp
  clear hsl hsp hsq hb0 u0
  go_enter Try.func17, Try.ntmps17
  go_wp2_with fail
  refine (CS.out _ HB0.out).mono ?_
  rintro e w1 ⟨k1, n1, F1, x1, c1, hT1, rfl, s1, b1⟩
  have HB1 := Lib.hid (Below.step HB0.out b1 (Nat.le_refl _))
  have v0 := (b1.block _ (lt_of_block HU0.out)).trans HU0.out
  have HV0 := Lib.hid v0
  have c00 := cell_at v0 0
  have c01 := cell_at v0 1
  have c02 := cell_at v0 2
  have l0 := lt_of_block v0
  have S1 := Lib.hid s1
  have HT1 := Lib.hid hT1
  have k3 := (World.cell?_of_block (w := w1) (a := ⟨w.heap.size, 0, none⟩) (heap_old w1 (.cells #[.int .i64 k1, .int .i64 n1, .slice x1 F1.len c1] 30) l0)).trans c00
  have k4 := (World.cell?_of_block (w := w1) (a := ⟨w.heap.size, 1, none⟩) (heap_old w1 (.cells #[.int .i64 k1, .int .i64 n1, .slice x1 F1.len c1] 30) l0)).trans c01
  have k5 := (World.cell?_of_block (w := w1) (a := ⟨w.heap.size, 2, none⟩) (heap_old w1 (.cells #[.int .i64 k1, .int .i64 n1, .slice x1 F1.len c1] 30) l0)).trans c02
  clear v0 s1 hT1 b1
  go_wp2_with fail
  refine (CR.out _ (by exact HB1.out.alloc HB1.out.size _)).mono ?_
  rintro e w2 ⟨k2, n2, F2, x2, c2, hT2, rfl, s2, b2⟩
  obtain ⟨rfl, rfl, rfl⟩ := one_eq (HT1.out.symm.trans hT2)
  have b12 : Below w1.heap.size w1 w2 := ((Below.refl _ _).alloc (Nat.le_refl _) _).trans (b2.mono (by simp))
  have B12 := Lib.hid b12
  have HB2 := Lib.hid (Below.step HB1.out b12 (Nat.le_refl _))
  have v1 := (b12.block _ (lt_of_block HV0.out)).trans HV0.out
  have vb := (b2.block w1.heap.size (by simp)).trans (heap_new w1 _)
  have l1 := lt_of_block v1
  have lb := lt_of_block vb
  have ho := (Below.refl w2.heap.size w2).alloc (Nat.le_refl _) (.cells #[.int .i64 k1, .int .i64 n1, .slice x2 F1.len c2] 30)
  have HT0 : Hid (SmAt w.heap.size w1.heap.size w2.heap.size k n a f.len cap k1 n1 x1 F1.len c1 k1 n1 x2 F1.len c2 (w2.alloc (.cells #[.int .i64 k1, .int .i64 n1, .slice x2 F1.len c2] 30)) (w2.alloc (.cells #[.int .i64 k1, .int .i64 n1, .slice x2 F1.len c2] 30))) := Lib.hid
    ⟨Lib.hid (Below.refl _ _), (bcell ho _ _ l1).trans (cell_at v1 0), (bcell ho _ _ l1).trans (cell_at v1 1), (bcell ho _ _ l1).trans (cell_at v1 2), (bcell ho _ _ lb).trans (cell_at vb 0), (bcell ho _ _ lb).trans (cell_at vb 1), (bcell ho _ _ lb).trans (cell_at vb 2), cell_at (heap_new _ _) 0, cell_at (heap_new _ _) 1, cell_at (heap_new _ _) 2⟩
  have HC : Hid (∀ W, Below (w2.alloc (.cells #[.int .i64 k1, .int .i64 n1, .slice x2 F1.len c2] 30)).heap.size (w2.alloc (.cells #[.int .i64 k1, .int .i64 n1, .slice x2 F1.len c2] 30)) W → Calls Try.prog 15 #[.agg #[.int .i64 k1, .int .i64 n1, .slice x1 F1.len c1], .agg #[.int .i64 k1, .int .i64 n1, .slice x2 F1.len c2]] W fun e w' => e = .returned (.bool true) ∧ Below W.heap.size W w') := Lib.hid (fun W h => by
    have h2 : Below w2.heap.size w2 W := ho.trans (h.mono (by simp))
    have h1 : Below w1.heap.size w1 W := Below.step B12.out h2 (Nat.le_refl _)
    exact rSame_same F1 k1 n1 x1 x2 c1 c2 w2.heap.size W ((S1.out.below h1).mono B12.out.size) (s2.below h2) h2.size)
  have HW2 : Hid (Below w.heap.size w (w2.alloc (.cells #[.int .i64 k1, .int .i64 n1, .slice x2 F1.len c2] 30))) := Lib.hid (HB2.out.alloc HB2.out.size _)
  have HLT : Hid (w.heap.size < (w2.alloc (.cells #[.int .i64 k1, .int .i64 n1, .slice x2 F1.len c2] 30)).heap.size ∧ w1.heap.size < (w2.alloc (.cells #[.int .i64 k1, .int .i64 n1, .slice x2 F1.len c2] 30)).heap.size ∧ w2.heap.size < (w2.alloc (.cells #[.int .i64 k1, .int .i64 n1, .slice x2 F1.len c2] 30)).heap.size) := Lib.hid (by simp; omega)
  clear b2 b12 v1 vb l1 lb ho s2 hT2 c00 c01 c02 k3 k4 k5 l0
  go_wp2_with fail
  generalize w2.alloc (.cells #[.int .i64 k1, .int .i64 n1, .slice x2 F1.len c2] 30) = W0 at HT0 HC HW2 HLT ⊢
  obtain ⟨_, q1, q2, q3, q4, q5, q6, q7, q8, q9⟩ := HT0.out
  obtain ⟨m1, m2, m3⟩ := HLT.out
  go_region_held3 (fun w' => Hid (Below W0.heap.size W0 w') ∧ w'.cell? ⟨w.heap.size, 0, none⟩ = some (.int .i64 k) ∧ w'.cell? ⟨w.heap.size, 1, none⟩ = some (.int .i64 n) ∧ w'.cell? ⟨w.heap.size, 2, none⟩ = some (.slice a f.len cap) ∧
      w'.cell? ⟨w1.heap.size, 0, none⟩ = some (.int .i64 k1) ∧ w'.cell? ⟨w1.heap.size, 1, none⟩ = some (.int .i64 n1) ∧ w'.cell? ⟨w1.heap.size, 2, none⟩ = some (.slice x1 F1.len c1) ∧
      w'.cell? ⟨w2.heap.size, 0, none⟩ = some (.int .i64 k1) ∧ w'.cell? ⟨w2.heap.size, 1, none⟩ = some (.int .i64 n1) ∧ w'.cell? ⟨w2.heap.size, 2, none⟩ = some (.slice x2 F1.len c2))
    (first | exact ⟨Lib.hid (Below.refl _ _).drew, q1, q2, q3, q4, q5, q6, q7, q8, q9⟩ | (go_split_ands; exact HT0.out.below (Below.step (Hid.out (by assumption)) hbN (Nat.le_refl _)) m1 m2 m3))
    (first
      | (go_at_call 15; go_split_ands; refine (HC.out _ (Hid.out (by assumption))).mono ?_; rintro e wN ⟨rfl, hbN⟩)
      | (go_at_call 22; go_split_ands; refine (CP.out _ (by exact HW2.out.trans (Below.mono (Hid.out (by assumption)) HW2.out.size))).mono ?_; rintro e wN ⟨y1, d1, rfl, o1, hbN⟩; have R1 := Lib.hid (RowL.of o1); clear o1)
      | (go_at_call 37; go_split_ands; refine (CP'.out _ (by exact HW2.out.trans (Below.mono (Hid.out (by assumption)) HW2.out.size))).mono ?_; rintro e wN ⟨y2, d2, rfl, o2, hbN⟩; have R2 := Lib.hid (RowL.of o2); clear o2)
      | (go_at_call 24; go_split_ands; refine (CM.out _ (by exact HW2.out.trans (Below.mono (Hid.out (by assumption)) HW2.out.size))).mono ?_; rintro e wN ⟨y3, d3, rfl, o3, hbN⟩; have R3 := Lib.hid (RowL.of o3); clear o3)
      | (go_at_call 38; go_split_ands; refine (CM'.out _ (by exact HW2.out.trans (Below.mono (Hid.out (by assumption)) HW2.out.size))).mono ?_; rintro e wN ⟨y4, d4, rfl, o4, hbN⟩; have R4 := Lib.hid (RowL.of o4); clear o4)
      | (go_at_call_of 23 (Value.slice y3 zm.length d3); refine (rows_yes R3.out R4.out (by first | exact hbN | exact Below.refl _ _) (by first | exact hbN | exact Below.refl _ _)).mono ?_; rintro e wN ⟨rfl, hbN⟩)
      | (go_at_call_of 23 (Value.slice y1 zp.length d1); refine (rows_yes R1.out R2.out (by first | exact hbN | exact Below.refl _ _) (by first | exact hbN | exact Below.refl _ _)).mono ?_; rintro e wN ⟨rfl, hbN⟩))
  all_goals go_split_ands
  all_goals have hEE := Lib.hid (Below.step HW2.out (Hid.out (by assumption : Hid (Below W0.heap.size W0 wN))) (Nat.le_refl _))
  all_goals go_wp2_with fail
  all_goals go_ret
  all_goals exact ⟨rfl, hEE.out⟩
end Go.Proofs.Ytmbopdlmkbbbiaa
