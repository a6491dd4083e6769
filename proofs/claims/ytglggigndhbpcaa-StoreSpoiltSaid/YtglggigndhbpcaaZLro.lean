/- The contract of the document's copy of a store in memory of its own. Condition: the store lies in memory; at most 1000 clauses and values, and atoms of each. -/
import Derived.Test.YtglggigndhbpcaaZLrows
import Derived.Test.YtglggigndhbpcaaZJrk
import Derived.Test.YtglggigndhbpcaaZStep
import Derived.Deep.RegionLaw
import Derived.Deep.DeepCutAuto
import Derived.Carry
namespace Go.Proofs.Ytglggigndhbpcaa
open Go.RowKit

/-- A store in memory of its own: the model lies ahead of the clauses. -/
def StOwn (w : World) (b0 : Nat) (l : List Cl) (x : Option Addr) (c : Nat) (m : List Int) (xm : Option Addr) (cm : Nat) : Prop :=
  ∃ base2, b0 ≤ base2 ∧ base2 ≤ w.heap.size ∧ IOwn w b0 (.slice xm m.length cm) m ∧ (∀ g, (Value.slice xm m.length cm).ownBlock = some g → g < base2) ∧ COwn w base2 (.slice x l.length c) l
theorem StOwn.cls {w : World} {b0 : Nat} {l : List Cl} {x xm : Option Addr} {c cm : Nat} {m : List Int} (h : StOwn w b0 l x c m xm cm) : ClsIn w (· < w.heap.size) l x c := by
  obtain ⟨_, _, _, _, _, h⟩ := h
  exact h.g.cls
theorem StOwn.ints {w : World} {b0 : Nat} {l : List Cl} {x xm : Option Addr} {c cm : Nat} {m : List Int} (h : StOwn w b0 l x c m xm cm) : IntsIn w (· < w.heap.size) m xm cm := by
  obtain ⟨_, _, _, h, _⟩ := h
  exact h.ints
theorem StOwn.below {w W : World} {b0 : Nat} {l : List Cl} {x xm : Option Addr} {c cm : Nat} {m : List Int} (h : StOwn w b0 l x c m xm cm) (hb : Below w.heap.size w W) : StOwn W b0 l x c m xm cm := by
  obtain ⟨b2, h1, h2, h3, h4, h5⟩ := h
  exact ⟨b2, h1, Nat.le_trans h2 hb.size, h3.keep (fun g hg => hb.block g (h3.lt g hg).2), h4, h5.keep hb.size (fun b _ h => hb.block b h)⟩
theorem StOwn.low {w : World} {b0 b1 : Nat} {l : List Cl} {x xm : Option Addr} {c cm : Nat} {m : List Int} (h : StOwn w b0 l x c m xm cm) (hb : b1 ≤ b0) : StOwn w b1 l x c m xm cm := by
  obtain ⟨b2, h1, h2, h3, h4, h5⟩ := h
  exact ⟨b2, by omega, h2, h3.low hb, h4, h5⟩
/-- What a call answers that tells a store in memory of its own. -/
def OwPost (vars : Int) (l : List Cl) (m : List Int) (w : World) (e : Ending) (w' : World) : Prop :=
  ∃ x c xm cm, e = .returned (.agg #[.int .i64 vars, .slice x l.length c, .slice xm m.length cm]) ∧ StOwn w' w.heap.size l x c m xm cm ∧ Below w.heap.size w w'
/-- A store's box. -/
def BxS (w : World) (g : Nat) (x y z : Value) : Prop := w.heap[g]? = some (.cells #[x, y, z] 25 (0, 0))
theorem BxS.set3 {w : World} {g : Nat} {x y z : Value} (h : BxS w g x y z) (x' y' z' : Value) : BxS (((w.setCell ⟨g, 0, none⟩ x').setCell ⟨g, 1, none⟩ y').setCell ⟨g, 2, none⟩ z') g x' y' z' := by
  have h1 := heap_setCell_same w g 0 _ _ x' h
  have h2 := heap_setCell_same _ g 1 _ _ y' h1
  have h3 := heap_setCell_same _ g 2 _ _ z' h2
  exact h3
theorem BxS.set1 {w : World} {g : Nat} {x y z : Value} (h : BxS w g x y z) (y' : Value) : BxS (w.setCell ⟨g, 1, none⟩ y') g x y' z := heap_setCell_same w g 1 _ _ y' h
theorem set3_old (w : World) (g : Nat) (x y z : Value) {b : Nat} (h : b ≠ g) : (((w.setCell ⟨g, 0, none⟩ x).setCell ⟨g, 1, none⟩ y).setCell ⟨g, 2, none⟩ z).heap[b]? = w.heap[b]? :=
  (Below.heap_setCell _ _ _ _ (show b ≠ (⟨g, 2, none⟩ : Addr).block from h)).trans ((Below.heap_setCell _ _ _ _ (show b ≠ (⟨g, 1, none⟩ : Addr).block from h)).trans (Below.heap_setCell _ _ _ _ (show b ≠ (⟨g, 0, none⟩ : Addr).block from h)))
/-- The state of the copy: so many clauses are copied. -/
def OwSt (W0 : World) (vars : Int) (l : List Cl) (m : List Int) (g : Nat) (W : World) : Prop :=
  ∃ (base2 : Nat) (x xm : Option Addr) (c cm : Nat), BxS W g (.int .i64 vars) (.slice x l.length c) (.slice xm m.length cm) ∧ W0.heap.size ≤ g ∧ g < base2 ∧ base2 ≤ W.heap.size ∧ IOwn W W0.heap.size (.slice xm m.length cm) m ∧ (∀ b, (Value.slice xm m.length cm).ownBlock = some b → b < base2 ∧ b ≠ g) ∧ COwn W base2 (.slice x l.length c) l ∧ Below W0.heap.size W0 W
/-- The model is copied ahead of the variable's making, or behind it. -/
theorem ow_late {W0 W1 : World} {vars : Int} {m : List Int} {x : Option Addr} {c : Nat} (k : IOwn W1 W0.heap.size (.slice x m.length c) m) (t : Turn (OwnB (.slice none 0 0)) W0.drew (OwnB (.slice x m.length c)) W1) :
    OwSt W0 vars [] m W1.heap.size (W1.alloc (.cells #[.int .i64 vars, .slice none 0 0, .slice x m.length c] 25)) := by
  have hb0 : Below W0.drew.heap.size W0.drew W1 := t.low (Nat.le_refl _) (fun b hO => by unfold OwnB Value.ownBlock at hO; cases hO)
  have hb : Below W0.heap.size W0 W1 := (Below.refl W0.heap.size W0).drew.trans hb0
  refine ⟨W1.heap.size + 1, none, x, 0, c, heap_new W1 _, hb.size, by omega, by simp, k.alloc _, fun b hO => ?_, COwn.nil _ _, hb.alloc hb.size _⟩
  have := (k.lt b hO).2
  omega
theorem ow_early {W0 W2 : World} {vars : Int} {m : List Int} {x : Option Addr} {c g : Nat} (hg : g = W0.heap.size) (k : IOwn W2 (W0.heap.size + 1) (.slice x m.length c) m) (t : Turn (OwnB (.slice none 0 0)) (W0.drew.alloc (.cells #[.int .i64 0, .slice none 0 0, .slice none 0 0] 25)) (OwnB (.slice x m.length c)) W2) :
    OwSt W0 vars [] m g (((W2.setCell ⟨g, 0, none⟩ (.int .i64 vars)).setCell ⟨g, 1, none⟩ (.slice none 0 0)).setCell ⟨g, 2, none⟩ (.slice x m.length c)) := by
  subst hg
  have hb : Below (W0.heap.size + 1) (W0.drew.alloc (.cells #[.int .i64 0, .slice none 0 0, .slice none 0 0] 25)) W2 := (t.low (Nat.le_refl _) (fun b hO => by unfold OwnB Value.ownBlock at hO; cases hO)).mono (by simp)
  have hbx : BxS W2 W0.heap.size (.int .i64 0) (.slice none 0 0) (.slice none 0 0) := (hb.block _ (by omega)).trans (heap_new W0.drew _)
  have hz := hb.size
  simp at hz
  have hb0 : Below W0.heap.size W0 W2 := ((Below.refl W0.heap.size W0).drew.alloc (Nat.le_refl _) _).trans (hb.mono (by omega))
  refine ⟨W2.heap.size, none, x, 0, c, hbx.set3 _ _ _, Nat.le_refl _, by omega, by simp, (k.low (by omega)).keep (fun g hO => set3_old _ _ _ _ _ (by have := (k.lt g hO).1; omega)), fun b hO => ?_, COwn.nil _ _, ((hb0.setCell (p := ⟨_, 0, none⟩) (Nat.le_refl _) _).setCell (p := ⟨_, 1, none⟩) (Nat.le_refl _) _).setCell (p := ⟨_, 2, none⟩) (Nat.le_refl _) _⟩
  have := k.lt b hO
  omega
/-- A clause is copied. -/
theorem ow_next {W0 Wc : World} {vars : Int} {k : List Cl} {m : List Int} {g : Nat} {cl : Cl} {a : Option Addr} {cap : Nat} (h : OwSt W0 vars k m g Wc) (hat : AtsIn Wc (· < Wc.heap.size) cl.1 a cap) (hlen : cl.1.length ≤ 1000) (hk : k.length ≤ 1000) (ty ty2 : TypeId) :
    ∃ (x : Option Addr) (c : Nat) (z : Value), BxS Wc g (.int .i64 vars) (.slice x k.length c) z ∧ ∃ fx cx W1, Hid ((Builtin.append_ #[28, 28] ty #[.slice none 0 0, .slice a cl.1.length cap]).run Try.prog Wc.drew = .ok (.slice fx cl.1.length cx) W1) ∧
      Below Wc.heap.size Wc W1 ∧ ∃ g2 k2 W2, Hid ((Builtin.append_ #[22, 22] ty2 #[.slice x k.length c, .slice (some ⟨W1.heap.size, 0, none⟩) 1 1]).run Try.prog (W1.alloc (.cells #[.slice fx cl.1.length cx, .int .i64 cl.2.1, .int .i64 cl.2.2] 35)) = .ok (.slice (some ⟨g2, 0, none⟩) (k.length + 1) k2) W2) ∧
        BxS W2 g (.int .i64 vars) (.slice x k.length c) z ∧ OwSt W0 vars (k ++ [cl]) m g (W2.setCell ⟨g, 1, none⟩ (.slice (some ⟨g2, 0, none⟩) (k.length + 1) k2)) := by
  obtain ⟨base2, x, xm, c, cm, hbx, h1, h2, h3, h4, h5, h6, h7⟩ := h
  obtain ⟨v1, W1, r1, k1, t1⟩ := (AOwn.nil Wc.drew Wc.heap.size).add (P := (· < Wc.heap.size)) (ms := cl.1) (a := a) (cap := cap) hat ty (by simp; omega) (Nat.le_refl _)
  rw [List.nil_append] at k1
  obtain ⟨fx, cx, rfl⟩ := k1.form
  have b0 : Below Wc.drew.heap.size Wc.drew W1 := t1.low (Nat.le_refl _) (fun b hO => by unfold OwnB Value.ownBlock at hO; cases hO)
  have b1 : Below Wc.heap.size Wc W1 := (Below.refl Wc.heap.size Wc).drew.trans b0
  have hz := b1.size
  have h6' : COwn W1 base2 (.slice x k.length c) k := h6.keep hz (fun b _ hb => b1.block b hb)
  have hlt := h6.lt
  have hn : ∀ b, OwnB (.slice x k.length c) b → base2 ≤ b ∧ b < Wc.heap.size := fun b hO => hlt b hO
  obtain ⟨g2, k2, W2, r2, q2, t2⟩ := h6'.push ty2 cl (a := fx) (cap := cx) (k1.ats.weak (fun b hb => ⟨by omega, hb.2, fun hO => by have := hn b hO; omega⟩)) (by omega) (by omega)
  have hgW : g < Wc.heap.size := lt_of_block hbx
  have hng : ¬ OwnB (.slice x k.length c) g := fun hO => by have := hn g hO; omega
  have hbx2 : BxS W2 g (.int .i64 vars) (.slice x k.length c) (.slice xm m.length cm) := (t2.2.2.2.2.1 g (by omega) hng).trans ((b1.block g hgW).trans hbx)
  refine ⟨x, c, .slice xm m.length cm, hbx, fx, cx, W1, Lib.hid r1, b1, g2, k2, W2, Lib.hid r2, hbx2, ?_⟩
  have hz2 := t2.2.2.2.1
  have hq2 := q2.lt
  refine ⟨base2, some ⟨g2, 0, none⟩, xm, k2, cm, by rw [List.length_append]; exact hbx2.set1 _, h1, h2, by simp; omega, h4.keep (fun b hO => ?_), h5, ?_, ?_⟩
  · have hb := h4.lt b hO
    have hb5 := h5 b hO
    exact (Below.heap_setCell _ _ _ _ (show b ≠ g from hb5.2)).trans ((t2.2.2.2.2.1 b (by omega) (fun hO2 => by have := hn b hO2; omega)).trans (b1.block b hb.2))
  · rw [List.length_append]
    exact q2.keep (by simp) (fun b hb _ => Below.heap_setCell _ _ _ _ (show b ≠ g by omega))
  · have hlow : Below W0.heap.size W1 W2 := t2.low (by have := h7.size; omega) (fun b hO => by have := hn b hO; omega)
    exact ((h7.trans (b1.mono h7.size)).trans hlow).setCell (p := ⟨g, 1, none⟩) h1 _
theorem OwSt.cell {W0 W : World} {vars : Int} {k : List Cl} {m : List Int} {g : Nat} (h : OwSt W0 vars k m g W) : Below W0.heap.size W0 W := by
  obtain ⟨_, _, _, _, _, _, _, _, _, _, _, _, h⟩ := h
  exact h
/-- The clause's own variable is made. -/
theorem OwSt.alloc {W0 W : World} {vars : Int} {k : List Cl} {m : List Int} {g : Nat} (h : OwSt W0 vars k m g W) (o : Obj) : OwSt W0 vars k m g (W.alloc o) := by
  obtain ⟨base2, x, xm, c, cm, hbx, h1, h2, h3, h4, h5, h6, h7⟩ := h
  exact ⟨base2, x, xm, c, cm, (heap_old _ _ (lt_of_block hbx)).trans hbx, h1, h2, by simp; omega, h4.alloc o, h5, h6.keep (by simp) (fun b _ hb => heap_old _ _ hb), h7.alloc h7.size o⟩
set_option maxRecDepth 100000 in
set_option maxHeartbeats 8000000 in
theorem r11own_any (vars : Int) (l : List Cl) (m : List Int) (a am : Option Addr) (cap cm B : Nat) (w : World) (hin : ClsIn w (· < B) l a cap) (him : IntsIn w (· < B) m am cm) (hB : B ≤ w.heap.size) (hl : l.length ≤ 1000) (hm : m.length ≤ 1000) (hf : ∀ c ∈ l, c.1.length ≤ 1000) :
    Calls Try.prog 40 #[.agg #[.int .i64 vars, .slice a l.length cap, .slice am m.length cm]] w (OwPost vars l m w) := by
  have hlen := hin.len
  have hlm := him.len
  have HF := Lib.hid hf
  have HL := Lib.hid hl
  obtain ⟨W0, hW0⟩ : ∃ W, W = (w.alloc (.cells #[.int .i64 vars, .slice a l.length cap, .slice am m.length cm] 25)).alloc (.cells #[.int .i64 0, .slice none 0 0, .slice none 0 0] 25) := ⟨_, rfl⟩
  have B0 : Below w.heap.size w W0 := by rw [hW0]; exact ((Below.refl _ _).alloc (Nat.le_refl _) _).alloc (by simp) _
  have HI := Lib.hid (hin.below (B0.mono hB))
  have him0 := him.below (B0.mono hB)
  obtain ⟨v1, W1, r1, k1, t1⟩ := (IOwn.nil W0.drew W0.heap.size).add (him.below (B0.drew.mono hB)) 23 (by simp; omega) (Nat.le_refl _)
  obtain ⟨v2, W2, r2, k2, t2⟩ := (IOwn.nil (W0.drew.alloc (.cells #[.int .i64 0, .slice none 0 0, .slice none 0 0] 25)) (W0.heap.size + 1)).add (him.below ((B0.drew.alloc B0.size (.cells #[.int .i64 0, .slice none 0 0, .slice none 0 0] 25)).mono hB)) 23 (by simp; omega) (by simp)
  rw [List.nil_append] at k1 k2
  obtain ⟨x1, c1, rfl⟩ := k1.form
  obtain ⟨x2, c2, rfl⟩ := k2.form
  have hs0 : W0.heap.size = w.heap.size + 1 + 1 := by rw [hW0]; simp
  have hz2 : W2.heap[w.heap.size + 1 + 1]? = some (.cells #[.int .i64 0, .slice none 0 0, .slice none 0 0] 25 (0, 0)) := by
    rw [← hs0, t2.2.2.2.2.1 _ (by simp) (by unfold OwnB Value.ownBlock; simp)]
    exact heap_new W0.drew _
  have q0 : W0.heap[w.heap.size]? = some (.cells #[.int .i64 vars, .slice a l.length cap, .slice am m.length cm] 25 (0, 0)) := by
    rw [hW0]; exact (heap_old _ _ (by simp)).trans (heap_new w _)
  have q5 : BxS W0 (w.heap.size + 1) (.int .i64 0) (.slice none 0 0) (.slice none 0 0) := by
    rw [hW0]
    have := heap_new (w.alloc (.cells #[.int .i64 vars, .slice a l.length cap, .slice am m.length cm] 25)) (.cells #[.int .i64 0, .slice none 0 0, .slice none 0 0] 25)
    rwa [World.size_alloc] at this
  have q1 : W1.heap[w.heap.size]? = some (.cells #[.int .i64 vars, .slice a l.length cap, .slice am m.length cm] 25 (0, 0)) := (t1.2.2.2.2.1 _ (by show w.heap.size < W0.heap.size; omega) (by unfold OwnB Value.ownBlock; simp)).trans q0
  have q2 : W2.heap[w.heap.size]? = some (.cells #[.int .i64 vars, .slice a l.length cap, .slice am m.length cm] 25 (0, 0)) := (t2.2.2.2.2.1 _ (by simp; show w.heap.size < W0.heap.size + 1; omega) (by unfold OwnB Value.ownBlock; simp)).trans ((heap_old W0.drew _ (by show w.heap.size < W0.heap.size; omega)).trans q0)
  have p10 := cell_at q1 0
  have p12 := cell_at q1 2
  have p20 := cell_at q2 0
  have p22 := cell_at q2 2
  have q3 : (W1.alloc (.cells #[.int .i64 0, .slice none 0 0, .slice none 0 0] 25)).heap[w.heap.size]? = some (.cells #[.int .i64 vars, .slice a l.length cap, .slice am m.length cm] 25 (0, 0)) := (heap_old _ _ (lt_of_block q1)).trans q1
  have p30 := cell_at q3 0
  have p32 := cell_at q3 2
  simp at p10 p12 p20 p22 p30 p32
  have y0 := cell_at hz2 0
  have y1 := cell_at hz2 1
  have y2 := cell_at hz2 2
  have yz := free_of hz2
  simp at y0 y1 y2
  have HE1 := Lib.hid (ow_late (vars := vars) k1 t1)
  have HE2 := Lib.hid (ow_early (vars := vars) hs0.symm k2 t2)
  have HS0 := Lib.hid hs0
  have Q0 := Lib.hid q0
  have Q5 := Lib.hid q5
  have HB0 := Lib.hid B0
  have HBB : Hid (B ≤ W0.heap.size) := Lib.hid (Nat.le_trans hB B0.size)
  rw [hW0] at r1 r2
  have HR1 := Lib.hid r1
  have HR2 := Lib.hid r2
  clear r1 r2 hin him hf hl k1 k2 t1 t2 q0 q1 q2 q3 q5 hz2 hs0 him0 hm hlm hB B0 hW0
  go_enter Try.func40, Try.ntmps40
  go_upto_region 1 with fail
  go_cut [3] from 6 to 12 (fun s3 wx => ∃ g, s3 = .pointer (some ⟨g, 0, none⟩) ∧ Hid (OwSt W0 vars [] m g wx))
  case first =>
    go_region_law (first | (refine step_append (by rfl) _ _ _ (by rfl) (by rfl) (by rfl) HR1.out ?_) | (refine step_append (by rfl) _ _ _ (by rfl) (by rfl) (by rfl) HR2.out ?_))
    all_goals go_wp2_with fail
    all_goals go_meet
    all_goals first
      | exact ⟨_, rfl, HE1⟩
      | exact ⟨_, rfl, HE2⟩
  case rest =>
    obtain ⟨g, rfl, hX⟩ := hcut
    clear HE1 HE2 HR1 HR2 p10 p12 p20 p22 p30 p32 y0 y1 y2 yz
    go_wp2_with fail
    go_loopw [4] (fun iv wr => ∃ k : Nat, iv = .int .i64 k ∧ k ≤ l.length ∧ Hid (OwSt W0 vars (l.take k) m g wr)) (fun iv _ => l.length - (intOf iv).toNat)
    case atStart => exact ⟨0, rfl, Nat.zero_le _, hX⟩
    case round =>
      obtain ⟨k, rfl, hk, hS⟩ := hrel
      have bxh := (hS.out.cell.block w.heap.size (by have := HS0.out; omega)).trans Q0.out
      have c1 := cell_at bxh 1
      simp at c1
      by_cases hlt : k < l.length
      · have hlt' : (k : Int) < (l.length : Int) := by omega
        have hk0 : (0 : Int) ≤ (k : Int) := by omega
        have hkl : (l.take k).length = k := by rw [List.length_take]; omega
        obtain ⟨b, o, fr, tv, tw, a', c', rfl, hbB, hget, e0, hat, e1, e2⟩ := (HI.out.below (hS.out.cell.mono HBB.out)).at (k := k) hlt
        have hfl : fr.length ≤ 1000 := by have := HF.out _ (getD_mem cl0 hlt); rw [hget] at this; exact this
        have htk : l.take (k + 1) = l.take k ++ [(fr, (tv, tw))] := by rw [take_getD l cl0 hlt, hget]
        have hBw : B ≤ wr.heap.size := Nat.le_trans HBB.out hS.out.cell.size
        obtain ⟨x, c, z, hbx, fx, cx, W1, r1, b1, g2, k2, W2, r2, hbx2, hnext⟩ := ow_next (cl := (fr, (tv, tw))) (hS.out.alloc (.cells #[.slice a' fr.length c', .int .i64 tv, .int .i64 tw] 35)) ((hat.keep (fun b hb => heap_old _ _ (Nat.lt_of_lt_of_le hb hBw))).weak (fun b hb => by simp; exact Nat.lt_succ_of_lt (Nat.lt_of_lt_of_le hb hBw))) hfl (by have := HL.out; omega) 28 22
        rw [hkl] at hbx r2 hbx2 hnext
        rw [← htk] at hnext
        have hgw := lt_of_block hbx
        have z1 := cell_at hbx 1
        have hg1 : BxS W1 g _ _ _ := (b1.block g hgw).trans hbx
        have z2 := cell_at hg1 1
        have hg1a : BxS (W1.alloc (.cells #[.slice fx fr.length cx, .int .i64 tv, .int .i64 tw] 35)) g _ _ _ := (heap_old _ _ (lt_of_block hg1)).trans hg1
        have z3 := cell_at hg1a 1
        have z4 := cell_at hbx2 1
        have z5 := free_of hbx2
        have hcb := (b1.block wr.heap.size (by simp)).trans (heap_new wr _)
        have z6 := cell_at hcb 1
        have z7 := cell_at hcb 2
        simp at z1 z2 z3 z4 z6 z7
        have HNX := Lib.hid hnext
        have HFL := Lib.hid hfl
        clear hg1 hg1a hcb hbx hbx2 hnext hat hget htk hkl bxh hS hX b1 hgw hfl
        go_upto_region 6 with fail
        go_region_law (first | (refine step_append (by rfl) _ _ _ (by rfl) (by rfl) (by rfl) r1.out ?_) | (refine step_append (by rfl) _ _ _ (by rfl) (by rfl) (by rfl) r2.out ?_))
        all_goals go_wp2_with fail
        all_goals go_roundw
        all_goals first
          | exact ⟨k + 1, by go_num, by omega, HNX⟩
          | (simp [intOf]; omega)
      · obtain rfl : k = l.length := by omega
        rw [List.take_length] at hS
        obtain ⟨base2, x, xm, c, cn, hbx, h1, h2, h3, h4, h5, h6, h7⟩ := hS.out
        have q5 : BxS wr (w.heap.size + 1) _ _ _ := (h7.block _ (by have := HS0.out; omega)).trans Q5.out
        have HS0' := HS0.out
        have hE : Hid (OwPost vars l m w (.returned (.agg #[.int .i64 vars, .slice x l.length c, .slice xm m.length cn])) (((wr.setCell ⟨w.heap.size + 1, 0, none⟩ (.int .i64 vars)).setCell ⟨w.heap.size + 1, 1, none⟩ (.slice x l.length c)).setCell ⟨w.heap.size + 1, 2, none⟩ (.slice xm m.length cn))) :=
          Lib.hid ⟨x, c, xm, cn, rfl, ⟨base2, by omega, by simp; omega, (h4.low (by omega)).keep (fun b hO => set3_old _ _ _ _ _ (by have := (h4.lt b hO).1; omega)), fun b hO => (h5 b hO).1, h6.keep (by simp) (fun b hb _ => set3_old _ _ _ _ _ (by omega))⟩, (((HB0.out.trans (h7.mono (by omega))).setCell (p := ⟨_, 0, none⟩) (by simp) _).setCell (p := ⟨_, 1, none⟩) (by simp) _).setCell (p := ⟨_, 2, none⟩) (by simp) _⟩
        have y0 := cell_at hbx 0
        have y1 := cell_at hbx 1
        have y2 := cell_at hbx 2
        have f0 := cell_at q5 0
        have f1 := cell_at q5 1
        have f2 := cell_at q5 2
        have f3 := free_of q5
        simp at y0 y1 y2 f0 f1 f2
        have HQ := Lib.hid (q5.set3 (.int .i64 vars) (.slice x l.length c) (.slice xm m.length cn))
        clear hbx h1 h2 h3 h4 h5 h6 h7 q5 HS0' hS hX bxh
        go_wp2_with fail
        generalize ((wr.setCell ⟨w.heap.size + 1, 0, none⟩ (.int .i64 vars)).setCell ⟨w.heap.size + 1, 1, none⟩ (.slice x l.length c)).setCell ⟨w.heap.size + 1, 2, none⟩ (.slice xm m.length cn) = WE at hE HQ ⊢
        have e0 := cell_at HQ.out 0
        have e1 := cell_at HQ.out 1
        have e2 := cell_at HQ.out 2
        simp at e0 e1 e2
        refine bodyPost_ret (v := .agg #[.int .i64 vars, .slice x l.length c, .slice xm m.length cn]) (by simp [results, Try.f40, go_sem, e0, e1, e2]) rfl ?_
        exact hE.out
end Go.Proofs.Ytglggigndhbpcaa
/- The contract of the document's Add. Condition: the store and the clauses lie in memory; at most 1000 clauses, values, clauses more, and atoms of each. -/
namespace Go.Proofs.Ytglggigndhbpcaa
open Go.RowKit

/-- A store, and places, and an error. -/
def RaP (vars : Int) (L : List Cl) (M C : List Int) (E : Int) (w : World) (e : Ending) (w' : World) : Prop :=
  ∃ x c xm cm xp cp, e = .returned (.tuple #[.agg #[.int .i64 vars, .slice x L.length c, .slice xm M.length cm], .slice xp C.length cp, .int .i64 E]) ∧ StOwn w' w.heap.size L x c M xm cm ∧ IntsIn w' (· < w'.heap.size) C xp cp ∧ Below w.heap.size w w'
theorem StOwn.set3 {w : World} {b0 R : Nat} {l : List Cl} {x xm : Option Addr} {c cm : Nat} {m : List Int} (h : StOwn w b0 l x c m xm cm) (hR : R < b0) (u v z : Value) : StOwn (((w.setCell ⟨R, 0, none⟩ u).setCell ⟨R, 1, none⟩ v).setCell ⟨R, 2, none⟩ z) b0 l x c m xm cm := by
  obtain ⟨b2, h1, h2, h3, h4, h5⟩ := h
  exact ⟨b2, h1, by simp; omega, h3.keep (fun g hg => set3_old _ _ _ _ _ (by have := (h3.lt g hg).1; omega)), h4, h5.keep (by simp) (fun b hb _ => set3_old _ _ _ _ _ (by omega))⟩
/-- The last step: the store is laid into the result's variable. -/
theorem ra_end {W0 w w2 : World} {vars E : Int} {L : List Cl} {M C : List Int} {x xm xp : Option Addr} {c cm cp bp : Nat} (hs : W0.heap.size = w.heap.size + 1 + 1) (hB0 : Below w.heap.size w W0) (hq : BxS W0 (w.heap.size + 1) (.int .i64 0) (.slice none 0 0) (.slice none 0 0)) (hb : Below W0.heap.size W0 w2) (h : StOwn w2 W0.heap.size L x c M xm cm) (hc : IOwn w2 bp (.slice xp C.length cp) C) (hbp : W0.heap.size ≤ bp) :
    w2.cell? ⟨w.heap.size + 1, 0, none⟩ = some (.int .i64 0) ∧ w2.cell? ⟨w.heap.size + 1, 1, none⟩ = some (.slice none 0 0) ∧ w2.cell? ⟨w.heap.size + 1, 2, none⟩ = some (.slice none 0 0) ∧ (∀ o, w2.frozen? ⟨w.heap.size + 1, o, none⟩ = false) ∧
      Hid (RaP vars L M C E w (.returned (.tuple #[.agg #[.int .i64 vars, .slice x L.length c, .slice xm M.length cm], .slice xp C.length cp, .int .i64 E])) (((w2.setCell ⟨w.heap.size + 1, 0, none⟩ (.int .i64 vars)).setCell ⟨w.heap.size + 1, 1, none⟩ (.slice x L.length c)).setCell ⟨w.heap.size + 1, 2, none⟩ (.slice xm M.length cm))) ∧
      Hid (BxS (((w2.setCell ⟨w.heap.size + 1, 0, none⟩ (.int .i64 vars)).setCell ⟨w.heap.size + 1, 1, none⟩ (.slice x L.length c)).setCell ⟨w.heap.size + 1, 2, none⟩ (.slice xm M.length cm)) (w.heap.size + 1) (.int .i64 vars) (.slice x L.length c) (.slice xm M.length cm)) := by
  have hq2 : BxS w2 (w.heap.size + 1) _ _ _ := (hb.block _ (by omega)).trans hq
  have y0 := cell_at hq2 0
  have y1 := cell_at hq2 1
  have y2 := cell_at hq2 2
  simp at y0 y1 y2
  refine ⟨y0, y1, y2, free_of hq2, Lib.hid ⟨x, c, xm, cm, xp, cp, rfl, (h.set3 (by omega) _ _ _).low (by omega), ?_, ?_⟩, Lib.hid (hq2.set3 _ _ _)⟩
  · exact (hc.keep (fun g hg => set3_old _ _ _ _ _ (by have := (hc.lt g hg).1; omega))).ints
  · exact (((hB0.trans (hb.mono (by omega))).setCell (p := ⟨_, 0, none⟩) (by simp) _).setCell (p := ⟨_, 1, none⟩) (by simp) _).setCell (p := ⟨_, 2, none⟩) (by simp) _
/-- The clauses that are added are put behind. -/
theorem ra_put {W0 w2 : World} {l k : List Cl} {m : List Int} {x xm ak : Option Addr} {c cm ck B : Nat} {vars : Int} (hB : B ≤ W0.heap.size) (hb : Below W0.heap.size W0 w2) (h : StOwn w2 W0.heap.size l x c m xm cm) (hk : ClsIn w2 (· < B) k ak ck) (hl : l.length + k.length ≤ 60) (ty : TypeId) :
    ∃ x3 c3 w3, Hid ((Builtin.append_ #[22, 22] ty #[.slice x l.length c, .slice ak k.length ck]).run Try.prog (w2.alloc (.cells #[.int .i64 vars, .slice x l.length c, .slice xm m.length cm] 25)) = .ok (.slice x3 (l.length + k.length) c3) w3) ∧
      BxS w3 w2.heap.size (.int .i64 vars) (.slice x l.length c) (.slice xm m.length cm) ∧ Hid (GRow w3 (fun b => b < w2.heap.size) W0.heap.size (.slice x3 (l.length + k.length) c3) (l ++ k)) ∧ Below W0.heap.size W0 w3 ∧ ¬ OwnB (.slice x3 (l.length + k.length) c3) w2.heap.size := by
  obtain ⟨b2, h1, h2, h3, h4, h5⟩ := h
  have hbA := (Below.refl w2.heap.size w2).alloc (Nat.le_refl _) (.cells #[.int .i64 vars, .slice x l.length c, .slice xm m.length cm] 25)
  have hz := hb.size
  have hg := ((h5.g.below hbA).weak (R := fun b => b < w2.heap.size) (fun b hb => hb.2))
  have hlt := h5.lt
  obtain ⟨v3, w3, r3, g3, t3⟩ := hg.add (ms := k) (a := ak) (cap := ck) ((hk.below (hbA.mono (by omega))).weak (fun b hb => ⟨by omega, by simp; omega, fun hO => by have := (hlt b hO).1; omega⟩)) ty (by omega) (by simp; omega)
  obtain ⟨x3, c3, rfl⟩ := g3.form
  have hl2 : (l ++ k).length = l.length + k.length := List.length_append
  rw [hl2] at r3 g3 t3
  have hnO : ¬ OwnB (.slice x l.length c) w2.heap.size := fun hO => by have := (hlt _ hO).2; omega
  have hbx : BxS w3 w2.heap.size _ _ _ := (t3.2.2.2.2.1 _ (by simp) hnO).trans (heap_new w2 _)
  refine ⟨x3, c3, w3, Lib.hid r3, hbx, Lib.hid ?_, ?_, fun hO => ?_⟩
  · obtain ⟨xs, g, gr⟩ := g3
    refine ⟨xs, ⟨g.1, ?_⟩, gr⟩
    rcases g.2 with h | ⟨g', cap', cur, e, hb3, rest⟩
    · exact .inl h
    · exact .inr ⟨g', cap', cur, e, by omega, rest⟩
  · exact (hb.trans (hbA.mono hz)).trans (t3.low (by simp; omega) (fun b hO => by have := (hlt b hO).1; omega))
  · rcases t3.2.2.2.2.2 _ hO with h | h
    · exact hnO h
    · simp at h; omega
theorem own_at {vars : Int} {l : List Cl} {m : List Int} {a am : Option Addr} {cap cm N M : Nat} {w : World} (hin : ClsIn w (· < w.heap.size) l a cap) (him : IntsIn w (· < w.heap.size) m am cm) (hl : l.length ≤ 1000) (hm : m.length ≤ 1000) (hf : ∀ c ∈ l, c.1.length ≤ 1000) (hN : l.length = N) (hM : m.length = M) :
    Calls Try.prog 40 #[.agg #[.int .i64 vars, .slice a N cap, .slice am M cm]] w (OwPost vars l m w) := by
  subst hN hM
  exact r11own_any vars l m a am cap cm w.heap.size w hin him (Nat.le_refl _) hl hm hf
theorem rcore_at {vars : Int} {l : List Cl} {a : Option Addr} {cap N : Nat} {w : World} (hin : ClsIn w (· < w.heap.size) l a cap) (hN : l.length = N) : Calls Try.prog 42 #[.int .i64 vars, .slice a N cap] w (RowPost (coreR vars l) (coreE vars l) w) := by
  subst hN
  exact r10Core_any vars l a cap w.heap.size w hin (Nat.le_refl _)
set_option maxRecDepth 100000 in
set_option maxHeartbeats 8000000 in
theorem r11Add_any (vars : Int) (l k : List Cl) (m : List Int) (a am ak : Option Addr) (cap cm ck B : Nat) (w : World) (hin : ClsIn w (· < B) l a cap) (him : IntsIn w (· < B) m am cm) (hik : ClsIn w (· < B) k ak ck) (hB : B ≤ w.heap.size) (hl : l.length ≤ 1000) (hm : m.length ≤ 1000) (hk : k.length ≤ 1000) (hf : ∀ c ∈ l, c.1.length ≤ 1000) (hfk : ∀ c ∈ k, c.1.length ≤ 1000) :
    Calls Try.prog 25 #[.agg #[.int .i64 vars, .slice a l.length cap, .slice am m.length cm], .slice ak k.length ck] w (RaP vars (addL vars l m k) (addM vars l m k) (addC vars l m k) (addE vars l m k) w) := by
  have AD : ∀ {L M C E}, AdIs vars l m k L M C E → L = addL vars l m k ∧ M = addM vars l m k ∧ C = addC vars l m k ∧ E = addE vars l m k := fun h => h
  have HX1 := Lib.hid (fun h => AD (@ad_wrong vars l k m h))
  have HX2 := Lib.hid (fun h h2 => AD (@ad_long vars l k m h h2))
  have HX3 := Lib.hid (fun h h2 h3 => AD (@ad_right vars l k m h h2 h3))
  have HX4 := Lib.hid (fun h h2 h3 h4 => AD (@ad_loop vars l k m h h2 h3 h4))
  have HX5 := Lib.hid (fun h h2 h4 => AD (@ad_yes vars l k m h h2 h4))
  clear AD
  generalize addL vars l m k = L at HX1 HX2 HX3 HX4 HX5 ⊢
  generalize addM vars l m k = M at HX1 HX2 HX3 HX4 HX5 ⊢
  generalize addC vars l m k = C at HX1 HX2 HX3 HX4 HX5 ⊢
  generalize addE vars l m k = E at HX1 HX2 HX3 HX4 HX5 ⊢
  obtain ⟨W0, hW0⟩ : ∃ W, W = (w.alloc (.cells #[.int .i64 vars, .slice a l.length cap, .slice am m.length cm] 25)).alloc (.cells #[.int .i64 0, .slice none 0 0, .slice none 0 0] 25) := ⟨_, rfl⟩
  have B0 : Below w.heap.size w W0 := by rw [hW0]; exact ((Below.refl _ _).alloc (Nat.le_refl _) _).alloc (by simp) _
  have HS0 : Hid (W0.heap.size = w.heap.size + 1 + 1) := Lib.hid (by rw [hW0]; simp)
  have HB0 := Lib.hid B0
  have HBB : Hid (B ≤ W0.heap.size) := Lib.hid (Nat.le_trans hB B0.size)
  have Q0 : Hid (BxS W0 w.heap.size (.int .i64 vars) (.slice a l.length cap) (.slice am m.length cm)) := Lib.hid (by
    rw [hW0]; exact (heap_old _ _ (by simp)).trans (heap_new w _))
  have Q5 : Hid (BxS W0 (w.heap.size + 1) (.int .i64 0) (.slice none 0 0) (.slice none 0 0)) := Lib.hid (by
    rw [hW0]
    have := heap_new (w.alloc (.cells #[.int .i64 vars, .slice a l.length cap, .slice am m.length cm] 25)) (.cells #[.int .i64 0, .slice none 0 0, .slice none 0 0] 25)
    rwa [World.size_alloc] at this)
  have CR := Lib.hid (r11Right_any vars l m a am cap cm B W0 (hin.below (B0.mono hB)) (him.below (B0.mono hB)) (Nat.le_trans hB B0.size))
  have CO := Lib.hid (fun (W : World) (hW : Below W0.heap.size W0 W) => r11own_any vars l m a am cap cm B W (hin.below ((B0.trans (hW.mono B0.size)).mono hB)) (him.below ((B0.trans (hW.mono B0.size)).mono hB)) (Nat.le_trans hB (Nat.le_trans B0.size hW.size)) hl hm hf)
  have HK := Lib.hid (fun (W : World) (hW : Below W0.heap.size W0 W) => hik.below ((B0.trans (hW.mono B0.size)).mono hB))
  have HF := Lib.hid hf
  have HFK := Lib.hid hfk
  have hll := hl
  have hkk := hk
  clear hin him hik hB hf hfk hm B0
  rw [hW0] at CR
  go_enter Try.func25, Try.ntmps25
  go_wp2_with fail
  refine CR.out.mono ?_
  rintro e w1 ⟨rfl, b1⟩
  rw [← hW0] at b1
  have B1 := Lib.hid b1
  have q0 := (b1.block w.heap.size (by have := HS0.out; omega)).trans Q0.out
  have p0 := cell_at q0 0
  have p1 := cell_at q0 1
  have p2 := cell_at q0 2
  simp at p0 p1 p2
  clear b1 CR hW0 q0 hl hk
  cases hr : rgS vars l m with
  | false =>
    obtain ⟨rfl, rfl, rfl, rfl⟩ := HX1.out hr
    clear HX1 HX2 HX3 HX4 HX5
    go_wp2_with fail
    refine (CO.out w1 B1.out).mono ?_
    rintro e w2 ⟨x, c, xm, cm', rfl, hst, b2⟩
    obtain ⟨y0, y1, y2, y3, HE, HQ⟩ := ra_end (vars := vars) (E := 1) (C := []) (xp := none) (cp := 0) (bp := W0.heap.size) HS0.out HB0.out Q5.out (B1.out.trans (b2.mono B1.out.size)) (hst.low B1.out.size) (IOwn.nil _ _) (Nat.le_refl _)
    clear hst b2
    go_wp2_with fail
    generalize ((w2.setCell ⟨w.heap.size + 1, 0, none⟩ (.int .i64 vars)).setCell ⟨w.heap.size + 1, 1, none⟩ (.slice x l.length c)).setCell ⟨w.heap.size + 1, 2, none⟩ (.slice xm m.length cm') = WE at HE HQ ⊢
    have e0 := cell_at HQ.out 0
    have e1 := cell_at HQ.out 1
    have e2 := cell_at HQ.out 2
    simp at e0 e1 e2
    refine bodyPost_ret (v := .tuple #[.agg #[.int .i64 vars, .slice x l.length c, .slice xm m.length cm'], .slice none 0 0, .int .i64 1]) (by simp [results, Try.f25, go_sem, e0, e1, e2]) rfl ?_
    exact HE.out
  | true =>
    by_cases hlong : 60 < l.length + k.length
    · obtain ⟨rfl, rfl, rfl, rfl⟩ := HX2.out hr hlong
      have hlong' : (60 : Int) < (l.length : Int) + (k.length : Int) := by omega
      clear HX1 HX2 HX3 HX4 HX5
      go_wp2_with fail
      refine (CO.out w1 B1.out).mono ?_
      rintro e w2 ⟨x, c, xm, cm', rfl, hst, b2⟩
      obtain ⟨y0, y1, y2, y3, HE, HQ⟩ := ra_end (vars := vars) (E := 2) (C := []) (xp := none) (cp := 0) (bp := W0.heap.size) HS0.out HB0.out Q5.out (B1.out.trans (b2.mono B1.out.size)) (hst.low B1.out.size) (IOwn.nil _ _) (Nat.le_refl _)
      clear hst b2
      go_wp2_with fail
      generalize ((w2.setCell ⟨w.heap.size + 1, 0, none⟩ (.int .i64 vars)).setCell ⟨w.heap.size + 1, 1, none⟩ (.slice x l.length c)).setCell ⟨w.heap.size + 1, 2, none⟩ (.slice xm m.length cm') = WE at HE HQ ⊢
      have e0 := cell_at HQ.out 0
      have e1 := cell_at HQ.out 1
      have e2 := cell_at HQ.out 2
      simp at e0 e1 e2
      refine bodyPost_ret (v := .tuple #[.agg #[.int .i64 vars, .slice x l.length c, .slice xm m.length cm'], .slice none 0 0, .int .i64 2]) (by simp [results, Try.f25, go_sem, e0, e1, e2]) rfl ?_
      exact HE.out
    · have hlong' : ¬ (60 : Int) < (l.length : Int) + (k.length : Int) := by omega
      have HY3 := Lib.hid (HX3.out hr hlong)
      have HY4 := Lib.hid (HX4.out hr hlong)
      have HY5 := Lib.hid (HX5.out hr hlong)
      have HLK : Hid (l.length + k.length ≤ 60) := Lib.hid (by omega)
      clear HX1 HX2 HX3 HX4 HX5
      go_wp2_with fail
      refine (CO.out w1 B1.out).mono ?_
      rintro e w2 ⟨x, c, xm, cm', rfl, hst, b2⟩
      have b02 := B1.out.trans (b2.mono B1.out.size)
      obtain ⟨x3, c3, w3, HR3, hbx, HG, hb3, hnO⟩ := ra_put (vars := vars) HBB.out b02 (hst.low B1.out.size) (HK.out w2 b02) HLK.out 22
      obtain ⟨Y, hY⟩ : ∃ Y, Y = w2.heap.size := ⟨_, rfl⟩
      have hY0 : W0.heap.size ≤ Y := by rw [hY]; exact b02.size
      have hG4 : GRow (w3.setCell ⟨w2.heap.size, 1, none⟩ (.slice x3 (l.length + k.length) c3)) (fun b => b < w2.heap.size) W0.heap.size (.slice x3 (l.length + k.length) c3) (l ++ k) := HG.out.other (X := w2.heap.size) (by simp) (fun b _ hne => Below.heap_setCell _ _ _ _ hne) (fun h => absurd h (Nat.lt_irrefl _)) hnO
      have hbx4 := hbx.set1 (.slice x3 (l.length + k.length) c3)
      have b4 : Below W0.heap.size W0 (w3.setCell ⟨w2.heap.size, 1, none⟩ (.slice x3 (l.length + k.length) c3)) := hb3.setCell (p := ⟨w2.heap.size, 1, none⟩) b02.size _
      have z1 := cell_at hbx 1
      have z2 := free_of hbx
      simp at z1
      have hCL : ClsIn (w3.setCell ⟨w2.heap.size, 1, none⟩ (.slice x3 (l.length + k.length) c3)) (· < (w3.setCell ⟨w2.heap.size, 1, none⟩ (.slice x3 (l.length + k.length) c3)).heap.size) (l ++ k) x3 c3 := GRow.cls (by rw [List.length_append]; exact hG4)
      have HN : Hid ((l ++ k).length = l.length + k.length) := Lib.hid List.length_append
      have HFL : Hid (∀ c ∈ l ++ k, c.1.length ≤ 1000) := Lib.hid (fun c hc => by
        rcases List.mem_append.1 hc with h | h
        · exact HF.out c h
        · exact HFK.out c h)
      clear hst b2
      generalize hlk : l ++ k = lk at HY3 HY4 HY5 hCL HN HFL hG4
      clear hlk
      go_upto_region 7 with (at_builtin; refine wpList_append_run (by rfl) _ _ _ (by rfl) (by rfl) (by rfl) HR3.out ?_)
      generalize w3.setCell ⟨w2.heap.size, 1, none⟩ (.slice x3 (l.length + k.length) c3) = w4 at hCL hbx4 b4 hG4 ⊢
      rw [← hY] at hbx4 hG4 ⊢
      have HG4 := Lib.hid hG4
      have HNO : Hid (¬ OwnB (.slice x3 (l.length + k.length) c3) Y) := Lib.hid (by rw [hY]; exact hnO)
      have q4 := (b4.block w.heap.size (by have := HS0.out; omega)).trans Q0.out
      have r0 := cell_at q4 0
      have r1 := cell_at hbx4 1
      simp at r0 r1
      have HCL := Lib.hid hCL
      have HB4 := Lib.hid b4
      have HY4x := Lib.hid hbx4
      have HY0 := Lib.hid hY0
      clear z1 z2 hbx hnO hb3 HG HR3 hCL b4 hbx4 hG4 q4 hY hY0 b02 p0 p1 p2
      go_wp2_with fail
      refine (rsolve_at HCL.out (Below.refl _ _) HN.out).mono ?_
      rintro e w5 ⟨z, is, n5, er, xz, cz, rfl, hs, hoz, b5⟩
      obtain ⟨hz, rfl, her⟩ := hs.is
      have HB5 := Lib.hid (HB4.out.trans (b5.mono HB4.out.size))
      have hby := (b5.block Y (lt_of_block HY4x.out)).trans HY4x.out
      have q5 := (HB5.out.block w.heap.size (by have := HS0.out; omega)).trans Q0.out
      have s0 := cell_at q5 0
      have s1 := cell_at q5 1
      have s2 := cell_at q5 2
      have t0 := cell_at hby 0
      have t1 := cell_at hby 1
      have t2 := cell_at hby 2
      have t3 := free_of hby
      simp at s0 s1 s2 t0 t1 t2
      have HCL5 : Hid (ClsIn w5 (· < w5.heap.size) lk x3 c3) := Lib.hid ((HCL.out.below b5).mono b5.size)
      have HOZ := Lib.hid hoz
      have HBY := Lib.hid hby
      have HYW : Hid (Y < w4.heap.size) := Lib.hid (lt_of_block HY4x.out)
      have HZ := Lib.hid hz
      have HW45 := Lib.hid b5.size
      have HG5 := Lib.hid (HG4.out.below b5)
      clear hs hoz b5 q5 hby r0 r1 hz
      cases hh : hrB vars lk with
      | false =>
        obtain ⟨rfl, rfl, rfl, rfl⟩ := HY3.out hh
        rw [hh] at her
        obtain rfl : er = 1 := her
        clear HY3 HY4 HY5
        go_wp2_with fail
        refine (CO.out w5 HB5.out).mono ?_
        rintro e w6 ⟨x, c, xm, cm2, rfl, hst, b6⟩
        obtain ⟨y0, y1, y2, y3, HE, HQ⟩ := ra_end (vars := vars) (E := 1) (C := []) (xp := none) (cp := 0) (bp := W0.heap.size) HS0.out HB0.out Q5.out (HB5.out.trans (b6.mono HB5.out.size)) (hst.low HB5.out.size) (IOwn.nil _ _) (Nat.le_refl _)
        clear hst b6
        go_wp2_with fail
        generalize ((w6.setCell ⟨w.heap.size + 1, 0, none⟩ (.int .i64 vars)).setCell ⟨w.heap.size + 1, 1, none⟩ (.slice x l.length c)).setCell ⟨w.heap.size + 1, 2, none⟩ (.slice xm m.length cm2) = WE at HE HQ ⊢
        have e0 := cell_at HQ.out 0
        have e1 := cell_at HQ.out 1
        have e2 := cell_at HQ.out 2
        simp at e0 e1 e2
        refine bodyPost_ret (v := .tuple #[.agg #[.int .i64 vars, .slice x l.length c, .slice xm m.length cm2], .slice none 0 0, .int .i64 1]) (by simp [results, Try.f25, go_sem, e0, e1, e2]) rfl ?_
        exact HE.out
      | true =>
        rw [hh] at her
        obtain rfl : er = 0 := her
        cases hp : posB vars lk with
        | false =>
          obtain ⟨rfl, rfl, rfl, rfl⟩ := HY4.out hh hp
          clear HY3 HY4 HY5
          go_wp2_with fail
          refine (rcore_at HCL5.out HN.out).mono ?_
          rintro e w6 ⟨xp, cp, rfl, hown, b6⟩
          have q6 := (HB5.out.trans (b6.mono HB5.out.size))
          have q7 := (q6.block w.heap.size (by have := HS0.out; omega)).trans Q0.out
          have v0 := cell_at q7 0
          have v1 := cell_at q7 1
          have v2 := cell_at q7 2
          simp at v0 v1 v2
          have HOW := Lib.hid hown
          have HB6 := Lib.hid q6
          clear hown b6 q6 q7 s0 s1 s2 t0 t1 t2 t3
          go_wp2_with fail
          refine (CO.out w6 HB6.out).mono ?_
          rintro e w7 ⟨x, c, xm, cm2, rfl, hst, b7⟩
          obtain ⟨y0, y1, y2, y3, HE, HQ⟩ := ra_end (vars := vars) (E := 30) (C := coreR vars lk) (xp := xp) (cp := cp) (bp := w5.heap.size) HS0.out HB0.out Q5.out (HB6.out.trans (b7.mono HB6.out.size)) (hst.low HB6.out.size) (HOW.out.keep (fun g hg => b7.block g (HOW.out.lt g hg).2)) HB5.out.size
          clear hst b7
          go_wp2_with fail
          generalize ((w7.setCell ⟨w.heap.size + 1, 0, none⟩ (.int .i64 vars)).setCell ⟨w.heap.size + 1, 1, none⟩ (.slice x l.length c)).setCell ⟨w.heap.size + 1, 2, none⟩ (.slice xm m.length cm2) = WE at HE HQ ⊢
          have e0 := cell_at HQ.out 0
          have e1 := cell_at HQ.out 1
          have e2 := cell_at HQ.out 2
          simp at e0 e1 e2
          refine bodyPost_ret (v := .tuple #[.agg #[.int .i64 vars, .slice x l.length c, .slice xm m.length cm2], .slice xp (coreR vars lk).length cp, .int .i64 30]) (by simp [results, Try.f25, go_sem, e0, e1, e2]) rfl ?_
          exact HE.out
        | true =>
          obtain ⟨rfl, rfl, rfl, rfl⟩ := HY5.out hp
          have hG6 : GRow (w5.setCell ⟨Y, 2, none⟩ (.slice xz z.length cz)) (fun b => b < Y) W0.heap.size (.slice x3 (l.length + k.length) c3) lk := HG5.out.other (X := Y) (by simp) (fun b _ hne => Below.heap_setCell _ _ _ _ hne) (fun h => absurd h (Nat.lt_irrefl _)) HNO.out
          have hC6 : ClsIn (w5.setCell ⟨Y, 2, none⟩ (.slice xz z.length cz)) (· < (w5.setCell ⟨Y, 2, none⟩ (.slice xz z.length cz)).heap.size) lk x3 c3 := GRow.cls (by rw [HN.out]; exact hG6)
          have hbz : IntsIn (w5.setCell ⟨Y, 2, none⟩ (.slice xz z.length cz)) (· < (w5.setCell ⟨Y, 2, none⟩ (.slice xz z.length cz)).heap.size) z xz cz := (HOZ.out.keep (w' := w5.setCell ⟨Y, 2, none⟩ (.slice xz z.length cz)) (fun g hg => Below.heap_setCell _ _ _ _ (by have := (HOZ.out.lt g hg).1; have := HYW.out; show g ≠ Y; omega))).ints
          have hb6 : Below W0.heap.size W0 (w5.setCell ⟨Y, 2, none⟩ (.slice xz z.length cz)) := HB5.out.setCell (p := ⟨Y, 2, none⟩) HY0.out _
          have CO6 := Lib.hid (own_at (vars := vars) (m := z) (N := l.length + k.length) hC6 hbz (by have := HN.out; have := HLK.out; omega) (by have := @lm_len vars lk; rw [HZ.out]; omega) HFL.out HN.out rfl)
          have HB6 := Lib.hid hb6
          clear hG6 hC6 hbz hb6 s0 s1 s2 HY3 HY4 HY5
          go_wp2_with fail
          refine CO6.out.mono ?_
          rintro e w7 ⟨x, c, xm, cm2, rfl, hst, b7⟩
          obtain ⟨y0, y1, y2, y3, HE, HQ⟩ := ra_end (vars := vars) (E := 0) (C := []) (xp := none) (cp := 0) (bp := W0.heap.size) HS0.out HB0.out Q5.out (HB6.out.trans (b7.mono HB6.out.size)) (hst.low HB6.out.size) (IOwn.nil _ _) (Nat.le_refl _)
          clear hst b7 CO6
          go_wp2_with fail
          generalize ((w7.setCell ⟨w.heap.size + 1, 0, none⟩ (.int .i64 vars)).setCell ⟨w.heap.size + 1, 1, none⟩ (.slice x lk.length c)).setCell ⟨w.heap.size + 1, 2, none⟩ (.slice xm z.length cm2) = WE at HE HQ ⊢
          have e0 := cell_at HQ.out 0
          have e1 := cell_at HQ.out 1
          have e2 := cell_at HQ.out 2
          simp at e0 e1 e2
          refine bodyPost_ret (v := .tuple #[.agg #[.int .i64 vars, .slice x lk.length c, .slice xm z.length cm2], .slice none 0 0, .int .i64 0]) (by simp [results, Try.f25, go_sem, e0, e1, e2]) rfl ?_
          rw [← HZ.out]
          exact HE.out
end Go.Proofs.Ytglggigndhbpcaa
/- The contract of the document's Follows. Condition: the store and the atoms lie in memory; at most 1000 clauses, values and atoms. -/
namespace Go.Proofs.Ytglggigndhbpcaa
open Go.RowKit

theorem any_no {b : List At} (h : ∀ j, j < b.length → ¬ 1000 ≤ (b.getD j at0).2) : b.any (fun x => decide (1000 ≤ x.2)) = false := by
  rw [Bool.eq_false_iff]
  intro hc
  obtain ⟨x, hx, h2⟩ := List.any_eq_true.1 hc
  obtain ⟨j, hj, rfl⟩ := List.getElem_of_mem hx
  have := h j hj
  rw [List.getD_eq_getElem?_getD, List.getElem?_eq_getElem hj] at this
  exact this (of_decide_eq_true h2)
theorem any_yes {b : List At} {j : Nat} (hj : j < b.length) (h : 1000 ≤ (b.getD j at0).2) : b.any (fun x => decide (1000 ≤ x.2)) = true :=
  List.any_eq_true.2 ⟨_, getD_mem at0 hj, decide_eq_true h⟩
theorem run_field1 (v : Int) (x xm : Option Addr) (n c k d : Nat) (W : World) : (Instr.field 25 (.agg #[.int .i64 v, .slice x n c, .slice xm k d]) 1).run Try.prog W = .ok (.slice x n c) W := by kernel_rfl
/-- A clause of a slice of one. -/
theorem one_cls {W : World} {b : List At} {av aw : Int} {ab : Option Addr} {cb : Nat} (h : AtsIn W (· < W.heap.size) b ab cb) : ClsIn (W.alloc (.cells #[.slice ab b.length cb, .int .i64 av, .int .i64 aw] 35)) (· < (W.alloc (.cells #[.slice ab b.length cb, .int .i64 av, .int .i64 aw] 35)).heap.size) [(b, (av, aw))] (some ⟨W.heap.size, 0, none⟩) 1 := by
  have hn := heap_new W (.cells #[.slice ab b.length cb, .int .i64 av, .int .i64 aw] 35)
  refine ⟨Nat.le_refl _, by unfold maxLen; omega, (fun e => by cases e), fun _ => ⟨W.heap.size, 0, rfl, lt_of_block hn, fun i hi => ?_⟩⟩
  have hi0 : i = 0 := by simp at hi; exact hi
  subst hi0
  exact ⟨⟨ab, cb, cell_at hn 0, (h.keep (fun b hb => heap_old _ _ hb)).weak (fun b hb => by simp; omega)⟩, cell_at hn 1, cell_at hn 2⟩
/-- A clause that says that the other one is broken is put behind. -/
theorem rf_put {W : World} {base : Nat} {x : Option Addr} {c n : Nat} {l : List Cl} {av aw tv tw : Int} (h : GRow W (fun _ => True) base (.slice x n c) l) (hn : l.length = n) (hl : n ≤ 1000) (hbase : base ≤ W.heap.size) (ty : TypeId) :
    ∃ (g k : Nat) (W2 : World), Hid ((Builtin.append_ #[22, 22] ty #[.slice x n c, .slice (some ⟨W.heap.size + 1, 0, none⟩) 1 1]).run Try.prog ((W.drew.alloc (.cells #[.int .i64 av, .int .i64 aw] 27)).alloc (.cells #[.slice (some ⟨W.heap.size, 0, none⟩) 1 1, .int .i64 tv, .int .i64 tw] 35)) = .ok (.slice (some ⟨g, 0, none⟩) (n + 1) k) W2) ∧
      Hid (GRow W2 (fun _ => True) base (.slice (some ⟨g, 0, none⟩) (n + 1) k) (l ++ [([(av, aw)], (tv, tw))])) ∧ Below base W W2 := by
  subst hn
  have hb : Below W.heap.size W (W.drew.alloc (.cells #[.int .i64 av, .int .i64 aw] 27)) := (Below.refl _ _).drew.alloc (Nat.le_refl _) _
  have hnw := heap_new W.drew (.cells #[.int .i64 av, .int .i64 aw] 27)
  have hlt := h.lt
  have hat : AtsIn (W.drew.alloc (.cells #[.int .i64 av, .int .i64 aw] 27)) (fun b => True ∧ b < (W.drew.alloc (.cells #[.int .i64 av, .int .i64 aw] 27)).heap.size ∧ ¬ OwnB (.slice x l.length c) b) [(av, aw)] (some ⟨W.heap.size, 0, none⟩) 1 := by
    refine ⟨Nat.le_refl _, by unfold maxLen; omega, (fun e => by cases e), fun _ => ⟨W.heap.size, 0, rfl, ⟨trivial, lt_of_block hnw, fun hO => by have := (hlt _ hO).2; omega⟩, fun i hi => ?_⟩⟩
    have hi0 : i = 0 := by simp at hi; exact hi
    subst hi0
    exact ⟨cell_at hnw 0, cell_at hnw 1⟩
  have hsz : (W.drew.alloc (.cells #[.int .i64 av, .int .i64 aw] 27)).heap.size = W.heap.size + 1 := by simp
  have hgb := h.below hb
  generalize W.drew.alloc (.cells #[.int .i64 av, .int .i64 aw] 27) = V at hb hat hsz hgb ⊢
  obtain ⟨g, k, W2, r, h2, t⟩ := hgb.push ty ([(av, aw)], (tv, tw)) (a := some ⟨W.heap.size, 0, none⟩) (cap := 1) trivial hat (by omega) (by omega)
  rw [hsz] at r
  exact ⟨g, k, W2, Lib.hid r, Lib.hid h2, (hb.mono hbase).trans (t.low (by omega) (fun b hO => (hlt b hO).1))⟩
set_option maxRecDepth 100000 in
set_option maxHeartbeats 8000000 in
theorem r11Follows_any (vars av aw : Int) (l : List Cl) (b : List At) (m : List Int) (a am ab : Option Addr) (cap cm cb B : Nat) (w : World) (hin : ClsIn w (· < B) l a cap) (him : IntsIn w (· < B) m am cm) (hib : AtsIn w (· < B) b ab cb) (hB : B ≤ w.heap.size) (hl : l.length ≤ 1000) (hm : m.length ≤ 1000) (hk : b.length ≤ 1000) (hf : ∀ c ∈ l, c.1.length ≤ 1000) :
    Calls Try.prog 26 #[.agg #[.int .i64 vars, .slice a l.length cap, .slice am m.length cm], .agg #[.int .i64 av, .int .i64 aw], .slice ab b.length cb] w fun e w' => e = .returned (.tuple #[.bool (folB vars l m (av, aw) b), .int .i64 (folE vars l m (av, aw) b)]) ∧ Below w.heap.size w w' := by
  have HX1 := Lib.hid (@fol_wrong vars l m (av, aw) b)
  have HX2 := Lib.hid (@fol_long vars l m (av, aw) b)
  have HX3 := Lib.hid (@fol_yes vars l m (av, aw) b)
  have HOB : Hid (hrB vars [(b, (av, aw))] = true → ∀ j, j < b.length → 0 ≤ (b.getD j at0).2) := Lib.hid (fun h j hj => by
    have h4 := (hrB_of h).2.2.2
    simp only [List.all_cons, List.all_nil, Bool.and_true] at h4
    exact (atB_of (all_getD (clB_of h4).2.2 at0 hj)).2.2.1)
  generalize folE vars l m (av, aw) b = E at HX1 HX2 HX3 ⊢
  generalize folB vars l m (av, aw) b = R at HX1 HX2 HX3 ⊢
  obtain ⟨W0, hW0⟩ : ∃ W, W = ((w.alloc (.cells #[.int .i64 vars, .slice a l.length cap, .slice am m.length cm] 25)).alloc (.cells #[.int .i64 av, .int .i64 aw] 27)).alloc (.cells #[.slice ab b.length cb, .int .i64 av, .int .i64 aw] 35) := ⟨_, rfl⟩
  have B0 : Below w.heap.size w W0 := by rw [hW0]; exact (((Below.refl _ _).alloc (Nat.le_refl _) _).alloc (by simp) _).alloc (by simp; omega) _
  have HS0 : Hid (W0.heap.size = w.heap.size + 1 + 1 + 1) := Lib.hid (by rw [hW0]; simp)
  have HB0 := Lib.hid B0
  have Q0 : Hid (BxS W0 w.heap.size (.int .i64 vars) (.slice a l.length cap) (.slice am m.length cm)) := Lib.hid (by
    rw [hW0]; exact (heap_old _ _ (by simp; omega)).trans ((heap_old _ _ (by simp)).trans (heap_new w _)))
  have Q1 : Hid (W0.heap[w.heap.size + 1]? = some (.cells #[.int .i64 av, .int .i64 aw] 27 (0, 0))) := Lib.hid (by
    rw [hW0]
    have := heap_new (w.alloc (.cells #[.int .i64 vars, .slice a l.length cap, .slice am m.length cm] 25)) (.cells #[.int .i64 av, .int .i64 aw] 27)
    rw [World.size_alloc] at this
    exact (heap_old _ _ (by simp)).trans this)
  have Q2 : Hid (W0.heap[w.heap.size + 1 + 1]? = some (.cells #[.slice ab b.length cb, .int .i64 av, .int .i64 aw] 35 (0, 0))) := Lib.hid (by
    rw [hW0]
    have := heap_new ((w.alloc (.cells #[.int .i64 vars, .slice a l.length cap, .slice am m.length cm] 25)).alloc (.cells #[.int .i64 av, .int .i64 aw] 27)) (.cells #[.slice ab b.length cb, .int .i64 av, .int .i64 aw] 35)
    rwa [World.size_alloc, World.size_alloc] at this)
  have CR := Lib.hid (r11Right_any vars l m a am cap cm B W0 (hin.below (B0.mono hB)) (him.below (B0.mono hB)) (Nat.le_trans hB B0.size))
  have CO := Lib.hid (fun (W : World) (hW : Below W0.heap.size W0 W) => r11own_any vars l m a am cap cm B W (hin.below ((B0.trans (hW.mono B0.size)).mono hB)) (him.below ((B0.trans (hW.mono B0.size)).mono hB)) (Nat.le_trans hB (Nat.le_trans B0.size hW.size)) hl hm hf)
  have HIB := Lib.hid (fun (W : World) (hW : Below W0.heap.size W0 W) => hib.below ((B0.trans (hW.mono B0.size)).mono hB))
  have HBB : Hid (B ≤ W0.heap.size) := Lib.hid (Nat.le_trans hB B0.size)
  have CH := Lib.hid (fun (W : World) (hW : Below W0.heap.size W0 W) => r8Right_any vars [(b, (av, aw))] (some ⟨W.heap.size, 0, none⟩) 1 _ _ (one_cls (av := av) (aw := aw) ((hib.below ((B0.trans (hW.mono B0.size)).mono hB)).weak (fun c hc => Nat.lt_of_lt_of_le hc (Nat.le_trans hB (Nat.le_trans B0.size hW.size))))) (Nat.le_refl _))
  have hll := hl
  have hkk := hk
  clear hin him hib hB hf hm B0
  rw [hW0] at CR
  go_enter Try.func26, Try.ntmps26
  go_wp2_with fail
  refine CR.out.mono ?_
  rintro e w1 ⟨rfl, b1⟩
  rw [← hW0] at b1
  have B1 := Lib.hid b1
  have hs := HS0.out
  have q0 := (b1.block w.heap.size (by omega)).trans Q0.out
  have q2 := (b1.block (w.heap.size + 1 + 1) (by omega)).trans Q2.out
  have p0 := cell_at q0 0
  have p1 := cell_at q0 1
  have p3 := cell_at q2 0
  have p4 := cell_at q2 1
  have p5 := cell_at q2 2
  simp at p0 p1 p3 p4 p5
  clear b1 CR hW0 q0 q2 hs hl hk
  cases hr : rgS vars l m with
  | false =>
    obtain ⟨rfl, rfl⟩ := HX1.out (.inl hr)
    clear HX1 HX2 HX3
    go_wp2_with fail
    refine bodyPost_ret (v := .tuple #[.bool false, .int .i64 1]) (by simp [results, Try.f26, go_sem]) rfl ?_
    exact ⟨rfl, Below.step HB0.out B1.out (Nat.le_refl _)⟩
  | true =>
    have CH1 := Lib.hid (CH.out w1 B1.out)
    go_wp2_with fail
    refine CH1.out.mono ?_
    rintro e w2 ⟨rfl, b2⟩
    have B2 : Hid (Below W0.heap.size W0 w2) := Lib.hid (B1.out.trans ((((Below.refl w1.heap.size w1).alloc (Nat.le_refl _) _).trans (b2.mono (by simp))).mono B1.out.size))
    have hs := HS0.out
    have q0 := (B2.out.block w.heap.size (by omega)).trans Q0.out
    have u0 := cell_at q0 0
    have u1 := cell_at q0 1
    have u2 := cell_at q0 2
    simp at u0 u1 u2
    clear b2 CH CH1 p0 p1 p3 p4 p5 q0 hs
    cases hh : hrB vars [(b, (av, aw))] with
    | false =>
      obtain ⟨rfl, rfl⟩ := HX1.out (.inr hh)
      clear HX1 HX2 HX3
      go_wp2_with fail
      refine bodyPost_ret (v := .tuple #[.bool false, .int .i64 1]) (by simp [results, Try.f26, go_sem]) rfl ?_
      exact ⟨rfl, Below.step HB0.out B2.out (Nat.le_refl _)⟩
    | true =>
      by_cases hlong : 60 < l.length + b.length
      · obtain ⟨rfl, rfl⟩ := HX2.out hr hh (.inl hlong)
        have hlong' : (60 : Int) < (l.length : Int) + (b.length : Int) := by omega
        clear HX1 HX2 HX3
        go_wp2_with fail
        refine bodyPost_ret (v := .tuple #[.bool false, .int .i64 2]) (by simp [results, Try.f26, go_sem]) rfl ?_
        exact ⟨rfl, Below.step HB0.out B2.out (Nat.le_refl _)⟩
      · have hlong' : ¬ (60 : Int) < (l.length : Int) + (b.length : Int) := by omega
        have HLK : Hid (l.length + b.length ≤ 60) := Lib.hid (by omega)
        have dL : decide ((60 : Int) < (l.length : Int) + (b.length : Int)) = false := decide_eq_false hlong'
        have HAT := Lib.hid (HOB.out hh)
        clear HOB
        have HY2 := Lib.hid (fun j (hj : j < b.length) (h : 1000 ≤ (b.getD j at0).2) => HX2.out hr hh (.inr (any_yes hj h)))
        have HY3 := Lib.hid (fun h => HX3.out hr hh hlong (any_no h))
        clear HX1 HX2 HX3
        go_wp2_with fail
        refine (CO.out w2 B2.out).mono ?_
        rintro e w3 ⟨x, c, xm, cm2, rfl, hst, b3⟩
        have B3 := Lib.hid (B2.out.trans (b3.mono B2.out.size))
        have HG : Hid (GRow w3 (fun _ => True) W0.heap.size (.slice x l.length c) l) := Lib.hid (by
          obtain ⟨base2, h1, h2, h3, h4, h5⟩ := hst
          have h6 := B2.out.size
          exact (h5.low (by omega)).g.weak (fun _ _ => trivial))
        clear hst b3 u0 u1 u2 CO
        have hfld := run_field1 vars x xm l.length c m.length cm2 w3
        go_wp2_with fail
        go_loopw [9, 10] (fun uv iv wr => ∃ (i : Nat) (x : Option Addr) (c : Nat), uv = .slice x (l.length + i) c ∧ iv = .int .i64 i ∧ i ≤ b.length ∧ Hid (GRow wr (fun _ => True) W0.heap.size (.slice x (l.length + i) c) (l ++ notK (av, aw) (b.take i))) ∧ Hid (∀ j, j < i → ¬ 1000 ≤ (b.getD j at0).2) ∧ Hid (Below W0.heap.size W0 wr)) (fun _ iv _ => b.length - (intOf iv).toNat)
        case atStart => exact ⟨0, x, c, rfl, rfl, Nat.zero_le _, Lib.hid (by show GRow w3 _ _ _ (l ++ notK (av, aw) []); unfold notK; rw [List.map_nil, List.append_nil]; exact HG.out), Lib.hid (fun j hj => absurd hj (by omega)), B3⟩
        case round =>
          obtain ⟨i, x, c, rfl, rfl, hi, hg, ho, hb⟩ := hrel
          by_cases hlt : i < b.length
          · have hlt' : (i : Int) < (b.length : Int) := by omega
            have hi0 : (0 : Int) ≤ (i : Int) := by omega
            have HBW : Hid (B ≤ wr.heap.size) := Lib.hid (Nat.le_trans HBB.out hb.out.size)
            obtain ⟨g, o, rfl, hgB, hc⟩ := (HIB.out wr hb.out).some (by omega)
            have c0 := (hc i hlt).1
            have c1 := (hc i hlt).2
            have HO := Lib.hid (HY2.out i hlt)
            have HT := notK_take (av, aw) hlt
            have hat0 := HAT.out i hlt
            have HNX : Hid (¬ 1000 ≤ (b.getD i at0).2 → ∀ j, j < i + 1 → ¬ 1000 ≤ (b.getD j at0).2) := Lib.hid (fun h => up_to (p := fun j => ¬ 1000 ≤ (b.getD j at0).2) ho.out h)
            generalize (b.getD i at0).1 = tv at c0 HT
            generalize (b.getD i at0).2 = tw at c1 HO HNX HT hat0
            have HTT := Lib.hid HT
            have hs := HS0.out
            have q1 := (hb.out.block (w.heap.size + 1) (by omega)).trans Q1.out
            have d0 := cell_at q1 0
            have d1 := cell_at q1 1
            simp at d0 d1
            have hz := hb.out.size
            have hbw := HBW.out
            have BZ : ∀ p, Below wr.heap.size wr (wr.alloc p) := fun p => (Below.refl _ _).alloc (Nat.le_refl _) _
            have n0 := fun p => (bcell (BZ p) g (o + i * 2) (by omega)).trans c0
            have n1 := fun p => (bcell (BZ p) g (o + i * 2 + 1) (by omega)).trans c1
            have n2 := fun p => (bcell (BZ p) (w.heap.size + 1) 0 (by omega)).trans d0
            have n3 := fun p => (bcell (BZ p) (w.heap.size + 1) 1 (by omega)).trans d1
            clear hc HT BZ hs hz hbw q1
            by_cases h1 : 1000 ≤ tw
            · obtain ⟨rfl, rfl⟩ := HO.out h1
              clear HO HNX HTT HY2 HY3 n0 n1 n2 n3
              go_wp2_with fail
              refine bodyPost_ret (v := .tuple #[.bool false, .int .i64 2]) (by simp [results, Try.f26, go_sem]) rfl ?_
              exact ⟨rfl, Below.step HB0.out hb.out (Nat.le_refl _)⟩
            · obtain ⟨g2, k2, W2, HR, HG2, hb2⟩ := rf_put (av := av) (aw := aw) (tv := tv) (tw := tw + 1) hg.out (by rw [List.length_append, notK_len, List.length_take]; omega) (by have := HLK.out; omega) hb.out.size 22
              have HN2 := Lib.hid (HNX.out h1)
              have HB2 : Hid (Below W0.heap.size W0 W2) := Lib.hid (hb.out.trans hb2)
              clear HO HNX HY2 HY3 hb2
              have hw := IntWalk.i64_in (tw + 1) (by omega)
              have HG3 : Hid (GRow W2 (fun _ => True) W0.heap.size (.slice (some ⟨g2, 0, none⟩) (l.length + i + 1) k2) (l ++ notK (av, aw) (b.take (i + 1)))) := Lib.hid (by rw [HTT.out, ← List.append_assoc]; exact HG2.out)
              clear HG2 HTT
              go_upto_region 12 with fail
              go_region_law (refine step_append (by rfl) _ _ _ (by rfl) (by rfl) (by rfl) HR.out ?_)
              all_goals go_wp2_with fail
              all_goals go_roundw
              all_goals first
                | exact ⟨i + 1, _, _, by rw [← Nat.add_assoc], by go_num, by omega, by rw [← Nat.add_assoc]; exact HG3, HN2, HB2⟩
                | (simp [intOf]; omega)
          · obtain rfl : i = b.length := by omega
            obtain ⟨rfl, hR⟩ := HY3.out (fun j hj => by have := ho.out j hj; omega)
            rw [List.take_length] at hg
            have HCL := Lib.hid hg.out
            have HRR := Lib.hid hR
            have hs := HS0.out
            have q0 := (hb.out.block w.heap.size (by omega)).trans Q0.out
            have u0 := cell_at q0 0
            simp at u0
            clear q0 hs hR HY2 HY3 ho hg
            have HC := Lib.hid (rsolve_at (vars := vars) (GRow.cls (by rw [List.length_append, notK_len]; exact HCL.out)) (Below.refl wr.heap.size wr) (by rw [List.length_append, notK_len] : (l ++ notK (av, aw) b).length = l.length + b.length))
            clear HCL
            go_wp2_with fail
            refine HC.out.mono ?_
            rintro e w5 ⟨z, is, n5, er, xz, cz, rfl, hs, _, b5⟩
            obtain ⟨_, rfl, her⟩ := hs.is
            have B5 := Lib.hid (hb.out.trans (b5.mono hb.out.size))
            clear hs her b5
            have HPB : Hid (R = !posB vars (l ++ notK (av, aw) b)) := HRR
            clear HRR
            generalize posB vars (l ++ notK (av, aw) b) = PB at HPB ⊢
            go_wp2_with fail
            refine bodyPost_ret (v := .tuple #[.bool (!PB), .int .i64 0]) (by simp [results, Try.f26, go_sem]) rfl ?_
            exact ⟨by rw [HPB.out], Below.step HB0.out B5.out (Nat.le_refl _)⟩
end Go.Proofs.Ytglggigndhbpcaa
