/- The contract of the program's copy of a store's memory, in place. Condition: the store lies in a variable of its own; at most 1000 clauses and values, and atoms of each. -/
import Derived.Test.YtglggigndhbpcaaZLrows
import Derived.Deep.RegionLaw
import Derived.Deep.DeepCutAuto
import Derived.Carry
import Derived.Test.YtglggigndhbpcaaZHiter
namespace Go.Proofs.Ytglggigndhbpcaa
open Go.RowKit

/-- A growing store's variable. -/
def BxG (w : World) (g : Nat) (x y z : Value) : Prop := w.heap[g]? = some (.cells #[x, y, z] 61 (0, 0))
theorem BxG.set1 {w : World} {g : Nat} {x y z : Value} (h : BxG w g x y z) (y' : Value) : BxG (w.setCell ⟨g, 1, none⟩ y') g x y' z := heap_setCell_same w g 1 _ _ y' h
theorem BxG.set2 {w : World} {g : Nat} {x y z : Value} (h : BxG w g x y z) (z' : Value) : BxG (w.setCell ⟨g, 2, none⟩ z') g x y z' := heap_setCell_same w g 2 _ _ z' h
/-- All but one block lies there still. -/
def But (g : Nat) (w w' : World) : Prop := Turn (fun b => b = g) w (fun b => b = g) w'
theorem But.below {g : Nat} {w W W' : World} (h : But g w W) (hb : Below W.heap.size W W') : But g w W' := Turn.trans h (Turn.below hb)
theorem But.set {g r o : Nat} {w W : World} (h : But g w W) (hr : r = g ∨ w.heap.size ≤ r) (v : Value) : But g w (W.setCell ⟨r, o, none⟩ v) := by
  obtain ⟨h1, h2, h3, h4, h5, h6⟩ := h
  refine ⟨h1, h2, h3, by simpa using h4, fun b hb hO => (Below.heap_setCell _ _ _ _ ?_).trans (h5 b hb hO), h6⟩
  show b ≠ r
  rcases hr with rfl | hr
  · exact hO
  · omega
theorem But.block {g b : Nat} {w W : World} (h : But g w W) (hb : b < w.heap.size) (hne : b ≠ g) : W.heap[b]? = w.heap[b]? := h.2.2.2.2.1 b hb hne
theorem But.size {g : Nat} {w W : World} (h : But g w W) : w.heap.size ≤ W.heap.size := h.2.2.2.1
/-- The state of the copy. -/
def PaSt (w : World) (vars : Int) (l : List Cl) (m : List Int) (g : Nat) (R : Nat → Prop) (x : Option Addr) (c : Nat) (W : World) : Prop :=
  ∃ (base : Nat) (xm : Option Addr) (cm : Nat), BxG W g (.int .i64 vars) (.slice x l.length c) (.slice xm m.length cm) ∧ w.heap.size ≤ base ∧ base ≤ W.heap.size ∧ IOwn W w.heap.size (.slice xm m.length cm) m ∧ (∀ b, (Value.slice xm m.length cm).ownBlock = some b → b < base) ∧ GRow W (fun b => b ≠ g ∧ ¬ R b) base (.slice x l.length c) l ∧ But g w W
theorem PaSt.below {w W W' : World} {vars : Int} {l : List Cl} {m : List Int} {g c : Nat} {R : Nat → Prop} {x : Option Addr} (h : PaSt w vars l m g R x c W) (hb : Below W.heap.size W W') : PaSt w vars l m g R x c W' := by
  obtain ⟨base, xm, cm, h1, h2, h3, h4, h5, h6, h7⟩ := h
  exact ⟨base, xm, cm, (hb.block g (lt_of_block h1)).trans h1, h2, Nat.le_trans h3 hb.size, h4.keep (fun b hO => hb.block b (h4.lt b hO).2), h5, h6.below hb, h7.below hb⟩
theorem PaSt.put {w W : World} {vars : Int} {l : List Cl} {m : List Int} {g c r i : Nat} {R : Nat → Prop} (h : PaSt w vars l m g R (some ⟨r, 0, none⟩) c W) (hg : g < w.heap.size) (hi : i < l.length) {a : Option Addr} {k : Nat} (hat : AtsIn W (fun b => (b ≠ g ∧ ¬ R b) ∧ b < W.heap.size ∧ b ≠ r) (l.getD i cl0).1 a k) :
    PaSt w vars l m g R (some ⟨r, 0, none⟩) c (W.setCell ⟨r, i * 3, none⟩ (.slice a (l.getD i cl0).1.length k)) := by
  obtain ⟨base, xm, cm, h1, h2, h3, h4, h5, h6, h7⟩ := h
  have hr := h6.lt r rfl
  exact ⟨base, xm, cm, (Below.heap_setCell _ _ _ _ (show g ≠ r by omega)).trans h1, h2, by simpa using h3, h4.keep (fun b hO => Below.heap_setCell _ _ _ _ (show b ≠ r by have := h5 b hO; omega)), h5, h6.setFrom rfl hi hat, h7.set (.inr (by omega)) _⟩
/-- The memory is put in place. -/
theorem pt_start {w w1 w2 : World} {vars : Int} {l : List Cl} {m : List Int} {g : Nat} {R : Nat → Prop} {x xm y ym : Option Addr} {c cm d dm : Nat} (hg : BxG w g (.int .i64 vars) (.slice x l.length c) (.slice xm m.length cm)) (h1 : IOwn w1 w.heap.size (.slice ym m.length dm) m) (b1 : Below w.heap.size w w1)
    (hq : GRow w2 (fun b => b ≠ g ∧ ¬ R b) (w1.setCell ⟨g, 2, none⟩ (.slice ym m.length dm)).heap.size (.slice y l.length d) l) (b2 : Below (w1.setCell ⟨g, 2, none⟩ (.slice ym m.length dm)).heap.size (w1.setCell ⟨g, 2, none⟩ (.slice ym m.length dm)) w2) :
    PaSt w vars l m g R y d (w2.setCell ⟨g, 1, none⟩ (.slice y l.length d)) := by
  have hgl := lt_of_block hg
  have hz1 := b1.size
  have hs : (w1.setCell ⟨g, 2, none⟩ (.slice ym m.length dm)).heap.size = w1.heap.size := by simp
  have hg1 : BxG w1 g _ _ _ := (b1.block g hgl).trans hg
  have hg2 : BxG w2 g _ _ _ := (b2.block g (by omega)).trans (hg1.set2 (.slice ym m.length dm))
  have hz2 := b2.size
  refine ⟨w1.heap.size, ym, dm, hg2.set1 _, hz1, by simp; omega, h1.keep (fun b hO => ?_), fun b hO => (h1.lt b hO).2, ?_, ?_⟩
  · have hb := h1.lt b hO
    exact (Below.heap_setCell _ _ _ _ (show b ≠ g by omega)).trans ((b2.block b (by omega)).trans (Below.heap_setCell _ _ _ _ (show b ≠ g by omega)))
  · rw [hs] at hq
    exact hq.other (X := g) (by simp) (fun b _ hne => Below.heap_setCell _ _ _ _ hne) (fun h => h.1 rfl) (fun hO => by have := (hq.lt g hO).1; omega)
  · have hb1 : But g w w1 := But.below (Turn.refl _ _) b1
    have hb2 : But g w (w1.setCell ⟨g, 2, none⟩ (.slice ym m.length dm)) := hb1.set (.inl rfl) _
    exact (hb2.below b2).set (.inl rfl) _
/-- What the copy answers. -/
def PtPost (vars : Int) (l : List Cl) (m : List Int) (g : Nat) (R : Nat → Prop) (w : World) (e : Ending) (w' : World) : Prop :=
  e = .returned (.tuple #[]) ∧ ∃ x c xm cm, BxG w' g (.int .i64 vars) (.slice x l.length c) (.slice xm m.length cm) ∧ ClsIn w' (fun b => b < w'.heap.size ∧ ¬ R b) l x c ∧ IntsIn w' (fun b => b < w'.heap.size ∧ ¬ R b) m xm cm ∧ But g w w'
/-- The numbers of a row of the call's own lie in new blocks. -/
theorem IOwn.intsNew {w : World} {base : Nat} {x : Option Addr} {c : Nat} {zs : List Int} (h : IOwn w base (.slice x zs.length c) zs) : IntsIn w (fun b => b < w.heap.size ∧ base ≤ b) zs x c := by
  obtain ⟨h1, h2', h3', h4⟩ := h.ints
  refine ⟨h1, h2', h3', fun hx => ?_⟩
  obtain ⟨g', c', hv, hb1, hb2, _⟩ := h.at hx
  obtain ⟨b, o, e2, hb3, hf⟩ := h4 hx
  refine ⟨b, o, e2, ⟨hb3, ?_⟩, hf⟩
  injection hv with e1 _ _
  rw [e1] at e2
  injection e2 with e2
  injection e2 with e2 _ _
  omega
theorem PaSt.post {w W : World} {vars : Int} {l : List Cl} {m : List Int} {g c : Nat} {R : Nat → Prop} {x : Option Addr} (h : PaSt w vars l m g R x c W) (hR : ∀ b, R b → b < w.heap.size) : PtPost vars l m g R w (.returned (.tuple #[])) W := by
  obtain ⟨base, xm, cm, h1, h2, h3, h4, h5, h6, h7⟩ := h
  exact ⟨rfl, x, c, xm, cm, h1, h6.clsQ.weak (fun b hb => ⟨hb.1, by rcases hb.2 with h | h; · exact fun hr => (by have := hR b hr; omega)
                                                                    · exact h.2⟩), h4.intsNew.weak (fun b hb => ⟨hb.1, fun hr => by have := hb.2; have := hR b hr; omega⟩), h7⟩
set_option maxRecDepth 100000 in
set_option maxHeartbeats 8000000 in
theorem sgpart_any (vars : Int) (l : List Cl) (m : List Int) (g : Nat) (R : Nat → Prop) (x xm : Option Addr) (c cm : Nat) (w : World) (hg : BxG w g (.int .i64 vars) (.slice x l.length c) (.slice xm m.length cm)) (hin : ClsIn w (fun b => b < w.heap.size ∧ b ≠ g ∧ ¬ R b) l x c) (hR : ∀ b, R b → b < w.heap.size) (him : IntsIn w (fun b => b < w.heap.size ∧ b ≠ g) m xm cm) (hl : l.length ≤ 1000) (hm : m.length ≤ 1000) (hf : ∀ c ∈ l, c.1.length ≤ 1000) :
    Calls Try.prog 29 #[.pointer (some ⟨g, 0, none⟩)] w (PtPost vars l m g R w) := by
  have HR := Lib.hid hR
  have CI := Lib.hid (sclint_any m xm cm w.heap.size w hm (him.weak (fun b hb => hb.1)) (Nat.le_refl _))
  have HG := Lib.hid hg
  have HGL := Lib.hid (lt_of_block hg)
  have HIN := Lib.hid hin
  have HL := Lib.hid hl
  have HF := Lib.hid hf
  have hlen := hin.len
  have p1 := cell_at hg 1
  have p2 := cell_at hg 2
  simp at p1 p2
  clear hin him hm hl hf hg hR
  go_enter Try.func29, Try.ntmps29
  go_wp2_with fail
  refine CI.out.mono ?_
  rintro e w1 ⟨ym, dm, rfl, h1, b1⟩
  have H1 := Lib.hid h1
  have B1 := Lib.hid b1
  have hg1 : BxG w1 g _ _ _ := (b1.block g HGL.out).trans HG.out
  have q1 := cell_at hg1 1
  have q2 := cell_at hg1 2
  have q3 := free_of hg1
  simp at q1 q2
  have HG1 := Lib.hid hg1
  have hC := sclcl_any (fun b => b ≠ g ∧ ¬ R b) l x c (w1.setCell ⟨g, 2, none⟩ (.slice ym m.length dm)) HL.out ((((HIN.out.keep (fun b hb => b1.block b hb.1)).keep (w' := w1.setCell ⟨g, 2, none⟩ (.slice ym m.length dm)) (fun b hb => Below.heap_setCell _ _ _ _ hb.2.1))).weak (fun b hb => ⟨by have := hb.1; have := b1.size; simp; omega, hb.2⟩))
  have CC := Lib.hid hC
  clear h1 b1 hg1 p1 p2 CI hC
  go_wp2_with fail
  refine CC.out.mono ?_
  rintro e w2 ⟨y, d, rfl, h2, b2⟩
  have HST := Lib.hid (pt_start HG.out H1.out B1.out h2 b2)
  have hgs : g < (w1.setCell ⟨g, 2, none⟩ (.slice ym m.length dm)).heap.size := by have := B1.out.size; have := HGL.out; simp; omega
  have hg2 : BxG w2 g _ _ _ := (b2.block g hgs).trans (HG1.out.set2 (.slice ym m.length dm))
  have r1 := cell_at hg2 1
  have r3 := free_of hg2
  simp at r1
  clear h2 b2 hg2 q1 q2 q3 CC hgs
  go_wp2_with fail
  generalize w2.setCell ⟨g, 1, none⟩ (.slice y l.length d) = w3 at HST ⊢
  clear r1 r3
  have hg3 : w3.cell? ⟨g, 1, none⟩ = some (.slice y l.length d) := by
    obtain ⟨base, xm', cm', hb, _⟩ := HST.out
    have := cell_at hb 1
    simpa using this
  go_wp2_with fail
  go_loopw [30] (fun iv wr => ∃ i : Nat, iv = .int .i64 i ∧ i ≤ l.length ∧ Hid (PaSt w vars l m g R y d wr)) (fun iv _ => l.length - (intOf iv).toNat)
  case atStart => exact ⟨0, rfl, Nat.zero_le _, HST⟩
  case round =>
    obtain ⟨i, rfl, hi, hS⟩ := hrel
    by_cases hlt : i < l.length
    · have hlt' : (i : Int) < (l.length : Int) := by omega
      have hi0 : (0 : Int) ≤ (i : Int) := by omega
      obtain ⟨W1, hW1⟩ : ∃ W, W = wr := ⟨_, rfl⟩
      obtain ⟨base, ym', dm', hb1, hb2, hb3, hb4, hb5, h6, hb7⟩ := hS.out
      obtain ⟨r, c0, a', k', hv, hrb, hrl, e0, e1, e2, hat, hfz⟩ := h6.at hlt
      cases hv
      have hfl := HF.out _ (getD_mem cl0 hlt)
      have HNX : ∀ (Wc wN : World) (fx : Option Addr) (cx : Nat), Below wr.heap.size wr Wc → AOwn wN Wc.heap.size (.slice fx (l.getD i cl0).1.length cx) (l.getD i cl0).1 → Below Wc.heap.size Wc wN →
          wN.cell? ⟨g, 1, none⟩ = some (.slice (some ⟨r, 0, none⟩) l.length d) ∧ wN.cell? ⟨r, i * 3, none⟩ = some (.slice a' (l.getD i cl0).1.length k') ∧ wN.frozen? ⟨r, i * 3, none⟩ = false ∧ Hid (PaSt w vars l m g R (some ⟨r, 0, none⟩) d (wN.setCell ⟨r, i * 3, none⟩ (.slice fx (l.getD i cl0).1.length cx))) := fun Wc wN fx cx hbW ho hbN => by
        have hbA : Below wr.heap.size wr wN := hbW.trans (hbN.mono hbW.size)
        have hgw := lt_of_block hb1
        have hbx : BxG wN g _ _ _ := (hbA.block g hgw).trans hb1
        have z1 := cell_at hbx 1
        simp at z1
        exact ⟨z1, (bcell hbA r _ hrl).trans e0, (hbA.frozen (p := ⟨r, i * 3, none⟩) hrl).trans hfz, Lib.hid ((hS.out.below hbA).put HGL.out hlt (ho.ats.weak (fun b hb => ⟨⟨by have := hbW.size; omega, fun hr => by have := hbW.size; have := hb7.size; have := HR.out _ hr; omega⟩, hb.2, by have := hbW.size; omega⟩)))⟩
      have HNX := Lib.hid HNX
      have hgc := cell_at hb1 1
      have hgh := hb1
      simp at hgc
      obtain ⟨cl, hcl⟩ : ∃ cl, cl = l.getD i cl0 := ⟨_, rfl⟩
      rw [← hcl] at e0 e1 e2 hat hfl HNX
      clear hcl hW1 hb1 hb2 hb3 hb4 hb5 h6 hb7 hrb hfz hS HST
      obtain ⟨fr, tv, tw⟩ := cl
      simp only at e0 e1 e2 hat hfl HNX
      have CA := Lib.hid (fun (W : World) (hW : Below (wr.alloc (.cells #[.slice a' fr.length k', .int .i64 tv, .int .i64 tw] 35)).heap.size (wr.alloc (.cells #[.slice a' fr.length k', .int .i64 tv, .int .i64 tw] 35)) W) => sclat_any fr a' k' W.heap.size W hfl ((hat.keep (fun b hb => (hW.block b (by simp; have := hb.2.1; omega)).trans (heap_old _ _ hb.2.1))).weak (fun b hb => by have := hW.size; have := hb.2.1; simp at *; omega)) (Nat.le_refl _))
      have hgw : g < wr.heap.size := lt_of_block hgh
      have BZ : ∀ p, Below wr.heap.size wr (wr.alloc p) := fun p => (Below.refl _ _).alloc (Nat.le_refl _) _
      have n0 := fun p => (bcell (BZ p) g 1 hgw).trans hgc
      clear BZ hgh hat hfl hgw
      go_upto_region 5 with fail
      go_region_law (go_simp; go_at_call 46; refine (CA.out _ (by exact (Below.refl _ _).drew)).mono ?_; rintro e wN ⟨fx, cx, rfl, ho, hbN⟩; obtain ⟨z1, z2, z3, HE⟩ := HNX.out _ wN fx cx (by exact ((Below.refl _ _).alloc (Nat.le_refl _) _).drew) ho hbN; clear ho hbN)
      all_goals go_wp2_with fail
      all_goals go_roundw
      all_goals first
        | exact ⟨i + 1, by go_num, by omega, HE⟩
        | (simp [intOf]; omega)
    · obtain rfl : i = l.length := by omega
      have HE := Lib.hid (hS.out.post HR.out)
      clear hS
      go_wp2_with fail
      refine bodyPost_ret (v := .tuple #[]) (by simp [results, Try.f29, go_sem]) rfl ?_
      exact HE.out
end Go.Proofs.Ytglggigndhbpcaa
