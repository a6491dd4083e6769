/- The contract of told: what is told of two terms is what the document says. No condition but that they lie in memory and have no more than a million terms, and levels each. -/
import Derived.Test.YtokckghedpdfiaaTrlift2
import Derived.Test.YtokckghedpdfiaaTsame
import Derived.Test.YtokckghedpdfiaaTrsame
import Derived.Test.YtokckghedpdfiaaTfree
import Derived.Test.YtokckghedpdfiaaTrfree
namespace Go.Proofs.Ytokckghedpdfiaa
open Go.RowKit

def smT (T : Tm) : Prop := T.ks.size ≤ 1000000 ∧ T.ks.lvsz 1000000 ∧ T.ls.size ≤ 1000000
/-- A term in memory: its two slices. -/
def TmIn (W : World) (B : Nat) (T : Tm) (la : Option Addr) (lc : Nat) (ka : Option Addr) (kc : Nat) : Prop := SlIn W (· < B) T.ls la lc ∧ TlIn W (· < B) T.ks ka kc ∧ B ≤ W.heap.size
theorem TmIn.later {W W' : World} {B : Nat} {T : Tm} {la : Option Addr} {lc : Nat} {ka : Option Addr} {kc : Nat} (h : TmIn W B T la lc ka kc) (hb : Below W.heap.size W W') : TmIn W' B T la lc ka kc :=
  ⟨h.1.below (hb.mono h.2.2), h.2.1.below (hb.mono h.2.2), Nat.le_trans h.2.2 hb.size⟩
/-- A term in a variable: the box at the block N. -/
def TmBox (W : World) (N : Nat) (T : Tm) (la : Option Addr) (lc : Nat) (ka : Option Addr) (kc : Nat) : Prop := W.heap[N]? = some (.cells #[.int .i64 T.k, .int .i64 T.n, .slice la T.ls.len lc, .slice ka T.ks.len kc] 25 (0, 0)) ∧ TmIn W N T la lc ka kc
theorem TmBox.later {W W' : World} {N : Nat} {T : Tm} {la : Option Addr} {lc : Nat} {ka : Option Addr} {kc : Nat} (h : TmBox W N T la lc ka kc) (hb : Below W.heap.size W W') : TmBox W' N T la lc ka kc :=
  ⟨(hb.block _ (lt_of_block h.1)).trans h.1, h.2.later hb⟩
theorem TmBox.new {W : World} {T : Tm} {la : Option Addr} {lc : Nat} {ka : Option Addr} {kc : Nat} (h : TmIn W W.heap.size T la lc ka kc) : TmBox (W.alloc (.cells #[.int .i64 T.k, .int .i64 T.n, .slice la T.ls.len lc, .slice ka T.ks.len kc] 25)) W.heap.size T la lc ka kc :=
  ⟨heap_new _ _, h.later ((Below.refl _ _).alloc (Nat.le_refl _) _)⟩
theorem TmBox.cells {W : World} {N : Nat} {T : Tm} {la : Option Addr} {lc : Nat} {ka : Option Addr} {kc : Nat} (h : TmBox W N T la lc ka kc) : W.cell? ⟨N, 0, none⟩ = some (.int .i64 T.k) ∧ W.cell? ⟨N, 1, none⟩ = some (.int .i64 T.n) ∧ W.cell? ⟨N, 2, none⟩ = some (.slice la T.ls.len lc) ∧ W.cell? ⟨N, 3, none⟩ = some (.slice ka T.ks.len kc) := cells4 h.1
theorem TmBox.lt {W : World} {N : Nat} {T : Tm} {la : Option Addr} {lc : Nat} {ka : Option Addr} {kc : Nat} (h : TmBox W N T la lc ka kc) : N < W.heap.size := lt_of_block h.1
theorem LePost.tmIn {A : Tm × Int} {w w' : World} {la : Option Addr} {lc : Nat} {x : Option Addr} {c : Nat} (hl : SlIn w' (fun b => w.heap.size ≤ b ∧ b < w'.heap.size) A.1.ls la lc) (hs : TlIn w' (fun b => w.heap.size ≤ b ∧ b < w'.heap.size) A.1.ks x c) : TmIn w' w'.heap.size A.1 la lc x c :=
  ⟨hl.weak (fun _ h => h.2), hs.weak (fun _ h => h.2), Nat.le_refl _⟩
theorem fr1_if {T : Tm} {x : Bool} (h : T.sh = x) (hx : x = true) : (if shB T.k T.n T.ls T.ks = true then fr1 T.k T.n T.ks else 0) = fr1 T.k T.n T.ks := by
  have h' : shB T.k T.n T.ls T.ks = true := h.trans hx
  rw [if_pos h']
theorem one_refl (A : Tm) : decide (Ft.cons A.k A.n A.ls A.ks .nil = Ft.cons A.k A.n A.ls A.ks .nil) = true := decide_eq_true rfl

set_option maxRecDepth 100000 in
set_option maxHeartbeats 8000000 in
theorem told13_any (t u : Tm) (fr by' : Int) (la ka la' ka' : Option Addr) (lc kc lc' kc' : Nat) (w : World) (ht : TmIn w w.heap.size t la lc ka kc) (hu : TmIn w w.heap.size u la' lc' ka' kc') (hst : smT t) (hsu : smT u) :
    Calls Try.prog 10 #[.agg #[.int .i64 t.k, .int .i64 t.n, .slice la t.ls.len lc, .slice ka t.ks.len kc], .agg #[.int .i64 u.k, .int .i64 u.n, .slice la' u.ls.len lc', .slice ka' u.ks.len kc'], .int .i64 fr, .int .i64 by'] w fun e w' => e = .returned (.bool true) ∧ Below w.heap.size w w' := by
  have hb1 : Below w.heap.size w (w.alloc (.cells #[.int .i64 t.k, .int .i64 t.n, .slice la t.ls.len lc, .slice ka t.ks.len kc] 25)) := (Below.refl _ _).alloc (Nat.le_refl _) _
  have t1 := TmBox.new ht
  have u1 : TmIn (w.alloc (.cells #[.int .i64 t.k, .int .i64 t.n, .slice la t.ls.len lc, .slice ka t.ks.len kc] 25)) (w.alloc (.cells #[.int .i64 t.k, .int .i64 t.n, .slice la t.ls.len lc, .slice ka t.ks.len kc] 25)).heap.size u la' lc' ka' kc' := by
    have h := hu.later hb1
    exact ⟨h.1.mono (by simp), h.2.1.mono (by simp), Nat.le_refl _⟩
  have u2 := TmBox.new u1
  have hb2 : Below (w.alloc (.cells #[.int .i64 t.k, .int .i64 t.n, .slice la t.ls.len lc, .slice ka t.ks.len kc] 25)).heap.size (w.alloc (.cells #[.int .i64 t.k, .int .i64 t.n, .slice la t.ls.len lc, .slice ka t.ks.len kc] 25)) ((w.alloc (.cells #[.int .i64 t.k, .int .i64 t.n, .slice la t.ls.len lc, .slice ka t.ks.len kc] 25)).alloc (.cells #[.int .i64 u.k, .int .i64 u.n, .slice la' u.ls.len lc', .slice ka' u.ks.len kc'] 25)) := (Below.refl _ _).alloc (Nat.le_refl _) _
  have T2 := Lib.hid (t1.later hb2)
  have HB2 := Lib.hid (Below.step hb1 hb2 (Nat.le_refl _))
  rw [World.size_alloc] at u2
  have U2 := Lib.hid u2
  have HA := Lib.hid (tLift_any t fr by' la ka lc kc w.heap.size ((w.alloc (.cells #[.int .i64 t.k, .int .i64 t.n, .slice la t.ls.len lc, .slice ka t.ks.len kc] 25)).alloc (.cells #[.int .i64 u.k, .int .i64 u.n, .slice la' u.ls.len lc', .slice ka' u.ks.len kc'] 25)) T2.out.2.1 T2.out.2.2.1 T2.out.2.2.2)
  have HST := Lib.hid hst
  have HSU := Lib.hid hsu
  clear t1 u1 u2 hb1 hb2 ht hu hst hsu
  have HAR : Hid (∀ (N : Nat) (W : World), TmBox W N t la lc ka kc → Calls Try.prog 23 #[.agg #[.int .i64 t.k, .int .i64 t.n, .slice la t.ls.len lc, .slice ka t.ks.len kc], .int .i64 fr, .int .i64 by'] W (RePost (liftA t fr by') W)) := Lib.hid (fun N W h => r13Lift_any t fr by' la ka lc kc N W h.2.1 h.2.2.1 h.2.2.2)
  have HO : Hid (∀ (N M : Nat) (W : World), TmBox W N t la lc ka kc → TmBox W M u la' lc' ka' kc' → Calls Try.prog 15 #[.agg #[.int .i64 t.k, .int .i64 t.n, .slice la t.ls.len lc, .slice ka t.ks.len kc], .agg #[.int .i64 u.k, .int .i64 u.n, .slice la' u.ls.len lc', .slice ka' u.ks.len kc']] W (LePost (openA t u) W)) := Lib.hid (fun N M W h h' => tOpen_any t u la ka la' ka' lc kc lc' kc' W.heap.size W (h.2.1.mono h.2.2.2) (h.2.2.1.mono h.2.2.2) (h'.2.1.mono h'.2.2.2) (h'.2.2.1.mono h'.2.2.2) (Nat.le_refl _))
  have HOR : Hid (∀ (N M : Nat) (W : World), TmBox W N t la lc ka kc → TmBox W M u la' lc' ka' kc' → Calls Try.prog 24 #[.agg #[.int .i64 t.k, .int .i64 t.n, .slice la t.ls.len lc, .slice ka t.ks.len kc], .agg #[.int .i64 u.k, .int .i64 u.n, .slice la' u.ls.len lc', .slice ka' u.ks.len kc']] W (RePost (openA t u) W)) := Lib.hid (fun N M W h h' => r13Open_any t u la ka la' ka' lc kc lc' kc' W.heap.size W (h.2.1.mono h.2.2.2) (h.2.2.1.mono h.2.2.2) (h'.2.1.mono h'.2.2.2) (h'.2.2.1.mono h'.2.2.2) (Nat.le_refl _))
  generalize liftA t fr by' = A at HA HAR
  generalize openA t u = O at HO HOR
  go_enter Try.func10, Try.ntmps10
  go_wp2_with fail
  refine HA.out.mono ?_
  rintro e w1 ⟨ax, ac, ay, ad, rfl, hl1, hs1, hb1⟩
  have hz1 := hb1.size
  simp at hz1
  have T3 := Lib.hid (T2.out.later hb1)
  have U3 := Lib.hid (U2.out.later hb1)
  have A3 := Lib.hid (TmBox.new (LePost.tmIn hl1 hs1))
  have HB3 := Lib.hid (Below.step HB2.out hb1 (Nat.le_refl _))
  have hal : Below w1.heap.size w1 (w1.alloc (.cells #[.int .i64 A.1.k, .int .i64 A.1.n, .slice ax A.1.ls.len ac, .slice ay A.1.ks.len ad] 25)) := (Below.refl _ _).alloc (Nat.le_refl _) _
  have T4 := Lib.hid (T3.out.later hal)
  have U4 := Lib.hid (U3.out.later hal)
  have HB4 := Lib.hid (Below.step HB3.out hal (Nat.le_refl _))
  have HRL := Lib.hid (HAR.out _ _ T4.out)
  have hT4 := T4.out.lt
  obtain ⟨c0, c1, c2, c3⟩ := T4.out.cells
  clear hl1 hs1 hb1 hal HA T2 U2 HB2 T3 U3 HB3
  go_wp2_with fail
  refine HRL.out.mono ?_
  rintro e w2 ⟨bx, bc, by2, bd, rfl, hl2, hs2, hb2⟩
  have A5 := Lib.hid (A3.out.later hb2)
  have T5 := Lib.hid (T4.out.later hb2)
  have U5 := Lib.hid (U4.out.later hb2)
  have B5 := Lib.hid (TmBox.new (show TmIn w2 w2.heap.size A.1 bx bc by2 bd from ⟨hl2, hs2, Nat.le_refl _⟩))
  have HB5 := Lib.hid (Below.step HB4.out hb2 (Nat.le_refl _))
  have hal : Below w2.heap.size w2 (w2.alloc (.cells #[.int .i64 A.1.k, .int .i64 A.1.n, .slice bx A.1.ls.len bc, .slice by2 A.1.ks.len bd] 25)) := (Below.refl _ _).alloc (Nat.le_refl _) _
  have A6 := Lib.hid (A5.out.later hal)
  have T6 := Lib.hid (T5.out.later hal)
  have U6 := Lib.hid (U5.out.later hal)
  have HB6 := Lib.hid (Below.step HB5.out hal (Nat.le_refl _))
  have HOP := Lib.hid (HO.out _ _ _ T6.out U6.out)
  have hT6 := T6.out.lt
  have hU6 := U6.out.lt
  clear c0 c1 c2 c3 hT4
  obtain ⟨c0, c1, c2, c3⟩ := T6.out.cells
  obtain ⟨d0, d1, d2, d3⟩ := U6.out.cells
  clear hl2 hs2 hb2 hal HRL HAR A3 T4 U4 HB4 A5 T5 U5 HB5
  go_wp2_with fail
  refine HOP.out.mono ?_
  rintro e w3 ⟨cx, cc, cy, cd, rfl, hl3, hs3, hb3⟩
  have A7 := Lib.hid (A6.out.later hb3)
  have B7 := Lib.hid (B5.out.later hb3)
  have T7 := Lib.hid (T6.out.later hb3)
  have U7 := Lib.hid (U6.out.later hb3)
  have C7 := Lib.hid (TmBox.new (LePost.tmIn hl3 hs3))
  have HB7 := Lib.hid (Below.step HB6.out hb3 (Nat.le_refl _))
  have hal : Below w3.heap.size w3 (w3.alloc (.cells #[.int .i64 O.1.k, .int .i64 O.1.n, .slice cx O.1.ls.len cc, .slice cy O.1.ks.len cd] 25)) := (Below.refl _ _).alloc (Nat.le_refl _) _
  have A8 := Lib.hid (A7.out.later hal)
  have B8 := Lib.hid (B7.out.later hal)
  have T8 := Lib.hid (T7.out.later hal)
  have U8 := Lib.hid (U7.out.later hal)
  have HB8 := Lib.hid (Below.step HB7.out hal (Nat.le_refl _))
  have HOQ := Lib.hid (HOR.out _ _ _ T8.out U8.out)
  have hT8 := T8.out.lt
  have hU8 := U8.out.lt
  clear c0 c1 c2 c3 d0 d1 d2 d3 hT6 hU6
  obtain ⟨c0, c1, c2, c3⟩ := T8.out.cells
  obtain ⟨d0, d1, d2, d3⟩ := U8.out.cells
  clear hl3 hs3 hb3 hal HOP HO HOR A6 B5 T6 U6 HB6 A7 B7 T7 U7 HB7
  go_wp2_with fail
  refine HOQ.out.mono ?_
  rintro e w4 ⟨dx, dc, dy, dd, rfl, hl4, hs4, hb4⟩
  have D9 := Lib.hid (TmBox.new (show TmIn w4 w4.heap.size O.1 dx dc dy dd from ⟨hl4, hs4, Nat.le_refl _⟩))
  have hal : Below w4.heap.size w4 (w4.alloc (.cells #[.int .i64 O.1.k, .int .i64 O.1.n, .slice dx O.1.ls.len dc, .slice dy O.1.ks.len dd] 25)) := (Below.refl _ _).alloc (Nat.le_refl _) _
  have A9 := Lib.hid ((A8.out.later hb4).later hal)
  have B9 := Lib.hid ((B8.out.later hb4).later hal)
  have C9 := Lib.hid ((C7.out.later hb4).later hal)
  have T9 := Lib.hid ((T8.out.later hb4).later hal)
  have U9 := Lib.hid ((U8.out.later hb4).later hal)
  have HB9 := Lib.hid (Below.step (Below.step HB8.out hb4 (Nat.le_refl _)) hal (Nat.le_refl _))
  clear c0 c1 c2 c3 d0 d1 d2 d3 hT8 hU8 hl4 hs4 hb4 hal HOQ A8 B8 C7 T8 U8 HB8
  go_wp2_with fail
  generalize hW0 : w4.alloc (.cells #[.int .i64 O.1.k, .int .i64 O.1.n, .slice dx O.1.ls.len dc, .slice dy O.1.ks.len dd] 25) = W0 at A9 B9 C9 D9 T9 U9 HB9 ⊢
  clear hW0
  obtain ⟨a0, a1, a2, a3⟩ := A9.out.cells
  obtain ⟨b0, b1, b2, b3⟩ := B9.out.cells
  obtain ⟨c0, c1, c2, c3⟩ := C9.out.cells
  obtain ⟨d0, d1, d2, d3⟩ := D9.out.cells
  obtain ⟨t0, t1, t2, t3⟩ := T9.out.cells
  obtain ⟨u0, u1, u2, u3⟩ := U9.out.cells
  have hA := A9.out.lt
  have hBB := B9.out.lt
  have hC := C9.out.lt
  have hD := D9.out.lt
  have hT := T9.out.lt
  have hU := U9.out.lt
  have HAB : Hid (∀ W : World, Below W0.heap.size W0 W → Calls Try.prog 19 #[.agg #[.int .i64 A.1.k, .int .i64 A.1.n, .slice ax A.1.ls.len ac, .slice ay A.1.ks.len ad], .agg #[.int .i64 A.1.k, .int .i64 A.1.n, .slice bx A.1.ls.len bc, .slice by2 A.1.ks.len bd]] W fun e w' => e = .returned (.bool true) ∧ Below W.heap.size W w') := Lib.hid (by
    intro W h
    have p := (A9.out.later h).2
    have q := (B9.out.later h).2
    have r := r13same_any (A.1.ks.size + 1) A.1.ks A.1.ks (Nat.lt_succ_self _) A.1.k A.1.n A.1.k A.1.n A.1.ls A.1.ls ax bx ay by2 ac bc ad bd W.heap.size W (p.1.mono p.2.2) (q.1.mono q.2.2) (p.2.1.mono p.2.2) (q.2.1.mono q.2.2) (Nat.le_refl _)
    rwa [one_refl A.1] at r)
  have HCD : Hid (∀ W : World, Below W0.heap.size W0 W → Calls Try.prog 19 #[.agg #[.int .i64 O.1.k, .int .i64 O.1.n, .slice cx O.1.ls.len cc, .slice cy O.1.ks.len cd], .agg #[.int .i64 O.1.k, .int .i64 O.1.n, .slice dx O.1.ls.len dc, .slice dy O.1.ks.len dd]] W fun e w' => e = .returned (.bool true) ∧ Below W.heap.size W w') := Lib.hid (by
    intro W h
    have p := (C9.out.later h).2
    have q := (D9.out.later h).2
    have r := r13same_any (O.1.ks.size + 1) O.1.ks O.1.ks (Nat.lt_succ_self _) O.1.k O.1.n O.1.k O.1.n O.1.ls O.1.ls cx dx cy dy cc dc cd dd W.heap.size W (p.1.mono p.2.2) (q.1.mono q.2.2) (p.2.1.mono p.2.2) (q.2.1.mono q.2.2) (Nat.le_refl _)
    rwa [one_refl O.1] at r)
  obtain ⟨z, hz⟩ : ∃ z, decide (Ft.cons t.k t.n t.ls t.ks .nil = Ft.cons u.k u.n u.ls u.ks .nil) = z := ⟨_, rfl⟩
  have HTU : Hid (∀ W : World, Below W0.heap.size W0 W → Calls Try.prog 16 #[.agg #[.int .i64 t.k, .int .i64 t.n, .slice la t.ls.len lc, .slice ka t.ks.len kc], .agg #[.int .i64 u.k, .int .i64 u.n, .slice la' u.ls.len lc', .slice ka' u.ks.len kc']] W fun e w' => e = .returned (.bool z) ∧ Below W.heap.size W w') := Lib.hid (by
    intro W h
    have p := (T9.out.later h).2
    have q := (U9.out.later h).2
    have r := tSame_any t.ks u.ks t.k t.n u.k u.n t.ls u.ls la la' ka ka' lc lc' kc kc' W.heap.size W (p.1.mono p.2.2) (q.1.mono q.2.2) (p.2.1.mono p.2.2) (q.2.1.mono q.2.2) (Nat.le_refl _) HST.out HSU.out
    rwa [hz] at r)
  have HRU : Hid (∀ W : World, Below W0.heap.size W0 W → Calls Try.prog 19 #[.agg #[.int .i64 t.k, .int .i64 t.n, .slice la t.ls.len lc, .slice ka t.ks.len kc], .agg #[.int .i64 u.k, .int .i64 u.n, .slice la' u.ls.len lc', .slice ka' u.ks.len kc']] W fun e w' => e = .returned (.bool z) ∧ Below W.heap.size W w') := Lib.hid (by
    intro W h
    have p := (T9.out.later h).2
    have q := (U9.out.later h).2
    have r := r13same_any (t.ks.size + 1) t.ks u.ks (Nat.lt_succ_self _) t.k t.n u.k u.n t.ls u.ls la la' ka ka' lc lc' kc kc' W.heap.size W (p.1.mono p.2.2) (q.1.mono q.2.2) (p.2.1.mono p.2.2) (q.2.1.mono q.2.2) (Nat.le_refl _)
    rwa [hz] at r)
  have HNX : Hid (∀ wN : World, Below W0.heap.size W0 wN → (fun w' => Hid (Below W0.heap.size W0 w') ∧ w'.cell? ⟨w1.heap.size, 0, none⟩ = some (.int .i64 A.1.k) ∧ w'.cell? ⟨w1.heap.size, 1, none⟩ = some (.int .i64 A.1.n) ∧ w'.cell? ⟨w1.heap.size, 2, none⟩ = some (.slice ax A.1.ls.len ac) ∧ w'.cell? ⟨w1.heap.size, 3, none⟩ = some (.slice ay A.1.ks.len ad) ∧ w'.cell? ⟨w2.heap.size, 0, none⟩ = some (.int .i64 A.1.k) ∧ w'.cell? ⟨w2.heap.size, 1, none⟩ = some (.int .i64 A.1.n) ∧ w'.cell? ⟨w2.heap.size, 2, none⟩ = some (.slice bx A.1.ls.len bc) ∧ w'.cell? ⟨w2.heap.size, 3, none⟩ = some (.slice by2 A.1.ks.len bd) ∧ w'.cell? ⟨w3.heap.size, 0, none⟩ = some (.int .i64 O.1.k) ∧ w'.cell? ⟨w3.heap.size, 1, none⟩ = some (.int .i64 O.1.n) ∧ w'.cell? ⟨w3.heap.size, 2, none⟩ = some (.slice cx O.1.ls.len cc) ∧ w'.cell? ⟨w3.heap.size, 3, none⟩ = some (.slice cy O.1.ks.len cd) ∧ w'.cell? ⟨w4.heap.size, 0, none⟩ = some (.int .i64 O.1.k) ∧ w'.cell? ⟨w4.heap.size, 1, none⟩ = some (.int .i64 O.1.n) ∧ w'.cell? ⟨w4.heap.size, 2, none⟩ = some (.slice dx O.1.ls.len dc) ∧ w'.cell? ⟨w4.heap.size, 3, none⟩ = some (.slice dy O.1.ks.len dd) ∧ w'.cell? ⟨w.heap.size, 0, none⟩ = some (.int .i64 t.k) ∧ w'.cell? ⟨w.heap.size, 1, none⟩ = some (.int .i64 t.n) ∧ w'.cell? ⟨w.heap.size, 2, none⟩ = some (.slice la t.ls.len lc) ∧ w'.cell? ⟨w.heap.size, 3, none⟩ = some (.slice ka t.ks.len kc) ∧ w'.cell? ⟨w.heap.size + 1, 0, none⟩ = some (.int .i64 u.k) ∧ w'.cell? ⟨w.heap.size + 1, 1, none⟩ = some (.int .i64 u.n) ∧ w'.cell? ⟨w.heap.size + 1, 2, none⟩ = some (.slice la' u.ls.len lc') ∧ w'.cell? ⟨w.heap.size + 1, 3, none⟩ = some (.slice ka' u.ks.len kc')) wN) := Lib.hid (by
    intro wN hX
    exact ⟨Lib.hid hX, (bcell hX _ _ hA).trans a0, (bcell hX _ _ hA).trans a1, (bcell hX _ _ hA).trans a2, (bcell hX _ _ hA).trans a3, (bcell hX _ _ hBB).trans b0, (bcell hX _ _ hBB).trans b1, (bcell hX _ _ hBB).trans b2, (bcell hX _ _ hBB).trans b3, (bcell hX _ _ hC).trans c0, (bcell hX _ _ hC).trans c1, (bcell hX _ _ hC).trans c2, (bcell hX _ _ hC).trans c3, (bcell hX _ _ hD).trans d0, (bcell hX _ _ hD).trans d1, (bcell hX _ _ hD).trans d2, (bcell hX _ _ hD).trans d3, (bcell hX _ _ hT).trans t0, (bcell hX _ _ hT).trans t1, (bcell hX _ _ hT).trans t2, (bcell hX _ _ hT).trans t3, (bcell hX _ _ hU).trans u0, (bcell hX _ _ hU).trans u1, (bcell hX _ _ hU).trans u2, (bcell hX _ _ hU).trans u3⟩)
  obtain ⟨y1, hy1⟩ : ∃ y, tRightB by' 3 fr t.k t.n t.ls t.ks = y := ⟨_, rfl⟩
  obtain ⟨y2, hy2⟩ : ∃ y, tRightB 2 fr by' t.k t.n t.ls t.ks = y := ⟨_, rfl⟩
  obtain ⟨F, hF⟩ : ∃ y, fr1 t.k t.n t.ks = y := ⟨_, rfl⟩
  obtain ⟨x, hx⟩ : ∃ y, shB t.k t.n t.ls t.ks = y := ⟨_, rfl⟩
  have HR1 : Hid (∀ W : World, Below W0.heap.size W0 W → Calls Try.prog 20 #[.agg #[.int .i64 t.k, .int .i64 t.n, .slice la t.ls.len lc, .slice ka t.ks.len kc], .int .i64 fr, .int .i64 by', .int .i64 3] W fun e w' => e = .returned (.bool y1) ∧ Below W.heap.size W w') := Lib.hid (by
    intro W h
    have p := (T9.out.later h).2
    have r := tRight_any by' 3 fr t.k t.n t.ls t.ks la ka lc kc W.heap.size W (p.1.mono p.2.2) (p.2.1.mono p.2.2) (Nat.le_refl _)
    rwa [hy1] at r)
  have HQ1 : Hid (∀ W : World, Below W0.heap.size W0 W → Calls Try.prog 25 #[.agg #[.int .i64 t.k, .int .i64 t.n, .slice la t.ls.len lc, .slice ka t.ks.len kc], .int .i64 fr, .int .i64 by', .int .i64 3] W fun e w' => e = .returned (.bool y1) ∧ Below W.heap.size W w') := Lib.hid (by
    intro W h
    have p := (T9.out.later h).2
    have r := r13Right_any by' 3 fr t.k t.n t.ls t.ks la ka lc kc W.heap.size W (p.1.mono p.2.2) (p.2.1.mono p.2.2) (Nat.le_refl _)
    rwa [hy1] at r)
  have HR2 : Hid (∀ W : World, Below W0.heap.size W0 W → Calls Try.prog 20 #[.agg #[.int .i64 t.k, .int .i64 t.n, .slice la t.ls.len lc, .slice ka t.ks.len kc], .int .i64 by', .int .i64 2, .int .i64 fr] W fun e w' => e = .returned (.bool y2) ∧ Below W.heap.size W w') := Lib.hid (by
    intro W h
    have p := (T9.out.later h).2
    have r := tRight_any 2 fr by' t.k t.n t.ls t.ks la ka lc kc W.heap.size W (p.1.mono p.2.2) (p.2.1.mono p.2.2) (Nat.le_refl _)
    rwa [hy2] at r)
  have HQ2 : Hid (∀ W : World, Below W0.heap.size W0 W → Calls Try.prog 25 #[.agg #[.int .i64 t.k, .int .i64 t.n, .slice la t.ls.len lc, .slice ka t.ks.len kc], .int .i64 by', .int .i64 2, .int .i64 fr] W fun e w' => e = .returned (.bool y2) ∧ Below W.heap.size W w') := Lib.hid (by
    intro W h
    have p := (T9.out.later h).2
    have r := r13Right_any 2 fr by' t.k t.n t.ls t.ks la ka lc kc W.heap.size W (p.1.mono p.2.2) (p.2.1.mono p.2.2) (Nat.le_refl _)
    rwa [hy2] at r)
  have HSP : Hid (∀ W : World, Below W0.heap.size W0 W → Calls Try.prog 26 #[.agg #[.int .i64 t.k, .int .i64 t.n, .slice la t.ls.len lc, .slice ka t.ks.len kc]] W fun e w' => e = .returned (.bool x) ∧ Below W.heap.size W w') := Lib.hid (by
    intro W h
    have p := (T9.out.later h).2
    have r := r13Shape_any t.k t.n t.ls t.ks la ka lc kc W.heap.size W (p.1.mono p.2.2) (p.2.1.mono p.2.2) (Nat.le_refl _)
    rwa [hx] at r)
  have HFP : Hid (x = true → ∀ W : World, Below W0.heap.size W0 W → Calls Try.prog 21 #[.agg #[.int .i64 t.k, .int .i64 t.n, .slice la t.ls.len lc, .slice ka t.ks.len kc]] W fun e w' => e = .returned (.int .i64 F) ∧ Below W.heap.size W w') := Lib.hid (by
    intro hxt W h
    have p := (T9.out.later h).2
    have r := tFree_any t.k t.n t.ls t.ks la ka lc kc W.heap.size W (p.1.mono p.2.2) (p.2.1.mono p.2.2) (Nat.le_refl _)
    rwa [if_pos (hx.trans hxt), hF] at r)
  have HFD : Hid (x = true → ∀ W : World, Below W0.heap.size W0 W → Calls Try.prog 27 #[.agg #[.int .i64 t.k, .int .i64 t.n, .slice la t.ls.len lc, .slice ka t.ks.len kc]] W fun e w' => e = .returned (.int .i64 F) ∧ Below W.heap.size W w') := Lib.hid (by
    intro hxt W h
    have p := (T9.out.later h).2
    have r := r13free_any (t.ks.size + 1) t.ks (Nat.lt_succ_self _) t.k t.n t.ls la ka lc kc W.heap.size W (wf_of_sh (hx.trans hxt)) (p.2.1.mono p.2.2) (Nat.le_refl _)
    rwa [hF] at r)
  have HNY : Hid (∀ wN : World, Below W0.heap.size W0 wN → wN.cell? ⟨w.heap.size, 0, none⟩ = some (.int .i64 t.k) ∧ wN.cell? ⟨w.heap.size, 1, none⟩ = some (.int .i64 t.n) ∧ wN.cell? ⟨w.heap.size, 2, none⟩ = some (.slice la t.ls.len lc) ∧ wN.cell? ⟨w.heap.size, 3, none⟩ = some (.slice ka t.ks.len kc)) := Lib.hid (fun wN hX => (T9.out.later hX).cells)
  clear hz hy1 hy2 hF hx hA hBB hC hD hT hU hz1 A9 B9 C9 D9 T9 U9 HSU HST
  generalize A.1.k = azk at a0 b0 HAB HNX ⊢
  generalize A.1.n = azn at a1 b1 HAB HNX ⊢
  generalize A.1.ls.len = azl at a2 b2 HAB HNX ⊢
  generalize A.1.ks.len = azs at a3 b3 HAB HNX ⊢
  generalize A.2 = ae
  generalize O.1.k = ozk at c0 d0 HCD HNX ⊢
  generalize O.1.n = ozn at c1 d1 HCD HNX ⊢
  generalize O.1.ls.len = ozl at c2 d2 HCD HNX ⊢
  generalize O.1.ks.len = ozs at c3 d3 HCD HNX ⊢
  generalize O.2 = oe
  generalize t.k = tzk at t0 HTU HRU HR1 HQ1 HR2 HQ2 HSP HFP HFD HNY HNX ⊢
  generalize u.k = uzk at u0 HTU HRU HNX ⊢
  generalize t.n = tzn at t1 HTU HRU HR1 HQ1 HR2 HQ2 HSP HFP HFD HNY HNX ⊢
  generalize u.n = uzn at u1 HTU HRU HNX ⊢
  generalize t.ls.len = tzl at t2 HTU HRU HR1 HQ1 HR2 HQ2 HSP HFP HFD HNY HNX ⊢
  generalize u.ls.len = uzl at u2 HTU HRU HNX ⊢
  generalize t.ks.len = tzs at t3 HTU HRU HR1 HQ1 HR2 HQ2 HSP HFP HFD HNY HNX ⊢
  generalize u.ks.len = uzs at u3 HTU HRU HNX ⊢
  clear A O
  go_region_held3 (fun w' => Hid (Below W0.heap.size W0 w') ∧ w'.cell? ⟨w1.heap.size, 0, none⟩ = some (.int .i64 azk) ∧ w'.cell? ⟨w1.heap.size, 1, none⟩ = some (.int .i64 azn) ∧ w'.cell? ⟨w1.heap.size, 2, none⟩ = some (.slice ax azl ac) ∧ w'.cell? ⟨w1.heap.size, 3, none⟩ = some (.slice ay azs ad) ∧ w'.cell? ⟨w2.heap.size, 0, none⟩ = some (.int .i64 azk) ∧ w'.cell? ⟨w2.heap.size, 1, none⟩ = some (.int .i64 azn) ∧ w'.cell? ⟨w2.heap.size, 2, none⟩ = some (.slice bx azl bc) ∧ w'.cell? ⟨w2.heap.size, 3, none⟩ = some (.slice by2 azs bd) ∧ w'.cell? ⟨w3.heap.size, 0, none⟩ = some (.int .i64 ozk) ∧ w'.cell? ⟨w3.heap.size, 1, none⟩ = some (.int .i64 ozn) ∧ w'.cell? ⟨w3.heap.size, 2, none⟩ = some (.slice cx ozl cc) ∧ w'.cell? ⟨w3.heap.size, 3, none⟩ = some (.slice cy ozs cd) ∧ w'.cell? ⟨w4.heap.size, 0, none⟩ = some (.int .i64 ozk) ∧ w'.cell? ⟨w4.heap.size, 1, none⟩ = some (.int .i64 ozn) ∧ w'.cell? ⟨w4.heap.size, 2, none⟩ = some (.slice dx ozl dc) ∧ w'.cell? ⟨w4.heap.size, 3, none⟩ = some (.slice dy ozs dd) ∧ w'.cell? ⟨w.heap.size, 0, none⟩ = some (.int .i64 tzk) ∧ w'.cell? ⟨w.heap.size, 1, none⟩ = some (.int .i64 tzn) ∧ w'.cell? ⟨w.heap.size, 2, none⟩ = some (.slice la tzl lc) ∧ w'.cell? ⟨w.heap.size, 3, none⟩ = some (.slice ka tzs kc) ∧ w'.cell? ⟨w.heap.size + 1, 0, none⟩ = some (.int .i64 uzk) ∧ w'.cell? ⟨w.heap.size + 1, 1, none⟩ = some (.int .i64 uzn) ∧ w'.cell? ⟨w.heap.size + 1, 2, none⟩ = some (.slice la' uzl lc') ∧ w'.cell? ⟨w.heap.size + 1, 3, none⟩ = some (.slice ka' uzs kc'))
    (first | exact ⟨Lib.hid (Below.refl _ _).drew, a0, a1, a2, a3, b0, b1, b2, b3, c0, c1, c2, c3, d0, d1, d2, d3, t0, t1, t2, t3, u0, u1, u2, u3⟩ | (go_split_ands; exact HNX.out _ (Below.step (Hid.out (by assumption)) hbN (Nat.le_refl _))))
    (first | (go_at_call 19; go_split_ands; with_reducible refine (HAB.out _ (Hid.out (by assumption))).mono ?_; rintro e wN ⟨rfl, hbN⟩) | (go_at_call 19; go_split_ands; with_reducible refine (HCD.out _ (Hid.out (by assumption))).mono ?_; rintro e wN ⟨rfl, hbN⟩) | (go_at_call 19; go_split_ands; with_reducible refine (HRU.out _ (Hid.out (by assumption))).mono ?_; rintro e wN ⟨rfl, hbN⟩) | (go_at_call 16; go_split_ands; with_reducible refine (HTU.out _ (Hid.out (by assumption))).mono ?_; rintro e wN ⟨rfl, hbN⟩))
  go_split_ands
  have HBN : Hid (Below W0.heap.size W0 wN) := by assumption
  obtain ⟨e0, e1, e2, e3⟩ := HNY.out _ HBN.out
  clear hbN HAB HCD HTU HRU HNX
  go_wp2_with fail
  cases x with
  | false =>
    refine wp_region_held_drew (S := fun w' => Hid (Below W0.heap.size W0 w') ∧ w'.cell? ⟨w.heap.size, 0, none⟩ = some (.int .i64 tzk) ∧ w'.cell? ⟨w.heap.size, 1, none⟩ = some (.int .i64 tzn) ∧ w'.cell? ⟨w.heap.size, 2, none⟩ = some (.slice la tzl lc) ∧ w'.cell? ⟨w.heap.size, 3, none⟩ = some (.slice ka tzs kc)) (by kernel_rfl) (⟨Lib.hid HBN.out.drew, e0, e1, e2, e3⟩) (fun hH => ?_)
    try simp only [Act.put, List.setIfInBounds_toArray, List.set_cons_zero, List.set_cons_succ]
    refine wpAnyH_take (i := 0) (v := ?_) (by simp only [List.getElem?_toArray, List.getElem?_cons_zero]; rfl) (by kernel_rfl) (by kernel_rfl) (by kernel_rfl) (by intro _ _ _ h; exact h) (Or.inl ⟨by rfl, ?_⟩) hH ?_
    rotate_left
    · intro w' hSw
      obtain ⟨s0, s1, s2, s3, s4⟩ := hSw
      go_simp
      try with_reducible rfl
    try simp only [Act.put, List.setIfInBounds_toArray, List.set_cons_zero, List.set_cons_succ]
    refine wpAnyH_take (i := 1) (v := ?_) (by simp only [List.getElem?_toArray, List.getElem?_cons_succ, List.getElem?_cons_zero]; rfl) (by kernel_rfl) (by kernel_rfl) (by kernel_rfl) (by intro _ _ _ h; exact h) (Or.inl ⟨by rfl, ?_⟩) hH ?_
    rotate_left
    · intro w' hSw
      obtain ⟨s0, s1, s2, s3, s4⟩ := hSw
      go_simp
      try with_reducible rfl
    try simp only [Act.put, List.setIfInBounds_toArray, List.set_cons_zero, List.set_cons_succ]
    refine wpAnyH_take (i := 2) (v := ?_) (by simp only [List.getElem?_toArray, List.getElem?_cons_succ, List.getElem?_cons_zero]; rfl) (by kernel_rfl) (by kernel_rfl) (by kernel_rfl) (by intro _ _ _ h; exact h) (Or.inl ⟨by rfl, ?_⟩) hH ?_
    rotate_left
    · intro w' hSw
      obtain ⟨s0, s1, s2, s3, s4⟩ := hSw
      go_simp
      try with_reducible rfl
    try simp only [Act.put, List.setIfInBounds_toArray, List.set_cons_zero, List.set_cons_succ]
    refine wpAnyH_take (i := 4) (v := ?_) (by simp only [List.getElem?_toArray, List.getElem?_cons_succ, List.getElem?_cons_zero]; rfl) (by kernel_rfl) (by kernel_rfl) (by kernel_rfl) (by intro _ _ _ h; exact h) (Or.inl ⟨by rfl, ?_⟩) hH ?_
    rotate_left
    · intro w' hSw
      obtain ⟨s0, s1, s2, s3, s4⟩ := hSw
      go_simp
      try with_reducible rfl
    try simp only [Act.put, List.setIfInBounds_toArray, List.set_cons_zero, List.set_cons_succ]
    refine wpAnyH_take (i := 5) (v := ?_) (by simp only [List.getElem?_toArray, List.getElem?_cons_succ, List.getElem?_cons_zero]; rfl) (by kernel_rfl) (by kernel_rfl) (by kernel_rfl) (by intro _ _ _ h; exact h) (Or.inl ⟨by rfl, ?_⟩) hH ?_
    rotate_left
    · intro w' hSw
      obtain ⟨s0, s1, s2, s3, s4⟩ := hSw
      go_simp
      try with_reducible rfl
    try simp only [Act.put, List.setIfInBounds_toArray, List.set_cons_zero, List.set_cons_succ]
    refine wpAnyH_take (i := 6) (v := ?_) (by simp only [List.getElem?_toArray, List.getElem?_cons_succ, List.getElem?_cons_zero]; rfl) (by kernel_rfl) (by kernel_rfl) (by kernel_rfl) (by intro _ _ _ h; exact h) (Or.inl ⟨by rfl, ?_⟩) hH ?_
    rotate_left
    · intro w' hSw
      obtain ⟨s0, s1, s2, s3, s4⟩ := hSw
      go_simp
      try with_reducible rfl
    try simp only [Act.put, List.setIfInBounds_toArray, List.set_cons_zero, List.set_cons_succ]
    refine wpAnyH_ready (rs := [3]) (by kernel_rfl) (by simp) ?_
    refine AllReadyH.cons (o := _) (by simp only [List.getElem?_toArray, List.getElem?_cons_succ, List.getElem?_cons_zero]; rfl) (fun K hK => ?_) AllReadyH.nil
    go_simp
    go_at_call 20
    refine (HR1.out _ hH.1.out).mono ?_
    rintro e w7 ⟨rfl, hb7⟩
    have hX := Below.step hH.1.out hb7 (Nat.le_refl _)
    clear hH hb7
    refine hK.out _ _ ⟨Lib.hid hX, HNY.out _ hX⟩ (fun hH => ?_)
    clear hK K hX
    try simp only [Act.put, List.setIfInBounds_toArray, List.set_cons_zero, List.set_cons_succ]
    refine wpAnyH_ready (rs := [7]) (by kernel_rfl) (by simp) ?_
    refine AllReadyH.cons (o := _) (by simp only [List.getElem?_toArray, List.getElem?_cons_succ, List.getElem?_cons_zero]; rfl) (fun K hK => ?_) AllReadyH.nil
    go_simp
    go_at_call 25
    refine (HQ1.out _ hH.1.out).mono ?_
    rintro e w7 ⟨rfl, hb7⟩
    have hX := Below.step hH.1.out hb7 (Nat.le_refl _)
    clear hH hb7
    refine hK.out _ _ ⟨Lib.hid hX, HNY.out _ hX⟩ (fun hH => ?_)
    clear hK K hX
    try simp only [Act.put, List.setIfInBounds_toArray, List.set_cons_zero, List.set_cons_succ]
    refine wpAnyH_take (i := 8) (v := ?_) (by simp only [List.getElem?_toArray, List.getElem?_cons_succ, List.getElem?_cons_zero]; rfl) (by kernel_rfl) (by kernel_rfl) (by kernel_rfl) (by intro _ _ _ h; exact h) (Or.inl ⟨by rfl, ?_⟩) hH ?_
    rotate_left
    · intro w' hSw
      obtain ⟨s0, s1, s2, s3, s4⟩ := hSw
      go_simp
      try with_reducible rfl
    try simp only [Act.put, List.setIfInBounds_toArray, List.set_cons_zero, List.set_cons_succ]
    refine wpAnyH_take (i := 9) (v := ?_) (by simp only [List.getElem?_toArray, List.getElem?_cons_succ, List.getElem?_cons_zero]; rfl) (by kernel_rfl) (by kernel_rfl) (by kernel_rfl) (by intro _ _ _ h; exact h) (Or.inl ⟨by rfl, ?_⟩) hH ?_
    rotate_left
    · intro w' hSw
      obtain ⟨s0, s1, s2, s3, s4⟩ := hSw
      go_simp
      try with_reducible rfl
    try simp only [Act.put, List.setIfInBounds_toArray, List.set_cons_zero, List.set_cons_succ]
    refine wpAnyH_take (i := 10) (v := ?_) (by simp only [List.getElem?_toArray, List.getElem?_cons_succ, List.getElem?_cons_zero]; rfl) (by kernel_rfl) (by kernel_rfl) (by kernel_rfl) (by intro _ _ _ h; exact h) (Or.inl ⟨by rfl, ?_⟩) hH ?_
    rotate_left
    · intro w' hSw
      obtain ⟨s0, s1, s2, s3, s4⟩ := hSw
      go_simp
      try with_reducible rfl
    try simp only [Act.put, List.setIfInBounds_toArray, List.set_cons_zero, List.set_cons_succ]
    refine wpAnyH_take (i := 11) (v := ?_) (by simp only [List.getElem?_toArray, List.getElem?_cons_succ, List.getElem?_cons_zero]; rfl) (by kernel_rfl) (by kernel_rfl) (by kernel_rfl) (by intro _ _ _ h; exact h) (Or.inl ⟨by rfl, ?_⟩) hH ?_
    rotate_left
    · intro w' hSw
      obtain ⟨s0, s1, s2, s3, s4⟩ := hSw
      go_simp
      try with_reducible rfl
    try simp only [Act.put, List.setIfInBounds_toArray, List.set_cons_zero, List.set_cons_succ]
    refine wpAnyH_take (i := 12) (v := ?_) (by simp only [List.getElem?_toArray, List.getElem?_cons_succ, List.getElem?_cons_zero]; rfl) (by kernel_rfl) (by kernel_rfl) (by kernel_rfl) (by intro _ _ _ h; exact h) (Or.inl ⟨by rfl, ?_⟩) hH ?_
    rotate_left
    · intro w' hSw
      obtain ⟨s0, s1, s2, s3, s4⟩ := hSw
      go_simp
      try with_reducible rfl
    try simp only [Act.put, List.setIfInBounds_toArray, List.set_cons_zero, List.set_cons_succ]
    refine wpAnyH_take (i := 14) (v := ?_) (by simp only [List.getElem?_toArray, List.getElem?_cons_succ, List.getElem?_cons_zero]; rfl) (by kernel_rfl) (by kernel_rfl) (by kernel_rfl) (by intro _ _ _ h; exact h) (Or.inl ⟨by rfl, ?_⟩) hH ?_
    rotate_left
    · intro w' hSw
      obtain ⟨s0, s1, s2, s3, s4⟩ := hSw
      go_simp
      try with_reducible rfl
    try simp only [Act.put, List.setIfInBounds_toArray, List.set_cons_zero, List.set_cons_succ]
    refine wpAnyH_take (i := 15) (v := ?_) (by simp only [List.getElem?_toArray, List.getElem?_cons_succ, List.getElem?_cons_zero]; rfl) (by kernel_rfl) (by kernel_rfl) (by kernel_rfl) (by intro _ _ _ h; exact h) (Or.inl ⟨by rfl, ?_⟩) hH ?_
    rotate_left
    · intro w' hSw
      obtain ⟨s0, s1, s2, s3, s4⟩ := hSw
      go_simp
      try with_reducible rfl
    try simp only [Act.put, List.setIfInBounds_toArray, List.set_cons_zero, List.set_cons_succ]
    refine wpAnyH_take (i := 16) (v := ?_) (by simp only [List.getElem?_toArray, List.getElem?_cons_succ, List.getElem?_cons_zero]; rfl) (by kernel_rfl) (by kernel_rfl) (by kernel_rfl) (by intro _ _ _ h; exact h) (Or.inl ⟨by rfl, ?_⟩) hH ?_
    rotate_left
    · intro w' hSw
      obtain ⟨s0, s1, s2, s3, s4⟩ := hSw
      go_simp
      try with_reducible rfl
    try simp only [Act.put, List.setIfInBounds_toArray, List.set_cons_zero, List.set_cons_succ]
    refine wpAnyH_ready (rs := [13]) (by kernel_rfl) (by simp) ?_
    refine AllReadyH.cons (o := _) (by simp only [List.getElem?_toArray, List.getElem?_cons_succ, List.getElem?_cons_zero]; rfl) (fun K hK => ?_) AllReadyH.nil
    go_simp
    go_at_call 20
    refine (HR2.out _ hH.1.out).mono ?_
    rintro e w7 ⟨rfl, hb7⟩
    have hX := Below.step hH.1.out hb7 (Nat.le_refl _)
    clear hH hb7
    refine hK.out _ _ ⟨Lib.hid hX, HNY.out _ hX⟩ (fun hH => ?_)
    clear hK K hX
    try simp only [Act.put, List.setIfInBounds_toArray, List.set_cons_zero, List.set_cons_succ]
    refine wpAnyH_ready (rs := [17]) (by kernel_rfl) (by simp) ?_
    refine AllReadyH.cons (o := _) (by simp only [List.getElem?_toArray, List.getElem?_cons_succ, List.getElem?_cons_zero]; rfl) (fun K hK => ?_) AllReadyH.nil
    go_simp
    go_at_call 25
    refine (HQ2.out _ hH.1.out).mono ?_
    rintro e w7 ⟨rfl, hb7⟩
    have hX := Below.step hH.1.out hb7 (Nat.le_refl _)
    clear hH hb7
    refine hK.out _ _ ⟨Lib.hid hX, HNY.out _ hX⟩ (fun hH => ?_)
    clear hK K hX
    try simp only [Act.put, List.setIfInBounds_toArray, List.set_cons_zero, List.set_cons_succ]
    refine wpAnyH_take (i := 18) (v := ?_) (by simp only [List.getElem?_toArray, List.getElem?_cons_succ, List.getElem?_cons_zero]; rfl) (by kernel_rfl) (by kernel_rfl) (by kernel_rfl) (by intro _ _ _ h; exact h) (Or.inl ⟨by rfl, ?_⟩) hH ?_
    rotate_left
    · intro w' hSw
      obtain ⟨s0, s1, s2, s3, s4⟩ := hSw
      go_simp
      try with_reducible rfl
    try simp only [Act.put, List.setIfInBounds_toArray, List.set_cons_zero, List.set_cons_succ]
    refine wpAnyH_take (i := 19) (v := ?_) (by simp only [List.getElem?_toArray, List.getElem?_cons_succ, List.getElem?_cons_zero]; rfl) (by kernel_rfl) (by kernel_rfl) (by kernel_rfl) (by intro _ _ _ h; exact h) (Or.inl ⟨by rfl, ?_⟩) hH ?_
    rotate_left
    · intro w' hSw
      obtain ⟨s0, s1, s2, s3, s4⟩ := hSw
      go_simp
      try with_reducible rfl
    try simp only [Act.put, List.setIfInBounds_toArray, List.set_cons_zero, List.set_cons_succ]
    refine wpAnyH_take (i := 20) (v := ?_) (by simp only [List.getElem?_toArray, List.getElem?_cons_succ, List.getElem?_cons_zero]; rfl) (by kernel_rfl) (by kernel_rfl) (by kernel_rfl) (by intro _ _ _ h; exact h) (Or.inl ⟨by rfl, ?_⟩) hH ?_
    rotate_left
    · intro w' hSw
      obtain ⟨s0, s1, s2, s3, s4⟩ := hSw
      go_simp
      try with_reducible rfl
    try simp only [Act.put, List.setIfInBounds_toArray, List.set_cons_zero, List.set_cons_succ]
    refine wpAnyH_take (i := 21) (v := ?_) (by simp only [List.getElem?_toArray, List.getElem?_cons_succ, List.getElem?_cons_zero]; rfl) (by kernel_rfl) (by kernel_rfl) (by kernel_rfl) (by intro _ _ _ h; exact h) (Or.inl ⟨by rfl, ?_⟩) hH ?_
    rotate_left
    · intro w' hSw
      obtain ⟨s0, s1, s2, s3, s4⟩ := hSw
      go_simp
      try with_reducible rfl
    try simp only [Act.put, List.setIfInBounds_toArray, List.set_cons_zero, List.set_cons_succ]
    refine wpAnyH_ready (rs := [22]) (by kernel_rfl) (by simp) ?_
    refine AllReadyH.cons (o := _) (by simp only [List.getElem?_toArray, List.getElem?_cons_succ, List.getElem?_cons_zero]; rfl) (fun K hK => ?_) AllReadyH.nil
    go_simp
    go_at_call 26
    refine (HSP.out _ hH.1.out).mono ?_
    rintro e w7 ⟨rfl, hb7⟩
    have hX := Below.step hH.1.out hb7 (Nat.le_refl _)
    clear hH hb7
    refine hK.out _ _ ⟨Lib.hid hX, HNY.out _ hX⟩ (fun hH => ?_)
    clear hK K hX
    try simp only [Act.put, List.setIfInBounds_toArray, List.set_cons_zero, List.set_cons_succ]
    refine wpAnyH_take (i := 23) (v := ?_) (by simp only [List.getElem?_toArray, List.getElem?_cons_succ, List.getElem?_cons_zero]; rfl) (by kernel_rfl) (by kernel_rfl) (by kernel_rfl) (by intro _ _ _ h; exact h) (Or.inl ⟨by rfl, ?_⟩) hH ?_
    rotate_left
    · intro w' hSw
      obtain ⟨s0, s1, s2, s3, s4⟩ := hSw
      go_simp
      try with_reducible rfl
    try simp only [Act.put, List.setIfInBounds_toArray, List.set_cons_zero, List.set_cons_succ]
    refine wpAnyH_take (i := 24) (v := ?_) (by simp only [List.getElem?_toArray, List.getElem?_cons_succ, List.getElem?_cons_zero]; rfl) (by kernel_rfl) (by kernel_rfl) (by kernel_rfl) (by intro _ _ _ h; exact h) (Or.inl ⟨by rfl, ?_⟩) hH ?_
    rotate_left
    · intro w' hSw
      obtain ⟨s0, s1, s2, s3, s4⟩ := hSw
      go_simp
      try with_reducible rfl
    try simp only [Act.put, List.setIfInBounds_toArray, List.set_cons_zero, List.set_cons_succ]
    refine wpAnyH_take (i := 25) (v := undef) (by simp only [List.getElem?_toArray, List.getElem?_cons_succ, List.getElem?_cons_zero]; rfl) (by kernel_rfl) (by kernel_rfl) (by kernel_rfl) (by intro _ _ _ h; exact h) (Or.inr ⟨by rfl, rfl⟩) hH ?_
    try simp only [Act.put, List.setIfInBounds_toArray, List.set_cons_zero, List.set_cons_succ]
    refine wpAnyH_take (i := 26) (v := undef) (by simp only [List.getElem?_toArray, List.getElem?_cons_succ, List.getElem?_cons_zero]; rfl) (by kernel_rfl) (by kernel_rfl) (by kernel_rfl) (by intro _ _ _ h; exact h) (Or.inr ⟨by rfl, rfl⟩) hH ?_
    try simp only [Act.put, List.setIfInBounds_toArray, List.set_cons_zero, List.set_cons_succ]
    refine wpAnyH_take (i := 27) (v := undef) (by simp only [List.getElem?_toArray, List.getElem?_cons_succ, List.getElem?_cons_zero]; rfl) (by kernel_rfl) (by kernel_rfl) (by kernel_rfl) (by intro _ _ _ h; exact h) (Or.inr ⟨by rfl, rfl⟩) hH ?_
    try simp only [Act.put, List.setIfInBounds_toArray, List.set_cons_zero, List.set_cons_succ]
    refine wpAnyH_take (i := 28) (v := undef) (by simp only [List.getElem?_toArray, List.getElem?_cons_succ, List.getElem?_cons_zero]; rfl) (by kernel_rfl) (by kernel_rfl) (by kernel_rfl) (by intro _ _ _ h; exact h) (Or.inr ⟨by rfl, rfl⟩) hH ?_
    try simp only [Act.put, List.setIfInBounds_toArray, List.set_cons_zero, List.set_cons_succ]
    refine wpAnyH_take (i := 29) (v := undef) (by simp only [List.getElem?_toArray, List.getElem?_cons_succ, List.getElem?_cons_zero]; rfl) (by kernel_rfl) (by kernel_rfl) (by kernel_rfl) (by intro _ _ _ h; exact h) (Or.inr ⟨by rfl, rfl⟩) hH ?_
    try simp only [Act.put, List.setIfInBounds_toArray, List.set_cons_zero, List.set_cons_succ]
    refine wpAnyH_take (i := 30) (v := ?_) (by simp only [List.getElem?_toArray, List.getElem?_cons_succ, List.getElem?_cons_zero]; rfl) (by kernel_rfl) (by kernel_rfl) (by kernel_rfl) (by intro _ _ _ h; exact h) (Or.inl ⟨by rfl, ?_⟩) hH ?_
    rotate_left
    · intro w' hSw
      obtain ⟨s0, s1, s2, s3, s4⟩ := hSw
      go_simp
      try with_reducible rfl
    try simp only [Act.put, List.setIfInBounds_toArray, List.set_cons_zero, List.set_cons_succ]
    refine wpAnyH_take (i := 31) (v := ?_) (by simp only [List.getElem?_toArray, List.getElem?_cons_succ, List.getElem?_cons_zero]; rfl) (by kernel_rfl) (by kernel_rfl) (by kernel_rfl) (by intro _ _ _ h; exact h) (Or.inl ⟨by rfl, ?_⟩) hH ?_
    rotate_left
    · intro w' hSw
      obtain ⟨s0, s1, s2, s3, s4⟩ := hSw
      go_simp
      try with_reducible rfl
    try simp only [Act.put, List.setIfInBounds_toArray, List.set_cons_zero, List.set_cons_succ]
    refine wpAnyH_take (i := 32) (v := ?_) (by simp only [List.getElem?_toArray, List.getElem?_cons_succ, List.getElem?_cons_zero]; rfl) (by kernel_rfl) (by kernel_rfl) (by kernel_rfl) (by intro _ _ _ h; exact h) (Or.inl ⟨by rfl, ?_⟩) hH ?_
    rotate_left
    · intro w' hSw
      obtain ⟨s0, s1, s2, s3, s4⟩ := hSw
      go_simp
      try with_reducible rfl
    try simp only [Act.put, List.setIfInBounds_toArray, List.set_cons_zero, List.set_cons_succ]
    refine wpAnyH_done (by kernel_rfl) ?_ _
    have hEE := Lib.hid (Below.step HB9.out hH.1.out (Nat.le_refl _))
    clear hH
    go_wp2_with fail
    go_ret
    exact ⟨rfl, hEE.out⟩
  | true =>
    have HFA := Lib.hid (HFP.out (by first | rfl | trivial))
    have HFB := Lib.hid (HFD.out (by first | rfl | trivial))
    clear HFP HFD
    go_region_held3 (fun w' => Hid (Below W0.heap.size W0 w') ∧ w'.cell? ⟨w.heap.size, 0, none⟩ = some (.int .i64 tzk) ∧ w'.cell? ⟨w.heap.size, 1, none⟩ = some (.int .i64 tzn) ∧ w'.cell? ⟨w.heap.size, 2, none⟩ = some (.slice la tzl lc) ∧ w'.cell? ⟨w.heap.size, 3, none⟩ = some (.slice ka tzs kc))
      (first | exact ⟨Lib.hid HBN.out.drew, e0, e1, e2, e3⟩ | (go_split_ands; exact ⟨Lib.hid (Below.step (Hid.out (by assumption)) hbN (Nat.le_refl _)), HNY.out _ (Below.step (Hid.out (by assumption)) hbN (Nat.le_refl _))⟩))
      (first | (go_at_call 20; go_split_ands; with_reducible refine (HR1.out _ (Hid.out (by assumption))).mono ?_; rintro e wN ⟨rfl, hbN⟩) | (go_at_call 25; go_split_ands; with_reducible refine (HQ1.out _ (Hid.out (by assumption))).mono ?_; rintro e wN ⟨rfl, hbN⟩) | (go_at_call 20; go_split_ands; with_reducible refine (HR2.out _ (Hid.out (by assumption))).mono ?_; rintro e wN ⟨rfl, hbN⟩) | (go_at_call 25; go_split_ands; with_reducible refine (HQ2.out _ (Hid.out (by assumption))).mono ?_; rintro e wN ⟨rfl, hbN⟩) | (go_at_call 26; go_split_ands; with_reducible refine (HSP.out _ (Hid.out (by assumption))).mono ?_; rintro e wN ⟨rfl, hbN⟩) | (go_at_call 21; go_split_ands; with_reducible refine (HFA.out _ (Hid.out (by assumption))).mono ?_; rintro e wN ⟨rfl, hbN⟩) | (go_at_call 27; go_split_ands; with_reducible refine (HFB.out _ (Hid.out (by assumption))).mono ?_; rintro e wN ⟨rfl, hbN⟩))
    all_goals go_split_ands
    all_goals have hEE := Lib.hid (Below.step HB9.out (Hid.out (by assumption : Hid (Below W0.heap.size W0 wN))) (Nat.le_refl _))
    all_goals go_wp2_with fail
    all_goals go_ret
    all_goals exact ⟨rfl, hEE.out⟩
end Go.Proofs.Ytokckghedpdfiaa