/- For all numbers the law TermBack returns true: Open undoes Lift by 1, and Lift by two numbers is Lift by both. No condition. -/
import Derived.Test.YtokckghedpdfiaaTterm
import Derived.Test.YtokckghedpdfiaaTopenarg
import Derived.Test.YtokckghedpdfiaaMaker
import Derived.Test.YtokckghedpdfiaaTawake
import Derived.Carry
namespace Go.Proofs.Ytokckghedpdfiaa
open Go.RowKit

/-- What Made answers. -/
def MdOk (v : Int) (d : Nat) (w : World) (e : Ending) (w' : World) : Prop :=
  ∃ (T : Tm) (la : Option Addr) (lc : Nat) (ka : Option Addr) (kc : Nat), e = .returned (.agg #[.int .i64 T.k, .int .i64 T.n, .slice la T.ls.len lc, .slice ka T.ks.len kc]) ∧ okT v (d + 1 : Nat) T ∧
    SlIn w' (fun b => w.heap.size ≤ b ∧ b < w'.heap.size) T.ls la lc ∧ TlIn w' (fun b => w.heap.size ≤ b ∧ b < w'.heap.size) T.ks ka kc ∧ Below w.heap.size w w'
set_option maxRecDepth 100000 in
set_option maxHeartbeats 2000000 in
theorem tMade_any (len cap : Nat) (a : Option Addr) (B : Nat) (w : World) (hin : U8In w (· < B) len a cap) (hB : B ≤ w.heap.size) :
    Calls Try.prog 11 #[.slice a len cap] w (MdOk 3 3 w) := by
  have hb : Below w.heap.size w ((w.alloc (.cells #[.int .i64 0, .int .i64 0, .slice none 0 0, .slice none 0 0] 25)).alloc (.cells #[.slice a len cap, .int .i64 0] 47)) := ((Below.refl _ _).alloc (Nat.le_refl _) _).alloc (by simp) _
  have HB := Lib.hid hb
  have hat : MkAt ((w.alloc (.cells #[.int .i64 0, .int .i64 0, .slice none 0 0, .slice none 0 0] 25)).alloc (.cells #[.slice a len cap, .int .i64 0] 47)) (w.heap.size + 1) a len cap 0 := heap_second w _ _
  have HR := Lib.hid ((heap_old (w.alloc (.cells #[.int .i64 0, .int .i64 0, .slice none 0 0, .slice none 0 0] 25)) (.cells #[.slice a len cap, .int .i64 0] 47) (b := w.heap.size) (by simp)).trans (heap_new w _))
  have HT := Lib.hid (tTerm_any 3 3 (w.heap.size + 1) len cap 0 B a 4 _ hat (hin.below (hb.mono hB)) (by omega) (by decide) (by omega) (by omega) (by omega) (by omega))
  clear hat hb hin
  go_enter Try.func11, Try.ntmps11
  go_wp2_with fail
  refine HT.out.mono ?_
  rintro e w1 ⟨T, la, lc, ka, kc, t', rfl, ok, sl, tl, _, _, hg⟩
  have hR1 := (Only.block hg (b := w.heap.size) (by simp; omega) (by omega)).trans HR.out
  have hz1 := hg.size
  simp at hz1
  obtain ⟨r0, r1, r2, r3⟩ := cells4 hR1
  have rf := free_of hR1
  have HSL := Lib.hid sl
  have HTL := Lib.hid tl
  have HOK := Lib.hid ok
  have HG := Lib.hid hg
  clear sl tl ok hg hR1 HT
  go_wp2_with fail
  refine bodyPost_ret (v := .agg #[.int .i64 T.k, .int .i64 T.n, .slice la T.ls.len lc, .slice ka T.ks.len kc]) (by simp [results, Try.results11, go_sem, r0, r1, r2, r3]) rfl ?_
  have u := set4_only (w := w1) w.heap.size (.int .i64 T.k) (.int .i64 T.n) (.slice la T.ls.len lc) (.slice ka T.ks.len kc)
  refine ⟨T, la, lc, ka, kc, rfl, HOK.out, ?_, ?_, ?_⟩
  · exact (HSL.out.keep (fun b hb => Only.block u hb.2 (by have := hb.1; simp at this; omega))).weak (fun b hb => ⟨by have := hb.1; simp at this; omega, Nat.lt_of_lt_of_le hb.2 u.size⟩)
  · exact HTL.out.turn (fun b hb => Only.block u hb.2 (by have := hb.1; simp at this; omega)) (fun b hb => ⟨by have := hb.1; simp at this; omega, Nat.lt_of_lt_of_le hb.2 u.size⟩)
  · refine ⟨u.os.trans (HG.out.os.trans HB.out.os), u.tape.trans (HG.out.tape.trans HB.out.tape), u.output.trans (HG.out.output.trans HB.out.output), Nat.le_trans HB.out.size (Nat.le_trans HG.out.size u.size), fun q hq => ?_⟩
    rw [Only.block u (by omega) (by omega), Only.block HG.out (by simp; omega) (by omega)]
    exact HB.out.block q hq
end Go.Proofs.Ytokckghedpdfiaa
namespace Go.Proofs.Ytokckghedpdfiaa
open Go.ChangeShapes Go.WideShapes Go.ChangeAt Go.RowKit
theorem u8_range {a : Int} (w0 : (Lit.int .u8 a).wf = true) : 0 ≤ a ∧ a < 256 := by
  have e1 : IntKind.u8.min = 0 := rfl
  have e2 : IntKind.u8.max = 255 := rfl
  simp only [Lit.wf, e1, e2, Bool.and_eq_true, decide_eq_true_eq] at w0
  omega
section
variable {H : Type} {enc : TypeId × Value → H} {W : World} {base : Nat} {spare : Nat → Bool} {held : Bool}
theorem arg_nums {q : IntKind} {ty el : TypeId} (ht : Try.prog.underlying ty = some (.slice el)) (he : Try.prog.underlying el = some (.int q)) (hc : Try.prog.cellsOf el = 1) {r : Reach} {b0 : Nat} {v : Value} {d : DataW H} {p : List MemPlace} (hv : Value.okWide Try.prog W r b0 ty v) (h : DataW.Trod enc Try.prog W base spare held ty v d p) :
    ∃ (l : List Int) (a : Option Addr) (cap : Nat), v = .slice a l.length cap ∧ l.length ≤ cap ∧ cap ≤ maxLen ∧ (a = none → cap = 0) ∧ (∀ z ∈ l, (Lit.int q z).wf = true) ∧ (0 < l.length → ∃ b o, a = some ⟨b, o, none⟩ ∧ b < W.heap.size ∧ ∀ i, i < l.length → W.cell? ⟨b, o + i, none⟩ = some (.int q (l.getD i 0))) := by
  obtain ⟨a, len, cap, rfl⟩ := okWide_slice ht hv
  obtain ⟨fuel, hf⟩ := h
  rcases open_ints ht he hc hf with ⟨hcs, _⟩ | ⟨a', len', cap', zs, hcs, _, hl, hm, hz, _, hcell, hwf⟩
  · have hcs' : a = none ∧ len = 0 ∧ cap = 0 := by simpa [Value.cells] using hcs
    obtain ⟨rfl, rfl, rfl⟩ := hcs'
    exact ⟨[], none, 0, rfl, Nat.le_refl _, Nat.zero_le _, fun _ => rfl, by simp, by simp⟩
  · have hcs' : a = some a' ∧ len = len' ∧ cap = cap' := by simpa [Value.cells] using hcs
    obtain ⟨rfl, rfl, rfl⟩ := hcs'
    have hzl : len ≤ zs.length := by rw [hz]; split <;> omega
    have hlen : (zs.take len).length = len := by simp; omega
    refine ⟨zs.take len, some a', cap, by rw [hlen], by omega, hm, (fun h => by cases h), fun z hz => hwf z (List.mem_of_mem_take hz), fun h0 => ?_⟩
    rw [hlen] at h0 ⊢
    have hget : ∀ i, i < len → (zs.take len).getD i 0 = zs.getD i 0 := fun i hi => by simp [List.getD_eq_getElem?_getD, hi]
    have q0 := hcell 0 (by omega)
    have hsp : a'.spot = none := by
      cases hs : a'.spot with
      | none => rfl
      | some y => exfalso; simp [Addr.add, World.cell?, hs] at q0; split at q0 <;> simp at q0
    obtain ⟨b, o, sp⟩ := a'
    have hsp' : sp = none := hsp
    subst hsp'
    have hadd : ∀ m, (⟨b, o, none⟩ : Addr).add m = ⟨b, o + m, none⟩ := fun m => by unfold Addr.add; split <;> simp_all
    simp only [hadd] at hcell
    refine ⟨b, o, rfl, World.block_lt_of_cell? _ _ (hcell 0 (by omega)), fun i hi => ?_⟩
    rw [hget i hi]
    exact hcell i (by omega)
theorem arg_bytes {r : Reach} {b0 : Nat} {v : Value} {d : DataW H} {p : List MemPlace} (hv : Value.okWide Try.prog W r b0 29 v) (h : DataW.Trod enc Try.prog W base spare held 29 v d p) :
    ∃ (len : Nat) (a : Option Addr) (cap : Nat), v = .slice a len cap ∧ U8In W (· < W.heap.size) len a cap := by
  obtain ⟨l, a, cap, h1, h2, h3, h4, hwf, h5⟩ := arg_nums Try.underlying29 Try.underlying5 cellsU8 hv h
  refine ⟨l.length, a, cap, h1, h2, h3, h4, fun h0 => ?_⟩
  obtain ⟨b, o, ha, hb, hc⟩ := h5 h0
  refine ⟨b, o, ha, hb, fun i hi => ?_⟩
  have hm : l.getD i 0 ∈ l := by
    have e : l.getD i 0 = l[i] := by simp [List.getD_eq_getElem?_getD, hi]
    rw [e]; exact List.getElem_mem hi
  have := u8_range (hwf _ hm)
  exact ⟨_, this.1, this.2, hc i hi⟩
end
end Go.Proofs.Ytokckghedpdfiaa
namespace Go.Proofs.Ytokckghedpdfiaa.termBack
open Go.RowKit

/-- Lift, Open and Same of terms in variables. -/
theorem lift_box {T P : Tm} {fr by' : Int} (h : liftA T fr by' = (P, 0)) : ∀ (la : Option Addr) (lc : Nat) (ka : Option Addr) (kc N : Nat) (W : World), TmBox W N T la lc ka kc → Calls Try.prog 14 #[.agg #[.int .i64 T.k, .int .i64 T.n, .slice la T.ls.len lc, .slice ka T.ks.len kc], .int .i64 fr, .int .i64 by'] W (LePost (P, 0) W) := by
  intro la lc ka kc N W hb
  rw [← h]
  exact tLift_any T fr by' la ka lc kc N W hb.2.1 hb.2.2.1 hb.2.2.2
theorem open_box {T U P : Tm} (h : openA T U = (P, 0)) : ∀ (la : Option Addr) (lc : Nat) (ka : Option Addr) (kc : Nat) (ua : Option Addr) (uc : Nat) (va : Option Addr) (vc N M : Nat) (W : World), TmBox W N T la lc ka kc → TmBox W M U ua uc va vc → Calls Try.prog 15 #[.agg #[.int .i64 T.k, .int .i64 T.n, .slice la T.ls.len lc, .slice ka T.ks.len kc], .agg #[.int .i64 U.k, .int .i64 U.n, .slice ua U.ls.len uc, .slice va U.ks.len vc]] W (LePost (P, 0) W) := by
  intro la lc ka kc ua uc va vc N M W hb hb'
  rw [← h]
  exact tOpen_any T U la ka ua va lc kc uc vc W.heap.size W (hb.2.1.mono hb.2.2.2) (hb.2.2.1.mono hb.2.2.2) (hb'.2.1.mono hb'.2.2.2) (hb'.2.2.1.mono hb'.2.2.2) (Nat.le_refl _)
theorem same_box {T : Tm} (h : T.sh = true) : ∀ (la : Option Addr) (lc : Nat) (ka : Option Addr) (kc : Nat) (ua : Option Addr) (uc : Nat) (va : Option Addr) (vc N M : Nat) (W : World), TmBox W N T la lc ka kc → TmBox W M T ua uc va vc → Calls Try.prog 16 #[.agg #[.int .i64 T.k, .int .i64 T.n, .slice la T.ls.len lc, .slice ka T.ks.len kc], .agg #[.int .i64 T.k, .int .i64 T.n, .slice ua T.ls.len uc, .slice va T.ks.len vc]] W fun e w' => e = .returned (.bool true) ∧ Below W.heap.size W w' := by
  intro la lc ka kc ua uc va vc N M W hb hb'
  have sm : T.ks.size ≤ 1000000 ∧ T.ks.lvsz 1000000 ∧ T.ls.size ≤ 1000000 := by
    have := sh_small h
    exact ⟨by omega, Ft.lvsz_mono (by omega) this.2.1, by omega⟩
  have r := tSame_any T.ks T.ks T.k T.n T.k T.n T.ls T.ls la ua ka va lc uc kc vc W.heap.size W (hb.2.1.mono hb.2.2.2) (hb'.2.1.mono hb'.2.2.2) (hb.2.2.1.mono hb.2.2.2) (hb'.2.2.1.mono hb'.2.2.2) (Nat.le_refl _) sm sm
  rwa [one_refl T] at r
theorem LePost.box {A : Tm × Int} {w w' : World} {la : Option Addr} {lc : Nat} {x : Option Addr} {c : Nat} (hl : SlIn w' (fun b => w.heap.size ≤ b ∧ b < w'.heap.size) A.1.ls la lc) (hs : TlIn w' (fun b => w.heap.size ≤ b ∧ b < w'.heap.size) A.1.ks x c) : TmBox (w'.alloc (.cells #[.int .i64 A.1.k, .int .i64 A.1.n, .slice la A.1.ls.len lc, .slice x A.1.ks.len c] 25)) w'.heap.size A.1 la lc x c := TmBox.new (LePost.tmIn hl hs)

set_option maxRecDepth 100000 in
set_option maxHeartbeats 4000000 in
theorem walk (f x y : Int) (hf0 : 0 ≤ f) (hf1 : f < 256) (hx0 : 0 ≤ x) (hx1 : x < 256) (hy0 : 0 ≤ y) (hy1 : y < 256) (n1 c1 n2 c2 : Nat) (a1 a2 : Option Addr) (w : World) (h1 : U8In w (· < w.heap.size) n1 a1 c1) (h2 : U8In w (· < w.heap.size) n2 a2 c2) :
    Calls Try.prog 6 #[.slice a1 n1 c1, .slice a2 n2 c2, .int .u8 f, .int .u8 x, .int .u8 y] w fun e w' => e = .returned (.bool true) ∧ Below w.heap.size w w' := by
  have H1 := Lib.hid h1
  have H2 := Lib.hid h2
  clear h1 h2
  go_enter Try.func6, Try.ntmps6
  go_wp2_with fail
  refine (awake13_any _).mono ?_
  rintro e w1 ⟨rfl, hb1⟩
  have HB1 := Lib.hid hb1
  clear hb1
  go_wp2_with fail
  refine (tMade_any n1 c1 a1 w.heap.size w1 (H1.out.below HB1.out) HB1.out.size).mono ?_
  rintro e w2 ⟨T, la, lc, ka, kc, rfl, okt, sl1, tl1, hb2⟩
  have HB2 := Lib.hid (Below.step HB1.out hb2 (Nat.le_refl _))
  have T2 := Lib.hid (show TmIn w2 w2.heap.size T la lc ka kc from ⟨sl1.weak (fun _ h => h.2), tl1.weak (fun _ h => h.2), Nat.le_refl _⟩)
  have OKT := Lib.hid okt
  clear sl1 tl1 hb2 okt HB1
  go_wp2_with fail
  refine (tMade_any n2 c2 a2 w.heap.size w2 (H2.out.below HB2.out) HB2.out.size).mono ?_
  rintro e w3 ⟨U, ua, uc, va, vc, rfl, oku, sl2, tl2, hb3⟩
  have HB3 := Lib.hid (Below.step HB2.out hb3 (Nat.le_refl _))
  have T3 := Lib.hid (T2.out.later hb3)
  have U3 := Lib.hid (show TmIn w3 w3.heap.size U ua uc va vc from ⟨sl2.weak (fun _ h => h.2), tl2.weak (fun _ h => h.2), Nat.le_refl _⟩)
  have OKU := Lib.hid oku
  clear sl2 tl2 hb3 oku HB2 T2 H1 H2
  have hal1 : Below w3.heap.size w3 (w3.alloc (.cells #[.int .i64 T.k, .int .i64 T.n, .slice la T.ls.len lc, .slice ka T.ks.len kc] 25)) := (Below.refl _ _).alloc (Nat.le_refl _) _
  have hal2 : Below (w3.alloc (.cells #[.int .i64 T.k, .int .i64 T.n, .slice la T.ls.len lc, .slice ka T.ks.len kc] 25)).heap.size (w3.alloc (.cells #[.int .i64 T.k, .int .i64 T.n, .slice la T.ls.len lc, .slice ka T.ks.len kc] 25)) ((w3.alloc (.cells #[.int .i64 T.k, .int .i64 T.n, .slice la T.ls.len lc, .slice ka T.ks.len kc] 25)).alloc (.cells #[.int .i64 U.k, .int .i64 U.n, .slice ua U.ls.len uc, .slice va U.ks.len vc] 25)) := (Below.refl _ _).alloc (Nat.le_refl _) _
  have T4 := Lib.hid ((TmBox.new (show TmIn w3 w3.heap.size T la lc ka kc from ⟨T3.out.1.mono T3.out.2.2, T3.out.2.1.mono T3.out.2.2, Nat.le_refl _⟩)).later hal2)
  have u1 : TmIn (w3.alloc (.cells #[.int .i64 T.k, .int .i64 T.n, .slice la T.ls.len lc, .slice ka T.ks.len kc] 25)) (w3.alloc (.cells #[.int .i64 T.k, .int .i64 T.n, .slice la T.ls.len lc, .slice ka T.ks.len kc] 25)).heap.size U ua uc va vc := by
    have h := U3.out.later hal1
    exact ⟨h.1.mono (by simp), h.2.1.mono (by simp), Nat.le_refl _⟩
  have u2 := TmBox.new u1
  rw [World.size_alloc] at u2
  have U4 := Lib.hid u2
  have HB4 := Lib.hid (Below.step (Below.step HB3.out hal1 (Nat.le_refl _)) hal2 (Nat.le_refl _))
  have m0 : 0 ≤ f % 5 := by omega
  have m1 : f % 5 < 5 := by omega
  have m2 : 0 ≤ x % 9 := by omega
  have m3 : x % 9 < 9 := by omega
  have m4 : 0 ≤ y % 9 := by omega
  have m5 : y % 9 < 9 := by omega
  have okt : okT 3 4 T := OKT.out
  have oku : okT 3 4 U := OKU.out
  have e1 := liftA_ok (fr := 0) (by' := 1) okt (by omega) (by omega) (by omega) (by omega) (by omega) (by omega)
  have e2 : openA (T.rep (gL 0 1) 0) U = (T, 0) := by
    have ew := open_lift U (okt.wf (by omega) (by omega))
    have h := openA_ok (v := 3) (by omega) (okt.lift (fr := 0) (by' := 1) (by omega)) oku (by omega) (by omega) (by omega) (by rw [ew]; exact okt.sh (by omega) (by omega))
    rwa [ew] at h
  have e3 := liftA_ok (fr := f % 5) (by' := x % 9) okt (by omega) (by omega) (by omega) (by omega) (by omega) (by omega)
  have e4 := liftA_ok (fr := f % 5) (by' := y % 9) (okt.lift (fr := f % 5) (by' := x % 9) (by omega)) (by omega) (by omega) (by omega) (by omega) (by omega) (by omega)
  rw [lift_lift m2] at e4
  have e5 := liftA_ok (fr := f % 5) (by' := x % 9 + y % 9) okt (by omega) (by omega) (by omega) (by omega) (by omega) (by omega)
  have e6 : (T.rep (gL (f % 5) (x % 9 + y % 9)) 0).sh = true := (okt.lift (by omega)).sh (by omega) (by omega)
  have HL1 := Lib.hid (lift_box e1)
  have HO1 := Lib.hid (open_box e2)
  have HL2 := Lib.hid (lift_box e3)
  have HL3 := Lib.hid (lift_box e4)
  have HL4 := Lib.hid (lift_box e5)
  have HS1 := Lib.hid (same_box (okt.sh (by omega) (by omega)))
  have HS2 := Lib.hid (same_box e6)
  clear e1 e2 e3 e4 e5 e6 hal1 hal2 u1 u2 okt oku OKT OKU T3 U3 HB3
  generalize T.rep (gL 0 1) 0 = L at HL1 HO1
  generalize T.rep (gL (f % 5) (x % 9)) 0 = P at HL2 HL3
  generalize T.rep (gL (f % 5) (x % 9 + y % 9)) 0 = R at HL3 HL4 HS2
  go_wp2_with fail
  refine (HL1.out _ _ _ _ _ _ T4.out).mono ?_
  rintro e w5 ⟨xa, xc, ya, yc, rfl, hl, hk, hb⟩
  have L6 := Lib.hid (LePost.box hl hk)
  have hal : Below w5.heap.size w5 (w5.alloc (.cells #[.int .i64 L.k, .int .i64 L.n, .slice xa L.ls.len xc, .slice ya L.ks.len yc] 25)) := (Below.refl _ _).alloc (Nat.le_refl _) _
  have T6 := Lib.hid ((T4.out.later hb).later hal)
  have U6 := Lib.hid ((U4.out.later hb).later hal)
  have HB6 := Lib.hid (Below.step (Below.step HB4.out hb (Nat.le_refl _)) hal (Nat.le_refl _))
  obtain ⟨d0, d1, d2, d3⟩ := U6.out.cells
  clear hl hk hb hal T4 U4 HB4 HL1
  go_wp2_with fail
  refine (HO1.out _ _ _ _ _ _ _ _ _ _ _ L6.out U6.out).mono ?_
  rintro e w7 ⟨pa, pc, qa, qc, rfl, hl, hk, hb⟩
  have Y8 := Lib.hid (LePost.box hl hk)
  have hal : Below w7.heap.size w7 (w7.alloc (.cells #[.int .i64 T.k, .int .i64 T.n, .slice pa T.ls.len pc, .slice qa T.ks.len qc] 25)) := (Below.refl _ _).alloc (Nat.le_refl _) _
  have T8 := Lib.hid ((T6.out.later hb).later hal)
  have HB8 := Lib.hid (Below.step (Below.step HB6.out hb (Nat.le_refl _)) hal (Nat.le_refl _))
  clear d0 d1 d2 d3 hl hk hb hal T6 U6 L6 HB6 HO1
  obtain ⟨d0, d1, d2, d3⟩ := T8.out.cells
  go_wp2_with fail
  refine (HL2.out _ _ _ _ _ _ T8.out).mono ?_
  rintro e w9 ⟨ra, rc, sa, sc, rfl, hl, hk, hb⟩
  have P10 := Lib.hid (LePost.box hl hk)
  have hal : Below w9.heap.size w9 (w9.alloc (.cells #[.int .i64 P.k, .int .i64 P.n, .slice ra P.ls.len rc, .slice sa P.ks.len sc] 25)) := (Below.refl _ _).alloc (Nat.le_refl _) _
  have T10 := Lib.hid ((T8.out.later hb).later hal)
  have Y10 := Lib.hid ((Y8.out.later hb).later hal)
  have HB10 := Lib.hid (Below.step (Below.step HB8.out hb (Nat.le_refl _)) hal (Nat.le_refl _))
  clear d0 d1 d2 d3 hl hk hb hal HB8 T8 Y8
  obtain ⟨d0, d1, d2, d3⟩ := P10.out.cells
  go_wp2_with fail
  refine (HL3.out _ _ _ _ _ _ P10.out).mono ?_
  rintro e w11 ⟨ta, tc, wa, wc, rfl, hl, hk, hb⟩
  have Q12 := Lib.hid (LePost.box hl hk)
  have hal : Below w11.heap.size w11 (w11.alloc (.cells #[.int .i64 R.k, .int .i64 R.n, .slice ta R.ls.len tc, .slice wa R.ks.len wc] 25)) := (Below.refl _ _).alloc (Nat.le_refl _) _
  have T12 := Lib.hid ((T10.out.later hb).later hal)
  have Y12 := Lib.hid ((Y10.out.later hb).later hal)
  have HB12 := Lib.hid (Below.step (Below.step HB10.out hb (Nat.le_refl _)) hal (Nat.le_refl _))
  clear d0 d1 d2 d3 hl hk hb hal HB10 T10 Y10
  obtain ⟨d0, d1, d2, d3⟩ := T12.out.cells
  go_wp2_with fail
  refine (HL4.out _ _ _ _ _ _ T12.out).mono ?_
  rintro e w13 ⟨za, zc, oa, oc, rfl, hl, hk, hb⟩
  have R14 := Lib.hid (LePost.box hl hk)
  have hal : Below w13.heap.size w13 (w13.alloc (.cells #[.int .i64 R.k, .int .i64 R.n, .slice za R.ls.len zc, .slice oa R.ks.len oc] 25)) := (Below.refl _ _).alloc (Nat.le_refl _) _
  have T14 := Lib.hid ((T12.out.later hb).later hal)
  have Y14 := Lib.hid ((Y12.out.later hb).later hal)
  have Q14 := Lib.hid ((Q12.out.later hb).later hal)
  have HB14 := Lib.hid (Below.step (Below.step HB12.out hb (Nat.le_refl _)) hal (Nat.le_refl _))
  clear d0 d1 d2 d3 hl hk hb hal HB12 T12 Y12 Q12
  obtain ⟨d0, d1, d2, d3⟩ := T14.out.cells
  obtain ⟨e0, e1, e2, e3⟩ := Y14.out.cells
  go_wp2_with fail
  refine (HS1.out _ _ _ _ _ _ _ _ _ _ _ Y14.out T14.out).mono ?_
  rintro e w15 ⟨rfl, hb⟩
  have Q16 := Lib.hid (Q14.out.later hb)
  have R16 := Lib.hid (R14.out.later hb)
  have HB16 := Lib.hid (Below.step HB14.out hb (Nat.le_refl _))
  clear d0 d1 d2 d3 e0 e1 e2 e3 hb T14 Y14 Q14 R14 HB14
  obtain ⟨d0, d1, d2, d3⟩ := Q16.out.cells
  obtain ⟨e0, e1, e2, e3⟩ := R16.out.cells
  go_wp2_with fail
  refine (HS2.out _ _ _ _ _ _ _ _ _ _ _ Q16.out R16.out).mono ?_
  rintro e w17 ⟨rfl, hb⟩
  have HB18 := Lib.hid (Below.step HB16.out hb (Nat.le_refl _))
  clear d0 d1 d2 d3 e0 e1 e2 e3 hb Q16 R16 HB16
  go_wp2_with fail
  go_ret
  exact ⟨rfl, HB18.out⟩
end Go.Proofs.Ytokckghedpdfiaa.termBack
namespace Go.Proofs.Ytokckghedpdfiaa.termBack
open Go.ChangeShapes Go.WideShapes Go.ChangeAt Go.RowKit

theorem own : ownKnob Try.prog.godebug = none := by kernel_rfl
set_option maxRecDepth 100000 in
theorem lifted (os : Os) (started : os.Started) (H : Type) (enc : TypeId × Value → H) :
    ReturnsInHanded {} Try.checked os 6 .any (Rows.termBackSpec.pre6 enc Try.prog Try.f6 Rows.termBackRow.domain false) (Rows.termBackSpec.post enc Try.prog Try.f6 false true false false) := by
  refine returnsInHanded_of_change (C := Try.checked) own started (by kernel_rfl) Try.func6
    (ChangeSpec.witness6 (enc := enc) (C := Try.checked) false ⟨#[], #[.slice none 0 0, .slice none 0 0, .int .u8 0, .int .u8 0, .int .u8 0], []⟩ 8 (by kernel_rfl) (by kernel_rfl) (by kernel_rfl) (by kernel_rfl)) ?_
  intro W base args ds gs before hval0 hW hcnd _
  have hval : ∀ (j : Nat) t v, Try.f6.params[j]? = some t → args[j]? = some v → Value.okWide Try.prog W .any base t v := hval0
  have hW' := hW
  obtain ⟨p, q, hA0, hV, rfl, hfz, hnd⟩ := hW
  have hA : DataW.TrodAll enc Try.prog W 0 (fun _ => true) true Try.f6.params.toList args.toList ds p := hA0
  rw [Try.params6] at hA hval
  obtain ⟨v0, vs0, d0, ds0, p0, q0, hargs, rfl, rfl, h0, hr0⟩ := trodAll_cons hA
  obtain ⟨v1, vs1, d1, ds1, p1, q1, rfl, rfl, rfl, h1, hr1⟩ := trodAll_cons hr0
  obtain ⟨v2, vs2, d2, ds2, p2, q2, rfl, rfl, rfl, h2, hr2⟩ := trodAll_cons hr1
  obtain ⟨v3, vs3, d3, ds3, p3, q3, rfl, rfl, rfl, h3, hr3⟩ := trodAll_cons hr2
  obtain ⟨v4, vs4, d4, ds4, p4, q4, rfl, rfl, rfl, h4, hr4⟩ := trodAll_cons hr3
  obtain ⟨rfl, rfl, rfl⟩ := trodAll_nil hr4
  obtain rfl : args = #[v0, v1, v2, v3, v4] := by cases args; simp_all
  obtain ⟨rfl, rfl⟩ := trodVars_none hV
  obtain ⟨n1, a1, c1, rfl, i1⟩ := arg_bytes (hval 0 29 v0 rfl rfl) h0
  obtain ⟨n2, a2, c2, rfl, i2⟩ := arg_bytes (hval 1 29 v1 rfl rfl) h1
  obtain ⟨N, rfl, rfl, rfl, w2⟩ := open_int Try.underlying5 (hval 2 5 v2 rfl rfl) h2
  obtain ⟨M, rfl, rfl, rfl, w3⟩ := open_int Try.underlying5 (hval 3 5 v3 rfl rfl) h3
  obtain ⟨K, rfl, rfl, rfl, w4⟩ := open_int Try.underlying5 (hval 4 5 v4 rfl rfl) h4
  have hN := u8_range w2
  have hM := u8_range w3
  have hK := u8_range w4
  have hlt := hW'.lt
  refine (walk N M K hN.1 hN.2 hM.1 hM.2 hK.1 hK.2 n1 c1 n2 c2 a1 a2 W i1 i2).mono fun e W' ⟨he, hb⟩ => ?_
  subst he
  have t0 := Below.trod laidOut (by kernel_rfl) (of_decide_eq_true (by kernel_rfl)) h0 hb (fun x hx => hlt x (by simp [hx]))
  have t1 := Below.trod laidOut (by kernel_rfl) (of_decide_eq_true (by kernel_rfl)) h1 hb (fun x hx => hlt x (by simp [hx]))
  exact ⟨_, rfl, ⟨_, _, _, [], _, [], hW', trodAll_mk1 (shut_bool Try.underlying4 _), ⟨_, _, t0, trodAll_mk4 t1 (shut_int Try.underlying5 w2) (shut_int Try.underlying5 w3) (shut_int Try.underlying5 w4), rfl⟩, rfl, hb.frame _, fun h => by cases h⟩⟩

theorem over : Rows.termBackRow.holds Try.pinned (OpenSpec.ofChange Rows.termBackSpec) :=
  OpenClaim.holds_of_wide 6 Try.f6 rfl rfl rfl rfl rfl rfl rfl ⟨rfl, rfl, rfl, rfl, rfl⟩ rfl rfl rfl rfl rfl (by kernel_rfl) Try.func6 (by kernel_rfl)
    (of_decide_eq_true (by kernel_rfl)) (by unfold Func.isWrapper; first | (rw [if_pos (by decide +kernel)]; kernel_rfl) | (rw [if_neg (by decide +kernel)]; exact ⟨rfl, rfl⟩))
    (fun os started H enc _ => lifted os started H enc)

/-- THE STATEMENT -/
theorem proved : Rows.TermBackSaid :=
  over
#print axioms proved
end Go.Proofs.Ytokckghedpdfiaa.termBack
