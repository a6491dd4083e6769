/- For all numbers the law TermTwo returns true: where two terms are put in, one behind the other, the order makes no difference, if each is lifted as it has to be. No condition. -/
import Derived.Test.YtokckghedpdfiaaTterm
import Derived.Test.YtokckghedpdfiaaTopenarg
import Derived.Test.YtokckghedpdfiaaMaker
import Derived.Test.YtokckghedpdfiaaTawake
import Derived.Test.YtokckghedpdfiaaTmk
import Derived.Deep.DeepCutAuto
import Derived.Carry
namespace Go.Proofs.Ytokckghedpdfiaa
open Go.RowKit

/-- What Made answers. -/
def MdOk (v : Int) (d : Nat) (w : World) (e : Ending) (w' : World) : Prop :=
  ∃ (T : Tm) (la : Option Addr) (lc : Nat) (ka : Option Addr) (kc : Nat), e = .returned (.agg #[.int .i64 T.k, .int .i64 T.n, .slice la T.ls.len lc, .slice ka T.ks.len kc]) ∧ okT v (d + 1 : Nat) T ∧
    SlIn w' (fun b => w.heap.size ≤ b ∧ b < w'.heap.size) T.ls la lc ∧ TlIn w' (fun b => w.heap.size ≤ b ∧ b < w'.heap.size) T.ks ka kc ∧ Below w.heap.size w w'
set_option maxRecDepth 100000 in
set_option maxHeartbeats 2000000 in
theorem tMade_any (len cap : Nat) (a : Option Addr) (B : Nat) (w : World) (hin : U8In w (· < B) len a cap) (hB : B ≤ w.heap.size) :
    Calls Try.prog 11 #[.slice a len cap] w (MdOk 3 3 w) := by
  have hb : Below w.heap.size w ((w.alloc (.cells #[.int .i64 0, .int .i64 0, .slice none 0 0, .slice none 0 0] 25)).alloc (.cells #[.slice a len cap, .int .i64 0] 47)) := ((Below.refl _ _).alloc (Nat.le_refl _) _).alloc (by simp) _
  have HB := Lib.hid hb
  have hat : MkAt ((w.alloc (.cells #[.int .i64 0, .int .i64 0, .slice none 0 0, .slice none 0 0] 25)).alloc (.cells #[.slice a len cap, .int .i64 0] 47)) (w.heap.size + 1) a len cap 0 := heap_second w _ _
  have HR := Lib.hid ((heap_old (w.alloc (.cells #[.int .i64 0, .int .i64 0, .slice none 0 0, .slice none 0 0] 25)) (.cells #[.slice a len cap, .int .i64 0] 47) (b := w.heap.size) (by simp)).trans (heap_new w _))
  have HT := Lib.hid (tTerm_any 3 3 (w.heap.size + 1) len cap 0 B a 4 _ hat (hin.below (hb.mono hB)) (by omega) (by decide) (by omega) (by omega) (by omega) (by omega))
  clear hat hb hin
  go_enter Try.func11, Try.ntmps11
  go_wp2_with fail
  refine HT.out.mono ?_
  rintro e w1 ⟨T, la, lc, ka, kc, t', rfl, ok, sl, tl, _, _, hg⟩
  have hR1 := (Only.block hg (b := w.heap.size) (by simp; omega) (by omega)).trans HR.out
  have hz1 := hg.size
  simp at hz1
  obtain ⟨r0, r1, r2, r3⟩ := cells4 hR1
  have rf := free_of hR1
  have HSL := Lib.hid sl
  have HTL := Lib.hid tl
  have HOK := Lib.hid ok
  have HG := Lib.hid hg
  clear sl tl ok hg hR1 HT
  go_wp2_with fail
  refine bodyPost_ret (v := .agg #[.int .i64 T.k, .int .i64 T.n, .slice la T.ls.len lc, .slice ka T.ks.len kc]) (by simp [results, Try.results11, go_sem, r0, r1, r2, r3]) rfl ?_
  have u := set4_only (w := w1) w.heap.size (.int .i64 T.k) (.int .i64 T.n) (.slice la T.ls.len lc) (.slice ka T.ks.len kc)
  refine ⟨T, la, lc, ka, kc, rfl, HOK.out, ?_, ?_, ?_⟩
  · exact (HSL.out.keep (fun b hb => Only.block u hb.2 (by have := hb.1; simp at this; omega))).weak (fun b hb => ⟨by have := hb.1; simp at this; omega, Nat.lt_of_lt_of_le hb.2 u.size⟩)
  · exact HTL.out.turn (fun b hb => Only.block u hb.2 (by have := hb.1; simp at this; omega)) (fun b hb => ⟨by have := hb.1; simp at this; omega, Nat.lt_of_lt_of_le hb.2 u.size⟩)
  · refine ⟨u.os.trans (HG.out.os.trans HB.out.os), u.tape.trans (HG.out.tape.trans HB.out.tape), u.output.trans (HG.out.output.trans HB.out.output), Nat.le_trans HB.out.size (Nat.le_trans HG.out.size u.size), fun q hq => ?_⟩
    rw [Only.block u (by omega) (by omega), Only.block HG.out (by simp; omega) (by omega)]
    exact HB.out.block q hq
end Go.Proofs.Ytokckghedpdfiaa
namespace Go.Proofs.Ytokckghedpdfiaa
open Go.ChangeShapes Go.WideShapes Go.ChangeAt Go.RowKit
theorem u8_range {a : Int} (w0 : (Lit.int .u8 a).wf = true) : 0 ≤ a ∧ a < 256 := by
  have e1 : IntKind.u8.min = 0 := rfl
  have e2 : IntKind.u8.max = 255 := rfl
  simp only [Lit.wf, e1, e2, Bool.and_eq_true, decide_eq_true_eq] at w0
  omega
section
variable {H : Type} {enc : TypeId × Value → H} {W : World} {base : Nat} {spare : Nat → Bool} {held : Bool}
theorem arg_nums {q : IntKind} {ty el : TypeId} (ht : Try.prog.underlying ty = some (.slice el)) (he : Try.prog.underlying el = some (.int q)) (hc : Try.prog.cellsOf el = 1) {r : Reach} {b0 : Nat} {v : Value} {d : DataW H} {p : List MemPlace} (hv : Value.okWide Try.prog W r b0 ty v) (h : DataW.Trod enc Try.prog W base spare held ty v d p) :
    ∃ (l : List Int) (a : Option Addr) (cap : Nat), v = .slice a l.length cap ∧ l.length ≤ cap ∧ cap ≤ maxLen ∧ (a = none → cap = 0) ∧ (∀ z ∈ l, (Lit.int q z).wf = true) ∧ (0 < l.length → ∃ b o, a = some ⟨b, o, none⟩ ∧ b < W.heap.size ∧ ∀ i, i < l.length → W.cell? ⟨b, o + i, none⟩ = some (.int q (l.getD i 0))) := by
  obtain ⟨a, len, cap, rfl⟩ := okWide_slice ht hv
  obtain ⟨fuel, hf⟩ := h
  rcases open_ints ht he hc hf with ⟨hcs, _⟩ | ⟨a', len', cap', zs, hcs, _, hl, hm, hz, _, hcell, hwf⟩
  · have hcs' : a = none ∧ len = 0 ∧ cap = 0 := by simpa [Value.cells] using hcs
    obtain ⟨rfl, rfl, rfl⟩ := hcs'
    exact ⟨[], none, 0, rfl, Nat.le_refl _, Nat.zero_le _, fun _ => rfl, by simp, by simp⟩
  · have hcs' : a = some a' ∧ len = len' ∧ cap = cap' := by simpa [Value.cells] using hcs
    obtain ⟨rfl, rfl, rfl⟩ := hcs'
    have hzl : len ≤ zs.length := by rw [hz]; split <;> omega
    have hlen : (zs.take len).length = len := by simp; omega
    refine ⟨zs.take len, some a', cap, by rw [hlen], by omega, hm, (fun h => by cases h), fun z hz => hwf z (List.mem_of_mem_take hz), fun h0 => ?_⟩
    rw [hlen] at h0 ⊢
    have hget : ∀ i, i < len → (zs.take len).getD i 0 = zs.getD i 0 := fun i hi => by simp [List.getD_eq_getElem?_getD, hi]
    have q0 := hcell 0 (by omega)
    have hsp : a'.spot = none := by
      cases hs : a'.spot with
      | none => rfl
      | some y => exfalso; simp [Addr.add, World.cell?, hs] at q0; split at q0 <;> simp at q0
    obtain ⟨b, o, sp⟩ := a'
    have hsp' : sp = none := hsp
    subst hsp'
    have hadd : ∀ m, (⟨b, o, none⟩ : Addr).add m = ⟨b, o + m, none⟩ := fun m => by unfold Addr.add; split <;> simp_all
    simp only [hadd] at hcell
    refine ⟨b, o, rfl, World.block_lt_of_cell? _ _ (hcell 0 (by omega)), fun i hi => ?_⟩
    rw [hget i hi]
    exact hcell i (by omega)
theorem arg_bytes {r : Reach} {b0 : Nat} {v : Value} {d : DataW H} {p : List MemPlace} (hv : Value.okWide Try.prog W r b0 29 v) (h : DataW.Trod enc Try.prog W base spare held 29 v d p) :
    ∃ (len : Nat) (a : Option Addr) (cap : Nat), v = .slice a len cap ∧ U8In W (· < W.heap.size) len a cap := by
  obtain ⟨l, a, cap, h1, h2, h3, h4, hwf, h5⟩ := arg_nums Try.underlying29 Try.underlying5 cellsU8 hv h
  refine ⟨l.length, a, cap, h1, h2, h3, h4, fun h0 => ?_⟩
  obtain ⟨b, o, ha, hb, hc⟩ := h5 h0
  refine ⟨b, o, ha, hb, fun i hi => ?_⟩
  have hm : l.getD i 0 ∈ l := by
    have e : l.getD i 0 = l[i] := by simp [List.getD_eq_getElem?_getD, hi]
    rw [e]; exact List.getElem_mem hi
  have := u8_range (hwf _ hm)
  exact ⟨_, this.1, this.2, hc i hi⟩
end
end Go.Proofs.Ytokckghedpdfiaa
namespace Go.Proofs.Ytokckghedpdfiaa.termBack
open Go.RowKit

/-- Lift, Open and Same of terms in variables. -/
theorem lift_box {T P : Tm} {fr by' : Int} (h : liftA T fr by' = (P, 0)) : ∀ (la : Option Addr) (lc : Nat) (ka : Option Addr) (kc N : Nat) (W : World), TmBox W N T la lc ka kc → Calls Try.prog 14 #[.agg #[.int .i64 T.k, .int .i64 T.n, .slice la T.ls.len lc, .slice ka T.ks.len kc], .int .i64 fr, .int .i64 by'] W (LePost (P, 0) W) := by
  intro la lc ka kc N W hb
  rw [← h]
  exact tLift_any T fr by' la ka lc kc N W hb.2.1 hb.2.2.1 hb.2.2.2
theorem open_box {T U P : Tm} (h : openA T U = (P, 0)) : ∀ (la : Option Addr) (lc : Nat) (ka : Option Addr) (kc : Nat) (ua : Option Addr) (uc : Nat) (va : Option Addr) (vc N M : Nat) (W : World), TmBox W N T la lc ka kc → TmBox W M U ua uc va vc → Calls Try.prog 15 #[.agg #[.int .i64 T.k, .int .i64 T.n, .slice la T.ls.len lc, .slice ka T.ks.len kc], .agg #[.int .i64 U.k, .int .i64 U.n, .slice ua U.ls.len uc, .slice va U.ks.len vc]] W (LePost (P, 0) W) := by
  intro la lc ka kc ua uc va vc N M W hb hb'
  rw [← h]
  exact tOpen_any T U la ka ua va lc kc uc vc W.heap.size W (hb.2.1.mono hb.2.2.2) (hb.2.2.1.mono hb.2.2.2) (hb'.2.1.mono hb'.2.2.2) (hb'.2.2.1.mono hb'.2.2.2) (Nat.le_refl _)
theorem same_box {T : Tm} (h : T.sh = true) : ∀ (la : Option Addr) (lc : Nat) (ka : Option Addr) (kc : Nat) (ua : Option Addr) (uc : Nat) (va : Option Addr) (vc N M : Nat) (W : World), TmBox W N T la lc ka kc → TmBox W M T ua uc va vc → Calls Try.prog 16 #[.agg #[.int .i64 T.k, .int .i64 T.n, .slice la T.ls.len lc, .slice ka T.ks.len kc], .agg #[.int .i64 T.k, .int .i64 T.n, .slice ua T.ls.len uc, .slice va T.ks.len vc]] W fun e w' => e = .returned (.bool true) ∧ Below W.heap.size W w' := by
  intro la lc ka kc ua uc va vc N M W hb hb'
  have sm : T.ks.size ≤ 1000000 ∧ T.ks.lvsz 1000000 ∧ T.ls.size ≤ 1000000 := by
    have := sh_small h
    exact ⟨by omega, Ft.lvsz_mono (by omega) this.2.1, by omega⟩
  have r := tSame_any T.ks T.ks T.k T.n T.k T.n T.ls T.ls la ua ka va lc uc kc vc W.heap.size W (hb.2.1.mono hb.2.2.2) (hb'.2.1.mono hb'.2.2.2) (hb.2.2.1.mono hb.2.2.2) (hb'.2.2.1.mono hb'.2.2.2) (Nat.le_refl _) sm sm
  rwa [one_refl T] at r
theorem LePost.box {A : Tm × Int} {w w' : World} {la : Option Addr} {lc : Nat} {x : Option Addr} {c : Nat} (hl : SlIn w' (fun b => w.heap.size ≤ b ∧ b < w'.heap.size) A.1.ls la lc) (hs : TlIn w' (fun b => w.heap.size ≤ b ∧ b < w'.heap.size) A.1.ks x c) : TmBox (w'.alloc (.cells #[.int .i64 A.1.k, .int .i64 A.1.n, .slice la A.1.ls.len lc, .slice x A.1.ks.len c] 25)) w'.heap.size A.1 la lc x c := TmBox.new (LePost.tmIn hl hs)

set_option maxRecDepth 100000 in
set_option maxHeartbeats 4000000 in
theorem walk (f x y : Int) (hf0 : 0 ≤ f) (hf1 : f < 256) (hx0 : 0 ≤ x) (hx1 : x < 256) (hy0 : 0 ≤ y) (hy1 : y < 256) (n1 c1 n2 c2 : Nat) (a1 a2 : Option Addr) (w : World) (h1 : U8In w (· < w.heap.size) n1 a1 c1) (h2 : U8In w (· < w.heap.size) n2 a2 c2) :
    Calls Try.prog 6 #[.slice a1 n1 c1, .slice a2 n2 c2, .int .u8 f, .int .u8 x, .int .u8 y] w fun e w' => e = .returned (.bool true) ∧ Below w.heap.size w w' := by
  have H1 := Lib.hid h1
  have H2 := Lib.hid h2
  clear h1 h2
  go_enter Try.func6, Try.ntmps6
  go_wp2_with fail
  refine (awake13_any _).mono ?_
  rintro e w1 ⟨rfl, hb1⟩
  have HB1 := Lib.hid hb1
  clear hb1
  go_wp2_with fail
  refine (tMade_any n1 c1 a1 w.heap.size w1 (H1.out.below HB1.out) HB1.out.size).mono ?_
  rintro e w2 ⟨T, la, lc, ka, kc, rfl, okt, sl1, tl1, hb2⟩
  have HB2 := Lib.hid (Below.step HB1.out hb2 (Nat.le_refl _))
  have T2 := Lib.hid (show TmIn w2 w2.heap.size T la lc ka kc from ⟨sl1.weak (fun _ h => h.2), tl1.weak (fun _ h => h.2), Nat.le_refl _⟩)
  have OKT := Lib.hid okt
  clear sl1 tl1 hb2 okt HB1
  go_wp2_with fail
  refine (tMade_any n2 c2 a2 w.heap.size w2 (H2.out.below HB2.out) HB2.out.size).mono ?_
  rintro e w3 ⟨U, ua, uc, va, vc, rfl, oku, sl2, tl2, hb3⟩
  have HB3 := Lib.hid (Below.step HB2.out hb3 (Nat.le_refl _))
  have T3 := Lib.hid (T2.out.later hb3)
  have U3 := Lib.hid (show TmIn w3 w3.heap.size U ua uc va vc from ⟨sl2.weak (fun _ h => h.2), tl2.weak (fun _ h => h.2), Nat.le_refl _⟩)
  have OKU := Lib.hid oku
  clear sl2 tl2 hb3 oku HB2 T2 H1 H2
  have hal1 : Below w3.heap.size w3 (w3.alloc (.cells #[.int .i64 T.k, .int .i64 T.n, .slice la T.ls.len lc, .slice ka T.ks.len kc] 25)) := (Below.refl _ _).alloc (Nat.le_refl _) _
  have hal2 : Below (w3.alloc (.cells #[.int .i64 T.k, .int .i64 T.n, .slice la T.ls.len lc, .slice ka T.ks.len kc] 25)).heap.size (w3.alloc (.cells #[.int .i64 T.k, .int .i64 T.n, .slice la T.ls.len lc, .slice ka T.ks.len kc] 25)) ((w3.alloc (.cells #[.int .i64 T.k, .int .i64 T.n, .slice la T.ls.len lc, .slice ka T.ks.len kc] 25)).alloc (.cells #[.int .i64 U.k, .int .i64 U.n, .slice ua U.ls.len uc, .slice va U.ks.len vc] 25)) := (Below.refl _ _).alloc (Nat.le_refl _) _
  have T4 := Lib.hid ((TmBox.new (show TmIn w3 w3.heap.size T la lc ka kc from ⟨T3.out.1.mono T3.out.2.2, T3.out.2.1.mono T3.out.2.2, Nat.le_refl _⟩)).later hal2)
  have u1 : TmIn (w3.alloc (.cells #[.int .i64 T.k, .int .i64 T.n, .slice la T.ls.len lc, .slice ka T.ks.len kc] 25)) (w3.alloc (.cells #[.int .i64 T.k, .int .i64 T.n, .slice la T.ls.len lc, .slice ka T.ks.len kc] 25)).heap.size U ua uc va vc := by
    have h := U3.out.later hal1
    exact ⟨h.1.mono (by simp), h.2.1.mono (by simp), Nat.le_refl _⟩
  have u2 := TmBox.new u1
  rw [World.size_alloc] at u2
  have U4 := Lib.hid u2
  have HB4 := Lib.hid (Below.step (Below.step HB3.out hal1 (Nat.le_refl _)) hal2 (Nat.le_refl _))
  have m0 : 0 ≤ f % 5 := by omega
  have m1 : f % 5 < 5 := by omega
  have m2 : 0 ≤ x % 9 := by omega
  have m3 : x % 9 < 9 := by omega
  have m4 : 0 ≤ y % 9 := by omega
  have m5 : y % 9 < 9 := by omega
  have okt : okT 3 4 T := OKT.out
  have oku : okT 3 4 U := OKU.out
  have e1 := liftA_ok (fr := 0) (by' := 1) okt (by omega) (by omega) (by omega) (by omega) (by omega) (by omega)
  have e2 : openA (T.rep (gL 0 1) 0) U = (T, 0) := by
    have ew := open_lift U (okt.wf (by omega) (by omega))
    have h := openA_ok (v := 3) (by omega) (okt.lift (fr := 0) (by' := 1) (by omega)) oku (by omega) (by omega) (by omega) (by rw [ew]; exact okt.sh (by omega) (by omega))
    rwa [ew] at h
  have e3 := liftA_ok (fr := f % 5) (by' := x % 9) okt (by omega) (by omega) (by omega) (by omega) (by omega) (by omega)
  have e4 := liftA_ok (fr := f % 5) (by' := y % 9) (okt.lift (fr := f % 5) (by' := x % 9) (by omega)) (by omega) (by omega) (by omega) (by omega) (by omega) (by omega)
  rw [lift_lift m2] at e4
  have e5 := liftA_ok (fr := f % 5) (by' := x % 9 + y % 9) okt (by omega) (by omega) (by omega) (by omega) (by omega) (by omega)
  have e6 : (T.rep (gL (f % 5) (x % 9 + y % 9)) 0).sh = true := (okt.lift (by omega)).sh (by omega) (by omega)
  have HL1 := Lib.hid (lift_box e1)
  have HO1 := Lib.hid (open_box e2)
  have HL2 := Lib.hid (lift_box e3)
  have HL3 := Lib.hid (lift_box e4)
  have HL4 := Lib.hid (lift_box e5)
  have HS1 := Lib.hid (same_box (okt.sh (by omega) (by omega)))
  have HS2 := Lib.hid (same_box e6)
  clear e1 e2 e3 e4 e5 e6 hal1 hal2 u1 u2 okt oku OKT OKU T3 U3 HB3
  generalize T.rep (gL 0 1) 0 = L at HL1 HO1
  generalize T.rep (gL (f % 5) (x % 9)) 0 = P at HL2 HL3
  generalize T.rep (gL (f % 5) (x % 9 + y % 9)) 0 = R at HL3 HL4 HS2
  go_wp2_with fail
  refine (HL1.out _ _ _ _ _ _ T4.out).mono ?_
  rintro e w5 ⟨xa, xc, ya, yc, rfl, hl, hk, hb⟩
  have L6 := Lib.hid (LePost.box hl hk)
  have hal : Below w5.heap.size w5 (w5.alloc (.cells #[.int .i64 L.k, .int .i64 L.n, .slice xa L.ls.len xc, .slice ya L.ks.len yc] 25)) := (Below.refl _ _).alloc (Nat.le_refl _) _
  have T6 := Lib.hid ((T4.out.later hb).later hal)
  have U6 := Lib.hid ((U4.out.later hb).later hal)
  have HB6 := Lib.hid (Below.step (Below.step HB4.out hb (Nat.le_refl _)) hal (Nat.le_refl _))
  obtain ⟨d0, d1, d2, d3⟩ := U6.out.cells
  clear hl hk hb hal T4 U4 HB4 HL1
  go_wp2_with fail
  refine (HO1.out _ _ _ _ _ _ _ _ _ _ _ L6.out U6.out).mono ?_
  rintro e w7 ⟨pa, pc, qa, qc, rfl, hl, hk, hb⟩
  have Y8 := Lib.hid (LePost.box hl hk)
  have hal : Below w7.heap.size w7 (w7.alloc (.cells #[.int .i64 T.k, .int .i64 T.n, .slice pa T.ls.len pc, .slice qa T.ks.len qc] 25)) := (Below.refl _ _).alloc (Nat.le_refl _) _
  have T8 := Lib.hid ((T6.out.later hb).later hal)
  have HB8 := Lib.hid (Below.step (Below.step HB6.out hb (Nat.le_refl _)) hal (Nat.le_refl _))
  clear d0 d1 d2 d3 hl hk hb hal T6 U6 L6 HB6 HO1
  obtain ⟨d0, d1, d2, d3⟩ := T8.out.cells
  go_wp2_with fail
  refine (HL2.out _ _ _ _ _ _ T8.out).mono ?_
  rintro e w9 ⟨ra, rc, sa, sc, rfl, hl, hk, hb⟩
  have P10 := Lib.hid (LePost.box hl hk)
  have hal : Below w9.heap.size w9 (w9.alloc (.cells #[.int .i64 P.k, .int .i64 P.n, .slice ra P.ls.len rc, .slice sa P.ks.len sc] 25)) := (Below.refl _ _).alloc (Nat.le_refl _) _
  have T10 := Lib.hid ((T8.out.later hb).later hal)
  have Y10 := Lib.hid ((Y8.out.later hb).later hal)
  have HB10 := Lib.hid (Below.step (Below.step HB8.out hb (Nat.le_refl _)) hal (Nat.le_refl _))
  clear d0 d1 d2 d3 hl hk hb hal HB8 T8 Y8
  obtain ⟨d0, d1, d2, d3⟩ := P10.out.cells
  go_wp2_with fail
  refine (HL3.out _ _ _ _ _ _ P10.out).mono ?_
  rintro e w11 ⟨ta, tc, wa, wc, rfl, hl, hk, hb⟩
  have Q12 := Lib.hid (LePost.box hl hk)
  have hal : Below w11.heap.size w11 (w11.alloc (.cells #[.int .i64 R.k, .int .i64 R.n, .slice ta R.ls.len tc, .slice wa R.ks.len wc] 25)) := (Below.refl _ _).alloc (Nat.le_refl _) _
  have T12 := Lib.hid ((T10.out.later hb).later hal)
  have Y12 := Lib.hid ((Y10.out.later hb).later hal)
  have HB12 := Lib.hid (Below.step (Below.step HB10.out hb (Nat.le_refl _)) hal (Nat.le_refl _))
  clear d0 d1 d2 d3 hl hk hb hal HB10 T10 Y10
  obtain ⟨d0, d1, d2, d3⟩ := T12.out.cells
  go_wp2_with fail
  refine (HL4.out _ _ _ _ _ _ T12.out).mono ?_
  rintro e w13 ⟨za, zc, oa, oc, rfl, hl, hk, hb⟩
  have R14 := Lib.hid (LePost.box hl hk)
  have hal : Below w13.heap.size w13 (w13.alloc (.cells #[.int .i64 R.k, .int .i64 R.n, .slice za R.ls.len zc, .slice oa R.ks.len oc] 25)) := (Below.refl _ _).alloc (Nat.le_refl _) _
  have T14 := Lib.hid ((T12.out.later hb).later hal)
  have Y14 := Lib.hid ((Y12.out.later hb).later hal)
  have Q14 := Lib.hid ((Q12.out.later hb).later hal)
  have HB14 := Lib.hid (Below.step (Below.step HB12.out hb (Nat.le_refl _)) hal (Nat.le_refl _))
  clear d0 d1 d2 d3 hl hk hb hal HB12 T12 Y12 Q12
  obtain ⟨d0, d1, d2, d3⟩ := T14.out.cells
  obtain ⟨e0, e1, e2, e3⟩ := Y14.out.cells
  go_wp2_with fail
  refine (HS1.out _ _ _ _ _ _ _ _ _ _ _ Y14.out T14.out).mono ?_
  rintro e w15 ⟨rfl, hb⟩
  have Q16 := Lib.hid (Q14.out.later hb)
  have R16 := Lib.hid (R14.out.later hb)
  have HB16 := Lib.hid (Below.step HB14.out hb (Nat.le_refl _))
  clear d0 d1 d2 d3 e0 e1 e2 e3 hb T14 Y14 Q14 R14 HB14
  obtain ⟨d0, d1, d2, d3⟩ := Q16.out.cells
  obtain ⟨e0, e1, e2, e3⟩ := R16.out.cells
  go_wp2_with fail
  refine (HS2.out _ _ _ _ _ _ _ _ _ _ _ Q16.out R16.out).mono ?_
  rintro e w17 ⟨rfl, hb⟩
  have HB18 := Lib.hid (Below.step HB16.out hb (Nat.le_refl _))
  clear d0 d1 d2 d3 e0 e1 e2 e3 hb Q16 R16 HB16
  go_wp2_with fail
  go_ret
  exact ⟨rfl, HB18.out⟩
end Go.Proofs.Ytokckghedpdfiaa.termBack
namespace Go.Proofs.Ytokckghedpdfiaa
open Go.RowKit

/-- The Lam around the term. -/
def lamT (T : Tm) : Tm := ⟨5, 0, .nil, (⟨2, 0, .cons 1 0 .nil .nil, .nil⟩ : Tm).to (T.to .nil)⟩
theorem lamT_ok {v : Int} {T : Tm} (h : okT (v + 1) 4 T) : okT v 5 (lamT T) := by
  have hs : okT v 4 ⟨2, 0, .cons 1 0 .nil .nil, .nil⟩ := okT_sort (by omega) (by decide +kernel)
  have := okT_two (q := 5) (by omega) hs (B := T) (by simpa [bindK] using h)
  simpa [lamT] using this
theorem lamT_rep (g : Int → Int → Tm) (T : Tm) : (lamT T).rep g 0 = lamT (T.rep g 1) := by
  unfold lamT Tm.to
  rw [rep_is, if_neg (by omega)]
  simp [repF, bindK, Tm.rep, rep1]
  try trivial
structure TwoEq (t u v A B W C : Tm) : Prop where
  a : openA t u = (A, 0)
  b : openA A v = (B, 0)
  w : openA u v = (W, 0)
  l : ∃ L, openA (lamT t) (tV 0) = (lamT L, 0)
  c : openA (lamT t) v = (lamT C, 0)
  d : openA C W = (B, 0)
  s : B.sh = true
theorem two_eq {t u v : Tm} (ht : okT 4 4 t) (hu : okT 3 2 u) (hv : okT 2 2 v) : ∃ A B W C, TwoEq t u v A B W C := by
  have ka : okT 3 5 (t.rep (gO u) 0) := ht.open0 (v := 3) (by omega) hu
  have kb : okT 2 6 ((t.rep (gO u) 0).rep (gO v) 0) := ka.open0 (v := 2) (by omega) hv
  have kw : okT 2 3 (u.rep (gO v) 0) := hu.open0 (v := 2) (by omega) hv
  have kl : okT 3 5 (lamT t) := lamT_ok (v := 3) ht
  have k0 : okT 2 1 (tV 0) := okT_V (by omega) (by omega) (by omega)
  have kx : okT 2 5 ((lamT t).rep (gO (tV 0)) 0) := kl.open0 (v := 2) (by omega) k0
  have kc : okT 2 6 ((lamT t).rep (gO v) 0) := kl.open0 (v := 2) (by omega) hv
  have kd : okT 3 5 (t.rep (gO v) 1) := ht.openAt (v := 2) (b := 1) (by omega) (by omega) hv
  have sb := kb.sh (by omega) (by omega)
  have ed : ((t.rep (gO v) 1).rep (gO (u.rep (gO v) 0)) 0) = (t.rep (gO u) 0).rep (gO v) 0 := (open_open u v t).symm
  refine ⟨_, _, _, t.rep (gO v) 1, ⟨openA_ok (v := 3) (by omega) ht hu (by omega) (by omega) (by omega) (ka.sh (by omega) (by omega)), openA_ok (v := 2) (by omega) ka hv (by omega) (by omega) (by omega) sb, openA_ok (v := 2) (by omega) hu hv (by omega) (by omega) (by omega) (kw.sh (by omega) (by omega)), ⟨t.rep (gO (tV 0)) 1, ?_⟩, ?_, ?_, sb⟩⟩
  · rw [← lamT_rep]
    exact openA_ok (v := 2) (by omega) kl k0 (by omega) (by omega) (by omega) (kx.sh (by omega) (by omega))
  · rw [← lamT_rep]
    exact openA_ok (v := 2) (by omega) kl hv (by omega) (by omega) (by omega) (kc.sh (by omega) (by omega))
  · rw [← ed]
    exact openA_ok (v := 2) (by omega) kd kw (by omega) (by omega) (by omega) (by rw [ed]; exact sb)
end Go.Proofs.Ytokckghedpdfiaa
namespace Go.Proofs.Ytokckghedpdfiaa
open Go.RowKit

def BoxAt (W : World) (M : Nat) (T : Tm) (la : Option Addr) (lc : Nat) (ka : Option Addr) (kc : Nat) : Prop := W.heap[M]? = some (.cells #[.int .i64 T.k, .int .i64 T.n, .slice la T.ls.len lc, .slice ka T.ks.len kc] 25 (0, 0)) ∧ TmIn W W.heap.size T la lc ka kc
theorem TmIn.up {W : World} {B : Nat} {T : Tm} {la : Option Addr} {lc : Nat} {ka : Option Addr} {kc : Nat} (h : TmIn W B T la lc ka kc) : TmIn W W.heap.size T la lc ka kc := ⟨h.1.mono h.2.2, h.2.1.mono h.2.2, Nat.le_refl _⟩
theorem BoxAt.later {W W' : World} {M : Nat} {T : Tm} {la : Option Addr} {lc : Nat} {ka : Option Addr} {kc : Nat} (h : BoxAt W M T la lc ka kc) (hb : Below W.heap.size W W') : BoxAt W' M T la lc ka kc :=
  ⟨(hb.block _ (lt_of_block h.1)).trans h.1, (h.2.later hb).up⟩
theorem TmBox.at {W : World} {M : Nat} {T : Tm} {la : Option Addr} {lc : Nat} {ka : Option Addr} {kc : Nat} (h : TmBox W M T la lc ka kc) : BoxAt W M T la lc ka kc := ⟨h.1, h.2.up⟩
theorem BoxAt.cells {W : World} {M : Nat} {T : Tm} {la : Option Addr} {lc : Nat} {ka : Option Addr} {kc : Nat} (h : BoxAt W M T la lc ka kc) : W.cell? ⟨M, 0, none⟩ = some (.int .i64 T.k) ∧ W.cell? ⟨M, 1, none⟩ = some (.int .i64 T.n) ∧ W.cell? ⟨M, 2, none⟩ = some (.slice la T.ls.len lc) ∧ W.cell? ⟨M, 3, none⟩ = some (.slice ka T.ks.len kc) := cells4 h.1
/-- A term that does not lie in the block M. -/
def OffIn (W : World) (M : Nat) (T : Tm) (la : Option Addr) (lc : Nat) (ka : Option Addr) (kc : Nat) : Prop := SlIn W (fun b => b ≠ M ∧ b < W.heap.size) T.ls la lc ∧ TlIn W (fun b => b ≠ M ∧ b < W.heap.size) T.ks ka kc
theorem OffIn.old {W : World} {M lo : Nat} {T : Tm} {la : Option Addr} {lc : Nat} {ka : Option Addr} {kc : Nat} (hl : SlIn W (fun b => lo ≤ b ∧ b < W.heap.size) T.ls la lc) (hk : TlIn W (fun b => lo ≤ b ∧ b < W.heap.size) T.ks ka kc) (hM : M < lo) : OffIn W M T la lc ka kc :=
  ⟨hl.weak (fun b h => ⟨by omega, h.2⟩), hk.weak (fun b h => ⟨by omega, h.2⟩)⟩
theorem OffIn.new {W : World} {T : Tm} {la : Option Addr} {lc : Nat} {ka : Option Addr} {kc : Nat} (h : TmIn W W.heap.size T la lc ka kc) (o : Obj) : OffIn (W.alloc o) W.heap.size T la lc ka kc := by
  have hb := h.later ((Below.refl _ _).alloc (Nat.le_refl _) o)
  exact ⟨hb.1.weak (fun b hx => ⟨Nat.ne_of_lt hx, by simp; exact Nat.lt_succ_of_lt hx⟩), hb.2.1.weak (fun b hx => ⟨Nat.ne_of_lt hx, by simp; exact Nat.lt_succ_of_lt hx⟩)⟩
/-- A term stored into a variable. -/
theorem box_set {W : World} {M : Nat} {T : Tm} {la : Option Addr} {lc : Nat} {ka : Option Addr} {kc : Nat} {x y z u : Value} (hz : W.heap[M]? = some (.cells #[x, y, z, u] 25 (0, 0))) (h : OffIn W M T la lc ka kc) :
    BoxAt ((((W.setCell ⟨M, 0, none⟩ (.int .i64 T.k)).setCell ⟨M, 1, none⟩ (.int .i64 T.n)).setCell ⟨M, 2, none⟩ (.slice la T.ls.len lc)).setCell ⟨M, 3, none⟩ (.slice ka T.ks.len kc)) M T la lc ka kc := by
  have hg := set4_only (w := W) M (.int .i64 T.k) (.int .i64 T.n) (.slice la T.ls.len lc) (.slice ka T.ks.len kc)
  refine ⟨?_, (h.1.keep (fun b hb => Only.block hg hb.2 hb.1)).weak (fun b hb => Nat.lt_of_lt_of_le hb.2 hg.size), h.2.turn (fun b hb => Only.block hg hb.2 hb.1) (fun b hb => Nat.lt_of_lt_of_le hb.2 hg.size), Nat.le_refl _⟩
  have h1 := heap_setCell_same W M 0 _ _ (.int .i64 T.k) hz
  have h2 := heap_setCell_same _ M 1 _ _ (.int .i64 T.n) h1
  have h3 := heap_setCell_same _ M 2 _ _ (.slice la T.ls.len lc) h2
  have h4 := heap_setCell_same _ M 3 _ _ (.slice ka T.ks.len kc) h3
  exact h4
theorem box_below {a W : World} {B M : Nat} (h : Below B a W) (hM : B ≤ M) (x y z u : Value) : Below B a ((((W.setCell ⟨M, 0, none⟩ x).setCell ⟨M, 1, none⟩ y).setCell ⟨M, 2, none⟩ z).setCell ⟨M, 3, none⟩ u) := (((h.setCell hM x).setCell hM y).setCell hM z).setCell hM u
/-- A variable of the type Term that holds nothing yet. -/
def ZAt (W : World) (B M : Nat) : Prop := B ≤ M ∧ W.heap[M]? = some (.cells #[.int .i64 0, .int .i64 0, .slice none 0 0, .slice none 0 0] 25 (0, 0))
theorem ZAt.later {W W' : World} {B M : Nat} (h : ZAt W B M) (hb : Below W.heap.size W W') : ZAt W' B M := ⟨h.1, (hb.block _ (lt_of_block h.2)).trans h.2⟩
theorem ZAt.lt {W : World} {B M : Nat} (h : ZAt W B M) : M < W.heap.size := lt_of_block h.2
theorem ZAt.new {W : World} {B : Nat} (h : B ≤ W.heap.size) : ZAt (W.alloc (.cells #[.int .i64 0, .int .i64 0, .slice none 0 0, .slice none 0 0] 25)) B W.heap.size := ⟨h, heap_new _ _⟩
/-- Two terms that the law writes out itself. -/
theorem lit_two {W : World} {N M : Nat} {s t : Tm} {la ka lb kb : Option Addr} {lc kc ld kd : Nat} (h : TmIn W N s la lc ka kc) (h' : TmIn W M t lb ld kb kd) :
    LitIn (W.alloc (.cells #[.int .i64 s.k, .int .i64 s.n, .slice la s.ls.len lc, .slice ka s.ks.len kc, .int .i64 t.k, .int .i64 t.n, .slice lb t.ls.len ld, .slice kb t.ks.len kd] 25)) W.heap.size (s.to (t.to .nil)) := by
  have hb : Below W.heap.size W (W.alloc (.cells #[.int .i64 s.k, .int .i64 s.n, .slice la s.ls.len lc, .slice ka s.ks.len kc, .int .i64 t.k, .int .i64 t.n, .slice lb t.ls.len ld, .slice kb t.ks.len kd] 25)) := (Below.refl _ _).alloc (Nat.le_refl _) _
  have h2 := heap_new W (.cells #[.int .i64 s.k, .int .i64 s.n, .slice la s.ls.len lc, .slice ka s.ks.len kc, .int .i64 t.k, .int .i64 t.n, .slice lb t.ls.len ld, .slice kb t.ks.len kd] 25)
  have e : ∀ x, x ≤ W.heap.size → x ≤ W.heap.size + 1 := fun x h => by omega
  exact ⟨TlIn.mk (Nat.le_refl _) (by omega) (Nat.lt_succ_self _) (FtIn.push (cell_at h2 0) (cell_at h2 1) (cell_at h2 2) ((h.1.below (hb.mono h.2.2)).mono (e _ h.2.2)) (cell_at h2 3) ((h.2.1.below (hb.mono h.2.2)).mono (e _ h.2.2)) (FtIn.push (cell_at h2 4) (cell_at h2 5) (cell_at h2 6) ((h'.1.below (hb.mono h'.2.2)).mono (e _ h'.2.2)) (cell_at h2 7) ((h'.2.1.below (hb.mono h'.2.2)).mono (e _ h'.2.2)) trivial)), by simp⟩
/-- The Sort of the level Zero, made by the law. -/
def sZ : Tm := ⟨2, 0, .cons 1 0 .nil .nil, .nil⟩
theorem sort_new (W : World) : Calls Try.prog 18 #[.agg #[.int .i64 1, .int .i64 0, .slice none 0 0]] W fun e w' => ∃ x, e = .returned (.agg #[.int .i64 2, .int .i64 0, .slice x 1 1, .slice none 0 0]) ∧ TmIn w' w'.heap.size sZ x 1 none 0 ∧ Below W.heap.size W w' := by
  refine (tSort_in 1 0 .nil none 0 W.heap.size W (SlIn.none _ _) (Nat.le_refl _)).mono ?_
  rintro e w' ⟨x, rfl, h, hb⟩
  exact ⟨x, rfl, ⟨h.weak (fun _ h => h.2), TlIn.none _ _, Nat.le_refl _⟩, hb⟩
theorem Below.keep {W W' : World} (hb : Below W.heap.size W W') {p : Addr} {v : Value} (h : W.cell? p = some v) : W'.cell? p = some v := (hb.cell (World.block_lt_of_cell? W p h)).trans h
/-- The second part of a binder that the law wrote. -/
theorem kid_two {W : World} {s t : Tm} {x : Option Addr} {c B : Nat} (h : TlIn W (· < B) (s.to (t.to .nil)) x c) : ∃ b o, x = some ⟨b, o, none⟩ ∧ ∃ (la : Option Addr) (lc : Nat) (ka : Option Addr) (kc : Nat), (W.cell? ⟨b, o + 4, none⟩ = some (.int .i64 t.k) ∧ W.cell? ⟨b, o + 4 + 1, none⟩ = some (.int .i64 t.n) ∧ W.cell? ⟨b, o + 4 + 2, none⟩ = some (.slice la t.ls.len lc) ∧ W.cell? ⟨b, o + 4 + 3, none⟩ = some (.slice ka t.ks.len kc)) ∧ SlIn W (· < B) t.ls la lc ∧ TlIn W (· < B) t.ks ka kc := by
  obtain ⟨b, o, hx, hP, hf⟩ := h.some (by simp [Tm.to, Ft.len])
  obtain ⟨_, _, _, _, hr⟩ := hf
  obtain ⟨k0, k1, ⟨la, lc, k2, hl⟩, ⟨ka, kc, k3, hk1, hk2, hk3, hk4⟩, _⟩ := hr
  exact ⟨b, o, hx, la, lc, ka, kc, ⟨k0, k1, k2, k3⟩, hl, hk1, hk2, hk3, hk4⟩
end Go.Proofs.Ytokckghedpdfiaa
namespace Go.Proofs.Ytokckghedpdfiaa
open Go.RowKit

/-- A term made by numbers, the maker in a new box. -/
theorem term_at (d : Nat) (v D : Int) (len cap B : Nat) (a : Option Addr) (W : World) (M : Nat) (hM : W.heap.size = M) (hin : U8In W (· < B) len a cap) (hB : B ≤ W.heap.size) (hD : D = d + 1) (hd : d ≤ 6) (hv : 1 ≤ v) (hvd : v + d ≤ 50) (hbd : 0 + budT d ≤ 99900) :
    Calls Try.prog 17 #[.pointer (some ⟨M, 0, none⟩), .int .i64 v, .int .i64 D] (W.alloc (.cells #[.slice a len cap, .int .i64 0] 47)) fun e w' =>
      ∃ (T : Tm) (la : Option Addr) (lc : Nat) (ka : Option Addr) (kc : Nat), e = .returned (.agg #[.int .i64 T.k, .int .i64 T.n, .slice la T.ls.len lc, .slice ka T.ks.len kc]) ∧ okT v (d + 1 : Nat) T ∧ TmIn w' w'.heap.size T la lc ka kc ∧ Below W.heap.size W w' := by
  subst hM
  have hb : Below W.heap.size W (W.alloc (.cells #[.slice a len cap, .int .i64 0] 47)) := (Below.refl _ _).alloc (Nat.le_refl _) _
  have hat : MkAt (W.alloc (.cells #[.slice a len cap, .int .i64 0] 47)) W.heap.size a len cap 0 := heap_new W _
  refine (tTerm_any d v W.heap.size len cap 0 B a D _ hat (hin.below (hb.mono hB)) hB hbd hD hd hv hvd).mono ?_
  rintro e w' ⟨T, la, lc, ka, kc, t', rfl, ok, sl, tl, _, _, hg⟩
  exact ⟨T, la, lc, ka, kc, rfl, ok, ⟨sl.weak (fun _ h => h.2), tl.weak (fun _ h => h.2), Nat.le_refl _⟩, hb.grown hg (by simp) (fun k hk => by injection hk with hk; omega)⟩
theorem same_in {T : Tm} (h : T.sh = true) {la : Option Addr} {lc : Nat} {ka : Option Addr} {kc : Nat} {ua : Option Addr} {uc : Nat} {va : Option Addr} {vc N M : Nat} {W : World} (p : TmIn W N T la lc ka kc) (q : TmIn W M T ua uc va vc) : Calls Try.prog 16 #[.agg #[.int .i64 T.k, .int .i64 T.n, .slice la T.ls.len lc, .slice ka T.ks.len kc], .agg #[.int .i64 T.k, .int .i64 T.n, .slice ua T.ls.len uc, .slice va T.ks.len vc]] W fun e w' => e = .returned (.bool true) ∧ Below W.heap.size W w' := by
  have sm : T.ks.size ≤ 1000000 ∧ T.ks.lvsz 1000000 ∧ T.ls.size ≤ 1000000 := by
    have := sh_small h
    exact ⟨by omega, Ft.lvsz_mono (by omega) this.2.1, by omega⟩
  have r := tSame_any T.ks T.ks T.k T.n T.k T.n T.ls T.ls la ua ka va lc uc kc vc W.heap.size W (p.1.mono p.2.2) (q.1.mono q.2.2) (p.2.1.mono p.2.2) (q.2.1.mono q.2.2) (Nat.le_refl _) sm sm
  rwa [one_refl T] at r
end Go.Proofs.Ytokckghedpdfiaa
namespace Go.Proofs.Ytokckghedpdfiaa.termTwo
open Go.RowKit
open termBack (lift_box open_box same_box)

set_option maxRecDepth 100000 in
set_option maxHeartbeats 4000000 in
theorem walk (n1 c1 n2 c2 n3 c3 : Nat) (a1 a2 a3 : Option Addr) (w : World) (h1 : U8In w (· < w.heap.size) n1 a1 c1) (h2 : U8In w (· < w.heap.size) n2 a2 c2) (h3 : U8In w (· < w.heap.size) n3 a3 c3) :
    Calls Try.prog 7 #[.slice a1 n1 c1, .slice a2 n2 c2, .slice a3 n3 c3] w fun e w' => e = .returned (.bool true) ∧ Below w.heap.size w w' := by
  have H1 := Lib.hid h1
  have H2 := Lib.hid h2
  have H3 := Lib.hid h3
  clear h1 h2 h3
  go_enter Try.func7, Try.ntmps7
  go_wp2_with fail
  refine (awake13_any _).mono ?_
  rintro e w1 ⟨rfl, hb1⟩
  have HB1 := Lib.hid hb1
  clear hb1
  go_wp2_with fail
  refine (term_at 3 4 4 n1 c1 w.heap.size a1 w1 w1.heap.size rfl (H1.out.below HB1.out) HB1.out.size (by omega) (by omega) (by omega) (by omega) (by decide)).mono ?_
  rintro e w2 ⟨t, ta, tc, ya, yc, rfl, okt, tin, hb⟩
  have T2 := Lib.hid (TmBox.new tin)
  have hal : Below w2.heap.size w2 (w2.alloc (.cells #[.int .i64 t.k, .int .i64 t.n, .slice ta t.ls.len tc, .slice ya t.ks.len yc] 25)) := (Below.refl _ _).alloc (Nat.le_refl _) _
  have HB2 := Lib.hid (Below.step (Below.step HB1.out hb (Nat.le_refl _)) hal (Nat.le_refl _))
  have OKT := Lib.hid okt
  clear okt tin hb hal HB1 H1
  go_wp2_with fail
  refine (term_at 1 3 2 n2 c2 w.heap.size a2 (w2.alloc (.cells #[.int .i64 t.k, .int .i64 t.n, .slice ta t.ls.len tc, .slice ya t.ks.len yc] 25)) (w2.heap.size + 1) (World.size_alloc _ _) (H2.out.below HB2.out) HB2.out.size (by omega) (by omega) (by omega) (by omega) (by decide)).mono ?_
  rintro e w3 ⟨u, ua, uc, va, vc, rfl, oku, uin, hb⟩
  have T3 := Lib.hid (T2.out.later hb)
  have U3 := Lib.hid (TmBox.new uin)
  have hal : Below w3.heap.size w3 (w3.alloc (.cells #[.int .i64 u.k, .int .i64 u.n, .slice ua u.ls.len uc, .slice va u.ks.len vc] 25)) := (Below.refl _ _).alloc (Nat.le_refl _) _
  have T4 := Lib.hid (T3.out.later hal)
  have HB4 := Lib.hid (Below.step (Below.step HB2.out hb (Nat.le_refl _)) hal (Nat.le_refl _))
  have OKU := Lib.hid oku
  clear oku uin hb hal HB2 T2 T3 H2
  go_wp2_with fail
  refine (term_at 1 2 2 n3 c3 w.heap.size a3 (w3.alloc (.cells #[.int .i64 u.k, .int .i64 u.n, .slice ua u.ls.len uc, .slice va u.ks.len vc] 25)) (w3.heap.size + 1) (World.size_alloc _ _) (H3.out.below HB4.out) HB4.out.size (by omega) (by omega) (by omega) (by omega) (by decide)).mono ?_
  rintro e w5 ⟨v, va2, vc2, vb, vd, rfl, okv, vin, hb⟩
  have T5 := Lib.hid (T4.out.later hb)
  have U5 := Lib.hid (U3.out.later hb)
  have V5 := Lib.hid (TmBox.new vin)
  have hal : Below w5.heap.size w5 (w5.alloc (.cells #[.int .i64 v.k, .int .i64 v.n, .slice va2 v.ls.len vc2, .slice vb v.ks.len vd] 25)) := (Below.refl _ _).alloc (Nat.le_refl _) _
  have T6 := Lib.hid (T5.out.later hal)
  have U6 := Lib.hid (U5.out.later hal)
  have HB6 := Lib.hid (Below.step (Below.step HB4.out hb (Nat.le_refl _)) hal (Nat.le_refl _))
  obtain ⟨A, B, W, C, E⟩ := two_eq (t := t) (u := u) (v := v) OKT.out OKU.out okv
  have HE := Lib.hid E
  clear okv vin hb hal HB4 T4 U3 T5 U5 OKT OKU H3 E
  obtain ⟨c0, c1', c2', c3'⟩ := T6.out.cells
  obtain ⟨d0, d1, d2, d3⟩ := U6.out.cells
  go_wp2_with fail
  refine (open_box HE.out.a _ _ _ _ _ _ _ _ _ _ _ T6.out U6.out).mono ?_
  rintro e w7 ⟨pa, pc, qa, qc, rfl, hl, hk, hb⟩
  have A8 := Lib.hid (termBack.LePost.box hl hk)
  have hal : Below w7.heap.size w7 (w7.alloc (.cells #[.int .i64 A.k, .int .i64 A.n, .slice pa A.ls.len pc, .slice qa A.ks.len qc] 25)) := (Below.refl _ _).alloc (Nat.le_refl _) _
  have T8 := Lib.hid ((T6.out.later hb).later hal)
  have U8 := Lib.hid ((U6.out.later hb).later hal)
  have V8 := Lib.hid ((V5.out.later hb).later hal)
  have HB8 := Lib.hid (Below.step (Below.step HB6.out hb (Nat.le_refl _)) hal (Nat.le_refl _))
  clear c0 c1' c2' c3' d0 d1 d2 d3 hl hk hb hal T6 U6 V5 HB6
  obtain ⟨c0, c1', c2', c3'⟩ := A8.out.cells
  obtain ⟨d0, d1, d2, d3⟩ := V8.out.cells
  go_wp2_with fail
  refine (open_box HE.out.b _ _ _ _ _ _ _ _ _ _ _ A8.out V8.out).mono ?_
  rintro e w9 ⟨ba, bc, be, bf, rfl, hl, hk, hb⟩
  have B10 := Lib.hid (termBack.LePost.box hl hk)
  have hal : Below w9.heap.size w9 (w9.alloc (.cells #[.int .i64 B.k, .int .i64 B.n, .slice ba B.ls.len bc, .slice be B.ks.len bf] 25)) := (Below.refl _ _).alloc (Nat.le_refl _) _
  have T10 := Lib.hid ((T8.out.later hb).later hal)
  have U10 := Lib.hid ((U8.out.later hb).later hal)
  have V10 := Lib.hid ((V8.out.later hb).later hal)
  have HB10 := Lib.hid (Below.step (Below.step HB8.out hb (Nat.le_refl _)) hal (Nat.le_refl _))
  clear c0 c1' c2' c3' d0 d1 d2 d3 hl hk hb hal T8 U8 V8 A8 HB8
  obtain ⟨c0, c1', c2', c3'⟩ := U10.out.cells
  obtain ⟨d0, d1, d2, d3⟩ := V10.out.cells
  go_wp2_with fail
  refine (open_box HE.out.w _ _ _ _ _ _ _ _ _ _ _ U10.out V10.out).mono ?_
  rintro e w11 ⟨ra, rc, sa, sc, rfl, hl, hk, hb⟩
  have W12 := Lib.hid (termBack.LePost.box hl hk)
  have hal : Below w11.heap.size w11 (w11.alloc (.cells #[.int .i64 W.k, .int .i64 W.n, .slice ra W.ls.len rc, .slice sa W.ks.len sc] 25)) := (Below.refl _ _).alloc (Nat.le_refl _) _
  have T12 := Lib.hid ((T10.out.later hb).later hal)
  have V12 := Lib.hid ((V10.out.later hb).later hal)
  have B12 := Lib.hid ((B10.out.later hb).later hal)
  have HB12 := Lib.hid (Below.step (Below.step HB10.out hb (Nat.le_refl _)) hal (Nat.le_refl _))
  clear c0 c1' c2' c3' d0 d1 d2 d3 hl hk hb hal T10 U10 V10 B10 HB10
  have HC : Hid (∀ (X : Tm) (W' : World) (M : Nat), openA (lamT t) v = (X, 0) → TmIn W' W'.heap.size v va2 vc2 vb vd → LitIn W' M (sZ.to (t.to .nil)) → Calls Try.prog 15 #[.agg #[.int .i64 5, .int .i64 0, .slice none 0 0, .slice (some ⟨M, 0, none⟩) 2 2], .agg #[.int .i64 v.k, .int .i64 v.n, .slice va2 v.ls.len vc2, .slice vb v.ks.len vd]] W' (LePost (X, 0) W')) := Lib.hid (by
    intro X W' M hx hv hL
    rw [← hx]
    exact tOpen_any (lamT t) v _ _ _ _ _ _ _ _ W'.heap.size W' (SlIn.none _ _) (hL.1.mono hL.2) hv.1 hv.2.1 (Nat.le_refl _))
  have HV : Hid (∀ (X : Tm) (W' : World) (M : Nat), openA (lamT t) (tV 0) = (X, 0) → LitIn W' M (sZ.to (t.to .nil)) → Calls Try.prog 15 #[.agg #[.int .i64 5, .int .i64 0, .slice none 0 0, .slice (some ⟨M, 0, none⟩) 2 2], .agg #[.int .i64 1, .int .i64 0, .slice none 0 0, .slice none 0 0]] W' (LePost (X, 0) W')) := Lib.hid (by
    intro X W' M hx hL
    rw [← hx]
    exact tOpen_any (lamT t) (tV 0) _ _ _ _ _ _ _ _ W'.heap.size W' (SlIn.none _ _) (hL.1.mono hL.2) (SlIn.none _ _) (TlIn.none _ _) (Nat.le_refl _))
  obtain ⟨L, hL⟩ := HE.out.l
  obtain ⟨X, hX5⟩ : ∃ X, X = lamT L := ⟨_, rfl⟩
  rw [← hX5] at hL
  have HXK := Lib.hid (show X.k = 5 by rw [hX5]; rfl)
  have HOL : Hid (∀ (W' : World) (M : Nat), LitIn W' M (sZ.to (t.to .nil)) → Calls Try.prog 15 #[.agg #[.int .i64 5, .int .i64 0, .slice none 0 0, .slice (some ⟨M, 0, none⟩) 2 2], .agg #[.int .i64 1, .int .i64 0, .slice none 0 0, .slice none 0 0]] W' (LePost (X, 0) W')) := Lib.hid (fun W' M h => HV.out X W' M hL h)
  have HSO := Lib.hid sort_new
  clear hL hX5 HV
  go_upto_region 10 with fail
  generalize hW0 : w11.alloc (.cells #[.int .i64 W.k, .int .i64 W.n, .slice ra W.ls.len rc, .slice sa W.ks.len sc] 25) = W0 at T12 V12 B12 W12 HB12 ⊢
  clear hW0
  have HNX : Hid (∀ wN : World, Below W0.heap.size W0 wN → wN.cell? ⟨w2.heap.size, 0, none⟩ = some (.int .i64 t.k) ∧ wN.cell? ⟨w2.heap.size, 1, none⟩ = some (.int .i64 t.n) ∧ wN.cell? ⟨w2.heap.size, 2, none⟩ = some (.slice ta t.ls.len tc) ∧ wN.cell? ⟨w2.heap.size, 3, none⟩ = some (.slice ya t.ks.len yc)) := Lib.hid (by
    intro wN hX
    obtain ⟨x0, y0, z0, u0⟩ := (T12.out.later hX).cells
    exact ⟨x0, y0, z0, u0⟩)
  have HTT : Hid (∀ W' : World, Below W0.heap.size W0 W' → TmIn W' W'.heap.size t ta tc ya yc) := Lib.hid (fun W' h => (T12.out.later h).2.up)
  go_cut [17, 18] from 23 to 121 (fun s17 s18 wx => ∃ M la lc ka kc, s17 = .pointer (some ⟨M, 0, none⟩) ∧ s18 = .int .i64 0 ∧ Hid (BoxAt wx M X la lc ka kc) ∧ Hid (Below W0.heap.size W0 wx))
  case first =>
    refine wp_region_held_drew (S := fun w' => Hid (Below W0.heap.size W0 w') ∧ w'.cell? ⟨w2.heap.size, 0, none⟩ = some (.int .i64 t.k) ∧ w'.cell? ⟨w2.heap.size, 1, none⟩ = some (.int .i64 t.n) ∧ w'.cell? ⟨w2.heap.size, 2, none⟩ = some (.slice ta t.ls.len tc) ∧ w'.cell? ⟨w2.heap.size, 3, none⟩ = some (.slice ya t.ks.len yc)) (by kernel_rfl) (⟨Lib.hid (Below.refl _ _).drew, HNX.out _ (Below.refl _ _).drew⟩) (fun hH => ?_)
    try simp only [Act.put, List.setIfInBounds_toArray, List.set_cons_zero, List.set_cons_succ]
    refine wpAnyH_take (i := 0) (v := ?_) (by simp only [List.getElem?_toArray, List.getElem?_cons_zero]; rfl) (by kernel_rfl) (by kernel_rfl) (by kernel_rfl) (by intro _ _ _ h; exact h) (Or.inl ⟨by rfl, ?_⟩) hH ?_
    rotate_left
    · intro w' hSw
      obtain ⟨s0, s1, s2, s3, s4⟩ := hSw
      go_simp
      try with_reducible rfl
    try simp only [Act.put, List.setIfInBounds_toArray, List.set_cons_zero, List.set_cons_succ]
    refine wpAnyH_take (i := 2) (v := ?_) (by simp only [List.getElem?_toArray, List.getElem?_cons_succ, List.getElem?_cons_zero]; rfl) (by kernel_rfl) (by kernel_rfl) (by kernel_rfl) (by intro _ _ _ h; exact h) (Or.inl ⟨by rfl, ?_⟩) hH ?_
    rotate_left
    · intro w' hSw
      obtain ⟨s0, s1, s2, s3, s4⟩ := hSw
      go_simp
      try with_reducible rfl
    try simp only [Act.put, List.setIfInBounds_toArray, List.set_cons_zero, List.set_cons_succ]
    refine wpAnyH_ready (rs := [1, 10]) (by kernel_rfl) (by simp) ?_
    refine AllReadyH.cons (o := _) (by simp only [List.getElem?_toArray, List.getElem?_cons_succ, List.getElem?_cons_zero]; rfl) (fun K hK => ?_) ?_
    · go_simp
      go_at_call 18
      refine (HSO.out _).mono ?_
      rintro e wA ⟨sx, rfl, hsz, hb7⟩
      have hX := Below.step hH.1.out hb7 (Nat.le_refl _)
      have HSZ := Lib.hid hsz
      clear hH hb7 hsz
      refine hK.out _ _ ⟨Lib.hid hX, HNX.out _ hX⟩ (fun hH => ?_)
      clear hK K hX
      try simp only [Act.put, List.setIfInBounds_toArray, List.set_cons_zero, List.set_cons_succ]
      refine wpAnyH_ready (rs := [3, 10]) (by kernel_rfl) (by simp) ?_
      refine AllReadyH.cons (o := _) (by simp only [List.getElem?_toArray, List.getElem?_cons_succ, List.getElem?_cons_zero]; rfl) (fun K hK => ?_) ?_
      · go_simp
        have hlt := lit_two HSZ.out (HTT.out _ hH.1.out)
        try simp only [World.size_alloc] at hlt
        have HLT := Lib.hid hlt
        have hb7 : Below (wA).heap.size wA (wA.alloc (.cells #[.int .i64 2, .int .i64 0, .slice sx 1 1, .slice none 0 0, .int .i64 t.k, .int .i64 t.n, .slice ta t.ls.len tc, .slice ya t.ks.len yc] 25)) := (Below.refl _ _).alloc (Nat.le_refl _) _
        have hX := Below.step hH.1.out hb7 (Nat.le_refl _)
        clear hH hb7 hlt HSZ
        refine hK.out _ _ ⟨Lib.hid hX, HNX.out _ hX⟩ (fun hH => ?_)
        clear hK K hX
        try simp only [Act.put, List.setIfInBounds_toArray, List.set_cons_zero, List.set_cons_succ]
        refine wpAnyH_ready (rs := [4, 10]) (by kernel_rfl) (by simp) ?_
        refine AllReadyH.cons (o := _) (by simp only [List.getElem?_toArray, List.getElem?_cons_succ, List.getElem?_cons_zero]; rfl) (fun K hK => ?_) ?_
        · go_simp
          go_at_call 12
          refine (tBind_any 5 _ 2 2 _).mono ?_
          rintro e wB2 ⟨rfl, hb7⟩
          have hX := Below.step hH.1.out hb7 (Nat.le_refl _)
          replace HLT := Lib.hid (HLT.out.later hb7)
          clear hH hb7
          refine hK.out _ _ ⟨Lib.hid hX, HNX.out _ hX⟩ (fun hH => ?_)
          clear hK K hX
          try simp only [Act.put, List.setIfInBounds_toArray, List.set_cons_zero, List.set_cons_succ]
          refine wpAnyH_ready (rs := [5, 10]) (by kernel_rfl) (by simp) ?_
          refine AllReadyH.cons (o := _) (by simp only [List.getElem?_toArray, List.getElem?_cons_succ, List.getElem?_cons_zero]; rfl) (fun K hK => ?_) ?_
          · go_simp
            go_at_call 13
            refine (tVar_any 0 _).mono ?_
            rintro e wB3 ⟨rfl, hb7⟩
            have hX := Below.step hH.1.out hb7 (Nat.le_refl _)
            replace HLT := Lib.hid (HLT.out.later hb7)
            clear hH hb7
            refine hK.out _ _ ⟨Lib.hid hX, HNX.out _ hX⟩ (fun hH => ?_)
            clear hK K hX
            try simp only [Act.put, List.setIfInBounds_toArray, List.set_cons_zero, List.set_cons_succ]
            refine wpAnyH_ready (rs := [6, 10]) (by kernel_rfl) (by simp) ?_
            refine AllReadyH.cons (o := _) (by simp only [List.getElem?_toArray, List.getElem?_cons_succ, List.getElem?_cons_zero]; rfl) (fun K hK => ?_) ?_
            · go_simp
              go_at_call 15
              refine (HOL.out _ _ HLT.out).mono ?_
              rintro e wC ⟨xa, xc, xb, xd, rfl, hl, hk, hb7⟩
              have hX := Below.step hH.1.out hb7 (Nat.le_refl _)
              clear HLT
              have HR := Lib.hid (LePost.tmIn hl hk)
              clear hH hb7 hl hk
              refine hK.out _ _ ⟨Lib.hid hX, HNX.out _ hX⟩ (fun hH => ?_)
              clear hK K hX
              refine wpAnyH_take (i := 7) (v := ?_) (by simp only [List.getElem?_toArray, List.getElem?_cons_succ, List.getElem?_cons_zero]; rfl) (by kernel_rfl) (by kernel_rfl) (by kernel_rfl) (by intro _ _ _ h; exact h) (Or.inl ⟨by rfl, ?_⟩) hH ?_
              rotate_left
              · intro w' hSw
                obtain ⟨s0, s1, s2, s3, s4⟩ := hSw
                go_simp
                try with_reducible rfl
              try simp only [Act.put, List.setIfInBounds_toArray, List.set_cons_zero, List.set_cons_succ]
              refine wpAnyH_take (i := 8) (v := ?_) (by simp only [List.getElem?_toArray, List.getElem?_cons_succ, List.getElem?_cons_zero]; rfl) (by kernel_rfl) (by kernel_rfl) (by kernel_rfl) (by intro _ _ _ h; exact h) (Or.inl ⟨by rfl, ?_⟩) hH ?_
              rotate_left
              · intro w' hSw
                obtain ⟨s0, s1, s2, s3, s4⟩ := hSw
                go_simp
                try with_reducible rfl
              try simp only [Act.put, List.setIfInBounds_toArray, List.set_cons_zero, List.set_cons_succ]
              refine wpAnyH_take (i := 9) (v := ?_) (by simp only [List.getElem?_toArray, List.getElem?_cons_succ, List.getElem?_cons_zero]; rfl) (by kernel_rfl) (by kernel_rfl) (by kernel_rfl) (by intro _ _ _ h; exact h) (Or.inl ⟨by rfl, ?_⟩) hH ?_
              rotate_left
              · intro w' hSw
                obtain ⟨s0, s1, s2, s3, s4⟩ := hSw
                go_simp
                try with_reducible rfl
              try simp only [Act.put, List.setIfInBounds_toArray, List.set_cons_zero, List.set_cons_succ]
              refine wpAnyH_ready (rs := [10]) (by kernel_rfl) (by simp) ?_
              refine AllReadyH.cons (o := _) (by simp only [List.getElem?_toArray, List.getElem?_cons_succ, List.getElem?_cons_zero]; rfl) (fun K hK => ?_) AllReadyH.nil
              go_simp
              have hz := ZAt.new hH.1.out.size
              try simp only [World.size_alloc] at hz
              have HZ := Lib.hid hz
              have hb7 : Below (wC).heap.size wC (wC.alloc (.cells #[.int .i64 0, .int .i64 0, .slice none 0 0, .slice none 0 0] 25)) := (Below.refl _ _).alloc (Nat.le_refl _) _
              have hX := Below.step hH.1.out hb7 (Nat.le_refl _)
              have HW := hH.1
              have HRO := HR
              replace HR := Lib.hid (OffIn.new HR.out (.cells #[.int .i64 0, .int .i64 0, .slice none 0 0, .slice none 0 0] 25))
              clear hH hb7 hz
              refine hK.out _ _ ⟨Lib.hid hX, HNX.out _ hX⟩ (fun hH => ?_)
              clear hK K hX
              try simp only [Act.put, List.setIfInBounds_toArray, List.set_cons_zero, List.set_cons_succ]
              refine wpAnyH_ready (rs := [11]) (by kernel_rfl) (by simp) ?_
              refine AllReadyH.cons (o := _) (by simp only [List.getElem?_toArray, List.getElem?_cons_succ, List.getElem?_cons_zero]; rfl) (fun K hK => ?_) AllReadyH.nil
              obtain ⟨m0, m1, m2, m3⟩ := cells4 HZ.out.2
              have m4 := free_of HZ.out.2
              go_simp
              have hX := Below.step HW.out ((Below.refl _ _).alloc (Nat.le_refl _) (.cells #[.int .i64 X.k, .int .i64 X.n, .slice xa X.ls.len xc, .slice xb X.ks.len xd] 25)) (Nat.le_refl _)
              have HBX := Lib.hid (TmBox.at (TmBox.new HRO.out))
              clear hH m0 m1 m2 m3 m4 HRO HW
              refine hK.out _ _ ⟨Lib.hid hX, HNX.out _ hX⟩ (fun hH => ?_)
              clear hK K hX
              try simp only [Act.put, List.setIfInBounds_toArray, List.set_cons_zero, List.set_cons_succ]
              refine wpAnyH_take (i := 12) (v := ?_) (by simp only [List.getElem?_toArray, List.getElem?_cons_succ, List.getElem?_cons_zero]; rfl) (by kernel_rfl) (by kernel_rfl) (by kernel_rfl) (by intro _ _ _ h; exact h) (Or.inl ⟨by rfl, ?_⟩) hH ?_
              rotate_left
              · intro w' hSw
                obtain ⟨s0, s1, s2, s3, s4⟩ := hSw
                go_simp
                try with_reducible rfl
              try simp only [Act.put, List.setIfInBounds_toArray, List.set_cons_zero, List.set_cons_succ]
              refine wpAnyH_done (by kernel_rfl) ?_ _
              go_wp2_with fail
              go_meet
              exact ⟨_, xa, xc, xb, xd, rfl, rfl, HBX, hH.1⟩
            refine AllReadyH.cons (o := _) (by simp only [List.getElem?_toArray, List.getElem?_cons_succ, List.getElem?_cons_zero]; rfl) (fun K hK => ?_) AllReadyH.nil
            go_simp
            have hz := ZAt.new hH.1.out.size
            try simp only [World.size_alloc] at hz
            have HZ := Lib.hid hz
            have hb7 : Below (wB3).heap.size wB3 (wB3.alloc (.cells #[.int .i64 0, .int .i64 0, .slice none 0 0, .slice none 0 0] 25)) := (Below.refl _ _).alloc (Nat.le_refl _) _
            have hX := Below.step hH.1.out hb7 (Nat.le_refl _)
            replace HLT := Lib.hid (HLT.out.later hb7)
            clear hH hb7 hz
            refine hK.out _ _ ⟨Lib.hid hX, HNX.out _ hX⟩ (fun hH => ?_)
            clear hK K hX
            try simp only [Act.put, List.setIfInBounds_toArray, List.set_cons_zero, List.set_cons_succ]
            refine wpAnyH_ready (rs := [6]) (by kernel_rfl) (by simp) ?_
            refine AllReadyH.cons (o := _) (by simp only [List.getElem?_toArray, List.getElem?_cons_succ, List.getElem?_cons_zero]; rfl) (fun K hK => ?_) AllReadyH.nil
            go_simp
            go_at_call 15
            refine (HOL.out _ _ HLT.out).mono ?_
            rintro e wC ⟨xa, xc, xb, xd, rfl, hl, hk, hb7⟩
            have hX := Below.step hH.1.out hb7 (Nat.le_refl _)
            clear HLT
            have HR := Lib.hid (OffIn.old hl hk HZ.out.lt)
            replace HZ := Lib.hid (HZ.out.later hb7)
            clear hH hb7 hl hk
            refine hK.out _ _ ⟨Lib.hid hX, HNX.out _ hX⟩ (fun hH => ?_)
            clear hK K hX
            refine wpAnyH_take (i := 7) (v := ?_) (by simp only [List.getElem?_toArray, List.getElem?_cons_succ, List.getElem?_cons_zero]; rfl) (by kernel_rfl) (by kernel_rfl) (by kernel_rfl) (by intro _ _ _ h; exact h) (Or.inl ⟨by rfl, ?_⟩) hH ?_
            rotate_left
            · intro w' hSw
              obtain ⟨s0, s1, s2, s3, s4⟩ := hSw
              go_simp
              try with_reducible rfl
            try simp only [Act.put, List.setIfInBounds_toArray, List.set_cons_zero, List.set_cons_succ]
            refine wpAnyH_take (i := 8) (v := ?_) (by simp only [List.getElem?_toArray, List.getElem?_cons_succ, List.getElem?_cons_zero]; rfl) (by kernel_rfl) (by kernel_rfl) (by kernel_rfl) (by intro _ _ _ h; exact h) (Or.inl ⟨by rfl, ?_⟩) hH ?_
            rotate_left
            · intro w' hSw
              obtain ⟨s0, s1, s2, s3, s4⟩ := hSw
              go_simp
              try with_reducible rfl
            try simp only [Act.put, List.setIfInBounds_toArray, List.set_cons_zero, List.set_cons_succ]
            refine wpAnyH_take (i := 9) (v := ?_) (by simp only [List.getElem?_toArray, List.getElem?_cons_succ, List.getElem?_cons_zero]; rfl) (by kernel_rfl) (by kernel_rfl) (by kernel_rfl) (by intro _ _ _ h; exact h) (Or.inl ⟨by rfl, ?_⟩) hH ?_
            rotate_left
            · intro w' hSw
              obtain ⟨s0, s1, s2, s3, s4⟩ := hSw
              go_simp
              try with_reducible rfl
            try simp only [Act.put, List.setIfInBounds_toArray, List.set_cons_zero, List.set_cons_succ]
            refine wpAnyH_ready (rs := [11]) (by kernel_rfl) (by simp) ?_
            refine AllReadyH.cons (o := _) (by simp only [List.getElem?_toArray, List.getElem?_cons_succ, List.getElem?_cons_zero]; rfl) (fun K hK => ?_) AllReadyH.nil
            obtain ⟨m0, m1, m2, m3⟩ := cells4 HZ.out.2
            have m4 := free_of HZ.out.2
            go_simp
            have hX := box_below hH.1.out HZ.out.1 (.int .i64 X.k) (.int .i64 X.n) (.slice xa X.ls.len xc) (.slice xb X.ks.len xd)
            have HBX := Lib.hid (box_set HZ.out.2 HR.out)
            clear hH m0 m1 m2 m3 m4
            refine hK.out _ _ ⟨Lib.hid hX, HNX.out _ hX⟩ (fun hH => ?_)
            clear hK K hX
            try simp only [Act.put, List.setIfInBounds_toArray, List.set_cons_zero, List.set_cons_succ]
            refine wpAnyH_take (i := 12) (v := ?_) (by simp only [List.getElem?_toArray, List.getElem?_cons_succ, List.getElem?_cons_zero]; rfl) (by kernel_rfl) (by kernel_rfl) (by kernel_rfl) (by intro _ _ _ h; exact h) (Or.inl ⟨by rfl, ?_⟩) hH ?_
            rotate_left
            · intro w' hSw
              obtain ⟨s0, s1, s2, s3, s4⟩ := hSw
              go_simp
              try with_reducible rfl
            try simp only [Act.put, List.setIfInBounds_toArray, List.set_cons_zero, List.set_cons_succ]
            refine wpAnyH_done (by kernel_rfl) ?_ _
            go_wp2_with fail
            go_meet
            exact ⟨_, xa, xc, xb, xd, rfl, rfl, HBX, hH.1⟩
          refine AllReadyH.cons (o := _) (by simp only [List.getElem?_toArray, List.getElem?_cons_succ, List.getElem?_cons_zero]; rfl) (fun K hK => ?_) AllReadyH.nil
          go_simp
          have hz := ZAt.new hH.1.out.size
          try simp only [World.size_alloc] at hz
          have HZ := Lib.hid hz
          have hb7 : Below (wB2).heap.size wB2 (wB2.alloc (.cells #[.int .i64 0, .int .i64 0, .slice none 0 0, .slice none 0 0] 25)) := (Below.refl _ _).alloc (Nat.le_refl _) _
          have hX := Below.step hH.1.out hb7 (Nat.le_refl _)
          replace HLT := Lib.hid (HLT.out.later hb7)
          clear hH hb7 hz
          refine hK.out _ _ ⟨Lib.hid hX, HNX.out _ hX⟩ (fun hH => ?_)
          clear hK K hX
          try simp only [Act.put, List.setIfInBounds_toArray, List.set_cons_zero, List.set_cons_succ]
          refine wpAnyH_ready (rs := [5]) (by kernel_rfl) (by simp) ?_
          refine AllReadyH.cons (o := _) (by simp only [List.getElem?_toArray, List.getElem?_cons_succ, List.getElem?_cons_zero]; rfl) (fun K hK => ?_) AllReadyH.nil
          go_simp
          go_at_call 13
          refine (tVar_any 0 _).mono ?_
          rintro e wB4 ⟨rfl, hb7⟩
          have hX := Below.step hH.1.out hb7 (Nat.le_refl _)
          replace HLT := Lib.hid (HLT.out.later hb7)
          replace HZ := Lib.hid (HZ.out.later hb7)
          clear hH hb7
          refine hK.out _ _ ⟨Lib.hid hX, HNX.out _ hX⟩ (fun hH => ?_)
          clear hK K hX
          try simp only [Act.put, List.setIfInBounds_toArray, List.set_cons_zero, List.set_cons_succ]
          refine wpAnyH_ready (rs := [6]) (by kernel_rfl) (by simp) ?_
          refine AllReadyH.cons (o := _) (by simp only [List.getElem?_toArray, List.getElem?_cons_succ, List.getElem?_cons_zero]; rfl) (fun K hK => ?_) AllReadyH.nil
          go_simp
          go_at_call 15
          refine (HOL.out _ _ HLT.out).mono ?_
          rintro e wC ⟨xa, xc, xb, xd, rfl, hl, hk, hb7⟩
          have hX := Below.step hH.1.out hb7 (Nat.le_refl _)
          clear HLT
          have HR := Lib.hid (OffIn.old hl hk HZ.out.lt)
          replace HZ := Lib.hid (HZ.out.later hb7)
          clear hH hb7 hl hk
          refine hK.out _ _ ⟨Lib.hid hX, HNX.out _ hX⟩ (fun hH => ?_)
          clear hK K hX
          refine wpAnyH_take (i := 7) (v := ?_) (by simp only [List.getElem?_toArray, List.getElem?_cons_succ, List.getElem?_cons_zero]; rfl) (by kernel_rfl) (by kernel_rfl) (by kernel_rfl) (by intro _ _ _ h; exact h) (Or.inl ⟨by rfl, ?_⟩) hH ?_
          rotate_left
          · intro w' hSw
            obtain ⟨s0, s1, s2, s3, s4⟩ := hSw
            go_simp
            try with_reducible rfl
          try simp only [Act.put, List.setIfInBounds_toArray, List.set_cons_zero, List.set_cons_succ]
          refine wpAnyH_take (i := 8) (v := ?_) (by simp only [List.getElem?_toArray, List.getElem?_cons_succ, List.getElem?_cons_zero]; rfl) (by kernel_rfl) (by kernel_rfl) (by kernel_rfl) (by intro _ _ _ h; exact h) (Or.inl ⟨by rfl, ?_⟩) hH ?_
          rotate_left
          · intro w' hSw
            obtain ⟨s0, s1, s2, s3, s4⟩ := hSw
            go_simp
            try with_reducible rfl
          try simp only [Act.put, List.setIfInBounds_toArray, List.set_cons_zero, List.set_cons_succ]
          refine wpAnyH_take (i := 9) (v := ?_) (by simp only [List.getElem?_toArray, List.getElem?_cons_succ, List.getElem?_cons_zero]; rfl) (by kernel_rfl) (by kernel_rfl) (by kernel_rfl) (by intro _ _ _ h; exact h) (Or.inl ⟨by rfl, ?_⟩) hH ?_
          rotate_left
          · intro w' hSw
            obtain ⟨s0, s1, s2, s3, s4⟩ := hSw
            go_simp
            try with_reducible rfl
          try simp only [Act.put, List.setIfInBounds_toArray, List.set_cons_zero, List.set_cons_succ]
          refine wpAnyH_ready (rs := [11]) (by kernel_rfl) (by simp) ?_
          refine AllReadyH.cons (o := _) (by simp only [List.getElem?_toArray, List.getElem?_cons_succ, List.getElem?_cons_zero]; rfl) (fun K hK => ?_) AllReadyH.nil
          obtain ⟨m0, m1, m2, m3⟩ := cells4 HZ.out.2
          have m4 := free_of HZ.out.2
          go_simp
          have hX := box_below hH.1.out HZ.out.1 (.int .i64 X.k) (.int .i64 X.n) (.slice xa X.ls.len xc) (.slice xb X.ks.len xd)
          have HBX := Lib.hid (box_set HZ.out.2 HR.out)
          clear hH m0 m1 m2 m3 m4
          refine hK.out _ _ ⟨Lib.hid hX, HNX.out _ hX⟩ (fun hH => ?_)
          clear hK K hX
          try simp only [Act.put, List.setIfInBounds_toArray, List.set_cons_zero, List.set_cons_succ]
          refine wpAnyH_take (i := 12) (v := ?_) (by simp only [List.getElem?_toArray, List.getElem?_cons_succ, List.getElem?_cons_zero]; rfl) (by kernel_rfl) (by kernel_rfl) (by kernel_rfl) (by intro _ _ _ h; exact h) (Or.inl ⟨by rfl, ?_⟩) hH ?_
          rotate_left
          · intro w' hSw
            obtain ⟨s0, s1, s2, s3, s4⟩ := hSw
            go_simp
            try with_reducible rfl
          try simp only [Act.put, List.setIfInBounds_toArray, List.set_cons_zero, List.set_cons_succ]
          refine wpAnyH_done (by kernel_rfl) ?_ _
          go_wp2_with fail
          go_meet
          exact ⟨_, xa, xc, xb, xd, rfl, rfl, HBX, hH.1⟩
        refine AllReadyH.cons (o := _) (by simp only [List.getElem?_toArray, List.getElem?_cons_succ, List.getElem?_cons_zero]; rfl) (fun K hK => ?_) AllReadyH.nil
        go_simp
        have hz := ZAt.new hH.1.out.size
        try simp only [World.size_alloc] at hz
        have HZ := Lib.hid hz
        have hb7 : Below ((wA.alloc (.cells #[.int .i64 2, .int .i64 0, .slice sx 1 1, .slice none 0 0, .int .i64 t.k, .int .i64 t.n, .slice ta t.ls.len tc, .slice ya t.ks.len yc] 25))).heap.size (wA.alloc (.cells #[.int .i64 2, .int .i64 0, .slice sx 1 1, .slice none 0 0, .int .i64 t.k, .int .i64 t.n, .slice ta t.ls.len tc, .slice ya t.ks.len yc] 25)) ((wA.alloc (.cells #[.int .i64 2, .int .i64 0, .slice sx 1 1, .slice none 0 0, .int .i64 t.k, .int .i64 t.n, .slice ta t.ls.len tc, .slice ya t.ks.len yc] 25)).alloc (.cells #[.int .i64 0, .int .i64 0, .slice none 0 0, .slice none 0 0] 25)) := (Below.refl _ _).alloc (Nat.le_refl _) _
        have hX := Below.step hH.1.out hb7 (Nat.le_refl _)
        replace HLT := Lib.hid (HLT.out.later hb7)
        clear hH hb7 hz
        refine hK.out _ _ ⟨Lib.hid hX, HNX.out _ hX⟩ (fun hH => ?_)
        clear hK K hX
        try simp only [Act.put, List.setIfInBounds_toArray, List.set_cons_zero, List.set_cons_succ]
        refine wpAnyH_ready (rs := [4]) (by kernel_rfl) (by simp) ?_
        refine AllReadyH.cons (o := _) (by simp only [List.getElem?_toArray, List.getElem?_cons_succ, List.getElem?_cons_zero]; rfl) (fun K hK => ?_) AllReadyH.nil
        go_simp
        go_at_call 12
        refine (tBind_any 5 _ 2 2 _).mono ?_
        rintro e wB3 ⟨rfl, hb7⟩
        have hX := Below.step hH.1.out hb7 (Nat.le_refl _)
        replace HLT := Lib.hid (HLT.out.later hb7)
        replace HZ := Lib.hid (HZ.out.later hb7)
        clear hH hb7
        refine hK.out _ _ ⟨Lib.hid hX, HNX.out _ hX⟩ (fun hH => ?_)
        clear hK K hX
        try simp only [Act.put, List.setIfInBounds_toArray, List.set_cons_zero, List.set_cons_succ]
        refine wpAnyH_ready (rs := [5]) (by kernel_rfl) (by simp) ?_
        refine AllReadyH.cons (o := _) (by simp only [List.getElem?_toArray, List.getElem?_cons_succ, List.getElem?_cons_zero]; rfl) (fun K hK => ?_) AllReadyH.nil
        go_simp
        go_at_call 13
        refine (tVar_any 0 _).mono ?_
        rintro e wB4 ⟨rfl, hb7⟩
        have hX := Below.step hH.1.out hb7 (Nat.le_refl _)
        replace HLT := Lib.hid (HLT.out.later hb7)
        replace HZ := Lib.hid (HZ.out.later hb7)
        clear hH hb7
        refine hK.out _ _ ⟨Lib.hid hX, HNX.out _ hX⟩ (fun hH => ?_)
        clear hK K hX
        try simp only [Act.put, List.setIfInBounds_toArray, List.set_cons_zero, List.set_cons_succ]
        refine wpAnyH_ready (rs := [6]) (by kernel_rfl) (by simp) ?_
        refine AllReadyH.cons (o := _) (by simp only [List.getElem?_toArray, List.getElem?_cons_succ, List.getElem?_cons_zero]; rfl) (fun K hK => ?_) AllReadyH.nil
        go_simp
        go_at_call 15
        refine (HOL.out _ _ HLT.out).mono ?_
        rintro e wC ⟨xa, xc, xb, xd, rfl, hl, hk, hb7⟩
        have hX := Below.step hH.1.out hb7 (Nat.le_refl _)
        clear HLT
        have HR := Lib.hid (OffIn.old hl hk HZ.out.lt)
        replace HZ := Lib.hid (HZ.out.later hb7)
        clear hH hb7 hl hk
        refine hK.out _ _ ⟨Lib.hid hX, HNX.out _ hX⟩ (fun hH => ?_)
        clear hK K hX
        refine wpAnyH_take (i := 7) (v := ?_) (by simp only [List.getElem?_toArray, List.getElem?_cons_succ, List.getElem?_cons_zero]; rfl) (by kernel_rfl) (by kernel_rfl) (by kernel_rfl) (by intro _ _ _ h; exact h) (Or.inl ⟨by rfl, ?_⟩) hH ?_
        rotate_left
        · intro w' hSw
          obtain ⟨s0, s1, s2, s3, s4⟩ := hSw
          go_simp
          try with_reducible rfl
        try simp only [Act.put, List.setIfInBounds_toArray, List.set_cons_zero, List.set_cons_succ]
        refine wpAnyH_take (i := 8) (v := ?_) (by simp only [List.getElem?_toArray, List.getElem?_cons_succ, List.getElem?_cons_zero]; rfl) (by kernel_rfl) (by kernel_rfl) (by kernel_rfl) (by intro _ _ _ h; exact h) (Or.inl ⟨by rfl, ?_⟩) hH ?_
        rotate_left
        · intro w' hSw
          obtain ⟨s0, s1, s2, s3, s4⟩ := hSw
          go_simp
          try with_reducible rfl
        try simp only [Act.put, List.setIfInBounds_toArray, List.set_cons_zero, List.set_cons_succ]
        refine wpAnyH_take (i := 9) (v := ?_) (by simp only [List.getElem?_toArray, List.getElem?_cons_succ, List.getElem?_cons_zero]; rfl) (by kernel_rfl) (by kernel_rfl) (by kernel_rfl) (by intro _ _ _ h; exact h) (Or.inl ⟨by rfl, ?_⟩) hH ?_
        rotate_left
        · intro w' hSw
          obtain ⟨s0, s1, s2, s3, s4⟩ := hSw
          go_simp
          try with_reducible rfl
        try simp only [Act.put, List.setIfInBounds_toArray, List.set_cons_zero, List.set_cons_succ]
        refine wpAnyH_ready (rs := [11]) (by kernel_rfl) (by simp) ?_
        refine AllReadyH.cons (o := _) (by simp only [List.getElem?_toArray, List.getElem?_cons_succ, List.getElem?_cons_zero]; rfl) (fun K hK => ?_) AllReadyH.nil
        obtain ⟨m0, m1, m2, m3⟩ := cells4 HZ.out.2
        have m4 := free_of HZ.out.2
        go_simp
        have hX := box_below hH.1.out HZ.out.1 (.int .i64 X.k) (.int .i64 X.n) (.slice xa X.ls.len xc) (.slice xb X.ks.len xd)
        have HBX := Lib.hid (box_set HZ.out.2 HR.out)
        clear hH m0 m1 m2 m3 m4
        refine hK.out _ _ ⟨Lib.hid hX, HNX.out _ hX⟩ (fun hH => ?_)
        clear hK K hX
        try simp only [Act.put, List.setIfInBounds_toArray, List.set_cons_zero, List.set_cons_succ]
        refine wpAnyH_take (i := 12) (v := ?_) (by simp only [List.getElem?_toArray, List.getElem?_cons_succ, List.getElem?_cons_zero]; rfl) (by kernel_rfl) (by kernel_rfl) (by kernel_rfl) (by intro _ _ _ h; exact h) (Or.inl ⟨by rfl, ?_⟩) hH ?_
        rotate_left
        · intro w' hSw
          obtain ⟨s0, s1, s2, s3, s4⟩ := hSw
          go_simp
          try with_reducible rfl
        try simp only [Act.put, List.setIfInBounds_toArray, List.set_cons_zero, List.set_cons_succ]
        refine wpAnyH_done (by kernel_rfl) ?_ _
        go_wp2_with fail
        go_meet
        exact ⟨_, xa, xc, xb, xd, rfl, rfl, HBX, hH.1⟩
      refine AllReadyH.cons (o := _) (by simp only [List.getElem?_toArray, List.getElem?_cons_succ, List.getElem?_cons_zero]; rfl) (fun K hK => ?_) AllReadyH.nil
      go_simp
      have hz := ZAt.new hH.1.out.size
      try simp only [World.size_alloc] at hz
      have HZ := Lib.hid hz
      have hb7 : Below (wA).heap.size wA (wA.alloc (.cells #[.int .i64 0, .int .i64 0, .slice none 0 0, .slice none 0 0] 25)) := (Below.refl _ _).alloc (Nat.le_refl _) _
      have hX := Below.step hH.1.out hb7 (Nat.le_refl _)
      replace HSZ := Lib.hid (HSZ.out.later hb7)
      clear hH hb7 hz
      refine hK.out _ _ ⟨Lib.hid hX, HNX.out _ hX⟩ (fun hH => ?_)
      clear hK K hX
      try simp only [Act.put, List.setIfInBounds_toArray, List.set_cons_zero, List.set_cons_succ]
      refine wpAnyH_ready (rs := [3]) (by kernel_rfl) (by simp) ?_
      refine AllReadyH.cons (o := _) (by simp only [List.getElem?_toArray, List.getElem?_cons_succ, List.getElem?_cons_zero]; rfl) (fun K hK => ?_) AllReadyH.nil
      go_simp
      have hlt := lit_two HSZ.out (HTT.out _ hH.1.out)
      try simp only [World.size_alloc] at hlt
      have HLT := Lib.hid hlt
      have hb7 : Below ((wA.alloc (.cells #[.int .i64 0, .int .i64 0, .slice none 0 0, .slice none 0 0] 25))).heap.size (wA.alloc (.cells #[.int .i64 0, .int .i64 0, .slice none 0 0, .slice none 0 0] 25)) ((wA.alloc (.cells #[.int .i64 0, .int .i64 0, .slice none 0 0, .slice none 0 0] 25)).alloc (.cells #[.int .i64 2, .int .i64 0, .slice sx 1 1, .slice none 0 0, .int .i64 t.k, .int .i64 t.n, .slice ta t.ls.len tc, .slice ya t.ks.len yc] 25)) := (Below.refl _ _).alloc (Nat.le_refl _) _
      have hX := Below.step hH.1.out hb7 (Nat.le_refl _)
      replace HZ := Lib.hid (HZ.out.later hb7)
      clear hH hb7 hlt HSZ
      refine hK.out _ _ ⟨Lib.hid hX, HNX.out _ hX⟩ (fun hH => ?_)
      clear hK K hX
      try simp only [Act.put, List.setIfInBounds_toArray, List.set_cons_zero, List.set_cons_succ]
      refine wpAnyH_ready (rs := [4]) (by kernel_rfl) (by simp) ?_
      refine AllReadyH.cons (o := _) (by simp only [List.getElem?_toArray, List.getElem?_cons_succ, List.getElem?_cons_zero]; rfl) (fun K hK => ?_) AllReadyH.nil
      go_simp
      go_at_call 12
      refine (tBind_any 5 _ 2 2 _).mono ?_
      rintro e wB3 ⟨rfl, hb7⟩
      have hX := Below.step hH.1.out hb7 (Nat.le_refl _)
      replace HZ := Lib.hid (HZ.out.later hb7)
      replace HLT := Lib.hid (HLT.out.later hb7)
      clear hH hb7
      refine hK.out _ _ ⟨Lib.hid hX, HNX.out _ hX⟩ (fun hH => ?_)
      clear hK K hX
      try simp only [Act.put, List.setIfInBounds_toArray, List.set_cons_zero, List.set_cons_succ]
      refine wpAnyH_ready (rs := [5]) (by kernel_rfl) (by simp) ?_
      refine AllReadyH.cons (o := _) (by simp only [List.getElem?_toArray, List.getElem?_cons_succ, List.getElem?_cons_zero]; rfl) (fun K hK => ?_) AllReadyH.nil
      go_simp
      go_at_call 13
      refine (tVar_any 0 _).mono ?_
      rintro e wB4 ⟨rfl, hb7⟩
      have hX := Below.step hH.1.out hb7 (Nat.le_refl _)
      replace HZ := Lib.hid (HZ.out.later hb7)
      replace HLT := Lib.hid (HLT.out.later hb7)
      clear hH hb7
      refine hK.out _ _ ⟨Lib.hid hX, HNX.out _ hX⟩ (fun hH => ?_)
      clear hK K hX
      try simp only [Act.put, List.setIfInBounds_toArray, List.set_cons_zero, List.set_cons_succ]
      refine wpAnyH_ready (rs := [6]) (by kernel_rfl) (by simp) ?_
      refine AllReadyH.cons (o := _) (by simp only [List.getElem?_toArray, List.getElem?_cons_succ, List.getElem?_cons_zero]; rfl) (fun K hK => ?_) AllReadyH.nil
      go_simp
      go_at_call 15
      refine (HOL.out _ _ HLT.out).mono ?_
      rintro e wC ⟨xa, xc, xb, xd, rfl, hl, hk, hb7⟩
      have hX := Below.step hH.1.out hb7 (Nat.le_refl _)
      clear HLT
      have HR := Lib.hid (OffIn.old hl hk HZ.out.lt)
      replace HZ := Lib.hid (HZ.out.later hb7)
      clear hH hb7 hl hk
      refine hK.out _ _ ⟨Lib.hid hX, HNX.out _ hX⟩ (fun hH => ?_)
      clear hK K hX
      refine wpAnyH_take (i := 7) (v := ?_) (by simp only [List.getElem?_toArray, List.getElem?_cons_succ, List.getElem?_cons_zero]; rfl) (by kernel_rfl) (by kernel_rfl) (by kernel_rfl) (by intro _ _ _ h; exact h) (Or.inl ⟨by rfl, ?_⟩) hH ?_
      rotate_left
      · intro w' hSw
        obtain ⟨s0, s1, s2, s3, s4⟩ := hSw
        go_simp
        try with_reducible rfl
      try simp only [Act.put, List.setIfInBounds_toArray, List.set_cons_zero, List.set_cons_succ]
      refine wpAnyH_take (i := 8) (v := ?_) (by simp only [List.getElem?_toArray, List.getElem?_cons_succ, List.getElem?_cons_zero]; rfl) (by kernel_rfl) (by kernel_rfl) (by kernel_rfl) (by intro _ _ _ h; exact h) (Or.inl ⟨by rfl, ?_⟩) hH ?_
      rotate_left
      · intro w' hSw
        obtain ⟨s0, s1, s2, s3, s4⟩ := hSw
        go_simp
        try with_reducible rfl
      try simp only [Act.put, List.setIfInBounds_toArray, List.set_cons_zero, List.set_cons_succ]
      refine wpAnyH_take (i := 9) (v := ?_) (by simp only [List.getElem?_toArray, List.getElem?_cons_succ, List.getElem?_cons_zero]; rfl) (by kernel_rfl) (by kernel_rfl) (by kernel_rfl) (by intro _ _ _ h; exact h) (Or.inl ⟨by rfl, ?_⟩) hH ?_
      rotate_left
      · intro w' hSw
        obtain ⟨s0, s1, s2, s3, s4⟩ := hSw
        go_simp
        try with_reducible rfl
      try simp only [Act.put, List.setIfInBounds_toArray, List.set_cons_zero, List.set_cons_succ]
      refine wpAnyH_ready (rs := [11]) (by kernel_rfl) (by simp) ?_
      refine AllReadyH.cons (o := _) (by simp only [List.getElem?_toArray, List.getElem?_cons_succ, List.getElem?_cons_zero]; rfl) (fun K hK => ?_) AllReadyH.nil
      obtain ⟨m0, m1, m2, m3⟩ := cells4 HZ.out.2
      have m4 := free_of HZ.out.2
      go_simp
      have hX := box_below hH.1.out HZ.out.1 (.int .i64 X.k) (.int .i64 X.n) (.slice xa X.ls.len xc) (.slice xb X.ks.len xd)
      have HBX := Lib.hid (box_set HZ.out.2 HR.out)
      clear hH m0 m1 m2 m3 m4
      refine hK.out _ _ ⟨Lib.hid hX, HNX.out _ hX⟩ (fun hH => ?_)
      clear hK K hX
      try simp only [Act.put, List.setIfInBounds_toArray, List.set_cons_zero, List.set_cons_succ]
      refine wpAnyH_take (i := 12) (v := ?_) (by simp only [List.getElem?_toArray, List.getElem?_cons_succ, List.getElem?_cons_zero]; rfl) (by kernel_rfl) (by kernel_rfl) (by kernel_rfl) (by intro _ _ _ h; exact h) (Or.inl ⟨by rfl, ?_⟩) hH ?_
      rotate_left
      · intro w' hSw
        obtain ⟨s0, s1, s2, s3, s4⟩ := hSw
        go_simp
        try with_reducible rfl
      try simp only [Act.put, List.setIfInBounds_toArray, List.set_cons_zero, List.set_cons_succ]
      refine wpAnyH_done (by kernel_rfl) ?_ _
      go_wp2_with fail
      go_meet
      exact ⟨_, xa, xc, xb, xd, rfl, rfl, HBX, hH.1⟩
    refine AllReadyH.cons (o := _) (by simp only [List.getElem?_toArray, List.getElem?_cons_succ, List.getElem?_cons_zero]; rfl) (fun K hK => ?_) AllReadyH.nil
    go_simp
    have hz : ZAt (W0.drew.alloc (.cells #[.int .i64 0, .int .i64 0, .slice none 0 0, .slice none 0 0] 25)) W0.heap.size W0.heap.size := ZAt.new hH.1.out.size
    try simp only [World.size_alloc] at hz
    have HZ := Lib.hid hz
    have hb7 : Below (W0.drew).heap.size W0.drew (W0.drew.alloc (.cells #[.int .i64 0, .int .i64 0, .slice none 0 0, .slice none 0 0] 25)) := (Below.refl _ _).alloc (Nat.le_refl _) _
    have hX := Below.step hH.1.out hb7 (Nat.le_refl _)
    clear hH hb7 hz
    refine hK.out _ _ ⟨Lib.hid hX, HNX.out _ hX⟩ (fun hH => ?_)
    clear hK K hX
    try simp only [Act.put, List.setIfInBounds_toArray, List.set_cons_zero, List.set_cons_succ]
    refine wpAnyH_ready (rs := [1]) (by kernel_rfl) (by simp) ?_
    refine AllReadyH.cons (o := _) (by simp only [List.getElem?_toArray, List.getElem?_cons_succ, List.getElem?_cons_zero]; rfl) (fun K hK => ?_) AllReadyH.nil
    go_simp
    go_at_call 18
    refine (HSO.out _).mono ?_
    rintro e wA ⟨sx, rfl, hsz, hb7⟩
    have hX := Below.step hH.1.out hb7 (Nat.le_refl _)
    replace HZ := Lib.hid (HZ.out.later hb7)
    have HSZ := Lib.hid hsz
    clear hH hb7 hsz
    refine hK.out _ _ ⟨Lib.hid hX, HNX.out _ hX⟩ (fun hH => ?_)
    clear hK K hX
    try simp only [Act.put, List.setIfInBounds_toArray, List.set_cons_zero, List.set_cons_succ]
    refine wpAnyH_ready (rs := [3]) (by kernel_rfl) (by simp) ?_
    refine AllReadyH.cons (o := _) (by simp only [List.getElem?_toArray, List.getElem?_cons_succ, List.getElem?_cons_zero]; rfl) (fun K hK => ?_) AllReadyH.nil
    go_simp
    have hlt := lit_two HSZ.out (HTT.out _ hH.1.out)
    try simp only [World.size_alloc] at hlt
    have HLT := Lib.hid hlt
    have hb7 : Below (wA).heap.size wA (wA.alloc (.cells #[.int .i64 2, .int .i64 0, .slice sx 1 1, .slice none 0 0, .int .i64 t.k, .int .i64 t.n, .slice ta t.ls.len tc, .slice ya t.ks.len yc] 25)) := (Below.refl _ _).alloc (Nat.le_refl _) _
    have hX := Below.step hH.1.out hb7 (Nat.le_refl _)
    replace HZ := Lib.hid (HZ.out.later hb7)
    clear hH hb7 hlt HSZ
    refine hK.out _ _ ⟨Lib.hid hX, HNX.out _ hX⟩ (fun hH => ?_)
    clear hK K hX
    try simp only [Act.put, List.setIfInBounds_toArray, List.set_cons_zero, List.set_cons_succ]
    refine wpAnyH_ready (rs := [4]) (by kernel_rfl) (by simp) ?_
    refine AllReadyH.cons (o := _) (by simp only [List.getElem?_toArray, List.getElem?_cons_succ, List.getElem?_cons_zero]; rfl) (fun K hK => ?_) AllReadyH.nil
    go_simp
    go_at_call 12
    refine (tBind_any 5 _ 2 2 _).mono ?_
    rintro e wB3 ⟨rfl, hb7⟩
    have hX := Below.step hH.1.out hb7 (Nat.le_refl _)
    replace HZ := Lib.hid (HZ.out.later hb7)
    replace HLT := Lib.hid (HLT.out.later hb7)
    clear hH hb7
    refine hK.out _ _ ⟨Lib.hid hX, HNX.out _ hX⟩ (fun hH => ?_)
    clear hK K hX
    try simp only [Act.put, List.setIfInBounds_toArray, List.set_cons_zero, List.set_cons_succ]
    refine wpAnyH_ready (rs := [5]) (by kernel_rfl) (by simp) ?_
    refine AllReadyH.cons (o := _) (by simp only [List.getElem?_toArray, List.getElem?_cons_succ, List.getElem?_cons_zero]; rfl) (fun K hK => ?_) AllReadyH.nil
    go_simp
    go_at_call 13
    refine (tVar_any 0 _).mono ?_
    rintro e wB4 ⟨rfl, hb7⟩
    have hX := Below.step hH.1.out hb7 (Nat.le_refl _)
    replace HZ := Lib.hid (HZ.out.later hb7)
    replace HLT := Lib.hid (HLT.out.later hb7)
    clear hH hb7
    refine hK.out _ _ ⟨Lib.hid hX, HNX.out _ hX⟩ (fun hH => ?_)
    clear hK K hX
    try simp only [Act.put, List.setIfInBounds_toArray, List.set_cons_zero, List.set_cons_succ]
    refine wpAnyH_ready (rs := [6]) (by kernel_rfl) (by simp) ?_
    refine AllReadyH.cons (o := _) (by simp only [List.getElem?_toArray, List.getElem?_cons_succ, List.getElem?_cons_zero]; rfl) (fun K hK => ?_) AllReadyH.nil
    go_simp
    go_at_call 15
    refine (HOL.out _ _ HLT.out).mono ?_
    rintro e wC ⟨xa, xc, xb, xd, rfl, hl, hk, hb7⟩
    have hX := Below.step hH.1.out hb7 (Nat.le_refl _)
    clear HLT
    have HR := Lib.hid (OffIn.old hl hk HZ.out.lt)
    replace HZ := Lib.hid (HZ.out.later hb7)
    clear hH hb7 hl hk
    refine hK.out _ _ ⟨Lib.hid hX, HNX.out _ hX⟩ (fun hH => ?_)
    clear hK K hX
    refine wpAnyH_take (i := 7) (v := ?_) (by simp only [List.getElem?_toArray, List.getElem?_cons_succ, List.getElem?_cons_zero]; rfl) (by kernel_rfl) (by kernel_rfl) (by kernel_rfl) (by intro _ _ _ h; exact h) (Or.inl ⟨by rfl, ?_⟩) hH ?_
    rotate_left
    · intro w' hSw
      obtain ⟨s0, s1, s2, s3, s4⟩ := hSw
      go_simp
      try with_reducible rfl
    try simp only [Act.put, List.setIfInBounds_toArray, List.set_cons_zero, List.set_cons_succ]
    refine wpAnyH_take (i := 8) (v := ?_) (by simp only [List.getElem?_toArray, List.getElem?_cons_succ, List.getElem?_cons_zero]; rfl) (by kernel_rfl) (by kernel_rfl) (by kernel_rfl) (by intro _ _ _ h; exact h) (Or.inl ⟨by rfl, ?_⟩) hH ?_
    rotate_left
    · intro w' hSw
      obtain ⟨s0, s1, s2, s3, s4⟩ := hSw
      go_simp
      try with_reducible rfl
    try simp only [Act.put, List.setIfInBounds_toArray, List.set_cons_zero, List.set_cons_succ]
    refine wpAnyH_take (i := 9) (v := ?_) (by simp only [List.getElem?_toArray, List.getElem?_cons_succ, List.getElem?_cons_zero]; rfl) (by kernel_rfl) (by kernel_rfl) (by kernel_rfl) (by intro _ _ _ h; exact h) (Or.inl ⟨by rfl, ?_⟩) hH ?_
    rotate_left
    · intro w' hSw
      obtain ⟨s0, s1, s2, s3, s4⟩ := hSw
      go_simp
      try with_reducible rfl
    try simp only [Act.put, List.setIfInBounds_toArray, List.set_cons_zero, List.set_cons_succ]
    refine wpAnyH_ready (rs := [11]) (by kernel_rfl) (by simp) ?_
    refine AllReadyH.cons (o := _) (by simp only [List.getElem?_toArray, List.getElem?_cons_succ, List.getElem?_cons_zero]; rfl) (fun K hK => ?_) AllReadyH.nil
    obtain ⟨m0, m1, m2, m3⟩ := cells4 HZ.out.2
    have m4 := free_of HZ.out.2
    go_simp
    have hX := box_below hH.1.out HZ.out.1 (.int .i64 X.k) (.int .i64 X.n) (.slice xa X.ls.len xc) (.slice xb X.ks.len xd)
    have HBX := Lib.hid (box_set HZ.out.2 HR.out)
    clear hH m0 m1 m2 m3 m4
    refine hK.out _ _ ⟨Lib.hid hX, HNX.out _ hX⟩ (fun hH => ?_)
    clear hK K hX
    try simp only [Act.put, List.setIfInBounds_toArray, List.set_cons_zero, List.set_cons_succ]
    refine wpAnyH_take (i := 12) (v := ?_) (by simp only [List.getElem?_toArray, List.getElem?_cons_succ, List.getElem?_cons_zero]; rfl) (by kernel_rfl) (by kernel_rfl) (by kernel_rfl) (by intro _ _ _ h; exact h) (Or.inl ⟨by rfl, ?_⟩) hH ?_
    rotate_left
    · intro w' hSw
      obtain ⟨s0, s1, s2, s3, s4⟩ := hSw
      go_simp
      try with_reducible rfl
    try simp only [Act.put, List.setIfInBounds_toArray, List.set_cons_zero, List.set_cons_succ]
    refine wpAnyH_done (by kernel_rfl) ?_ _
    go_wp2_with fail
    go_meet
    exact ⟨_, xa, xc, xb, xd, rfl, rfl, HBX, hH.1⟩
  case rest =>
    obtain ⟨M1, la1, lc1, ka1, kc1, rfl, rfl, HBX, HBB⟩ := hcut
    have T13 := Lib.hid (T12.out.later HBB.out)
    have V13 := Lib.hid (V12.out.later HBB.out)
    have B13 := Lib.hid (B12.out.later HBB.out)
    have W13 := Lib.hid (W12.out.later HBB.out)
    have HB13 := Lib.hid (Below.step HB12.out HBB.out (Nat.le_refl _))
    obtain ⟨c0, _, _, _⟩ := HBX.out.cells
    rw [HXK.out] at c0
    obtain ⟨Z, hZ⟩ : ∃ Z, Z = lamT C := ⟨_, rfl⟩
    have hZ2 := HE.out.c
    rw [← hZ] at hZ2
    have HZE := Lib.hid hZ
    have HOZ : Hid (∀ (W' : World) (M : Nat), TmIn W' W'.heap.size v va2 vc2 vb vd → LitIn W' M (sZ.to (t.to .nil)) → Calls Try.prog 15 #[.agg #[.int .i64 5, .int .i64 0, .slice none 0 0, .slice (some ⟨M, 0, none⟩) 2 2], .agg #[.int .i64 v.k, .int .i64 v.n, .slice va2 v.ls.len vc2, .slice vb v.ks.len vd]] W' (LePost (Z, 0) W')) := Lib.hid (fun W' M h h2 => HC.out Z W' M hZ2 h h2)
    clear HBX HBB T12 V12 B12 W12 HB12 HC HNX HTT HOL HXK hZ hZ2
    go_upto_region 13 with fail
    generalize hW0 : wc = W1 at T13 V13 B13 W13 HB13 ⊢
    clear hW0 c0
    have HNX : Hid (∀ wN : World, Below W1.heap.size W1 wN → wN.cell? ⟨w2.heap.size, 0, none⟩ = some (.int .i64 t.k) ∧ wN.cell? ⟨w2.heap.size, 1, none⟩ = some (.int .i64 t.n) ∧ wN.cell? ⟨w2.heap.size, 2, none⟩ = some (.slice ta t.ls.len tc) ∧ wN.cell? ⟨w2.heap.size, 3, none⟩ = some (.slice ya t.ks.len yc) ∧ wN.cell? ⟨w5.heap.size, 0, none⟩ = some (.int .i64 v.k) ∧ wN.cell? ⟨w5.heap.size, 1, none⟩ = some (.int .i64 v.n) ∧ wN.cell? ⟨w5.heap.size, 2, none⟩ = some (.slice va2 v.ls.len vc2) ∧ wN.cell? ⟨w5.heap.size, 3, none⟩ = some (.slice vb v.ks.len vd)) := Lib.hid (by
      intro wN hX
      obtain ⟨x0, y0, z0, u0⟩ := (T13.out.later hX).cells
      obtain ⟨x1, y1, z1, u1⟩ := (V13.out.later hX).cells
      exact ⟨x0, y0, z0, u0, x1, y1, z1, u1⟩)
    have HTT : Hid (∀ W' : World, Below W1.heap.size W1 W' → TmIn W' W'.heap.size t ta tc ya yc) := Lib.hid (fun W' h => (T13.out.later h).2.up)
    have HVV : Hid (∀ W' : World, Below W1.heap.size W1 W' → TmIn W' W'.heap.size v va2 vc2 vb vd) := Lib.hid (fun W' h => (V13.out.later h).2.up)
    go_cut [19, 20] from 23 to 121 (fun s19 s20 wx => ∃ M la lc ka kc, s19 = .pointer (some ⟨M, 0, none⟩) ∧ s20 = .int .i64 0 ∧ Hid (BoxAt wx M Z la lc ka kc) ∧ Hid (Below W1.heap.size W1 wx))
    case first =>
      refine wp_region_held_drew (S := fun w' => Hid (Below W1.heap.size W1 w') ∧ w'.cell? ⟨w2.heap.size, 0, none⟩ = some (.int .i64 t.k) ∧ w'.cell? ⟨w2.heap.size, 1, none⟩ = some (.int .i64 t.n) ∧ w'.cell? ⟨w2.heap.size, 2, none⟩ = some (.slice ta t.ls.len tc) ∧ w'.cell? ⟨w2.heap.size, 3, none⟩ = some (.slice ya t.ks.len yc) ∧ w'.cell? ⟨w5.heap.size, 0, none⟩ = some (.int .i64 v.k) ∧ w'.cell? ⟨w5.heap.size, 1, none⟩ = some (.int .i64 v.n) ∧ w'.cell? ⟨w5.heap.size, 2, none⟩ = some (.slice va2 v.ls.len vc2) ∧ w'.cell? ⟨w5.heap.size, 3, none⟩ = some (.slice vb v.ks.len vd)) (by kernel_rfl) (⟨Lib.hid (Below.refl _ _).drew, HNX.out _ (Below.refl _ _).drew⟩) (fun hH => ?_)
      try simp only [Act.put, List.setIfInBounds_toArray, List.set_cons_zero, List.set_cons_succ]
      refine wpAnyH_take (i := 0) (v := ?_) (by simp only [List.getElem?_toArray, List.getElem?_cons_zero]; rfl) (by kernel_rfl) (by kernel_rfl) (by kernel_rfl) (by intro _ _ _ h; exact h) (Or.inl ⟨by rfl, ?_⟩) hH ?_
      rotate_left
      · intro w' hSw
        obtain ⟨s0, s1, s2, s3, s4, s5, s6, s7, s8⟩ := hSw
        go_simp
        try with_reducible rfl
      try simp only [Act.put, List.setIfInBounds_toArray, List.set_cons_zero, List.set_cons_succ]
      refine wpAnyH_take (i := 2) (v := ?_) (by simp only [List.getElem?_toArray, List.getElem?_cons_succ, List.getElem?_cons_zero]; rfl) (by kernel_rfl) (by kernel_rfl) (by kernel_rfl) (by intro _ _ _ h; exact h) (Or.inl ⟨by rfl, ?_⟩) hH ?_
      rotate_left
      · intro w' hSw
        obtain ⟨s0, s1, s2, s3, s4, s5, s6, s7, s8⟩ := hSw
        go_simp
        try with_reducible rfl
      try simp only [Act.put, List.setIfInBounds_toArray, List.set_cons_zero, List.set_cons_succ]
      refine wpAnyH_take (i := 5) (v := ?_) (by simp only [List.getElem?_toArray, List.getElem?_cons_succ, List.getElem?_cons_zero]; rfl) (by kernel_rfl) (by kernel_rfl) (by kernel_rfl) (by intro _ _ _ h; exact h) (Or.inl ⟨by rfl, ?_⟩) hH ?_
      rotate_left
      · intro w' hSw
        obtain ⟨s0, s1, s2, s3, s4, s5, s6, s7, s8⟩ := hSw
        go_simp
        try with_reducible rfl
      try simp only [Act.put, List.setIfInBounds_toArray, List.set_cons_zero, List.set_cons_succ]
      refine wpAnyH_ready (rs := [1, 10]) (by kernel_rfl) (by simp) ?_
      refine AllReadyH.cons (o := _) (by simp only [List.getElem?_toArray, List.getElem?_cons_succ, List.getElem?_cons_zero]; rfl) (fun K hK => ?_) ?_
      · go_simp
        go_at_call 18
        refine (HSO.out _).mono ?_
        rintro e wA ⟨sx, rfl, hsz, hb7⟩
        have hX := Below.step hH.1.out hb7 (Nat.le_refl _)
        have HSZ := Lib.hid hsz
        clear hH hb7 hsz
        refine hK.out _ _ ⟨Lib.hid hX, HNX.out _ hX⟩ (fun hH => ?_)
        clear hK K hX
        try simp only [Act.put, List.setIfInBounds_toArray, List.set_cons_zero, List.set_cons_succ]
        refine wpAnyH_ready (rs := [3, 10]) (by kernel_rfl) (by simp) ?_
        refine AllReadyH.cons (o := _) (by simp only [List.getElem?_toArray, List.getElem?_cons_succ, List.getElem?_cons_zero]; rfl) (fun K hK => ?_) ?_
        · go_simp
          have hlt := lit_two HSZ.out (HTT.out _ hH.1.out)
          try simp only [World.size_alloc] at hlt
          have HLT := Lib.hid hlt
          have hb7 : Below (wA).heap.size wA (wA.alloc (.cells #[.int .i64 2, .int .i64 0, .slice sx 1 1, .slice none 0 0, .int .i64 t.k, .int .i64 t.n, .slice ta t.ls.len tc, .slice ya t.ks.len yc] 25)) := (Below.refl _ _).alloc (Nat.le_refl _) _
          have hX := Below.step hH.1.out hb7 (Nat.le_refl _)
          clear hH hb7 hlt HSZ
          refine hK.out _ _ ⟨Lib.hid hX, HNX.out _ hX⟩ (fun hH => ?_)
          clear hK K hX
          try simp only [Act.put, List.setIfInBounds_toArray, List.set_cons_zero, List.set_cons_succ]
          refine wpAnyH_ready (rs := [4, 10]) (by kernel_rfl) (by simp) ?_
          refine AllReadyH.cons (o := _) (by simp only [List.getElem?_toArray, List.getElem?_cons_succ, List.getElem?_cons_zero]; rfl) (fun K hK => ?_) ?_
          · go_simp
            go_at_call 12
            refine (tBind_any 5 _ 2 2 _).mono ?_
            rintro e wB2 ⟨rfl, hb7⟩
            have hX := Below.step hH.1.out hb7 (Nat.le_refl _)
            replace HLT := Lib.hid (HLT.out.later hb7)
            clear hH hb7
            refine hK.out _ _ ⟨Lib.hid hX, HNX.out _ hX⟩ (fun hH => ?_)
            clear hK K hX
            try simp only [Act.put, List.setIfInBounds_toArray, List.set_cons_zero, List.set_cons_succ]
            refine wpAnyH_ready (rs := [6, 10]) (by kernel_rfl) (by simp) ?_
            refine AllReadyH.cons (o := _) (by simp only [List.getElem?_toArray, List.getElem?_cons_succ, List.getElem?_cons_zero]; rfl) (fun K hK => ?_) ?_
            · go_simp
              go_at_call 15
              refine (HOZ.out _ _ (HVV.out _ hH.1.out) HLT.out).mono ?_
              rintro e wC ⟨xa, xc, xb, xd, rfl, hl, hk, hb7⟩
              have hX := Below.step hH.1.out hb7 (Nat.le_refl _)
              clear HLT
              have HR := Lib.hid (LePost.tmIn hl hk)
              clear hH hb7 hl hk
              refine hK.out _ _ ⟨Lib.hid hX, HNX.out _ hX⟩ (fun hH => ?_)
              clear hK K hX
              refine wpAnyH_take (i := 7) (v := ?_) (by simp only [List.getElem?_toArray, List.getElem?_cons_succ, List.getElem?_cons_zero]; rfl) (by kernel_rfl) (by kernel_rfl) (by kernel_rfl) (by intro _ _ _ h; exact h) (Or.inl ⟨by rfl, ?_⟩) hH ?_
              rotate_left
              · intro w' hSw
                obtain ⟨s0, s1, s2, s3, s4, s5, s6, s7, s8⟩ := hSw
                go_simp
                try with_reducible rfl
              try simp only [Act.put, List.setIfInBounds_toArray, List.set_cons_zero, List.set_cons_succ]
              refine wpAnyH_take (i := 8) (v := ?_) (by simp only [List.getElem?_toArray, List.getElem?_cons_succ, List.getElem?_cons_zero]; rfl) (by kernel_rfl) (by kernel_rfl) (by kernel_rfl) (by intro _ _ _ h; exact h) (Or.inl ⟨by rfl, ?_⟩) hH ?_
              rotate_left
              · intro w' hSw
                obtain ⟨s0, s1, s2, s3, s4, s5, s6, s7, s8⟩ := hSw
                go_simp
                try with_reducible rfl
              try simp only [Act.put, List.setIfInBounds_toArray, List.set_cons_zero, List.set_cons_succ]
              refine wpAnyH_take (i := 9) (v := ?_) (by simp only [List.getElem?_toArray, List.getElem?_cons_succ, List.getElem?_cons_zero]; rfl) (by kernel_rfl) (by kernel_rfl) (by kernel_rfl) (by intro _ _ _ h; exact h) (Or.inl ⟨by rfl, ?_⟩) hH ?_
              rotate_left
              · intro w' hSw
                obtain ⟨s0, s1, s2, s3, s4, s5, s6, s7, s8⟩ := hSw
                go_simp
                try with_reducible rfl
              try simp only [Act.put, List.setIfInBounds_toArray, List.set_cons_zero, List.set_cons_succ]
              refine wpAnyH_ready (rs := [10]) (by kernel_rfl) (by simp) ?_
              refine AllReadyH.cons (o := _) (by simp only [List.getElem?_toArray, List.getElem?_cons_succ, List.getElem?_cons_zero]; rfl) (fun K hK => ?_) AllReadyH.nil
              go_simp
              have hz := ZAt.new hH.1.out.size
              try simp only [World.size_alloc] at hz
              have HZ := Lib.hid hz
              have hb7 : Below (wC).heap.size wC (wC.alloc (.cells #[.int .i64 0, .int .i64 0, .slice none 0 0, .slice none 0 0] 25)) := (Below.refl _ _).alloc (Nat.le_refl _) _
              have hX := Below.step hH.1.out hb7 (Nat.le_refl _)
              have HW := hH.1
              have HRO := HR
              replace HR := Lib.hid (OffIn.new HR.out (.cells #[.int .i64 0, .int .i64 0, .slice none 0 0, .slice none 0 0] 25))
              clear hH hb7 hz
              refine hK.out _ _ ⟨Lib.hid hX, HNX.out _ hX⟩ (fun hH => ?_)
              clear hK K hX
              try simp only [Act.put, List.setIfInBounds_toArray, List.set_cons_zero, List.set_cons_succ]
              refine wpAnyH_ready (rs := [11]) (by kernel_rfl) (by simp) ?_
              refine AllReadyH.cons (o := _) (by simp only [List.getElem?_toArray, List.getElem?_cons_succ, List.getElem?_cons_zero]; rfl) (fun K hK => ?_) AllReadyH.nil
              obtain ⟨m0, m1, m2, m3⟩ := cells4 HZ.out.2
              have m4 := free_of HZ.out.2
              go_simp
              have hX := Below.step HW.out ((Below.refl _ _).alloc (Nat.le_refl _) (.cells #[.int .i64 Z.k, .int .i64 Z.n, .slice xa Z.ls.len xc, .slice xb Z.ks.len xd] 25)) (Nat.le_refl _)
              have HBX := Lib.hid (TmBox.at (TmBox.new HRO.out))
              clear hH m0 m1 m2 m3 m4 HRO HW
              refine hK.out _ _ ⟨Lib.hid hX, HNX.out _ hX⟩ (fun hH => ?_)
              clear hK K hX
              try simp only [Act.put, List.setIfInBounds_toArray, List.set_cons_zero, List.set_cons_succ]
              refine wpAnyH_take (i := 12) (v := ?_) (by simp only [List.getElem?_toArray, List.getElem?_cons_succ, List.getElem?_cons_zero]; rfl) (by kernel_rfl) (by kernel_rfl) (by kernel_rfl) (by intro _ _ _ h; exact h) (Or.inl ⟨by rfl, ?_⟩) hH ?_
              rotate_left
              · intro w' hSw
                obtain ⟨s0, s1, s2, s3, s4, s5, s6, s7, s8⟩ := hSw
                go_simp
                try with_reducible rfl
              try simp only [Act.put, List.setIfInBounds_toArray, List.set_cons_zero, List.set_cons_succ]
              refine wpAnyH_done (by kernel_rfl) ?_ _
              go_wp2_with fail
              go_meet
              exact ⟨_, xa, xc, xb, xd, rfl, rfl, HBX, hH.1⟩
            refine AllReadyH.cons (o := _) (by simp only [List.getElem?_toArray, List.getElem?_cons_succ, List.getElem?_cons_zero]; rfl) (fun K hK => ?_) AllReadyH.nil
            go_simp
            have hz := ZAt.new hH.1.out.size
            try simp only [World.size_alloc] at hz
            have HZ := Lib.hid hz
            have hb7 : Below (wB2).heap.size wB2 (wB2.alloc (.cells #[.int .i64 0, .int .i64 0, .slice none 0 0, .slice none 0 0] 25)) := (Below.refl _ _).alloc (Nat.le_refl _) _
            have hX := Below.step hH.1.out hb7 (Nat.le_refl _)
            replace HLT := Lib.hid (HLT.out.later hb7)
            clear hH hb7 hz
            refine hK.out _ _ ⟨Lib.hid hX, HNX.out _ hX⟩ (fun hH => ?_)
            clear hK K hX
            try simp only [Act.put, List.setIfInBounds_toArray, List.set_cons_zero, List.set_cons_succ]
            refine wpAnyH_ready (rs := [6]) (by kernel_rfl) (by simp) ?_
            refine AllReadyH.cons (o := _) (by simp only [List.getElem?_toArray, List.getElem?_cons_succ, List.getElem?_cons_zero]; rfl) (fun K hK => ?_) AllReadyH.nil
            go_simp
            go_at_call 15
            refine (HOZ.out _ _ (HVV.out _ hH.1.out) HLT.out).mono ?_
            rintro e wC ⟨xa, xc, xb, xd, rfl, hl, hk, hb7⟩
            have hX := Below.step hH.1.out hb7 (Nat.le_refl _)
            clear HLT
            have HR := Lib.hid (OffIn.old hl hk HZ.out.lt)
            replace HZ := Lib.hid (HZ.out.later hb7)
            clear hH hb7 hl hk
            refine hK.out _ _ ⟨Lib.hid hX, HNX.out _ hX⟩ (fun hH => ?_)
            clear hK K hX
            refine wpAnyH_take (i := 7) (v := ?_) (by simp only [List.getElem?_toArray, List.getElem?_cons_succ, List.getElem?_cons_zero]; rfl) (by kernel_rfl) (by kernel_rfl) (by kernel_rfl) (by intro _ _ _ h; exact h) (Or.inl ⟨by rfl, ?_⟩) hH ?_
            rotate_left
            · intro w' hSw
              obtain ⟨s0, s1, s2, s3, s4, s5, s6, s7, s8⟩ := hSw
              go_simp
              try with_reducible rfl
            try simp only [Act.put, List.setIfInBounds_toArray, List.set_cons_zero, List.set_cons_succ]
            refine wpAnyH_take (i := 8) (v := ?_) (by simp only [List.getElem?_toArray, List.getElem?_cons_succ, List.getElem?_cons_zero]; rfl) (by kernel_rfl) (by kernel_rfl) (by kernel_rfl) (by intro _ _ _ h; exact h) (Or.inl ⟨by rfl, ?_⟩) hH ?_
            rotate_left
            · intro w' hSw
              obtain ⟨s0, s1, s2, s3, s4, s5, s6, s7, s8⟩ := hSw
              go_simp
              try with_reducible rfl
            try simp only [Act.put, List.setIfInBounds_toArray, List.set_cons_zero, List.set_cons_succ]
            refine wpAnyH_take (i := 9) (v := ?_) (by simp only [List.getElem?_toArray, List.getElem?_cons_succ, List.getElem?_cons_zero]; rfl) (by kernel_rfl) (by kernel_rfl) (by kernel_rfl) (by intro _ _ _ h; exact h) (Or.inl ⟨by rfl, ?_⟩) hH ?_
            rotate_left
            · intro w' hSw
              obtain ⟨s0, s1, s2, s3, s4, s5, s6, s7, s8⟩ := hSw
              go_simp
              try with_reducible rfl
            try simp only [Act.put, List.setIfInBounds_toArray, List.set_cons_zero, List.set_cons_succ]
            refine wpAnyH_ready (rs := [11]) (by kernel_rfl) (by simp) ?_
            refine AllReadyH.cons (o := _) (by simp only [List.getElem?_toArray, List.getElem?_cons_succ, List.getElem?_cons_zero]; rfl) (fun K hK => ?_) AllReadyH.nil
            obtain ⟨m0, m1, m2, m3⟩ := cells4 HZ.out.2
            have m4 := free_of HZ.out.2
            go_simp
            have hX := box_below hH.1.out HZ.out.1 (.int .i64 Z.k) (.int .i64 Z.n) (.slice xa Z.ls.len xc) (.slice xb Z.ks.len xd)
            have HBX := Lib.hid (box_set HZ.out.2 HR.out)
            clear hH m0 m1 m2 m3 m4
            refine hK.out _ _ ⟨Lib.hid hX, HNX.out _ hX⟩ (fun hH => ?_)
            clear hK K hX
            try simp only [Act.put, List.setIfInBounds_toArray, List.set_cons_zero, List.set_cons_succ]
            refine wpAnyH_take (i := 12) (v := ?_) (by simp only [List.getElem?_toArray, List.getElem?_cons_succ, List.getElem?_cons_zero]; rfl) (by kernel_rfl) (by kernel_rfl) (by kernel_rfl) (by intro _ _ _ h; exact h) (Or.inl ⟨by rfl, ?_⟩) hH ?_
            rotate_left
            · intro w' hSw
              obtain ⟨s0, s1, s2, s3, s4, s5, s6, s7, s8⟩ := hSw
              go_simp
              try with_reducible rfl
            try simp only [Act.put, List.setIfInBounds_toArray, List.set_cons_zero, List.set_cons_succ]
            refine wpAnyH_done (by kernel_rfl) ?_ _
            go_wp2_with fail
            go_meet
            exact ⟨_, xa, xc, xb, xd, rfl, rfl, HBX, hH.1⟩
          refine AllReadyH.cons (o := _) (by simp only [List.getElem?_toArray, List.getElem?_cons_succ, List.getElem?_cons_zero]; rfl) (fun K hK => ?_) AllReadyH.nil
          go_simp
          have hz := ZAt.new hH.1.out.size
          try simp only [World.size_alloc] at hz
          have HZ := Lib.hid hz
          have hb7 : Below ((wA.alloc (.cells #[.int .i64 2, .int .i64 0, .slice sx 1 1, .slice none 0 0, .int .i64 t.k, .int .i64 t.n, .slice ta t.ls.len tc, .slice ya t.ks.len yc] 25))).heap.size (wA.alloc (.cells #[.int .i64 2, .int .i64 0, .slice sx 1 1, .slice none 0 0, .int .i64 t.k, .int .i64 t.n, .slice ta t.ls.len tc, .slice ya t.ks.len yc] 25)) ((wA.alloc (.cells #[.int .i64 2, .int .i64 0, .slice sx 1 1, .slice none 0 0, .int .i64 t.k, .int .i64 t.n, .slice ta t.ls.len tc, .slice ya t.ks.len yc] 25)).alloc (.cells #[.int .i64 0, .int .i64 0, .slice none 0 0, .slice none 0 0] 25)) := (Below.refl _ _).alloc (Nat.le_refl _) _
          have hX := Below.step hH.1.out hb7 (Nat.le_refl _)
          replace HLT := Lib.hid (HLT.out.later hb7)
          clear hH hb7 hz
          refine hK.out _ _ ⟨Lib.hid hX, HNX.out _ hX⟩ (fun hH => ?_)
          clear hK K hX
          try simp only [Act.put, List.setIfInBounds_toArray, List.set_cons_zero, List.set_cons_succ]
          refine wpAnyH_ready (rs := [4]) (by kernel_rfl) (by simp) ?_
          refine AllReadyH.cons (o := _) (by simp only [List.getElem?_toArray, List.getElem?_cons_succ, List.getElem?_cons_zero]; rfl) (fun K hK => ?_) AllReadyH.nil
          go_simp
          go_at_call 12
          refine (tBind_any 5 _ 2 2 _).mono ?_
          rintro e wB3 ⟨rfl, hb7⟩
          have hX := Below.step hH.1.out hb7 (Nat.le_refl _)
          replace HLT := Lib.hid (HLT.out.later hb7)
          replace HZ := Lib.hid (HZ.out.later hb7)
          clear hH hb7
          refine hK.out _ _ ⟨Lib.hid hX, HNX.out _ hX⟩ (fun hH => ?_)
          clear hK K hX
          try simp only [Act.put, List.setIfInBounds_toArray, List.set_cons_zero, List.set_cons_succ]
          refine wpAnyH_ready (rs := [6]) (by kernel_rfl) (by simp) ?_
          refine AllReadyH.cons (o := _) (by simp only [List.getElem?_toArray, List.getElem?_cons_succ, List.getElem?_cons_zero]; rfl) (fun K hK => ?_) AllReadyH.nil
          go_simp
          go_at_call 15
          refine (HOZ.out _ _ (HVV.out _ hH.1.out) HLT.out).mono ?_
          rintro e wC ⟨xa, xc, xb, xd, rfl, hl, hk, hb7⟩
          have hX := Below.step hH.1.out hb7 (Nat.le_refl _)
          clear HLT
          have HR := Lib.hid (OffIn.old hl hk HZ.out.lt)
          replace HZ := Lib.hid (HZ.out.later hb7)
          clear hH hb7 hl hk
          refine hK.out _ _ ⟨Lib.hid hX, HNX.out _ hX⟩ (fun hH => ?_)
          clear hK K hX
          refine wpAnyH_take (i := 7) (v := ?_) (by simp only [List.getElem?_toArray, List.getElem?_cons_succ, List.getElem?_cons_zero]; rfl) (by kernel_rfl) (by kernel_rfl) (by kernel_rfl) (by intro _ _ _ h; exact h) (Or.inl ⟨by rfl, ?_⟩) hH ?_
          rotate_left
          · intro w' hSw
            obtain ⟨s0, s1, s2, s3, s4, s5, s6, s7, s8⟩ := hSw
            go_simp
            try with_reducible rfl
          try simp only [Act.put, List.setIfInBounds_toArray, List.set_cons_zero, List.set_cons_succ]
          refine wpAnyH_take (i := 8) (v := ?_) (by simp only [List.getElem?_toArray, List.getElem?_cons_succ, List.getElem?_cons_zero]; rfl) (by kernel_rfl) (by kernel_rfl) (by kernel_rfl) (by intro _ _ _ h; exact h) (Or.inl ⟨by rfl, ?_⟩) hH ?_
          rotate_left
          · intro w' hSw
            obtain ⟨s0, s1, s2, s3, s4, s5, s6, s7, s8⟩ := hSw
            go_simp
            try with_reducible rfl
          try simp only [Act.put, List.setIfInBounds_toArray, List.set_cons_zero, List.set_cons_succ]
          refine wpAnyH_take (i := 9) (v := ?_) (by simp only [List.getElem?_toArray, List.getElem?_cons_succ, List.getElem?_cons_zero]; rfl) (by kernel_rfl) (by kernel_rfl) (by kernel_rfl) (by intro _ _ _ h; exact h) (Or.inl ⟨by rfl, ?_⟩) hH ?_
          rotate_left
          · intro w' hSw
            obtain ⟨s0, s1, s2, s3, s4, s5, s6, s7, s8⟩ := hSw
            go_simp
            try with_reducible rfl
          try simp only [Act.put, List.setIfInBounds_toArray, List.set_cons_zero, List.set_cons_succ]
          refine wpAnyH_ready (rs := [11]) (by kernel_rfl) (by simp) ?_
          refine AllReadyH.cons (o := _) (by simp only [List.getElem?_toArray, List.getElem?_cons_succ, List.getElem?_cons_zero]; rfl) (fun K hK => ?_) AllReadyH.nil
          obtain ⟨m0, m1, m2, m3⟩ := cells4 HZ.out.2
          have m4 := free_of HZ.out.2
          go_simp
          have hX := box_below hH.1.out HZ.out.1 (.int .i64 Z.k) (.int .i64 Z.n) (.slice xa Z.ls.len xc) (.slice xb Z.ks.len xd)
          have HBX := Lib.hid (box_set HZ.out.2 HR.out)
          clear hH m0 m1 m2 m3 m4
          refine hK.out _ _ ⟨Lib.hid hX, HNX.out _ hX⟩ (fun hH => ?_)
          clear hK K hX
          try simp only [Act.put, List.setIfInBounds_toArray, List.set_cons_zero, List.set_cons_succ]
          refine wpAnyH_take (i := 12) (v := ?_) (by simp only [List.getElem?_toArray, List.getElem?_cons_succ, List.getElem?_cons_zero]; rfl) (by kernel_rfl) (by kernel_rfl) (by kernel_rfl) (by intro _ _ _ h; exact h) (Or.inl ⟨by rfl, ?_⟩) hH ?_
          rotate_left
          · intro w' hSw
            obtain ⟨s0, s1, s2, s3, s4, s5, s6, s7, s8⟩ := hSw
            go_simp
            try with_reducible rfl
          try simp only [Act.put, List.setIfInBounds_toArray, List.set_cons_zero, List.set_cons_succ]
          refine wpAnyH_done (by kernel_rfl) ?_ _
          go_wp2_with fail
          go_meet
          exact ⟨_, xa, xc, xb, xd, rfl, rfl, HBX, hH.1⟩
        refine AllReadyH.cons (o := _) (by simp only [List.getElem?_toArray, List.getElem?_cons_succ, List.getElem?_cons_zero]; rfl) (fun K hK => ?_) AllReadyH.nil
        go_simp
        have hz := ZAt.new hH.1.out.size
        try simp only [World.size_alloc] at hz
        have HZ := Lib.hid hz
        have hb7 : Below (wA).heap.size wA (wA.alloc (.cells #[.int .i64 0, .int .i64 0, .slice none 0 0, .slice none 0 0] 25)) := (Below.refl _ _).alloc (Nat.le_refl _) _
        have hX := Below.step hH.1.out hb7 (Nat.le_refl _)
        replace HSZ := Lib.hid (HSZ.out.later hb7)
        clear hH hb7 hz
        refine hK.out _ _ ⟨Lib.hid hX, HNX.out _ hX⟩ (fun hH => ?_)
        clear hK K hX
        try simp only [Act.put, List.setIfInBounds_toArray, List.set_cons_zero, List.set_cons_succ]
        refine wpAnyH_ready (rs := [3]) (by kernel_rfl) (by simp) ?_
        refine AllReadyH.cons (o := _) (by simp only [List.getElem?_toArray, List.getElem?_cons_succ, List.getElem?_cons_zero]; rfl) (fun K hK => ?_) AllReadyH.nil
        go_simp
        have hlt := lit_two HSZ.out (HTT.out _ hH.1.out)
        try simp only [World.size_alloc] at hlt
        have HLT := Lib.hid hlt
        have hb7 : Below ((wA.alloc (.cells #[.int .i64 0, .int .i64 0, .slice none 0 0, .slice none 0 0] 25))).heap.size (wA.alloc (.cells #[.int .i64 0, .int .i64 0, .slice none 0 0, .slice none 0 0] 25)) ((wA.alloc (.cells #[.int .i64 0, .int .i64 0, .slice none 0 0, .slice none 0 0] 25)).alloc (.cells #[.int .i64 2, .int .i64 0, .slice sx 1 1, .slice none 0 0, .int .i64 t.k, .int .i64 t.n, .slice ta t.ls.len tc, .slice ya t.ks.len yc] 25)) := (Below.refl _ _).alloc (Nat.le_refl _) _
        have hX := Below.step hH.1.out hb7 (Nat.le_refl _)
        replace HZ := Lib.hid (HZ.out.later hb7)
        clear hH hb7 hlt HSZ
        refine hK.out _ _ ⟨Lib.hid hX, HNX.out _ hX⟩ (fun hH => ?_)
        clear hK K hX
        try simp only [Act.put, List.setIfInBounds_toArray, List.set_cons_zero, List.set_cons_succ]
        refine wpAnyH_ready (rs := [4]) (by kernel_rfl) (by simp) ?_
        refine AllReadyH.cons (o := _) (by simp only [List.getElem?_toArray, List.getElem?_cons_succ, List.getElem?_cons_zero]; rfl) (fun K hK => ?_) AllReadyH.nil
        go_simp
        go_at_call 12
        refine (tBind_any 5 _ 2 2 _).mono ?_
        rintro e wB3 ⟨rfl, hb7⟩
        have hX := Below.step hH.1.out hb7 (Nat.le_refl _)
        replace HZ := Lib.hid (HZ.out.later hb7)
        replace HLT := Lib.hid (HLT.out.later hb7)
        clear hH hb7
        refine hK.out _ _ ⟨Lib.hid hX, HNX.out _ hX⟩ (fun hH => ?_)
        clear hK K hX
        try simp only [Act.put, List.setIfInBounds_toArray, List.set_cons_zero, List.set_cons_succ]
        refine wpAnyH_ready (rs := [6]) (by kernel_rfl) (by simp) ?_
        refine AllReadyH.cons (o := _) (by simp only [List.getElem?_toArray, List.getElem?_cons_succ, List.getElem?_cons_zero]; rfl) (fun K hK => ?_) AllReadyH.nil
        go_simp
        go_at_call 15
        refine (HOZ.out _ _ (HVV.out _ hH.1.out) HLT.out).mono ?_
        rintro e wC ⟨xa, xc, xb, xd, rfl, hl, hk, hb7⟩
        have hX := Below.step hH.1.out hb7 (Nat.le_refl _)
        clear HLT
        have HR := Lib.hid (OffIn.old hl hk HZ.out.lt)
        replace HZ := Lib.hid (HZ.out.later hb7)
        clear hH hb7 hl hk
        refine hK.out _ _ ⟨Lib.hid hX, HNX.out _ hX⟩ (fun hH => ?_)
        clear hK K hX
        refine wpAnyH_take (i := 7) (v := ?_) (by simp only [List.getElem?_toArray, List.getElem?_cons_succ, List.getElem?_cons_zero]; rfl) (by kernel_rfl) (by kernel_rfl) (by kernel_rfl) (by intro _ _ _ h; exact h) (Or.inl ⟨by rfl, ?_⟩) hH ?_
        rotate_left
        · intro w' hSw
          obtain ⟨s0, s1, s2, s3, s4, s5, s6, s7, s8⟩ := hSw
          go_simp
          try with_reducible rfl
        try simp only [Act.put, List.setIfInBounds_toArray, List.set_cons_zero, List.set_cons_succ]
        refine wpAnyH_take (i := 8) (v := ?_) (by simp only [List.getElem?_toArray, List.getElem?_cons_succ, List.getElem?_cons_zero]; rfl) (by kernel_rfl) (by kernel_rfl) (by kernel_rfl) (by intro _ _ _ h; exact h) (Or.inl ⟨by rfl, ?_⟩) hH ?_
        rotate_left
        · intro w' hSw
          obtain ⟨s0, s1, s2, s3, s4, s5, s6, s7, s8⟩ := hSw
          go_simp
          try with_reducible rfl
        try simp only [Act.put, List.setIfInBounds_toArray, List.set_cons_zero, List.set_cons_succ]
        refine wpAnyH_take (i := 9) (v := ?_) (by simp only [List.getElem?_toArray, List.getElem?_cons_succ, List.getElem?_cons_zero]; rfl) (by kernel_rfl) (by kernel_rfl) (by kernel_rfl) (by intro _ _ _ h; exact h) (Or.inl ⟨by rfl, ?_⟩) hH ?_
        rotate_left
        · intro w' hSw
          obtain ⟨s0, s1, s2, s3, s4, s5, s6, s7, s8⟩ := hSw
          go_simp
          try with_reducible rfl
        try simp only [Act.put, List.setIfInBounds_toArray, List.set_cons_zero, List.set_cons_succ]
        refine wpAnyH_ready (rs := [11]) (by kernel_rfl) (by simp) ?_
        refine AllReadyH.cons (o := _) (by simp only [List.getElem?_toArray, List.getElem?_cons_succ, List.getElem?_cons_zero]; rfl) (fun K hK => ?_) AllReadyH.nil
        obtain ⟨m0, m1, m2, m3⟩ := cells4 HZ.out.2
        have m4 := free_of HZ.out.2
        go_simp
        have hX := box_below hH.1.out HZ.out.1 (.int .i64 Z.k) (.int .i64 Z.n) (.slice xa Z.ls.len xc) (.slice xb Z.ks.len xd)
        have HBX := Lib.hid (box_set HZ.out.2 HR.out)
        clear hH m0 m1 m2 m3 m4
        refine hK.out _ _ ⟨Lib.hid hX, HNX.out _ hX⟩ (fun hH => ?_)
        clear hK K hX
        try simp only [Act.put, List.setIfInBounds_toArray, List.set_cons_zero, List.set_cons_succ]
        refine wpAnyH_take (i := 12) (v := ?_) (by simp only [List.getElem?_toArray, List.getElem?_cons_succ, List.getElem?_cons_zero]; rfl) (by kernel_rfl) (by kernel_rfl) (by kernel_rfl) (by intro _ _ _ h; exact h) (Or.inl ⟨by rfl, ?_⟩) hH ?_
        rotate_left
        · intro w' hSw
          obtain ⟨s0, s1, s2, s3, s4, s5, s6, s7, s8⟩ := hSw
          go_simp
          try with_reducible rfl
        try simp only [Act.put, List.setIfInBounds_toArray, List.set_cons_zero, List.set_cons_succ]
        refine wpAnyH_done (by kernel_rfl) ?_ _
        go_wp2_with fail
        go_meet
        exact ⟨_, xa, xc, xb, xd, rfl, rfl, HBX, hH.1⟩
      refine AllReadyH.cons (o := _) (by simp only [List.getElem?_toArray, List.getElem?_cons_succ, List.getElem?_cons_zero]; rfl) (fun K hK => ?_) AllReadyH.nil
      go_simp
      have hz : ZAt (W1.drew.alloc (.cells #[.int .i64 0, .int .i64 0, .slice none 0 0, .slice none 0 0] 25)) W1.heap.size W1.heap.size := ZAt.new hH.1.out.size
      try simp only [World.size_alloc] at hz
      have HZ := Lib.hid hz
      have hb7 : Below (W1.drew).heap.size W1.drew (W1.drew.alloc (.cells #[.int .i64 0, .int .i64 0, .slice none 0 0, .slice none 0 0] 25)) := (Below.refl _ _).alloc (Nat.le_refl _) _
      have hX := Below.step hH.1.out hb7 (Nat.le_refl _)
      clear hH hb7 hz
      refine hK.out _ _ ⟨Lib.hid hX, HNX.out _ hX⟩ (fun hH => ?_)
      clear hK K hX
      try simp only [Act.put, List.setIfInBounds_toArray, List.set_cons_zero, List.set_cons_succ]
      refine wpAnyH_ready (rs := [1]) (by kernel_rfl) (by simp) ?_
      refine AllReadyH.cons (o := _) (by simp only [List.getElem?_toArray, List.getElem?_cons_succ, List.getElem?_cons_zero]; rfl) (fun K hK => ?_) AllReadyH.nil
      go_simp
      go_at_call 18
      refine (HSO.out _).mono ?_
      rintro e wA ⟨sx, rfl, hsz, hb7⟩
      have hX := Below.step hH.1.out hb7 (Nat.le_refl _)
      replace HZ := Lib.hid (HZ.out.later hb7)
      have HSZ := Lib.hid hsz
      clear hH hb7 hsz
      refine hK.out _ _ ⟨Lib.hid hX, HNX.out _ hX⟩ (fun hH => ?_)
      clear hK K hX
      try simp only [Act.put, List.setIfInBounds_toArray, List.set_cons_zero, List.set_cons_succ]
      refine wpAnyH_ready (rs := [3]) (by kernel_rfl) (by simp) ?_
      refine AllReadyH.cons (o := _) (by simp only [List.getElem?_toArray, List.getElem?_cons_succ, List.getElem?_cons_zero]; rfl) (fun K hK => ?_) AllReadyH.nil
      go_simp
      have hlt := lit_two HSZ.out (HTT.out _ hH.1.out)
      try simp only [World.size_alloc] at hlt
      have HLT := Lib.hid hlt
      have hb7 : Below (wA).heap.size wA (wA.alloc (.cells #[.int .i64 2, .int .i64 0, .slice sx 1 1, .slice none 0 0, .int .i64 t.k, .int .i64 t.n, .slice ta t.ls.len tc, .slice ya t.ks.len yc] 25)) := (Below.refl _ _).alloc (Nat.le_refl _) _
      have hX := Below.step hH.1.out hb7 (Nat.le_refl _)
      replace HZ := Lib.hid (HZ.out.later hb7)
      clear hH hb7 hlt HSZ
      refine hK.out _ _ ⟨Lib.hid hX, HNX.out _ hX⟩ (fun hH => ?_)
      clear hK K hX
      try simp only [Act.put, List.setIfInBounds_toArray, List.set_cons_zero, List.set_cons_succ]
      refine wpAnyH_ready (rs := [4]) (by kernel_rfl) (by simp) ?_
      refine AllReadyH.cons (o := _) (by simp only [List.getElem?_toArray, List.getElem?_cons_succ, List.getElem?_cons_zero]; rfl) (fun K hK => ?_) AllReadyH.nil
      go_simp
      go_at_call 12
      refine (tBind_any 5 _ 2 2 _).mono ?_
      rintro e wB3 ⟨rfl, hb7⟩
      have hX := Below.step hH.1.out hb7 (Nat.le_refl _)
      replace HZ := Lib.hid (HZ.out.later hb7)
      replace HLT := Lib.hid (HLT.out.later hb7)
      clear hH hb7
      refine hK.out _ _ ⟨Lib.hid hX, HNX.out _ hX⟩ (fun hH => ?_)
      clear hK K hX
      try simp only [Act.put, List.setIfInBounds_toArray, List.set_cons_zero, List.set_cons_succ]
      refine wpAnyH_ready (rs := [6]) (by kernel_rfl) (by simp) ?_
      refine AllReadyH.cons (o := _) (by simp only [List.getElem?_toArray, List.getElem?_cons_succ, List.getElem?_cons_zero]; rfl) (fun K hK => ?_) AllReadyH.nil
      go_simp
      go_at_call 15
      refine (HOZ.out _ _ (HVV.out _ hH.1.out) HLT.out).mono ?_
      rintro e wC ⟨xa, xc, xb, xd, rfl, hl, hk, hb7⟩
      have hX := Below.step hH.1.out hb7 (Nat.le_refl _)
      clear HLT
      have HR := Lib.hid (OffIn.old hl hk HZ.out.lt)
      replace HZ := Lib.hid (HZ.out.later hb7)
      clear hH hb7 hl hk
      refine hK.out _ _ ⟨Lib.hid hX, HNX.out _ hX⟩ (fun hH => ?_)
      clear hK K hX
      refine wpAnyH_take (i := 7) (v := ?_) (by simp only [List.getElem?_toArray, List.getElem?_cons_succ, List.getElem?_cons_zero]; rfl) (by kernel_rfl) (by kernel_rfl) (by kernel_rfl) (by intro _ _ _ h; exact h) (Or.inl ⟨by rfl, ?_⟩) hH ?_
      rotate_left
      · intro w' hSw
        obtain ⟨s0, s1, s2, s3, s4, s5, s6, s7, s8⟩ := hSw
        go_simp
        try with_reducible rfl
      try simp only [Act.put, List.setIfInBounds_toArray, List.set_cons_zero, List.set_cons_succ]
      refine wpAnyH_take (i := 8) (v := ?_) (by simp only [List.getElem?_toArray, List.getElem?_cons_succ, List.getElem?_cons_zero]; rfl) (by kernel_rfl) (by kernel_rfl) (by kernel_rfl) (by intro _ _ _ h; exact h) (Or.inl ⟨by rfl, ?_⟩) hH ?_
      rotate_left
      · intro w' hSw
        obtain ⟨s0, s1, s2, s3, s4, s5, s6, s7, s8⟩ := hSw
        go_simp
        try with_reducible rfl
      try simp only [Act.put, List.setIfInBounds_toArray, List.set_cons_zero, List.set_cons_succ]
      refine wpAnyH_take (i := 9) (v := ?_) (by simp only [List.getElem?_toArray, List.getElem?_cons_succ, List.getElem?_cons_zero]; rfl) (by kernel_rfl) (by kernel_rfl) (by kernel_rfl) (by intro _ _ _ h; exact h) (Or.inl ⟨by rfl, ?_⟩) hH ?_
      rotate_left
      · intro w' hSw
        obtain ⟨s0, s1, s2, s3, s4, s5, s6, s7, s8⟩ := hSw
        go_simp
        try with_reducible rfl
      try simp only [Act.put, List.setIfInBounds_toArray, List.set_cons_zero, List.set_cons_succ]
      refine wpAnyH_ready (rs := [11]) (by kernel_rfl) (by simp) ?_
      refine AllReadyH.cons (o := _) (by simp only [List.getElem?_toArray, List.getElem?_cons_succ, List.getElem?_cons_zero]; rfl) (fun K hK => ?_) AllReadyH.nil
      obtain ⟨m0, m1, m2, m3⟩ := cells4 HZ.out.2
      have m4 := free_of HZ.out.2
      go_simp
      have hX := box_below hH.1.out HZ.out.1 (.int .i64 Z.k) (.int .i64 Z.n) (.slice xa Z.ls.len xc) (.slice xb Z.ks.len xd)
      have HBX := Lib.hid (box_set HZ.out.2 HR.out)
      clear hH m0 m1 m2 m3 m4
      refine hK.out _ _ ⟨Lib.hid hX, HNX.out _ hX⟩ (fun hH => ?_)
      clear hK K hX
      try simp only [Act.put, List.setIfInBounds_toArray, List.set_cons_zero, List.set_cons_succ]
      refine wpAnyH_take (i := 12) (v := ?_) (by simp only [List.getElem?_toArray, List.getElem?_cons_succ, List.getElem?_cons_zero]; rfl) (by kernel_rfl) (by kernel_rfl) (by kernel_rfl) (by intro _ _ _ h; exact h) (Or.inl ⟨by rfl, ?_⟩) hH ?_
      rotate_left
      · intro w' hSw
        obtain ⟨s0, s1, s2, s3, s4, s5, s6, s7, s8⟩ := hSw
        go_simp
        try with_reducible rfl
      try simp only [Act.put, List.setIfInBounds_toArray, List.set_cons_zero, List.set_cons_succ]
      refine wpAnyH_done (by kernel_rfl) ?_ _
      go_wp2_with fail
      go_meet
      exact ⟨_, xa, xc, xb, xd, rfl, rfl, HBX, hH.1⟩
    case rest =>
      obtain ⟨M2, la2, lc2, ka2, kc2, rfl, rfl, HBX, HBB⟩ := hcut
      have B14 := Lib.hid (B13.out.later HBB.out)
      have W14 := Lib.hid (W13.out.later HBB.out)
      have HB14 := Lib.hid (Below.step HB13.out HBB.out (Nat.le_refl _))
      obtain ⟨_, _, _, c3⟩ := HBX.out.cells
      have hlen : Z.ks.len = 2 := by rw [HZE.out]; rfl
      rw [hlen] at c3
      have hk := HBX.out.2.2.1
      rw [HZE.out] at hk
      obtain ⟨b, o, rfl, la, lc, ka, kc, ⟨k0, k1, k2, k3⟩, hl, hk'⟩ := kid_two (s := sZ) (t := C) hk
      have HOD : Hid (∀ W' : World, Below wc.heap.size wc W' → Calls Try.prog 15 #[.agg #[.int .i64 C.k, .int .i64 C.n, .slice la C.ls.len lc, .slice ka C.ks.len kc], .agg #[.int .i64 W.k, .int .i64 W.n, .slice ra W.ls.len rc, .slice sa W.ks.len sc]] W' (LePost (B, 0) W')) := Lib.hid (by
        intro W' h
        have q := (W14.out.later h).2
        rw [← HE.out.d]
        exact tOpen_any C W _ _ _ _ _ _ _ _ W'.heap.size W' ((hl.below h).mono h.size) ((hk'.below h).mono h.size) (q.1.mono q.2.2) (q.2.1.mono q.2.2) (Nat.le_refl _))
      have HK : Hid (∀ wN : World, Below wc.heap.size wc wN → wN.cell? ⟨M2, 3, none⟩ = some (.slice (some ⟨b, o, none⟩) 2 kc2) ∧ wN.cell? ⟨b, o + 4, none⟩ = some (.int .i64 C.k) ∧ wN.cell? ⟨b, o + 4 + 1, none⟩ = some (.int .i64 C.n) ∧ wN.cell? ⟨b, o + 4 + 2, none⟩ = some (.slice la C.ls.len lc) ∧ wN.cell? ⟨b, o + 4 + 3, none⟩ = some (.slice ka C.ks.len kc)) := Lib.hid (fun wN h => ⟨Below.keep h c3, Below.keep h k0, Below.keep h k1, Below.keep h k2, Below.keep h k3⟩)
      clear HBX HBB B13 W13 HB13 HZE hlen hk hl hk' k0 k1 k2 k3 T13 V13 HNX HTT HVV HOZ HSO
      go_upto_region 16 with fail
      generalize hW0 : wc = W2 at B14 W14 HB14 HOD HK ⊢
      clear hW0 c3
      have HNW : Hid (∀ wN : World, Below W2.heap.size W2 wN → wN.cell? ⟨w11.heap.size, 0, none⟩ = some (.int .i64 W.k) ∧ wN.cell? ⟨w11.heap.size, 1, none⟩ = some (.int .i64 W.n) ∧ wN.cell? ⟨w11.heap.size, 2, none⟩ = some (.slice ra W.ls.len rc) ∧ wN.cell? ⟨w11.heap.size, 3, none⟩ = some (.slice sa W.ks.len sc)) := Lib.hid (by
        intro wN hX
        obtain ⟨x0, y0, z0, u0⟩ := (W14.out.later hX).cells
        exact ⟨x0, y0, z0, u0⟩)
      have HNX : Hid (∀ wN : World, Below W2.heap.size W2 wN → wN.cell? ⟨M2, 3, none⟩ = some (.slice (some ⟨b, o, none⟩) 2 kc2) ∧ wN.cell? ⟨b, o + 4, none⟩ = some (.int .i64 C.k) ∧ wN.cell? ⟨b, o + 4 + 1, none⟩ = some (.int .i64 C.n) ∧ wN.cell? ⟨b, o + 4 + 2, none⟩ = some (.slice la C.ls.len lc) ∧ wN.cell? ⟨b, o + 4 + 3, none⟩ = some (.slice ka C.ks.len kc) ∧ wN.cell? ⟨w11.heap.size, 0, none⟩ = some (.int .i64 W.k) ∧ wN.cell? ⟨w11.heap.size, 1, none⟩ = some (.int .i64 W.n) ∧ wN.cell? ⟨w11.heap.size, 2, none⟩ = some (.slice ra W.ls.len rc) ∧ wN.cell? ⟨w11.heap.size, 3, none⟩ = some (.slice sa W.ks.len sc)) := Lib.hid (by
        intro wN hX
        obtain ⟨x0, x1, x2, x3, x4⟩ := HK.out _ hX
        exact ⟨x0, x1, x2, x3, x4, HNW.out _ hX⟩)
      go_cut [21, 22] from 23 to 121 (fun s21 s22 wx => ∃ M la lc ka kc, s21 = .pointer (some ⟨M, 0, none⟩) ∧ s22 = .int .i64 0 ∧ Hid (BoxAt wx M B la lc ka kc) ∧ Hid (Below W2.heap.size W2 wx))
      case first =>
        refine wp_region_held_drew (S := fun w' => Hid (Below W2.heap.size W2 w') ∧ w'.cell? ⟨M2, 3, none⟩ = some (.slice (some ⟨b, o, none⟩) 2 kc2) ∧ w'.cell? ⟨b, o + 4, none⟩ = some (.int .i64 C.k) ∧ w'.cell? ⟨b, o + 4 + 1, none⟩ = some (.int .i64 C.n) ∧ w'.cell? ⟨b, o + 4 + 2, none⟩ = some (.slice la C.ls.len lc) ∧ w'.cell? ⟨b, o + 4 + 3, none⟩ = some (.slice ka C.ks.len kc) ∧ w'.cell? ⟨w11.heap.size, 0, none⟩ = some (.int .i64 W.k) ∧ w'.cell? ⟨w11.heap.size, 1, none⟩ = some (.int .i64 W.n) ∧ w'.cell? ⟨w11.heap.size, 2, none⟩ = some (.slice ra W.ls.len rc) ∧ w'.cell? ⟨w11.heap.size, 3, none⟩ = some (.slice sa W.ks.len sc)) (by kernel_rfl) (⟨Lib.hid (Below.refl _ _).drew, HNX.out _ (Below.refl _ _).drew⟩) (fun hH => ?_)
        try simp only [Act.put, List.setIfInBounds_toArray, List.set_cons_zero, List.set_cons_succ]
        refine wpAnyH_take (i := 0) (v := ?_) (by simp only [List.getElem?_toArray, List.getElem?_cons_zero]; rfl) (by kernel_rfl) (by kernel_rfl) (by kernel_rfl) (by intro _ _ _ h; exact h) (Or.inl ⟨by rfl, ?_⟩) hH ?_
        rotate_left
        · intro w' hSw
          obtain ⟨s0, s1, s2, s3, s4, s5, s6, s7, s8, s9⟩ := hSw
          go_simp
          try with_reducible rfl
        try simp only [Act.put, List.setIfInBounds_toArray, List.set_cons_zero, List.set_cons_succ]
        refine wpAnyH_take (i := 1) (v := ?_) (by simp only [List.getElem?_toArray, List.getElem?_cons_succ, List.getElem?_cons_zero]; rfl) (by kernel_rfl) (by kernel_rfl) (by kernel_rfl) (by intro _ _ _ h; exact h) (Or.inl ⟨by rfl, ?_⟩) hH ?_
        rotate_left
        · intro w' hSw
          obtain ⟨s0, s1, s2, s3, s4, s5, s6, s7, s8, s9⟩ := hSw
          go_simp
          try with_reducible rfl
        try simp only [Act.put, List.setIfInBounds_toArray, List.set_cons_zero, List.set_cons_succ]
        refine wpAnyH_take (i := 2) (v := ?_) (by simp only [List.getElem?_toArray, List.getElem?_cons_succ, List.getElem?_cons_zero]; rfl) (by kernel_rfl) (by kernel_rfl) (by kernel_rfl) (by intro _ _ _ h; exact h) (Or.inl ⟨by rfl, ?_⟩) hH ?_
        rotate_left
        · intro w' hSw
          obtain ⟨s0, s1, s2, s3, s4, s5, s6, s7, s8, s9⟩ := hSw
          go_simp
          try with_reducible rfl
        try simp only [Act.put, List.setIfInBounds_toArray, List.set_cons_zero, List.set_cons_succ]
        refine wpAnyH_take (i := 3) (v := ?_) (by simp only [List.getElem?_toArray, List.getElem?_cons_succ, List.getElem?_cons_zero]; rfl) (by kernel_rfl) (by kernel_rfl) (by kernel_rfl) (by intro _ _ _ h; exact h) (Or.inl ⟨by rfl, ?_⟩) hH ?_
        rotate_left
        · intro w' hSw
          obtain ⟨s0, s1, s2, s3, s4, s5, s6, s7, s8, s9⟩ := hSw
          go_simp
          try with_reducible rfl
        try simp only [Act.put, List.setIfInBounds_toArray, List.set_cons_zero, List.set_cons_succ]
        refine wpAnyH_take (i := 4) (v := ?_) (by simp only [List.getElem?_toArray, List.getElem?_cons_succ, List.getElem?_cons_zero]; rfl) (by kernel_rfl) (by kernel_rfl) (by kernel_rfl) (by intro _ _ _ h; exact h) (Or.inl ⟨by rfl, ?_⟩) hH ?_
        rotate_left
        · intro w' hSw
          obtain ⟨s0, s1, s2, s3, s4, s5, s6, s7, s8, s9⟩ := hSw
          go_simp
          try with_reducible rfl
        try simp only [Act.put, List.setIfInBounds_toArray, List.set_cons_zero, List.set_cons_succ]
        refine wpAnyH_ready (rs := [5, 9]) (by kernel_rfl) (by simp) ?_
        refine AllReadyH.cons (o := _) (by simp only [List.getElem?_toArray, List.getElem?_cons_succ, List.getElem?_cons_zero]; rfl) (fun K hK => ?_) ?_
        · go_simp
          go_at_call 15
          refine (HOD.out _ hH.1.out).mono ?_
          rintro e wC ⟨xa, xc, xb, xd, rfl, hl, hk, hb7⟩
          have hX := Below.step hH.1.out hb7 (Nat.le_refl _)
          have HR := Lib.hid (LePost.tmIn hl hk)
          clear hH hb7 hl hk
          refine hK.out _ _ ⟨Lib.hid hX, HNX.out _ hX⟩ (fun hH => ?_)
          clear hK K hX
          refine wpAnyH_take (i := 6) (v := ?_) (by simp only [List.getElem?_toArray, List.getElem?_cons_succ, List.getElem?_cons_zero]; rfl) (by kernel_rfl) (by kernel_rfl) (by kernel_rfl) (by intro _ _ _ h; exact h) (Or.inl ⟨by rfl, ?_⟩) hH ?_
          rotate_left
          · intro w' hSw
            obtain ⟨s0, s1, s2, s3, s4, s5, s6, s7, s8, s9⟩ := hSw
            go_simp
            try with_reducible rfl
          try simp only [Act.put, List.setIfInBounds_toArray, List.set_cons_zero, List.set_cons_succ]
          refine wpAnyH_take (i := 7) (v := ?_) (by simp only [List.getElem?_toArray, List.getElem?_cons_succ, List.getElem?_cons_zero]; rfl) (by kernel_rfl) (by kernel_rfl) (by kernel_rfl) (by intro _ _ _ h; exact h) (Or.inl ⟨by rfl, ?_⟩) hH ?_
          rotate_left
          · intro w' hSw
            obtain ⟨s0, s1, s2, s3, s4, s5, s6, s7, s8, s9⟩ := hSw
            go_simp
            try with_reducible rfl
          try simp only [Act.put, List.setIfInBounds_toArray, List.set_cons_zero, List.set_cons_succ]
          refine wpAnyH_take (i := 8) (v := ?_) (by simp only [List.getElem?_toArray, List.getElem?_cons_succ, List.getElem?_cons_zero]; rfl) (by kernel_rfl) (by kernel_rfl) (by kernel_rfl) (by intro _ _ _ h; exact h) (Or.inl ⟨by rfl, ?_⟩) hH ?_
          rotate_left
          · intro w' hSw
            obtain ⟨s0, s1, s2, s3, s4, s5, s6, s7, s8, s9⟩ := hSw
            go_simp
            try with_reducible rfl
          try simp only [Act.put, List.setIfInBounds_toArray, List.set_cons_zero, List.set_cons_succ]
          refine wpAnyH_ready (rs := [9]) (by kernel_rfl) (by simp) ?_
          refine AllReadyH.cons (o := _) (by simp only [List.getElem?_toArray, List.getElem?_cons_succ, List.getElem?_cons_zero]; rfl) (fun K hK => ?_) AllReadyH.nil
          go_simp
          have hz := ZAt.new hH.1.out.size
          try simp only [World.size_alloc] at hz
          have HZ := Lib.hid hz
          have hb7 : Below (wC).heap.size wC (wC.alloc (.cells #[.int .i64 0, .int .i64 0, .slice none 0 0, .slice none 0 0] 25)) := (Below.refl _ _).alloc (Nat.le_refl _) _
          have hX := Below.step hH.1.out hb7 (Nat.le_refl _)
          have HW := hH.1
          have HRO := HR
          replace HR := Lib.hid (OffIn.new HR.out (.cells #[.int .i64 0, .int .i64 0, .slice none 0 0, .slice none 0 0] 25))
          clear hH hb7 hz
          refine hK.out _ _ ⟨Lib.hid hX, HNX.out _ hX⟩ (fun hH => ?_)
          clear hK K hX
          try simp only [Act.put, List.setIfInBounds_toArray, List.set_cons_zero, List.set_cons_succ]
          refine wpAnyH_ready (rs := [10]) (by kernel_rfl) (by simp) ?_
          refine AllReadyH.cons (o := _) (by simp only [List.getElem?_toArray, List.getElem?_cons_succ, List.getElem?_cons_zero]; rfl) (fun K hK => ?_) AllReadyH.nil
          obtain ⟨m0, m1, m2, m3⟩ := cells4 HZ.out.2
          have m4 := free_of HZ.out.2
          go_simp
          have hX := Below.step HW.out ((Below.refl _ _).alloc (Nat.le_refl _) (.cells #[.int .i64 B.k, .int .i64 B.n, .slice xa B.ls.len xc, .slice xb B.ks.len xd] 25)) (Nat.le_refl _)
          have HBX := Lib.hid (TmBox.at (TmBox.new HRO.out))
          clear hH m0 m1 m2 m3 m4 HRO HW
          refine hK.out _ _ ⟨Lib.hid hX, HNX.out _ hX⟩ (fun hH => ?_)
          clear hK K hX
          try simp only [Act.put, List.setIfInBounds_toArray, List.set_cons_zero, List.set_cons_succ]
          refine wpAnyH_take (i := 11) (v := ?_) (by simp only [List.getElem?_toArray, List.getElem?_cons_succ, List.getElem?_cons_zero]; rfl) (by kernel_rfl) (by kernel_rfl) (by kernel_rfl) (by intro _ _ _ h; exact h) (Or.inl ⟨by rfl, ?_⟩) hH ?_
          rotate_left
          · intro w' hSw
            obtain ⟨s0, s1, s2, s3, s4, s5, s6, s7, s8, s9⟩ := hSw
            go_simp
            try with_reducible rfl
          try simp only [Act.put, List.setIfInBounds_toArray, List.set_cons_zero, List.set_cons_succ]
          refine wpAnyH_done (by kernel_rfl) ?_ _
          go_wp2_with fail
          go_meet
          exact ⟨_, xa, xc, xb, xd, rfl, rfl, HBX, hH.1⟩
        refine AllReadyH.cons (o := _) (by simp only [List.getElem?_toArray, List.getElem?_cons_succ, List.getElem?_cons_zero]; rfl) (fun K hK => ?_) AllReadyH.nil
        go_simp
        have hz : ZAt (W2.drew.alloc (.cells #[.int .i64 0, .int .i64 0, .slice none 0 0, .slice none 0 0] 25)) W2.heap.size W2.heap.size := ZAt.new hH.1.out.size
        try simp only [World.size_alloc] at hz
        have HZ := Lib.hid hz
        have hb7 : Below (W2.drew).heap.size W2.drew (W2.drew.alloc (.cells #[.int .i64 0, .int .i64 0, .slice none 0 0, .slice none 0 0] 25)) := (Below.refl _ _).alloc (Nat.le_refl _) _
        have hX := Below.step hH.1.out hb7 (Nat.le_refl _)
        clear hH hb7 hz
        refine hK.out _ _ ⟨Lib.hid hX, HNX.out _ hX⟩ (fun hH => ?_)
        clear hK K hX
        try simp only [Act.put, List.setIfInBounds_toArray, List.set_cons_zero, List.set_cons_succ]
        refine wpAnyH_ready (rs := [5]) (by kernel_rfl) (by simp) ?_
        refine AllReadyH.cons (o := _) (by simp only [List.getElem?_toArray, List.getElem?_cons_succ, List.getElem?_cons_zero]; rfl) (fun K hK => ?_) AllReadyH.nil
        go_simp
        go_at_call 15
        refine (HOD.out _ hH.1.out).mono ?_
        rintro e wC ⟨xa, xc, xb, xd, rfl, hl, hk, hb7⟩
        have hX := Below.step hH.1.out hb7 (Nat.le_refl _)
        have HR := Lib.hid (OffIn.old hl hk HZ.out.lt)
        replace HZ := Lib.hid (HZ.out.later hb7)
        clear hH hb7 hl hk
        refine hK.out _ _ ⟨Lib.hid hX, HNX.out _ hX⟩ (fun hH => ?_)
        clear hK K hX
        refine wpAnyH_take (i := 6) (v := ?_) (by simp only [List.getElem?_toArray, List.getElem?_cons_succ, List.getElem?_cons_zero]; rfl) (by kernel_rfl) (by kernel_rfl) (by kernel_rfl) (by intro _ _ _ h; exact h) (Or.inl ⟨by rfl, ?_⟩) hH ?_
        rotate_left
        · intro w' hSw
          obtain ⟨s0, s1, s2, s3, s4, s5, s6, s7, s8, s9⟩ := hSw
          go_simp
          try with_reducible rfl
        try simp only [Act.put, List.setIfInBounds_toArray, List.set_cons_zero, List.set_cons_succ]
        refine wpAnyH_take (i := 7) (v := ?_) (by simp only [List.getElem?_toArray, List.getElem?_cons_succ, List.getElem?_cons_zero]; rfl) (by kernel_rfl) (by kernel_rfl) (by kernel_rfl) (by intro _ _ _ h; exact h) (Or.inl ⟨by rfl, ?_⟩) hH ?_
        rotate_left
        · intro w' hSw
          obtain ⟨s0, s1, s2, s3, s4, s5, s6, s7, s8, s9⟩ := hSw
          go_simp
          try with_reducible rfl
        try simp only [Act.put, List.setIfInBounds_toArray, List.set_cons_zero, List.set_cons_succ]
        refine wpAnyH_take (i := 8) (v := ?_) (by simp only [List.getElem?_toArray, List.getElem?_cons_succ, List.getElem?_cons_zero]; rfl) (by kernel_rfl) (by kernel_rfl) (by kernel_rfl) (by intro _ _ _ h; exact h) (Or.inl ⟨by rfl, ?_⟩) hH ?_
        rotate_left
        · intro w' hSw
          obtain ⟨s0, s1, s2, s3, s4, s5, s6, s7, s8, s9⟩ := hSw
          go_simp
          try with_reducible rfl
        try simp only [Act.put, List.setIfInBounds_toArray, List.set_cons_zero, List.set_cons_succ]
        refine wpAnyH_ready (rs := [10]) (by kernel_rfl) (by simp) ?_
        refine AllReadyH.cons (o := _) (by simp only [List.getElem?_toArray, List.getElem?_cons_succ, List.getElem?_cons_zero]; rfl) (fun K hK => ?_) AllReadyH.nil
        obtain ⟨m0, m1, m2, m3⟩ := cells4 HZ.out.2
        have m4 := free_of HZ.out.2
        go_simp
        have hX := box_below hH.1.out HZ.out.1 (.int .i64 B.k) (.int .i64 B.n) (.slice xa B.ls.len xc) (.slice xb B.ks.len xd)
        have HBX := Lib.hid (box_set HZ.out.2 HR.out)
        clear hH m0 m1 m2 m3 m4
        refine hK.out _ _ ⟨Lib.hid hX, HNX.out _ hX⟩ (fun hH => ?_)
        clear hK K hX
        try simp only [Act.put, List.setIfInBounds_toArray, List.set_cons_zero, List.set_cons_succ]
        refine wpAnyH_take (i := 11) (v := ?_) (by simp only [List.getElem?_toArray, List.getElem?_cons_succ, List.getElem?_cons_zero]; rfl) (by kernel_rfl) (by kernel_rfl) (by kernel_rfl) (by intro _ _ _ h; exact h) (Or.inl ⟨by rfl, ?_⟩) hH ?_
        rotate_left
        · intro w' hSw
          obtain ⟨s0, s1, s2, s3, s4, s5, s6, s7, s8, s9⟩ := hSw
          go_simp
          try with_reducible rfl
        try simp only [Act.put, List.setIfInBounds_toArray, List.set_cons_zero, List.set_cons_succ]
        refine wpAnyH_done (by kernel_rfl) ?_ _
        go_wp2_with fail
        go_meet
        exact ⟨_, xa, xc, xb, xd, rfl, rfl, HBX, hH.1⟩
      case rest =>
        obtain ⟨M3, la3, lc3, ka3, kc3, rfl, rfl, HBX, HBB⟩ := hcut
        have B15 := Lib.hid (B14.out.later HBB.out)
        have HB15 := Lib.hid (Below.step HB14.out HBB.out (Nat.le_refl _))
        obtain ⟨c0, c1, c2, c3⟩ := HBX.out.cells
        obtain ⟨d0, d1, d2, d3⟩ := B15.out.cells
        have HSM := Lib.hid (same_in HE.out.s B15.out.2 HBX.out.2)
        clear HBX HBB B14 W14 HB14 HNX HNW HK HOD
        go_wp2_with fail
        refine HSM.out.mono ?_
        rintro e wz ⟨rfl, hb⟩
        have HBZ := Lib.hid (Below.step HB15.out hb (Nat.le_refl _))
        clear hb c0 c1 c2 c3 d0 d1 d2 d3
        go_wp2_with fail
        go_ret
        exact ⟨rfl, HBZ.out⟩
end Go.Proofs.Ytokckghedpdfiaa.termTwo
namespace Go.Proofs.Ytokckghedpdfiaa.termTwo
open Go.ChangeShapes Go.WideShapes Go.ChangeAt Go.RowKit

theorem own : ownKnob Try.prog.godebug = none := by kernel_rfl
set_option maxRecDepth 100000 in
theorem lifted (os : Os) (started : os.Started) (H : Type) (enc : TypeId × Value → H) :
    ReturnsInHanded {} Try.checked os 7 .any (Rows.termTwoSpec.pre6 enc Try.prog Try.f7 Rows.termTwoRow.domain false) (Rows.termTwoSpec.post enc Try.prog Try.f7 false true false false) := by
  refine returnsInHanded_of_change (C := Try.checked) own started (by kernel_rfl) Try.func7
    (ChangeSpec.witness6 (enc := enc) (C := Try.checked) false ⟨#[], #[.slice none 0 0, .slice none 0 0, .slice none 0 0], []⟩ 8 (by kernel_rfl) (by kernel_rfl) (by kernel_rfl) (by kernel_rfl)) ?_
  intro W base args ds gs before hval0 hW hcnd _
  have hval : ∀ (j : Nat) t v, Try.f7.params[j]? = some t → args[j]? = some v → Value.okWide Try.prog W .any base t v := hval0
  have hW' := hW
  obtain ⟨p, q, hA0, hV, rfl, hfz, hnd⟩ := hW
  have hA : DataW.TrodAll enc Try.prog W 0 (fun _ => true) true Try.f7.params.toList args.toList ds p := hA0
  rw [Try.params7] at hA hval
  obtain ⟨v0, vs0, d0, ds0, p0, q0, hargs, rfl, rfl, h0, hr0⟩ := trodAll_cons hA
  obtain ⟨v1, vs1, d1, ds1, p1, q1, rfl, rfl, rfl, h1, hr1⟩ := trodAll_cons hr0
  obtain ⟨v2, vs2, d2, ds2, p2, q2, rfl, rfl, rfl, h2, hr2⟩ := trodAll_cons hr1
  obtain ⟨rfl, rfl, rfl⟩ := trodAll_nil hr2
  obtain rfl : args = #[v0, v1, v2] := by cases args; simp_all
  obtain ⟨rfl, rfl⟩ := trodVars_none hV
  obtain ⟨n1, a1, c1, rfl, i1⟩ := arg_bytes (hval 0 29 v0 rfl rfl) h0
  obtain ⟨n2, a2, c2, rfl, i2⟩ := arg_bytes (hval 1 29 v1 rfl rfl) h1
  obtain ⟨n3, a3, c3, rfl, i3⟩ := arg_bytes (hval 2 29 v2 rfl rfl) h2
  have hlt := hW'.lt
  refine (walk n1 c1 n2 c2 n3 c3 a1 a2 a3 W i1 i2 i3).mono fun e W' ⟨he, hb⟩ => ?_
  subst he
  have t0 := Below.trod laidOut (by kernel_rfl) (of_decide_eq_true (by kernel_rfl)) h0 hb (fun x hx => hlt x (by simp [hx]))
  have t1 := Below.trod laidOut (by kernel_rfl) (of_decide_eq_true (by kernel_rfl)) h1 hb (fun x hx => hlt x (by simp [hx]))
  have t2 := Below.trod laidOut (by kernel_rfl) (of_decide_eq_true (by kernel_rfl)) h2 hb (fun x hx => hlt x (by simp [hx]))
  exact ⟨_, rfl, ⟨_, _, _, [], _, [], hW', trodAll_mk1 (shut_bool Try.underlying4 _), ⟨_, _, t0, trodAll_mk2 t1 t2, rfl⟩, rfl, hb.frame _, fun h => by cases h⟩⟩

theorem over : Rows.termTwoRow.holds Try.pinned (OpenSpec.ofChange Rows.termTwoSpec) :=
  OpenClaim.holds_of_wide 7 Try.f7 rfl rfl rfl rfl rfl rfl rfl ⟨rfl, rfl, rfl, rfl, rfl⟩ rfl rfl rfl rfl rfl (by kernel_rfl) Try.func7 (by kernel_rfl)
    (of_decide_eq_true (by kernel_rfl)) (by unfold Func.isWrapper; first | (rw [if_pos (by decide +kernel)]; kernel_rfl) | (rw [if_neg (by decide +kernel)]; exact ⟨rfl, rfl⟩))
    (fun os started H enc _ => lifted os started H enc)

/-- THE STATEMENT -/
theorem proved : Rows.TermTwoSaid :=
  over
#print axioms proved
end Go.Proofs.Ytokckghedpdfiaa.termTwo
