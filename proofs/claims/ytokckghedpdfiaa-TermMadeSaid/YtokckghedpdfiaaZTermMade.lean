/- For all numbers the law TermMade returns true: what is told of terms made by numbers, and of such with one thing spoilt, is what the document says. No condition. -/
import Derived.Test.YtokckghedpdfiaaTterm
import Derived.Test.YtokckghedpdfiaaTopenarg
import Derived.Test.YtokckghedpdfiaaMaker
import Derived.Test.YtokckghedpdfiaaTawake
import Derived.Deep.CutBlock
import Derived.IntWalk
import Derived.Carry
namespace Go.Proofs.Ytokckghedpdfiaa
open Go.RowKit

/-- What Made answers. -/
def MdOk (v : Int) (d : Nat) (w : World) (e : Ending) (w' : World) : Prop :=
  ∃ (T : Tm) (la : Option Addr) (lc : Nat) (ka : Option Addr) (kc : Nat), e = .returned (.agg #[.int .i64 T.k, .int .i64 T.n, .slice la T.ls.len lc, .slice ka T.ks.len kc]) ∧ okT v (d + 1 : Nat) T ∧
    SlIn w' (fun b => w.heap.size ≤ b ∧ b < w'.heap.size) T.ls la lc ∧ TlIn w' (fun b => w.heap.size ≤ b ∧ b < w'.heap.size) T.ks ka kc ∧ Below w.heap.size w w'
set_option maxRecDepth 100000 in
set_option maxHeartbeats 2000000 in
theorem tMade_any (len cap : Nat) (a : Option Addr) (B : Nat) (w : World) (hin : U8In w (· < B) len a cap) (hB : B ≤ w.heap.size) :
    Calls Try.prog 11 #[.slice a len cap] w (MdOk 3 3 w) := by
  have hb : Below w.heap.size w ((w.alloc (.cells #[.int .i64 0, .int .i64 0, .slice none 0 0, .slice none 0 0] 25)).alloc (.cells #[.slice a len cap, .int .i64 0] 47)) := ((Below.refl _ _).alloc (Nat.le_refl _) _).alloc (by simp) _
  have HB := Lib.hid hb
  have hat : MkAt ((w.alloc (.cells #[.int .i64 0, .int .i64 0, .slice none 0 0, .slice none 0 0] 25)).alloc (.cells #[.slice a len cap, .int .i64 0] 47)) (w.heap.size + 1) a len cap 0 := heap_second w _ _
  have HR := Lib.hid ((heap_old (w.alloc (.cells #[.int .i64 0, .int .i64 0, .slice none 0 0, .slice none 0 0] 25)) (.cells #[.slice a len cap, .int .i64 0] 47) (b := w.heap.size) (by simp)).trans (heap_new w _))
  have HT := Lib.hid (tTerm_any 3 3 (w.heap.size + 1) len cap 0 B a 4 _ hat (hin.below (hb.mono hB)) (by omega) (by decide) (by omega) (by omega) (by omega) (by omega))
  clear hat hb hin
  go_enter Try.func11, Try.ntmps11
  go_wp2_with fail
  refine HT.out.mono ?_
  rintro e w1 ⟨T, la, lc, ka, kc, t', rfl, ok, sl, tl, _, _, hg⟩
  have hR1 := (Only.block hg (b := w.heap.size) (by simp; omega) (by omega)).trans HR.out
  have hz1 := hg.size
  simp at hz1
  obtain ⟨r0, r1, r2, r3⟩ := cells4 hR1
  have rf := free_of hR1
  have HSL := Lib.hid sl
  have HTL := Lib.hid tl
  have HOK := Lib.hid ok
  have HG := Lib.hid hg
  clear sl tl ok hg hR1 HT
  go_wp2_with fail
  refine bodyPost_ret (v := .agg #[.int .i64 T.k, .int .i64 T.n, .slice la T.ls.len lc, .slice ka T.ks.len kc]) (by simp [results, Try.results11, go_sem, r0, r1, r2, r3]) rfl ?_
  have u := set4_only (w := w1) w.heap.size (.int .i64 T.k) (.int .i64 T.n) (.slice la T.ls.len lc) (.slice ka T.ks.len kc)
  refine ⟨T, la, lc, ka, kc, rfl, HOK.out, ?_, ?_, ?_⟩
  · exact (HSL.out.keep (fun b hb => Only.block u hb.2 (by have := hb.1; simp at this; omega))).weak (fun b hb => ⟨by have := hb.1; simp at this; omega, Nat.lt_of_lt_of_le hb.2 u.size⟩)
  · exact HTL.out.turn (fun b hb => Only.block u hb.2 (by have := hb.1; simp at this; omega)) (fun b hb => ⟨by have := hb.1; simp at this; omega, Nat.lt_of_lt_of_le hb.2 u.size⟩)
  · refine ⟨u.os.trans (HG.out.os.trans HB.out.os), u.tape.trans (HG.out.tape.trans HB.out.tape), u.output.trans (HG.out.output.trans HB.out.output), Nat.le_trans HB.out.size (Nat.le_trans HG.out.size u.size), fun q hq => ?_⟩
    rw [Only.block u (by omega) (by omega), Only.block HG.out (by simp; omega) (by omega)]
    exact HB.out.block q hq
end Go.Proofs.Ytokckghedpdfiaa
namespace Go.Proofs.Ytokckghedpdfiaa
open Go.ChangeShapes Go.WideShapes Go.ChangeAt Go.RowKit
theorem u8_range {a : Int} (w0 : (Lit.int .u8 a).wf = true) : 0 ≤ a ∧ a < 256 := by
  have e1 : IntKind.u8.min = 0 := rfl
  have e2 : IntKind.u8.max = 255 := rfl
  simp only [Lit.wf, e1, e2, Bool.and_eq_true, decide_eq_true_eq] at w0
  omega
section
variable {H : Type} {enc : TypeId × Value → H} {W : World} {base : Nat} {spare : Nat → Bool} {held : Bool}
theorem arg_nums {q : IntKind} {ty el : TypeId} (ht : Try.prog.underlying ty = some (.slice el)) (he : Try.prog.underlying el = some (.int q)) (hc : Try.prog.cellsOf el = 1) {r : Reach} {b0 : Nat} {v : Value} {d : DataW H} {p : List MemPlace} (hv : Value.okWide Try.prog W r b0 ty v) (h : DataW.Trod enc Try.prog W base spare held ty v d p) :
    ∃ (l : List Int) (a : Option Addr) (cap : Nat), v = .slice a l.length cap ∧ l.length ≤ cap ∧ cap ≤ maxLen ∧ (a = none → cap = 0) ∧ (∀ z ∈ l, (Lit.int q z).wf = true) ∧ (0 < l.length → ∃ b o, a = some ⟨b, o, none⟩ ∧ b < W.heap.size ∧ ∀ i, i < l.length → W.cell? ⟨b, o + i, none⟩ = some (.int q (l.getD i 0))) := by
  obtain ⟨a, len, cap, rfl⟩ := okWide_slice ht hv
  obtain ⟨fuel, hf⟩ := h
  rcases open_ints ht he hc hf with ⟨hcs, _⟩ | ⟨a', len', cap', zs, hcs, _, hl, hm, hz, _, hcell, hwf⟩
  · have hcs' : a = none ∧ len = 0 ∧ cap = 0 := by simpa [Value.cells] using hcs
    obtain ⟨rfl, rfl, rfl⟩ := hcs'
    exact ⟨[], none, 0, rfl, Nat.le_refl _, Nat.zero_le _, fun _ => rfl, by simp, by simp⟩
  · have hcs' : a = some a' ∧ len = len' ∧ cap = cap' := by simpa [Value.cells] using hcs
    obtain ⟨rfl, rfl, rfl⟩ := hcs'
    have hzl : len ≤ zs.length := by rw [hz]; split <;> omega
    have hlen : (zs.take len).length = len := by simp; omega
    refine ⟨zs.take len, some a', cap, by rw [hlen], by omega, hm, (fun h => by cases h), fun z hz => hwf z (List.mem_of_mem_take hz), fun h0 => ?_⟩
    rw [hlen] at h0 ⊢
    have hget : ∀ i, i < len → (zs.take len).getD i 0 = zs.getD i 0 := fun i hi => by simp [List.getD_eq_getElem?_getD, hi]
    have q0 := hcell 0 (by omega)
    have hsp : a'.spot = none := by
      cases hs : a'.spot with
      | none => rfl
      | some y => exfalso; simp [Addr.add, World.cell?, hs] at q0; split at q0 <;> simp at q0
    obtain ⟨b, o, sp⟩ := a'
    have hsp' : sp = none := hsp
    subst hsp'
    have hadd : ∀ m, (⟨b, o, none⟩ : Addr).add m = ⟨b, o + m, none⟩ := fun m => by unfold Addr.add; split <;> simp_all
    simp only [hadd] at hcell
    refine ⟨b, o, rfl, World.block_lt_of_cell? _ _ (hcell 0 (by omega)), fun i hi => ?_⟩
    rw [hget i hi]
    exact hcell i (by omega)
theorem arg_bytes {r : Reach} {b0 : Nat} {v : Value} {d : DataW H} {p : List MemPlace} (hv : Value.okWide Try.prog W r b0 29 v) (h : DataW.Trod enc Try.prog W base spare held 29 v d p) :
    ∃ (len : Nat) (a : Option Addr) (cap : Nat), v = .slice a len cap ∧ U8In W (· < W.heap.size) len a cap := by
  obtain ⟨l, a, cap, h1, h2, h3, h4, hwf, h5⟩ := arg_nums Try.underlying29 Try.underlying5 cellsU8 hv h
  refine ⟨l.length, a, cap, h1, h2, h3, h4, fun h0 => ?_⟩
  obtain ⟨b, o, ha, hb, hc⟩ := h5 h0
  refine ⟨b, o, ha, hb, fun i hi => ?_⟩
  have hm : l.getD i 0 ∈ l := by
    have e : l.getD i 0 = l[i] := by simp [List.getD_eq_getElem?_getD, hi]
    rw [e]; exact List.getElem_mem hi
  have := u8_range (hwf _ hm)
  exact ⟨_, this.1, this.2, hc i hi⟩
end
end Go.Proofs.Ytokckghedpdfiaa
namespace Go.Proofs.Ytokckghedpdfiaa
open Go.RowKit

def BoxAt (W : World) (M : Nat) (T : Tm) (la : Option Addr) (lc : Nat) (ka : Option Addr) (kc : Nat) : Prop := W.heap[M]? = some (.cells #[.int .i64 T.k, .int .i64 T.n, .slice la T.ls.len lc, .slice ka T.ks.len kc] 25 (0, 0)) ∧ TmIn W W.heap.size T la lc ka kc
theorem TmIn.up {W : World} {B : Nat} {T : Tm} {la : Option Addr} {lc : Nat} {ka : Option Addr} {kc : Nat} (h : TmIn W B T la lc ka kc) : TmIn W W.heap.size T la lc ka kc := ⟨h.1.mono h.2.2, h.2.1.mono h.2.2, Nat.le_refl _⟩
theorem BoxAt.later {W W' : World} {M : Nat} {T : Tm} {la : Option Addr} {lc : Nat} {ka : Option Addr} {kc : Nat} (h : BoxAt W M T la lc ka kc) (hb : Below W.heap.size W W') : BoxAt W' M T la lc ka kc :=
  ⟨(hb.block _ (lt_of_block h.1)).trans h.1, (h.2.later hb).up⟩
theorem TmBox.at {W : World} {M : Nat} {T : Tm} {la : Option Addr} {lc : Nat} {ka : Option Addr} {kc : Nat} (h : TmBox W M T la lc ka kc) : BoxAt W M T la lc ka kc := ⟨h.1, h.2.up⟩
theorem BoxAt.cells {W : World} {M : Nat} {T : Tm} {la : Option Addr} {lc : Nat} {ka : Option Addr} {kc : Nat} (h : BoxAt W M T la lc ka kc) : W.cell? ⟨M, 0, none⟩ = some (.int .i64 T.k) ∧ W.cell? ⟨M, 1, none⟩ = some (.int .i64 T.n) ∧ W.cell? ⟨M, 2, none⟩ = some (.slice la T.ls.len lc) ∧ W.cell? ⟨M, 3, none⟩ = some (.slice ka T.ks.len kc) := cells4 h.1
/-- A term that does not lie in the block M. -/
def OffIn (W : World) (M : Nat) (T : Tm) (la : Option Addr) (lc : Nat) (ka : Option Addr) (kc : Nat) : Prop := SlIn W (fun b => b ≠ M ∧ b < W.heap.size) T.ls la lc ∧ TlIn W (fun b => b ≠ M ∧ b < W.heap.size) T.ks ka kc
theorem OffIn.old {W : World} {M lo : Nat} {T : Tm} {la : Option Addr} {lc : Nat} {ka : Option Addr} {kc : Nat} (hl : SlIn W (fun b => lo ≤ b ∧ b < W.heap.size) T.ls la lc) (hk : TlIn W (fun b => lo ≤ b ∧ b < W.heap.size) T.ks ka kc) (hM : M < lo) : OffIn W M T la lc ka kc :=
  ⟨hl.weak (fun b h => ⟨by omega, h.2⟩), hk.weak (fun b h => ⟨by omega, h.2⟩)⟩
theorem OffIn.new {W : World} {T : Tm} {la : Option Addr} {lc : Nat} {ka : Option Addr} {kc : Nat} (h : TmIn W W.heap.size T la lc ka kc) (o : Obj) : OffIn (W.alloc o) W.heap.size T la lc ka kc := by
  have hb := h.later ((Below.refl _ _).alloc (Nat.le_refl _) o)
  exact ⟨hb.1.weak (fun b hx => ⟨Nat.ne_of_lt hx, by simp; exact Nat.lt_succ_of_lt hx⟩), hb.2.1.weak (fun b hx => ⟨Nat.ne_of_lt hx, by simp; exact Nat.lt_succ_of_lt hx⟩)⟩
/-- A term stored into a variable. -/
theorem box_set {W : World} {M : Nat} {T : Tm} {la : Option Addr} {lc : Nat} {ka : Option Addr} {kc : Nat} {x y z u : Value} (hz : W.heap[M]? = some (.cells #[x, y, z, u] 25 (0, 0))) (h : OffIn W M T la lc ka kc) :
    BoxAt ((((W.setCell ⟨M, 0, none⟩ (.int .i64 T.k)).setCell ⟨M, 1, none⟩ (.int .i64 T.n)).setCell ⟨M, 2, none⟩ (.slice la T.ls.len lc)).setCell ⟨M, 3, none⟩ (.slice ka T.ks.len kc)) M T la lc ka kc := by
  have hg := set4_only (w := W) M (.int .i64 T.k) (.int .i64 T.n) (.slice la T.ls.len lc) (.slice ka T.ks.len kc)
  refine ⟨?_, (h.1.keep (fun b hb => Only.block hg hb.2 hb.1)).weak (fun b hb => Nat.lt_of_lt_of_le hb.2 hg.size), h.2.turn (fun b hb => Only.block hg hb.2 hb.1) (fun b hb => Nat.lt_of_lt_of_le hb.2 hg.size), Nat.le_refl _⟩
  have h1 := heap_setCell_same W M 0 _ _ (.int .i64 T.k) hz
  have h2 := heap_setCell_same _ M 1 _ _ (.int .i64 T.n) h1
  have h3 := heap_setCell_same _ M 2 _ _ (.slice la T.ls.len lc) h2
  have h4 := heap_setCell_same _ M 3 _ _ (.slice ka T.ks.len kc) h3
  exact h4
theorem box_below {a W : World} {B M : Nat} (h : Below B a W) (hM : B ≤ M) (x y z u : Value) : Below B a ((((W.setCell ⟨M, 0, none⟩ x).setCell ⟨M, 1, none⟩ y).setCell ⟨M, 2, none⟩ z).setCell ⟨M, 3, none⟩ u) := (((h.setCell hM x).setCell hM y).setCell hM z).setCell hM u
/-- A variable of the type Term that holds nothing yet. -/
def ZAt (W : World) (B M : Nat) : Prop := B ≤ M ∧ W.heap[M]? = some (.cells #[.int .i64 0, .int .i64 0, .slice none 0 0, .slice none 0 0] 25 (0, 0))
theorem ZAt.later {W W' : World} {B M : Nat} (h : ZAt W B M) (hb : Below W.heap.size W W') : ZAt W' B M := ⟨h.1, (hb.block _ (lt_of_block h.2)).trans h.2⟩
theorem ZAt.lt {W : World} {B M : Nat} (h : ZAt W B M) : M < W.heap.size := lt_of_block h.2
theorem ZAt.new {W : World} {B : Nat} (h : B ≤ W.heap.size) : ZAt (W.alloc (.cells #[.int .i64 0, .int .i64 0, .slice none 0 0, .slice none 0 0] 25)) B W.heap.size := ⟨h, heap_new _ _⟩
/-- Two terms that the law writes out itself. -/
theorem lit_two {W : World} {N M : Nat} {s t : Tm} {la ka lb kb : Option Addr} {lc kc ld kd : Nat} (h : TmIn W N s la lc ka kc) (h' : TmIn W M t lb ld kb kd) :
    LitIn (W.alloc (.cells #[.int .i64 s.k, .int .i64 s.n, .slice la s.ls.len lc, .slice ka s.ks.len kc, .int .i64 t.k, .int .i64 t.n, .slice lb t.ls.len ld, .slice kb t.ks.len kd] 25)) W.heap.size (s.to (t.to .nil)) := by
  have hb : Below W.heap.size W (W.alloc (.cells #[.int .i64 s.k, .int .i64 s.n, .slice la s.ls.len lc, .slice ka s.ks.len kc, .int .i64 t.k, .int .i64 t.n, .slice lb t.ls.len ld, .slice kb t.ks.len kd] 25)) := (Below.refl _ _).alloc (Nat.le_refl _) _
  have h2 := heap_new W (.cells #[.int .i64 s.k, .int .i64 s.n, .slice la s.ls.len lc, .slice ka s.ks.len kc, .int .i64 t.k, .int .i64 t.n, .slice lb t.ls.len ld, .slice kb t.ks.len kd] 25)
  have e : ∀ x, x ≤ W.heap.size → x ≤ W.heap.size + 1 := fun x h => by omega
  exact ⟨TlIn.mk (Nat.le_refl _) (by omega) (Nat.lt_succ_self _) (FtIn.push (cell_at h2 0) (cell_at h2 1) (cell_at h2 2) ((h.1.below (hb.mono h.2.2)).mono (e _ h.2.2)) (cell_at h2 3) ((h.2.1.below (hb.mono h.2.2)).mono (e _ h.2.2)) (FtIn.push (cell_at h2 4) (cell_at h2 5) (cell_at h2 6) ((h'.1.below (hb.mono h'.2.2)).mono (e _ h'.2.2)) (cell_at h2 7) ((h'.2.1.below (hb.mono h'.2.2)).mono (e _ h'.2.2)) trivial)), by simp⟩
/-- The Sort of the level Zero, made by the law. -/
def sZ : Tm := ⟨2, 0, .cons 1 0 .nil .nil, .nil⟩
theorem sort_new (W : World) : Calls Try.prog 18 #[.agg #[.int .i64 1, .int .i64 0, .slice none 0 0]] W fun e w' => ∃ x, e = .returned (.agg #[.int .i64 2, .int .i64 0, .slice x 1 1, .slice none 0 0]) ∧ TmIn w' w'.heap.size sZ x 1 none 0 ∧ Below W.heap.size W w' := by
  refine (tSort_in 1 0 .nil none 0 W.heap.size W (SlIn.none _ _) (Nat.le_refl _)).mono ?_
  rintro e w' ⟨x, rfl, h, hb⟩
  exact ⟨x, rfl, ⟨h.weak (fun _ h => h.2), TlIn.none _ _, Nat.le_refl _⟩, hb⟩
theorem Below.keep {W W' : World} (hb : Below W.heap.size W W') {p : Addr} {v : Value} (h : W.cell? p = some v) : W'.cell? p = some v := (hb.cell (World.block_lt_of_cell? W p h)).trans h
/-- The second part of a binder that the law wrote. -/
theorem kid_two {W : World} {s t : Tm} {x : Option Addr} {c B : Nat} (h : TlIn W (· < B) (s.to (t.to .nil)) x c) : ∃ b o, x = some ⟨b, o, none⟩ ∧ ∃ (la : Option Addr) (lc : Nat) (ka : Option Addr) (kc : Nat), (W.cell? ⟨b, o + 4, none⟩ = some (.int .i64 t.k) ∧ W.cell? ⟨b, o + 4 + 1, none⟩ = some (.int .i64 t.n) ∧ W.cell? ⟨b, o + 4 + 2, none⟩ = some (.slice la t.ls.len lc) ∧ W.cell? ⟨b, o + 4 + 3, none⟩ = some (.slice ka t.ks.len kc)) ∧ SlIn W (· < B) t.ls la lc ∧ TlIn W (· < B) t.ks ka kc := by
  obtain ⟨b, o, hx, hP, hf⟩ := h.some (by simp [Tm.to, Ft.len])
  obtain ⟨_, _, _, _, hr⟩ := hf
  obtain ⟨k0, k1, ⟨la, lc, k2, hl⟩, ⟨ka, kc, k3, hk1, hk2, hk3, hk4⟩, _⟩ := hr
  exact ⟨b, o, hx, la, lc, ka, kc, ⟨k0, k1, k2, k3⟩, hl, hk1, hk2, hk3, hk4⟩
end Go.Proofs.Ytokckghedpdfiaa
namespace Go.Proofs.Ytokckghedpdfiaa
open Go.RowKit

theorem okT.sm {v d : Int} {T : Tm} (h : okT v d T) (hv : v ≤ 1000) (hd : d ≤ 6) : T.ks.size ≤ 1000 ∧ T.ks.lvsz 1000 ∧ T.ls.size ≤ 1000 := sh_small (h.sh hv hd)
theorem sm_of {T : Tm} (h : T.ks.size ≤ 1000 ∧ T.ks.lvsz 1000 ∧ T.ls.size ≤ 1000) : smT T := ⟨by omega, Ft.lvsz_mono (by omega) h.2.1, by omega⟩
theorem sm_two {k n : Int} {L : Fo} {A B : Tm} (hA : A.ks.size ≤ 1000 ∧ A.ks.lvsz 1000 ∧ A.ls.size ≤ 1000) (hB : B.ks.size ≤ 1000 ∧ B.ks.lvsz 1000 ∧ B.ls.size ≤ 1000) (hL : L.size ≤ 1000) : smT ⟨k, n, L, A.to (B.to .nil)⟩ := by
  refine ⟨?_, ?_, by show L.size ≤ 1000000; omega⟩
  · simp only [Tm.to, Ft.size]; omega
  · exact ⟨by omega, Ft.lvsz_mono (by omega) hA.2.1, by omega, Ft.lvsz_mono (by omega) hB.2.1, trivial⟩
theorem sm_one {k n : Int} {L : Fo} {A : Tm} (hA : A.ks.size ≤ 1000 ∧ A.ks.lvsz 1000 ∧ A.ls.size ≤ 1000) (hL : L.size ≤ 1000) : smT ⟨k, n, L, A.to .nil⟩ := by
  refine ⟨?_, ?_, by show L.size ≤ 1000000; omega⟩
  · simp only [Tm.to, Ft.size]; omega
  · exact ⟨by omega, Ft.lvsz_mono (by omega) hA.2.1, trivial⟩
/-- The literal of two terms, in the block LB. -/
def TwoAt (W : World) (LB : Nat) (A B : Tm) (la : Option Addr) (lc : Nat) (ka : Option Addr) (kc : Nat) (lb : Option Addr) (ld : Nat) (kb : Option Addr) (kd : Nat) : Prop :=
  W.heap[LB]? = some (.cells #[.int .i64 A.k, .int .i64 A.n, .slice la A.ls.len lc, .slice ka A.ks.len kc, .int .i64 B.k, .int .i64 B.n, .slice lb B.ls.len ld, .slice kb B.ks.len kd] 25 (0, 0)) ∧ TmIn W W.heap.size A la lc ka kc ∧ TmIn W W.heap.size B lb ld kb kd
theorem TwoAt.tl {W : World} {LB : Nat} {A B : Tm} {la : Option Addr} {lc : Nat} {ka : Option Addr} {kc : Nat} {lb : Option Addr} {ld : Nat} {kb : Option Addr} {kd : Nat} (h : TwoAt W LB A B la lc ka kc lb ld kb kd) : TlIn W (· < W.heap.size) (A.to (B.to .nil)) (some ⟨LB, 0, none⟩) 2 :=
  TlIn.mk (Nat.le_refl _) (by omega) (lt_of_block h.1) (FtIn.push (cell_at h.1 0) (cell_at h.1 1) (cell_at h.1 2) h.2.1.1 (cell_at h.1 3) h.2.1.2.1 (FtIn.push (cell_at h.1 4) (cell_at h.1 5) (cell_at h.1 6) h.2.2.1 (cell_at h.1 7) h.2.2.2.1 trivial))
theorem TwoAt.tl1 {W : World} {LB : Nat} {A B : Tm} {la : Option Addr} {lc : Nat} {ka : Option Addr} {kc : Nat} {lb : Option Addr} {ld : Nat} {kb : Option Addr} {kd : Nat} (h : TwoAt W LB A B la lc ka kc lb ld kb kd) : TlIn W (· < W.heap.size) (A.to .nil) (some ⟨LB, 0, none⟩) 2 :=
  TlIn.mk (show 1 ≤ 2 by omega) (by omega) (lt_of_block h.1) (FtIn.push (cell_at h.1 0) (cell_at h.1 1) (cell_at h.1 2) h.2.1.1 (cell_at h.1 3) h.2.1.2.1 trivial)
/-- The variable x, at the block M, and its literal; both terms lie below the literal. -/
def XAt (W : World) (M LB : Nat) (A B : Tm) (la : Option Addr) (lc : Nat) (ka : Option Addr) (kc : Nat) (lb : Option Addr) (ld : Nat) (kb : Option Addr) (kd : Nat) : Prop :=
  W.heap[M]? = some (.cells #[.int .i64 6, .int .i64 0, .slice none 0 0, .slice (some ⟨LB, 0, none⟩) 2 2] 25 (0, 0)) ∧
  W.heap[LB]? = some (.cells #[.int .i64 A.k, .int .i64 A.n, .slice la A.ls.len lc, .slice ka A.ks.len kc, .int .i64 B.k, .int .i64 B.n, .slice lb B.ls.len ld, .slice kb B.ks.len kd] 25 (0, 0)) ∧
  TmIn W LB A la lc ka kc ∧ TmIn W LB B lb ld kb kd ∧ LB < M
section
variable {W : World} {M LB : Nat} {A B : Tm} {la : Option Addr} {lc : Nat} {ka : Option Addr} {kc : Nat} {lb : Option Addr} {ld : Nat} {kb : Option Addr} {kd : Nat}
theorem XAt.later (h : XAt W M LB A B la lc ka kc lb ld kb kd) {W' : World} (hb : Below W.heap.size W W') : XAt W' M LB A B la lc ka kc lb ld kb kd :=
  ⟨(hb.block _ (lt_of_block h.1)).trans h.1, (hb.block _ (lt_of_block h.2.1)).trans h.2.1, h.2.2.1.later hb, h.2.2.2.1.later hb, h.2.2.2.2⟩
/-- A cell of x is set. -/
theorem XAt.setM (h : XAt W M LB A B la lc ka kc lb ld kb kd) (i : Nat) (v : Value) : (W.setCell ⟨M, i, none⟩ v).heap[M]? = some (.cells ((#[.int .i64 6, .int .i64 0, .slice none 0 0, .slice (some ⟨LB, 0, none⟩) 2 2] : Array Value).setIfInBounds i v) 25 (0, 0)) ∧
    TwoAt (W.setCell ⟨M, i, none⟩ v) LB A B la lc ka kc lb ld kb kd ∧ Below LB W (W.setCell ⟨M, i, none⟩ v) := by
  obtain ⟨h1, h2, h3, h4, h5⟩ := h
  have hb : Below LB W (W.setCell ⟨M, i, none⟩ v) := (Below.refl _ _).setCell (Nat.le_of_lt h5) v
  have e : ∀ {T : Tm} {xa : Option Addr} {xc : Nat} {ya : Option Addr} {yc : Nat}, TmIn W LB T xa xc ya yc → TmIn (W.setCell ⟨M, i, none⟩ v) (W.setCell ⟨M, i, none⟩ v).heap.size T xa xc ya yc := fun k => ⟨(k.1.below hb).mono (Nat.le_trans k.2.2 hb.size), (k.2.1.below hb).mono (Nat.le_trans k.2.2 hb.size), Nat.le_refl _⟩
  exact ⟨heap_setCell_same W M i _ _ v h1, ⟨(Below.heap_setCell _ _ _ _ (Nat.ne_of_lt h5)).trans h2, e h3, e h4⟩, hb⟩
/-- Four cells of the literal are set: the first term, or the second. -/
theorem XAt.setL (h : XAt W M LB A B la lc ka kc lb ld kb kd) (i : Nat) (x y z u : Value) : ((((W.setCell ⟨LB, i, none⟩ x).setCell ⟨LB, i + 1, none⟩ y).setCell ⟨LB, i + 2, none⟩ z).setCell ⟨LB, i + 3, none⟩ u).heap[LB]? = some (.cells ((((#[.int .i64 A.k, .int .i64 A.n, .slice la A.ls.len lc, .slice ka A.ks.len kc, .int .i64 B.k, .int .i64 B.n, .slice lb B.ls.len ld, .slice kb B.ks.len kd].setIfInBounds i x).setIfInBounds (i + 1) y).setIfInBounds (i + 2) z).setIfInBounds (i + 3) u) 25 (0, 0)) ∧
    ((((W.setCell ⟨LB, i, none⟩ x).setCell ⟨LB, i + 1, none⟩ y).setCell ⟨LB, i + 2, none⟩ z).setCell ⟨LB, i + 3, none⟩ u).heap[M]? = some (.cells #[.int .i64 6, .int .i64 0, .slice none 0 0, .slice (some ⟨LB, 0, none⟩) 2 2] 25 (0, 0)) ∧
    (∀ b, b ≠ LB → ((((W.setCell ⟨LB, i, none⟩ x).setCell ⟨LB, i + 1, none⟩ y).setCell ⟨LB, i + 2, none⟩ z).setCell ⟨LB, i + 3, none⟩ u).heap[b]? = W.heap[b]?) ∧
    Below LB W ((((W.setCell ⟨LB, i, none⟩ x).setCell ⟨LB, i + 1, none⟩ y).setCell ⟨LB, i + 2, none⟩ z).setCell ⟨LB, i + 3, none⟩ u) := by
  obtain ⟨h1, h2, h3, h4, h5⟩ := h
  have e : ∀ b, b ≠ LB → ((((W.setCell ⟨LB, i, none⟩ x).setCell ⟨LB, i + 1, none⟩ y).setCell ⟨LB, i + 2, none⟩ z).setCell ⟨LB, i + 3, none⟩ u).heap[b]? = W.heap[b]? := fun b hb =>
    (Below.heap_setCell _ _ _ _ hb).trans ((Below.heap_setCell _ _ _ _ hb).trans ((Below.heap_setCell _ _ _ _ hb).trans (Below.heap_setCell _ _ _ _ hb)))
  have q1 := heap_setCell_same W LB i _ _ x h2
  have q2 := heap_setCell_same _ LB (i + 1) _ _ y q1
  have q3 := heap_setCell_same _ LB (i + 2) _ _ z q2
  have q4 := heap_setCell_same _ LB (i + 3) _ _ u q3
  have q5 : Below LB W ((((W.setCell ⟨LB, i, none⟩ x).setCell ⟨LB, i + 1, none⟩ y).setCell ⟨LB, i + 2, none⟩ z).setCell ⟨LB, i + 3, none⟩ u) := ((((Below.refl LB W).setCell (p := ⟨LB, i, none⟩) (Nat.le_refl _) x).setCell (p := ⟨LB, i + 1, none⟩) (Nat.le_refl _) y).setCell (p := ⟨LB, i + 2, none⟩) (Nat.le_refl _) z).setCell (p := ⟨LB, i + 3, none⟩) (Nat.le_refl _) u
  exact ⟨q4, (e M (Nat.ne_of_gt h5)).trans h1, e, q5⟩
/-- What the law goes on with. -/
def XEnd (W0 : World) (M LB : Nat) (wx : World) : Prop := ∃ (X : Tm) (la : Option Addr) (lc : Nat) (ka : Option Addr) (kc : Nat), smT X ∧ BoxAt wx M X la lc ka kc ∧ Below LB W0 wx
variable (hA : A.ks.size ≤ 1000 ∧ A.ks.lvsz 1000 ∧ A.ls.size ≤ 1000) (hB : B.ks.size ≤ 1000 ∧ B.ks.lvsz 1000 ∧ B.ls.size ≤ 1000)
include hA hB
theorem XAt.way0 (h : XAt W M LB A B la lc ka kc lb ld kb kd) (n : Int) : XEnd W M LB (W.setCell ⟨M, 1, none⟩ (.int .i64 n)) := by
  obtain ⟨g1, g2, g3⟩ := h.setM 1 (.int .i64 n)
  exact ⟨⟨6, n, .nil, A.to (B.to .nil)⟩, _, _, _, _, sm_two hA hB (Nat.zero_le _), ⟨g1, SlIn.none _ _, g2.tl, Nat.le_refl _⟩, g3⟩
theorem XAt.way1 (h : XAt W M LB A B la lc ka kc lb ld kb kd) (n : Int) : XEnd W M LB (W.setCell ⟨M, 0, none⟩ (.int .i64 n)) := by
  obtain ⟨g1, g2, g3⟩ := h.setM 0 (.int .i64 n)
  exact ⟨⟨n, 0, .nil, A.to (B.to .nil)⟩, _, _, _, _, sm_two hA hB (Nat.zero_le _), ⟨g1, SlIn.none _ _, g2.tl, Nat.le_refl _⟩, g3⟩
omit hB in
theorem XAt.way2 (h : XAt W M LB A B la lc ka kc lb ld kb kd) : XEnd W M LB (W.setCell ⟨M, 3, none⟩ (.slice (some ⟨LB, 0, none⟩) 1 2)) := by
  obtain ⟨g1, g2, g3⟩ := h.setM 3 (.slice (some ⟨LB, 0, none⟩) 1 2)
  exact ⟨⟨6, 0, .nil, A.to .nil⟩, _, _, _, _, sm_one hA (Nat.zero_le _), ⟨g1, SlIn.none _ _, g2.tl1, Nat.le_refl _⟩, g3⟩
theorem XAt.way3 (h : XAt W M LB A B la lc ka kc lb ld kb kd) : XEnd W M LB ((W.alloc (.cells #[.int .i64 1, .int .i64 0, .slice none 0 0] 33)).setCell ⟨M, 2, none⟩ (.slice (some ⟨W.heap.size, 0, none⟩) 1 1)) := by
  have hb : Below W.heap.size W (W.alloc (.cells #[.int .i64 1, .int .i64 0, .slice none 0 0] 33)) := (Below.refl _ _).alloc (Nat.le_refl _) _
  have hM := lt_of_block h.1
  obtain ⟨g1, g2, g3⟩ := (h.later hb).setM 2 (.slice (some ⟨W.heap.size, 0, none⟩) 1 1)
  have hn : ((W.alloc (.cells #[.int .i64 1, .int .i64 0, .slice none 0 0] 33)).setCell ⟨M, 2, none⟩ (.slice (some ⟨W.heap.size, 0, none⟩) 1 1)).heap[W.heap.size]? = some (.cells #[.int .i64 1, .int .i64 0, .slice none 0 0] 33 (0, 0)) := (Below.heap_setCell _ _ _ _ (Nat.ne_of_gt hM)).trans (heap_new W _)
  exact ⟨⟨6, 0, .cons 1 0 .nil .nil, A.to (B.to .nil)⟩, _, _, _, _, sm_two hA hB (by simp [Fo.size]), ⟨g1, SlIn.mk (Nat.le_refl _) (by omega) (lt_of_block hn) (FoIn.push (cell_at hn 0) (cell_at hn 1) (cell_at hn 2) (SlIn.none _ _) trivial), g2.tl, Nat.le_refl _⟩, (hb.mono (Nat.le_of_lt (Nat.lt_trans h.2.2.2.2 hM))).trans g3⟩
omit hB in
theorem XAt.way4 {W0 : World} (h : XAt W0 M LB A B la lc ka kc lb ld kb kd) (hb : Below W0.heap.size W0 W) (n : Int) : XEnd W0 M LB ((((W.setCell ⟨LB, 4, none⟩ (.int .i64 1)).setCell ⟨LB, 4 + 1, none⟩ (.int .i64 n)).setCell ⟨LB, 4 + 2, none⟩ (.slice none 0 0)).setCell ⟨LB, 4 + 3, none⟩ (.slice none 0 0)) := by
  obtain ⟨g1, g2, ge, g3⟩ := (h.later hb).setL 4 (.int .i64 1) (.int .i64 n) (.slice none 0 0) (.slice none 0 0)
  have h3 := (h.later hb).2.2.1
  have t1 : TwoAt ((((W.setCell ⟨LB, 4, none⟩ (.int .i64 1)).setCell ⟨LB, 4 + 1, none⟩ (.int .i64 n)).setCell ⟨LB, 4 + 2, none⟩ (.slice none 0 0)).setCell ⟨LB, 4 + 3, none⟩ (.slice none 0 0)) LB A (tV n) la lc ka kc none 0 none 0 :=
    ⟨g1, ⟨(h3.1.below g3).mono (Nat.le_trans h3.2.2 g3.size), (h3.2.1.below g3).mono (Nat.le_trans h3.2.2 g3.size), Nat.le_refl _⟩, SlIn.none _ _, TlIn.none _ _, Nat.le_refl _⟩
  exact ⟨⟨6, 0, .nil, A.to ((tV n).to .nil)⟩, _, _, _, _, sm_two hA ⟨Nat.zero_le _, trivial, Nat.zero_le _⟩ (Nat.zero_le _), ⟨g2, SlIn.none _ _, t1.tl, Nat.le_refl _⟩, (hb.mono (Nat.le_of_lt (lt_of_block h.2.1))).trans g3⟩
omit hA in
/-- The first term is another, without Kids. -/
theorem XAt.way5 {W0 : World} (h : XAt W0 M LB A B la lc ka kc lb ld kb kd) (hb : Below W0.heap.size W0 W) (k n : Int) (L : Fo) (xa : Option Addr) (xc : Nat) (hL : SlIn W (fun b => W0.heap.size ≤ b ∧ b < W.heap.size) L xa xc) (hs : L.size ≤ 1000) : XEnd W0 M LB ((((W.setCell ⟨LB, 0, none⟩ (.int .i64 k)).setCell ⟨LB, 0 + 1, none⟩ (.int .i64 n)).setCell ⟨LB, 0 + 2, none⟩ (.slice xa L.len xc)).setCell ⟨LB, 0 + 3, none⟩ (.slice none 0 0)) := by
  have hLB := lt_of_block h.2.1
  obtain ⟨g1, g2, ge, g3⟩ := (h.later hb).setL 0 (.int .i64 k) (.int .i64 n) (.slice xa L.len xc) (.slice none 0 0)
  have h3 := (h.later hb).2.2.2.1
  have t1 : TwoAt ((((W.setCell ⟨LB, 0, none⟩ (.int .i64 k)).setCell ⟨LB, 0 + 1, none⟩ (.int .i64 n)).setCell ⟨LB, 0 + 2, none⟩ (.slice xa L.len xc)).setCell ⟨LB, 0 + 3, none⟩ (.slice none 0 0)) LB ⟨k, n, L, .nil⟩ B xa xc none 0 lb ld kb kd :=
    ⟨g1, ⟨(hL.keep (fun b hb => ge b (by omega))).weak (fun b hb => Nat.lt_of_lt_of_le hb.2 g3.size), TlIn.none _ _, Nat.le_refl _⟩, (h3.1.below g3).mono (Nat.le_trans h3.2.2 g3.size), (h3.2.1.below g3).mono (Nat.le_trans h3.2.2 g3.size), Nat.le_refl _⟩
  exact ⟨⟨6, 0, .nil, (⟨k, n, L, .nil⟩ : Tm).to (B.to .nil)⟩, _, _, _, _, sm_two ⟨Nat.zero_le _, trivial, hs⟩ hB (Nat.zero_le _), ⟨g2, SlIn.none _ _, t1.tl, Nat.le_refl _⟩, (hb.mono (Nat.le_of_lt hLB)).trans g3⟩
end
end Go.Proofs.Ytokckghedpdfiaa
namespace Go.Proofs.Ytokckghedpdfiaa.termMade
open Go.RowKit

theorem mk0 (w : World) : (Instr.makeSlice 22 (.int .i64 0) (.int .i64 0)).run Try.prog w = .ok (.slice (some ⟨w.heap.size, 0, none⟩) 0 0) (w.alloc (.cells #[] 33)) := by kernel_rfl
theorem mk1 (w : World) : (Instr.makeSlice 22 (.int .i64 1) (.int .i64 1)).run Try.prog w = .ok (.slice (some ⟨w.heap.size, 0, none⟩) 1 1) (w.alloc (.cells #[.int .i64 0, .int .i64 0, .slice none 0 0] 33)) := by kernel_rfl
theorem mk_lv (r : Int) (hr : r = 0 ∨ r = 1) (w : World) : ∃ (L : Fo) (o : Obj), (Instr.makeSlice 22 (.int .i64 r) (.int .i64 r)).run Try.prog w = .ok (.slice (some ⟨w.heap.size, 0, none⟩) L.len L.len) (w.alloc o) ∧ SlIn (w.alloc o) (fun b => w.heap.size ≤ b ∧ b < (w.alloc o).heap.size) L (some ⟨w.heap.size, 0, none⟩) L.len ∧ L.size ≤ 1000 := by
  rcases hr with rfl | rfl
  · exact ⟨.nil, _, mk0 w, ⟨Nat.le_refl _, Nat.zero_le _, (fun h => by cases h), (fun h => by simp [Fo.len] at h)⟩, Nat.zero_le _⟩
  · have hn := heap_new w (.cells #[.int .i64 0, .int .i64 0, .slice none 0 0] 33)
    exact ⟨.cons 0 0 .nil .nil, _, mk1 w, SlIn.mk (Nat.le_refl _) (show 1 ≤ 1000000 by omega) ⟨Nat.le_refl _, by simp⟩ (FoIn.push (cell_at hn 0) (cell_at hn 1) (cell_at hn 2) (SlIn.none _ _) trivial), by simp [Fo.size]⟩
theorem wrapU {z : Int} (h0 : 0 ≤ z) (h1 : z < 256) : IntKind.i64.wrap z = z := IntWalk.i64_in _ (by omega)
/-- A told contract for terms in variables. -/
theorem told_box {T U : Tm} (hT : smT T) (hU : smT U) (fr by' : Int) (la : Option Addr) (lc : Nat) (ka : Option Addr) (kc : Nat) (lb : Option Addr) (ld : Nat) (kb : Option Addr) (kd : Nat) (N M : Nat) (W : World) (p : TmIn W N T la lc ka kc) (q : TmIn W M U lb ld kb kd) :
    Calls Try.prog 10 #[.agg #[.int .i64 T.k, .int .i64 T.n, .slice la T.ls.len lc, .slice ka T.ks.len kc], .agg #[.int .i64 U.k, .int .i64 U.n, .slice lb U.ls.len ld, .slice kb U.ks.len kd], .int .i64 fr, .int .i64 by'] W fun e w' => e = .returned (.bool true) ∧ Below W.heap.size W w' :=
  told13_any T U fr by' la ka lb kb lc kc ld kd W p.up q.up hT hU

set_option maxRecDepth 100000 in
set_option maxHeartbeats 8000000 in
theorem walk (f x h n : Int) (hf0 : 0 ≤ f) (hf1 : f < 256) (hx0 : 0 ≤ x) (hx1 : x < 256) (hh0 : 0 ≤ h) (hh1 : h < 256) (n1 c1 n2 c2 : Nat) (a1 a2 : Option Addr) (w : World) (h1 : U8In w (· < w.heap.size) n1 a1 c1) (h2 : U8In w (· < w.heap.size) n2 a2 c2) :
    Calls Try.prog 4 #[.slice a1 n1 c1, .slice a2 n2 c2, .int .u8 f, .int .u8 x, .int .u8 h, .int .i64 n] w fun e w' => e = .returned (.bool true) ∧ Below w.heap.size w w' := by
  have H1 := Lib.hid h1
  have H2 := Lib.hid h2
  clear h1 h2
  go_enter Try.func4, Try.ntmps4
  go_wp2_with fail
  refine (tMade_any n1 c1 a1 w.heap.size w H1.out (Nat.le_refl _)).mono ?_
  rintro e w2 ⟨T, la, lc, ka, kc, rfl, okt, sl1, tl1, hb2⟩
  have HB2 := Lib.hid hb2
  have T2 := Lib.hid (show TmIn w2 w2.heap.size T la lc ka kc from ⟨sl1.weak (fun _ h => h.2), tl1.weak (fun _ h => h.2), Nat.le_refl _⟩)
  have OKT := Lib.hid (okt.sm (by omega) (by omega))
  clear sl1 tl1 hb2 okt
  go_wp2_with fail
  refine (tMade_any n2 c2 a2 w.heap.size w2 (H2.out.below HB2.out) HB2.out.size).mono ?_
  rintro e w3 ⟨U, ua, uc, va, vc, rfl, oku, sl2, tl2, hb3⟩
  have HB3 := Lib.hid (Below.step HB2.out hb3 (Nat.le_refl _))
  have T3 := Lib.hid (T2.out.later hb3)
  have U3 := Lib.hid (show TmIn w3 w3.heap.size U ua uc va vc from ⟨sl2.weak (fun _ h => h.2), tl2.weak (fun _ h => h.2), Nat.le_refl _⟩)
  have OKU := Lib.hid (oku.sm (by omega) (by omega))
  clear sl2 tl2 hb3 oku HB2 T2 H1 H2
  have hal1 : Below w3.heap.size w3 (w3.alloc (.cells #[.int .i64 T.k, .int .i64 T.n, .slice la T.ls.len lc, .slice ka T.ks.len kc] 25)) := (Below.refl _ _).alloc (Nat.le_refl _) _
  have hal2 : Below (w3.alloc (.cells #[.int .i64 T.k, .int .i64 T.n, .slice la T.ls.len lc, .slice ka T.ks.len kc] 25)).heap.size (w3.alloc (.cells #[.int .i64 T.k, .int .i64 T.n, .slice la T.ls.len lc, .slice ka T.ks.len kc] 25)) ((w3.alloc (.cells #[.int .i64 T.k, .int .i64 T.n, .slice la T.ls.len lc, .slice ka T.ks.len kc] 25)).alloc (.cells #[.int .i64 U.k, .int .i64 U.n, .slice ua U.ls.len uc, .slice va U.ks.len vc] 25)) := (Below.refl _ _).alloc (Nat.le_refl _) _
  have T4 := Lib.hid ((TmBox.new (show TmIn w3 w3.heap.size T la lc ka kc from T3.out.up)).later hal2)
  have u2 := TmBox.new (U3.out.later hal1).up
  rw [World.size_alloc] at u2
  have U4 := Lib.hid u2
  have HB4 := Lib.hid (Below.step (Below.step HB3.out hal1 (Nat.le_refl _)) hal2 (Nat.le_refl _))
  have m0 : 0 ≤ f % 5 := by omega
  have m1 : f % 5 < 5 := by omega
  have m2 : 0 ≤ x % 5 := by omega
  have m3 : x % 5 < 5 := by omega
  have HT1 := Lib.hid (fun W => told_box (sm_of OKT.out) (sm_of OKU.out) (f % 5) (x % 5) la lc ka kc ua uc va vc w3.heap.size (w3.heap.size + 1) W)
  have HT2 := Lib.hid (fun W => told_box (sm_of OKT.out) (sm_of OKT.out) f (x * 4) la lc ka kc la lc ka kc w3.heap.size w3.heap.size W)
  obtain ⟨c0, c1', c2', c3⟩ := T4.out.cells
  obtain ⟨d0, d1, d2, d3⟩ := U4.out.cells
  clear hal1 hal2 u2 T3 U3 HB3
  go_wp2_with fail
  refine (HT1.out _ T4.out.2 U4.out.2).mono ?_
  rintro e w5 ⟨rfl, hb⟩
  have T5 := Lib.hid (T4.out.later hb)
  have U5 := Lib.hid (U4.out.later hb)
  have HB5 := Lib.hid (Below.step HB4.out hb (Nat.le_refl _))
  clear c0 c1' c2' c3 d0 d1 d2 d3 hb T4 U4 HB4 HT1
  obtain ⟨c0, c1', c2', c3⟩ := T5.out.cells
  go_wp2_with fail
  refine (HT2.out _ T5.out.2 T5.out.2).mono ?_
  rintro e w6 ⟨rfl, hb⟩
  have T6 := Lib.hid (T5.out.later hb)
  have U6 := Lib.hid (U5.out.later hb)
  have HB6 := Lib.hid (Below.step HB5.out hb (Nat.le_refl _))
  clear c0 c1' c2' c3 hb T5 U5 HB5 HT2
  obtain ⟨c0, c1', c2', c3⟩ := T6.out.cells
  obtain ⟨d0, d1, d2, d3⟩ := U6.out.cells
  go_wp2_with fail
  refine (tBind_any 6 _ 2 2 _).mono ?_
  rintro e w8 ⟨rfl, hb⟩
  have hal : Below w6.heap.size w6 (w6.alloc (.cells #[.int .i64 T.k, .int .i64 T.n, .slice la T.ls.len lc, .slice ka T.ks.len kc, .int .i64 U.k, .int .i64 U.n, .slice ua U.ls.len uc, .slice va U.ks.len vc] 25)) := (Below.refl _ _).alloc (Nat.le_refl _) _
  have hL8 := (hb.block w6.heap.size (by simp)).trans (heap_new w6 (.cells #[.int .i64 T.k, .int .i64 T.n, .slice la T.ls.len lc, .slice ka T.ks.len kc, .int .i64 U.k, .int .i64 U.n, .slice ua U.ls.len uc, .slice va U.ks.len vc] 25))
  have hlt : w6.heap.size < w8.heap.size := lt_of_block hL8
  have b8 := Below.step hal hb (Nat.le_refl _)
  have t8 := T6.out.2.up.later b8
  have u8 := U6.out.2.up.later b8
  have T8 := Lib.hid (T6.out.later b8)
  have HB8 := Lib.hid (Below.step HB6.out b8 (Nat.le_refl _))
  have hT6 := T6.out.lt
  have hwl := HB6.out.size
  generalize w6.heap.size = LB at hL8 hlt t8 u8 hT6 hwl ⊢
  have hal9 : Below w8.heap.size w8 (w8.alloc (.cells #[.int .i64 6, .int .i64 0, .slice none 0 0, .slice (some ⟨LB, 0, none⟩) 2 2] 25)) := (Below.refl _ _).alloc (Nat.le_refl _) _
  have HX := Lib.hid (show XAt (w8.alloc (.cells #[.int .i64 6, .int .i64 0, .slice none 0 0, .slice (some ⟨LB, 0, none⟩) 2 2] 25)) w8.heap.size LB T U la lc ka kc ua uc va vc from ⟨heap_new _ _, (hal9.block _ hlt).trans hL8, t8.later hal9, u8.later hal9, hlt⟩)
  have T9 := Lib.hid (T8.out.later hal9)
  have HB9 := Lib.hid (Below.step HB8.out hal9 (Nat.le_refl _))
  clear hal hL8 hb b8 t8 u8 hal9 T8 HB8 c0 c1' c2' c3 d0 d1 d2 d3 T6 U6 HB6
  have hLT := Lib.hid hlt
  have hT9 := Lib.hid hT6
  have hWL := Lib.hid hwl
  clear hlt hT6 hwl
  go_upto_block 0 with fail
  generalize hW0 : w8.alloc (.cells #[.int .i64 6, .int .i64 0, .slice none 0 0, .slice (some ⟨LB, 0, none⟩) 2 2] 25) = W0 at HX T9 HB9 ⊢
  clear hW0
  generalize w8.heap.size = M at HX hLT ⊢
  go_cut [] from 16 to 102 (fun wx => Hid (XEnd W0 M LB wx))
  case first =>
    obtain ⟨x0, x1, x2, x3⟩ := cells4 HX.out.1
    have xf := free_of HX.out.1
    have lf := free_of HX.out.2.1
    have l0 := cell_at HX.out.2.1 0
    have l1 := cell_at HX.out.2.1 1
    have l2 := cell_at HX.out.2.1 2
    have l3 := cell_at HX.out.2.1 3
    have l4 := cell_at HX.out.2.1 4
    have l5 := cell_at HX.out.2.1 5
    have l6 := cell_at HX.out.2.1 6
    have l7 := cell_at HX.out.2.1 7
    simp at l0 l1 l2 l3 l4 l5 l6 l7
    have hc : h % 7 = 0 ∨ h % 7 = 1 ∨ h % 7 = 2 ∨ h % 7 = 3 ∨ h % 7 = 4 ∨ h % 7 = 5 ∨ h % 7 = 6 := by omega
    rcases hc with e | e | e | e | e | e | e
    · go_wp2_with fail
      go_meet
      exact Lib.hid (HX.out.way0 OKT.out OKU.out n)
    · go_wp2_with fail
      go_meet
      exact Lib.hid (HX.out.way1 OKT.out OKU.out n)
    · go_wp2_with fail
      go_meet
      exact Lib.hid (HX.out.way2 OKT.out)
    · have hb : Below W0.heap.size W0 (W0.alloc (.cells #[.int .i64 1, .int .i64 0, .slice none 0 0] 33)) := (Below.refl _ _).alloc (Nat.le_refl _) _
      have xf2 := free_of (HX.out.later hb).1
      obtain ⟨_, _, y2, _⟩ := cells4 (HX.out.later hb).1
      clear hb
      go_wp2_with fail
      go_meet
      exact Lib.hid (HX.out.way3 OKT.out OKU.out)
    · go_upto_region 16 with fail
      have hLW := Lib.hid (Nat.le_of_lt (lt_of_block HX.out.2.1))
      have HN : Hid (∀ wN : World, Below W0.heap.size W0 wN → wN.cell? ⟨M, 3, none⟩ = some (.slice (some ⟨LB, 0, none⟩) 2 2)) := Lib.hid (fun wN h => Below.keep h x3)
      refine wp_region_held_drew (S := fun w' => Hid (Below LB W0 w') ∧ w'.cell? ⟨M, 3, none⟩ = some (.slice (some ⟨LB, 0, none⟩) 2 2)) (by kernel_rfl) (⟨Lib.hid (Below.refl _ _).drew, HN.out _ (Below.refl _ _).drew⟩) (fun hH => ?_)
      try simp only [Act.put, List.setIfInBounds_toArray, List.set_cons_zero, List.set_cons_succ]
      refine wpAnyH_take (i := 0) (v := ?_) (by simp only [List.getElem?_toArray, List.getElem?_cons_zero]; rfl) (by kernel_rfl) (by kernel_rfl) (by kernel_rfl) (by intro _ _ _ h; exact h) (Or.inl ⟨by rfl, ?_⟩) hH ?_
      rotate_left
      · intro w' hSw
        obtain ⟨s0, s1⟩ := hSw
        go_simp
        try with_reducible rfl
      try simp only [Act.put, List.setIfInBounds_toArray, List.set_cons_zero, List.set_cons_succ]
      refine wpAnyH_take (i := 1) (v := ?_) (by simp only [List.getElem?_toArray, List.getElem?_cons_succ, List.getElem?_cons_zero]; rfl) (by kernel_rfl) (by kernel_rfl) (by kernel_rfl) (by intro _ _ _ h; exact h) (Or.inl ⟨by rfl, ?_⟩) hH ?_
      rotate_left
      · intro w' hSw
        obtain ⟨s0, s1⟩ := hSw
        go_simp
        try with_reducible rfl
      try simp only [Act.put, List.setIfInBounds_toArray, List.set_cons_zero, List.set_cons_succ]
      refine wpAnyH_take (i := 2) (v := ?_) (by simp only [List.getElem?_toArray, List.getElem?_cons_succ, List.getElem?_cons_zero]; rfl) (by kernel_rfl) (by kernel_rfl) (by kernel_rfl) (by intro _ _ _ h; exact h) (Or.inl ⟨by rfl, ?_⟩) hH ?_
      rotate_left
      · intro w' hSw
        obtain ⟨s0, s1⟩ := hSw
        go_simp
        try with_reducible rfl
      try simp only [Act.put, List.setIfInBounds_toArray, List.set_cons_zero, List.set_cons_succ]
      refine wpAnyH_ready (rs := [3]) (by kernel_rfl) (by simp) ?_
      refine AllReadyH.cons (o := _) (by simp only [List.getElem?_toArray, List.getElem?_cons_succ, List.getElem?_cons_zero]; rfl) (fun K hK => ?_) AllReadyH.nil
      go_simp
      go_at_call 13
      refine (tVar_any n _).mono ?_
      rintro e wA ⟨rfl, hb7⟩
      have HX0 := Lib.hid (Below.step ((Below.refl W0.heap.size W0).drew) hb7 (Nat.le_refl _))
      clear hH hb7
      refine hK.out _ _ ⟨Lib.hid (HX0.out.mono hLW.out), HN.out _ HX0.out⟩ (fun hH => ?_)
      clear hK K
      try simp only [Act.put, List.setIfInBounds_toArray, List.set_cons_zero, List.set_cons_succ]
      refine wpAnyH_take (i := 4) (v := ?_) (by simp only [List.getElem?_toArray, List.getElem?_cons_succ, List.getElem?_cons_zero]; rfl) (by kernel_rfl) (by kernel_rfl) (by kernel_rfl) (by intro _ _ _ h; exact h) (Or.inl ⟨by rfl, ?_⟩) hH ?_
      rotate_left
      · intro w' hSw
        obtain ⟨s0, s1⟩ := hSw
        go_simp
        try with_reducible rfl
      try simp only [Act.put, List.setIfInBounds_toArray, List.set_cons_zero, List.set_cons_succ]
      refine wpAnyH_ready (rs := [5]) (by kernel_rfl) (by simp) ?_
      refine AllReadyH.cons (o := _) (by simp only [List.getElem?_toArray, List.getElem?_cons_succ, List.getElem?_cons_zero]; rfl) (fun K hK => ?_) AllReadyH.nil
      have hX := HX.out.later HX0.out
      obtain ⟨_, g2, _, g3⟩ := hX.setL 4 (.int .i64 1) (.int .i64 n) (.slice none 0 0) (.slice none 0 0)
      have HS := Lib.hid (And.intro ((HX0.out.mono hLW.out).trans g3) (cells4 g2).2.2.2)
      have lf2 := free_of hX.2.1
      have k4 := cell_at hX.2.1 4
      have k5 := cell_at hX.2.1 5
      have k6 := cell_at hX.2.1 6
      have k7 := cell_at hX.2.1 7
      simp only [List.getElem?_toArray, List.getElem?_cons_zero, List.getElem?_cons_succ] at k4 k5 k6 k7
      have HWA := Lib.hid (HX.out.way4 OKT.out HX0.out n)
      clear hX hH g2 g3
      go_simp
      refine hK.out _ _ ⟨Lib.hid HS.out.1, HS.out.2⟩ (fun hH => ?_)
      clear hK K
      try simp only [Act.put, List.setIfInBounds_toArray, List.set_cons_zero, List.set_cons_succ]
      refine wpAnyH_done (by kernel_rfl) ?_ _
      clear lf2 k4 k5 k6 k7 HS
      go_wp2_with fail
      go_meet
      exact Lib.hid HWA.out
    · go_upto_region 18 with fail
      have hLW := Lib.hid (Nat.le_of_lt (lt_of_block HX.out.2.1))
      have HN : Hid (∀ wN : World, Below W0.heap.size W0 wN → wN.cell? ⟨M, 3, none⟩ = some (.slice (some ⟨LB, 0, none⟩) 2 2)) := Lib.hid (fun wN h => Below.keep h x3)
      have e1 : h.tdiv 8 = h / 8 := Int.tdiv_eq_ediv_of_nonneg hh0
      have e2 : (h / 8).tmod 2 = h / 8 % 2 := Int.tmod_eq_emod_of_nonneg (by omega)
      have HQ := Lib.hid (show (IntKind.i64.wrap ((IntKind.i64.wrap h).tdiv 8)).tmod 2 = h / 8 % 2 by rw [wrapU hh0 hh1, e1, wrapU (by omega) (by omega), e2])
      obtain ⟨L, o, hmk, hsl, hsz⟩ := mk_lv (h / 8 % 2) (by omega) W0.drew
      have HMK := Lib.hid (show (Instr.makeSlice 22 (.int .i64 (h / 8 % 2)) (.int .i64 (h / 8 % 2))).run Try.prog W0.drew = .ok (.slice (some ⟨W0.heap.size, 0, none⟩) L.len L.len) (W0.drew.alloc o) from hmk)
      have HX0 := Lib.hid (show Below W0.heap.size W0 (W0.drew.alloc o) from (Below.refl _ _).drew.alloc (Nat.le_refl _) o)
      have HWA := Lib.hid (XAt.way5 OKU.out HX.out HX0.out 3 n L (some ⟨W0.heap.size, 0, none⟩) L.len hsl hsz)
      clear e1 e2 hmk hsl hsz
      generalize W0.drew.alloc o = W7 at HMK HX0 HWA
      refine wp_region_held_drew (S := fun w' => Hid (Below LB W0 w') ∧ w'.cell? ⟨M, 3, none⟩ = some (.slice (some ⟨LB, 0, none⟩) 2 2)) (by kernel_rfl) (⟨Lib.hid (Below.refl _ _).drew, HN.out _ (Below.refl _ _).drew⟩) (fun hH => ?_)
      try simp only [Act.put, List.setIfInBounds_toArray, List.set_cons_zero, List.set_cons_succ]
      refine wpAnyH_take (i := 0) (v := ?_) (by simp only [List.getElem?_toArray, List.getElem?_cons_zero]; rfl) (by kernel_rfl) (by kernel_rfl) (by kernel_rfl) (by intro _ _ _ h; exact h) (Or.inl ⟨by rfl, ?_⟩) hH ?_
      rotate_left
      · intro w' hSw
        obtain ⟨s0, s1⟩ := hSw
        go_simp
        try with_reducible rfl
      try simp only [Act.put, List.setIfInBounds_toArray, List.set_cons_zero, List.set_cons_succ]
      refine wpAnyH_take (i := 1) (v := ?_) (by simp only [List.getElem?_toArray, List.getElem?_cons_succ, List.getElem?_cons_zero]; rfl) (by kernel_rfl) (by kernel_rfl) (by kernel_rfl) (by intro _ _ _ h; exact h) (Or.inl ⟨by rfl, ?_⟩) hH ?_
      rotate_left
      · intro w' hSw
        obtain ⟨s0, s1⟩ := hSw
        go_simp
        try with_reducible rfl
      try simp only [Act.put, List.setIfInBounds_toArray, List.set_cons_zero, List.set_cons_succ]
      refine wpAnyH_take (i := 2) (v := ?_) (by simp only [List.getElem?_toArray, List.getElem?_cons_succ, List.getElem?_cons_zero]; rfl) (by kernel_rfl) (by kernel_rfl) (by kernel_rfl) (by intro _ _ _ h; exact h) (Or.inl ⟨by rfl, ?_⟩) hH ?_
      rotate_left
      · intro w' hSw
        obtain ⟨s0, s1⟩ := hSw
        go_simp
        try with_reducible rfl
      try simp only [Act.put, List.setIfInBounds_toArray, List.set_cons_zero, List.set_cons_succ]
      refine wpAnyH_take (i := 3) (v := ?_) (by simp only [List.getElem?_toArray, List.getElem?_cons_succ, List.getElem?_cons_zero]; rfl) (by kernel_rfl) (by kernel_rfl) (by kernel_rfl) (by intro _ _ _ h; exact h) (Or.inl ⟨by rfl, ?_⟩) hH ?_
      rotate_left
      · intro w' hSw
        obtain ⟨s0, s1⟩ := hSw
        go_simp
        try with_reducible rfl
      try simp only [Act.put, List.setIfInBounds_toArray, List.set_cons_zero, List.set_cons_succ]
      refine wpAnyH_take (i := 4) (v := ?_) (by simp only [List.getElem?_toArray, List.getElem?_cons_succ, List.getElem?_cons_zero]; rfl) (by kernel_rfl) (by kernel_rfl) (by kernel_rfl) (by intro _ _ _ h; exact h) (Or.inl ⟨by rfl, ?_⟩) hH ?_
      rotate_left
      · intro w' hSw
        obtain ⟨s0, s1⟩ := hSw
        go_simp
        try with_reducible rfl
      try simp only [Act.put, List.setIfInBounds_toArray, List.set_cons_zero, List.set_cons_succ]
      refine wpAnyH_take (i := 5) (v := ?_) (by simp only [List.getElem?_toArray, List.getElem?_cons_succ, List.getElem?_cons_zero]; rfl) (by kernel_rfl) (by kernel_rfl) (by kernel_rfl) (by intro _ _ _ h; exact h) (Or.inl ⟨by rfl, ?_⟩) hH ?_
      rotate_left
      · intro w' hSw
        obtain ⟨s0, s1⟩ := hSw
        go_simp
        try with_reducible rfl
      try simp only [Act.put, List.setIfInBounds_toArray, List.set_cons_zero, List.set_cons_succ]
      refine wpAnyH_take (i := 6) (v := ?_) (by simp only [List.getElem?_toArray, List.getElem?_cons_succ, List.getElem?_cons_zero]; rfl) (by kernel_rfl) (by kernel_rfl) (by kernel_rfl) (by intro _ _ _ h; exact h) (Or.inl ⟨by rfl, ?_⟩) hH ?_
      rotate_left
      · intro w' hSw
        obtain ⟨s0, s1⟩ := hSw
        go_simp
        try with_reducible rfl
      try simp only [Act.put, List.setIfInBounds_toArray, List.set_cons_zero, List.set_cons_succ]
      refine wpAnyH_ready (rs := [7]) (by kernel_rfl) (by simp) ?_
      refine AllReadyH.cons (o := _) (by simp only [List.getElem?_toArray, List.getElem?_cons_succ, List.getElem?_cons_zero]; rfl) (fun K hK => ?_) AllReadyH.nil
      go_simp
      rw [HQ.out, HMK.out]
      go_simp
      clear hH
      refine hK.out _ _ ⟨Lib.hid (HX0.out.mono hLW.out), HN.out _ HX0.out⟩ (fun hH => ?_)
      clear hK K
      try simp only [Act.put, List.setIfInBounds_toArray, List.set_cons_zero, List.set_cons_succ]
      refine wpAnyH_take (i := 8) (v := ?_) (by simp only [List.getElem?_toArray, List.getElem?_cons_succ, List.getElem?_cons_zero]; rfl) (by kernel_rfl) (by kernel_rfl) (by kernel_rfl) (by intro _ _ _ h; exact h) (Or.inl ⟨by rfl, ?_⟩) hH ?_
      rotate_left
      · intro w' hSw
        obtain ⟨s0, s1⟩ := hSw
        go_simp
        try with_reducible rfl
      try simp only [Act.put, List.setIfInBounds_toArray, List.set_cons_zero, List.set_cons_succ]
      refine wpAnyH_take (i := 9) (v := ?_) (by simp only [List.getElem?_toArray, List.getElem?_cons_succ, List.getElem?_cons_zero]; rfl) (by kernel_rfl) (by kernel_rfl) (by kernel_rfl) (by intro _ _ _ h; exact h) (Or.inl ⟨by rfl, ?_⟩) hH ?_
      rotate_left
      · intro w' hSw
        obtain ⟨s0, s1⟩ := hSw
        go_simp
        try with_reducible rfl
      try simp only [Act.put, List.setIfInBounds_toArray, List.set_cons_zero, List.set_cons_succ]
      refine wpAnyH_ready (rs := [10]) (by kernel_rfl) (by simp) ?_
      refine AllReadyH.cons (o := _) (by simp only [List.getElem?_toArray, List.getElem?_cons_succ, List.getElem?_cons_zero]; rfl) (fun K hK => ?_) AllReadyH.nil
      have hX := HX.out.later HX0.out
      obtain ⟨_, g2, _, g3⟩ := hX.setL 0 (.int .i64 3) (.int .i64 n) (.slice (some ⟨W0.heap.size, 0, none⟩) L.len L.len) (.slice none 0 0)
      have HS := Lib.hid (And.intro ((HX0.out.mono hLW.out).trans g3) (cells4 g2).2.2.2)
      have lf2 := free_of hX.2.1
      have k0 := cell_at hX.2.1 0
      have k1 := cell_at hX.2.1 1
      have k2 := cell_at hX.2.1 2
      have k3 := cell_at hX.2.1 3
      simp only [List.getElem?_toArray, List.getElem?_cons_zero, List.getElem?_cons_succ] at k0 k1 k2 k3
      clear hX hH g2 g3
      go_simp
      refine hK.out _ _ ⟨Lib.hid HS.out.1, HS.out.2⟩ (fun hH => ?_)
      clear hK K
      try simp only [Act.put, List.setIfInBounds_toArray, List.set_cons_zero, List.set_cons_succ]
      refine wpAnyH_done (by kernel_rfl) ?_ _
      clear lf2 k0 k1 k2 k3 HS
      go_wp2_with fail
      go_meet
      exact Lib.hid HWA.out
    · have hb : Below W0.heap.size W0 (W0.alloc (.cells #[.int .i64 5, .int .i64 n, .slice none 0 0] 33)) := (Below.refl _ _).alloc (Nat.le_refl _) _
      have hn := heap_new W0 (.cells #[.int .i64 5, .int .i64 n, .slice none 0 0] 33)
      have HW6 := Lib.hid (XAt.way5 OKU.out HX.out hb 2 0 (.cons 5 n .nil .nil) (some ⟨W0.heap.size, 0, none⟩) 1 (SlIn.mk (Nat.le_refl _) (by omega) ⟨Nat.le_refl _, by simp⟩ (FoIn.push (cell_at hn 0) (cell_at hn 1) (cell_at hn 2) (SlIn.none _ _) trivial)) (by simp [Fo.size]))
      have lf2 := free_of (HX.out.later hb).2.1
      have k0 := cell_at (HX.out.later hb).2.1 0
      have k1 := cell_at (HX.out.later hb).2.1 1
      have k2 := cell_at (HX.out.later hb).2.1 2
      have k3 := cell_at (HX.out.later hb).2.1 3
      simp only [List.getElem?_toArray, List.getElem?_cons_zero, List.getElem?_cons_succ] at k0 k1 k2 k3
      clear hb hn
      go_wp2_with fail
      go_meet
      exact Lib.hid HW6.out
  case rest =>
    obtain ⟨X, xa, xc, ya, yc, smx, hbx, hbb⟩ := hcut.out
    have HBX := Lib.hid hbx
    have SMX := Lib.hid smx
    have T10 : Hid (TmBox wc w3.heap.size T la lc ka kc) := Lib.hid ⟨(hbb.block _ hT9.out).trans T9.out.1, T9.out.2.1.below (hbb.mono (Nat.le_of_lt hT9.out)), T9.out.2.2.1.below (hbb.mono (Nat.le_of_lt hT9.out)), Nat.le_trans T9.out.2.2.2 hbb.size⟩
    have HB10 := Lib.hid (HB9.out.trans (hbb.mono hWL.out))
    have HT1 := Lib.hid (fun W => told_box SMX.out (sm_of OKT.out) 1 1 xa xc ya yc la lc ka kc W.heap.size w3.heap.size W)
    have HT2 := Lib.hid (fun W => told_box (sm_of OKT.out) SMX.out 0 1 la lc ka kc xa xc ya yc w3.heap.size W.heap.size W)
    clear hcut smx hbx hbb T9 HB9 HX hLT hT9 hWL OKU
    go_wp2_with fail
    refine (awake13_any _).mono ?_
    rintro e wa ⟨rfl, hb⟩
    have HBX2 := Lib.hid (HBX.out.later hb)
    have T11 := Lib.hid (T10.out.later hb)
    have HB11 := Lib.hid (Below.step HB10.out hb (Nat.le_refl _))
    clear hb HBX T10 HB10
    obtain ⟨c0, c1', c2', c3⟩ := T11.out.cells
    obtain ⟨d0, d1, d2, d3⟩ := HBX2.out.cells
    go_wp2_with fail
    refine (HT1.out _ HBX2.out.2 T11.out.2).mono ?_
    rintro e wb ⟨rfl, hb⟩
    have HBX3 := Lib.hid (HBX2.out.later hb)
    have T12 := Lib.hid (T11.out.later hb)
    have HB12 := Lib.hid (Below.step HB11.out hb (Nat.le_refl _))
    clear hb HBX2 T11 HB11 c0 c1' c2' c3 d0 d1 d2 d3 HT1
    obtain ⟨c0, c1', c2', c3⟩ := T12.out.cells
    obtain ⟨d0, d1, d2, d3⟩ := HBX3.out.cells
    go_wp2_with fail
    refine (HT2.out _ T12.out.2 HBX3.out.2).mono ?_
    rintro e wd ⟨rfl, hb⟩
    have HB13 := Lib.hid (Below.step HB12.out hb (Nat.le_refl _))
    clear hb HBX3 T12 HB12 c0 c1' c2' c3 d0 d1 d2 d3 HT2
    go_wp2_with fail
    go_ret
    exact ⟨rfl, HB13.out⟩
end Go.Proofs.Ytokckghedpdfiaa.termMade
namespace Go.Proofs.Ytokckghedpdfiaa.termMade
open Go.ChangeShapes Go.WideShapes Go.ChangeAt Go.RowKit

theorem own : ownKnob Try.prog.godebug = none := by kernel_rfl
set_option maxRecDepth 100000 in
theorem lifted (os : Os) (started : os.Started) (H : Type) (enc : TypeId × Value → H) :
    ReturnsInHanded {} Try.checked os 4 .any (Rows.termMadeSpec.pre6 enc Try.prog Try.f4 Rows.termMadeRow.domain false) (Rows.termMadeSpec.post enc Try.prog Try.f4 false true false false) := by
  refine returnsInHanded_of_change (C := Try.checked) own started (by kernel_rfl) Try.func4
    (ChangeSpec.witness6 (enc := enc) (C := Try.checked) false ⟨#[], #[.slice none 0 0, .slice none 0 0, .int .u8 0, .int .u8 0, .int .u8 0, .int .i64 0], []⟩ 8 (by kernel_rfl) (by kernel_rfl) (by kernel_rfl) (by kernel_rfl)) ?_
  intro W base args ds gs before hval0 hW hcnd _
  have hval : ∀ (j : Nat) t v, Try.f4.params[j]? = some t → args[j]? = some v → Value.okWide Try.prog W .any base t v := hval0
  have hW' := hW
  obtain ⟨p, q, hA0, hV, rfl, hfz, hnd⟩ := hW
  have hA : DataW.TrodAll enc Try.prog W 0 (fun _ => true) true Try.f4.params.toList args.toList ds p := hA0
  rw [Try.params4] at hA hval
  obtain ⟨v0, vs0, d0, ds0, p0, q0, hargs, rfl, rfl, h0, hr0⟩ := trodAll_cons hA
  obtain ⟨v1, vs1, d1, ds1, p1, q1, rfl, rfl, rfl, h1, hr1⟩ := trodAll_cons hr0
  obtain ⟨v2, vs2, d2, ds2, p2, q2, rfl, rfl, rfl, h2, hr2⟩ := trodAll_cons hr1
  obtain ⟨v3, vs3, d3, ds3, p3, q3, rfl, rfl, rfl, h3, hr3⟩ := trodAll_cons hr2
  obtain ⟨v4, vs4, d4, ds4, p4, q4, rfl, rfl, rfl, h4, hr4⟩ := trodAll_cons hr3
  obtain ⟨v5, vs5, d5, ds5, p5, q5, rfl, rfl, rfl, h5, hr5⟩ := trodAll_cons hr4
  obtain ⟨rfl, rfl, rfl⟩ := trodAll_nil hr5
  obtain rfl : args = #[v0, v1, v2, v3, v4, v5] := by cases args; simp_all
  obtain ⟨rfl, rfl⟩ := trodVars_none hV
  obtain ⟨n1, a1, c1, rfl, i1⟩ := arg_bytes (hval 0 29 v0 rfl rfl) h0
  obtain ⟨n2, a2, c2, rfl, i2⟩ := arg_bytes (hval 1 29 v1 rfl rfl) h1
  obtain ⟨N, rfl, rfl, rfl, w2⟩ := open_int Try.underlying5 (hval 2 5 v2 rfl rfl) h2
  obtain ⟨M, rfl, rfl, rfl, w3⟩ := open_int Try.underlying5 (hval 3 5 v3 rfl rfl) h3
  obtain ⟨K, rfl, rfl, rfl, w4⟩ := open_int Try.underlying5 (hval 4 5 v4 rfl rfl) h4
  obtain ⟨X, rfl, rfl, rfl, w5⟩ := open_int Try.underlying3 (hval 5 3 v5 rfl rfl) h5
  have hN := u8_range w2
  have hM := u8_range w3
  have hK := u8_range w4
  have hlt := hW'.lt
  refine (walk N M K X hN.1 hN.2 hM.1 hM.2 hK.1 hK.2 n1 c1 n2 c2 a1 a2 W i1 i2).mono fun e W' ⟨he, hb⟩ => ?_
  subst he
  have t0 := Below.trod laidOut (by kernel_rfl) (of_decide_eq_true (by kernel_rfl)) h0 hb (fun x hx => hlt x (by simp [hx]))
  have t1 := Below.trod laidOut (by kernel_rfl) (of_decide_eq_true (by kernel_rfl)) h1 hb (fun x hx => hlt x (by simp [hx]))
  exact ⟨_, rfl, ⟨_, _, _, [], _, [], hW', trodAll_mk1 (shut_bool Try.underlying4 _), ⟨_, _, t0, ⟨_, _, t1, trodAll_mk4 (shut_int Try.underlying5 w2) (shut_int Try.underlying5 w3) (shut_int Try.underlying5 w4) (shut_int Try.underlying3 w5), rfl⟩, rfl⟩, rfl, hb.frame _, fun h => by cases h⟩⟩

theorem over : Rows.termMadeRow.holds Try.pinned (OpenSpec.ofChange Rows.termMadeSpec) :=
  OpenClaim.holds_of_wide 4 Try.f4 rfl rfl rfl rfl rfl rfl rfl ⟨rfl, rfl, rfl, rfl, rfl⟩ rfl rfl rfl rfl rfl (by kernel_rfl) Try.func4 (by kernel_rfl)
    (of_decide_eq_true (by kernel_rfl)) (by unfold Func.isWrapper; first | (rw [if_pos (by decide +kernel)]; kernel_rfl) | (rw [if_neg (by decide +kernel)]; exact ⟨rfl, rfl⟩))
    (fun os started H enc _ => lifted os started H enc)

/-- THE STATEMENT -/
theorem proved : Rows.TermMadeSaid :=
  over
#print axioms proved
end Go.Proofs.Ytokckghedpdfiaa.termMade
