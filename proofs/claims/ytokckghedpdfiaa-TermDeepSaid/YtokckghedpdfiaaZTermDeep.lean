/- For all numbers the law TermDeep returns true: what is told of terms that are deep, or have many others, or variables that are great, is what the document says. No condition. -/
import Derived.Test.YtokckghedpdfiaaTopenarg
import Derived.Test.YtokckghedpdfiaaMaker
import Derived.Test.YtokckghedpdfiaaTawake
import Derived.Test.YtokckghedpdfiaaTterm
import Derived.IntWalk
import Derived.Test.YtokckghedpdfiaaHeldL
import Derived.Deep.CutBlock
import Derived.Carry
namespace Go.Proofs.Ytokckghedpdfiaa
open Go.ChangeShapes Go.WideShapes Go.ChangeAt Go.RowKit
theorem u8_range {a : Int} (w0 : (Lit.int .u8 a).wf = true) : 0 ≤ a ∧ a < 256 := by
  have e1 : IntKind.u8.min = 0 := rfl
  have e2 : IntKind.u8.max = 255 := rfl
  simp only [Lit.wf, e1, e2, Bool.and_eq_true, decide_eq_true_eq] at w0
  omega
section
variable {H : Type} {enc : TypeId × Value → H} {W : World} {base : Nat} {spare : Nat → Bool} {held : Bool}
theorem arg_nums {q : IntKind} {ty el : TypeId} (ht : Try.prog.underlying ty = some (.slice el)) (he : Try.prog.underlying el = some (.int q)) (hc : Try.prog.cellsOf el = 1) {r : Reach} {b0 : Nat} {v : Value} {d : DataW H} {p : List MemPlace} (hv : Value.okWide Try.prog W r b0 ty v) (h : DataW.Trod enc Try.prog W base spare held ty v d p) :
    ∃ (l : List Int) (a : Option Addr) (cap : Nat), v = .slice a l.length cap ∧ l.length ≤ cap ∧ cap ≤ maxLen ∧ (a = none → cap = 0) ∧ (∀ z ∈ l, (Lit.int q z).wf = true) ∧ (0 < l.length → ∃ b o, a = some ⟨b, o, none⟩ ∧ b < W.heap.size ∧ ∀ i, i < l.length → W.cell? ⟨b, o + i, none⟩ = some (.int q (l.getD i 0))) := by
  obtain ⟨a, len, cap, rfl⟩ := okWide_slice ht hv
  obtain ⟨fuel, hf⟩ := h
  rcases open_ints ht he hc hf with ⟨hcs, _⟩ | ⟨a', len', cap', zs, hcs, _, hl, hm, hz, _, hcell, hwf⟩
  · have hcs' : a = none ∧ len = 0 ∧ cap = 0 := by simpa [Value.cells] using hcs
    obtain ⟨rfl, rfl, rfl⟩ := hcs'
    exact ⟨[], none, 0, rfl, Nat.le_refl _, Nat.zero_le _, fun _ => rfl, by simp, by simp⟩
  · have hcs' : a = some a' ∧ len = len' ∧ cap = cap' := by simpa [Value.cells] using hcs
    obtain ⟨rfl, rfl, rfl⟩ := hcs'
    have hzl : len ≤ zs.length := by rw [hz]; split <;> omega
    have hlen : (zs.take len).length = len := by simp; omega
    refine ⟨zs.take len, some a', cap, by rw [hlen], by omega, hm, (fun h => by cases h), fun z hz => hwf z (List.mem_of_mem_take hz), fun h0 => ?_⟩
    rw [hlen] at h0 ⊢
    have hget : ∀ i, i < len → (zs.take len).getD i 0 = zs.getD i 0 := fun i hi => by simp [List.getD_eq_getElem?_getD, hi]
    have q0 := hcell 0 (by omega)
    have hsp : a'.spot = none := by
      cases hs : a'.spot with
      | none => rfl
      | some y => exfalso; simp [Addr.add, World.cell?, hs] at q0; split at q0 <;> simp at q0
    obtain ⟨b, o, sp⟩ := a'
    have hsp' : sp = none := hsp
    subst hsp'
    have hadd : ∀ m, (⟨b, o, none⟩ : Addr).add m = ⟨b, o + m, none⟩ := fun m => by unfold Addr.add; split <;> simp_all
    simp only [hadd] at hcell
    refine ⟨b, o, rfl, World.block_lt_of_cell? _ _ (hcell 0 (by omega)), fun i hi => ?_⟩
    rw [hget i hi]
    exact hcell i (by omega)
theorem arg_bytes {r : Reach} {b0 : Nat} {v : Value} {d : DataW H} {p : List MemPlace} (hv : Value.okWide Try.prog W r b0 29 v) (h : DataW.Trod enc Try.prog W base spare held 29 v d p) :
    ∃ (len : Nat) (a : Option Addr) (cap : Nat), v = .slice a len cap ∧ U8In W (· < W.heap.size) len a cap := by
  obtain ⟨l, a, cap, h1, h2, h3, h4, hwf, h5⟩ := arg_nums Try.underlying29 Try.underlying5 cellsU8 hv h
  refine ⟨l.length, a, cap, h1, h2, h3, h4, fun h0 => ?_⟩
  obtain ⟨b, o, ha, hb, hc⟩ := h5 h0
  refine ⟨b, o, ha, hb, fun i hi => ?_⟩
  have hm : l.getD i 0 ∈ l := by
    have e : l.getD i 0 = l[i] := by simp [List.getD_eq_getElem?_getD, hi]
    rw [e]; exact List.getElem_mem hi
  have := u8_range (hwf _ hm)
  exact ⟨_, this.1, this.2, hc i hi⟩
end
end Go.Proofs.Ytokckghedpdfiaa
namespace Go.Proofs.Ytokckghedpdfiaa
open Go.RowKit

def BoxAt (W : World) (M : Nat) (T : Tm) (la : Option Addr) (lc : Nat) (ka : Option Addr) (kc : Nat) : Prop := W.heap[M]? = some (.cells #[.int .i64 T.k, .int .i64 T.n, .slice la T.ls.len lc, .slice ka T.ks.len kc] 25 (0, 0)) ∧ TmIn W W.heap.size T la lc ka kc
theorem TmIn.up {W : World} {B : Nat} {T : Tm} {la : Option Addr} {lc : Nat} {ka : Option Addr} {kc : Nat} (h : TmIn W B T la lc ka kc) : TmIn W W.heap.size T la lc ka kc := ⟨h.1.mono h.2.2, h.2.1.mono h.2.2, Nat.le_refl _⟩
theorem BoxAt.later {W W' : World} {M : Nat} {T : Tm} {la : Option Addr} {lc : Nat} {ka : Option Addr} {kc : Nat} (h : BoxAt W M T la lc ka kc) (hb : Below W.heap.size W W') : BoxAt W' M T la lc ka kc :=
  ⟨(hb.block _ (lt_of_block h.1)).trans h.1, (h.2.later hb).up⟩
theorem TmBox.at {W : World} {M : Nat} {T : Tm} {la : Option Addr} {lc : Nat} {ka : Option Addr} {kc : Nat} (h : TmBox W M T la lc ka kc) : BoxAt W M T la lc ka kc := ⟨h.1, h.2.up⟩
theorem BoxAt.cells {W : World} {M : Nat} {T : Tm} {la : Option Addr} {lc : Nat} {ka : Option Addr} {kc : Nat} (h : BoxAt W M T la lc ka kc) : W.cell? ⟨M, 0, none⟩ = some (.int .i64 T.k) ∧ W.cell? ⟨M, 1, none⟩ = some (.int .i64 T.n) ∧ W.cell? ⟨M, 2, none⟩ = some (.slice la T.ls.len lc) ∧ W.cell? ⟨M, 3, none⟩ = some (.slice ka T.ks.len kc) := cells4 h.1
/-- A term that does not lie in the block M. -/
def OffIn (W : World) (M : Nat) (T : Tm) (la : Option Addr) (lc : Nat) (ka : Option Addr) (kc : Nat) : Prop := SlIn W (fun b => b ≠ M ∧ b < W.heap.size) T.ls la lc ∧ TlIn W (fun b => b ≠ M ∧ b < W.heap.size) T.ks ka kc
theorem OffIn.old {W : World} {M lo : Nat} {T : Tm} {la : Option Addr} {lc : Nat} {ka : Option Addr} {kc : Nat} (hl : SlIn W (fun b => lo ≤ b ∧ b < W.heap.size) T.ls la lc) (hk : TlIn W (fun b => lo ≤ b ∧ b < W.heap.size) T.ks ka kc) (hM : M < lo) : OffIn W M T la lc ka kc :=
  ⟨hl.weak (fun b h => ⟨by omega, h.2⟩), hk.weak (fun b h => ⟨by omega, h.2⟩)⟩
theorem OffIn.new {W : World} {T : Tm} {la : Option Addr} {lc : Nat} {ka : Option Addr} {kc : Nat} (h : TmIn W W.heap.size T la lc ka kc) (o : Obj) : OffIn (W.alloc o) W.heap.size T la lc ka kc := by
  have hb := h.later ((Below.refl _ _).alloc (Nat.le_refl _) o)
  exact ⟨hb.1.weak (fun b hx => ⟨Nat.ne_of_lt hx, by simp; exact Nat.lt_succ_of_lt hx⟩), hb.2.1.weak (fun b hx => ⟨Nat.ne_of_lt hx, by simp; exact Nat.lt_succ_of_lt hx⟩)⟩
/-- A term stored into a variable. -/
theorem box_set {W : World} {M : Nat} {T : Tm} {la : Option Addr} {lc : Nat} {ka : Option Addr} {kc : Nat} {x y z u : Value} (hz : W.heap[M]? = some (.cells #[x, y, z, u] 25 (0, 0))) (h : OffIn W M T la lc ka kc) :
    BoxAt ((((W.setCell ⟨M, 0, none⟩ (.int .i64 T.k)).setCell ⟨M, 1, none⟩ (.int .i64 T.n)).setCell ⟨M, 2, none⟩ (.slice la T.ls.len lc)).setCell ⟨M, 3, none⟩ (.slice ka T.ks.len kc)) M T la lc ka kc := by
  have hg := set4_only (w := W) M (.int .i64 T.k) (.int .i64 T.n) (.slice la T.ls.len lc) (.slice ka T.ks.len kc)
  refine ⟨?_, (h.1.keep (fun b hb => Only.block hg hb.2 hb.1)).weak (fun b hb => Nat.lt_of_lt_of_le hb.2 hg.size), h.2.turn (fun b hb => Only.block hg hb.2 hb.1) (fun b hb => Nat.lt_of_lt_of_le hb.2 hg.size), Nat.le_refl _⟩
  have h1 := heap_setCell_same W M 0 _ _ (.int .i64 T.k) hz
  have h2 := heap_setCell_same _ M 1 _ _ (.int .i64 T.n) h1
  have h3 := heap_setCell_same _ M 2 _ _ (.slice la T.ls.len lc) h2
  have h4 := heap_setCell_same _ M 3 _ _ (.slice ka T.ks.len kc) h3
  exact h4
theorem box_below {a W : World} {B M : Nat} (h : Below B a W) (hM : B ≤ M) (x y z u : Value) : Below B a ((((W.setCell ⟨M, 0, none⟩ x).setCell ⟨M, 1, none⟩ y).setCell ⟨M, 2, none⟩ z).setCell ⟨M, 3, none⟩ u) := (((h.setCell hM x).setCell hM y).setCell hM z).setCell hM u
/-- A variable of the type Term that holds nothing yet. -/
def ZAt (W : World) (B M : Nat) : Prop := B ≤ M ∧ W.heap[M]? = some (.cells #[.int .i64 0, .int .i64 0, .slice none 0 0, .slice none 0 0] 25 (0, 0))
theorem ZAt.later {W W' : World} {B M : Nat} (h : ZAt W B M) (hb : Below W.heap.size W W') : ZAt W' B M := ⟨h.1, (hb.block _ (lt_of_block h.2)).trans h.2⟩
theorem ZAt.lt {W : World} {B M : Nat} (h : ZAt W B M) : M < W.heap.size := lt_of_block h.2
theorem ZAt.new {W : World} {B : Nat} (h : B ≤ W.heap.size) : ZAt (W.alloc (.cells #[.int .i64 0, .int .i64 0, .slice none 0 0, .slice none 0 0] 25)) B W.heap.size := ⟨h, heap_new _ _⟩
/-- Two terms that the law writes out itself. -/
theorem lit_two {W : World} {N M : Nat} {s t : Tm} {la ka lb kb : Option Addr} {lc kc ld kd : Nat} (h : TmIn W N s la lc ka kc) (h' : TmIn W M t lb ld kb kd) :
    LitIn (W.alloc (.cells #[.int .i64 s.k, .int .i64 s.n, .slice la s.ls.len lc, .slice ka s.ks.len kc, .int .i64 t.k, .int .i64 t.n, .slice lb t.ls.len ld, .slice kb t.ks.len kd] 25)) W.heap.size (s.to (t.to .nil)) := by
  have hb : Below W.heap.size W (W.alloc (.cells #[.int .i64 s.k, .int .i64 s.n, .slice la s.ls.len lc, .slice ka s.ks.len kc, .int .i64 t.k, .int .i64 t.n, .slice lb t.ls.len ld, .slice kb t.ks.len kd] 25)) := (Below.refl _ _).alloc (Nat.le_refl _) _
  have h2 := heap_new W (.cells #[.int .i64 s.k, .int .i64 s.n, .slice la s.ls.len lc, .slice ka s.ks.len kc, .int .i64 t.k, .int .i64 t.n, .slice lb t.ls.len ld, .slice kb t.ks.len kd] 25)
  have e : ∀ x, x ≤ W.heap.size → x ≤ W.heap.size + 1 := fun x h => by omega
  exact ⟨TlIn.mk (Nat.le_refl _) (by omega) (Nat.lt_succ_self _) (FtIn.push (cell_at h2 0) (cell_at h2 1) (cell_at h2 2) ((h.1.below (hb.mono h.2.2)).mono (e _ h.2.2)) (cell_at h2 3) ((h.2.1.below (hb.mono h.2.2)).mono (e _ h.2.2)) (FtIn.push (cell_at h2 4) (cell_at h2 5) (cell_at h2 6) ((h'.1.below (hb.mono h'.2.2)).mono (e _ h'.2.2)) (cell_at h2 7) ((h'.2.1.below (hb.mono h'.2.2)).mono (e _ h'.2.2)) trivial)), by simp⟩
/-- The Sort of the level Zero, made by the law. -/
def sZ : Tm := ⟨2, 0, .cons 1 0 .nil .nil, .nil⟩
theorem sort_new (W : World) : Calls Try.prog 18 #[.agg #[.int .i64 1, .int .i64 0, .slice none 0 0]] W fun e w' => ∃ x, e = .returned (.agg #[.int .i64 2, .int .i64 0, .slice x 1 1, .slice none 0 0]) ∧ TmIn w' w'.heap.size sZ x 1 none 0 ∧ Below W.heap.size W w' := by
  refine (tSort_in 1 0 .nil none 0 W.heap.size W (SlIn.none _ _) (Nat.le_refl _)).mono ?_
  rintro e w' ⟨x, rfl, h, hb⟩
  exact ⟨x, rfl, ⟨h.weak (fun _ h => h.2), TlIn.none _ _, Nat.le_refl _⟩, hb⟩
theorem Below.keep {W W' : World} (hb : Below W.heap.size W W') {p : Addr} {v : Value} (h : W.cell? p = some v) : W'.cell? p = some v := (hb.cell (World.block_lt_of_cell? W p h)).trans h
/-- The second part of a binder that the law wrote. -/
theorem kid_two {W : World} {s t : Tm} {x : Option Addr} {c B : Nat} (h : TlIn W (· < B) (s.to (t.to .nil)) x c) : ∃ b o, x = some ⟨b, o, none⟩ ∧ ∃ (la : Option Addr) (lc : Nat) (ka : Option Addr) (kc : Nat), (W.cell? ⟨b, o + 4, none⟩ = some (.int .i64 t.k) ∧ W.cell? ⟨b, o + 4 + 1, none⟩ = some (.int .i64 t.n) ∧ W.cell? ⟨b, o + 4 + 2, none⟩ = some (.slice la t.ls.len lc) ∧ W.cell? ⟨b, o + 4 + 3, none⟩ = some (.slice ka t.ks.len kc)) ∧ SlIn W (· < B) t.ls la lc ∧ TlIn W (· < B) t.ks ka kc := by
  obtain ⟨b, o, hx, hP, hf⟩ := h.some (by simp [Tm.to, Ft.len])
  obtain ⟨_, _, _, _, hr⟩ := hf
  obtain ⟨k0, k1, ⟨la, lc, k2, hl⟩, ⟨ka, kc, k3, hk1, hk2, hk3, hk4⟩, _⟩ := hr
  exact ⟨b, o, hx, la, lc, ka, kc, ⟨k0, k1, k2, k3⟩, hl, hk1, hk2, hk3, hk4⟩
end Go.Proofs.Ytokckghedpdfiaa
namespace Go.Proofs.Ytokckghedpdfiaa
open Go.RowKit

/-- A term of few parts, without levels. -/
def Fw (T : Tm) (m : Nat) : Prop := T.ks.size ≤ m ∧ T.ks.lvsz 0 ∧ T.ls.size ≤ 0
theorem Fw.var (n : Int) : Fw (tV n) 0 := ⟨Nat.le_refl _, trivial, Nat.le_refl _⟩
theorem Fw.two {A C : Tm} {m k : Nat} (q : Int) (hA : Fw A m) (hC : Fw C k) : Fw ⟨q, 0, .nil, A.to (C.to .nil)⟩ (m + k + 2) := by
  have := hA.1
  have := hC.1
  refine ⟨?_, ⟨hA.2.2, hA.2.1, hC.2.2, hC.2.1, trivial⟩, Nat.le_refl _⟩
  simp only [Tm.to, Ft.size]; omega
theorem Fw.sm {T : Tm} {m : Nat} (h : Fw T m) (hm : m ≤ 1000000) : smT T := ⟨Nat.le_trans h.1 hm, Ft.lvsz_mono (Nat.zero_le _) h.2.1, Nat.le_trans h.2.2 (Nat.zero_le _)⟩
/-- The term in the variable at the block B. -/
def DpAt (W : World) (B : Nat) (T : Tm) (la : Option Addr) (lc : Nat) (ka : Option Addr) (kc : Nat) : Prop := W.heap[B]? = some (.cells #[.int .i64 T.k, .int .i64 T.n, .slice la T.ls.len lc, .slice ka T.ks.len kc] 25 (0, 0)) ∧ OffIn W B T la lc ka kc
section
variable {W W' : World} {B : Nat} {T A C : Tm} {la : Option Addr} {lc : Nat} {ka : Option Addr} {kc : Nat} {lb : Option Addr} {ld : Nat} {kb : Option Addr} {kd : Nat}
theorem OffIn.later (h : OffIn W B T la lc ka kc) (hb : Below W.heap.size W W') : OffIn W' B T la lc ka kc :=
  ⟨(h.1.keep (fun b hx => hb.block b hx.2)).weak (fun _ hx => ⟨hx.1, Nat.lt_of_lt_of_le hx.2 hb.size⟩), h.2.turn (fun b hx => hb.block b hx.2) (fun _ hx => ⟨hx.1, Nat.lt_of_lt_of_le hx.2 hb.size⟩)⟩
theorem OffIn.var (W : World) (B : Nat) (n : Int) : OffIn W B (tV n) none 0 none 0 := ⟨SlIn.none _ _, TlIn.none _ _⟩
theorem OffIn.tm (h : OffIn W B T la lc ka kc) : TmIn W W.heap.size T la lc ka kc := ⟨h.1.weak (fun _ h => h.2), h.2.weak (fun _ h => h.2), Nat.le_refl _⟩
theorem DpAt.later (h : DpAt W B T la lc ka kc) (hb : Below W.heap.size W W') : DpAt W' B T la lc ka kc := ⟨(hb.block _ (lt_of_block h.1)).trans h.1, h.2.later hb⟩
theorem DpAt.cells (h : DpAt W B T la lc ka kc) : W.cell? ⟨B, 0, none⟩ = some (.int .i64 T.k) ∧ W.cell? ⟨B, 1, none⟩ = some (.int .i64 T.n) ∧ W.cell? ⟨B, 2, none⟩ = some (.slice la T.ls.len lc) ∧ W.cell? ⟨B, 3, none⟩ = some (.slice ka T.ks.len kc) := cells4 h.1
theorem DpAt.new (W : World) (n : Int) : DpAt (W.alloc (.cells #[.int .i64 1, .int .i64 n, .slice none 0 0, .slice none 0 0] 25)) W.heap.size (tV n) none 0 none 0 := ⟨heap_new _ _, OffIn.var _ _ _⟩
/-- A term stored into the variable. -/
theorem dp_set {x y z u : Value} (hz : W.heap[B]? = some (.cells #[x, y, z, u] 25 (0, 0))) (h : OffIn W B T la lc ka kc) :
    DpAt ((((W.setCell ⟨B, 0, none⟩ (.int .i64 T.k)).setCell ⟨B, 1, none⟩ (.int .i64 T.n)).setCell ⟨B, 2, none⟩ (.slice la T.ls.len lc)).setCell ⟨B, 3, none⟩ (.slice ka T.ks.len kc)) B T la lc ka kc := by
  have hg := set4_only (w := W) B (.int .i64 T.k) (.int .i64 T.n) (.slice la T.ls.len lc) (.slice ka T.ks.len kc)
  exact ⟨(box_set hz h).1, (h.1.keep (fun b hb => Only.block hg hb.2 hb.1)).weak (fun b hb => ⟨hb.1, Nat.lt_of_lt_of_le hb.2 hg.size⟩), h.2.turn (fun b hb => Only.block hg hb.2 hb.1) (fun b hb => ⟨hb.1, Nat.lt_of_lt_of_le hb.2 hg.size⟩)⟩
theorem dp_put {x y z u : Value} {a : Nat} {w : World} (hz : W.heap[B]? = some (.cells #[x, y, z, u] 25 (0, 0))) (h : OffIn W B T la lc ka kc) (hb : Below a w W) (ha : a ≤ B) :
    DpAt ((((W.setCell ⟨B, 0, none⟩ (.int .i64 T.k)).setCell ⟨B, 1, none⟩ (.int .i64 T.n)).setCell ⟨B, 2, none⟩ (.slice la T.ls.len lc)).setCell ⟨B, 3, none⟩ (.slice ka T.ks.len kc)) B T la lc ka kc ∧
    Below a w ((((W.setCell ⟨B, 0, none⟩ (.int .i64 T.k)).setCell ⟨B, 1, none⟩ (.int .i64 T.n)).setCell ⟨B, 2, none⟩ (.slice la T.ls.len lc)).setCell ⟨B, 3, none⟩ (.slice ka T.ks.len kc)) :=
  ⟨dp_set hz h, box_below hb ha _ _ _ _⟩
/-- The first part of a term of two. -/
theorem kid_first {P : Nat → Prop} {x : Option Addr} {c : Nat} (h : TlIn W P (A.to (C.to .nil)) x c) : ∃ b o, x = some ⟨b, o, none⟩ ∧ ∃ (la : Option Addr) (lc : Nat) (ka : Option Addr) (kc : Nat), (W.cell? ⟨b, o, none⟩ = some (.int .i64 A.k) ∧ W.cell? ⟨b, o + 1, none⟩ = some (.int .i64 A.n) ∧ W.cell? ⟨b, o + 2, none⟩ = some (.slice la A.ls.len lc) ∧ W.cell? ⟨b, o + 3, none⟩ = some (.slice ka A.ks.len kc)) ∧ SlIn W P A.ls la lc ∧ TlIn W P A.ks ka kc := by
  obtain ⟨b, o, hx, _, hf⟩ := h.some (by simp [Tm.to, Ft.len])
  obtain ⟨k0, k1, ⟨la, lc, k2, hl⟩, ⟨ka, kc, k3, hk1, hk2, hk3, hk4⟩, _⟩ := hf
  exact ⟨b, o, hx, la, lc, ka, kc, ⟨k0, k1, k2, k3⟩, hl, hk1, hk2, hk3, hk4⟩
/-- The literal of two terms: it does not lie in the variable. -/
theorem lit_off (hB : B < W.heap.size) (h : OffIn W B A la lc ka kc) (h' : OffIn W B C lb ld kb kd) (q : Int) :
    OffIn (W.alloc (.cells #[.int .i64 A.k, .int .i64 A.n, .slice la A.ls.len lc, .slice ka A.ks.len kc, .int .i64 C.k, .int .i64 C.n, .slice lb C.ls.len ld, .slice kb C.ks.len kd] 25)) B ⟨q, 0, .nil, A.to (C.to .nil)⟩ none 0 (some ⟨W.heap.size, 0, none⟩) 2 := by
  have hb : Below W.heap.size W (W.alloc (.cells #[.int .i64 A.k, .int .i64 A.n, .slice la A.ls.len lc, .slice ka A.ks.len kc, .int .i64 C.k, .int .i64 C.n, .slice lb C.ls.len ld, .slice kb C.ks.len kd] 25)) := (Below.refl _ _).alloc (Nat.le_refl _) _
  have h2 := heap_new W (.cells #[.int .i64 A.k, .int .i64 A.n, .slice la A.ls.len lc, .slice ka A.ks.len kc, .int .i64 C.k, .int .i64 C.n, .slice lb C.ls.len ld, .slice kb C.ks.len kd] 25)
  exact ⟨SlIn.none _ _, TlIn.mk (Nat.le_refl _) (by omega) ⟨Nat.ne_of_gt hB, lt_of_block h2⟩ (FtIn.push (cell_at h2 0) (cell_at h2 1) (cell_at h2 2) (h.later hb).1 (cell_at h2 3) (h.later hb).2 (FtIn.push (cell_at h2 4) (cell_at h2 5) (cell_at h2 6) (h'.later hb).1 (cell_at h2 7) (h'.later hb).2 trivial))⟩
end
end Go.Proofs.Ytokckghedpdfiaa
namespace Go.Proofs.Ytokckghedpdfiaa
open Go

section
variable {P : Program} {ops : Array Oper} {Q : Exit → Act → World → Prop} {md : Region.Mode} {S : World → Prop} {m : Nat}
/-- Each of the operations comes up next; behind it S holds. -/
def AllReadyL (P : Program) (md : Region.Mode) (ops : Array Oper) (Q : Exit → Act → World → Prop) (S : World → Prop) (m fuel : Nat) (listed : Array Bool) (a : Act) (w : World) (rs : List Nat) : Prop :=
  ∀ i ∈ rs, wpOp P ops Q i (fun a' w' => (i ≠ m → S w') ∧ wpAnyL P md ops Q S m fuel (listed.setIfInBounds i true) a' w') a w
theorem AllReadyL.nil {fuel : Nat} {listed : Array Bool} {a : Act} {w : World} : AllReadyL P md ops Q S m fuel listed a w [] := fun _ h => by cases h
theorem AllReadyL.cons {fuel : Nat} {listed : Array Bool} {a : Act} {w : World} {i : Nat} {o : Oper} {rs : List Nat} (ho : ops[i]? = some o)
    (h : ∀ K' : Act → World → Prop, Shut (∀ a w, S w → (S w → wpAnyL P md ops Q S m fuel (listed.setIfInBounds i true) a w) → K' a w) → if Region.wanted o (yielded ops a.tmps) = true then Oper.wp P o a w K' Q else K' (a.put o.dst undef) w)
    (hs : AllReadyL P md ops Q S m fuel listed a w rs) : AllReadyL P md ops Q S m fuel listed a w (i :: rs) := fun j hj => by
  rcases List.mem_cons.1 hj with rfl | hj
  · exact wpOp_step ho (fun K' hK => h K' (fun a w hS hW => hK a w ⟨fun _ => hS, hW hS⟩))
  · exact hs j hj
theorem wpAnyL_ready {rs : List Nat} {fuel : Nat} {listed : Array Bool} {a : Act} {w : World} (hr : Region.ready md ops listed = rs) (hne : rs ≠ [])
    (h : AllReadyL P md ops Q S m fuel listed a w rs) : wpAnyL P md ops Q S m (fuel + 1) listed a w :=
  ⟨fun h0 => absurd (hr.symm.trans h0) hne, fun j hj => h j (by rw [← hr]; exact hj)⟩
end
end Go.Proofs.Ytokckghedpdfiaa
namespace Go.Proofs.Ytokckghedpdfiaa.termDeep
open Go.RowKit

theorem told_tm {T U : Tm} (hT : smT T) (hU : smT U) (fr by' : Int) {la : Option Addr} {lc : Nat} {ka : Option Addr} {kc : Nat} {lb : Option Addr} {ld : Nat} {kb : Option Addr} {kd : Nat} {N M : Nat} {W : World} (p : TmIn W N T la lc ka kc) (q : TmIn W M U lb ld kb kd) :
    Calls Try.prog 10 #[.agg #[.int .i64 T.k, .int .i64 T.n, .slice la T.ls.len lc, .slice ka T.ks.len kc], .agg #[.int .i64 U.k, .int .i64 U.n, .slice lb U.ls.len ld, .slice kb U.ks.len kd], .int .i64 fr, .int .i64 by'] W fun e w' => e = .returned (.bool true) ∧ Below W.heap.size W w' :=
  told13_any T U fr by' la ka lb kb lc kc ld kd W p.up q.up hT hU
theorem tv_in (W : World) (n : Int) : TmIn W W.heap.size (tV n) none 0 none 0 := ⟨SlIn.none _ _, TlIn.none _ _, Nat.le_refl _⟩
theorem wrapU {z : Int} (h0 : 0 ≤ z) (h1 : z < 256) : IntKind.i64.wrap z = z := IntWalk.i64_in _ (by omega)
/-- What stands in the variable behind each round. -/
def DpR (w : World) (B : Nat) (wr : World) (T : Tm) (la : Option Addr) (lc : Nat) (ka : Option Addr) (kc m : Nat) : Prop := DpAt wr B T la lc ka kc ∧ Below w.heap.size w wr ∧ Fw T m

set_option maxRecDepth 100000 in
set_option maxHeartbeats 16000000 in
theorem walk (n h : Int) (hn0 : 0 ≤ n) (hn1 : n < 256) (hh0 : 0 ≤ h) (hh1 : h < 256) (w : World) :
    Calls Try.prog 5 #[.int .u8 n, .int .u8 h] w fun e w' => e = .returned (.bool true) ∧ Below w.heap.size w w' := by
  go_enter Try.func5, Try.ntmps5
  go_wp2_with fail
  refine (tVar_any 0 _).mono ?_
  rintro e w1 ⟨rfl, hb⟩
  have HDP0 := Lib.hid (DpAt.new w1 0)
  have hWB := Lib.hid hb.size
  have HBW0 := Lib.hid (hb.alloc hb.size (.cells #[.int .i64 1, .int .i64 0, .slice none 0 0, .slice none 0 0] 25))
  clear hb
  go_upto_block 0 with fail
  generalize w1.alloc (.cells #[.int .i64 1, .int .i64 0, .slice none 0 0, .slice none 0 0] 25) = W0 at HDP0 HBW0 ⊢
  generalize w1.heap.size = B at HDP0 hWB ⊢
  go_cut [] from 9 to 93 (fun wx => ∃ (T : Tm) (la : Option Addr) (lc : Nat) (ka : Option Addr) (kc m : Nat), Hid (DpR w B wx T la lc ka kc m) ∧ m ≤ 1000)
  case first =>
    have hc : h % 3 = 0 ∨ h % 3 = 1 ∨ h % 3 = 2 := by omega
    rcases hc with e | e | e <;> rw [e] <;> clear e
    · have e1 : h.tdiv 3 = h / 3 := Int.tdiv_eq_ediv_of_nonneg hh0
      have e2 : (h / 3).tmod 2 = h / 3 % 2 := Int.tmod_eq_emod_of_nonneg (by omega)
      have hr : h / 3 % 2 = 0 ∨ h / 3 % 2 = 1 := by omega
      rcases hr with er | er
      · go_wp2_with fail
        have eq : (IntKind.i64.wrap ((IntKind.i64.wrap h).tdiv 3)).tmod 2 = 0 := by rw [wrapU hh0 hh1, e1, wrapU (by omega) (by omega), e2]; omega
        go_loopw [6] (fun iv wr => ∃ (j : Nat) (T : Tm) (la : Option Addr) (lc : Nat) (ka : Option Addr) (kc m : Nat), iv = .int .i64 j ∧ j ≤ 34 ∧ Hid (DpR w B wr T la lc ka kc m ∧ m ≤ 2 * j)) (fun iv _ => 40 - (intOf iv).toNat)
        case atStart => exact ⟨0, _, _, _, _, _, 0, rfl, by omega, Lib.hid ⟨⟨HDP0.out, HBW0.out, Fw.var 0⟩, by omega⟩⟩
        case round =>
          obtain ⟨j, T, la, lc, ka, kc, m, rfl, hj, hD⟩ := hrel
          have HDP := Lib.hid hD.out.1.1
          have HBW := Lib.hid hD.out.1.2.1
          have HFW := Lib.hid (And.intro hD.out.1.2.2 hD.out.2)
          clear hD
          by_cases hjn : (j : Int) < n % 35
          · have dj : decide ((j : Int) < n % 35) = true := by simpa using hjn
            obtain ⟨c0, c1, c2, c3⟩ := HDP.out.cells
            have HNX : Hid (∀ wN : World, Below wr.heap.size wr wN → wN.cell? ⟨B, 0, none⟩ = some (.int .i64 T.k) ∧ wN.cell? ⟨B, 1, none⟩ = some (.int .i64 T.n) ∧ wN.cell? ⟨B, 2, none⟩ = some (.slice la T.ls.len lc) ∧ wN.cell? ⟨B, 3, none⟩ = some (.slice ka T.ks.len kc)) := Lib.hid (fun wN hX => (HDP.out.later hX).cells)
            clear c0 c1 c2 c3
            go_upto_region 8 with fail
            refine wp_region_L (fun (w' : World) => Hid (Below wr.heap.size wr w') ∧ w'.cell? ⟨B, 0, none⟩ = some (.int .i64 T.k) ∧ w'.cell? ⟨B, 1, none⟩ = some (.int .i64 T.n) ∧ w'.cell? ⟨B, 2, none⟩ = some (.slice la T.ls.len lc) ∧ w'.cell? ⟨B, 3, none⟩ = some (.slice ka T.ks.len kc)) 11 (by kernel_rfl) ?_
            have hH := (show (fun (w' : World) => Hid (Below wr.heap.size wr w') ∧ w'.cell? ⟨B, 0, none⟩ = some (.int .i64 T.k) ∧ w'.cell? ⟨B, 1, none⟩ = some (.int .i64 T.n) ∧ w'.cell? ⟨B, 2, none⟩ = some (.slice la T.ls.len lc) ∧ w'.cell? ⟨B, 3, none⟩ = some (.slice ka T.ks.len kc)) wr.drew from ⟨Lib.hid (Below.refl _ _).drew, HNX.out _ (Below.refl _ _).drew⟩)
            try simp only [Act.put, List.setIfInBounds_toArray, List.set_cons_zero, List.set_cons_succ]
            refine wpAnyL_take (i := 1) (v := ?_) (by simp only [List.getElem?_toArray, List.getElem?_cons_succ, List.getElem?_cons_zero]; rfl) (by kernel_rfl) (by kernel_rfl) (by kernel_rfl) (by kernel_rfl) (by intro _ _ _ h; exact h) (Or.inl ⟨by rfl, ?_⟩) hH ?_
            rotate_left
            · intro w' hSw
              obtain ⟨s0, s1, s2, s3, s4⟩ := hSw
              go_simp
              try with_reducible rfl
            try simp only [Act.put, List.setIfInBounds_toArray, List.set_cons_zero, List.set_cons_succ]
            refine wpAnyL_take (i := 2) (v := ?_) (by simp only [List.getElem?_toArray, List.getElem?_cons_succ, List.getElem?_cons_zero]; rfl) (by kernel_rfl) (by kernel_rfl) (by kernel_rfl) (by kernel_rfl) (by intro _ _ _ h; exact h) (Or.inl ⟨by rfl, ?_⟩) hH ?_
            rotate_left
            · intro w' hSw
              obtain ⟨s0, s1, s2, s3, s4⟩ := hSw
              go_simp
              try with_reducible rfl
            try simp only [Act.put, List.setIfInBounds_toArray, List.set_cons_zero, List.set_cons_succ]
            refine wpAnyL_take (i := 3) (v := ?_) (by simp only [List.getElem?_toArray, List.getElem?_cons_succ, List.getElem?_cons_zero]; rfl) (by kernel_rfl) (by kernel_rfl) (by kernel_rfl) (by kernel_rfl) (by intro _ _ _ h; exact h) (Or.inl ⟨by rfl, ?_⟩) hH ?_
            rotate_left
            · intro w' hSw
              obtain ⟨s0, s1, s2, s3, s4⟩ := hSw
              go_simp
              try with_reducible rfl
            try simp only [Act.put, List.setIfInBounds_toArray, List.set_cons_zero, List.set_cons_succ]
            refine wpAnyL_take (i := 4) (v := ?_) (by simp only [List.getElem?_toArray, List.getElem?_cons_succ, List.getElem?_cons_zero]; rfl) (by kernel_rfl) (by kernel_rfl) (by kernel_rfl) (by kernel_rfl) (by intro _ _ _ h; exact h) (Or.inl ⟨by rfl, ?_⟩) hH ?_
            rotate_left
            · intro w' hSw
              obtain ⟨s0, s1, s2, s3, s4⟩ := hSw
              go_simp
              try with_reducible rfl
            try simp only [Act.put, List.setIfInBounds_toArray, List.set_cons_zero, List.set_cons_succ]
            refine wpAnyL_take (i := 7) (v := ?_) (by simp only [List.getElem?_toArray, List.getElem?_cons_succ, List.getElem?_cons_zero]; rfl) (by kernel_rfl) (by kernel_rfl) (by kernel_rfl) (by kernel_rfl) (by intro _ _ _ h; exact h) (Or.inl ⟨by rfl, ?_⟩) hH ?_
            rotate_left
            · intro w' hSw
              obtain ⟨s0, s1, s2, s3, s4⟩ := hSw
              go_simp
              try with_reducible rfl
            try simp only [Act.put, List.setIfInBounds_toArray, List.set_cons_zero, List.set_cons_succ]
            refine wpAnyL_ready (rs := [0, 8]) (by kernel_rfl) (by simp) ?_
            refine AllReadyL.cons (o := _) (by simp only [List.getElem?_toArray, List.getElem?_cons_zero]; rfl) (fun K hK => ?_) ?_
            · go_simp
              have hn := heap_new (wr.drew) (.cells #[.int .i64 5, .int .i64 4] 3)
              have hn : (wr.drew.alloc (.cells #[.int .i64 5, .int .i64 4] 3)).heap[wr.heap.size]? = _ := hn
              have HI := Lib.hid hn
              have hb7 : Below (wr.drew).heap.size wr.drew (wr.drew.alloc (.cells #[.int .i64 5, .int .i64 4] 3)) := (Below.refl _ _).alloc (Nat.le_refl _) _
              have hX := Below.step hH.1.out hb7 (Nat.le_refl _)
              clear hH hb7 hn
              refine hK.out _ _ ⟨Lib.hid hX, HNX.out _ hX⟩ (fun hH => ?_)
              clear hK K hX
              try simp only [Act.put, List.setIfInBounds_toArray, List.set_cons_zero, List.set_cons_succ]
              refine wpAnyL_take (i := 5) (v := ?_) (by simp only [List.getElem?_toArray, List.getElem?_cons_succ, List.getElem?_cons_zero]; rfl) (by kernel_rfl) (by kernel_rfl) (by kernel_rfl) (by kernel_rfl) (by intro _ _ _ h; exact h) (Or.inl ⟨by rfl, ?_⟩) hH ?_
              rotate_left
              · intro w' hSw
                obtain ⟨s0, s1, s2, s3, s4⟩ := hSw
                go_simp
                try with_reducible rfl
              try simp only [Act.put, List.setIfInBounds_toArray, List.set_cons_zero, List.set_cons_succ]
              refine wpAnyL_ready (rs := [6, 8]) (by kernel_rfl) (by simp) ?_
              refine AllReadyL.cons (o := _) (by simp only [List.getElem?_toArray, List.getElem?_cons_succ, List.getElem?_cons_zero]; rfl) (fun K hK => ?_) ?_
              · have i0 := cell_at HI.out 0
                simp only [List.getElem?_toArray, List.getElem?_cons_zero] at i0
                go_simp
                clear i0 HI
                refine hK.out _ _ hH (fun hH => ?_)
                clear hK K
                try simp only [Act.put, List.setIfInBounds_toArray, List.set_cons_zero, List.set_cons_succ]
                refine wpAnyL_ready (rs := [8]) (by kernel_rfl) (by simp) ?_
                refine AllReadyL.cons (o := _) (by simp only [List.getElem?_toArray, List.getElem?_cons_succ, List.getElem?_cons_zero]; rfl) (fun K hK => ?_) AllReadyL.nil
                go_simp
                go_at_call 13
                refine (tVar_any 0 _).mono ?_
                rintro e wq2 ⟨rfl, hb7⟩
                have hX := Below.step hH.1.out hb7 (Nat.le_refl _)
                clear hH hb7
                refine hK.out _ _ ⟨Lib.hid hX, HNX.out _ hX⟩ (fun hH => ?_)
                clear hK K hX
                try simp only [Act.put, List.setIfInBounds_toArray, List.set_cons_zero, List.set_cons_succ]
                refine wpAnyL_ready (rs := [9]) (by kernel_rfl) (by simp) ?_
                refine AllReadyL.cons (o := _) (by simp only [List.getElem?_toArray, List.getElem?_cons_succ, List.getElem?_cons_zero]; rfl) (fun K hK => ?_) AllReadyL.nil
                go_simp
                have hlt := lit_off (A := T) (C := tV 0) (lt_of_block (HDP.out.later hH.1.out).1) ((HDP.out.later hH.1.out).2) (OffIn.var _ _ _) (5)
                have HLT := Lib.hid hlt
                have hb7 : Below (wq2).heap.size wq2 (wq2.alloc (.cells #[.int .i64 T.k, .int .i64 T.n, .slice la T.ls.len lc, .slice ka T.ks.len kc, .int .i64 1, .int .i64 0, .slice none 0 0, .slice none 0 0] 25)) := (Below.refl _ _).alloc (Nat.le_refl _) _
                have hX := Below.step hH.1.out hb7 (Nat.le_refl _)
                clear hH hb7 hlt
                refine hK.out _ _ ⟨Lib.hid hX, HNX.out _ hX⟩ (fun hH => ?_)
                clear hK K hX
                try simp only [Act.put, List.setIfInBounds_toArray, List.set_cons_zero, List.set_cons_succ]
                refine wpAnyL_ready (rs := [10]) (by kernel_rfl) (by simp) ?_
                refine AllReadyL.cons (o := _) (by simp only [List.getElem?_toArray, List.getElem?_cons_succ, List.getElem?_cons_zero]; rfl) (fun K hK => ?_) AllReadyL.nil
                go_simp
                go_at_call 12
                refine (tBind_any 5 _ 2 2 _).mono ?_
                rintro e wq4 ⟨rfl, hb7⟩
                have hX := Below.step hH.1.out hb7 (Nat.le_refl _)
                replace HLT := Lib.hid (HLT.out.later hb7)
                clear hH hb7
                refine hK.out _ _ ⟨Lib.hid hX, HNX.out _ hX⟩ (fun hH => ?_)
                clear hK K hX
                try simp only [Act.put, List.setIfInBounds_toArray, List.set_cons_zero, List.set_cons_succ]
                refine wpAnyL_last (o := _) (by kernel_rfl) (by simp only [List.getElem?_toArray, List.getElem?_cons_succ, List.getElem?_cons_zero]; rfl) (fun K hK => ?_)
                have hz := (HDP.out.later hH.1.out).1
                obtain ⟨m0, m1, m2, m3⟩ := cells4 hz
                have m4 := free_of hz
                have HP := Lib.hid (dp_put hz HLT.out (Below.step HBW.out hH.1.out (Nat.le_refl _)) hWB.out)
                clear hH hz
                go_simp
                refine hK.out _ _ ?_
                clear hK K m0 m1 m2 m3 m4
                try simp only [Act.put, List.setIfInBounds_toArray, List.set_cons_zero, List.set_cons_succ]
                refine wpAnyL_done (by kernel_rfl) ?_ _
                go_wp2_with fail
                go_roundw
                case rel => exact ⟨j + 1, _, _, _, _, _, _, by go_num, by omega, Lib.hid ⟨⟨HP.out.1, HP.out.2, HFW.out.1.two _ (Fw.var 0)⟩, by have := HFW.out.2; omega⟩⟩
                case measure => simp [intOf]; omega
              refine AllReadyL.cons (o := _) (by simp only [List.getElem?_toArray, List.getElem?_cons_succ, List.getElem?_cons_zero]; rfl) (fun K hK => ?_) AllReadyL.nil
              go_simp
              go_at_call 13
              refine (tVar_any 0 _).mono ?_
              rintro e wq1 ⟨rfl, hb7⟩
              have hX := Below.step hH.1.out hb7 (Nat.le_refl _)
              replace HI := Lib.hid ((hb7.block _ (lt_of_block HI.out)).trans HI.out)
              clear hH hb7
              refine hK.out _ _ ⟨Lib.hid hX, HNX.out _ hX⟩ (fun hH => ?_)
              clear hK K hX
              try simp only [Act.put, List.setIfInBounds_toArray, List.set_cons_zero, List.set_cons_succ]
              refine wpAnyL_ready (rs := [6, 9]) (by kernel_rfl) (by simp) ?_
              refine AllReadyL.cons (o := _) (by simp only [List.getElem?_toArray, List.getElem?_cons_succ, List.getElem?_cons_zero]; rfl) (fun K hK => ?_) ?_
              · have i0 := cell_at HI.out 0
                simp only [List.getElem?_toArray, List.getElem?_cons_zero] at i0
                go_simp
                clear i0 HI
                refine hK.out _ _ hH (fun hH => ?_)
                clear hK K
                try simp only [Act.put, List.setIfInBounds_toArray, List.set_cons_zero, List.set_cons_succ]
                refine wpAnyL_ready (rs := [9]) (by kernel_rfl) (by simp) ?_
                refine AllReadyL.cons (o := _) (by simp only [List.getElem?_toArray, List.getElem?_cons_succ, List.getElem?_cons_zero]; rfl) (fun K hK => ?_) AllReadyL.nil
                go_simp
                have hlt := lit_off (A := T) (C := tV 0) (lt_of_block (HDP.out.later hH.1.out).1) ((HDP.out.later hH.1.out).2) (OffIn.var _ _ _) (5)
                have HLT := Lib.hid hlt
                have hb7 : Below (wq1).heap.size wq1 (wq1.alloc (.cells #[.int .i64 T.k, .int .i64 T.n, .slice la T.ls.len lc, .slice ka T.ks.len kc, .int .i64 1, .int .i64 0, .slice none 0 0, .slice none 0 0] 25)) := (Below.refl _ _).alloc (Nat.le_refl _) _
                have hX := Below.step hH.1.out hb7 (Nat.le_refl _)
                clear hH hb7 hlt
                refine hK.out _ _ ⟨Lib.hid hX, HNX.out _ hX⟩ (fun hH => ?_)
                clear hK K hX
                try simp only [Act.put, List.setIfInBounds_toArray, List.set_cons_zero, List.set_cons_succ]
                refine wpAnyL_ready (rs := [10]) (by kernel_rfl) (by simp) ?_
                refine AllReadyL.cons (o := _) (by simp only [List.getElem?_toArray, List.getElem?_cons_succ, List.getElem?_cons_zero]; rfl) (fun K hK => ?_) AllReadyL.nil
                go_simp
                go_at_call 12
                refine (tBind_any 5 _ 2 2 _).mono ?_
                rintro e wq4 ⟨rfl, hb7⟩
                have hX := Below.step hH.1.out hb7 (Nat.le_refl _)
                replace HLT := Lib.hid (HLT.out.later hb7)
                clear hH hb7
                refine hK.out _ _ ⟨Lib.hid hX, HNX.out _ hX⟩ (fun hH => ?_)
                clear hK K hX
                try simp only [Act.put, List.setIfInBounds_toArray, List.set_cons_zero, List.set_cons_succ]
                refine wpAnyL_last (o := _) (by kernel_rfl) (by simp only [List.getElem?_toArray, List.getElem?_cons_succ, List.getElem?_cons_zero]; rfl) (fun K hK => ?_)
                have hz := (HDP.out.later hH.1.out).1
                obtain ⟨m0, m1, m2, m3⟩ := cells4 hz
                have m4 := free_of hz
                have HP := Lib.hid (dp_put hz HLT.out (Below.step HBW.out hH.1.out (Nat.le_refl _)) hWB.out)
                clear hH hz
                go_simp
                refine hK.out _ _ ?_
                clear hK K m0 m1 m2 m3 m4
                try simp only [Act.put, List.setIfInBounds_toArray, List.set_cons_zero, List.set_cons_succ]
                refine wpAnyL_done (by kernel_rfl) ?_ _
                go_wp2_with fail
                go_roundw
                case rel => exact ⟨j + 1, _, _, _, _, _, _, by go_num, by omega, Lib.hid ⟨⟨HP.out.1, HP.out.2, HFW.out.1.two _ (Fw.var 0)⟩, by have := HFW.out.2; omega⟩⟩
                case measure => simp [intOf]; omega
              refine AllReadyL.cons (o := _) (by simp only [List.getElem?_toArray, List.getElem?_cons_succ, List.getElem?_cons_zero]; rfl) (fun K hK => ?_) AllReadyL.nil
              go_simp
              have hlt := lit_off (A := T) (C := tV 0) (lt_of_block (HDP.out.later hH.1.out).1) ((HDP.out.later hH.1.out).2) (OffIn.var _ _ _) (5)
              have HLT := Lib.hid hlt
              have hb7 : Below (wq1).heap.size wq1 (wq1.alloc (.cells #[.int .i64 T.k, .int .i64 T.n, .slice la T.ls.len lc, .slice ka T.ks.len kc, .int .i64 1, .int .i64 0, .slice none 0 0, .slice none 0 0] 25)) := (Below.refl _ _).alloc (Nat.le_refl _) _
              have hX := Below.step hH.1.out hb7 (Nat.le_refl _)
              replace HI := Lib.hid ((hb7.block _ (lt_of_block HI.out)).trans HI.out)
              clear hH hb7 hlt
              refine hK.out _ _ ⟨Lib.hid hX, HNX.out _ hX⟩ (fun hH => ?_)
              clear hK K hX
              try simp only [Act.put, List.setIfInBounds_toArray, List.set_cons_zero, List.set_cons_succ]
              refine wpAnyL_ready (rs := [6]) (by kernel_rfl) (by simp) ?_
              refine AllReadyL.cons (o := _) (by simp only [List.getElem?_toArray, List.getElem?_cons_succ, List.getElem?_cons_zero]; rfl) (fun K hK => ?_) AllReadyL.nil
              have i0 := cell_at HI.out 0
              simp only [List.getElem?_toArray, List.getElem?_cons_zero] at i0
              go_simp
              clear i0 HI
              refine hK.out _ _ hH (fun hH => ?_)
              clear hK K
              try simp only [Act.put, List.setIfInBounds_toArray, List.set_cons_zero, List.set_cons_succ]
              refine wpAnyL_ready (rs := [10]) (by kernel_rfl) (by simp) ?_
              refine AllReadyL.cons (o := _) (by simp only [List.getElem?_toArray, List.getElem?_cons_succ, List.getElem?_cons_zero]; rfl) (fun K hK => ?_) AllReadyL.nil
              go_simp
              go_at_call 12
              refine (tBind_any 5 _ 2 2 _).mono ?_
              rintro e wq4 ⟨rfl, hb7⟩
              have hX := Below.step hH.1.out hb7 (Nat.le_refl _)
              replace HLT := Lib.hid (HLT.out.later hb7)
              clear hH hb7
              refine hK.out _ _ ⟨Lib.hid hX, HNX.out _ hX⟩ (fun hH => ?_)
              clear hK K hX
              try simp only [Act.put, List.setIfInBounds_toArray, List.set_cons_zero, List.set_cons_succ]
              refine wpAnyL_last (o := _) (by kernel_rfl) (by simp only [List.getElem?_toArray, List.getElem?_cons_succ, List.getElem?_cons_zero]; rfl) (fun K hK => ?_)
              have hz := (HDP.out.later hH.1.out).1
              obtain ⟨m0, m1, m2, m3⟩ := cells4 hz
              have m4 := free_of hz
              have HP := Lib.hid (dp_put hz HLT.out (Below.step HBW.out hH.1.out (Nat.le_refl _)) hWB.out)
              clear hH hz
              go_simp
              refine hK.out _ _ ?_
              clear hK K m0 m1 m2 m3 m4
              try simp only [Act.put, List.setIfInBounds_toArray, List.set_cons_zero, List.set_cons_succ]
              refine wpAnyL_done (by kernel_rfl) ?_ _
              go_wp2_with fail
              go_roundw
              case rel => exact ⟨j + 1, _, _, _, _, _, _, by go_num, by omega, Lib.hid ⟨⟨HP.out.1, HP.out.2, HFW.out.1.two _ (Fw.var 0)⟩, by have := HFW.out.2; omega⟩⟩
              case measure => simp [intOf]; omega
            refine AllReadyL.cons (o := _) (by simp only [List.getElem?_toArray, List.getElem?_cons_succ, List.getElem?_cons_zero]; rfl) (fun K hK => ?_) AllReadyL.nil
            go_simp
            go_at_call 13
            refine (tVar_any 0 _).mono ?_
            rintro e wq0 ⟨rfl, hb7⟩
            have hX := Below.step hH.1.out hb7 (Nat.le_refl _)
            clear hH hb7
            refine hK.out _ _ ⟨Lib.hid hX, HNX.out _ hX⟩ (fun hH => ?_)
            clear hK K hX
            try simp only [Act.put, List.setIfInBounds_toArray, List.set_cons_zero, List.set_cons_succ]
            refine wpAnyL_ready (rs := [0, 9]) (by kernel_rfl) (by simp) ?_
            refine AllReadyL.cons (o := _) (by simp only [List.getElem?_toArray, List.getElem?_cons_zero]; rfl) (fun K hK => ?_) ?_
            · go_simp
              have hn := heap_new (wq0) (.cells #[.int .i64 5, .int .i64 4] 3)
              have HI := Lib.hid hn
              have hb7 : Below (wq0).heap.size wq0 (wq0.alloc (.cells #[.int .i64 5, .int .i64 4] 3)) := (Below.refl _ _).alloc (Nat.le_refl _) _
              have hX := Below.step hH.1.out hb7 (Nat.le_refl _)
              clear hH hb7 hn
              refine hK.out _ _ ⟨Lib.hid hX, HNX.out _ hX⟩ (fun hH => ?_)
              clear hK K hX
              try simp only [Act.put, List.setIfInBounds_toArray, List.set_cons_zero, List.set_cons_succ]
              refine wpAnyL_take (i := 5) (v := ?_) (by simp only [List.getElem?_toArray, List.getElem?_cons_succ, List.getElem?_cons_zero]; rfl) (by kernel_rfl) (by kernel_rfl) (by kernel_rfl) (by kernel_rfl) (by intro _ _ _ h; exact h) (Or.inl ⟨by rfl, ?_⟩) hH ?_
              rotate_left
              · intro w' hSw
                obtain ⟨s0, s1, s2, s3, s4⟩ := hSw
                go_simp
                try with_reducible rfl
              try simp only [Act.put, List.setIfInBounds_toArray, List.set_cons_zero, List.set_cons_succ]
              refine wpAnyL_ready (rs := [6, 9]) (by kernel_rfl) (by simp) ?_
              refine AllReadyL.cons (o := _) (by simp only [List.getElem?_toArray, List.getElem?_cons_succ, List.getElem?_cons_zero]; rfl) (fun K hK => ?_) ?_
              · have i0 := cell_at HI.out 0
                simp only [List.getElem?_toArray, List.getElem?_cons_zero] at i0
                go_simp
                clear i0 HI
                refine hK.out _ _ hH (fun hH => ?_)
                clear hK K
                try simp only [Act.put, List.setIfInBounds_toArray, List.set_cons_zero, List.set_cons_succ]
                refine wpAnyL_ready (rs := [9]) (by kernel_rfl) (by simp) ?_
                refine AllReadyL.cons (o := _) (by simp only [List.getElem?_toArray, List.getElem?_cons_succ, List.getElem?_cons_zero]; rfl) (fun K hK => ?_) AllReadyL.nil
                go_simp
                have hlt := lit_off (A := T) (C := tV 0) (lt_of_block (HDP.out.later hH.1.out).1) ((HDP.out.later hH.1.out).2) (OffIn.var _ _ _) (5)
                simp only [World.size_alloc] at hlt
                have HLT := Lib.hid hlt
                have hb7 : Below ((wq0.alloc (.cells #[.int .i64 5, .int .i64 4] 3))).heap.size (wq0.alloc (.cells #[.int .i64 5, .int .i64 4] 3)) ((wq0.alloc (.cells #[.int .i64 5, .int .i64 4] 3)).alloc (.cells #[.int .i64 T.k, .int .i64 T.n, .slice la T.ls.len lc, .slice ka T.ks.len kc, .int .i64 1, .int .i64 0, .slice none 0 0, .slice none 0 0] 25)) := (Below.refl _ _).alloc (Nat.le_refl _) _
                have hX := Below.step hH.1.out hb7 (Nat.le_refl _)
                clear hH hb7 hlt
                refine hK.out _ _ ⟨Lib.hid hX, HNX.out _ hX⟩ (fun hH => ?_)
                clear hK K hX
                try simp only [Act.put, List.setIfInBounds_toArray, List.set_cons_zero, List.set_cons_succ]
                refine wpAnyL_ready (rs := [10]) (by kernel_rfl) (by simp) ?_
                refine AllReadyL.cons (o := _) (by simp only [List.getElem?_toArray, List.getElem?_cons_succ, List.getElem?_cons_zero]; rfl) (fun K hK => ?_) AllReadyL.nil
                go_simp
                go_at_call 12
                refine (tBind_any 5 _ 2 2 _).mono ?_
                rintro e wq4 ⟨rfl, hb7⟩
                have hX := Below.step hH.1.out hb7 (Nat.le_refl _)
                replace HLT := Lib.hid (HLT.out.later hb7)
                clear hH hb7
                refine hK.out _ _ ⟨Lib.hid hX, HNX.out _ hX⟩ (fun hH => ?_)
                clear hK K hX
                try simp only [Act.put, List.setIfInBounds_toArray, List.set_cons_zero, List.set_cons_succ]
                refine wpAnyL_last (o := _) (by kernel_rfl) (by simp only [List.getElem?_toArray, List.getElem?_cons_succ, List.getElem?_cons_zero]; rfl) (fun K hK => ?_)
                have hz := (HDP.out.later hH.1.out).1
                obtain ⟨m0, m1, m2, m3⟩ := cells4 hz
                have m4 := free_of hz
                have HP := Lib.hid (dp_put hz HLT.out (Below.step HBW.out hH.1.out (Nat.le_refl _)) hWB.out)
                clear hH hz
                go_simp
                refine hK.out _ _ ?_
                clear hK K m0 m1 m2 m3 m4
                try simp only [Act.put, List.setIfInBounds_toArray, List.set_cons_zero, List.set_cons_succ]
                refine wpAnyL_done (by kernel_rfl) ?_ _
                go_wp2_with fail
                go_roundw
                case rel => exact ⟨j + 1, _, _, _, _, _, _, by go_num, by omega, Lib.hid ⟨⟨HP.out.1, HP.out.2, HFW.out.1.two _ (Fw.var 0)⟩, by have := HFW.out.2; omega⟩⟩
                case measure => simp [intOf]; omega
              refine AllReadyL.cons (o := _) (by simp only [List.getElem?_toArray, List.getElem?_cons_succ, List.getElem?_cons_zero]; rfl) (fun K hK => ?_) AllReadyL.nil
              go_simp
              have hlt := lit_off (A := T) (C := tV 0) (lt_of_block (HDP.out.later hH.1.out).1) ((HDP.out.later hH.1.out).2) (OffIn.var _ _ _) (5)
              simp only [World.size_alloc] at hlt
              have HLT := Lib.hid hlt
              have hb7 : Below ((wq0.alloc (.cells #[.int .i64 5, .int .i64 4] 3))).heap.size (wq0.alloc (.cells #[.int .i64 5, .int .i64 4] 3)) ((wq0.alloc (.cells #[.int .i64 5, .int .i64 4] 3)).alloc (.cells #[.int .i64 T.k, .int .i64 T.n, .slice la T.ls.len lc, .slice ka T.ks.len kc, .int .i64 1, .int .i64 0, .slice none 0 0, .slice none 0 0] 25)) := (Below.refl _ _).alloc (Nat.le_refl _) _
              have hX := Below.step hH.1.out hb7 (Nat.le_refl _)
              replace HI := Lib.hid ((hb7.block _ (lt_of_block HI.out)).trans HI.out)
              clear hH hb7 hlt
              refine hK.out _ _ ⟨Lib.hid hX, HNX.out _ hX⟩ (fun hH => ?_)
              clear hK K hX
              try simp only [Act.put, List.setIfInBounds_toArray, List.set_cons_zero, List.set_cons_succ]
              refine wpAnyL_ready (rs := [6]) (by kernel_rfl) (by simp) ?_
              refine AllReadyL.cons (o := _) (by simp only [List.getElem?_toArray, List.getElem?_cons_succ, List.getElem?_cons_zero]; rfl) (fun K hK => ?_) AllReadyL.nil
              have i0 := cell_at HI.out 0
              simp only [List.getElem?_toArray, List.getElem?_cons_zero] at i0
              go_simp
              clear i0 HI
              refine hK.out _ _ hH (fun hH => ?_)
              clear hK K
              try simp only [Act.put, List.setIfInBounds_toArray, List.set_cons_zero, List.set_cons_succ]
              refine wpAnyL_ready (rs := [10]) (by kernel_rfl) (by simp) ?_
              refine AllReadyL.cons (o := _) (by simp only [List.getElem?_toArray, List.getElem?_cons_succ, List.getElem?_cons_zero]; rfl) (fun K hK => ?_) AllReadyL.nil
              go_simp
              go_at_call 12
              refine (tBind_any 5 _ 2 2 _).mono ?_
              rintro e wq4 ⟨rfl, hb7⟩
              have hX := Below.step hH.1.out hb7 (Nat.le_refl _)
              replace HLT := Lib.hid (HLT.out.later hb7)
              clear hH hb7
              refine hK.out _ _ ⟨Lib.hid hX, HNX.out _ hX⟩ (fun hH => ?_)
              clear hK K hX
              try simp only [Act.put, List.setIfInBounds_toArray, List.set_cons_zero, List.set_cons_succ]
              refine wpAnyL_last (o := _) (by kernel_rfl) (by simp only [List.getElem?_toArray, List.getElem?_cons_succ, List.getElem?_cons_zero]; rfl) (fun K hK => ?_)
              have hz := (HDP.out.later hH.1.out).1
              obtain ⟨m0, m1, m2, m3⟩ := cells4 hz
              have m4 := free_of hz
              have HP := Lib.hid (dp_put hz HLT.out (Below.step HBW.out hH.1.out (Nat.le_refl _)) hWB.out)
              clear hH hz
              go_simp
              refine hK.out _ _ ?_
              clear hK K m0 m1 m2 m3 m4
              try simp only [Act.put, List.setIfInBounds_toArray, List.set_cons_zero, List.set_cons_succ]
              refine wpAnyL_done (by kernel_rfl) ?_ _
              go_wp2_with fail
              go_roundw
              case rel => exact ⟨j + 1, _, _, _, _, _, _, by go_num, by omega, Lib.hid ⟨⟨HP.out.1, HP.out.2, HFW.out.1.two _ (Fw.var 0)⟩, by have := HFW.out.2; omega⟩⟩
              case measure => simp [intOf]; omega
            refine AllReadyL.cons (o := _) (by simp only [List.getElem?_toArray, List.getElem?_cons_succ, List.getElem?_cons_zero]; rfl) (fun K hK => ?_) AllReadyL.nil
            go_simp
            have hlt := lit_off (A := T) (C := tV 0) (lt_of_block (HDP.out.later hH.1.out).1) ((HDP.out.later hH.1.out).2) (OffIn.var _ _ _) (5)
            have HLT := Lib.hid hlt
            have hb7 : Below (wq0).heap.size wq0 (wq0.alloc (.cells #[.int .i64 T.k, .int .i64 T.n, .slice la T.ls.len lc, .slice ka T.ks.len kc, .int .i64 1, .int .i64 0, .slice none 0 0, .slice none 0 0] 25)) := (Below.refl _ _).alloc (Nat.le_refl _) _
            have hX := Below.step hH.1.out hb7 (Nat.le_refl _)
            clear hH hb7 hlt
            refine hK.out _ _ ⟨Lib.hid hX, HNX.out _ hX⟩ (fun hH => ?_)
            clear hK K hX
            try simp only [Act.put, List.setIfInBounds_toArray, List.set_cons_zero, List.set_cons_succ]
            refine wpAnyL_ready (rs := [0]) (by kernel_rfl) (by simp) ?_
            refine AllReadyL.cons (o := _) (by simp only [List.getElem?_toArray, List.getElem?_cons_zero]; rfl) (fun K hK => ?_) AllReadyL.nil
            go_simp
            have hn := heap_new ((wq0.alloc (.cells #[.int .i64 T.k, .int .i64 T.n, .slice la T.ls.len lc, .slice ka T.ks.len kc, .int .i64 1, .int .i64 0, .slice none 0 0, .slice none 0 0] 25))) (.cells #[.int .i64 5, .int .i64 4] 3)
            simp only [World.size_alloc] at hn
            have HI := Lib.hid hn
            have hb7 : Below ((wq0.alloc (.cells #[.int .i64 T.k, .int .i64 T.n, .slice la T.ls.len lc, .slice ka T.ks.len kc, .int .i64 1, .int .i64 0, .slice none 0 0, .slice none 0 0] 25))).heap.size (wq0.alloc (.cells #[.int .i64 T.k, .int .i64 T.n, .slice la T.ls.len lc, .slice ka T.ks.len kc, .int .i64 1, .int .i64 0, .slice none 0 0, .slice none 0 0] 25)) ((wq0.alloc (.cells #[.int .i64 T.k, .int .i64 T.n, .slice la T.ls.len lc, .slice ka T.ks.len kc, .int .i64 1, .int .i64 0, .slice none 0 0, .slice none 0 0] 25)).alloc (.cells #[.int .i64 5, .int .i64 4] 3)) := (Below.refl _ _).alloc (Nat.le_refl _) _
            have hX := Below.step hH.1.out hb7 (Nat.le_refl _)
            replace HLT := Lib.hid (HLT.out.later hb7)
            clear hH hb7 hn
            refine hK.out _ _ ⟨Lib.hid hX, HNX.out _ hX⟩ (fun hH => ?_)
            clear hK K hX
            try simp only [Act.put, List.setIfInBounds_toArray, List.set_cons_zero, List.set_cons_succ]
            refine wpAnyL_take (i := 5) (v := ?_) (by simp only [List.getElem?_toArray, List.getElem?_cons_succ, List.getElem?_cons_zero]; rfl) (by kernel_rfl) (by kernel_rfl) (by kernel_rfl) (by kernel_rfl) (by intro _ _ _ h; exact h) (Or.inl ⟨by rfl, ?_⟩) hH ?_
            rotate_left
            · intro w' hSw
              obtain ⟨s0, s1, s2, s3, s4⟩ := hSw
              go_simp
              try with_reducible rfl
            try simp only [Act.put, List.setIfInBounds_toArray, List.set_cons_zero, List.set_cons_succ]
            refine wpAnyL_ready (rs := [6]) (by kernel_rfl) (by simp) ?_
            refine AllReadyL.cons (o := _) (by simp only [List.getElem?_toArray, List.getElem?_cons_succ, List.getElem?_cons_zero]; rfl) (fun K hK => ?_) AllReadyL.nil
            have i0 := cell_at HI.out 0
            simp only [List.getElem?_toArray, List.getElem?_cons_zero] at i0
            go_simp
            clear i0 HI
            refine hK.out _ _ hH (fun hH => ?_)
            clear hK K
            try simp only [Act.put, List.setIfInBounds_toArray, List.set_cons_zero, List.set_cons_succ]
            refine wpAnyL_ready (rs := [10]) (by kernel_rfl) (by simp) ?_
            refine AllReadyL.cons (o := _) (by simp only [List.getElem?_toArray, List.getElem?_cons_succ, List.getElem?_cons_zero]; rfl) (fun K hK => ?_) AllReadyL.nil
            go_simp
            go_at_call 12
            refine (tBind_any 5 _ 2 2 _).mono ?_
            rintro e wq4 ⟨rfl, hb7⟩
            have hX := Below.step hH.1.out hb7 (Nat.le_refl _)
            replace HLT := Lib.hid (HLT.out.later hb7)
            clear hH hb7
            refine hK.out _ _ ⟨Lib.hid hX, HNX.out _ hX⟩ (fun hH => ?_)
            clear hK K hX
            try simp only [Act.put, List.setIfInBounds_toArray, List.set_cons_zero, List.set_cons_succ]
            refine wpAnyL_last (o := _) (by kernel_rfl) (by simp only [List.getElem?_toArray, List.getElem?_cons_succ, List.getElem?_cons_zero]; rfl) (fun K hK => ?_)
            have hz := (HDP.out.later hH.1.out).1
            obtain ⟨m0, m1, m2, m3⟩ := cells4 hz
            have m4 := free_of hz
            have HP := Lib.hid (dp_put hz HLT.out (Below.step HBW.out hH.1.out (Nat.le_refl _)) hWB.out)
            clear hH hz
            go_simp
            refine hK.out _ _ ?_
            clear hK K m0 m1 m2 m3 m4
            try simp only [Act.put, List.setIfInBounds_toArray, List.set_cons_zero, List.set_cons_succ]
            refine wpAnyL_done (by kernel_rfl) ?_ _
            go_wp2_with fail
            go_roundw
            case rel => exact ⟨j + 1, _, _, _, _, _, _, by go_num, by omega, Lib.hid ⟨⟨HP.out.1, HP.out.2, HFW.out.1.two _ (Fw.var 0)⟩, by have := HFW.out.2; omega⟩⟩
            case measure => simp [intOf]; omega
          · have dj : decide ((j : Int) < n % 35) = false := by simpa using hjn
            go_wp2_with fail
            go_meet
            exact ⟨T, la, lc, ka, kc, m, Lib.hid ⟨HDP.out, HBW.out, HFW.out.1⟩, by have := HFW.out.2; omega⟩
      · go_wp2_with fail
        have eq : (IntKind.i64.wrap ((IntKind.i64.wrap h).tdiv 3)).tmod 2 = 1 := by rw [wrapU hh0 hh1, e1, wrapU (by omega) (by omega), e2]; omega
        go_loopw [6] (fun iv wr => ∃ (j : Nat) (T : Tm) (la : Option Addr) (lc : Nat) (ka : Option Addr) (kc m : Nat), iv = .int .i64 j ∧ j ≤ 34 ∧ Hid (DpR w B wr T la lc ka kc m ∧ m ≤ 2 * j)) (fun iv _ => 40 - (intOf iv).toNat)
        case atStart => exact ⟨0, _, _, _, _, _, 0, rfl, by omega, Lib.hid ⟨⟨HDP0.out, HBW0.out, Fw.var 0⟩, by omega⟩⟩
        case round =>
          obtain ⟨j, T, la, lc, ka, kc, m, rfl, hj, hD⟩ := hrel
          have HDP := Lib.hid hD.out.1.1
          have HBW := Lib.hid hD.out.1.2.1
          have HFW := Lib.hid (And.intro hD.out.1.2.2 hD.out.2)
          clear hD
          by_cases hjn : (j : Int) < n % 35
          · have dj : decide ((j : Int) < n % 35) = true := by simpa using hjn
            obtain ⟨c0, c1, c2, c3⟩ := HDP.out.cells
            have HNX : Hid (∀ wN : World, Below wr.heap.size wr wN → wN.cell? ⟨B, 0, none⟩ = some (.int .i64 T.k) ∧ wN.cell? ⟨B, 1, none⟩ = some (.int .i64 T.n) ∧ wN.cell? ⟨B, 2, none⟩ = some (.slice la T.ls.len lc) ∧ wN.cell? ⟨B, 3, none⟩ = some (.slice ka T.ks.len kc)) := Lib.hid (fun wN hX => (HDP.out.later hX).cells)
            clear c0 c1 c2 c3
            go_upto_region 8 with fail
            refine wp_region_L (fun (w' : World) => Hid (Below wr.heap.size wr w') ∧ w'.cell? ⟨B, 0, none⟩ = some (.int .i64 T.k) ∧ w'.cell? ⟨B, 1, none⟩ = some (.int .i64 T.n) ∧ w'.cell? ⟨B, 2, none⟩ = some (.slice la T.ls.len lc) ∧ w'.cell? ⟨B, 3, none⟩ = some (.slice ka T.ks.len kc)) 11 (by kernel_rfl) ?_
            have hH := (show (fun (w' : World) => Hid (Below wr.heap.size wr w') ∧ w'.cell? ⟨B, 0, none⟩ = some (.int .i64 T.k) ∧ w'.cell? ⟨B, 1, none⟩ = some (.int .i64 T.n) ∧ w'.cell? ⟨B, 2, none⟩ = some (.slice la T.ls.len lc) ∧ w'.cell? ⟨B, 3, none⟩ = some (.slice ka T.ks.len kc)) wr.drew from ⟨Lib.hid (Below.refl _ _).drew, HNX.out _ (Below.refl _ _).drew⟩)
            try simp only [Act.put, List.setIfInBounds_toArray, List.set_cons_zero, List.set_cons_succ]
            refine wpAnyL_take (i := 1) (v := ?_) (by simp only [List.getElem?_toArray, List.getElem?_cons_succ, List.getElem?_cons_zero]; rfl) (by kernel_rfl) (by kernel_rfl) (by kernel_rfl) (by kernel_rfl) (by intro _ _ _ h; exact h) (Or.inl ⟨by rfl, ?_⟩) hH ?_
            rotate_left
            · intro w' hSw
              obtain ⟨s0, s1, s2, s3, s4⟩ := hSw
              go_simp
              try with_reducible rfl
            try simp only [Act.put, List.setIfInBounds_toArray, List.set_cons_zero, List.set_cons_succ]
            refine wpAnyL_take (i := 2) (v := ?_) (by simp only [List.getElem?_toArray, List.getElem?_cons_succ, List.getElem?_cons_zero]; rfl) (by kernel_rfl) (by kernel_rfl) (by kernel_rfl) (by kernel_rfl) (by intro _ _ _ h; exact h) (Or.inl ⟨by rfl, ?_⟩) hH ?_
            rotate_left
            · intro w' hSw
              obtain ⟨s0, s1, s2, s3, s4⟩ := hSw
              go_simp
              try with_reducible rfl
            try simp only [Act.put, List.setIfInBounds_toArray, List.set_cons_zero, List.set_cons_succ]
            refine wpAnyL_take (i := 3) (v := ?_) (by simp only [List.getElem?_toArray, List.getElem?_cons_succ, List.getElem?_cons_zero]; rfl) (by kernel_rfl) (by kernel_rfl) (by kernel_rfl) (by kernel_rfl) (by intro _ _ _ h; exact h) (Or.inl ⟨by rfl, ?_⟩) hH ?_
            rotate_left
            · intro w' hSw
              obtain ⟨s0, s1, s2, s3, s4⟩ := hSw
              go_simp
              try with_reducible rfl
            try simp only [Act.put, List.setIfInBounds_toArray, List.set_cons_zero, List.set_cons_succ]
            refine wpAnyL_take (i := 4) (v := ?_) (by simp only [List.getElem?_toArray, List.getElem?_cons_succ, List.getElem?_cons_zero]; rfl) (by kernel_rfl) (by kernel_rfl) (by kernel_rfl) (by kernel_rfl) (by intro _ _ _ h; exact h) (Or.inl ⟨by rfl, ?_⟩) hH ?_
            rotate_left
            · intro w' hSw
              obtain ⟨s0, s1, s2, s3, s4⟩ := hSw
              go_simp
              try with_reducible rfl
            try simp only [Act.put, List.setIfInBounds_toArray, List.set_cons_zero, List.set_cons_succ]
            refine wpAnyL_take (i := 7) (v := ?_) (by simp only [List.getElem?_toArray, List.getElem?_cons_succ, List.getElem?_cons_zero]; rfl) (by kernel_rfl) (by kernel_rfl) (by kernel_rfl) (by kernel_rfl) (by intro _ _ _ h; exact h) (Or.inl ⟨by rfl, ?_⟩) hH ?_
            rotate_left
            · intro w' hSw
              obtain ⟨s0, s1, s2, s3, s4⟩ := hSw
              go_simp
              try with_reducible rfl
            try simp only [Act.put, List.setIfInBounds_toArray, List.set_cons_zero, List.set_cons_succ]
            refine wpAnyL_ready (rs := [0, 8]) (by kernel_rfl) (by simp) ?_
            refine AllReadyL.cons (o := _) (by simp only [List.getElem?_toArray, List.getElem?_cons_zero]; rfl) (fun K hK => ?_) ?_
            · go_simp
              have hn := heap_new (wr.drew) (.cells #[.int .i64 5, .int .i64 4] 3)
              have hn : (wr.drew.alloc (.cells #[.int .i64 5, .int .i64 4] 3)).heap[wr.heap.size]? = _ := hn
              have HI := Lib.hid hn
              have hb7 : Below (wr.drew).heap.size wr.drew (wr.drew.alloc (.cells #[.int .i64 5, .int .i64 4] 3)) := (Below.refl _ _).alloc (Nat.le_refl _) _
              have hX := Below.step hH.1.out hb7 (Nat.le_refl _)
              clear hH hb7 hn
              refine hK.out _ _ ⟨Lib.hid hX, HNX.out _ hX⟩ (fun hH => ?_)
              clear hK K hX
              try simp only [Act.put, List.setIfInBounds_toArray, List.set_cons_zero, List.set_cons_succ]
              refine wpAnyL_take (i := 5) (v := ?_) (by simp only [List.getElem?_toArray, List.getElem?_cons_succ, List.getElem?_cons_zero]; rfl) (by kernel_rfl) (by kernel_rfl) (by kernel_rfl) (by kernel_rfl) (by intro _ _ _ h; exact h) (Or.inl ⟨by rfl, ?_⟩) hH ?_
              rotate_left
              · intro w' hSw
                obtain ⟨s0, s1, s2, s3, s4⟩ := hSw
                go_simp
                try with_reducible rfl
              try simp only [Act.put, List.setIfInBounds_toArray, List.set_cons_zero, List.set_cons_succ]
              refine wpAnyL_ready (rs := [6, 8]) (by kernel_rfl) (by simp) ?_
              refine AllReadyL.cons (o := _) (by simp only [List.getElem?_toArray, List.getElem?_cons_succ, List.getElem?_cons_zero]; rfl) (fun K hK => ?_) ?_
              · have i0 := cell_at HI.out 1
                simp only [List.getElem?_toArray, List.getElem?_cons_zero, List.getElem?_cons_succ] at i0
                go_simp
                clear i0 HI
                refine hK.out _ _ hH (fun hH => ?_)
                clear hK K
                try simp only [Act.put, List.setIfInBounds_toArray, List.set_cons_zero, List.set_cons_succ]
                refine wpAnyL_ready (rs := [8]) (by kernel_rfl) (by simp) ?_
                refine AllReadyL.cons (o := _) (by simp only [List.getElem?_toArray, List.getElem?_cons_succ, List.getElem?_cons_zero]; rfl) (fun K hK => ?_) AllReadyL.nil
                go_simp
                go_at_call 13
                refine (tVar_any 0 _).mono ?_
                rintro e wq2 ⟨rfl, hb7⟩
                have hX := Below.step hH.1.out hb7 (Nat.le_refl _)
                clear hH hb7
                refine hK.out _ _ ⟨Lib.hid hX, HNX.out _ hX⟩ (fun hH => ?_)
                clear hK K hX
                try simp only [Act.put, List.setIfInBounds_toArray, List.set_cons_zero, List.set_cons_succ]
                refine wpAnyL_ready (rs := [9]) (by kernel_rfl) (by simp) ?_
                refine AllReadyL.cons (o := _) (by simp only [List.getElem?_toArray, List.getElem?_cons_succ, List.getElem?_cons_zero]; rfl) (fun K hK => ?_) AllReadyL.nil
                go_simp
                have hlt := lit_off (A := T) (C := tV 0) (lt_of_block (HDP.out.later hH.1.out).1) ((HDP.out.later hH.1.out).2) (OffIn.var _ _ _) (4)
                have HLT := Lib.hid hlt
                have hb7 : Below (wq2).heap.size wq2 (wq2.alloc (.cells #[.int .i64 T.k, .int .i64 T.n, .slice la T.ls.len lc, .slice ka T.ks.len kc, .int .i64 1, .int .i64 0, .slice none 0 0, .slice none 0 0] 25)) := (Below.refl _ _).alloc (Nat.le_refl _) _
                have hX := Below.step hH.1.out hb7 (Nat.le_refl _)
                clear hH hb7 hlt
                refine hK.out _ _ ⟨Lib.hid hX, HNX.out _ hX⟩ (fun hH => ?_)
                clear hK K hX
                try simp only [Act.put, List.setIfInBounds_toArray, List.set_cons_zero, List.set_cons_succ]
                refine wpAnyL_ready (rs := [10]) (by kernel_rfl) (by simp) ?_
                refine AllReadyL.cons (o := _) (by simp only [List.getElem?_toArray, List.getElem?_cons_succ, List.getElem?_cons_zero]; rfl) (fun K hK => ?_) AllReadyL.nil
                go_simp
                go_at_call 12
                refine (tBind_any 4 _ 2 2 _).mono ?_
                rintro e wq4 ⟨rfl, hb7⟩
                have hX := Below.step hH.1.out hb7 (Nat.le_refl _)
                replace HLT := Lib.hid (HLT.out.later hb7)
                clear hH hb7
                refine hK.out _ _ ⟨Lib.hid hX, HNX.out _ hX⟩ (fun hH => ?_)
                clear hK K hX
                try simp only [Act.put, List.setIfInBounds_toArray, List.set_cons_zero, List.set_cons_succ]
                refine wpAnyL_last (o := _) (by kernel_rfl) (by simp only [List.getElem?_toArray, List.getElem?_cons_succ, List.getElem?_cons_zero]; rfl) (fun K hK => ?_)
                have hz := (HDP.out.later hH.1.out).1
                obtain ⟨m0, m1, m2, m3⟩ := cells4 hz
                have m4 := free_of hz
                have HP := Lib.hid (dp_put hz HLT.out (Below.step HBW.out hH.1.out (Nat.le_refl _)) hWB.out)
                clear hH hz
                go_simp
                refine hK.out _ _ ?_
                clear hK K m0 m1 m2 m3 m4
                try simp only [Act.put, List.setIfInBounds_toArray, List.set_cons_zero, List.set_cons_succ]
                refine wpAnyL_done (by kernel_rfl) ?_ _
                go_wp2_with fail
                go_roundw
                case rel => exact ⟨j + 1, _, _, _, _, _, _, by go_num, by omega, Lib.hid ⟨⟨HP.out.1, HP.out.2, HFW.out.1.two _ (Fw.var 0)⟩, by have := HFW.out.2; omega⟩⟩
                case measure => simp [intOf]; omega
              refine AllReadyL.cons (o := _) (by simp only [List.getElem?_toArray, List.getElem?_cons_succ, List.getElem?_cons_zero]; rfl) (fun K hK => ?_) AllReadyL.nil
              go_simp
              go_at_call 13
              refine (tVar_any 0 _).mono ?_
              rintro e wq1 ⟨rfl, hb7⟩
              have hX := Below.step hH.1.out hb7 (Nat.le_refl _)
              replace HI := Lib.hid ((hb7.block _ (lt_of_block HI.out)).trans HI.out)
              clear hH hb7
              refine hK.out _ _ ⟨Lib.hid hX, HNX.out _ hX⟩ (fun hH => ?_)
              clear hK K hX
              try simp only [Act.put, List.setIfInBounds_toArray, List.set_cons_zero, List.set_cons_succ]
              refine wpAnyL_ready (rs := [6, 9]) (by kernel_rfl) (by simp) ?_
              refine AllReadyL.cons (o := _) (by simp only [List.getElem?_toArray, List.getElem?_cons_succ, List.getElem?_cons_zero]; rfl) (fun K hK => ?_) ?_
              · have i0 := cell_at HI.out 1
                simp only [List.getElem?_toArray, List.getElem?_cons_zero, List.getElem?_cons_succ] at i0
                go_simp
                clear i0 HI
                refine hK.out _ _ hH (fun hH => ?_)
                clear hK K
                try simp only [Act.put, List.setIfInBounds_toArray, List.set_cons_zero, List.set_cons_succ]
                refine wpAnyL_ready (rs := [9]) (by kernel_rfl) (by simp) ?_
                refine AllReadyL.cons (o := _) (by simp only [List.getElem?_toArray, List.getElem?_cons_succ, List.getElem?_cons_zero]; rfl) (fun K hK => ?_) AllReadyL.nil
                go_simp
                have hlt := lit_off (A := T) (C := tV 0) (lt_of_block (HDP.out.later hH.1.out).1) ((HDP.out.later hH.1.out).2) (OffIn.var _ _ _) (4)
                have HLT := Lib.hid hlt
                have hb7 : Below (wq1).heap.size wq1 (wq1.alloc (.cells #[.int .i64 T.k, .int .i64 T.n, .slice la T.ls.len lc, .slice ka T.ks.len kc, .int .i64 1, .int .i64 0, .slice none 0 0, .slice none 0 0] 25)) := (Below.refl _ _).alloc (Nat.le_refl _) _
                have hX := Below.step hH.1.out hb7 (Nat.le_refl _)
                clear hH hb7 hlt
                refine hK.out _ _ ⟨Lib.hid hX, HNX.out _ hX⟩ (fun hH => ?_)
                clear hK K hX
                try simp only [Act.put, List.setIfInBounds_toArray, List.set_cons_zero, List.set_cons_succ]
                refine wpAnyL_ready (rs := [10]) (by kernel_rfl) (by simp) ?_
                refine AllReadyL.cons (o := _) (by simp only [List.getElem?_toArray, List.getElem?_cons_succ, List.getElem?_cons_zero]; rfl) (fun K hK => ?_) AllReadyL.nil
                go_simp
                go_at_call 12
                refine (tBind_any 4 _ 2 2 _).mono ?_
                rintro e wq4 ⟨rfl, hb7⟩
                have hX := Below.step hH.1.out hb7 (Nat.le_refl _)
                replace HLT := Lib.hid (HLT.out.later hb7)
                clear hH hb7
                refine hK.out _ _ ⟨Lib.hid hX, HNX.out _ hX⟩ (fun hH => ?_)
                clear hK K hX
                try simp only [Act.put, List.setIfInBounds_toArray, List.set_cons_zero, List.set_cons_succ]
                refine wpAnyL_last (o := _) (by kernel_rfl) (by simp only [List.getElem?_toArray, List.getElem?_cons_succ, List.getElem?_cons_zero]; rfl) (fun K hK => ?_)
                have hz := (HDP.out.later hH.1.out).1
                obtain ⟨m0, m1, m2, m3⟩ := cells4 hz
                have m4 := free_of hz
                have HP := Lib.hid (dp_put hz HLT.out (Below.step HBW.out hH.1.out (Nat.le_refl _)) hWB.out)
                clear hH hz
                go_simp
                refine hK.out _ _ ?_
                clear hK K m0 m1 m2 m3 m4
                try simp only [Act.put, List.setIfInBounds_toArray, List.set_cons_zero, List.set_cons_succ]
                refine wpAnyL_done (by kernel_rfl) ?_ _
                go_wp2_with fail
                go_roundw
                case rel => exact ⟨j + 1, _, _, _, _, _, _, by go_num, by omega, Lib.hid ⟨⟨HP.out.1, HP.out.2, HFW.out.1.two _ (Fw.var 0)⟩, by have := HFW.out.2; omega⟩⟩
                case measure => simp [intOf]; omega
              refine AllReadyL.cons (o := _) (by simp only [List.getElem?_toArray, List.getElem?_cons_succ, List.getElem?_cons_zero]; rfl) (fun K hK => ?_) AllReadyL.nil
              go_simp
              have hlt := lit_off (A := T) (C := tV 0) (lt_of_block (HDP.out.later hH.1.out).1) ((HDP.out.later hH.1.out).2) (OffIn.var _ _ _) (4)
              have HLT := Lib.hid hlt
              have hb7 : Below (wq1).heap.size wq1 (wq1.alloc (.cells #[.int .i64 T.k, .int .i64 T.n, .slice la T.ls.len lc, .slice ka T.ks.len kc, .int .i64 1, .int .i64 0, .slice none 0 0, .slice none 0 0] 25)) := (Below.refl _ _).alloc (Nat.le_refl _) _
              have hX := Below.step hH.1.out hb7 (Nat.le_refl _)
              replace HI := Lib.hid ((hb7.block _ (lt_of_block HI.out)).trans HI.out)
              clear hH hb7 hlt
              refine hK.out _ _ ⟨Lib.hid hX, HNX.out _ hX⟩ (fun hH => ?_)
              clear hK K hX
              try simp only [Act.put, List.setIfInBounds_toArray, List.set_cons_zero, List.set_cons_succ]
              refine wpAnyL_ready (rs := [6]) (by kernel_rfl) (by simp) ?_
              refine AllReadyL.cons (o := _) (by simp only [List.getElem?_toArray, List.getElem?_cons_succ, List.getElem?_cons_zero]; rfl) (fun K hK => ?_) AllReadyL.nil
              have i0 := cell_at HI.out 1
              simp only [List.getElem?_toArray, List.getElem?_cons_zero, List.getElem?_cons_succ] at i0
              go_simp
              clear i0 HI
              refine hK.out _ _ hH (fun hH => ?_)
              clear hK K
              try simp only [Act.put, List.setIfInBounds_toArray, List.set_cons_zero, List.set_cons_succ]
              refine wpAnyL_ready (rs := [10]) (by kernel_rfl) (by simp) ?_
              refine AllReadyL.cons (o := _) (by simp only [List.getElem?_toArray, List.getElem?_cons_succ, List.getElem?_cons_zero]; rfl) (fun K hK => ?_) AllReadyL.nil
              go_simp
              go_at_call 12
              refine (tBind_any 4 _ 2 2 _).mono ?_
              rintro e wq4 ⟨rfl, hb7⟩
              have hX := Below.step hH.1.out hb7 (Nat.le_refl _)
              replace HLT := Lib.hid (HLT.out.later hb7)
              clear hH hb7
              refine hK.out _ _ ⟨Lib.hid hX, HNX.out _ hX⟩ (fun hH => ?_)
              clear hK K hX
              try simp only [Act.put, List.setIfInBounds_toArray, List.set_cons_zero, List.set_cons_succ]
              refine wpAnyL_last (o := _) (by kernel_rfl) (by simp only [List.getElem?_toArray, List.getElem?_cons_succ, List.getElem?_cons_zero]; rfl) (fun K hK => ?_)
              have hz := (HDP.out.later hH.1.out).1
              obtain ⟨m0, m1, m2, m3⟩ := cells4 hz
              have m4 := free_of hz
              have HP := Lib.hid (dp_put hz HLT.out (Below.step HBW.out hH.1.out (Nat.le_refl _)) hWB.out)
              clear hH hz
              go_simp
              refine hK.out _ _ ?_
              clear hK K m0 m1 m2 m3 m4
              try simp only [Act.put, List.setIfInBounds_toArray, List.set_cons_zero, List.set_cons_succ]
              refine wpAnyL_done (by kernel_rfl) ?_ _
              go_wp2_with fail
              go_roundw
              case rel => exact ⟨j + 1, _, _, _, _, _, _, by go_num, by omega, Lib.hid ⟨⟨HP.out.1, HP.out.2, HFW.out.1.two _ (Fw.var 0)⟩, by have := HFW.out.2; omega⟩⟩
              case measure => simp [intOf]; omega
            refine AllReadyL.cons (o := _) (by simp only [List.getElem?_toArray, List.getElem?_cons_succ, List.getElem?_cons_zero]; rfl) (fun K hK => ?_) AllReadyL.nil
            go_simp
            go_at_call 13
            refine (tVar_any 0 _).mono ?_
            rintro e wq0 ⟨rfl, hb7⟩
            have hX := Below.step hH.1.out hb7 (Nat.le_refl _)
            clear hH hb7
            refine hK.out _ _ ⟨Lib.hid hX, HNX.out _ hX⟩ (fun hH => ?_)
            clear hK K hX
            try simp only [Act.put, List.setIfInBounds_toArray, List.set_cons_zero, List.set_cons_succ]
            refine wpAnyL_ready (rs := [0, 9]) (by kernel_rfl) (by simp) ?_
            refine AllReadyL.cons (o := _) (by simp only [List.getElem?_toArray, List.getElem?_cons_zero]; rfl) (fun K hK => ?_) ?_
            · go_simp
              have hn := heap_new (wq0) (.cells #[.int .i64 5, .int .i64 4] 3)
              have HI := Lib.hid hn
              have hb7 : Below (wq0).heap.size wq0 (wq0.alloc (.cells #[.int .i64 5, .int .i64 4] 3)) := (Below.refl _ _).alloc (Nat.le_refl _) _
              have hX := Below.step hH.1.out hb7 (Nat.le_refl _)
              clear hH hb7 hn
              refine hK.out _ _ ⟨Lib.hid hX, HNX.out _ hX⟩ (fun hH => ?_)
              clear hK K hX
              try simp only [Act.put, List.setIfInBounds_toArray, List.set_cons_zero, List.set_cons_succ]
              refine wpAnyL_take (i := 5) (v := ?_) (by simp only [List.getElem?_toArray, List.getElem?_cons_succ, List.getElem?_cons_zero]; rfl) (by kernel_rfl) (by kernel_rfl) (by kernel_rfl) (by kernel_rfl) (by intro _ _ _ h; exact h) (Or.inl ⟨by rfl, ?_⟩) hH ?_
              rotate_left
              · intro w' hSw
                obtain ⟨s0, s1, s2, s3, s4⟩ := hSw
                go_simp
                try with_reducible rfl
              try simp only [Act.put, List.setIfInBounds_toArray, List.set_cons_zero, List.set_cons_succ]
              refine wpAnyL_ready (rs := [6, 9]) (by kernel_rfl) (by simp) ?_
              refine AllReadyL.cons (o := _) (by simp only [List.getElem?_toArray, List.getElem?_cons_succ, List.getElem?_cons_zero]; rfl) (fun K hK => ?_) ?_
              · have i0 := cell_at HI.out 1
                simp only [List.getElem?_toArray, List.getElem?_cons_zero, List.getElem?_cons_succ] at i0
                go_simp
                clear i0 HI
                refine hK.out _ _ hH (fun hH => ?_)
                clear hK K
                try simp only [Act.put, List.setIfInBounds_toArray, List.set_cons_zero, List.set_cons_succ]
                refine wpAnyL_ready (rs := [9]) (by kernel_rfl) (by simp) ?_
                refine AllReadyL.cons (o := _) (by simp only [List.getElem?_toArray, List.getElem?_cons_succ, List.getElem?_cons_zero]; rfl) (fun K hK => ?_) AllReadyL.nil
                go_simp
                have hlt := lit_off (A := T) (C := tV 0) (lt_of_block (HDP.out.later hH.1.out).1) ((HDP.out.later hH.1.out).2) (OffIn.var _ _ _) (4)
                simp only [World.size_alloc] at hlt
                have HLT := Lib.hid hlt
                have hb7 : Below ((wq0.alloc (.cells #[.int .i64 5, .int .i64 4] 3))).heap.size (wq0.alloc (.cells #[.int .i64 5, .int .i64 4] 3)) ((wq0.alloc (.cells #[.int .i64 5, .int .i64 4] 3)).alloc (.cells #[.int .i64 T.k, .int .i64 T.n, .slice la T.ls.len lc, .slice ka T.ks.len kc, .int .i64 1, .int .i64 0, .slice none 0 0, .slice none 0 0] 25)) := (Below.refl _ _).alloc (Nat.le_refl _) _
                have hX := Below.step hH.1.out hb7 (Nat.le_refl _)
                clear hH hb7 hlt
                refine hK.out _ _ ⟨Lib.hid hX, HNX.out _ hX⟩ (fun hH => ?_)
                clear hK K hX
                try simp only [Act.put, List.setIfInBounds_toArray, List.set_cons_zero, List.set_cons_succ]
                refine wpAnyL_ready (rs := [10]) (by kernel_rfl) (by simp) ?_
                refine AllReadyL.cons (o := _) (by simp only [List.getElem?_toArray, List.getElem?_cons_succ, List.getElem?_cons_zero]; rfl) (fun K hK => ?_) AllReadyL.nil
                go_simp
                go_at_call 12
                refine (tBind_any 4 _ 2 2 _).mono ?_
                rintro e wq4 ⟨rfl, hb7⟩
                have hX := Below.step hH.1.out hb7 (Nat.le_refl _)
                replace HLT := Lib.hid (HLT.out.later hb7)
                clear hH hb7
                refine hK.out _ _ ⟨Lib.hid hX, HNX.out _ hX⟩ (fun hH => ?_)
                clear hK K hX
                try simp only [Act.put, List.setIfInBounds_toArray, List.set_cons_zero, List.set_cons_succ]
                refine wpAnyL_last (o := _) (by kernel_rfl) (by simp only [List.getElem?_toArray, List.getElem?_cons_succ, List.getElem?_cons_zero]; rfl) (fun K hK => ?_)
                have hz := (HDP.out.later hH.1.out).1
                obtain ⟨m0, m1, m2, m3⟩ := cells4 hz
                have m4 := free_of hz
                have HP := Lib.hid (dp_put hz HLT.out (Below.step HBW.out hH.1.out (Nat.le_refl _)) hWB.out)
                clear hH hz
                go_simp
                refine hK.out _ _ ?_
                clear hK K m0 m1 m2 m3 m4
                try simp only [Act.put, List.setIfInBounds_toArray, List.set_cons_zero, List.set_cons_succ]
                refine wpAnyL_done (by kernel_rfl) ?_ _
                go_wp2_with fail
                go_roundw
                case rel => exact ⟨j + 1, _, _, _, _, _, _, by go_num, by omega, Lib.hid ⟨⟨HP.out.1, HP.out.2, HFW.out.1.two _ (Fw.var 0)⟩, by have := HFW.out.2; omega⟩⟩
                case measure => simp [intOf]; omega
              refine AllReadyL.cons (o := _) (by simp only [List.getElem?_toArray, List.getElem?_cons_succ, List.getElem?_cons_zero]; rfl) (fun K hK => ?_) AllReadyL.nil
              go_simp
              have hlt := lit_off (A := T) (C := tV 0) (lt_of_block (HDP.out.later hH.1.out).1) ((HDP.out.later hH.1.out).2) (OffIn.var _ _ _) (4)
              simp only [World.size_alloc] at hlt
              have HLT := Lib.hid hlt
              have hb7 : Below ((wq0.alloc (.cells #[.int .i64 5, .int .i64 4] 3))).heap.size (wq0.alloc (.cells #[.int .i64 5, .int .i64 4] 3)) ((wq0.alloc (.cells #[.int .i64 5, .int .i64 4] 3)).alloc (.cells #[.int .i64 T.k, .int .i64 T.n, .slice la T.ls.len lc, .slice ka T.ks.len kc, .int .i64 1, .int .i64 0, .slice none 0 0, .slice none 0 0] 25)) := (Below.refl _ _).alloc (Nat.le_refl _) _
              have hX := Below.step hH.1.out hb7 (Nat.le_refl _)
              replace HI := Lib.hid ((hb7.block _ (lt_of_block HI.out)).trans HI.out)
              clear hH hb7 hlt
              refine hK.out _ _ ⟨Lib.hid hX, HNX.out _ hX⟩ (fun hH => ?_)
              clear hK K hX
              try simp only [Act.put, List.setIfInBounds_toArray, List.set_cons_zero, List.set_cons_succ]
              refine wpAnyL_ready (rs := [6]) (by kernel_rfl) (by simp) ?_
              refine AllReadyL.cons (o := _) (by simp only [List.getElem?_toArray, List.getElem?_cons_succ, List.getElem?_cons_zero]; rfl) (fun K hK => ?_) AllReadyL.nil
              have i0 := cell_at HI.out 1
              simp only [List.getElem?_toArray, List.getElem?_cons_zero, List.getElem?_cons_succ] at i0
              go_simp
              clear i0 HI
              refine hK.out _ _ hH (fun hH => ?_)
              clear hK K
              try simp only [Act.put, List.setIfInBounds_toArray, List.set_cons_zero, List.set_cons_succ]
              refine wpAnyL_ready (rs := [10]) (by kernel_rfl) (by simp) ?_
              refine AllReadyL.cons (o := _) (by simp only [List.getElem?_toArray, List.getElem?_cons_succ, List.getElem?_cons_zero]; rfl) (fun K hK => ?_) AllReadyL.nil
              go_simp
              go_at_call 12
              refine (tBind_any 4 _ 2 2 _).mono ?_
              rintro e wq4 ⟨rfl, hb7⟩
              have hX := Below.step hH.1.out hb7 (Nat.le_refl _)
              replace HLT := Lib.hid (HLT.out.later hb7)
              clear hH hb7
              refine hK.out _ _ ⟨Lib.hid hX, HNX.out _ hX⟩ (fun hH => ?_)
              clear hK K hX
              try simp only [Act.put, List.setIfInBounds_toArray, List.set_cons_zero, List.set_cons_succ]
              refine wpAnyL_last (o := _) (by kernel_rfl) (by simp only [List.getElem?_toArray, List.getElem?_cons_succ, List.getElem?_cons_zero]; rfl) (fun K hK => ?_)
              have hz := (HDP.out.later hH.1.out).1
              obtain ⟨m0, m1, m2, m3⟩ := cells4 hz
              have m4 := free_of hz
              have HP := Lib.hid (dp_put hz HLT.out (Below.step HBW.out hH.1.out (Nat.le_refl _)) hWB.out)
              clear hH hz
              go_simp
              refine hK.out _ _ ?_
              clear hK K m0 m1 m2 m3 m4
              try simp only [Act.put, List.setIfInBounds_toArray, List.set_cons_zero, List.set_cons_succ]
              refine wpAnyL_done (by kernel_rfl) ?_ _
              go_wp2_with fail
              go_roundw
              case rel => exact ⟨j + 1, _, _, _, _, _, _, by go_num, by omega, Lib.hid ⟨⟨HP.out.1, HP.out.2, HFW.out.1.two _ (Fw.var 0)⟩, by have := HFW.out.2; omega⟩⟩
              case measure => simp [intOf]; omega
            refine AllReadyL.cons (o := _) (by simp only [List.getElem?_toArray, List.getElem?_cons_succ, List.getElem?_cons_zero]; rfl) (fun K hK => ?_) AllReadyL.nil
            go_simp
            have hlt := lit_off (A := T) (C := tV 0) (lt_of_block (HDP.out.later hH.1.out).1) ((HDP.out.later hH.1.out).2) (OffIn.var _ _ _) (4)
            have HLT := Lib.hid hlt
            have hb7 : Below (wq0).heap.size wq0 (wq0.alloc (.cells #[.int .i64 T.k, .int .i64 T.n, .slice la T.ls.len lc, .slice ka T.ks.len kc, .int .i64 1, .int .i64 0, .slice none 0 0, .slice none 0 0] 25)) := (Below.refl _ _).alloc (Nat.le_refl _) _
            have hX := Below.step hH.1.out hb7 (Nat.le_refl _)
            clear hH hb7 hlt
            refine hK.out _ _ ⟨Lib.hid hX, HNX.out _ hX⟩ (fun hH => ?_)
            clear hK K hX
            try simp only [Act.put, List.setIfInBounds_toArray, List.set_cons_zero, List.set_cons_succ]
            refine wpAnyL_ready (rs := [0]) (by kernel_rfl) (by simp) ?_
            refine AllReadyL.cons (o := _) (by simp only [List.getElem?_toArray, List.getElem?_cons_zero]; rfl) (fun K hK => ?_) AllReadyL.nil
            go_simp
            have hn := heap_new ((wq0.alloc (.cells #[.int .i64 T.k, .int .i64 T.n, .slice la T.ls.len lc, .slice ka T.ks.len kc, .int .i64 1, .int .i64 0, .slice none 0 0, .slice none 0 0] 25))) (.cells #[.int .i64 5, .int .i64 4] 3)
            simp only [World.size_alloc] at hn
            have HI := Lib.hid hn
            have hb7 : Below ((wq0.alloc (.cells #[.int .i64 T.k, .int .i64 T.n, .slice la T.ls.len lc, .slice ka T.ks.len kc, .int .i64 1, .int .i64 0, .slice none 0 0, .slice none 0 0] 25))).heap.size (wq0.alloc (.cells #[.int .i64 T.k, .int .i64 T.n, .slice la T.ls.len lc, .slice ka T.ks.len kc, .int .i64 1, .int .i64 0, .slice none 0 0, .slice none 0 0] 25)) ((wq0.alloc (.cells #[.int .i64 T.k, .int .i64 T.n, .slice la T.ls.len lc, .slice ka T.ks.len kc, .int .i64 1, .int .i64 0, .slice none 0 0, .slice none 0 0] 25)).alloc (.cells #[.int .i64 5, .int .i64 4] 3)) := (Below.refl _ _).alloc (Nat.le_refl _) _
            have hX := Below.step hH.1.out hb7 (Nat.le_refl _)
            replace HLT := Lib.hid (HLT.out.later hb7)
            clear hH hb7 hn
            refine hK.out _ _ ⟨Lib.hid hX, HNX.out _ hX⟩ (fun hH => ?_)
            clear hK K hX
            try simp only [Act.put, List.setIfInBounds_toArray, List.set_cons_zero, List.set_cons_succ]
            refine wpAnyL_take (i := 5) (v := ?_) (by simp only [List.getElem?_toArray, List.getElem?_cons_succ, List.getElem?_cons_zero]; rfl) (by kernel_rfl) (by kernel_rfl) (by kernel_rfl) (by kernel_rfl) (by intro _ _ _ h; exact h) (Or.inl ⟨by rfl, ?_⟩) hH ?_
            rotate_left
            · intro w' hSw
              obtain ⟨s0, s1, s2, s3, s4⟩ := hSw
              go_simp
              try with_reducible rfl
            try simp only [Act.put, List.setIfInBounds_toArray, List.set_cons_zero, List.set_cons_succ]
            refine wpAnyL_ready (rs := [6]) (by kernel_rfl) (by simp) ?_
            refine AllReadyL.cons (o := _) (by simp only [List.getElem?_toArray, List.getElem?_cons_succ, List.getElem?_cons_zero]; rfl) (fun K hK => ?_) AllReadyL.nil
            have i0 := cell_at HI.out 1
            simp only [List.getElem?_toArray, List.getElem?_cons_zero, List.getElem?_cons_succ] at i0
            go_simp
            clear i0 HI
            refine hK.out _ _ hH (fun hH => ?_)
            clear hK K
            try simp only [Act.put, List.setIfInBounds_toArray, List.set_cons_zero, List.set_cons_succ]
            refine wpAnyL_ready (rs := [10]) (by kernel_rfl) (by simp) ?_
            refine AllReadyL.cons (o := _) (by simp only [List.getElem?_toArray, List.getElem?_cons_succ, List.getElem?_cons_zero]; rfl) (fun K hK => ?_) AllReadyL.nil
            go_simp
            go_at_call 12
            refine (tBind_any 4 _ 2 2 _).mono ?_
            rintro e wq4 ⟨rfl, hb7⟩
            have hX := Below.step hH.1.out hb7 (Nat.le_refl _)
            replace HLT := Lib.hid (HLT.out.later hb7)
            clear hH hb7
            refine hK.out _ _ ⟨Lib.hid hX, HNX.out _ hX⟩ (fun hH => ?_)
            clear hK K hX
            try simp only [Act.put, List.setIfInBounds_toArray, List.set_cons_zero, List.set_cons_succ]
            refine wpAnyL_last (o := _) (by kernel_rfl) (by simp only [List.getElem?_toArray, List.getElem?_cons_succ, List.getElem?_cons_zero]; rfl) (fun K hK => ?_)
            have hz := (HDP.out.later hH.1.out).1
            obtain ⟨m0, m1, m2, m3⟩ := cells4 hz
            have m4 := free_of hz
            have HP := Lib.hid (dp_put hz HLT.out (Below.step HBW.out hH.1.out (Nat.le_refl _)) hWB.out)
            clear hH hz
            go_simp
            refine hK.out _ _ ?_
            clear hK K m0 m1 m2 m3 m4
            try simp only [Act.put, List.setIfInBounds_toArray, List.set_cons_zero, List.set_cons_succ]
            refine wpAnyL_done (by kernel_rfl) ?_ _
            go_wp2_with fail
            go_roundw
            case rel => exact ⟨j + 1, _, _, _, _, _, _, by go_num, by omega, Lib.hid ⟨⟨HP.out.1, HP.out.2, HFW.out.1.two _ (Fw.var 0)⟩, by have := HFW.out.2; omega⟩⟩
            case measure => simp [intOf]; omega
          · have dj : decide ((j : Int) < n % 35) = false := by simpa using hjn
            go_wp2_with fail
            go_meet
            exact ⟨T, la, lc, ka, kc, m, Lib.hid ⟨HDP.out, HBW.out, HFW.out.1⟩, by have := HFW.out.2; omega⟩
    · go_wp2_with fail
      go_loopw [7] (fun iv wr => ∃ (j : Nat) (T : Tm) (la : Option Addr) (lc : Nat) (ka : Option Addr) (kc m : Nat), iv = .int .i64 j ∧ j ≤ 8 ∧ Hid (DpR w B wr T la lc ka kc m ∧ m + 2 ≤ 2 ^ (j + 1))) (fun iv _ => 10 - (intOf iv).toNat)
      case atStart => exact ⟨0, _, _, _, _, _, 0, rfl, by omega, Lib.hid ⟨⟨HDP0.out, HBW0.out, Fw.var 0⟩, by decide⟩⟩
      case round =>
        obtain ⟨j, T, la, lc, ka, kc, m, rfl, hj, hD⟩ := hrel
        have HDP := Lib.hid hD.out.1.1
        have HBW := Lib.hid hD.out.1.2.1
        have HFW := Lib.hid (And.intro hD.out.1.2.2 hD.out.2)
        clear hD
        by_cases hjn : (j : Int) < 8
        · have dj : decide ((j : Int) < 8) = true := by simpa using hjn
          obtain ⟨c0, c1, c2, c3⟩ := HDP.out.cells
          have hlt := lit_off (A := T) (C := T) (lt_of_block HDP.out.1) HDP.out.2 HDP.out.2 4
          have hal : Below wr.heap.size wr (wr.alloc (.cells #[.int .i64 T.k, .int .i64 T.n, .slice la T.ls.len lc, .slice ka T.ks.len kc, .int .i64 T.k, .int .i64 T.n, .slice la T.ls.len lc, .slice ka T.ks.len kc] 25)) := (Below.refl _ _).alloc (Nat.le_refl _) _
          have HL := Lib.hid hlt
          have HD2 := Lib.hid (HDP.out.later hal)
          have HB2 := Lib.hid (Below.step HBW.out hal (Nat.le_refl _))
          clear hlt hal
          go_wp2_with fail
          refine (tBind_any 4 _ 2 2 _).mono ?_
          rintro e w8 ⟨rfl, hb⟩
          have hz := (HD2.out.later hb).1
          obtain ⟨m0, m1, m2, m3⟩ := cells4 hz
          have m4 := free_of hz
          have HP := Lib.hid (dp_put hz (HL.out.later hb) (Below.step HB2.out hb (Nat.le_refl _)) hWB.out)
          clear hz hb HL HD2 HB2 c0 c1 c2 c3
          go_wp2_with fail
          go_roundw
          case rel => exact ⟨j + 1, _, _, _, _, _, _, by go_num, by omega, Lib.hid ⟨⟨HP.out.1, HP.out.2, HFW.out.1.two _ HFW.out.1⟩, by have := HFW.out.2; rw [Nat.pow_succ 2 (j + 1)]; omega⟩⟩
          case measure => simp [intOf]; omega
        · have dj : decide ((j : Int) < 8) = false := by simpa using hjn
          have hm : m ≤ 510 := by
            obtain rfl : j = 8 := by omega
            have := HFW.out.2
            simp at this
            omega
          have HS := Lib.hid (show DpR w B wr T la lc ka kc m from ⟨HDP.out, HBW.out, HFW.out.1⟩)
          clear HDP HBW HFW
          go_wp2_with fail
          go_loopw [8] (fun iv wr => ∃ (j : Nat) (T : Tm) (la : Option Addr) (lc : Nat) (ka : Option Addr) (kc m : Nat), iv = .int .i64 j ∧ j ≤ 59 ∧ Hid (DpR w B wr T la lc ka kc m ∧ m ≤ 510 + 6 * j)) (fun iv _ => 70 - (intOf iv).toNat)
          case atStart => exact ⟨0, _, _, _, _, _, m, rfl, by omega, Lib.hid ⟨HS.out, by omega⟩⟩
          case round =>
            clear HS hm
            obtain ⟨j, T, la, lc, ka, kc, m, rfl, hj, hD⟩ := hrel
            have HDP := Lib.hid hD.out.1.1
            have HBW := Lib.hid hD.out.1.2.1
            have HFW := Lib.hid (And.intro hD.out.1.2.2 hD.out.2)
            clear hD
            by_cases hjn : (j : Int) < n % 60
            · have dj : decide ((j : Int) < n % 60) = true := by simpa using hjn
              have HNX : Hid (∀ wN : World, Below wr.heap.size wr wN → wN.cell? ⟨B, 0, none⟩ = some (.int .i64 T.k) ∧ wN.cell? ⟨B, 1, none⟩ = some (.int .i64 T.n) ∧ wN.cell? ⟨B, 2, none⟩ = some (.slice la T.ls.len lc) ∧ wN.cell? ⟨B, 3, none⟩ = some (.slice ka T.ks.len kc)) := Lib.hid (fun wN hX => (HDP.out.later hX).cells)
              go_upto_region 17 with fail
              refine wp_region_L (fun (w' : World) => Hid (Below wr.heap.size wr w') ∧ w'.cell? ⟨B, 0, none⟩ = some (.int .i64 T.k) ∧ w'.cell? ⟨B, 1, none⟩ = some (.int .i64 T.n) ∧ w'.cell? ⟨B, 2, none⟩ = some (.slice la T.ls.len lc) ∧ w'.cell? ⟨B, 3, none⟩ = some (.slice ka T.ks.len kc)) 4 (by kernel_rfl) ?_
              have hH := (show (fun (w' : World) => Hid (Below wr.heap.size wr w') ∧ w'.cell? ⟨B, 0, none⟩ = some (.int .i64 T.k) ∧ w'.cell? ⟨B, 1, none⟩ = some (.int .i64 T.n) ∧ w'.cell? ⟨B, 2, none⟩ = some (.slice la T.ls.len lc) ∧ w'.cell? ⟨B, 3, none⟩ = some (.slice ka T.ks.len kc)) wr.drew from ⟨Lib.hid (Below.refl _ _).drew, HNX.out _ (Below.refl _ _).drew⟩)
              try simp only [Act.put, List.setIfInBounds_toArray, List.set_cons_zero, List.set_cons_succ]
              refine wpAnyL_take (i := 0) (v := ?_) (by simp only [List.getElem?_toArray, List.getElem?_cons_zero]; rfl) (by kernel_rfl) (by kernel_rfl) (by kernel_rfl) (by kernel_rfl) (by intro _ _ _ h; exact h) (Or.inl ⟨by rfl, ?_⟩) hH ?_
              rotate_left
              · intro w' hSw
                obtain ⟨s0, s1, s2, s3, s4⟩ := hSw
                go_simp
                try with_reducible rfl
              try simp only [Act.put, List.setIfInBounds_toArray, List.set_cons_zero, List.set_cons_succ]
              refine wpAnyL_ready (rs := [1]) (by kernel_rfl) (by simp) ?_
              refine AllReadyL.cons (o := _) (by simp only [List.getElem?_toArray, List.getElem?_cons_succ, List.getElem?_cons_zero]; rfl) (fun K hK => ?_) AllReadyL.nil
              go_simp
              go_at_call 13
              refine (tVar_any 1 _).mono ?_
              rintro e wq0 ⟨rfl, hb7⟩
              have hX := Below.step hH.1.out hb7 (Nat.le_refl _)
              clear hH hb7
              refine hK.out _ _ ⟨Lib.hid hX, HNX.out _ hX⟩ (fun hH => ?_)
              clear hK K hX
              try simp only [Act.put, List.setIfInBounds_toArray, List.set_cons_zero, List.set_cons_succ]
              refine wpAnyL_ready (rs := [2]) (by kernel_rfl) (by simp) ?_
              refine AllReadyL.cons (o := _) (by simp only [List.getElem?_toArray, List.getElem?_cons_succ, List.getElem?_cons_zero]; rfl) (fun K hK => ?_) AllReadyL.nil
              go_simp
              have hlt := lit_off (A := T) (C := tV 1) (lt_of_block (HDP.out.later hH.1.out).1) ((HDP.out.later hH.1.out).2) (OffIn.var _ _ _) (4)
              have HLT := Lib.hid hlt
              have hb7 : Below (wq0).heap.size wq0 (wq0.alloc (.cells #[.int .i64 T.k, .int .i64 T.n, .slice la T.ls.len lc, .slice ka T.ks.len kc, .int .i64 1, .int .i64 1, .slice none 0 0, .slice none 0 0] 25)) := (Below.refl _ _).alloc (Nat.le_refl _) _
              have hX := Below.step hH.1.out hb7 (Nat.le_refl _)
              clear hH hb7 hlt
              refine hK.out _ _ ⟨Lib.hid hX, HNX.out _ hX⟩ (fun hH => ?_)
              clear hK K hX
              try simp only [Act.put, List.setIfInBounds_toArray, List.set_cons_zero, List.set_cons_succ]
              refine wpAnyL_ready (rs := [3]) (by kernel_rfl) (by simp) ?_
              refine AllReadyL.cons (o := _) (by simp only [List.getElem?_toArray, List.getElem?_cons_succ, List.getElem?_cons_zero]; rfl) (fun K hK => ?_) AllReadyL.nil
              go_simp
              go_at_call 12
              refine (tBind_any 4 _ 2 2 _).mono ?_
              rintro e wq2 ⟨rfl, hb7⟩
              have hX := Below.step hH.1.out hb7 (Nat.le_refl _)
              replace HLT := Lib.hid (HLT.out.later hb7)
              clear hH hb7
              refine hK.out _ _ ⟨Lib.hid hX, HNX.out _ hX⟩ (fun hH => ?_)
              clear hK K hX
              try simp only [Act.put, List.setIfInBounds_toArray, List.set_cons_zero, List.set_cons_succ]
              refine wpAnyL_last (o := _) (by kernel_rfl) (by simp only [List.getElem?_toArray, List.getElem?_cons_succ, List.getElem?_cons_zero]; rfl) (fun K hK => ?_)
              have hz := (HDP.out.later hH.1.out).1
              obtain ⟨m0, m1, m2, m3⟩ := cells4 hz
              have m4 := free_of hz
              have HP := Lib.hid (dp_put hz HLT.out (Below.step HBW.out hH.1.out (Nat.le_refl _)) hWB.out)
              clear hH hz
              go_simp
              refine hK.out _ _ ?_
              clear hK K m0 m1 m2 m3 m4
              try simp only [Act.put, List.setIfInBounds_toArray, List.set_cons_zero, List.set_cons_succ]
              refine wpAnyL_done (by kernel_rfl) ?_ _
              clear HNX HLT
              by_cases hi : 18 < (j : Int)
              · have di : decide (18 < (j : Int)) = true := by simpa using hi
                have HFW2 := Lib.hid HFW.out.1
                have HDQ : Hid (DpAt ((((wq2.setCell ⟨B, 0, none⟩ (.int .i64 4)).setCell ⟨B, 1, none⟩ (.int .i64 0)).setCell ⟨B, 2, none⟩ (.slice none 0 0)).setCell ⟨B, 3, none⟩ (.slice (some ⟨wq0.heap.size, 0, none⟩) 2 2)) B ⟨4, 0, .nil, T.to ((tV 1).to .nil)⟩ none 0 (some ⟨wq0.heap.size, 0, none⟩) 2) := Lib.hid HP.out.1
                have HBQ : Hid (Below w.heap.size w ((((wq2.setCell ⟨B, 0, none⟩ (.int .i64 4)).setCell ⟨B, 1, none⟩ (.int .i64 0)).setCell ⟨B, 2, none⟩ (.slice none 0 0)).setCell ⟨B, 3, none⟩ (.slice (some ⟨wq0.heap.size, 0, none⟩) 2 2))) := Lib.hid HP.out.2
                have hmm := HFW.out.2
                clear HP HDP HBW HFW
                go_upto_region 19 with fail
                generalize hW1 : ((((wq2.setCell ⟨B, 0, none⟩ (.int .i64 4)).setCell ⟨B, 1, none⟩ (.int .i64 0)).setCell ⟨B, 2, none⟩ (.slice none 0 0)).setCell ⟨B, 3, none⟩ (.slice (some ⟨wq0.heap.size, 0, none⟩) 2 2)) = W1 at HDQ HBQ ⊢
                have hq : ∃ xk, DpAt W1 B ⟨4, 0, .nil, T.to ((tV 1).to .nil)⟩ none 0 xk 2 := ⟨_, HDQ.out⟩
                obtain ⟨xk, hdq⟩ := hq
                obtain ⟨b, o, rfl, la2, lc2, ka2, kc2, ⟨k0, k1, k2, k3⟩, hl, hk⟩ := kid_first hdq.2.2
                have HDP := Lib.hid hdq
                have HBW := HBQ
                have HOT : Hid (OffIn W1 B T la2 lc2 ka2 kc2) := Lib.hid ⟨hl, hk⟩
                have HNX : Hid (∀ wN : World, Below W1.heap.size W1 wN → wN.cell? ⟨B, 3, none⟩ = some (.slice (some ⟨b, o, none⟩) 2 2) ∧ wN.cell? ⟨b, o, none⟩ = some (.int .i64 T.k) ∧ wN.cell? ⟨b, o + 1, none⟩ = some (.int .i64 T.n) ∧ wN.cell? ⟨b, o + 2, none⟩ = some (.slice la2 T.ls.len lc2) ∧ wN.cell? ⟨b, o + 3, none⟩ = some (.slice ka2 T.ks.len kc2)) := Lib.hid (fun wN hX => ⟨(HDP.out.later hX).cells.2.2.2, Below.keep hX k0, Below.keep hX k1, Below.keep hX k2, Below.keep hX k3⟩)
                clear hdq hl hk k0 k1 k2 k3 HDQ HBQ hW1
                refine wp_region_L (fun (w' : World) => Hid (Below W1.heap.size W1 w') ∧ w'.cell? ⟨B, 3, none⟩ = some (.slice (some ⟨b, o, none⟩) 2 2) ∧ w'.cell? ⟨b, o, none⟩ = some (.int .i64 T.k) ∧ w'.cell? ⟨b, o + 1, none⟩ = some (.int .i64 T.n) ∧ w'.cell? ⟨b, o + 2, none⟩ = some (.slice la2 T.ls.len lc2) ∧ w'.cell? ⟨b, o + 3, none⟩ = some (.slice ka2 T.ks.len kc2)) 10 (by kernel_rfl) ?_
                have hH := (show (fun (w' : World) => Hid (Below W1.heap.size W1 w') ∧ w'.cell? ⟨B, 3, none⟩ = some (.slice (some ⟨b, o, none⟩) 2 2) ∧ w'.cell? ⟨b, o, none⟩ = some (.int .i64 T.k) ∧ w'.cell? ⟨b, o + 1, none⟩ = some (.int .i64 T.n) ∧ w'.cell? ⟨b, o + 2, none⟩ = some (.slice la2 T.ls.len lc2) ∧ w'.cell? ⟨b, o + 3, none⟩ = some (.slice ka2 T.ks.len kc2)) W1.drew from ⟨Lib.hid (Below.refl _ _).drew, HNX.out _ (Below.refl _ _).drew⟩)
                try simp only [Act.put, List.setIfInBounds_toArray, List.set_cons_zero, List.set_cons_succ]
                refine wpAnyL_take (i := 0) (v := ?_) (by simp only [List.getElem?_toArray, List.getElem?_cons_zero]; rfl) (by kernel_rfl) (by kernel_rfl) (by kernel_rfl) (by kernel_rfl) (by intro _ _ _ h; exact h) (Or.inl ⟨by rfl, ?_⟩) hH ?_
                rotate_left
                · intro w' hSw
                  obtain ⟨s0, s1, s2, s3, s4, s5⟩ := hSw
                  go_simp
                  try with_reducible rfl
                try simp only [Act.put, List.setIfInBounds_toArray, List.set_cons_zero, List.set_cons_succ]
                refine wpAnyL_take (i := 1) (v := ?_) (by simp only [List.getElem?_toArray, List.getElem?_cons_succ, List.getElem?_cons_zero]; rfl) (by kernel_rfl) (by kernel_rfl) (by kernel_rfl) (by kernel_rfl) (by intro _ _ _ h; exact h) (Or.inl ⟨by rfl, ?_⟩) hH ?_
                rotate_left
                · intro w' hSw
                  obtain ⟨s0, s1, s2, s3, s4, s5⟩ := hSw
                  go_simp
                  try with_reducible rfl
                try simp only [Act.put, List.setIfInBounds_toArray, List.set_cons_zero, List.set_cons_succ]
                refine wpAnyL_take (i := 2) (v := ?_) (by simp only [List.getElem?_toArray, List.getElem?_cons_succ, List.getElem?_cons_zero]; rfl) (by kernel_rfl) (by kernel_rfl) (by kernel_rfl) (by kernel_rfl) (by intro _ _ _ h; exact h) (Or.inl ⟨by rfl, ?_⟩) hH ?_
                rotate_left
                · intro w' hSw
                  obtain ⟨s0, s1, s2, s3, s4, s5⟩ := hSw
                  go_simp
                  try with_reducible rfl
                try simp only [Act.put, List.setIfInBounds_toArray, List.set_cons_zero, List.set_cons_succ]
                refine wpAnyL_take (i := 3) (v := ?_) (by simp only [List.getElem?_toArray, List.getElem?_cons_succ, List.getElem?_cons_zero]; rfl) (by kernel_rfl) (by kernel_rfl) (by kernel_rfl) (by kernel_rfl) (by intro _ _ _ h; exact h) (Or.inl ⟨by rfl, ?_⟩) hH ?_
                rotate_left
                · intro w' hSw
                  obtain ⟨s0, s1, s2, s3, s4, s5⟩ := hSw
                  go_simp
                  try with_reducible rfl
                try simp only [Act.put, List.setIfInBounds_toArray, List.set_cons_zero, List.set_cons_succ]
                refine wpAnyL_ready (rs := [4]) (by kernel_rfl) (by simp) ?_
                refine AllReadyL.cons (o := _) (by simp only [List.getElem?_toArray, List.getElem?_cons_succ, List.getElem?_cons_zero]; rfl) (fun K hK => ?_) AllReadyL.nil
                go_simp
                go_at_call 13
                refine (tVar_any 0 _).mono ?_
                rintro e wq0 ⟨rfl, hb7⟩
                have hX := Below.step hH.1.out hb7 (Nat.le_refl _)
                clear hH hb7
                refine hK.out _ _ ⟨Lib.hid hX, HNX.out _ hX⟩ (fun hH => ?_)
                clear hK K hX
                try simp only [Act.put, List.setIfInBounds_toArray, List.set_cons_zero, List.set_cons_succ]
                refine wpAnyL_ready (rs := [5]) (by kernel_rfl) (by simp) ?_
                refine AllReadyL.cons (o := _) (by simp only [List.getElem?_toArray, List.getElem?_cons_succ, List.getElem?_cons_zero]; rfl) (fun K hK => ?_) AllReadyL.nil
                go_simp
                go_at_call 13
                refine (tVar_any 0 _).mono ?_
                rintro e wq1 ⟨rfl, hb7⟩
                have hX := Below.step hH.1.out hb7 (Nat.le_refl _)
                clear hH hb7
                refine hK.out _ _ ⟨Lib.hid hX, HNX.out _ hX⟩ (fun hH => ?_)
                clear hK K hX
                try simp only [Act.put, List.setIfInBounds_toArray, List.set_cons_zero, List.set_cons_succ]
                refine wpAnyL_ready (rs := [6]) (by kernel_rfl) (by simp) ?_
                refine AllReadyL.cons (o := _) (by simp only [List.getElem?_toArray, List.getElem?_cons_succ, List.getElem?_cons_zero]; rfl) (fun K hK => ?_) AllReadyL.nil
                go_simp
                have hlt := lit_off (A := tV 0) (C := tV 0) (lt_of_block (HDP.out.later hH.1.out).1) (OffIn.var _ _ _) (OffIn.var _ _ _) (4)
                have HL1 := Lib.hid hlt
                have hb7 : Below (wq1).heap.size wq1 (wq1.alloc (.cells #[.int .i64 1, .int .i64 0, .slice none 0 0, .slice none 0 0, .int .i64 1, .int .i64 0, .slice none 0 0, .slice none 0 0] 25)) := (Below.refl _ _).alloc (Nat.le_refl _) _
                have hX := Below.step hH.1.out hb7 (Nat.le_refl _)
                clear hH hb7 hlt
                refine hK.out _ _ ⟨Lib.hid hX, HNX.out _ hX⟩ (fun hH => ?_)
                clear hK K hX
                try simp only [Act.put, List.setIfInBounds_toArray, List.set_cons_zero, List.set_cons_succ]
                refine wpAnyL_ready (rs := [7]) (by kernel_rfl) (by simp) ?_
                refine AllReadyL.cons (o := _) (by simp only [List.getElem?_toArray, List.getElem?_cons_succ, List.getElem?_cons_zero]; rfl) (fun K hK => ?_) AllReadyL.nil
                go_simp
                go_at_call 12
                refine (tBind_any 4 _ 2 2 _).mono ?_
                rintro e wq3 ⟨rfl, hb7⟩
                have hX := Below.step hH.1.out hb7 (Nat.le_refl _)
                replace HL1 := Lib.hid (HL1.out.later hb7)
                clear hH hb7
                refine hK.out _ _ ⟨Lib.hid hX, HNX.out _ hX⟩ (fun hH => ?_)
                clear hK K hX
                try simp only [Act.put, List.setIfInBounds_toArray, List.set_cons_zero, List.set_cons_succ]
                refine wpAnyL_ready (rs := [8]) (by kernel_rfl) (by simp) ?_
                refine AllReadyL.cons (o := _) (by simp only [List.getElem?_toArray, List.getElem?_cons_succ, List.getElem?_cons_zero]; rfl) (fun K hK => ?_) AllReadyL.nil
                go_simp
                have hlt := lit_off (A := T) (C := ⟨4, 0, .nil, (tV 0).to ((tV 0).to .nil)⟩) (lt_of_block (HDP.out.later hH.1.out).1) (HOT.out.later hH.1.out) (HL1.out) (4)
                have HLT := Lib.hid hlt
                have hb7 : Below (wq3).heap.size wq3 (wq3.alloc (.cells #[.int .i64 T.k, .int .i64 T.n, .slice la2 T.ls.len lc2, .slice ka2 T.ks.len kc2, .int .i64 4, .int .i64 0, .slice none 0 0, .slice (some ⟨wq1.heap.size, 0, none⟩) 2 2] 25)) := (Below.refl _ _).alloc (Nat.le_refl _) _
                have hX := Below.step hH.1.out hb7 (Nat.le_refl _)
                replace HL1 := Lib.hid (HL1.out.later hb7)
                clear hH hb7 hlt
                refine hK.out _ _ ⟨Lib.hid hX, HNX.out _ hX⟩ (fun hH => ?_)
                clear hK K hX
                try simp only [Act.put, List.setIfInBounds_toArray, List.set_cons_zero, List.set_cons_succ]
                refine wpAnyL_ready (rs := [9]) (by kernel_rfl) (by simp) ?_
                refine AllReadyL.cons (o := _) (by simp only [List.getElem?_toArray, List.getElem?_cons_succ, List.getElem?_cons_zero]; rfl) (fun K hK => ?_) AllReadyL.nil
                go_simp
                go_at_call 12
                refine (tBind_any 4 _ 2 2 _).mono ?_
                rintro e wq5 ⟨rfl, hb7⟩
                have hX := Below.step hH.1.out hb7 (Nat.le_refl _)
                replace HL1 := Lib.hid (HL1.out.later hb7)
                replace HLT := Lib.hid (HLT.out.later hb7)
                clear hH hb7
                refine hK.out _ _ ⟨Lib.hid hX, HNX.out _ hX⟩ (fun hH => ?_)
                clear hK K hX
                try simp only [Act.put, List.setIfInBounds_toArray, List.set_cons_zero, List.set_cons_succ]
                refine wpAnyL_last (o := _) (by kernel_rfl) (by simp only [List.getElem?_toArray, List.getElem?_cons_succ, List.getElem?_cons_zero]; rfl) (fun K hK => ?_)
                have hz := (HDP.out.later hH.1.out).1
                obtain ⟨m0, m1, m2, m3⟩ := cells4 hz
                have m4 := free_of hz
                have HP := Lib.hid (dp_put hz HLT.out (Below.step HBW.out hH.1.out (Nat.le_refl _)) hWB.out)
                clear hH hz
                go_simp
                refine hK.out _ _ ?_
                clear hK K m0 m1 m2 m3 m4
                try simp only [Act.put, List.setIfInBounds_toArray, List.set_cons_zero, List.set_cons_succ]
                refine wpAnyL_done (by kernel_rfl) ?_ _
                go_wp2_with fail
                go_roundw
                case rel => exact ⟨j + 1, _, _, _, _, _, _, by go_num, by omega, Lib.hid ⟨⟨HP.out.1, HP.out.2, HFW2.out.two _ ((Fw.var 0).two _ (Fw.var 0))⟩, by omega⟩⟩
                case measure => simp [intOf]; omega
              · have di : decide (18 < (j : Int)) = false := by simpa using hi
                go_wp2_with fail
                go_roundw
                case rel => exact ⟨j + 1, _, _, _, _, _, _, by go_num, by omega, Lib.hid ⟨⟨HP.out.1, HP.out.2, HFW.out.1.two _ (Fw.var 1)⟩, by have := HFW.out.2; omega⟩⟩
                case measure => simp [intOf]; omega
            · have dj : decide ((j : Int) < n % 60) = false := by simpa using hjn
              go_wp2_with fail
              go_meet
              exact ⟨T, la, lc, ka, kc, m, Lib.hid ⟨HDP.out, HBW.out, HFW.out.1⟩, by have := HFW.out.2; omega⟩
    · go_wp2_with fail
      refine (tVar_any _ _).mono ?_
      rintro e w2 ⟨rfl, hb2⟩
      have HD2 := Lib.hid (HDP0.out.later hb2)
      have HB2 := Lib.hid (Below.step HBW0.out hb2 (Nat.le_refl _))
      clear hb2
      go_wp2_with fail
      refine (tVar_any _ _).mono ?_
      rintro e w3 ⟨rfl, hb3⟩
      have h3 := HD2.out.later hb3
      have hlt := lit_off (A := tV (995 + n % 8)) (C := tV (995 + n / 8 % 8)) (lt_of_block h3.1) (OffIn.var _ _ _) (OffIn.var _ _ _) 5
      have hal : Below w3.heap.size w3 (w3.alloc (.cells #[.int .i64 1, .int .i64 (995 + n % 8), .slice none 0 0, .slice none 0 0, .int .i64 1, .int .i64 (995 + n / 8 % 8), .slice none 0 0, .slice none 0 0] 25)) := (Below.refl _ _).alloc (Nat.le_refl _) _
      have HL := Lib.hid hlt
      have HD4 := Lib.hid (h3.later hal)
      have HB4 := Lib.hid (Below.step (Below.step HB2.out hb3 (Nat.le_refl _)) hal (Nat.le_refl _))
      clear hlt hal h3 hb3 HD2 HB2
      go_wp2_with fail
      refine (tBind_any 5 _ 2 2 _).mono ?_
      rintro e w8 ⟨rfl, hb⟩
      have hz := (HD4.out.later hb).1
      obtain ⟨m0, m1, m2, m3⟩ := cells4 hz
      have m4 := free_of hz
      have HP := Lib.hid (dp_put hz (HL.out.later hb) (Below.step HB4.out hb (Nat.le_refl _)) hWB.out)
      clear hz hb HL HD4 HB4
      go_wp2_with fail
      go_meet
      exact ⟨_, _, _, _, _, _, Lib.hid ⟨HP.out.1, HP.out.2, (Fw.var _).two _ (Fw.var _)⟩, by omega⟩
  case rest =>
    obtain ⟨T, la, lc, ka, kc, m, hD, hm⟩ := hcut
    have HD := Lib.hid hD.out.1
    have HBW := Lib.hid hD.out.2.1
    have hs := hD.out.2.2.sm (show m ≤ 1000000 by omega)
    have sv : ∀ x, smT (tV x) := fun x => (Fw.var x).sm (by omega)
    have HT1 : Hid (∀ W : World, Below wc.heap.size wc W → Calls Try.prog 10 #[.agg #[.int .i64 T.k, .int .i64 T.n, .slice la T.ls.len lc, .slice ka T.ks.len kc], .agg #[.int .i64 T.k, .int .i64 T.n, .slice la T.ls.len lc, .slice ka T.ks.len kc], .int .i64 0, .int .i64 3] W fun e w' => e = .returned (.bool true) ∧ Below W.heap.size W w') := Lib.hid (fun W hb => told_tm hs hs 0 3 (HD.out.later hb).2.tm (HD.out.later hb).2.tm)
    have HT2 : Hid (∀ W : World, Below wc.heap.size wc W → Calls Try.prog 10 #[.agg #[.int .i64 T.k, .int .i64 T.n, .slice la T.ls.len lc, .slice ka T.ks.len kc], .agg #[.int .i64 1, .int .i64 999, .slice none 0 0, .slice none 0 0], .int .i64 2, .int .i64 0] W fun e w' => e = .returned (.bool true) ∧ Below W.heap.size W w') := Lib.hid (fun W hb => told_tm (U := tV 999) hs (sv 999) 2 0 (HD.out.later hb).2.tm (tv_in W 999))
    have HT3 : Hid (∀ W : World, Below wc.heap.size wc W → Calls Try.prog 10 #[.agg #[.int .i64 1, .int .i64 0, .slice none 0 0, .slice none 0 0], .agg #[.int .i64 T.k, .int .i64 T.n, .slice la T.ls.len lc, .slice ka T.ks.len kc], .int .i64 0, .int .i64 1] W fun e w' => e = .returned (.bool true) ∧ Below W.heap.size W w') := Lib.hid (fun W hb => told_tm (T := tV 0) (sv 0) hs 0 1 (tv_in W 0) (HD.out.later hb).2.tm)
    clear hD hs sv hWB HDP0 HBW0
    go_upto_region 20 with fail
    generalize hW0 : wc = W1 at HD HBW HT1 HT2 HT3 ⊢
    clear hW0
    have HNX : Hid (∀ wN : World, Below W1.heap.size W1 wN → wN.cell? ⟨B, 0, none⟩ = some (.int .i64 T.k) ∧ wN.cell? ⟨B, 1, none⟩ = some (.int .i64 T.n) ∧ wN.cell? ⟨B, 2, none⟩ = some (.slice la T.ls.len lc) ∧ wN.cell? ⟨B, 3, none⟩ = some (.slice ka T.ks.len kc)) := Lib.hid (fun wN hX => (HD.out.later hX).cells)
    refine wp_region_held_drew (S := fun (w' : World) => Hid (Below W1.heap.size W1 w') ∧ w'.cell? ⟨B, 0, none⟩ = some (.int .i64 T.k) ∧ w'.cell? ⟨B, 1, none⟩ = some (.int .i64 T.n) ∧ w'.cell? ⟨B, 2, none⟩ = some (.slice la T.ls.len lc) ∧ w'.cell? ⟨B, 3, none⟩ = some (.slice ka T.ks.len kc)) (by kernel_rfl) (⟨Lib.hid (Below.refl _ _).drew, HNX.out _ (Below.refl _ _).drew⟩) (fun hH => ?_)
    try simp only [Act.put, List.setIfInBounds_toArray, List.set_cons_zero, List.set_cons_succ]
    refine wpAnyH_ready (rs := [0]) (by kernel_rfl) (by simp) ?_
    refine AllReadyH.cons (o := _) (by simp only [List.getElem?_toArray, List.getElem?_cons_zero]; rfl) (fun K hK => ?_) AllReadyH.nil
    go_simp
    go_at_call 8
    refine (awake13_any _).mono ?_
    rintro e wq0 ⟨rfl, hb7⟩
    have hX := Below.step hH.1.out hb7 (Nat.le_refl _)
    clear hH hb7
    refine hK.out _ _ ⟨Lib.hid hX, HNX.out _ hX⟩ (fun hH => ?_)
    clear hK K hX
    try simp only [Act.put, List.setIfInBounds_toArray, List.set_cons_zero, List.set_cons_succ]
    refine wpAnyH_take (i := 1) (v := ?_) (by simp only [List.getElem?_toArray, List.getElem?_cons_succ, List.getElem?_cons_zero]; rfl) (by kernel_rfl) (by kernel_rfl) (by kernel_rfl) (by intro _ _ _ h; exact h) (Or.inl ⟨by rfl, ?_⟩) hH ?_
    rotate_left
    · intro w' hSw
      obtain ⟨s0, s1, s2, s3, s4⟩ := hSw
      go_simp
      try with_reducible rfl
    try simp only [Act.put, List.setIfInBounds_toArray, List.set_cons_zero, List.set_cons_succ]
    refine wpAnyH_take (i := 2) (v := ?_) (by simp only [List.getElem?_toArray, List.getElem?_cons_succ, List.getElem?_cons_zero]; rfl) (by kernel_rfl) (by kernel_rfl) (by kernel_rfl) (by intro _ _ _ h; exact h) (Or.inl ⟨by rfl, ?_⟩) hH ?_
    rotate_left
    · intro w' hSw
      obtain ⟨s0, s1, s2, s3, s4⟩ := hSw
      go_simp
      try with_reducible rfl
    try simp only [Act.put, List.setIfInBounds_toArray, List.set_cons_zero, List.set_cons_succ]
    refine wpAnyH_take (i := 3) (v := ?_) (by simp only [List.getElem?_toArray, List.getElem?_cons_succ, List.getElem?_cons_zero]; rfl) (by kernel_rfl) (by kernel_rfl) (by kernel_rfl) (by intro _ _ _ h; exact h) (Or.inl ⟨by rfl, ?_⟩) hH ?_
    rotate_left
    · intro w' hSw
      obtain ⟨s0, s1, s2, s3, s4⟩ := hSw
      go_simp
      try with_reducible rfl
    try simp only [Act.put, List.setIfInBounds_toArray, List.set_cons_zero, List.set_cons_succ]
    refine wpAnyH_ready (rs := [4]) (by kernel_rfl) (by simp) ?_
    refine AllReadyH.cons (o := _) (by simp only [List.getElem?_toArray, List.getElem?_cons_succ, List.getElem?_cons_zero]; rfl) (fun K hK => ?_) AllReadyH.nil
    go_simp
    go_at_call 10
    refine (HT1.out _ hH.1.out).mono ?_
    rintro e wq1 ⟨rfl, hb7⟩
    have hX := Below.step hH.1.out hb7 (Nat.le_refl _)
    clear hH hb7
    refine hK.out _ _ ⟨Lib.hid hX, HNX.out _ hX⟩ (fun hH => ?_)
    clear hK K hX
    try simp only [Act.put, List.setIfInBounds_toArray, List.set_cons_zero, List.set_cons_succ]
    refine wpAnyH_take (i := 5) (v := ?_) (by simp only [List.getElem?_toArray, List.getElem?_cons_succ, List.getElem?_cons_zero]; rfl) (by kernel_rfl) (by kernel_rfl) (by kernel_rfl) (by intro _ _ _ h; exact h) (Or.inl ⟨by rfl, ?_⟩) hH ?_
    rotate_left
    · intro w' hSw
      obtain ⟨s0, s1, s2, s3, s4⟩ := hSw
      go_simp
      try with_reducible rfl
    try simp only [Act.put, List.setIfInBounds_toArray, List.set_cons_zero, List.set_cons_succ]
    refine wpAnyH_take (i := 6) (v := ?_) (by simp only [List.getElem?_toArray, List.getElem?_cons_succ, List.getElem?_cons_zero]; rfl) (by kernel_rfl) (by kernel_rfl) (by kernel_rfl) (by intro _ _ _ h; exact h) (Or.inl ⟨by rfl, ?_⟩) hH ?_
    rotate_left
    · intro w' hSw
      obtain ⟨s0, s1, s2, s3, s4⟩ := hSw
      go_simp
      try with_reducible rfl
    try simp only [Act.put, List.setIfInBounds_toArray, List.set_cons_zero, List.set_cons_succ]
    refine wpAnyH_take (i := 7) (v := ?_) (by simp only [List.getElem?_toArray, List.getElem?_cons_succ, List.getElem?_cons_zero]; rfl) (by kernel_rfl) (by kernel_rfl) (by kernel_rfl) (by intro _ _ _ h; exact h) (Or.inl ⟨by rfl, ?_⟩) hH ?_
    rotate_left
    · intro w' hSw
      obtain ⟨s0, s1, s2, s3, s4⟩ := hSw
      go_simp
      try with_reducible rfl
    try simp only [Act.put, List.setIfInBounds_toArray, List.set_cons_zero, List.set_cons_succ]
    refine wpAnyH_ready (rs := [8]) (by kernel_rfl) (by simp) ?_
    refine AllReadyH.cons (o := _) (by simp only [List.getElem?_toArray, List.getElem?_cons_succ, List.getElem?_cons_zero]; rfl) (fun K hK => ?_) AllReadyH.nil
    go_simp
    go_at_call 13
    refine (tVar_any 999 _).mono ?_
    rintro e wq2 ⟨rfl, hb7⟩
    have hX := Below.step hH.1.out hb7 (Nat.le_refl _)
    clear hH hb7
    refine hK.out _ _ ⟨Lib.hid hX, HNX.out _ hX⟩ (fun hH => ?_)
    clear hK K hX
    try simp only [Act.put, List.setIfInBounds_toArray, List.set_cons_zero, List.set_cons_succ]
    refine wpAnyH_ready (rs := [9]) (by kernel_rfl) (by simp) ?_
    refine AllReadyH.cons (o := _) (by simp only [List.getElem?_toArray, List.getElem?_cons_succ, List.getElem?_cons_zero]; rfl) (fun K hK => ?_) AllReadyH.nil
    go_simp
    go_at_call 10
    refine (HT2.out _ hH.1.out).mono ?_
    rintro e wq3 ⟨rfl, hb7⟩
    have hX := Below.step hH.1.out hb7 (Nat.le_refl _)
    clear hH hb7
    refine hK.out _ _ ⟨Lib.hid hX, HNX.out _ hX⟩ (fun hH => ?_)
    clear hK K hX
    try simp only [Act.put, List.setIfInBounds_toArray, List.set_cons_zero, List.set_cons_succ]
    refine wpAnyH_take (i := 10) (v := ?_) (by simp only [List.getElem?_toArray, List.getElem?_cons_succ, List.getElem?_cons_zero]; rfl) (by kernel_rfl) (by kernel_rfl) (by kernel_rfl) (by intro _ _ _ h; exact h) (Or.inl ⟨by rfl, ?_⟩) hH ?_
    rotate_left
    · intro w' hSw
      obtain ⟨s0, s1, s2, s3, s4⟩ := hSw
      go_simp
      try with_reducible rfl
    try simp only [Act.put, List.setIfInBounds_toArray, List.set_cons_zero, List.set_cons_succ]
    refine wpAnyH_take (i := 11) (v := ?_) (by simp only [List.getElem?_toArray, List.getElem?_cons_succ, List.getElem?_cons_zero]; rfl) (by kernel_rfl) (by kernel_rfl) (by kernel_rfl) (by intro _ _ _ h; exact h) (Or.inl ⟨by rfl, ?_⟩) hH ?_
    rotate_left
    · intro w' hSw
      obtain ⟨s0, s1, s2, s3, s4⟩ := hSw
      go_simp
      try with_reducible rfl
    try simp only [Act.put, List.setIfInBounds_toArray, List.set_cons_zero, List.set_cons_succ]
    refine wpAnyH_take (i := 13) (v := ?_) (by simp only [List.getElem?_toArray, List.getElem?_cons_succ, List.getElem?_cons_zero]; rfl) (by kernel_rfl) (by kernel_rfl) (by kernel_rfl) (by intro _ _ _ h; exact h) (Or.inl ⟨by rfl, ?_⟩) hH ?_
    rotate_left
    · intro w' hSw
      obtain ⟨s0, s1, s2, s3, s4⟩ := hSw
      go_simp
      try with_reducible rfl
    try simp only [Act.put, List.setIfInBounds_toArray, List.set_cons_zero, List.set_cons_succ]
    refine wpAnyH_ready (rs := [12]) (by kernel_rfl) (by simp) ?_
    refine AllReadyH.cons (o := _) (by simp only [List.getElem?_toArray, List.getElem?_cons_succ, List.getElem?_cons_zero]; rfl) (fun K hK => ?_) AllReadyH.nil
    go_simp
    go_at_call 13
    refine (tVar_any 0 _).mono ?_
    rintro e wq4 ⟨rfl, hb7⟩
    have hX := Below.step hH.1.out hb7 (Nat.le_refl _)
    clear hH hb7
    refine hK.out _ _ ⟨Lib.hid hX, HNX.out _ hX⟩ (fun hH => ?_)
    clear hK K hX
    try simp only [Act.put, List.setIfInBounds_toArray, List.set_cons_zero, List.set_cons_succ]
    refine wpAnyH_ready (rs := [14]) (by kernel_rfl) (by simp) ?_
    refine AllReadyH.cons (o := _) (by simp only [List.getElem?_toArray, List.getElem?_cons_succ, List.getElem?_cons_zero]; rfl) (fun K hK => ?_) AllReadyH.nil
    go_simp
    go_at_call 10
    refine (HT3.out _ hH.1.out).mono ?_
    rintro e wq5 ⟨rfl, hb7⟩
    have hX := Below.step hH.1.out hb7 (Nat.le_refl _)
    clear hH hb7
    refine hK.out _ _ ⟨Lib.hid hX, HNX.out _ hX⟩ (fun hH => ?_)
    clear hK K hX
    try simp only [Act.put, List.setIfInBounds_toArray, List.set_cons_zero, List.set_cons_succ]
    refine wpAnyH_take (i := 15) (v := ?_) (by simp only [List.getElem?_toArray, List.getElem?_cons_succ, List.getElem?_cons_zero]; rfl) (by kernel_rfl) (by kernel_rfl) (by kernel_rfl) (by intro _ _ _ h; exact h) (Or.inl ⟨by rfl, ?_⟩) hH ?_
    rotate_left
    · intro w' hSw
      obtain ⟨s0, s1, s2, s3, s4⟩ := hSw
      go_simp
      try with_reducible rfl
    try simp only [Act.put, List.setIfInBounds_toArray, List.set_cons_zero, List.set_cons_succ]
    refine wpAnyH_take (i := 16) (v := ?_) (by simp only [List.getElem?_toArray, List.getElem?_cons_succ, List.getElem?_cons_zero]; rfl) (by kernel_rfl) (by kernel_rfl) (by kernel_rfl) (by intro _ _ _ h; exact h) (Or.inl ⟨by rfl, ?_⟩) hH ?_
    rotate_left
    · intro w' hSw
      obtain ⟨s0, s1, s2, s3, s4⟩ := hSw
      go_simp
      try with_reducible rfl
    try simp only [Act.put, List.setIfInBounds_toArray, List.set_cons_zero, List.set_cons_succ]
    refine wpAnyH_done (by kernel_rfl) ?_ _
    have hEE := Lib.hid (Below.step HBW.out hH.1.out (Nat.le_refl _))
    clear hH
    go_wp2_with fail
    go_ret
    exact ⟨rfl, hEE.out⟩
end Go.Proofs.Ytokckghedpdfiaa.termDeep
namespace Go.Proofs.Ytokckghedpdfiaa.termDeep
open Go.ChangeShapes Go.WideShapes Go.ChangeAt Go.RowKit

theorem own : ownKnob Try.prog.godebug = none := by kernel_rfl
set_option maxRecDepth 100000 in
theorem lifted (os : Os) (started : os.Started) (H : Type) (enc : TypeId × Value → H) :
    ReturnsInHanded {} Try.checked os 5 .any (Rows.termDeepSpec.pre6 enc Try.prog Try.f5 Rows.termDeepRow.domain false) (Rows.termDeepSpec.post enc Try.prog Try.f5 false true false false) := by
  refine returnsInHanded_of_change (C := Try.checked) own started (by kernel_rfl) Try.func5
    (ChangeSpec.witness6 (enc := enc) (C := Try.checked) false ⟨#[], #[.int .u8 0, .int .u8 0], []⟩ 8 (by kernel_rfl) (by kernel_rfl) (by kernel_rfl) (by kernel_rfl)) ?_
  intro W base args ds gs before hval0 hW hcnd _
  have hval : ∀ (j : Nat) t v, Try.f5.params[j]? = some t → args[j]? = some v → Value.okWide Try.prog W .any base t v := hval0
  have hW' := hW
  obtain ⟨p, q, hA0, hV, rfl, hfz, hnd⟩ := hW
  have hA : DataW.TrodAll enc Try.prog W 0 (fun _ => true) true Try.f5.params.toList args.toList ds p := hA0
  rw [Try.params5] at hA hval
  obtain ⟨v0, vs0, d0, ds0, p0, q0, hargs, rfl, rfl, h0, hr0⟩ := trodAll_cons hA
  obtain ⟨v1, vs1, d1, ds1, p1, q1, rfl, rfl, rfl, h1, hr1⟩ := trodAll_cons hr0
  obtain ⟨rfl, rfl, rfl⟩ := trodAll_nil hr1
  obtain rfl : args = #[v0, v1] := by cases args; simp_all
  obtain ⟨rfl, rfl⟩ := trodVars_none hV
  obtain ⟨N, rfl, rfl, rfl, w2⟩ := open_int Try.underlying5 (hval 0 5 v0 rfl rfl) h0
  obtain ⟨M, rfl, rfl, rfl, w3⟩ := open_int Try.underlying5 (hval 1 5 v1 rfl rfl) h1
  have hN := u8_range w2
  have hM := u8_range w3
  refine (walk N M hN.1 hN.2 hM.1 hM.2 W).mono fun e W' ⟨he, hb⟩ => ?_
  subst he
  exact ⟨_, rfl, ⟨_, _, _, [], _, [], hW', trodAll_mk1 (shut_bool Try.underlying4 _), trodAll_mk2 (shut_int Try.underlying5 w2) (shut_int Try.underlying5 w3), rfl, hb.frame _, fun h => by cases h⟩⟩

theorem over : Rows.termDeepRow.holds Try.pinned (OpenSpec.ofChange Rows.termDeepSpec) :=
  OpenClaim.holds_of_wide 5 Try.f5 rfl rfl rfl rfl rfl rfl rfl ⟨rfl, rfl, rfl, rfl, rfl⟩ rfl rfl rfl rfl rfl (by kernel_rfl) Try.func5 (by kernel_rfl)
    (of_decide_eq_true (by kernel_rfl)) (by unfold Func.isWrapper; first | (rw [if_pos (by decide +kernel)]; kernel_rfl) | (rw [if_neg (by decide +kernel)]; exact ⟨rfl, rfl⟩))
    (fun os started H enc _ => lifted os started H enc)

/-- THE STATEMENT -/
theorem proved : Rows.TermDeepSaid :=
  over
#print axioms proved
end Go.Proofs.Ytokckghedpdfiaa.termDeep
