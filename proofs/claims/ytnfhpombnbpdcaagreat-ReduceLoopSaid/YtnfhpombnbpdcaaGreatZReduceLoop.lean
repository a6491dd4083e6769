/- Topenb, Lpdp, Loopw, ReduceLoop. No condition but those that stand in each statement. -/
import Derived.Test.YtnfhpombnbpdcaaGreatZQ30
import Derived.Test.YtnfhpombnbpdcaaGreatZQ29
import Derived.Test.YtnfhpombnbpdcaaGreatZQ49
import Derived.Test.YtnfhpombnbpdcaaGreatZQ37
import Derived.Test.YtnfhpombnbpdcaaGreatZQ52
import Derived.Carry
import Derived.Deep.CutBlock
/- Bytes that came in as an argument. -/
namespace Go.Proofs.YtnfhpombnbpdcaaGreat
open Go.ChangeShapes Go.WideShapes Go.ChangeAt Go.RowKit
set_option maxRecDepth 100000 in
theorem u8_range {a : Int} (w0 : (Lit.int .u8 a).wf = true) : 0 ≤ a ∧ a < 256 := by
  have e1 : IntKind.u8.min = 0 := rfl
  have e2 : IntKind.u8.max = 255 := rfl
  simp only [Lit.wf, e1, e2, Bool.and_eq_true, decide_eq_true_eq] at w0
  omega
section
variable {H : Type} {enc : TypeId × Value → H} {W : World} {base : Nat} {spare : Nat → Bool} {held : Bool}
end
end Go.Proofs.YtnfhpombnbpdcaaGreat
/- Terms in variables of the law's own, and literals of terms: what lies in memory, and where not. No condition but those that stand in each statement. -/
namespace Go.Proofs.YtnfhpombnbpdcaaGreat.reduceLoop
open Go.RowKit

def LitIn (W : World) (N : Nat) (F : Ft) : Prop := TlIn W (· < N + 1) F (some ⟨N, 0, none⟩) 2 ∧ N < W.heap.size
theorem LitIn.later {W W' : World} {N : Nat} {F : Ft} (h : LitIn W N F) (hb : Below W.heap.size W W') : LitIn W' N F := ⟨h.1.below (hb.mono h.2), Nat.lt_of_lt_of_le h.2 hb.size⟩
def BoxAt (W : World) (M : Nat) (T : Tm) (la : Option Addr) (lc : Nat) (ka : Option Addr) (kc : Nat) : Prop := W.heap[M]? = some (.cells #[.int .i64 T.k, .int .i64 T.n, .slice la T.ls.len lc, .slice ka T.ks.len kc] 30 (0, 0)) ∧ TmIn W W.heap.size T la lc ka kc
def OffIn (W : World) (M : Nat) (T : Tm) (la : Option Addr) (lc : Nat) (ka : Option Addr) (kc : Nat) : Prop := SlIn W (fun b => b ≠ M ∧ b < W.heap.size) T.ls la lc ∧ TlIn W (fun b => b ≠ M ∧ b < W.heap.size) T.ks ka kc
theorem OffIn.new {W : World} {T : Tm} {la : Option Addr} {lc : Nat} {ka : Option Addr} {kc : Nat} (h : TmIn W W.heap.size T la lc ka kc) (o : Obj) : OffIn (W.alloc o) W.heap.size T la lc ka kc := by
  have hb := h.later ((Below.refl _ _).alloc (Nat.le_refl _) o)
  exact ⟨hb.1.weak (fun b hx => ⟨Nat.ne_of_lt hx, by simp; exact Nat.lt_succ_of_lt hx⟩), hb.2.1.weak (fun b hx => ⟨Nat.ne_of_lt hx, by simp; exact Nat.lt_succ_of_lt hx⟩)⟩
theorem box_set {W : World} {M : Nat} {T : Tm} {la : Option Addr} {lc : Nat} {ka : Option Addr} {kc : Nat} {x y z u : Value} (hz : W.heap[M]? = some (.cells #[x, y, z, u] 30 (0, 0))) (h : OffIn W M T la lc ka kc) :
    BoxAt ((((W.setCell ⟨M, 0, none⟩ (.int .i64 T.k)).setCell ⟨M, 1, none⟩ (.int .i64 T.n)).setCell ⟨M, 2, none⟩ (.slice la T.ls.len lc)).setCell ⟨M, 3, none⟩ (.slice ka T.ks.len kc)) M T la lc ka kc := by
  have hg := set4_only (w := W) M (.int .i64 T.k) (.int .i64 T.n) (.slice la T.ls.len lc) (.slice ka T.ks.len kc)
  refine ⟨?_, (h.1.keep (fun b hb => Only.block hg hb.2 hb.1)).weak (fun b hb => Nat.lt_of_lt_of_le hb.2 hg.size), h.2.turn (fun b hb => Only.block hg hb.2 hb.1) (fun b hb => Nat.lt_of_lt_of_le hb.2 hg.size), Nat.le_refl _⟩
  have h1 := heap_setCell_same W M 0 _ _ (.int .i64 T.k) hz
  have h2 := heap_setCell_same _ M 1 _ _ (.int .i64 T.n) h1
  have h3 := heap_setCell_same _ M 2 _ _ (.slice la T.ls.len lc) h2
  have h4 := heap_setCell_same _ M 3 _ _ (.slice ka T.ks.len kc) h3
  exact h4
theorem box_below {a W : World} {B M : Nat} (h : Below B a W) (hM : B ≤ M) (x y z u : Value) : Below B a ((((W.setCell ⟨M, 0, none⟩ x).setCell ⟨M, 1, none⟩ y).setCell ⟨M, 2, none⟩ z).setCell ⟨M, 3, none⟩ u) := (((h.setCell hM x).setCell hM y).setCell hM z).setCell hM u
theorem lit_two {W : World} {N M : Nat} {s t : Tm} {la ka lb kb : Option Addr} {lc kc ld kd : Nat} (h : TmIn W N s la lc ka kc) (h' : TmIn W M t lb ld kb kd) :
    LitIn (W.alloc (.cells #[.int .i64 s.k, .int .i64 s.n, .slice la s.ls.len lc, .slice ka s.ks.len kc, .int .i64 t.k, .int .i64 t.n, .slice lb t.ls.len ld, .slice kb t.ks.len kd] 30)) W.heap.size (s.to (t.to .nil)) := by
  have hb : Below W.heap.size W (W.alloc (.cells #[.int .i64 s.k, .int .i64 s.n, .slice la s.ls.len lc, .slice ka s.ks.len kc, .int .i64 t.k, .int .i64 t.n, .slice lb t.ls.len ld, .slice kb t.ks.len kd] 30)) := (Below.refl _ _).alloc (Nat.le_refl _) _
  have h2 := heap_new W (.cells #[.int .i64 s.k, .int .i64 s.n, .slice la s.ls.len lc, .slice ka s.ks.len kc, .int .i64 t.k, .int .i64 t.n, .slice lb t.ls.len ld, .slice kb t.ks.len kd] 30)
  have e : ∀ x, x ≤ W.heap.size → x ≤ W.heap.size + 1 := fun x h => by omega
  exact ⟨TlIn.mk (Nat.le_refl _) (by omega) (Nat.lt_succ_self _) (FtIn.push (cell_at h2 0) (cell_at h2 1) (cell_at h2 2) ((h.1.below (hb.mono h.2.2)).mono (e _ h.2.2)) (cell_at h2 3) ((h.2.1.below (hb.mono h.2.2)).mono (e _ h.2.2)) (FtIn.push (cell_at h2 4) (cell_at h2 5) (cell_at h2 6) ((h'.1.below (hb.mono h'.2.2)).mono (e _ h'.2.2)) (cell_at h2 7) ((h'.2.1.below (hb.mono h'.2.2)).mono (e _ h'.2.2)) trivial)), by simp⟩
def sZ : Tm := ⟨2, 0, .cons 1 0 .nil .nil, .nil⟩
theorem sort_new (W : World) : Calls Tryz.prog 14 #[.agg #[.int .i64 1, .int .i64 0, .slice none 0 0]] W fun e w' => ∃ x, e = .returned (.agg #[.int .i64 2, .int .i64 0, .slice x 1 1, .slice none 0 0]) ∧ TmIn w' w'.heap.size sZ x 1 none 0 ∧ Below W.heap.size W w' := by
  refine (tSort_off 1 0 .nil none 0 (fun _ => False) W (SlIn.none _ _) (fun _ h => h.elim)).mono ?_
  rintro e w' ⟨x, rfl, h, hb⟩
  exact ⟨x, rfl, ⟨h.weak (fun _ h => h.2), TlIn.none _ _, Nat.le_refl _⟩, hb⟩
theorem tm_up {W : World} {B : Nat} {T : Tm} {la : Option Addr} {lc : Nat} {ka : Option Addr} {kc : Nat} (h : TmIn W B T la lc ka kc) : TmIn W W.heap.size T la lc ka kc := ⟨h.1.mono h.2.2, h.2.1.mono h.2.2, Nat.le_refl _⟩
def DpAt (W : World) (B : Nat) (T : Tm) (la : Option Addr) (lc : Nat) (ka : Option Addr) (kc : Nat) : Prop := W.heap[B]? = some (.cells #[.int .i64 T.k, .int .i64 T.n, .slice la T.ls.len lc, .slice ka T.ks.len kc] 30 (0, 0)) ∧ OffIn W B T la lc ka kc
section
variable {W W' : World} {B : Nat} {T A C : Tm} {la : Option Addr} {lc : Nat} {ka : Option Addr} {kc : Nat} {lb : Option Addr} {ld : Nat} {kb : Option Addr} {kd : Nat}
theorem OffIn.later (h : OffIn W B T la lc ka kc) (hb : Below W.heap.size W W') : OffIn W' B T la lc ka kc :=
  ⟨(h.1.keep (fun b hx => hb.block b hx.2)).weak (fun _ hx => ⟨hx.1, Nat.lt_of_lt_of_le hx.2 hb.size⟩), h.2.turn (fun b hx => hb.block b hx.2) (fun _ hx => ⟨hx.1, Nat.lt_of_lt_of_le hx.2 hb.size⟩)⟩
theorem OffIn.var (W : World) (B : Nat) (n : Int) : OffIn W B (tV n) none 0 none 0 := ⟨SlIn.none _ _, TlIn.none _ _⟩
theorem OffIn.tm (h : OffIn W B T la lc ka kc) : TmIn W W.heap.size T la lc ka kc := ⟨h.1.weak (fun _ h => h.2), h.2.weak (fun _ h => h.2), Nat.le_refl _⟩
theorem DpAt.later (h : DpAt W B T la lc ka kc) (hb : Below W.heap.size W W') : DpAt W' B T la lc ka kc := ⟨(hb.block _ (lt_of_block h.1)).trans h.1, h.2.later hb⟩
theorem DpAt.cells (h : DpAt W B T la lc ka kc) : W.cell? ⟨B, 0, none⟩ = some (.int .i64 T.k) ∧ W.cell? ⟨B, 1, none⟩ = some (.int .i64 T.n) ∧ W.cell? ⟨B, 2, none⟩ = some (.slice la T.ls.len lc) ∧ W.cell? ⟨B, 3, none⟩ = some (.slice ka T.ks.len kc) := cells4 h.1
/-- A term stored into the variable. -/
theorem dp_set {x y z u : Value} (hz : W.heap[B]? = some (.cells #[x, y, z, u] 30 (0, 0))) (h : OffIn W B T la lc ka kc) :
    DpAt ((((W.setCell ⟨B, 0, none⟩ (.int .i64 T.k)).setCell ⟨B, 1, none⟩ (.int .i64 T.n)).setCell ⟨B, 2, none⟩ (.slice la T.ls.len lc)).setCell ⟨B, 3, none⟩ (.slice ka T.ks.len kc)) B T la lc ka kc := by
  have hg := set4_only (w := W) B (.int .i64 T.k) (.int .i64 T.n) (.slice la T.ls.len lc) (.slice ka T.ks.len kc)
  exact ⟨(box_set hz h).1, (h.1.keep (fun b hb => Only.block hg hb.2 hb.1)).weak (fun b hb => ⟨hb.1, Nat.lt_of_lt_of_le hb.2 hg.size⟩), h.2.turn (fun b hb => Only.block hg hb.2 hb.1) (fun b hb => ⟨hb.1, Nat.lt_of_lt_of_le hb.2 hg.size⟩)⟩
theorem dp_put {x y z u : Value} {a : Nat} {w : World} (hz : W.heap[B]? = some (.cells #[x, y, z, u] 30 (0, 0))) (h : OffIn W B T la lc ka kc) (hb : Below a w W) (ha : a ≤ B) :
    DpAt ((((W.setCell ⟨B, 0, none⟩ (.int .i64 T.k)).setCell ⟨B, 1, none⟩ (.int .i64 T.n)).setCell ⟨B, 2, none⟩ (.slice la T.ls.len lc)).setCell ⟨B, 3, none⟩ (.slice ka T.ks.len kc)) B T la lc ka kc ∧
    Below a w ((((W.setCell ⟨B, 0, none⟩ (.int .i64 T.k)).setCell ⟨B, 1, none⟩ (.int .i64 T.n)).setCell ⟨B, 2, none⟩ (.slice la T.ls.len lc)).setCell ⟨B, 3, none⟩ (.slice ka T.ks.len kc)) :=
  ⟨dp_set hz h, box_below hb ha _ _ _ _⟩
/-- The literal of two terms: it does not lie in the variable. -/
theorem lit_off (hB : B < W.heap.size) (h : OffIn W B A la lc ka kc) (h' : OffIn W B C lb ld kb kd) (q : Int) :
    OffIn (W.alloc (.cells #[.int .i64 A.k, .int .i64 A.n, .slice la A.ls.len lc, .slice ka A.ks.len kc, .int .i64 C.k, .int .i64 C.n, .slice lb C.ls.len ld, .slice kb C.ks.len kd] 30)) B ⟨q, 0, .nil, A.to (C.to .nil)⟩ none 0 (some ⟨W.heap.size, 0, none⟩) 2 := by
  have hb : Below W.heap.size W (W.alloc (.cells #[.int .i64 A.k, .int .i64 A.n, .slice la A.ls.len lc, .slice ka A.ks.len kc, .int .i64 C.k, .int .i64 C.n, .slice lb C.ls.len ld, .slice kb C.ks.len kd] 30)) := (Below.refl _ _).alloc (Nat.le_refl _) _
  have h2 := heap_new W (.cells #[.int .i64 A.k, .int .i64 A.n, .slice la A.ls.len lc, .slice ka A.ks.len kc, .int .i64 C.k, .int .i64 C.n, .slice lb C.ls.len ld, .slice kb C.ks.len kd] 30)
  exact ⟨SlIn.none _ _, TlIn.mk (Nat.le_refl _) (by omega) ⟨Nat.ne_of_gt hB, lt_of_block h2⟩ (FtIn.push (cell_at h2 0) (cell_at h2 1) (cell_at h2 2) (h.later hb).1 (cell_at h2 3) (h.later hb).2 (FtIn.push (cell_at h2 4) (cell_at h2 5) (cell_at h2 6) (h'.later hb).1 (cell_at h2 7) (h'.later hb).2 trivial))⟩
end
end Go.Proofs.YtnfhpombnbpdcaaGreat.reduceLoop
/- For all numbers the law ReduceLoop returns true. No condition. -/
namespace Go.Proofs.YtnfhpombnbpdcaaGreat.reduceLoop
open Go.ChangeShapes Go.WideShapes Go.ChangeAt Go.RowKit

/-- The law's variables s and v. -/
def LpA (W : World) (B8 B9 B : Nat) (x : Option Addr) : Prop := B8 < B9 ∧ B9 < B ∧ B ≤ W.heap.size ∧ W.heap[B8]? = some (.cells #[.int .i64 2, .int .i64 0, .slice x 1 1, .slice none 0 0] 30 (0, 0)) ∧ TmIn W B8 sZ x 1 none 0 ∧ W.heap[B9]? = some (.cells #[.int .i64 1, .int .i64 0, .slice none 0 0, .slice none 0 0] 30 (0, 0))
theorem LpA.later {W W' : World} {B8 B9 B : Nat} {x : Option Addr} (h : LpA W B8 B9 B x) (hb : Below B W W') : LpA W' B8 B9 B x := by
  obtain ⟨h1, h2, h3, h4, h5, h6⟩ := h
  exact ⟨h1, h2, Nat.le_trans h3 hb.size, (hb.block _ (by omega)).trans h4, ⟨h5.1.below (hb.mono (by omega)), h5.2.1.below (hb.mono (by omega)), Nat.le_trans h5.2.2 hb.size⟩, (hb.block _ h2).trans h6⟩
theorem LpA.step {W W' : World} {B8 B9 B : Nat} {x : Option Addr} (h : LpA W B8 B9 B x) (hb : Below W.heap.size W W') : LpA W' B8 B9 B x := h.later (hb.mono h.2.2.1)
theorem LpA.up {W : World} {B8 B9 B C : Nat} {x : Option Addr} (h : LpA W B8 B9 B x) (h1 : B ≤ C) (h2 : C ≤ W.heap.size) : LpA W B8 B9 C x := ⟨h.1, Nat.lt_of_lt_of_le h.2.1 h1, h2, h.2.2.2⟩
theorem LpA.tm {W : World} {B8 B9 B : Nat} {x : Option Addr} (h : LpA W B8 B9 B x) : TmIn W W.heap.size sZ x 1 none 0 := tm_up h.2.2.2.2.1
theorem LpA.off {W : World} {B8 B9 B C : Nat} {x : Option Addr} (h : LpA W B8 B9 B x) (hC : B ≤ C) : OffIn W C sZ x 1 none 0 := by
  obtain ⟨h1, h2, h3, h4, h5, h6⟩ := h
  exact ⟨h5.1.weak (fun b hb => ⟨by omega, by omega⟩), h5.2.1.weak (fun b hb => ⟨by omega, by omega⟩)⟩
theorem LpA.cells {W : World} {B8 B9 B : Nat} {x : Option Addr} (h : LpA W B8 B9 B x) : (W.cell? ⟨B8, 0, none⟩ = some (.int .i64 2) ∧ W.cell? ⟨B8, 1, none⟩ = some (.int .i64 0) ∧ W.cell? ⟨B8, 2, none⟩ = some (.slice x 1 1) ∧ W.cell? ⟨B8, 3, none⟩ = some (.slice none 0 0)) ∧ (W.cell? ⟨B9, 0, none⟩ = some (.int .i64 1) ∧ W.cell? ⟨B9, 1, none⟩ = some (.int .i64 0) ∧ W.cell? ⟨B9, 2, none⟩ = some (.slice none 0 0) ∧ W.cell? ⟨B9, 3, none⟩ = some (.slice none 0 0)) := ⟨cells4 h.2.2.2.1, cells4 h.2.2.2.2.2⟩
/-- A term put into a variable of its own. -/
theorem dp_new {W : World} {T : Tm} {la : Option Addr} {lc : Nat} {ka : Option Addr} {kc : Nat} (h : TmIn W W.heap.size T la lc ka kc) : DpAt (W.alloc (.cells #[.int .i64 T.k, .int .i64 T.n, .slice la T.ls.len lc, .slice ka T.ks.len kc] 30)) W.heap.size T la lc ka kc := ⟨heap_new _ _, OffIn.new h _⟩
theorem LitIn.tm {W : World} {M : Nat} {s t : Tm} (h : LitIn W M (s.to (t.to .nil))) (q : Int) : TmIn W W.heap.size ⟨q, 0, .nil, s.to (t.to .nil)⟩ none 0 (some ⟨M, 0, none⟩) 2 := ⟨SlIn.none _ _, h.1.mono h.2, Nat.le_refl _⟩
/-- The literal of three terms. -/
theorem lit_three {W : World} {B : Nat} {A C D : Tm} {la : Option Addr} {lc : Nat} {ka : Option Addr} {kc : Nat} {lb : Option Addr} {ld : Nat} {kb : Option Addr} {kd : Nat} {lf : Option Addr} {lg : Nat} {kf : Option Addr} {kg : Nat} (hB : B < W.heap.size) (h : OffIn W B A la lc ka kc) (h' : OffIn W B C lb ld kb kd) (h'' : OffIn W B D lf lg kf kg) (q : Int) :
    OffIn (W.alloc (.cells #[.int .i64 A.k, .int .i64 A.n, .slice la A.ls.len lc, .slice ka A.ks.len kc, .int .i64 C.k, .int .i64 C.n, .slice lb C.ls.len ld, .slice kb C.ks.len kd, .int .i64 D.k, .int .i64 D.n, .slice lf D.ls.len lg, .slice kf D.ks.len kg] 30)) B ⟨q, 0, .nil, A.to (C.to (D.to .nil))⟩ none 0 (some ⟨W.heap.size, 0, none⟩) 3 := by
  have hb : Below W.heap.size W (W.alloc (.cells #[.int .i64 A.k, .int .i64 A.n, .slice la A.ls.len lc, .slice ka A.ks.len kc, .int .i64 C.k, .int .i64 C.n, .slice lb C.ls.len ld, .slice kb C.ks.len kd, .int .i64 D.k, .int .i64 D.n, .slice lf D.ls.len lg, .slice kf D.ks.len kg] 30)) := (Below.refl _ _).alloc (Nat.le_refl _) _
  have h2 := heap_new W (.cells #[.int .i64 A.k, .int .i64 A.n, .slice la A.ls.len lc, .slice ka A.ks.len kc, .int .i64 C.k, .int .i64 C.n, .slice lb C.ls.len ld, .slice kb C.ks.len kd, .int .i64 D.k, .int .i64 D.n, .slice lf D.ls.len lg, .slice kf D.ks.len kg] 30)
  exact ⟨SlIn.none _ _, TlIn.mk (Nat.le_refl _) (by omega) ⟨Nat.ne_of_gt hB, lt_of_block h2⟩ (FtIn.push (cell_at h2 0) (cell_at h2 1) (cell_at h2 2) (h.later hb).1 (cell_at h2 3) (h.later hb).2 (FtIn.push (cell_at h2 4) (cell_at h2 5) (cell_at h2 6) (h'.later hb).1 (cell_at h2 7) (h'.later hb).2 (FtIn.push (cell_at h2 8) (cell_at h2 9) (cell_at h2 10) (h''.later hb).1 (cell_at h2 11) (h''.later hb).2 trivial)))⟩

set_option maxRecDepth 100000 in
set_option maxHeartbeats 16000000 in
theorem walk (hR : RdC) (hr : RrC) (hA : Aw16) (f h d : Int) (hh0 : 0 ≤ h) (hd0 : 0 ≤ d) (hd1 : d < 256) (w : World) :
    Calls Tryz.prog 6 #[.int .u8 f, .int .u8 h, .int .u8 d] w fun e w' => e = .returned (.bool true) ∧ Below w.heap.size w w' := by
  have HSM : Hid (∀ (W : World) (T : Tm) (la : Option Addr) (lc : Nat) (ka : Option Addr) (kc : Nat) (n : Int), TmIn W W.heap.size T la lc ka kc → Calls Tryz.prog 10 #[.slice none 0 0, .agg #[.int .i64 T.k, .int .i64 T.n, .slice la T.ls.len lc, .slice ka T.ks.len kc], .int .i64 n] W fun e w' => e = .returned (.bool true) ∧ Below W.heap.size W w') := Lib.hid (fun W T la lc ka kc n ht => same16_any hR hr [] T n none la ka 0 lc kc W.heap.size W (dsNil _ _) ht)
  have HAW := Lib.hid hA
  have HSO := Lib.hid sort_new
  clear hR hr hA
  go_enter Tryz.func6, Tryz.ntmps6
  go_wp2_with fail
  refine (HSO.out _).mono ?_
  rintro e w1 ⟨x, rfl, hs, hb⟩
  have HS1 := Lib.hid hs
  have HB1 := Lib.hid hb
  clear hs hb HSO
  go_wp2_with fail
  refine (tVar_any 0 _).mono ?_
  rintro e w2 ⟨rfl, hb⟩
  have ha1 : Below w1.heap.size w1 (w1.alloc (.cells #[.int .i64 2, .int .i64 0, .slice x 1 1, .slice none 0 0] 30)) := (Below.refl _ _).alloc (Nat.le_refl _) _
  have HB2 := Lib.hid (Below.step (Below.step HB1.out ha1 (Nat.le_refl _)) hb (Nat.le_refl _))
  have h8 := (hb.block _ (lt_of_block (heap_new w1 (.cells #[.int .i64 2, .int .i64 0, .slice x 1 1, .slice none 0 0] 30)))).trans (heap_new w1 (.cells #[.int .i64 2, .int .i64 0, .slice x 1 1, .slice none 0 0] 30))
  have HA2 := Lib.hid (show LpA (w2.alloc (.cells #[.int .i64 1, .int .i64 0, .slice none 0 0, .slice none 0 0] 30)) w1.heap.size w2.heap.size (w2.heap.size + 1) x from
    ⟨lt_of_block h8, Nat.lt_succ_self _, by simp, (((Below.refl w2.heap.size w2).alloc (Nat.le_refl _) _).block _ (lt_of_block h8)).trans h8,
     (fun hX : Below w1.heap.size w1 (w2.alloc (.cells #[.int .i64 1, .int .i64 0, .slice none 0 0, .slice none 0 0] 30)) => ⟨HS1.out.1.below hX, HS1.out.2.1.below hX, hX.size⟩) ((Below.step ha1 hb (Nat.le_refl _)).alloc (Below.step ha1 hb (Nat.le_refl _)).size _),
     heap_new _ _⟩)
  replace HB2 := Lib.hid (HB2.out.alloc HB2.out.size (.cells #[.int .i64 1, .int .i64 0, .slice none 0 0, .slice none 0 0] 30))
  clear hb ha1 h8 HS1 HB1
  go_upto_region 4 with fail
  have hsz : (w2.alloc (.cells #[.int .i64 1, .int .i64 0, .slice none 0 0, .slice none 0 0] 30)).heap.size = w2.heap.size + 1 := by simp
  rw [← hsz] at HA2
  clear hsz
  generalize w2.alloc (.cells #[.int .i64 1, .int .i64 0, .slice none 0 0, .slice none 0 0] 30) = W2 at HA2 HB2 ⊢
  generalize w2.heap.size = B9 at HA2 ⊢
  generalize w1.heap.size = B8 at HA2 ⊢
  obtain ⟨⟨c0, c1, c2, c3⟩, ⟨d0, d1, d2, d3⟩⟩ := HA2.out.cells
  go_wp2_with fail
  refine (tBind_any 4 _ 2 2 _).mono ?_
  rintro e w3 ⟨rfl, hb⟩
  have ha : Below W2.heap.size W2 (W2.alloc (.cells #[.int .i64 1, .int .i64 0, .slice none 0 0, .slice none 0 0, .int .i64 1, .int .i64 0, .slice none 0 0, .slice none 0 0] 30)) := (Below.refl _ _).alloc (Nat.le_refl _) _
  have hT := LitIn.tm ((lit_two (⟨SlIn.none _ _, TlIn.none _ _, Nat.le_refl _⟩ : TmIn W2 W2.heap.size (tV 0) none 0 none 0) (⟨SlIn.none _ _, TlIn.none _ _, Nat.le_refl _⟩ : TmIn W2 W2.heap.size (tV 0) none 0 none 0)).later hb) 4
  have HD3 := Lib.hid (dp_new hT)
  have hX := (Below.step ha hb (Nat.le_refl _))
  have HA3 := Lib.hid (((HA2.out.step hX).up hX.size (Nat.le_refl _)).step ((Below.refl _ _).alloc (Nat.le_refl _) (.cells #[.int .i64 4, .int .i64 0, .slice none 0 0, .slice (some ⟨W2.heap.size, 0, none⟩) 2 2] 30)))
  have HB3 := Lib.hid ((Below.step HB2.out hX (Nat.le_refl _)).alloc (Below.step HB2.out hX (Nat.le_refl _)).size (.cells #[.int .i64 4, .int .i64 0, .slice none 0 0, .slice (some ⟨W2.heap.size, 0, none⟩) 2 2] 30))
  have HL := Lib.hid (Below.step HB2.out hX (Nat.le_refl _)).size
  clear hb ha hT hX c0 c1 c2 c3 d0 d1 d2 d3 HA2 HB2
  go_upto_block 0 with fail
  change Hid (LpA (w3.alloc (.cells #[.int .i64 4, .int .i64 0, .slice none 0 0, .slice (some ⟨W2.heap.size, 0, none⟩) 2 2] 30)) B8 B9 w3.heap.size x) at HA3
  change Hid (DpAt (w3.alloc (.cells #[.int .i64 4, .int .i64 0, .slice none 0 0, .slice (some ⟨W2.heap.size, 0, none⟩) 2 2] 30)) w3.heap.size ⟨4, 0, .nil, (tV 0).to ((tV 0).to .nil)⟩ none 0 (some ⟨W2.heap.size, 0, none⟩) 2) at HD3
  generalize w3.alloc (.cells #[.int .i64 4, .int .i64 0, .slice none 0 0, .slice (some ⟨W2.heap.size, 0, none⟩) 2 2] 30) = W0 at HA3 HB3 HD3 ⊢
  generalize w3.heap.size = B at HA3 HD3 HL ⊢
  generalize W2.heap.size = M2 at HD3
  go_cut [] from 23 to 57 (fun wx => ∃ (T : Tm) (la : Option Addr) (lc : Nat) (ka : Option Addr) (kc : Nat), Hid (DpAt wx B T la lc ka kc) ∧ Hid (Below B W0 wx))
  case first =>
    have e0 : h % 4 = 0 ∨ h % 4 = 1 ∨ h % 4 = 2 ∨ h % 4 = 3 := by omega
    rcases e0 with e0 | e0 | e0 | e0 <;> rw [e0] <;> clear e0
    · go_wp2_with fail
      go_meet
      exact ⟨_, _, _, _, _, HD3, Lib.hid (Below.refl _ _)⟩
    · obtain ⟨c0, c1, c2, c3⟩ := HD3.out.cells
      obtain ⟨⟨d0, d1, d2, d3⟩, ⟨d4, d5, d6, d7⟩⟩ := HA3.out.cells
      go_wp2_with fail
      refine (tBind_any 4 _ 2 2 _).mono ?_
      rintro e wq ⟨rfl, hb⟩
      have hlt : OffIn (W0.alloc (.cells #[.int .i64 4, .int .i64 0, .slice none 0 0, .slice (some ⟨M2, 0, none⟩) 2 2, .int .i64 1, .int .i64 0, .slice none 0 0, .slice none 0 0] 30)) B ⟨4, 0, .nil, (⟨4, 0, .nil, (tV 0).to ((tV 0).to .nil)⟩ : Tm).to ((tV 0).to .nil)⟩ none 0 (some ⟨W0.heap.size, 0, none⟩) 2 := lit_off (lt_of_block HD3.out.1) HD3.out.2 (OffIn.var _ _ 0) 4
      have ha : Below W0.heap.size W0 (W0.alloc (.cells #[.int .i64 4, .int .i64 0, .slice none 0 0, .slice (some ⟨M2, 0, none⟩) 2 2, .int .i64 1, .int .i64 0, .slice none 0 0, .slice none 0 0] 30)) := (Below.refl _ _).alloc (Nat.le_refl _) _
      have hX := Below.step ha hb (Nat.le_refl _)
      have hz := (HD3.out.later hX).1
      have HP := Lib.hid (dp_put hz (hlt.later hb) (hX.mono HA3.out.2.2.1) (Nat.le_refl _))
      clear c0 c1 c2 c3 d0 d1 d2 d3 d4 d5 d6 d7
      obtain ⟨m0, m1, m2, m3⟩ := cells4 hz
      have m4 := free_of hz
      clear hz hlt ha hX hb
      go_wp2_with fail
      go_meet
      exact ⟨_, _, _, _, _, Lib.hid HP.out.1, Lib.hid HP.out.2⟩
    · go_upto_region 9 with fail
      have HNX : Hid (∀ wN : World, Below W0.heap.size W0 wN → (wN.cell? ⟨B8, 0, none⟩ = some (.int .i64 2) ∧ wN.cell? ⟨B8, 1, none⟩ = some (.int .i64 0) ∧ wN.cell? ⟨B8, 2, none⟩ = some (.slice x 1 1) ∧ wN.cell? ⟨B8, 3, none⟩ = some (.slice none 0 0)) ∧ (wN.cell? ⟨B9, 0, none⟩ = some (.int .i64 1) ∧ wN.cell? ⟨B9, 1, none⟩ = some (.int .i64 0) ∧ wN.cell? ⟨B9, 2, none⟩ = some (.slice none 0 0) ∧ wN.cell? ⟨B9, 3, none⟩ = some (.slice none 0 0))) := Lib.hid (fun wN hX => (HA3.out.step hX).cells)
      refine wp_region_L (fun (w' : World) => Hid (Below W0.heap.size W0 w') ∧ (w'.cell? ⟨B8, 0, none⟩ = some (.int .i64 2) ∧ w'.cell? ⟨B8, 1, none⟩ = some (.int .i64 0) ∧ w'.cell? ⟨B8, 2, none⟩ = some (.slice x 1 1) ∧ w'.cell? ⟨B8, 3, none⟩ = some (.slice none 0 0)) ∧ (w'.cell? ⟨B9, 0, none⟩ = some (.int .i64 1) ∧ w'.cell? ⟨B9, 1, none⟩ = some (.int .i64 0) ∧ w'.cell? ⟨B9, 2, none⟩ = some (.slice none 0 0) ∧ w'.cell? ⟨B9, 3, none⟩ = some (.slice none 0 0))) 9 (by kernel_rfl) ?_
      have hH := (show (fun (w' : World) => Hid (Below W0.heap.size W0 w') ∧ (w'.cell? ⟨B8, 0, none⟩ = some (.int .i64 2) ∧ w'.cell? ⟨B8, 1, none⟩ = some (.int .i64 0) ∧ w'.cell? ⟨B8, 2, none⟩ = some (.slice x 1 1) ∧ w'.cell? ⟨B8, 3, none⟩ = some (.slice none 0 0)) ∧ (w'.cell? ⟨B9, 0, none⟩ = some (.int .i64 1) ∧ w'.cell? ⟨B9, 1, none⟩ = some (.int .i64 0) ∧ w'.cell? ⟨B9, 2, none⟩ = some (.slice none 0 0) ∧ w'.cell? ⟨B9, 3, none⟩ = some (.slice none 0 0))) W0.drew from ⟨Lib.hid (Below.refl _ _).drew, HNX.out _ (Below.refl _ _).drew⟩)
      refine tkL 0 ?_ hH ?_ ?_
      rotate_left
      · intro w' hSw
        obtain ⟨s0, ⟨s1, s2, s3, s4⟩, ⟨s5, s6, s7, s8⟩⟩ := hSw
        go_simp
        try with_reducible rfl
      refine tkL 1 ?_ hH ?_ ?_
      rotate_left
      · intro w' hSw
        obtain ⟨s0, ⟨s1, s2, s3, s4⟩, ⟨s5, s6, s7, s8⟩⟩ := hSw
        go_simp
        try with_reducible rfl
      refine tkL 2 ?_ hH ?_ ?_
      rotate_left
      · intro w' hSw
        obtain ⟨s0, ⟨s1, s2, s3, s4⟩, ⟨s5, s6, s7, s8⟩⟩ := hSw
        go_simp
        try with_reducible rfl
      refine oneL 3 (fun K hK => ?_)
      go_simp
      go_at_call 13
      refine (tVar_any 1 _).mono ?_
      rintro e wq0 ⟨rfl, hb7⟩
      have hX := Below.step hH.1.out hb7 (Nat.le_refl _)
      clear hH hb7
      have hH := (show (fun (w' : World) => Hid (Below W0.heap.size W0 w') ∧ (w'.cell? ⟨B8, 0, none⟩ = some (.int .i64 2) ∧ w'.cell? ⟨B8, 1, none⟩ = some (.int .i64 0) ∧ w'.cell? ⟨B8, 2, none⟩ = some (.slice x 1 1) ∧ w'.cell? ⟨B8, 3, none⟩ = some (.slice none 0 0)) ∧ (w'.cell? ⟨B9, 0, none⟩ = some (.int .i64 1) ∧ w'.cell? ⟨B9, 1, none⟩ = some (.int .i64 0) ∧ w'.cell? ⟨B9, 2, none⟩ = some (.slice none 0 0) ∧ w'.cell? ⟨B9, 3, none⟩ = some (.slice none 0 0))) _ from ⟨Lib.hid hX, HNX.out _ hX⟩)
      refine hK.out _ _ hH ?_
      clear hK K hX
      refine oneL 4 (fun K hK => ?_)
      go_simp
      go_at_call 13
      refine (tVar_any 1 _).mono ?_
      rintro e wq1 ⟨rfl, hb7⟩
      have hX := Below.step hH.1.out hb7 (Nat.le_refl _)
      clear hH hb7
      have hH := (show (fun (w' : World) => Hid (Below W0.heap.size W0 w') ∧ (w'.cell? ⟨B8, 0, none⟩ = some (.int .i64 2) ∧ w'.cell? ⟨B8, 1, none⟩ = some (.int .i64 0) ∧ w'.cell? ⟨B8, 2, none⟩ = some (.slice x 1 1) ∧ w'.cell? ⟨B8, 3, none⟩ = some (.slice none 0 0)) ∧ (w'.cell? ⟨B9, 0, none⟩ = some (.int .i64 1) ∧ w'.cell? ⟨B9, 1, none⟩ = some (.int .i64 0) ∧ w'.cell? ⟨B9, 2, none⟩ = some (.slice none 0 0) ∧ w'.cell? ⟨B9, 3, none⟩ = some (.slice none 0 0))) _ from ⟨Lib.hid hX, HNX.out _ hX⟩)
      refine hK.out _ _ hH ?_
      clear hK K hX
      refine oneL 5 (fun K hK => ?_)
      go_simp
      have hlt : OffIn (wq1.alloc (.cells #[.int .i64 1, .int .i64 1, .slice none 0 0, .slice none 0 0, .int .i64 1, .int .i64 1, .slice none 0 0, .slice none 0 0] 30)) B ⟨4, 0, .nil, (tV 1).to ((tV 1).to .nil)⟩ none 0 (some ⟨wq1.heap.size, 0, none⟩) 2 := lit_off (lt_of_block (HD3.out.later hH.1.out).1) (OffIn.var _ _ 1) (OffIn.var _ _ 1) 4
      have HL1 := Lib.hid hlt
      have hb7 : Below (wq1).heap.size wq1 (wq1.alloc (.cells #[.int .i64 1, .int .i64 1, .slice none 0 0, .slice none 0 0, .int .i64 1, .int .i64 1, .slice none 0 0, .slice none 0 0] 30)) := (Below.refl _ _).alloc (Nat.le_refl _) _
      have hX := Below.step hH.1.out hb7 (Nat.le_refl _)
      clear hH hb7 hlt
      have hH := (show (fun (w' : World) => Hid (Below W0.heap.size W0 w') ∧ (w'.cell? ⟨B8, 0, none⟩ = some (.int .i64 2) ∧ w'.cell? ⟨B8, 1, none⟩ = some (.int .i64 0) ∧ w'.cell? ⟨B8, 2, none⟩ = some (.slice x 1 1) ∧ w'.cell? ⟨B8, 3, none⟩ = some (.slice none 0 0)) ∧ (w'.cell? ⟨B9, 0, none⟩ = some (.int .i64 1) ∧ w'.cell? ⟨B9, 1, none⟩ = some (.int .i64 0) ∧ w'.cell? ⟨B9, 2, none⟩ = some (.slice none 0 0) ∧ w'.cell? ⟨B9, 3, none⟩ = some (.slice none 0 0))) _ from ⟨Lib.hid hX, HNX.out _ hX⟩)
      refine hK.out _ _ hH ?_
      clear hK K hX
      refine oneL 6 (fun K hK => ?_)
      go_simp
      go_at_call 15
      refine (tBind_any 4 _ 2 2 _).mono ?_
      rintro e wq2 ⟨rfl, hb7⟩
      have hX := Below.step hH.1.out hb7 (Nat.le_refl _)
      replace HL1 := Lib.hid (HL1.out.later hb7)
      clear hH hb7
      have hH := (show (fun (w' : World) => Hid (Below W0.heap.size W0 w') ∧ (w'.cell? ⟨B8, 0, none⟩ = some (.int .i64 2) ∧ w'.cell? ⟨B8, 1, none⟩ = some (.int .i64 0) ∧ w'.cell? ⟨B8, 2, none⟩ = some (.slice x 1 1) ∧ w'.cell? ⟨B8, 3, none⟩ = some (.slice none 0 0)) ∧ (w'.cell? ⟨B9, 0, none⟩ = some (.int .i64 1) ∧ w'.cell? ⟨B9, 1, none⟩ = some (.int .i64 0) ∧ w'.cell? ⟨B9, 2, none⟩ = some (.slice none 0 0) ∧ w'.cell? ⟨B9, 3, none⟩ = some (.slice none 0 0))) _ from ⟨Lib.hid hX, HNX.out _ hX⟩)
      refine hK.out _ _ hH ?_
      clear hK K hX
      refine oneL 7 (fun K hK => ?_)
      go_simp
      have hlt : OffIn (wq2.alloc (.cells #[.int .i64 2, .int .i64 0, .slice x 1 1, .slice none 0 0, .int .i64 4, .int .i64 0, .slice none 0 0, .slice (some ⟨wq1.heap.size, 0, none⟩) 2 2] 30)) B ⟨5, 0, .nil, sZ.to ((⟨4, 0, .nil, (tV 1).to ((tV 1).to .nil)⟩ : Tm).to .nil)⟩ none 0 (some ⟨wq2.heap.size, 0, none⟩) 2 := lit_off (lt_of_block (HD3.out.later hH.1.out).1) ((HA3.out.step hH.1.out).off (Nat.le_refl _)) HL1.out 5
      have HL2 := Lib.hid hlt
      have hb7 : Below (wq2).heap.size wq2 (wq2.alloc (.cells #[.int .i64 2, .int .i64 0, .slice x 1 1, .slice none 0 0, .int .i64 4, .int .i64 0, .slice none 0 0, .slice (some ⟨wq1.heap.size, 0, none⟩) 2 2] 30)) := (Below.refl _ _).alloc (Nat.le_refl _) _
      have hX := Below.step hH.1.out hb7 (Nat.le_refl _)
      replace HL1 := Lib.hid (HL1.out.later hb7)
      clear hH hb7 hlt
      have hH := (show (fun (w' : World) => Hid (Below W0.heap.size W0 w') ∧ (w'.cell? ⟨B8, 0, none⟩ = some (.int .i64 2) ∧ w'.cell? ⟨B8, 1, none⟩ = some (.int .i64 0) ∧ w'.cell? ⟨B8, 2, none⟩ = some (.slice x 1 1) ∧ w'.cell? ⟨B8, 3, none⟩ = some (.slice none 0 0)) ∧ (w'.cell? ⟨B9, 0, none⟩ = some (.int .i64 1) ∧ w'.cell? ⟨B9, 1, none⟩ = some (.int .i64 0) ∧ w'.cell? ⟨B9, 2, none⟩ = some (.slice none 0 0) ∧ w'.cell? ⟨B9, 3, none⟩ = some (.slice none 0 0))) _ from ⟨Lib.hid hX, HNX.out _ hX⟩)
      refine hK.out _ _ hH ?_
      clear hK K hX
      refine oneL 8 (fun K hK => ?_)
      go_simp
      go_at_call 15
      refine (tBind_any 5 _ 2 2 _).mono ?_
      rintro e wq3 ⟨rfl, hb7⟩
      have hX := Below.step hH.1.out hb7 (Nat.le_refl _)
      replace HL1 := Lib.hid (HL1.out.later hb7)
      replace HL2 := Lib.hid (HL2.out.later hb7)
      clear hH hb7
      have hH := (show (fun (w' : World) => Hid (Below W0.heap.size W0 w') ∧ (w'.cell? ⟨B8, 0, none⟩ = some (.int .i64 2) ∧ w'.cell? ⟨B8, 1, none⟩ = some (.int .i64 0) ∧ w'.cell? ⟨B8, 2, none⟩ = some (.slice x 1 1) ∧ w'.cell? ⟨B8, 3, none⟩ = some (.slice none 0 0)) ∧ (w'.cell? ⟨B9, 0, none⟩ = some (.int .i64 1) ∧ w'.cell? ⟨B9, 1, none⟩ = some (.int .i64 0) ∧ w'.cell? ⟨B9, 2, none⟩ = some (.slice none 0 0) ∧ w'.cell? ⟨B9, 3, none⟩ = some (.slice none 0 0))) _ from ⟨Lib.hid hX, HNX.out _ hX⟩)
      refine hK.out _ _ hH ?_
      clear hK K hX
      refine lastL (fun K hK => ?_)
      have hz := (HD3.out.later hH.1.out).1
      obtain ⟨m0, m1, m2, m3⟩ := cells4 hz
      have m4 := free_of hz
      have HP := Lib.hid (dp_put hz HL2.out (hH.1.out.mono (HA3.out.2.2.1)) (Nat.le_refl _))
      clear hH hz
      go_simp
      refine hK.out _ _ ?_
      clear hK K m0 m1 m2 m3 m4
      try simp only [Act.put, List.setIfInBounds_toArray, List.set_cons_zero, List.set_cons_succ]
      refine wpAnyL_done (by kernel_rfl) ?_ _
      go_wp2_with fail
      go_meet
      exact ⟨_, _, _, _, _, Lib.hid HP.out.1, Lib.hid HP.out.2⟩
    · go_upto_region 11 with fail
      have HNX : Hid (∀ wN : World, Below W0.heap.size W0 wN → (wN.cell? ⟨B8, 0, none⟩ = some (.int .i64 2) ∧ wN.cell? ⟨B8, 1, none⟩ = some (.int .i64 0) ∧ wN.cell? ⟨B8, 2, none⟩ = some (.slice x 1 1) ∧ wN.cell? ⟨B8, 3, none⟩ = some (.slice none 0 0)) ∧ (wN.cell? ⟨B9, 0, none⟩ = some (.int .i64 1) ∧ wN.cell? ⟨B9, 1, none⟩ = some (.int .i64 0) ∧ wN.cell? ⟨B9, 2, none⟩ = some (.slice none 0 0) ∧ wN.cell? ⟨B9, 3, none⟩ = some (.slice none 0 0))) := Lib.hid (fun wN hX => (HA3.out.step hX).cells)
      refine wp_region_L (fun (w' : World) => Hid (Below W0.heap.size W0 w') ∧ (w'.cell? ⟨B8, 0, none⟩ = some (.int .i64 2) ∧ w'.cell? ⟨B8, 1, none⟩ = some (.int .i64 0) ∧ w'.cell? ⟨B8, 2, none⟩ = some (.slice x 1 1) ∧ w'.cell? ⟨B8, 3, none⟩ = some (.slice none 0 0)) ∧ (w'.cell? ⟨B9, 0, none⟩ = some (.int .i64 1) ∧ w'.cell? ⟨B9, 1, none⟩ = some (.int .i64 0) ∧ w'.cell? ⟨B9, 2, none⟩ = some (.slice none 0 0) ∧ w'.cell? ⟨B9, 3, none⟩ = some (.slice none 0 0))) 14 (by kernel_rfl) ?_
      have hH := (show (fun (w' : World) => Hid (Below W0.heap.size W0 w') ∧ (w'.cell? ⟨B8, 0, none⟩ = some (.int .i64 2) ∧ w'.cell? ⟨B8, 1, none⟩ = some (.int .i64 0) ∧ w'.cell? ⟨B8, 2, none⟩ = some (.slice x 1 1) ∧ w'.cell? ⟨B8, 3, none⟩ = some (.slice none 0 0)) ∧ (w'.cell? ⟨B9, 0, none⟩ = some (.int .i64 1) ∧ w'.cell? ⟨B9, 1, none⟩ = some (.int .i64 0) ∧ w'.cell? ⟨B9, 2, none⟩ = some (.slice none 0 0) ∧ w'.cell? ⟨B9, 3, none⟩ = some (.slice none 0 0))) W0.drew from ⟨Lib.hid (Below.refl _ _).drew, HNX.out _ (Below.refl _ _).drew⟩)
      refine tkL 0 ?_ hH ?_ ?_
      rotate_left
      · intro w' hSw
        obtain ⟨s0, ⟨s1, s2, s3, s4⟩, ⟨s5, s6, s7, s8⟩⟩ := hSw
        go_simp
        try with_reducible rfl
      refine tkL 1 ?_ hH ?_ ?_
      rotate_left
      · intro w' hSw
        obtain ⟨s0, ⟨s1, s2, s3, s4⟩, ⟨s5, s6, s7, s8⟩⟩ := hSw
        go_simp
        try with_reducible rfl
      refine tkL 2 ?_ hH ?_ ?_
      rotate_left
      · intro w' hSw
        obtain ⟨s0, ⟨s1, s2, s3, s4⟩, ⟨s5, s6, s7, s8⟩⟩ := hSw
        go_simp
        try with_reducible rfl
      refine tkL 3 ?_ hH ?_ ?_
      rotate_left
      · intro w' hSw
        obtain ⟨s0, ⟨s1, s2, s3, s4⟩, ⟨s5, s6, s7, s8⟩⟩ := hSw
        go_simp
        try with_reducible rfl
      refine tkL 4 ?_ hH ?_ ?_
      rotate_left
      · intro w' hSw
        obtain ⟨s0, ⟨s1, s2, s3, s4⟩, ⟨s5, s6, s7, s8⟩⟩ := hSw
        go_simp
        try with_reducible rfl
      refine tkL 5 ?_ hH ?_ ?_
      rotate_left
      · intro w' hSw
        obtain ⟨s0, ⟨s1, s2, s3, s4⟩, ⟨s5, s6, s7, s8⟩⟩ := hSw
        go_simp
        try with_reducible rfl
      refine tkL 6 ?_ hH ?_ ?_
      rotate_left
      · intro w' hSw
        obtain ⟨s0, ⟨s1, s2, s3, s4⟩, ⟨s5, s6, s7, s8⟩⟩ := hSw
        go_simp
        try with_reducible rfl
      refine oneL 7 (fun K hK => ?_)
      go_simp
      go_at_call 13
      refine (tVar_any 1 _).mono ?_
      rintro e wq0 ⟨rfl, hb7⟩
      have hX := Below.step hH.1.out hb7 (Nat.le_refl _)
      clear hH hb7
      have hH := (show (fun (w' : World) => Hid (Below W0.heap.size W0 w') ∧ (w'.cell? ⟨B8, 0, none⟩ = some (.int .i64 2) ∧ w'.cell? ⟨B8, 1, none⟩ = some (.int .i64 0) ∧ w'.cell? ⟨B8, 2, none⟩ = some (.slice x 1 1) ∧ w'.cell? ⟨B8, 3, none⟩ = some (.slice none 0 0)) ∧ (w'.cell? ⟨B9, 0, none⟩ = some (.int .i64 1) ∧ w'.cell? ⟨B9, 1, none⟩ = some (.int .i64 0) ∧ w'.cell? ⟨B9, 2, none⟩ = some (.slice none 0 0) ∧ w'.cell? ⟨B9, 3, none⟩ = some (.slice none 0 0))) _ from ⟨Lib.hid hX, HNX.out _ hX⟩)
      refine hK.out _ _ hH ?_
      clear hK K hX
      refine oneL 8 (fun K hK => ?_)
      go_simp
      have hlt : OffIn (wq0.alloc (.cells #[.int .i64 1, .int .i64 0, .slice none 0 0, .slice none 0 0, .int .i64 1, .int .i64 1, .slice none 0 0, .slice none 0 0] 30)) B ⟨4, 0, .nil, (tV 0).to ((tV 1).to .nil)⟩ none 0 (some ⟨wq0.heap.size, 0, none⟩) 2 := lit_off (lt_of_block (HD3.out.later hH.1.out).1) (OffIn.var _ _ 0) (OffIn.var _ _ 1) 4
      have HL1 := Lib.hid hlt
      have hb7 : Below (wq0).heap.size wq0 (wq0.alloc (.cells #[.int .i64 1, .int .i64 0, .slice none 0 0, .slice none 0 0, .int .i64 1, .int .i64 1, .slice none 0 0, .slice none 0 0] 30)) := (Below.refl _ _).alloc (Nat.le_refl _) _
      have hX := Below.step hH.1.out hb7 (Nat.le_refl _)
      clear hH hb7 hlt
      have hH := (show (fun (w' : World) => Hid (Below W0.heap.size W0 w') ∧ (w'.cell? ⟨B8, 0, none⟩ = some (.int .i64 2) ∧ w'.cell? ⟨B8, 1, none⟩ = some (.int .i64 0) ∧ w'.cell? ⟨B8, 2, none⟩ = some (.slice x 1 1) ∧ w'.cell? ⟨B8, 3, none⟩ = some (.slice none 0 0)) ∧ (w'.cell? ⟨B9, 0, none⟩ = some (.int .i64 1) ∧ w'.cell? ⟨B9, 1, none⟩ = some (.int .i64 0) ∧ w'.cell? ⟨B9, 2, none⟩ = some (.slice none 0 0) ∧ w'.cell? ⟨B9, 3, none⟩ = some (.slice none 0 0))) _ from ⟨Lib.hid hX, HNX.out _ hX⟩)
      refine hK.out _ _ hH ?_
      clear hK K hX
      refine oneL 9 (fun K hK => ?_)
      go_simp
      go_at_call 15
      refine (tBind_any 4 _ 2 2 _).mono ?_
      rintro e wq1 ⟨rfl, hb7⟩
      have hX := Below.step hH.1.out hb7 (Nat.le_refl _)
      replace HL1 := Lib.hid (HL1.out.later hb7)
      clear hH hb7
      have hH := (show (fun (w' : World) => Hid (Below W0.heap.size W0 w') ∧ (w'.cell? ⟨B8, 0, none⟩ = some (.int .i64 2) ∧ w'.cell? ⟨B8, 1, none⟩ = some (.int .i64 0) ∧ w'.cell? ⟨B8, 2, none⟩ = some (.slice x 1 1) ∧ w'.cell? ⟨B8, 3, none⟩ = some (.slice none 0 0)) ∧ (w'.cell? ⟨B9, 0, none⟩ = some (.int .i64 1) ∧ w'.cell? ⟨B9, 1, none⟩ = some (.int .i64 0) ∧ w'.cell? ⟨B9, 2, none⟩ = some (.slice none 0 0) ∧ w'.cell? ⟨B9, 3, none⟩ = some (.slice none 0 0))) _ from ⟨Lib.hid hX, HNX.out _ hX⟩)
      refine hK.out _ _ hH ?_
      clear hK K hX
      refine oneL 10 (fun K hK => ?_)
      go_simp
      have hlt : OffIn (wq1.alloc (.cells #[.int .i64 1, .int .i64 0, .slice none 0 0, .slice none 0 0, .int .i64 4, .int .i64 0, .slice none 0 0, .slice (some ⟨wq0.heap.size, 0, none⟩) 2 2] 30)) B ⟨4, 0, .nil, (tV 0).to ((⟨4, 0, .nil, (tV 0).to ((tV 1).to .nil)⟩ : Tm).to .nil)⟩ none 0 (some ⟨wq1.heap.size, 0, none⟩) 2 := lit_off (lt_of_block (HD3.out.later hH.1.out).1) (OffIn.var _ _ 0) HL1.out 4
      have HL2 := Lib.hid hlt
      have hb7 : Below (wq1).heap.size wq1 (wq1.alloc (.cells #[.int .i64 1, .int .i64 0, .slice none 0 0, .slice none 0 0, .int .i64 4, .int .i64 0, .slice none 0 0, .slice (some ⟨wq0.heap.size, 0, none⟩) 2 2] 30)) := (Below.refl _ _).alloc (Nat.le_refl _) _
      have hX := Below.step hH.1.out hb7 (Nat.le_refl _)
      replace HL1 := Lib.hid (HL1.out.later hb7)
      clear hH hb7 hlt
      have hH := (show (fun (w' : World) => Hid (Below W0.heap.size W0 w') ∧ (w'.cell? ⟨B8, 0, none⟩ = some (.int .i64 2) ∧ w'.cell? ⟨B8, 1, none⟩ = some (.int .i64 0) ∧ w'.cell? ⟨B8, 2, none⟩ = some (.slice x 1 1) ∧ w'.cell? ⟨B8, 3, none⟩ = some (.slice none 0 0)) ∧ (w'.cell? ⟨B9, 0, none⟩ = some (.int .i64 1) ∧ w'.cell? ⟨B9, 1, none⟩ = some (.int .i64 0) ∧ w'.cell? ⟨B9, 2, none⟩ = some (.slice none 0 0) ∧ w'.cell? ⟨B9, 3, none⟩ = some (.slice none 0 0))) _ from ⟨Lib.hid hX, HNX.out _ hX⟩)
      refine hK.out _ _ hH ?_
      clear hK K hX
      refine oneL 11 (fun K hK => ?_)
      go_simp
      go_at_call 15
      refine (tBind_any 4 _ 2 2 _).mono ?_
      rintro e wq2 ⟨rfl, hb7⟩
      have hX := Below.step hH.1.out hb7 (Nat.le_refl _)
      replace HL1 := Lib.hid (HL1.out.later hb7)
      replace HL2 := Lib.hid (HL2.out.later hb7)
      clear hH hb7
      have hH := (show (fun (w' : World) => Hid (Below W0.heap.size W0 w') ∧ (w'.cell? ⟨B8, 0, none⟩ = some (.int .i64 2) ∧ w'.cell? ⟨B8, 1, none⟩ = some (.int .i64 0) ∧ w'.cell? ⟨B8, 2, none⟩ = some (.slice x 1 1) ∧ w'.cell? ⟨B8, 3, none⟩ = some (.slice none 0 0)) ∧ (w'.cell? ⟨B9, 0, none⟩ = some (.int .i64 1) ∧ w'.cell? ⟨B9, 1, none⟩ = some (.int .i64 0) ∧ w'.cell? ⟨B9, 2, none⟩ = some (.slice none 0 0) ∧ w'.cell? ⟨B9, 3, none⟩ = some (.slice none 0 0))) _ from ⟨Lib.hid hX, HNX.out _ hX⟩)
      refine hK.out _ _ hH ?_
      clear hK K hX
      refine oneL 12 (fun K hK => ?_)
      go_simp
      have hlt : OffIn (wq2.alloc (.cells #[.int .i64 2, .int .i64 0, .slice x 1 1, .slice none 0 0, .int .i64 1, .int .i64 0, .slice none 0 0, .slice none 0 0, .int .i64 4, .int .i64 0, .slice none 0 0, .slice (some ⟨wq1.heap.size, 0, none⟩) 2 2] 30)) B ⟨7, 0, .nil, sZ.to ((tV 0).to ((⟨4, 0, .nil, (tV 0).to ((⟨4, 0, .nil, (tV 0).to ((tV 1).to .nil)⟩ : Tm).to .nil)⟩ : Tm).to .nil))⟩ none 0 (some ⟨wq2.heap.size, 0, none⟩) 3 := lit_three (lt_of_block (HD3.out.later hH.1.out).1) ((HA3.out.step hH.1.out).off (Nat.le_refl _)) (OffIn.var _ _ 0) HL2.out 7
      have HL3 := Lib.hid hlt
      have hb7 : Below (wq2).heap.size wq2 (wq2.alloc (.cells #[.int .i64 2, .int .i64 0, .slice x 1 1, .slice none 0 0, .int .i64 1, .int .i64 0, .slice none 0 0, .slice none 0 0, .int .i64 4, .int .i64 0, .slice none 0 0, .slice (some ⟨wq1.heap.size, 0, none⟩) 2 2] 30)) := (Below.refl _ _).alloc (Nat.le_refl _) _
      have hX := Below.step hH.1.out hb7 (Nat.le_refl _)
      replace HL1 := Lib.hid (HL1.out.later hb7)
      replace HL2 := Lib.hid (HL2.out.later hb7)
      clear hH hb7 hlt
      have hH := (show (fun (w' : World) => Hid (Below W0.heap.size W0 w') ∧ (w'.cell? ⟨B8, 0, none⟩ = some (.int .i64 2) ∧ w'.cell? ⟨B8, 1, none⟩ = some (.int .i64 0) ∧ w'.cell? ⟨B8, 2, none⟩ = some (.slice x 1 1) ∧ w'.cell? ⟨B8, 3, none⟩ = some (.slice none 0 0)) ∧ (w'.cell? ⟨B9, 0, none⟩ = some (.int .i64 1) ∧ w'.cell? ⟨B9, 1, none⟩ = some (.int .i64 0) ∧ w'.cell? ⟨B9, 2, none⟩ = some (.slice none 0 0) ∧ w'.cell? ⟨B9, 3, none⟩ = some (.slice none 0 0))) _ from ⟨Lib.hid hX, HNX.out _ hX⟩)
      refine hK.out _ _ hH ?_
      clear hK K hX
      refine oneL 13 (fun K hK => ?_)
      go_simp
      go_at_call 15
      refine (tBind_any 7 _ 3 3 _).mono ?_
      rintro e wq3 ⟨rfl, hb7⟩
      have hX := Below.step hH.1.out hb7 (Nat.le_refl _)
      replace HL1 := Lib.hid (HL1.out.later hb7)
      replace HL2 := Lib.hid (HL2.out.later hb7)
      replace HL3 := Lib.hid (HL3.out.later hb7)
      clear hH hb7
      have hH := (show (fun (w' : World) => Hid (Below W0.heap.size W0 w') ∧ (w'.cell? ⟨B8, 0, none⟩ = some (.int .i64 2) ∧ w'.cell? ⟨B8, 1, none⟩ = some (.int .i64 0) ∧ w'.cell? ⟨B8, 2, none⟩ = some (.slice x 1 1) ∧ w'.cell? ⟨B8, 3, none⟩ = some (.slice none 0 0)) ∧ (w'.cell? ⟨B9, 0, none⟩ = some (.int .i64 1) ∧ w'.cell? ⟨B9, 1, none⟩ = some (.int .i64 0) ∧ w'.cell? ⟨B9, 2, none⟩ = some (.slice none 0 0) ∧ w'.cell? ⟨B9, 3, none⟩ = some (.slice none 0 0))) _ from ⟨Lib.hid hX, HNX.out _ hX⟩)
      refine hK.out _ _ hH ?_
      clear hK K hX
      refine lastL (fun K hK => ?_)
      have hz := (HD3.out.later hH.1.out).1
      obtain ⟨m0, m1, m2, m3⟩ := cells4 hz
      have m4 := free_of hz
      have HP := Lib.hid (dp_put hz HL3.out (hH.1.out.mono (HA3.out.2.2.1)) (Nat.le_refl _))
      clear hH hz
      go_simp
      refine hK.out _ _ ?_
      clear hK K m0 m1 m2 m3 m4
      try simp only [Act.put, List.setIfInBounds_toArray, List.set_cons_zero, List.set_cons_succ]
      refine wpAnyL_done (by kernel_rfl) ?_ _
      go_wp2_with fail
      go_meet
      exact ⟨_, _, _, _, _, Lib.hid HP.out.1, Lib.hid HP.out.2⟩
  case rest =>
    obtain ⟨T, la, lc, ka, kc, hd3, hb0⟩ := hcut
    have HDB := hd3
    have HB4 := Lib.hid (HB3.out.trans (hb0.out.mono HL.out))
    have HA4 := Lib.hid (HA3.out.later hb0.out)
    clear hd3 hb0 HA3 HB3 HD3
    obtain ⟨c0, c1, c2, c3⟩ := HDB.out.cells
    obtain ⟨⟨d0, d1, d2, d3⟩, ⟨d4, d5, d6, d7⟩⟩ := HA4.out.cells
    go_wp2_with fail
    refine (tBind_any 5 _ 2 2 _).mono ?_
    rintro e w5 ⟨rfl, hb⟩
    have hT := LitIn.tm ((lit_two HA4.out.tm HDB.out.2.tm).later hb) 5
    have hX := Below.step ((Below.refl wc.heap.size wc).alloc (Nat.le_refl _) (.cells #[.int .i64 2, .int .i64 0, .slice x 1 1, .slice none 0 0, .int .i64 T.k, .int .i64 T.n, .slice la T.ls.len lc, .slice ka T.ks.len kc] 30)) hb (Nat.le_refl _)
    have HT5 := Lib.hid (show TmIn (w5.alloc (.cells #[.int .i64 5, .int .i64 0, .slice none 0 0, .slice (some ⟨wc.heap.size, 0, none⟩) 2 2] 30)) _ ⟨5, 0, .nil, sZ.to (T.to .nil)⟩ none 0 (some ⟨wc.heap.size, 0, none⟩) 2 from hT.later ((Below.refl _ _).alloc (Nat.le_refl _) _))
    have HE5 := Lib.hid (heap_new w5 (.cells #[.int .i64 5, .int .i64 0, .slice none 0 0, .slice (some ⟨wc.heap.size, 0, none⟩) 2 2] 30))
    have hY := hX.alloc hX.size (.cells #[.int .i64 5, .int .i64 0, .slice none 0 0, .slice (some ⟨wc.heap.size, 0, none⟩) 2 2] 30)
    have HA5 := Lib.hid (HA4.out.step hY)
    have HB5 := Lib.hid (Below.step HB4.out hY (Nat.le_refl _))
    clear hb hT hX hY c0 c1 c2 c3 d0 d1 d2 d3 d4 d5 d6 d7 HA4 HB4 HDB
    go_upto_region 13 with fail
    generalize w5.alloc (.cells #[.int .i64 5, .int .i64 0, .slice none 0 0, .slice (some ⟨wc.heap.size, 0, none⟩) 2 2] 30) = W5 at HA5 HB5 HT5 HE5 ⊢
    generalize w5.heap.size = B11 at HE5 ⊢
    generalize wc.heap.size = M5 at HE5 HT5
    obtain ⟨c0, c1, c2, c3⟩ := cells4 HE5.out
    go_wp2_with fail
    refine (tBind_any 4 _ 2 2 _).mono ?_
    rintro e w6 ⟨rfl, hb⟩
    have hT := LitIn.tm ((lit_two HT5.out HT5.out).later hb) 4
    have HD6 := Lib.hid (show DpAt (w6.alloc (.cells #[.int .i64 4, .int .i64 0, .slice none 0 0, .slice (some ⟨W5.heap.size, 0, none⟩) 2 2] 30)) w6.heap.size ⟨4, 0, .nil, (⟨5, 0, .nil, sZ.to (T.to .nil)⟩ : Tm).to ((⟨5, 0, .nil, sZ.to (T.to .nil)⟩ : Tm).to .nil)⟩ none 0 (some ⟨W5.heap.size, 0, none⟩) 2 from dp_new hT)
    have hX := Below.step ((Below.refl W5.heap.size W5).alloc (Nat.le_refl _) (.cells #[.int .i64 5, .int .i64 0, .slice none 0 0, .slice (some ⟨M5, 0, none⟩) 2 2, .int .i64 5, .int .i64 0, .slice none 0 0, .slice (some ⟨M5, 0, none⟩) 2 2] 30)) hb (Nat.le_refl _)
    have HA6 := Lib.hid ((((HA5.out.step hX).up (Nat.le_trans HA5.out.2.2.1 hX.size) (Nat.le_refl _)).step ((Below.refl _ _).alloc (Nat.le_refl _) (.cells #[.int .i64 4, .int .i64 0, .slice none 0 0, .slice (some ⟨W5.heap.size, 0, none⟩) 2 2] 30))))
    have hL6 := (Below.step HB5.out hX (Nat.le_refl _)).size
    have HB6 := Lib.hid ((Below.step HB5.out hX (Nat.le_refl _)).alloc hL6 (.cells #[.int .i64 4, .int .i64 0, .slice none 0 0, .slice (some ⟨W5.heap.size, 0, none⟩) 2 2] 30))
    have HL6 := Lib.hid hL6
    clear hb hT hX c0 c1 c2 c3 HA5 HB5 HT5 HE5 hL6
    go_upto_region 14 with fail
    generalize w6.alloc (.cells #[.int .i64 4, .int .i64 0, .slice none 0 0, .slice (some ⟨W5.heap.size, 0, none⟩) 2 2] 30) = W6 at HA6 HB6 HD6 ⊢
    generalize w6.heap.size = B12 at HA6 HD6 HL6 ⊢
    generalize W5.heap.size = M6 at HD6
    have e1 : (IntKind.i64.wrap d).tmod 6 = d % 6 := by rw [show IntKind.i64.wrap d = d from IntWalk.i64_in _ (by omega)]; exact Int.tmod_eq_emod_of_nonneg hd0
    have HE1 := Lib.hid e1
    clear e1
    go_wp2_with fail
    go_loopw [13] (fun iv wr => ∃ (j : Nat) (U : Tm) (ua : Option Addr) (uc : Nat) (xa : Option Addr) (xc : Nat), iv = .int .i64 j ∧ j ≤ 6 ∧ Hid (DpAt wr B12 U ua uc xa xc ∧ Below B12 W6 wr)) (fun iv _ => 10 - (intOf iv).toNat)
    case atStart => exact ⟨0, _, _, _, _, _, rfl, by omega, Lib.hid ⟨HD6.out, Below.refl _ _⟩⟩
    case round =>
      obtain ⟨j, U, ua, uc, xa, xc, rfl, hj, hD⟩ := hrel
      have HDP := Lib.hid hD.out.1
      have HBW := Lib.hid hD.out.2
      have HA7 := Lib.hid (HA6.out.later hD.out.2)
      clear hD
      have e1 := HE1.out
      by_cases hjn : (j : Int) < d % 6
      · have dj : decide ((j : Int) < d % 6) = true := by simpa using hjn
        obtain ⟨c0, c1, c2, c3⟩ := HDP.out.cells
        obtain ⟨⟨d0, d1, d2, d3⟩, ⟨d4, d5, d6, d7⟩⟩ := HA7.out.cells
        go_wp2_with fail
        refine (tBind_any 4 _ 2 2 _).mono ?_
        rintro e wq ⟨rfl, hb⟩
        have hlt : OffIn (wr.alloc (.cells #[.int .i64 U.k, .int .i64 U.n, .slice ua U.ls.len uc, .slice xa U.ks.len xc, .int .i64 2, .int .i64 0, .slice x 1 1, .slice none 0 0] 30)) B12 ⟨4, 0, .nil, U.to (sZ.to .nil)⟩ none 0 (some ⟨wr.heap.size, 0, none⟩) 2 := lit_off (lt_of_block HDP.out.1) HDP.out.2 (HA7.out.off (Nat.le_refl _)) 4
        have ha : Below wr.heap.size wr (wr.alloc (.cells #[.int .i64 U.k, .int .i64 U.n, .slice ua U.ls.len uc, .slice xa U.ks.len xc, .int .i64 2, .int .i64 0, .slice x 1 1, .slice none 0 0] 30)) := (Below.refl _ _).alloc (Nat.le_refl _) _
        have hX := Below.step ha hb (Nat.le_refl _)
        have hz := (HDP.out.later hX).1
        have HP := Lib.hid (dp_put hz (hlt.later hb) (Below.step HBW.out hX HA6.out.2.2.1) (Nat.le_refl _))
        clear c0 c1 c2 c3 d0 d1 d2 d3 d4 d5 d6 d7
        obtain ⟨m0, m1, m2, m3⟩ := cells4 hz
        have m4 := free_of hz
        clear hz hlt ha hX hb
        go_wp2_with fail
        go_roundw
        case rel => exact ⟨j + 1, _, _, _, _, _, by go_num, by omega, Lib.hid ⟨HP.out.1, HP.out.2⟩⟩
        case measure => simp [intOf]; omega
      · have dj : decide ((j : Int) < d % 6) = false := by simpa using hjn
        have HB7 := Lib.hid (HB6.out.trans (HBW.out.mono HL6.out))
        go_wp2_with fail
        refine (HAW.out _).mono ?_
        rintro e w8 ⟨rfl, hb⟩
        have HD8 := Lib.hid (HDP.out.later hb)
        have HB8 := Lib.hid (Below.step HB7.out hb (Nat.le_refl _))
        obtain ⟨c0, c1, c2, c3⟩ := HD8.out.cells
        clear hb
        go_wp2_with fail
        refine (HSM.out _ _ _ _ _ _ _ HD8.out.2.tm).mono ?_
        rintro e w9 ⟨rfl, hb⟩
        have HB9 := Lib.hid (Below.step HB8.out hb (Nat.le_refl _))
        clear hb c0 c1 c2 c3
        go_wp2_with fail
        go_ret
        exact ⟨rfl, HB9.out⟩
end Go.Proofs.YtnfhpombnbpdcaaGreat.reduceLoop
/- For all numbers the law ReduceLoop returns true: terms that come to themselves again and again, or grow, come to what the document says. No condition. -/
namespace Go.Proofs.YtnfhpombnbpdcaaGreat.reduceLoop
open Go.ChangeShapes Go.WideShapes Go.ChangeAt Go.RowKit

theorem own : ownKnob Tryz.prog.godebug = none := by kernel_rfl
set_option maxRecDepth 100000 in
theorem lifted (os : Os) (started : os.Started) (H : Type) (enc : TypeId × Value → H) :
    ReturnsInHanded {} Tryz.checked os 6 .any (Rows.reduceLoopSpec.pre6 enc Tryz.prog Tryz.f6 Rows.reduceLoopRow.domain false) (Rows.reduceLoopSpec.post enc Tryz.prog Tryz.f6 false true false false) := by
  refine returnsInHanded_of_change (C := Tryz.checked) own started (by kernel_rfl) Tryz.func6
    (ChangeSpec.witness6 (enc := enc) (C := Tryz.checked) false ⟨#[], #[.int .u8 0, .int .u8 0, .int .u8 0], []⟩ 8 (by kernel_rfl) (by kernel_rfl) (by kernel_rfl) (by kernel_rfl)) ?_
  intro W base args ds gs before hval0 hW hcnd _
  have hval : ∀ (j : Nat) t v, Tryz.f6.params[j]? = some t → args[j]? = some v → Value.okWide Tryz.prog W .any base t v := hval0
  have hW' := hW
  obtain ⟨p, q, hA0, hV, rfl, hfz, hnd⟩ := hW
  have hA : DataW.TrodAll enc Tryz.prog W 0 (fun _ => true) true Tryz.f6.params.toList args.toList ds p := hA0
  rw [Tryz.params6] at hA hval
  obtain ⟨v0, vs0, d0, ds0, p0, q0, hargs, rfl, rfl, h0, hr0⟩ := trodAll_cons hA
  obtain ⟨v1, vs1, d1, ds1, p1, q1, rfl, rfl, rfl, h1, hr1⟩ := trodAll_cons hr0
  obtain ⟨v2, vs2, d2, ds2, p2, q2, rfl, rfl, rfl, h2, hr2⟩ := trodAll_cons hr1
  obtain ⟨rfl, rfl, rfl⟩ := trodAll_nil hr2
  obtain rfl : args = #[v0, v1, v2] := by cases args; simp_all
  obtain ⟨rfl, rfl⟩ := trodVars_none hV
  obtain ⟨N, rfl, rfl, rfl, w2⟩ := open_int Tryz.underlying5 (hval 0 5 v0 rfl rfl) h0
  obtain ⟨M, rfl, rfl, rfl, w3⟩ := open_int Tryz.underlying5 (hval 1 5 v1 rfl rfl) h1
  obtain ⟨D, rfl, rfl, rfl, w4⟩ := open_int Tryz.underlying5 (hval 2 5 v2 rfl rfl) h2
  have hM := u8_range w3
  have hD := u8_range w4
  refine (walk yRdC yRrC awake16_any N M D hM.1 hD.1 hD.2 W).mono fun e W' ⟨he, hb⟩ => ?_
  subst he
  exact ⟨_, rfl, ⟨_, _, _, [], _, [], hW', trodAll_mk1 (shut_bool Tryz.underlying4 _), ⟨_, _, shut_int Tryz.underlying5 w2, trodAll_mk2 (shut_int Tryz.underlying5 w3) (shut_int Tryz.underlying5 w4), rfl⟩, rfl, hb.frame _, fun h => by cases h⟩⟩

theorem over : Rows.reduceLoopRow.holds Tryz.pinned (OpenSpec.ofChange Rows.reduceLoopSpec) :=
  OpenClaim.holds_of_wide 6 Tryz.f6 rfl rfl rfl rfl rfl rfl rfl ⟨rfl, rfl, rfl, rfl, rfl⟩ rfl rfl rfl rfl rfl (by kernel_rfl) Tryz.func6 (by kernel_rfl)
    (of_decide_eq_true (by kernel_rfl)) (by unfold Func.isWrapper; first | (rw [if_pos (by decide +kernel)]; kernel_rfl) | (rw [if_neg (by decide +kernel)]; exact ⟨rfl, rfl⟩))
    (fun os started H enc _ => lifted os started H enc)

/-- THE STATEMENT -/
theorem proved : Rows.ReduceLoopSaid :=
  over
#print axioms proved
end Go.Proofs.YtnfhpombnbpdcaaGreat.reduceLoop
