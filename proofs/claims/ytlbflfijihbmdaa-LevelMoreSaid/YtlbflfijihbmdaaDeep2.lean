/- A level in a variable whose Kids lie in later blocks: how it grows, a level at a time. -/
import Derived.Test.YtlbflfijihbmdaaTold2
import Derived.Test.YtlbflfijihbmdaaAwake2
namespace Go.Proofs.Ytlbflfijihbmdaa
open Go.RowKit

/-- The variable's block L, whole, and the Kids behind it, in later blocks; what was there before is as it was in w. -/
def LvAt (w : World) (L : Nat) (wr : World) (k n : Int) (F : Fo) (a : Option Addr) (cap : Nat) : Prop :=
  wr.heap[L]? = some (.cells #[.int .i64 k, .int .i64 n, .slice a F.len cap] 24 (0, 0)) ∧ SlIn wr (fun b => L < b ∧ b < wr.heap.size) F a cap ∧ Below L w wr
theorem LvAt.facts {w wr : World} {L cap : Nat} {k n : Int} {F : Fo} {a : Option Addr} (h : LvAt w L wr k n F a cap) :
    wr.cell? ⟨L, 0, none⟩ = some (.int .i64 k) ∧ wr.cell? ⟨L, 1, none⟩ = some (.int .i64 n) ∧ wr.cell? ⟨L, 2, none⟩ = some (.slice a F.len cap) ∧ (∀ o, wr.frozen? ⟨L, o, none⟩ = false) ∧ L < wr.heap.size := by
  obtain ⟨c0, c1, c2⟩ := cells3 h.1
  exact ⟨c0, c1, c2, free_of h.1, lt_of_block h.1⟩
/-- The variable gets new Kids, in whatever world in which only it, and what is new, has changed. -/
theorem LvAt.turn {w wr W : World} {L cap c : Nat} {k n k' n' : Int} {F G : Fo} {a x : Option Addr} (h : LvAt w L wr k n F a cap) (hg : wr.grownBy W (some L)) (hL : W.heap[L]? = some (.cells #[.int .i64 k', .int .i64 n', .slice x G.len c] 24 (0, 0)))
    (hG : SlIn W (fun b => L < b ∧ b < W.heap.size) G x c) : LvAt w L W k' n' G x c :=
  ⟨hL, hG, h.2.2.trans ⟨hg.os, hg.tape, hg.output, hg.size, fun _ hb => Only.block hg (Nat.lt_trans hb (lt_of_block h.1)) (Nat.ne_of_lt hb)⟩⟩
theorem SlIn.later {wr W : World} {L : Nat} {F : Fo} {a : Option Addr} {cap : Nat} (h : SlIn wr (fun b => L < b ∧ b < wr.heap.size) F a cap) (hg : wr.grownBy W (Option.some L)) : SlIn W (fun b => L < b ∧ b < W.heap.size) F a cap :=
  (h.keep (fun _ hb => Only.block hg hb.2 (Nat.ne_of_gt hb.1))).weak (fun _ hb => ⟨hb.1, Nat.lt_of_lt_of_le hb.2 hg.size⟩)
/-- One step that all these loops make: the variable's three cells are stored, a block is laid. -/
theorem turned {wr : World} {L : Nat} {x0 y0 z0 : Value} (h : wr.heap[L]? = some (.cells #[x0, y0, z0] 24 (0, 0))) (x y z : Value) (o : Obj) :
    wr.grownBy ((((wr.setCell ⟨L, 0, none⟩ x).setCell ⟨L, 1, none⟩ y).setCell ⟨L, 2, none⟩ z).alloc o) (some L) ∧
    ((((wr.setCell ⟨L, 0, none⟩ x).setCell ⟨L, 1, none⟩ y).setCell ⟨L, 2, none⟩ z).alloc o).heap[L]? = some (.cells #[x, y, z] 24 (0, 0)) ∧
    ((((wr.setCell ⟨L, 0, none⟩ x).setCell ⟨L, 1, none⟩ y).setCell ⟨L, 2, none⟩ z).alloc o).heap[wr.heap.size]? = some o ∧
    ((((wr.setCell ⟨L, 0, none⟩ x).setCell ⟨L, 1, none⟩ y).setCell ⟨L, 2, none⟩ z).alloc o).heap.size = wr.heap.size + 1 := by
  have hlt := lt_of_block h
  have hs : (((wr.setCell ⟨L, 0, none⟩ x).setCell ⟨L, 1, none⟩ y).setCell ⟨L, 2, none⟩ z).heap.size = wr.heap.size := by simp
  refine ⟨Only.after (Only.after (Only.after (Only.set _ _ _ _) (Only.set _ _ _ _)) (Only.set _ _ _ _)) (Only.alloc _ _ _), ?_, ?_, by simp⟩
  · rw [heap_old _ _ (by omega)]; exact set3 h
  · have := heap_new (((wr.setCell ⟨L, 0, none⟩ x).setCell ⟨L, 1, none⟩ y).setCell ⟨L, 2, none⟩ z) o
    rwa [hs] at this
/-- Two Kids: a level whose Kids are such, and another one. -/
theorem LvAt.two {w wr : World} {L cap c1 c2 : Nat} {k n : Int} {F F1 F2 : Fo} {a a1 a2 : Option Addr} (h : LvAt w L wr k n F a cap) (k' k1 n1 k2 n2 : Int) (h1 : SlIn wr (fun b => L < b ∧ b < wr.heap.size) F1 a1 c1) (h2 : SlIn wr (fun b => L < b ∧ b < wr.heap.size) F2 a2 c2) :
    LvAt w L ((((wr.setCell ⟨L, 0, none⟩ (.int .i64 k')).setCell ⟨L, 1, none⟩ (.int .i64 0)).setCell ⟨L, 2, none⟩ (.slice (some ⟨wr.heap.size, 0, none⟩) 2 2)).alloc (.cells #[.int .i64 k1, .int .i64 n1, .slice a1 F1.len c1, .int .i64 k2, .int .i64 n2, .slice a2 F2.len c2] 24))
      k' 0 (.cons k1 n1 F1 (.cons k2 n2 F2 .nil)) (some ⟨wr.heap.size, 0, none⟩) 2 := by
  have hlt := lt_of_block h.1
  obtain ⟨t1, t2, t3, t4⟩ := turned h.1 (.int .i64 k') (.int .i64 0) (.slice (some ⟨wr.heap.size, 0, none⟩) 2 2) (.cells #[.int .i64 k1, .int .i64 n1, .slice a1 F1.len c1, .int .i64 k2, .int .i64 n2, .slice a2 F2.len c2] 24)
  refine h.turn t1 t2 (SlIn.mk (by simp [Fo.len]) (by omega) ⟨hlt, by rw [t4]; omega⟩ ?_)
  exact FoIn.push (cell_at t3 0) (cell_at t3 1) (cell_at t3 2) (h1.later t1) (FoIn.push (cell_at t3 3) (cell_at t3 4) (cell_at t3 5) (h2.later t1) trivial)
/-- The parameter 0 and Zero. -/
def pz : Fo := .cons 5 0 .nil (.cons 1 0 .nil .nil)
/-- Max of the level and of Max of the parameter 0 and Zero. -/
theorem LvAt.three {w wr : World} {L cap : Nat} {k n : Int} {F : Fo} {a : Option Addr} (h : LvAt w L wr k n F a cap) :
    LvAt w L (((((wr.setCell ⟨L, 0, none⟩ (.int .i64 3)).setCell ⟨L, 1, none⟩ (.int .i64 0)).setCell ⟨L, 2, none⟩ (.slice (some ⟨wr.heap.size + 1, 0, none⟩) 2 2)).alloc (.cells #[.int .i64 5, .int .i64 0, .slice none 0 0, .int .i64 1, .int .i64 0, .slice none 0 0] 24)).alloc
        (.cells #[.int .i64 k, .int .i64 n, .slice a F.len cap, .int .i64 3, .int .i64 0, .slice (some ⟨wr.heap.size, 0, none⟩) 2 2] 24))
      3 0 (.cons k n F (.cons 3 0 pz .nil)) (some ⟨wr.heap.size + 1, 0, none⟩) 2 ∧
    (∀ W, W = (((((wr.setCell ⟨L, 0, none⟩ (.int .i64 3)).setCell ⟨L, 1, none⟩ (.int .i64 0)).setCell ⟨L, 2, none⟩ (.slice (some ⟨wr.heap.size + 1, 0, none⟩) 2 2)).alloc (.cells #[.int .i64 5, .int .i64 0, .slice none 0 0, .int .i64 1, .int .i64 0, .slice none 0 0] 24)).alloc
        (.cells #[.int .i64 k, .int .i64 n, .slice a F.len cap, .int .i64 3, .int .i64 0, .slice (some ⟨wr.heap.size, 0, none⟩) 2 2] 24)) →
      W.cell? ⟨wr.heap.size + 1, 3, none⟩ = some (.int .i64 3) ∧ W.cell? ⟨wr.heap.size + 1, 4, none⟩ = some (.int .i64 0) ∧ W.cell? ⟨wr.heap.size + 1, 5, none⟩ = some (.slice (some ⟨wr.heap.size, 0, none⟩) 2 2) ∧ SlIn W (fun b => L < b ∧ b < W.heap.size) pz (some ⟨wr.heap.size, 0, none⟩) 2) := by
  have hlt := lt_of_block h.1
  obtain ⟨t1, t2, t3, t4⟩ := turned h.1 (.int .i64 3) (.int .i64 0) (.slice (some ⟨wr.heap.size + 1, 0, none⟩) 2 2) (.cells #[.int .i64 5, .int .i64 0, .slice none 0 0, .int .i64 1, .int .i64 0, .slice none 0 0] 24)
  generalize ((((wr.setCell ⟨L, 0, none⟩ (.int .i64 3)).setCell ⟨L, 1, none⟩ (.int .i64 0)).setCell ⟨L, 2, none⟩ (.slice (some ⟨wr.heap.size + 1, 0, none⟩) 2 2)).alloc (.cells #[.int .i64 5, .int .i64 0, .slice none 0 0, .int .i64 1, .int .i64 0, .slice none 0 0] 24)) = W1 at t1 t2 t3 t4 ⊢
  have u1 := heap_new W1 (.cells #[.int .i64 k, .int .i64 n, .slice a F.len cap, .int .i64 3, .int .i64 0, .slice (some ⟨wr.heap.size, 0, none⟩) 2 2] 24)
  rw [t4] at u1
  have u2 := (heap_old W1 (.cells #[.int .i64 k, .int .i64 n, .slice a F.len cap, .int .i64 3, .int .i64 0, .slice (some ⟨wr.heap.size, 0, none⟩) 2 2] 24) (b := wr.heap.size) (by omega)).trans t3
  have u3 := (heap_old W1 (.cells #[.int .i64 k, .int .i64 n, .slice a F.len cap, .int .i64 3, .int .i64 0, .slice (some ⟨wr.heap.size, 0, none⟩) 2 2] 24) (b := L) (by omega)).trans t2
  have u4 := Only.after t1 (Only.alloc W1 L (.cells #[.int .i64 k, .int .i64 n, .slice a F.len cap, .int .i64 3, .int .i64 0, .slice (some ⟨wr.heap.size, 0, none⟩) 2 2] 24))
  have u5 : (W1.alloc (.cells #[.int .i64 k, .int .i64 n, .slice a F.len cap, .int .i64 3, .int .i64 0, .slice (some ⟨wr.heap.size, 0, none⟩) 2 2] 24)).heap.size = wr.heap.size + 2 := by simp [t4]
  generalize W1.alloc (.cells #[.int .i64 k, .int .i64 n, .slice a F.len cap, .int .i64 3, .int .i64 0, .slice (some ⟨wr.heap.size, 0, none⟩) 2 2] 24) = W at u1 u2 u3 u4 u5 ⊢
  have hp : SlIn W (fun b => L < b ∧ b < W.heap.size) pz (some ⟨wr.heap.size, 0, none⟩) 2 :=
    SlIn.mk (by simp [pz, Fo.len]) (by omega) ⟨hlt, by omega⟩ (FoIn.push (cell_at u2 0) (cell_at u2 1) (cell_at u2 2) (SlIn.none _ _) (FoIn.push (cell_at u2 3) (cell_at u2 4) (cell_at u2 5) (SlIn.none _ _) trivial))
  refine ⟨h.turn u4 u3 (SlIn.mk (by simp [Fo.len]) (by omega) ⟨by omega, by omega⟩ ?_), ?_⟩
  · exact FoIn.push (cell_at u1 0) (cell_at u1 1) (cell_at u1 2) (h.2.1.later u4) (FoIn.push (cell_at u1 3) (cell_at u1 4) (cell_at u1 5) hp trivial)
  · rintro W' rfl
    exact ⟨cell_at u1 3, cell_at u1 4, cell_at u1 5, hp⟩
theorem LvAt.start (w : World) : LvAt w w.heap.size (w.alloc (.cells #[.int .i64 1, .int .i64 0, .slice none 0 0] 24)) 1 0 .nil none 0 :=
  ⟨heap_new _ _, SlIn.none _ _, (Below.refl _ _).alloc (Nat.le_refl _) _⟩
theorem LvAt.startTwo (w : World) : LvAt w w.heap.size ((w.alloc (.cells #[.int .i64 3, .int .i64 0, .slice (some ⟨w.heap.size + 1, 0, none⟩) 2 2] 24)).alloc (.cells #[.int .i64 1, .int .i64 0, .slice none 0 0, .int .i64 1, .int .i64 0, .slice none 0 0] 24))
    3 0 (.cons 1 0 .nil (.cons 1 0 .nil .nil)) (some ⟨w.heap.size + 1, 0, none⟩) 2 := by
  have h1 := heap_second w (.cells #[.int .i64 3, .int .i64 0, .slice (some ⟨w.heap.size + 1, 0, none⟩) 2 2] 24) (.cells #[.int .i64 1, .int .i64 0, .slice none 0 0, .int .i64 1, .int .i64 0, .slice none 0 0] 24)
  refine ⟨(heap_old _ _ (by simp)).trans (heap_new _ _), SlIn.mk (by simp [Fo.len]) (by omega) ⟨by omega, by simp⟩ ?_, ((Below.refl _ _).alloc (Nat.le_refl _) _).alloc (by simp) _⟩
  exact FoIn.push (cell_at h1 0) (cell_at h1 1) (cell_at h1 2) (SlIn.none _ _) (FoIn.push (cell_at h1 3) (cell_at h1 4) (cell_at h1 5) (SlIn.none _ _) trivial)
/-- The variable's Kids, as a call that gets one more block sees them. -/
theorem LvAt.sl {w wr : World} {L cap : Nat} {k n : Int} {F : Fo} {a : Option Addr} (h : LvAt w L wr k n F a cap) (o : Obj) : SlIn (wr.alloc o) (· < wr.heap.size + 1) F a cap :=
  ((h.2.1.weak (Q := (· < wr.heap.size)) (fun _ hb => hb.2)).below ((Below.refl _ _).alloc (Nat.le_refl _) o)).mono (Nat.le_succ _)
theorem LvAt.below {w wr W : World} {L cap : Nat} {k n : Int} {F : Fo} {a : Option Addr} (h : LvAt w L wr k n F a cap) (hb : Below wr.heap.size wr W) : LvAt w L W k n F a cap := by
  have hlt := lt_of_block h.1
  exact h.turn (Only.below L hb) ((hb.block L hlt).trans h.1) (h.2.1.later (Only.below L hb))
/-- One Kid out of a row of two, or both, laid in either order beside another block. -/
theorem LvAt.one {w wr : World} {L cap : Nat} {k n : Int} {F : Fo} {a : Option Addr} (h : LvAt w L wr k n F a cap) (k' : Int) (M : Nat) (o1 o2 : Obj)
    (hM : M = wr.heap.size ∧ o1 = .cells #[.int .i64 k, .int .i64 n, .slice a F.len cap, .int .i64 1, .int .i64 0, .slice none 0 0] 24 ∨ M = wr.heap.size + 1 ∧ o2 = .cells #[.int .i64 k, .int .i64 n, .slice a F.len cap, .int .i64 1, .int .i64 0, .slice none 0 0] 24) :
    LvAt w L ((((((wr.setCell ⟨L, 0, none⟩ (.int .i64 k')).setCell ⟨L, 1, none⟩ (.int .i64 0)).setCell ⟨L, 2, none⟩ (.slice (some ⟨M, 0, none⟩) 1 2)).alloc o1).alloc o2).drew) k' 0 (.cons k n F .nil) (some ⟨M, 0, none⟩) 2 := by
  have hlt := lt_of_block h.1
  obtain ⟨t1, t2, t3, t4⟩ := turned h.1 (.int .i64 k') (.int .i64 0) (.slice (some ⟨M, 0, none⟩) 1 2) o1
  generalize ((((wr.setCell ⟨L, 0, none⟩ (.int .i64 k')).setCell ⟨L, 1, none⟩ (.int .i64 0)).setCell ⟨L, 2, none⟩ (.slice (some ⟨M, 0, none⟩) 1 2)).alloc o1) = W1 at t1 t2 t3 t4 ⊢
  have u1 := heap_new W1 o2
  rw [t4] at u1
  have u2 := (heap_old W1 o2 (b := wr.heap.size) (by omega)).trans t3
  have u3 := (heap_old W1 o2 (b := L) (by omega)).trans t2
  have u4 := Only.after t1 (Only.alloc W1 L o2)
  have u5 : (W1.alloc o2).heap.size = wr.heap.size + 2 := by simp [t4]
  have u6 : (W1.alloc o2).heap[M]? = some (.cells #[.int .i64 k, .int .i64 n, .slice a F.len cap, .int .i64 1, .int .i64 0, .slice none 0 0] 24) := by
    rcases hM with ⟨rfl, rfl⟩ | ⟨rfl, rfl⟩
    · exact u2
    · exact u1
  have hMl : L < M ∧ M < wr.heap.size + 2 := by omega
  generalize W1.alloc o2 = W at u1 u2 u3 u4 u5 u6 ⊢
  refine (h.turn u4 u3 (SlIn.mk (by simp [Fo.len]) (by omega) ⟨hMl.1, by omega⟩ ?_)).below (Below.refl _ _).drew
  exact FoIn.push (cell_at u6 0) (cell_at u6 1) (cell_at u6 2) (h.2.1.later u4) trivial
theorem LvAt.both {w wr : World} {L cap : Nat} {k n : Int} {F : Fo} {a : Option Addr} (h : LvAt w L wr k n F a cap) (k' : Int) (M : Nat) (o1 o2 : Obj)
    (hM : M = wr.heap.size ∧ o1 = .cells #[.int .i64 k, .int .i64 n, .slice a F.len cap, .int .i64 1, .int .i64 0, .slice none 0 0] 24 ∨ M = wr.heap.size + 1 ∧ o2 = .cells #[.int .i64 k, .int .i64 n, .slice a F.len cap, .int .i64 1, .int .i64 0, .slice none 0 0] 24) :
    LvAt w L ((((((wr.setCell ⟨L, 0, none⟩ (.int .i64 k')).setCell ⟨L, 1, none⟩ (.int .i64 0)).setCell ⟨L, 2, none⟩ (.slice (some ⟨M, 0, none⟩) 2 2)).alloc o1).alloc o2).drew) k' 0 (.cons k n F (.cons 1 0 .nil .nil)) (some ⟨M, 0, none⟩) 2 := by
  have hlt := lt_of_block h.1
  obtain ⟨t1, t2, t3, t4⟩ := turned h.1 (.int .i64 k') (.int .i64 0) (.slice (some ⟨M, 0, none⟩) 2 2) o1
  generalize ((((wr.setCell ⟨L, 0, none⟩ (.int .i64 k')).setCell ⟨L, 1, none⟩ (.int .i64 0)).setCell ⟨L, 2, none⟩ (.slice (some ⟨M, 0, none⟩) 2 2)).alloc o1) = W1 at t1 t2 t3 t4 ⊢
  have u1 := heap_new W1 o2
  rw [t4] at u1
  have u2 := (heap_old W1 o2 (b := wr.heap.size) (by omega)).trans t3
  have u3 := (heap_old W1 o2 (b := L) (by omega)).trans t2
  have u4 := Only.after t1 (Only.alloc W1 L o2)
  have u5 : (W1.alloc o2).heap.size = wr.heap.size + 2 := by simp [t4]
  have u6 : (W1.alloc o2).heap[M]? = some (.cells #[.int .i64 k, .int .i64 n, .slice a F.len cap, .int .i64 1, .int .i64 0, .slice none 0 0] 24) := by
    rcases hM with ⟨rfl, rfl⟩ | ⟨rfl, rfl⟩
    · exact u2
    · exact u1
  have hMl : L < M ∧ M < wr.heap.size + 2 := by omega
  generalize W1.alloc o2 = W at u1 u2 u3 u4 u5 u6 ⊢
  refine (h.turn u4 u3 (SlIn.mk (by simp [Fo.len]) (by omega) ⟨hMl.1, by omega⟩ ?_)).below (Below.refl _ _).drew
  exact FoIn.push (cell_at u6 0) (cell_at u6 1) (cell_at u6 2) (h.2.1.later u4) (FoIn.push (cell_at u6 3) (cell_at u6 4) (cell_at u6 5) (SlIn.none _ _) trivial)
end Go.Proofs.Ytlbflfijihbmdaa
