/- A row of clauses that lead from one variable to another one, in memory. No condition but those that stand in each statement. -/
import Derived.Test.YtkjmhjeebamehaaHmake
import Derived.Test.YtkjmhjeebamehaaHmodel
import Derived.Test.YtkjmhjeebamehaaJsame
namespace Go.Proofs.Ytkjmhjeebamehaa
open Go.RowKit

/-- A clause with one atom is put behind the others. -/
theorem COwn.link {w wr : World} {v : Value} {l : List Cl} (h : COwn wr w.heap.size v l) (hb : Below w.heap.size w wr) (ty : TypeId) (x o t u : Int) (hsz : l.length ≤ 100) :
    ∃ g k w3, Hid ((Builtin.append_ #[26, 26] ty #[v, .slice (some ⟨wr.heap.size + 1, 0, none⟩) 1 1]).run Try.prog ((wr.alloc (.cells #[.int .i64 x, .int .i64 o] 33)).alloc (.cells #[.slice (some ⟨wr.heap.size, 0, none⟩) 1 1, .int .i64 t, .int .i64 u] 36)) = .ok (.slice (some ⟨g, 0, none⟩) (l.length + 1) k) w3) ∧
      Hid (COwn w3 w.heap.size (.slice (some ⟨g, 0, none⟩) (l.length + 1) k) (l ++ [([(x, o)], (t, u))])) ∧ Hid (Below w.heap.size w w3) := by
  have hlt := h.lt
  have hz := hb.size
  have hn := heap_new wr (.cells #[.int .i64 x, .int .i64 o] 33)
  have h2 : COwn (wr.alloc (.cells #[.int .i64 x, .int .i64 o] 33)) w.heap.size v l := h.keep (by simp) (fun b _ hb2 => heap_old _ _ hb2)
  have hat : AtsIn (wr.alloc (.cells #[.int .i64 x, .int .i64 o] 33)) (fun b => w.heap.size ≤ b ∧ b < (wr.alloc (.cells #[.int .i64 x, .int .i64 o] 33)).heap.size ∧ ¬ OwnB v b) [(x, o)] (some ⟨wr.heap.size, 0, none⟩) 1 :=
    ⟨Nat.le_refl _, by unfold maxLen; omega, (fun e => by cases e), fun _ => ⟨wr.heap.size, 0, rfl, ⟨hz, by simp, fun hO => by have := (hlt _ hO).2; omega⟩, fun j hj => by
      have hj0 : j = 0 := by simp at hj; exact hj
      subst hj0
      exact ⟨cell_at hn 0, cell_at hn 1⟩⟩⟩
  obtain ⟨g, k, w3, hrun, h3, ht⟩ := h2.push ty ([(x, o)], (t, u)) hat (by omega) (by simp; omega)
  rw [World.size_alloc] at hrun
  exact ⟨g, k, w3, Lib.hid hrun, Lib.hid h3, Lib.hid ((hb.alloc hz _).trans (ht.low (by simp; omega) (fun b hO => (hlt b hO).1)))⟩
theorem ClsIn.take {w : World} {P : Nat → Prop} {l : List Cl} {a : Option Addr} {cap : Nat} (h : ClsIn w P l a cap) (k : Nat) : ClsIn w P (l.take k) a cap := by
  obtain ⟨h1, h2, h3, h4⟩ := h
  refine ⟨by rw [List.length_take]; omega, h2, h3, fun hx => ?_⟩
  obtain ⟨b, o, e, hb, hf⟩ := h4 (by rw [List.length_take] at hx; omega)
  refine ⟨b, o, e, hb, fun i hi => ?_⟩
  have hk : i < l.length := by rw [List.length_take] at hi; omega
  have hg : (l.take k).getD i cl0 = l.getD i cl0 := by
    rw [List.getD_eq_getElem?_getD, List.getD_eq_getElem?_getD, List.getElem?_take, if_pos (by rw [List.length_take] at hi; omega)]
  rw [hg]
  exact hf i hk
/-- The law's comparison, from noughts on. -/
theorem same_zeros {V : Nat} (h1 : 1 ≤ V) (hV : V ≤ 1000) {w W W0 : World} {l : List Cl} {x : Option Addr} {c g : Nat} (hc : ClsIn W (· < W.heap.size) l x c) (hb : Below w.heap.size w W) (hW : W.heap.size ≤ W0.heap.size) (hk : ∀ b, b < W.heap.size → W0.heap[b]? = W.heap[b]?) (hw0 : Below w.heap.size w W0) (hn : NumB W0 g (zerosJ V)) (k : Nat) (hl : l.length = k) :
    Calls Try.prog 9 #[.int .i64 V, .slice x k c, .slice (some ⟨g, 0, none⟩) V V] W0 fun e w' => e = .returned (.bool true) ∧ Below w.heap.size w w' := by
  subst hl
  have := same9_any V hV (zerosJ V) l x (some ⟨g, 0, none⟩) c V W0.heap.size W0 ((hc.keep (w' := W0) (fun b hb => hk b hb)).mono hW) (hn.ints (by rw [zerosJ_len]; omega) (by omega)) (Nat.le_refl _)
  rw [zerosJ_len] at this
  have h2 := hb.size
  have h3 := h1
  exact this.mono fun e w' h => ⟨h.1, Below.step hw0 h.2 (Nat.le_refl _)⟩
theorem COwn.clsN {w : World} {base n : Nat} {x : Option Addr} {c : Nat} {l : List Cl} (h : COwn w base (.slice x n c) l) (hn : l.length = n) : ClsIn w (· < w.heap.size) l x c := by
  subst hn
  exact h.cls.weak (fun _ hb => hb.2)
theorem chain_end {V : Nat} (h1 : 1 ≤ V) (hV : V ≤ 1000) {w W w4 W0 : World} {l : List Cl} {x : Option Addr} {c g : Nat} (hc : ClsIn W (· < W.heap.size) l x c) (hb : Below w.heap.size w W) (b4 : Below W.heap.size W w4) (b0 : Below w4.heap.size w4 W0) (hn : NumB W0 g (zerosJ V)) (k : Nat) (hl : l.length = k) :
    Calls Try.prog 9 #[.int .i64 V, .slice x k c, .slice (some ⟨g, 0, none⟩) V V] W0 fun e w' => e = .returned (.bool true) ∧ Below w.heap.size w w' :=
  same_zeros h1 hV hc hb (Nat.le_trans b4.size b0.size) (fun b hb => (b0.block b (Nat.lt_of_lt_of_le hb b4.size)).trans (b4.block b hb)) (Below.step (Below.step hb b4 (Nat.le_refl _)) b0 (Nat.le_refl _)) hn k hl
theorem zeros_make (V : Nat) (hV : V ≤ 1000) (W : World) : ∃ W0, (Instr.makeSlice 28 (.int .i64 V) (.int .i64 V)).run Try.prog W = .ok (.slice (some ⟨W.heap.size, 0, none⟩) V V) W0 ∧ Hid (Below W.heap.size W W0) ∧ Hid (NumB W0 W.heap.size (zerosJ V)) :=
  ⟨_, make_nums V hV W, Lib.hid ((Below.refl _ _).alloc (Nat.le_refl _) _), Lib.hid (heap_new _ _)⟩
end Go.Proofs.Ytkjmhjeebamehaa
