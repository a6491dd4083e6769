/- What lies in memory in the law StoreSpoilt when the store has been made, and what each way of spoiling by an append leaves. No condition but those that stand in each statement. -/
import Derived.Test.YtglggigndhbpcaaZLshape
namespace Go.Proofs.Ytglggigndhbpcaa
open Go.RowKit

theorem GRow.clsO {w : World} {Q : Nat → Prop} {base : Nat} {x : Option Addr} {c : Nat} {l : List Cl} (h : GRow w Q base (.slice x l.length c) l) : ClsIn w (fun b => b < w.heap.size ∧ (OwnB (.slice x l.length c) b ∨ Q b)) l x c := by
  obtain ⟨xs, h, hr⟩ := h
  rcases h.2 with ⟨e, h0⟩ | ⟨g, cap, cur, e, hb, hh, hle, hm, _⟩
  · injection e with e1 _ e3
    subst e1 e3
    exact ⟨by omega, Nat.zero_le _, fun _ => rfl, fun hx => by omega⟩
  · injection e with e1 _ e3
    subst e1 e3
    refine ⟨hle, hm, (fun e => by cases e), fun _ => ⟨g, 0, rfl, ⟨lt_of_block hh, .inl rfl⟩, fun i hi => ?_⟩⟩
    obtain ⟨⟨a, cap', q1, q2⟩, q3, q4⟩ := hr.at i hi
    rw [Nat.zero_add]
    exact ⟨⟨a, cap', (World.ownsRow.cellAt h (i * 3) (by omega)).trans q1, q2.weak (fun b hb => ⟨hb.2.1, .inr hb.1⟩)⟩, (World.ownsRow.cellAt h (i * 3 + 1) (by omega)).trans q3, (World.ownsRow.cellAt h (i * 3 + 2) (by omega)).trans q4⟩
theorem IOwn.intsO {w : World} {base : Nat} {x : Option Addr} {c : Nat} {zs : List Int} (h : IOwn w base (.slice x zs.length c) zs) : IntsIn w (fun b => b < w.heap.size ∧ OwnB (.slice x zs.length c) b) zs x c := by
  obtain ⟨h1, h2', h3', h4⟩ := h.ints
  refine ⟨h1, h2', h3', fun hx => ?_⟩
  obtain ⟨g', c', hv, hb1, hb2, _⟩ := h.at hx
  obtain ⟨b, o, e2, hb3, hf⟩ := h4 hx
  refine ⟨b, o, e2, ⟨hb3, ?_⟩, hf⟩
  rw [e2]; rfl
/-- The store, and what is asked of it, when all has been made. -/
def SpB (w : World) (X R B2 V : Nat) (l : List Cl) (m : List Int) (x : Option Addr) (c : Nat) (xm : Option Addr) (cm gF : Nat) (W : World) : Prop :=
  BxS W X (.int .i64 V) (.slice x l.length c) (.slice xm m.length cm) ∧ GRow W (fun q => B2 ≤ q ∧ (q < X ∨ R + 2 < q)) B2 (.slice x l.length c) l ∧ (∀ q, OwnB (.slice x l.length c) q → q < X ∨ R + 2 < q) ∧
    IOwn W w.heap.size (.slice xm m.length cm) m ∧ (∀ q, OwnB (.slice xm m.length cm) q → q < B2) ∧
    W.heap[R]? = some (.cells #[.slice (some ⟨gF, 0, none⟩) 1 1, .int .i64 0, .int .i64 0] 35 (0, 0)) ∧ AtsIn W (fun q => X < q ∧ q < R) [(0, 0)] (some ⟨gF, 0, none⟩) 1 ∧
    W.heap[R + 1]? = some (.cells #[.int .i64 0, .int .i64 0] 27 (0, 0)) ∧ W.heap[R + 2]? = some (.cells #[.int .i64 0, .int .i64 0] 27 (0, 0)) ∧
    (X < R ∧ B2 ≤ X ∧ w.heap.size ≤ B2 ∧ R + 2 < W.heap.size) ∧ (∀ c ∈ l, c.1.length ≤ 1000) ∧ (m.length = V ∧ 1 ≤ V ∧ V ≤ 16) ∧ Below w.heap.size w W
theorem spb_start {w w1 wA : World} {V : Nat} {l : List Cl} {m : List Int} {x : Option Addr} {c : Nat} {xm : Option Addr} {cm gF : Nat} (hs : StOwn w1 (w.heap.size + 1) l x c m xm cm) (hr : rgS V l m = true) (hb : Below w.heap.size w w1)
    (hF : AtsIn wA (fun q => (w1.alloc (.cells #[.int .i64 V, .slice x l.length c, .slice xm m.length cm] 25)).heap.size ≤ q ∧ q < wA.heap.size) [(0, 0)] (some ⟨gF, 0, none⟩) 1) (bA : Below (w1.alloc (.cells #[.int .i64 V, .slice x l.length c, .slice xm m.length cm] 25)).heap.size (w1.alloc (.cells #[.int .i64 V, .slice x l.length c, .slice xm m.length cm] 25)) wA) :
    ∃ B2, Hid (SpB w w1.heap.size wA.heap.size B2 V l m x c xm cm gF (((wA.alloc (.cells #[.slice (some ⟨gF, 0, none⟩) 1 1, .int .i64 0, .int .i64 0] 35)).alloc (.cells #[.int .i64 0, .int .i64 0] 27)).alloc (.cells #[.int .i64 0, .int .i64 0] 27))) := by
  obtain ⟨B2, h1, h2, h3, h4, h5⟩ := hs
  have hbd := rgS_bd hr
  have bx := heap_new w1 (.cells #[.int .i64 V, .slice x l.length c, .slice xm m.length cm] 25)
  have b1 : Below w1.heap.size w1 wA := ((Below.refl _ _).alloc (Nat.le_refl _) _).trans (bA.mono (by simp))
  have hz := bA.size
  rw [World.size_alloc] at hz hF
  have bxA : BxS wA w1.heap.size _ _ _ := (bA.block _ (by rw [World.size_alloc]; omega)).trans bx
  have hrow := heap_new wA (.cells #[.slice (some ⟨gF, 0, none⟩) 1 1, .int .i64 0, .int .i64 0] 35)
  have hbrow := heap_new (wA.alloc (.cells #[.slice (some ⟨gF, 0, none⟩) 1 1, .int .i64 0, .int .i64 0] 35)) (.cells #[.int .i64 0, .int .i64 0] 27)
  have habox := heap_new ((wA.alloc (.cells #[.slice (some ⟨gF, 0, none⟩) 1 1, .int .i64 0, .int .i64 0] 35)).alloc (.cells #[.int .i64 0, .int .i64 0] 27)) (.cells #[.int .i64 0, .int .i64 0] 27)
  rw [World.size_alloc] at hbrow habox
  rw [World.size_alloc] at habox
  have b2 : Below wA.heap.size wA (((wA.alloc (.cells #[.slice (some ⟨gF, 0, none⟩) 1 1, .int .i64 0, .int .i64 0] 35)).alloc (.cells #[.int .i64 0, .int .i64 0] 27)).alloc (.cells #[.int .i64 0, .int .i64 0] 27)) := (((Below.refl _ _).alloc (Nat.le_refl _) _).alloc (by simp) _).alloc (by simp; omega) _
  have b3 := b1.trans (b2.mono b1.size)
  refine ⟨B2, Lib.hid ⟨(b2.block _ (lt_of_block bxA)).trans bxA, ((h5.g.weak (fun q hq => ⟨hq.1, .inl hq.2⟩)).below b3), fun q hq => .inl (h5.lt q hq).2, (h3.low (by omega)).keep (fun g hg => b3.block g (h3.lt g hg).2), h4, (heap_old _ _ (by simp; omega)).trans ((heap_old _ _ (by simp)).trans hrow), (hF.keep (fun q hq => b2.block q hq.2)).weak (fun q hq => ⟨by omega, hq.2⟩), (heap_old _ _ (by simp)).trans hbrow, habox, ⟨by omega, h2, by omega, by simp⟩, six_le hr, ⟨hbd.1, hbd.2.2.2.2.1, hbd.2.2.2.2.2.1⟩, Below.step hb b3 (Nat.le_refl _)⟩⟩
section
variable {w W : World} {X R B2 V : Nat} {l : List Cl} {m : List Int} {x : Option Addr} {c : Nat} {xm : Option Addr} {cm gF : Nat}
theorem SpB.e (h : SpB w X R B2 V l m x c xm cm gF W) (hl : l.length ≤ 64) : SpE w X (R + 2) V x l.length c xm m.length cm (some ⟨R, 0, none⟩) 1 1 (some ⟨R + 1, 0, none⟩) 1 1 W := by
  obtain ⟨h1, h2, h3, h4, h5, h6, h7, h8, h9, ⟨p1, p2, p3, p4⟩, h11, ⟨q1, q2, q3⟩, h13⟩ := h
  have k1 : ClsO X W l.length x c := ClsO.of h2.clsO (fun b hb => by
    rcases hb.2 with hb | hb
    · have := h3 b hb; omega
    · have := hb.2; omega) h11
  have k2 : IntsO X W m.length xm cm := IntsO.of h4.intsO (fun b hb => by have := h5 b hb.2; omega)
  have hrow : ClsIn W (fun q => X < q) [arC 0 0 0] (some ⟨R, 0, none⟩) 1 := ⟨Nat.le_refl _, by unfold maxLen; omega, (fun e => by cases e), fun _ => ⟨R, 0, rfl, p1, fun i hi => by
    have hi0 : i = 0 := by simp at hi; exact hi
    subst hi0
    exact ⟨⟨_, _, cell_at h6 0, h7.weak (fun q hq => hq.1)⟩, cell_at h6 1, cell_at h6 2⟩⟩⟩
  have k3 : ClsO X W 1 (some ⟨R, 0, none⟩) 1 := ClsO.of hrow (fun b hb => by omega) (fun c hc => by rw [List.mem_singleton.1 hc]; decide)
  have k4 : AtO X W 1 (some ⟨R + 1, 0, none⟩) 1 := AtO.of (one_at (P := fun q => X < q) h8 (by omega)) (fun b hb => by omega) (by simp)
  exact ⟨h1, k1, k2, k3, k4, ⟨0, 0, h9⟩, by omega, hl, by omega, by omega, by omega, h13⟩
/-- A clause more. -/
theorem SpB.push {wA : World} {g' : Nat} (off : Int) (h : SpB w X R B2 V l m x c xm cm gF W) (hl : l.length ≤ 62) (bA : Below W.heap.size W wA) (hA : AtsIn wA (fun q => W.heap.size ≤ q ∧ q < wA.heap.size) [(0, 0)] (some ⟨g', 0, none⟩) 1) :
    ∃ g k w3, Hid ((Builtin.append_ #[22, 22] 22 #[.slice x l.length c, .slice (some ⟨wA.heap.size, 0, none⟩) 1 1]).run Try.prog (wA.alloc (.cells #[.slice (some ⟨g', 0, none⟩) 1 1, .int .i64 0, .int .i64 off] 35)) = .ok (.slice (some ⟨g, 0, none⟩) (l.length + 1) k) w3) ∧
      wA.cell? ⟨X, 1, none⟩ = some (.slice x l.length c) ∧ (∀ p, (wA.alloc p).cell? ⟨X, 1, none⟩ = some (.slice x l.length c)) ∧ w3.cell? ⟨X, 1, none⟩ = some (.slice x l.length c) ∧ (∀ o, w3.frozen? ⟨X, o, none⟩ = false) ∧
      Hid (SpB w X R B2 V (l ++ [arC 0 0 off]) m (some ⟨g, 0, none⟩) k xm cm gF (w3.setCell ⟨X, 1, none⟩ (.slice (some ⟨g, 0, none⟩) (l.length + 1) k))) := by
  obtain ⟨h1, h2, h3, h4, h5, h6, h7, h8, h9, ⟨p1, p2, p3, p4⟩, h11, hq, h13⟩ := h
  have hz := bA.size
  have h1A : BxS wA X _ _ _ := (bA.block _ (lt_of_block h1)).trans h1
  have hown : ∀ q, OwnB (.slice x l.length c) q → B2 ≤ q ∧ q < W.heap.size := fun q hq => h2.lt q hq
  obtain ⟨g, k, w3, hrun, hg, ht⟩ := (h2.below bA).push 22 (arC 0 0 off) ⟨by omega, .inr (by omega)⟩ (hA.weak (Q := fun b => (B2 ≤ b ∧ (b < X ∨ R + 2 < b)) ∧ b < wA.heap.size ∧ ¬ OwnB (.slice x l.length c) b) (fun q hq => ⟨⟨by have := hq.1; omega, .inr (by have := hq.1; omega)⟩, hq.2, fun hO => by have := (hown q hO).2; have := hq.1; omega⟩)) (by omega) (by omega)
  have hn : ∀ q, q < W.heap.size → ¬ OwnB (.slice x l.length c) q → w3.heap[q]? = W.heap[q]? := fun q hq hO => (ht.2.2.2.2.1 q (by omega) hO).trans (bA.block q hq)
  have hmid : ∀ q, (X ≤ q ∧ q ≤ R + 2) ∨ q < B2 → w3.heap[q]? = W.heap[q]? := fun q hq => hn q (by omega) (fun hO => by have := h3 q hO; have := (hown q hO).1; omega)
  have hX3 : BxS w3 X _ _ _ := (hmid X (.inl ⟨Nat.le_refl _, by omega⟩)).trans h1
  have hz3 : wA.heap.size ≤ w3.heap.size := ht.2.2.2.1
  have hnew : ∀ q, OwnB (.slice (some ⟨g, 0, none⟩) (l.length + 1) k) q → q < X ∨ R + 2 < q := fun q hO => by
    rcases ht.2.2.2.2.2 q hO with h | h
    · exact h3 q h
    · exact .inr (by omega)
  have hset : ∀ q, q ≠ X → (w3.setCell ⟨X, 1, none⟩ (.slice (some ⟨g, 0, none⟩) (l.length + 1) k)).heap[q]? = w3.heap[q]? := fun q hq => Below.heap_setCell _ _ _ _ (show q ≠ X from hq)
  have hlen : (l ++ [arC 0 0 off]).length = l.length + 1 := by simp
  have hb3 : Below w.heap.size w w3 := (Below.step h13 bA (Nat.le_refl _)).trans (ht.low (by omega) (fun q hO => by have := (hown q hO).1; omega))
  refine ⟨g, k, w3, Lib.hid hrun, cell_at h1A 1, fun p => cell_at ((heap_old _ p (lt_of_block h1A)).trans h1A) 1, cell_at hX3 1, free_of hX3, Lib.hid ?_⟩
  refine ⟨by rw [hlen]; exact heap_setCell_same w3 X 1 _ _ _ hX3, ?_, by rw [hlen]; exact hnew, h4.keep (fun q hO => ?_), h5, (hset R (by omega)).trans ((hmid R (.inl ⟨by omega, by omega⟩)).trans h6), (h7.keep (fun q hq => (hset q (by omega)).trans (hmid q (.inl ⟨by omega, by omega⟩)))), (hset _ (by omega)).trans ((hmid _ (.inl ⟨by omega, by omega⟩)).trans h8), (hset _ (by omega)).trans ((hmid _ (.inl ⟨by omega, by omega⟩)).trans h9), ⟨p1, p2, p3, by simp; omega⟩, fun c' hc => ?_, hq, hb3.setCell (p := ⟨X, 1, none⟩) (by show w.heap.size ≤ X; omega) _⟩
  · rw [hlen]
    exact hg.other (X := X) (by simp) (fun b _ hb => hset b hb) (fun h => by have := h.2; omega) (fun hO => by have := hnew X hO; omega)
  · have := h5 q hO
    exact (hset q (by omega)).trans (hmid q (.inr this))
  · rcases List.mem_append.1 hc with h | h
    · exact h11 c' h
    · rw [List.mem_singleton.1 h]; show 1 ≤ 1000; omega
/-- A number more in the model. -/
theorem SpB.int (h : SpB w X R B2 V l m x c xm cm gF W) (hl : l.length ≤ 62) (v0 : Int) :
    ∃ g k w3, Hid ((Builtin.append_ #[23, 23] 23 #[.slice xm m.length cm, .slice (some ⟨W.heap.size, 0, none⟩) 1 1]).run Try.prog (W.alloc (.cells #[.int .i64 v0] 3)) = .ok (.slice (some ⟨g, 0, none⟩) (m.length + 1) k) w3) ∧
      w3.cell? ⟨X, 2, none⟩ = some (.slice xm m.length cm) ∧ (∀ o, w3.frozen? ⟨X, o, none⟩ = false) ∧
      Hid (SpE w X (R + 2) V x l.length c (some ⟨g, 0, none⟩) (m.length + 1) k (some ⟨R, 0, none⟩) 1 1 (some ⟨R + 1, 0, none⟩) 1 1 (w3.setCell ⟨X, 2, none⟩ (.slice (some ⟨g, 0, none⟩) (m.length + 1) k))) := by
  have he := h.e (by omega)
  obtain ⟨h1, h2, h3, h4, h5, h6, h7, h8, h9, ⟨p1, p2, p3, p4⟩, h11, ⟨q1, q2, q3⟩, h13⟩ := h
  obtain ⟨g, k, w3, hrun, hi, ht⟩ := h4.push 23 v0 (by omega) (by omega)
  have hhi : ∀ q, q < W.heap.size → B2 ≤ q → w3.heap[q]? = W.heap[q]? := fun q hq hB => ht.2.2.2.2.1 q hq (fun hO => by have := h5 q hO; omega)
  have hX3 : BxS w3 X _ _ _ := (hhi X (by omega) p2).trans h1
  have hz3 : W.heap.size ≤ w3.heap.size := ht.2.2.2.1
  have hnew : ∀ q, OwnB (.slice (some ⟨g, 0, none⟩) (m.length + 1) k) q → q ≠ X := fun q hO => by
    rcases ht.2.2.2.2.2 q hO with h | h
    · have := h5 q h; omega
    · omega
  have hset : ∀ q, q ≠ X → (w3.setCell ⟨X, 2, none⟩ (.slice (some ⟨g, 0, none⟩) (m.length + 1) k)).heap[q]? = w3.heap[q]? := fun q hq => Below.heap_setCell _ _ _ _ (show q ≠ X from hq)
  have kk : KdO X w3 (w3.setCell ⟨X, 2, none⟩ (.slice (some ⟨g, 0, none⟩) (m.length + 1) k)) := KdO.setX _ _ _
  have hlen : (m ++ [v0]).length = m.length + 1 := by simp
  have hm3 : IntsO X w3 (m.length + 1) (some ⟨g, 0, none⟩) k := by
    rw [← hlen] at hi ⊢
    exact IntsO.of hi.intsO (fun b hb => hnew b (by have := hb.2; rwa [hlen] at this))
  have hown : ∀ q, OwnB (.slice x l.length c) q → B2 ≤ q ∧ q < W.heap.size := fun q hq => h2.lt q hq
  have k1 : ClsO X w3 l.length x c := ClsO.of (h2.clsO.keep (fun b hb => hhi b hb.1 (by
    rcases hb.2 with hb | hb
    · exact (hown b hb).1
    · exact hb.1))) (fun b hb => by
    rcases hb.2 with hb | hb
    · have := h3 b hb; omega
    · have := hb.2; omega) h11
  have h6' := (hhi R (by omega) (by omega)).trans h6
  have hrow : ClsIn w3 (fun q => X < q) [arC 0 0 0] (some ⟨R, 0, none⟩) 1 := ⟨Nat.le_refl _, by unfold maxLen; omega, (fun e => by cases e), fun _ => ⟨R, 0, rfl, p1, fun i hi => by
    have hi0 : i = 0 := by simp at hi; exact hi
    subst hi0
    exact ⟨⟨_, _, cell_at h6' 0, (h7.keep (fun q hq => hhi q (by omega) (by omega))).weak (fun q hq => hq.1)⟩, cell_at h6' 1, cell_at h6' 2⟩⟩⟩
  have k3 : ClsO X w3 1 (some ⟨R, 0, none⟩) 1 := ClsO.of hrow (fun b hb => by omega) (fun c hc => by rw [List.mem_singleton.1 hc]; decide)
  have k4 : AtO X w3 1 (some ⟨R + 1, 0, none⟩) 1 := AtO.of (one_at (P := fun q => X < q) ((hhi _ (by omega) (by omega)).trans h8) (by omega)) (fun b hb => by omega) (by simp)
  have hb3 : Below w.heap.size w w3 := h13.trans (ht.low (Nat.le_trans p3 (by omega)) (fun q hO => (h4.lt q hO).1))
  exact ⟨g, k, w3, Lib.hid hrun, cell_at hX3 2, free_of hX3, Lib.hid ⟨heap_setCell_same w3 X 2 _ _ _ hX3, k1.kind kk, hm3.kind kk, k3.kind kk, k4.kind kk.1, ⟨0, 0, (hset _ (by omega)).trans ((hhi _ (by omega) (by omega)).trans h9)⟩, by omega, by omega, by omega, by omega, by omega, hb3.setCell (p := ⟨X, 2, none⟩) (by show w.heap.size ≤ X; omega) _⟩⟩
/-- The clause that comes, twice more, and three atoms. -/
theorem SpB.three (h : SpB w X R B2 V l m x c xm cm gF W) (hl : l.length ≤ 62) :
    ∃ y k w3, Hid ((Builtin.append_ #[22, 22] 22 #[.slice (some ⟨R, 0, none⟩) 1 1, .slice (some ⟨W.heap.size + 1, 0, none⟩) 2 2]).run Try.prog ((W.alloc (.cells #[.int .i64 0, .int .i64 0, .int .i64 0, .int .i64 1, .int .i64 0, .int .i64 2] 27)).drew.alloc (.cells #[.slice (some ⟨gF, 0, none⟩) 1 1, .int .i64 0, .int .i64 0, .slice (some ⟨gF, 0, none⟩) 1 1, .int .i64 0, .int .i64 0] 35)) = .ok (.slice y 3 k) w3) ∧
      (∀ p q, (W.alloc p).cell? ⟨R, 0, none⟩ = some (.slice (some ⟨gF, 0, none⟩) 1 1) ∧ (W.alloc p).cell? ⟨R, 1, none⟩ = some (.int .i64 0) ∧ (W.alloc p).cell? ⟨R, 2, none⟩ = some (.int .i64 0) ∧ ((W.alloc p).alloc q).cell? ⟨R, 0, none⟩ = some (.slice (some ⟨gF, 0, none⟩) 1 1) ∧ ((W.alloc p).alloc q).cell? ⟨R, 1, none⟩ = some (.int .i64 0) ∧ ((W.alloc p).alloc q).cell? ⟨R, 2, none⟩ = some (.int .i64 0)) ∧
      Hid (SpE w X (R + 2) V x l.length c xm m.length cm y 3 k (some ⟨W.heap.size, 0, none⟩) 3 3 w3) := by
  obtain ⟨h1, h2, h3, h4, h5, h6, h7, h8, h9, ⟨p1, p2, p3, p4⟩, h11, ⟨q1, q2, q3⟩, h13⟩ := h
  have hb1 : Below W.heap.size W (W.alloc (.cells #[.int .i64 0, .int .i64 0, .int .i64 0, .int .i64 1, .int .i64 0, .int .i64 2] 27)).drew := ((Below.refl _ _).alloc (Nat.le_refl _) _).drew
  have hs1 : (W.alloc (.cells #[.int .i64 0, .int .i64 0, .int .i64 0, .int .i64 1, .int .i64 0, .int .i64 2] 27)).drew.heap.size = W.heap.size + 1 := by show (W.alloc _).heap.size = _; rw [World.size_alloc]
  have hat : (W.alloc (.cells #[.int .i64 0, .int .i64 0, .int .i64 0, .int .i64 1, .int .i64 0, .int .i64 2] 27)).drew.heap[W.heap.size]? = some (.cells #[.int .i64 0, .int .i64 0, .int .i64 0, .int .i64 1, .int .i64 0, .int .i64 2] 27 (0, 0)) := heap_new W _
  have hRl := lt_of_block h6
  have hcR : ∀ p q, (W.alloc p).heap[R]? = W.heap[R]? ∧ ((W.alloc p).alloc q).heap[R]? = W.heap[R]? := fun p q => ⟨heap_old _ _ hRl, (heap_old _ _ (by rw [World.size_alloc]; omega)).trans (heap_old _ _ hRl)⟩
  generalize (W.alloc (.cells #[.int .i64 0, .int .i64 0, .int .i64 0, .int .i64 1, .int .i64 0, .int .i64 2] 27)).drew = W1 at hb1 hs1 hat ⊢
  have h6' := (hb1.block R hRl).trans h6
  have h7' := h7.keep (fun q hq => hb1.block q (by omega))
  have hO : ∀ q, OwnB (.slice (some ⟨R, 0, none⟩) 1 1) q → q = R := fun q hq => by unfold OwnB Value.ownBlock at hq; injection hq with hq; exact hq.symm
  have hG : GRow W1 (fun q => X < q) R (.slice (some ⟨R, 0, none⟩) 1 1) [arC 0 0 0] := ⟨[.slice (some ⟨gF, 0, none⟩) 1 1, .int .i64 0, .int .i64 0], ⟨rfl, .inr ⟨R, 1, #[.slice (some ⟨gF, 0, none⟩) 1 1, .int .i64 0, .int .i64 0], rfl, Nat.le_refl _, h6', Nat.le_refl _, by unfold maxLen; omega, rfl, rfl⟩⟩,
    ⟨some ⟨gF, 0, none⟩, 1, [], rfl, h7'.weak (fun q hq => ⟨hq.1, by omega, fun h => by have := hO q h; omega⟩), rfl⟩⟩
  have hb2 : Below W1.heap.size W1 (W1.alloc (.cells #[.slice (some ⟨gF, 0, none⟩) 1 1, .int .i64 0, .int .i64 0, .slice (some ⟨gF, 0, none⟩) 1 1, .int .i64 0, .int .i64 0] 35)) := (Below.refl _ _).alloc (Nat.le_refl _) _
  have htwo := row_two (off := 0) (off2 := 0) (b := 0) (b2 := 0) h7' h7' (fun b hb => by omega)
  have hsz2 : (W1.alloc (.cells #[.slice (some ⟨gF, 0, none⟩) 1 1, .int .i64 0, .int .i64 0, .slice (some ⟨gF, 0, none⟩) 1 1, .int .i64 0, .int .i64 0] 35)).heap.size = W1.heap.size + 1 := World.size_alloc _ _
  obtain ⟨v', w3, hrun, hg3, ht⟩ := (hG.below hb2).add (htwo.weak (Q := fun b => X < b ∧ b < (W1.alloc (.cells #[.slice (some ⟨gF, 0, none⟩) 1 1, .int .i64 0, .int .i64 0, .slice (some ⟨gF, 0, none⟩) 1 1, .int .i64 0, .int .i64 0] 35)).heap.size ∧ ¬ OwnB (.slice (some ⟨R, 0, none⟩) 1 1) b) (fun b hb => by
    rw [hsz2]
    rcases hb with rfl | hb
    · exact ⟨by omega, by omega, fun h => by have := hO _ h; omega⟩
    · exact ⟨by omega, by omega, fun h => by have := hO _ h; omega⟩)) 22 (by simp) (by omega)
  obtain ⟨y, k, rfl⟩ := hg3.form
  have hkeep : ∀ q, q < W1.heap.size → q ≠ R → w3.heap[q]? = W1.heap[q]? := fun q hq hne => (ht.2.2.2.2.1 q (by omega) (fun h => hne (hO q h))).trans (hb2.block q hq)
  have hkW : ∀ q, q < W.heap.size → q ≠ R → w3.heap[q]? = W.heap[q]? := fun q hq hne => (hkeep q (by omega) hne).trans (hb1.block q hq)
  have hown : ∀ q, OwnB (.slice x l.length c) q → B2 ≤ q ∧ q < W.heap.size := fun q hq => h2.lt q hq
  have k1 : ClsO X w3 l.length x c := ClsO.of (h2.clsO.keep (fun b hb => hkW b hb.1 (by
    rcases hb.2 with hb | hb
    · have := h3 b hb; omega
    · have := hb.2; omega))) (fun b hb => by
    rcases hb.2 with hb | hb
    · have := h3 b hb; omega
    · have := hb.2; omega) h11
  have k2 : IntsO X w3 m.length xm cm := IntsO.of (h4.intsO.keep (fun b hb => hkW b hb.1 (by have := h5 b hb.2; omega))) (fun b hb => by have := h5 b hb.2; omega)
  have hnew : ∀ q, OwnB (.slice y 3 k) q → X < q := fun q hq => by
    rcases ht.2.2.2.2.2 q hq with h | h
    · have := hO q h; omega
    · omega
  have k3 : ClsO X w3 3 y k := ClsO.of hg3.clsO (fun b hb => by
    rcases hb.2 with hb | hb
    · have := hnew b hb; omega
    · omega) (fun c hc => by simp at hc; rw [hc]; decide)
  have hat3 := (hkeep W.heap.size (by omega) (by omega)).trans hat
  have hats : AtsIn w3 (fun q => X < q) [(0, 0), (0, 1), (0, 2)] (some ⟨W.heap.size, 0, none⟩) 3 := ⟨Nat.le_refl _, by unfold maxLen; omega, (fun e => by cases e), fun _ => ⟨W.heap.size, 0, rfl, by omega, fun i hi => by
    match i, hi with
    | 0, _ => exact ⟨cell_at hat3 0, cell_at hat3 1⟩
    | 1, _ => exact ⟨cell_at hat3 2, cell_at hat3 3⟩
    | 2, _ => exact ⟨cell_at hat3 4, cell_at hat3 5⟩⟩⟩
  have k4 : AtO X w3 3 (some ⟨W.heap.size, 0, none⟩) 3 := AtO.of hats (fun b hb => by omega) (by simp)
  rw [hs1] at hrun
  have hb3 : Below w.heap.size w w3 := (Below.step (Below.step h13 hb1 (Nat.le_refl _)) hb2 (Nat.le_refl _)).trans (ht.low (by omega) (fun q hq => by have := hO q hq; omega))
  exact ⟨y, k, w3, Lib.hid hrun, fun p q => ⟨cell_at ((hcR p q).1.trans h6) 0, cell_at ((hcR p q).1.trans h6) 1, cell_at ((hcR p q).1.trans h6) 2, cell_at ((hcR p q).2.trans h6) 0, cell_at ((hcR p q).2.trans h6) 1, cell_at ((hcR p q).2.trans h6) 2⟩, Lib.hid ⟨(hkW X (by omega) (by omega)).trans h1, k1, k2, k3, k4, ⟨0, 0, (hkW _ (by omega) (by omega)).trans h9⟩, by omega, by omega, by omega, by omega, by omega, hb3⟩⟩
end
end Go.Proofs.Ytglggigndhbpcaa
