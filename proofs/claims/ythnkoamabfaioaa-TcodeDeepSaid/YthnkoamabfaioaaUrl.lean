/- The contract of the document's own reader's level, for terms: what the recursive reader of bytes tells, or its error. No condition but those that stand in each statement. -/
import Derived.Test.YthnkoamabfaioaaUrd
import Derived.Test.YthnkoamabfaioaaRget3
import Derived.Deep.RegionHeld3
import Derived.Deep.DeepCutAuto
namespace Go.Proofs.Ythnkoamabfaioaa
open Go.RowKit

theorem Below.keepc {W W' : World} (hb : Below W.heap.size W W') {p : Addr} {v : Value} (h : W.cell? p = some v) : W'.cell? p = some v := (hb.cell (World.block_lt_of_cell? W p h)).trans h
theorem Only.of_below {w w' : World} (h : Below w.heap.size w w') (R : Nat) : w.grownBy w' (some R) := ⟨h.os, h.tape, h.output, h.size, fun k hk _ => h.block k hk⟩
theorem R4At.below {w w' : World} {R : Nat} {s : ByteArray} {p m e : Nat} (h : R4At w R s p m e) (hb : Below w.heap.size w w') : R4At w' R s p m e := (hb.block _ (lt_of_block h)).trans h
/-- What is told, laid out. -/
def LvIs (r : Rl) (k n : Nat) (F : Fo) (q E : Nat) : Prop := match r with
  | .no er => k = 0 ∧ n = 0 ∧ F = .nil ∧ q = 0 ∧ E = er
  | .ok k' n' F' q' _ => k = k' ∧ n = n' ∧ F = F' ∧ q = q' ∧ E = 0
theorem get_laid {r : Rl} {w w' : World} {e : Ending} (h : GetPost r w e w') : ∃ (k n q E : Nat) (F : Fo) (x : Option Addr) (c : Nat), e = .returned (.tuple #[.agg #[.int .i64 k, .int .i64 n, .slice x F.len c], .int .i64 q, .int .i64 E]) ∧ LvIs r k n F q E ∧ SlIn w' (fun b => w.heap.size ≤ b ∧ b < w'.heap.size) F x c ∧ Below w.heap.size w w' := by
  obtain ⟨hb, h⟩ := h
  cases r with
  | no er => exact ⟨0, 0, 0, er, .nil, none, 0, h, ⟨rfl, rfl, rfl, rfl, rfl⟩, SlIn.none _ _, hb⟩
  | ok k n F q l =>
    obtain ⟨x, c, rfl, hs⟩ := h
    exact ⟨k, n, q, 0, F, x, c, rfl, ⟨rfl, rfl, rfl, rfl, rfl⟩, hs, hb⟩
/-- What the reader's level answers: as it is told, in new memory; the place moves where there is no error. -/
def VlPost (R : Nat) (s : ByteArray) (p m : Nat) (r : Rl) (w : World) (e : Ending) (w' : World) : Prop :=
  ∃ (k n q E : Nat) (F : Fo) (x : Option Addr) (c : Nat), e = .returned (.agg #[.int .i64 k, .int .i64 n, .slice x F.len c]) ∧ LvIs r k n F q E ∧ SlIn w' (fun b => w.heap.size ≤ b ∧ b < w'.heap.size) F x c ∧ w.grownBy w' (some R) ∧ R4At w' R s (if E = 0 then q else p) m E
/-- A level that does not lie in the block M. -/
def OffL (W : World) (M lo : Nat) (F : Fo) (x : Option Addr) (c : Nat) : Prop := SlIn W (fun b => b ≠ M ∧ lo ≤ b ∧ b < W.heap.size) F x c
def BoxL (W : World) (M : Nat) (k n : Nat) (F : Fo) (x : Option Addr) (c : Nat) : Prop := W.heap[M]? = some (.cells #[.int .i64 k, .int .i64 n, .slice x F.len c] 33 (0, 0))
theorem boxl_set {W : World} {M lo k n : Nat} {F : Fo} {x : Option Addr} {c : Nat} {a b d : Value} (hz : W.heap[M]? = some (.cells #[a, b, d] 33 (0, 0))) (h : OffL W M lo F x c) :
    BoxL (((W.setCell ⟨M, 0, none⟩ (.int .i64 k)).setCell ⟨M, 1, none⟩ (.int .i64 n)).setCell ⟨M, 2, none⟩ (.slice x F.len c)) M k n F x c ∧ OffL (((W.setCell ⟨M, 0, none⟩ (.int .i64 k)).setCell ⟨M, 1, none⟩ (.int .i64 n)).setCell ⟨M, 2, none⟩ (.slice x F.len c)) M lo F x c := by
  have hg := set3_only (w := W) M (.int .i64 k) (.int .i64 n) (.slice x F.len c)
  have h1 := heap_setCell_same W M 0 _ _ (.int .i64 k) hz
  have h2 := heap_setCell_same _ M 1 _ _ (.int .i64 n) h1
  have h3 := heap_setCell_same _ M 2 _ _ (.slice x F.len c) h2
  exact ⟨h3, (h.keep (fun b hb => Only.block hg hb.2.2 hb.1)).weak (fun b hb => ⟨hb.1, hb.2.1, Nat.lt_of_lt_of_le hb.2.2 hg.size⟩)⟩
theorem boxl_below {a W : World} {B M : Nat} (h : Below B a W) (hM : B ≤ M) (x y z : Value) : Below B a (((W.setCell ⟨M, 0, none⟩ x).setCell ⟨M, 1, none⟩ y).setCell ⟨M, 2, none⟩ z) := ((h.setCell hM x).setCell hM y).setCell hM z
/-- A variable of the type Level that holds nothing yet. -/
def ZLAt (W : World) (B M : Nat) : Prop := B ≤ M ∧ W.heap[M]? = some (.cells #[.int .i64 0, .int .i64 0, .slice none 0 0] 33 (0, 0))
theorem ZLAt.later {W W' : World} {B M : Nat} (h : ZLAt W B M) (hb : Below W.heap.size W W') : ZLAt W' B M := ⟨h.1, (hb.block _ (lt_of_block h.2)).trans h.2⟩
theorem ZLAt.lt {W : World} {B M : Nat} (h : ZLAt W B M) : M < W.heap.size := lt_of_block h.2
theorem ZLAt.new {W : World} {B : Nat} (h : B ≤ W.heap.size) : ZLAt (W.alloc (.cells #[.int .i64 0, .int .i64 0, .slice none 0 0] 33)) B W.heap.size := ⟨h, heap_new _ _⟩
theorem OffL.new {W : World} {lo : Nat} {F : Fo} {x : Option Addr} {c : Nat} (h : SlIn W (fun b => lo ≤ b ∧ b < W.heap.size) F x c) (o : Obj) : OffL (W.alloc o) W.heap.size lo F x c := by
  have hb : Below W.heap.size W (W.alloc o) := (Below.refl _ _).alloc (Nat.le_refl _) o
  exact (h.keep (fun b hx => hb.block b hx.2)).weak (fun b hx => ⟨Nat.ne_of_lt hx.2, hx.1, by simp; omega⟩)

theorem vl_fin {R : Nat} {s : ByteArray} {p m k n q E M lo : Nat} {r : Rl} {w W : World} {F : Fo} {x : Option Addr} {c : Nat} (hA : R4At W R s (if E = 0 then q else p) m E) (hS : OffL W M lo F x c) (hlo : w.heap.size < lo) (hG : w.grownBy W (some R)) (hR : R < w.heap.size) (hL : LvIs r k n F q E) :
    VlPost R s p m r w (.returned (.agg #[.int .i64 k, .int .i64 n, .slice x F.len c])) (((W.setCell ⟨w.heap.size, 0, none⟩ (.int .i64 k)).setCell ⟨w.heap.size, 1, none⟩ (.int .i64 n)).setCell ⟨w.heap.size, 2, none⟩ (.slice x F.len c)) := by
  have u0 := set3_only (w := W) w.heap.size (.int .i64 k) (.int .i64 n) (.slice x F.len c)
  exact ⟨k, n, q, E, F, x, c, rfl, hL, (hS.keep (fun b hb => Only.block u0 hb.2.2 (by omega))).weak (fun b hb => ⟨by omega, Nat.lt_of_lt_of_le hb.2.2 u0.size⟩), Only.past hG u0 (Nat.le_refl _), (Only.block u0 (Nat.lt_of_lt_of_le hR hG.size) (by omega)).trans hA⟩

set_option maxRecDepth 100000 in
set_option maxHeartbeats 8000000 in
theorem r14level_any (R : Nat) (s : ByteArray) (p m : Nat) (w : World) (hat : R4At w R s p m 0) (hs : s.size ≤ maxLen) (hp : p ≤ s.size) :
    Calls Try.prog 51 #[.pointer (some ⟨R, 0, none⟩)] w (VlPost R s p m (rdL s 12 p 100) w) := by
  have hRw := lt_of_block hat
  have hal : Below w.heap.size w (w.alloc (.cells #[.int .i64 0, .int .i64 0, .slice none 0 0] 33)) := (Below.refl _ _).alloc (Nat.le_refl _) _
  have HA := Lib.hid (hat.below hal)
  have HZ0 := Lib.hid (heap_new w (.cells #[.int .i64 0, .int .i64 0, .slice none 0 0] 33))
  have HB0 := Lib.hid hal
  have HG : Hid (∀ W : World, Calls Try.prog 69 #[.string s, .int .i64 p] W fun e w' => ∃ (k n q E : Nat) (F : Fo) (x : Option Addr) (c : Nat), e = .returned (.tuple #[.agg #[.int .i64 k, .int .i64 n, .slice x F.len c], .int .i64 q, .int .i64 E]) ∧ LvIs (rdL s 12 p 100) k n F q E ∧ SlIn w' (fun b => W.heap.size ≤ b ∧ b < w'.heap.size) F x c ∧ Below W.heap.size W w') := Lib.hid (fun W => (rlGet_any s p W hs hp).mono (fun _ _ h => get_laid h))
  generalize rdL s 12 p 100 = r at HG
  obtain ⟨c0, c1, c2, c3, fz, hR⟩ := HA.out.facts
  clear hal hat
  have HRW := Lib.hid hRw
  clear hRw
  go_enter Try.func51, Try.ntmps51
  go_upto_region 3 with fail
  generalize hW0 : w.alloc (.cells #[.int .i64 0, .int .i64 0, .slice none 0 0] 33) = W0 at HA HZ0 HB0 ⊢
  clear hW0 c0 c1 c2 c3 fz hR
  have HNX : Hid (∀ wN : World, Below W0.heap.size W0 wN → wN.cell? ⟨R, 0, none⟩ = some (.string s) ∧ wN.cell? ⟨R, 1, none⟩ = some (.int .i64 p)) := Lib.hid (fun wN hX => ⟨(HA.out.below hX).facts.1, (HA.out.below hX).facts.2.1⟩)
  go_cut [3, 4, 5] from 6 to 35 (fun s3 s4 s5 wx => ∃ (M k n q E : Nat) (F : Fo) (x : Option Addr) (c : Nat), s3 = .pointer (some ⟨M, 0, none⟩) ∧ s4 = .int .i64 q ∧ s5 = .int .i64 E ∧ Hid (BoxL wx M k n F x c ∧ OffL wx M W0.heap.size F x c ∧ W0.heap.size ≤ M) ∧ Hid (LvIs r k n F q E) ∧ Hid (Below W0.heap.size W0 wx))
  case first =>
    refine wp_region_held_drew (S := fun w' => Hid (Below W0.heap.size W0 w') ∧ w'.cell? ⟨R, 0, none⟩ = some (.string s) ∧ w'.cell? ⟨R, 1, none⟩ = some (.int .i64 p)) (by kernel_rfl) (⟨Lib.hid (Below.refl _ _).drew, HNX.out _ (Below.refl _ _).drew⟩) (fun hH => ?_)
    try simp only [Act.put, List.setIfInBounds_toArray, List.set_cons_zero, List.set_cons_succ]
    refine wpAnyH_take (i := 0) (v := ?_) (by simp only [List.getElem?_toArray, List.getElem?_cons_zero]; rfl) (by kernel_rfl) (by kernel_rfl) (by kernel_rfl) (by intro _ _ _ h; exact h) (Or.inl ⟨by rfl, ?_⟩) hH ?_
    rotate_left
    · intro w' hSw
      obtain ⟨s0, s1, s2⟩ := hSw
      go_simp
      try with_reducible rfl
    try simp only [Act.put, List.setIfInBounds_toArray, List.set_cons_zero, List.set_cons_succ]
    refine wpAnyH_take (i := 1) (v := ?_) (by simp only [List.getElem?_toArray, List.getElem?_cons_succ, List.getElem?_cons_zero]; rfl) (by kernel_rfl) (by kernel_rfl) (by kernel_rfl) (by intro _ _ _ h; exact h) (Or.inl ⟨by rfl, ?_⟩) hH ?_
    rotate_left
    · intro w' hSw
      obtain ⟨s0, s1, s2⟩ := hSw
      go_simp
      try with_reducible rfl
    try simp only [Act.put, List.setIfInBounds_toArray, List.set_cons_zero, List.set_cons_succ]
    refine wpAnyH_take (i := 2) (v := ?_) (by simp only [List.getElem?_toArray, List.getElem?_cons_succ, List.getElem?_cons_zero]; rfl) (by kernel_rfl) (by kernel_rfl) (by kernel_rfl) (by intro _ _ _ h; exact h) (Or.inl ⟨by rfl, ?_⟩) hH ?_
    rotate_left
    · intro w' hSw
      obtain ⟨s0, s1, s2⟩ := hSw
      go_simp
      try with_reducible rfl
    try simp only [Act.put, List.setIfInBounds_toArray, List.set_cons_zero, List.set_cons_succ]
    refine wpAnyH_take (i := 3) (v := ?_) (by simp only [List.getElem?_toArray, List.getElem?_cons_succ, List.getElem?_cons_zero]; rfl) (by kernel_rfl) (by kernel_rfl) (by kernel_rfl) (by intro _ _ _ h; exact h) (Or.inl ⟨by rfl, ?_⟩) hH ?_
    rotate_left
    · intro w' hSw
      obtain ⟨s0, s1, s2⟩ := hSw
      go_simp
      try with_reducible rfl
    try simp only [Act.put, List.setIfInBounds_toArray, List.set_cons_zero, List.set_cons_succ]
    refine wpAnyH_take (i := 4) (v := ?_) (by simp only [List.getElem?_toArray, List.getElem?_cons_succ, List.getElem?_cons_zero]; rfl) (by kernel_rfl) (by kernel_rfl) (by kernel_rfl) (by intro _ _ _ h; exact h) (Or.inl ⟨by rfl, ?_⟩) hH ?_
    rotate_left
    · intro w' hSw
      obtain ⟨s0, s1, s2⟩ := hSw
      go_simp
      try with_reducible rfl
    try simp only [Act.put, List.setIfInBounds_toArray, List.set_cons_zero, List.set_cons_succ]
    refine wpAnyH_take (i := 5) (v := ?_) (by simp only [List.getElem?_toArray, List.getElem?_cons_succ, List.getElem?_cons_zero]; rfl) (by kernel_rfl) (by kernel_rfl) (by kernel_rfl) (by intro _ _ _ h; exact h) (Or.inl ⟨by rfl, ?_⟩) hH ?_
    rotate_left
    · intro w' hSw
      obtain ⟨s0, s1, s2⟩ := hSw
      go_simp
      try with_reducible rfl
    try simp only [Act.put, List.setIfInBounds_toArray, List.set_cons_zero, List.set_cons_succ]
    refine wpAnyH_take (i := 6) (v := ?_) (by simp only [List.getElem?_toArray, List.getElem?_cons_succ, List.getElem?_cons_zero]; rfl) (by kernel_rfl) (by kernel_rfl) (by kernel_rfl) (by intro _ _ _ h; exact h) (Or.inl ⟨by rfl, ?_⟩) hH ?_
    rotate_left
    · intro w' hSw
      obtain ⟨s0, s1, s2⟩ := hSw
      go_simp
      try with_reducible rfl
    try simp only [Act.put, List.setIfInBounds_toArray, List.set_cons_zero, List.set_cons_succ]
    refine wpAnyH_take (i := 7) (v := ?_) (by simp only [List.getElem?_toArray, List.getElem?_cons_succ, List.getElem?_cons_zero]; rfl) (by kernel_rfl) (by kernel_rfl) (by kernel_rfl) (by intro _ _ _ h; exact h) (Or.inl ⟨by rfl, ?_⟩) hH ?_
    rotate_left
    · intro w' hSw
      obtain ⟨s0, s1, s2⟩ := hSw
      go_simp
      try with_reducible rfl
    try simp only [Act.put, List.setIfInBounds_toArray, List.set_cons_zero, List.set_cons_succ]
    refine wpAnyH_ready (rs := [8, 13]) (by kernel_rfl) (by simp) ?_
    refine AllReadyH.cons (o := _) (by simp only [List.getElem?_toArray, List.getElem?_cons_succ, List.getElem?_cons_zero]; rfl) (fun K hK => ?_) ?_
    · go_simp
      go_at_call 69
      refine (HG.out _).mono ?_
      rintro e wA ⟨k, n, q, E, F, x, c, rfl, hlv, hsl, hb7⟩
      have hX := Below.step hH.1.out hb7 (Nat.le_refl _)
      have HLV := Lib.hid hlv
      have HR := Lib.hid (show SlIn wA (fun b => W0.heap.size ≤ b ∧ b < wA.heap.size) F x c from hsl.weak (fun b h => ⟨Nat.le_trans hH.1.out.size h.1, h.2⟩))
      clear hH hb7 hlv hsl
      refine hK.out _ _ ⟨Lib.hid hX, HNX.out _ hX⟩ (fun hH => ?_)
      clear hK K hX
      try simp only [Act.put, List.setIfInBounds_toArray, List.set_cons_zero, List.set_cons_succ]
      refine wpAnyH_take (i := 9) (v := ?_) (by simp only [List.getElem?_toArray, List.getElem?_cons_succ, List.getElem?_cons_zero]; rfl) (by kernel_rfl) (by kernel_rfl) (by kernel_rfl) (by intro _ _ _ h; exact h) (Or.inl ⟨by rfl, ?_⟩) hH ?_
      rotate_left
      · intro w' hSw
        obtain ⟨s0, s1, s2⟩ := hSw
        go_simp
        try with_reducible rfl
      try simp only [Act.put, List.setIfInBounds_toArray, List.set_cons_zero, List.set_cons_succ]
      refine wpAnyH_take (i := 10) (v := ?_) (by simp only [List.getElem?_toArray, List.getElem?_cons_succ, List.getElem?_cons_zero]; rfl) (by kernel_rfl) (by kernel_rfl) (by kernel_rfl) (by intro _ _ _ h; exact h) (Or.inl ⟨by rfl, ?_⟩) hH ?_
      rotate_left
      · intro w' hSw
        obtain ⟨s0, s1, s2⟩ := hSw
        go_simp
        try with_reducible rfl
      try simp only [Act.put, List.setIfInBounds_toArray, List.set_cons_zero, List.set_cons_succ]
      refine wpAnyH_take (i := 11) (v := ?_) (by simp only [List.getElem?_toArray, List.getElem?_cons_succ, List.getElem?_cons_zero]; rfl) (by kernel_rfl) (by kernel_rfl) (by kernel_rfl) (by intro _ _ _ h; exact h) (Or.inl ⟨by rfl, ?_⟩) hH ?_
      rotate_left
      · intro w' hSw
        obtain ⟨s0, s1, s2⟩ := hSw
        go_simp
        try with_reducible rfl
      try simp only [Act.put, List.setIfInBounds_toArray, List.set_cons_zero, List.set_cons_succ]
      refine wpAnyH_take (i := 12) (v := ?_) (by simp only [List.getElem?_toArray, List.getElem?_cons_succ, List.getElem?_cons_zero]; rfl) (by kernel_rfl) (by kernel_rfl) (by kernel_rfl) (by intro _ _ _ h; exact h) (Or.inl ⟨by rfl, ?_⟩) hH ?_
      rotate_left
      · intro w' hSw
        obtain ⟨s0, s1, s2⟩ := hSw
        go_simp
        try with_reducible rfl
      try simp only [Act.put, List.setIfInBounds_toArray, List.set_cons_zero, List.set_cons_succ]
      refine wpAnyH_ready (rs := [13]) (by kernel_rfl) (by simp) ?_
      refine AllReadyH.cons (o := _) (by simp only [List.getElem?_toArray, List.getElem?_cons_succ, List.getElem?_cons_zero]; rfl) (fun K hK => ?_) AllReadyH.nil
      go_simp
      have hz := ZLAt.new hH.1.out.size
      have HZ := Lib.hid hz
      have hb7 : Below (wA).heap.size wA (wA.alloc (.cells #[.int .i64 0, .int .i64 0, .slice none 0 0] 33)) := (Below.refl _ _).alloc (Nat.le_refl _) _
      have hX := Below.step hH.1.out hb7 (Nat.le_refl _)
      have HW := hH.1
      have HRO := HR
      replace HR := Lib.hid (OffL.new HR.out (.cells #[.int .i64 0, .int .i64 0, .slice none 0 0] 33))
      clear hH hb7 hz
      refine hK.out _ _ ⟨Lib.hid hX, HNX.out _ hX⟩ (fun hH => ?_)
      clear hK K hX
      try simp only [Act.put, List.setIfInBounds_toArray, List.set_cons_zero, List.set_cons_succ]
      refine wpAnyH_ready (rs := [14]) (by kernel_rfl) (by simp) ?_
      refine AllReadyH.cons (o := _) (by simp only [List.getElem?_toArray, List.getElem?_cons_succ, List.getElem?_cons_zero]; rfl) (fun K hK => ?_) AllReadyH.nil
      obtain ⟨m0, m1, m2⟩ := cells3 HZ.out.2
      have m4 := free_of HZ.out.2
      go_simp
      have hX := Below.step HW.out ((Below.refl _ _).alloc (Nat.le_refl _) (.cells #[.int .i64 k, .int .i64 n, .slice x F.len c] 33)) (Nat.le_refl _)
      have HBX := Lib.hid (show BoxL (wA.alloc (.cells #[.int .i64 k, .int .i64 n, .slice x F.len c] 33)) wA.heap.size k n F x c ∧ OffL (wA.alloc (.cells #[.int .i64 k, .int .i64 n, .slice x F.len c] 33)) wA.heap.size W0.heap.size F x c ∧ W0.heap.size ≤ wA.heap.size from ⟨heap_new _ _, OffL.new HRO.out _, HZ.out.1⟩)
      clear hH m0 m1 m2 m4 HRO HW
      refine hK.out _ _ ⟨Lib.hid hX, HNX.out _ hX⟩ (fun hH => ?_)
      clear hK K hX
      try simp only [Act.put, List.setIfInBounds_toArray, List.set_cons_zero, List.set_cons_succ]
      refine wpAnyH_take (i := 15) (v := ?_) (by simp only [List.getElem?_toArray, List.getElem?_cons_succ, List.getElem?_cons_zero]; rfl) (by kernel_rfl) (by kernel_rfl) (by kernel_rfl) (by intro _ _ _ h; exact h) (Or.inl ⟨by rfl, ?_⟩) hH ?_
      rotate_left
      · intro w' hSw
        obtain ⟨s0, s1, s2⟩ := hSw
        go_simp
        try with_reducible rfl
      try simp only [Act.put, List.setIfInBounds_toArray, List.set_cons_zero, List.set_cons_succ]
      refine wpAnyH_take (i := 16) (v := ?_) (by simp only [List.getElem?_toArray, List.getElem?_cons_succ, List.getElem?_cons_zero]; rfl) (by kernel_rfl) (by kernel_rfl) (by kernel_rfl) (by intro _ _ _ h; exact h) (Or.inl ⟨by rfl, ?_⟩) hH ?_
      rotate_left
      · intro w' hSw
        obtain ⟨s0, s1, s2⟩ := hSw
        go_simp
        try with_reducible rfl
      try simp only [Act.put, List.setIfInBounds_toArray, List.set_cons_zero, List.set_cons_succ]
      refine wpAnyH_done (by kernel_rfl) ?_ _
      have HE := hH.1
      clear hH
      go_wp2_with fail
      go_meet
      exact ⟨_, k, n, q, E, F, x, c, rfl, rfl, rfl, HBX, HLV, HE⟩
    refine AllReadyH.cons (o := _) (by simp only [List.getElem?_toArray, List.getElem?_cons_succ, List.getElem?_cons_zero]; rfl) (fun K hK => ?_) AllReadyH.nil
    go_simp
    have hz : ZLAt (W0.drew.alloc (.cells #[.int .i64 0, .int .i64 0, .slice none 0 0] 33)) W0.heap.size W0.heap.size := ZLAt.new hH.1.out.size
    have HZ := Lib.hid hz
    have hb7 : Below (W0.drew).heap.size W0.drew (W0.drew.alloc (.cells #[.int .i64 0, .int .i64 0, .slice none 0 0] 33)) := (Below.refl _ _).alloc (Nat.le_refl _) _
    have hX := Below.step hH.1.out hb7 (Nat.le_refl _)
    clear hH hb7 hz
    refine hK.out _ _ ⟨Lib.hid hX, HNX.out _ hX⟩ (fun hH => ?_)
    clear hK K hX
    try simp only [Act.put, List.setIfInBounds_toArray, List.set_cons_zero, List.set_cons_succ]
    refine wpAnyH_ready (rs := [8]) (by kernel_rfl) (by simp) ?_
    refine AllReadyH.cons (o := _) (by simp only [List.getElem?_toArray, List.getElem?_cons_succ, List.getElem?_cons_zero]; rfl) (fun K hK => ?_) AllReadyH.nil
    go_simp
    go_at_call 69
    refine (HG.out _).mono ?_
    rintro e wA ⟨k, n, q, E, F, x, c, rfl, hlv, hsl, hb7⟩
    have hX := Below.step hH.1.out hb7 (Nat.le_refl _)
    have HLV := Lib.hid hlv
    have HR := Lib.hid (show OffL wA _ W0.heap.size F x c from hsl.weak (fun b h => ⟨Nat.ne_of_gt (Nat.lt_of_lt_of_le HZ.out.lt h.1), Nat.le_trans hH.1.out.size h.1, h.2⟩))
    replace HZ := Lib.hid (HZ.out.later hb7)
    clear hH hb7 hlv hsl
    refine hK.out _ _ ⟨Lib.hid hX, HNX.out _ hX⟩ (fun hH => ?_)
    clear hK K hX
    try simp only [Act.put, List.setIfInBounds_toArray, List.set_cons_zero, List.set_cons_succ]
    refine wpAnyH_take (i := 9) (v := ?_) (by simp only [List.getElem?_toArray, List.getElem?_cons_succ, List.getElem?_cons_zero]; rfl) (by kernel_rfl) (by kernel_rfl) (by kernel_rfl) (by intro _ _ _ h; exact h) (Or.inl ⟨by rfl, ?_⟩) hH ?_
    rotate_left
    · intro w' hSw
      obtain ⟨s0, s1, s2⟩ := hSw
      go_simp
      try with_reducible rfl
    try simp only [Act.put, List.setIfInBounds_toArray, List.set_cons_zero, List.set_cons_succ]
    refine wpAnyH_take (i := 10) (v := ?_) (by simp only [List.getElem?_toArray, List.getElem?_cons_succ, List.getElem?_cons_zero]; rfl) (by kernel_rfl) (by kernel_rfl) (by kernel_rfl) (by intro _ _ _ h; exact h) (Or.inl ⟨by rfl, ?_⟩) hH ?_
    rotate_left
    · intro w' hSw
      obtain ⟨s0, s1, s2⟩ := hSw
      go_simp
      try with_reducible rfl
    try simp only [Act.put, List.setIfInBounds_toArray, List.set_cons_zero, List.set_cons_succ]
    refine wpAnyH_take (i := 11) (v := ?_) (by simp only [List.getElem?_toArray, List.getElem?_cons_succ, List.getElem?_cons_zero]; rfl) (by kernel_rfl) (by kernel_rfl) (by kernel_rfl) (by intro _ _ _ h; exact h) (Or.inl ⟨by rfl, ?_⟩) hH ?_
    rotate_left
    · intro w' hSw
      obtain ⟨s0, s1, s2⟩ := hSw
      go_simp
      try with_reducible rfl
    try simp only [Act.put, List.setIfInBounds_toArray, List.set_cons_zero, List.set_cons_succ]
    refine wpAnyH_take (i := 12) (v := ?_) (by simp only [List.getElem?_toArray, List.getElem?_cons_succ, List.getElem?_cons_zero]; rfl) (by kernel_rfl) (by kernel_rfl) (by kernel_rfl) (by intro _ _ _ h; exact h) (Or.inl ⟨by rfl, ?_⟩) hH ?_
    rotate_left
    · intro w' hSw
      obtain ⟨s0, s1, s2⟩ := hSw
      go_simp
      try with_reducible rfl
    try simp only [Act.put, List.setIfInBounds_toArray, List.set_cons_zero, List.set_cons_succ]
    refine wpAnyH_ready (rs := [14]) (by kernel_rfl) (by simp) ?_
    refine AllReadyH.cons (o := _) (by simp only [List.getElem?_toArray, List.getElem?_cons_succ, List.getElem?_cons_zero]; rfl) (fun K hK => ?_) AllReadyH.nil
    obtain ⟨m0, m1, m2⟩ := cells3 HZ.out.2
    have m4 := free_of HZ.out.2
    go_simp
    have hX := boxl_below hH.1.out HZ.out.1 (.int .i64 (k : Int)) (.int .i64 (n : Int)) (.slice x F.len c)
    have hbx := boxl_set (k := k) (n := n) HZ.out.2 HR.out
    have HBX := Lib.hid (And.intro hbx.1 (And.intro hbx.2 HZ.out.1))
    clear hH m0 m1 m2 m4 hbx
    refine hK.out _ _ ⟨Lib.hid hX, HNX.out _ hX⟩ (fun hH => ?_)
    clear hK K hX
    try simp only [Act.put, List.setIfInBounds_toArray, List.set_cons_zero, List.set_cons_succ]
    refine wpAnyH_take (i := 15) (v := ?_) (by simp only [List.getElem?_toArray, List.getElem?_cons_succ, List.getElem?_cons_zero]; rfl) (by kernel_rfl) (by kernel_rfl) (by kernel_rfl) (by intro _ _ _ h; exact h) (Or.inl ⟨by rfl, ?_⟩) hH ?_
    rotate_left
    · intro w' hSw
      obtain ⟨s0, s1, s2⟩ := hSw
      go_simp
      try with_reducible rfl
    try simp only [Act.put, List.setIfInBounds_toArray, List.set_cons_zero, List.set_cons_succ]
    refine wpAnyH_take (i := 16) (v := ?_) (by simp only [List.getElem?_toArray, List.getElem?_cons_succ, List.getElem?_cons_zero]; rfl) (by kernel_rfl) (by kernel_rfl) (by kernel_rfl) (by intro _ _ _ h; exact h) (Or.inl ⟨by rfl, ?_⟩) hH ?_
    rotate_left
    · intro w' hSw
      obtain ⟨s0, s1, s2⟩ := hSw
      go_simp
      try with_reducible rfl
    try simp only [Act.put, List.setIfInBounds_toArray, List.set_cons_zero, List.set_cons_succ]
    refine wpAnyH_done (by kernel_rfl) ?_ _
    have HE := hH.1
    clear hH
    go_wp2_with fail
    go_meet
    exact ⟨_, k, n, q, E, F, x, c, rfl, rfl, rfl, HBX, HLV, HE⟩
  case rest =>
    obtain ⟨M, k, n, q, E, F, x, c, rfl, rfl, rfl, hbx, hlv, hbe⟩ := hcut
    obtain ⟨c0, c1, c2, c3, fz, hR⟩ := (HA.out.below hbe.out).facts
    have HA2 := HA.out.below hbe.out
    have HZ2 := (hbe.out.block _ (lt_of_block HZ0.out)).trans HZ0.out
    have hw0 := HB0.out.size
    have hR0 := HRW.out
    have hz0 := lt_of_block HZ0.out
    have hM := hbx.out.2.2
    have hg3 := Only.set wc R 3 (.int .i64 (E : Int))
    have A3 := HA2.set3 E
    have Z3 := (Only.block hg3 (lt_of_block HZ2) (by omega)).trans HZ2
    have B3 := (Only.block hg3 (lt_of_block hbx.out.1) (by omega)).trans hbx.out.1
    have S3 : OffL (wc.setCell ⟨R, 3, none⟩ (.int .i64 E)) M W0.heap.size F x c := (hbx.out.2.1.keep (fun b hb => Only.block hg3 hb.2.2 (by omega))).weak (fun b hb => ⟨hb.1, hb.2.1, Nat.lt_of_lt_of_le hb.2.2 hg3.size⟩)
    have G3 := Only.after (Only.of_below (Below.step HB0.out hbe.out (Nat.le_refl _)) R) hg3
    clear hg3 HA2 HZ2
    go_upto_region 5 with fail
    generalize wc.setCell ⟨R, 3, none⟩ (.int .i64 (E : Int)) = W3 at A3 Z3 B3 S3 G3 ⊢
    clear c0 c1 c2 c3 fz hR
    have hlo : w.heap.size < W0.heap.size := hz0
    clear hz0 hbe hbx
    by_cases hE : E = 0
    · subst hE
      obtain ⟨c0, c1, c2, c3, fz, hR⟩ := A3.facts
      have hg4 := Only.set W3 R 1 (.int .i64 (q : Int))
      have A4 := A3.set1 q
      have Z4 := (Only.block hg4 (lt_of_block Z3) (by omega)).trans Z3
      have B4 := (Only.block hg4 (lt_of_block B3) (by omega)).trans B3
      have S4 : OffL (W3.setCell ⟨R, 1, none⟩ (.int .i64 q)) M W0.heap.size F x c := (S3.keep (fun b hb => Only.block hg4 hb.2.2 (by omega))).weak (fun b hb => ⟨hb.1, hb.2.1, Nat.lt_of_lt_of_le hb.2.2 hg4.size⟩)
      have G4 := Only.after G3 hg4
      clear hg4 A3 Z3 B3 S3 G3
      go_upto_region 7 with fail
      generalize W3.setCell ⟨R, 1, none⟩ (.int .i64 (q : Int)) = W4 at A4 Z4 B4 S4 G4 ⊢
      clear c0 c1 c2 c3 fz hR
      obtain ⟨z0, z1, z2⟩ := cells3 Z4
      have zf := free_of Z4
      obtain ⟨m0, m1, m2⟩ := cells3 B4
      have HF := Lib.hid (vl_fin (p := p) (E := 0) (by simpa using A4) S4 hlo G4 hR0 hlv.out)
      clear A4 Z4 B4 S4 G4
      go_wp2_with fail
      refine bodyPost_ret (v := .agg #[.int .i64 k, .int .i64 n, .slice x F.len c]) (by simp [results, Try.results51, go_sem, z0, z1, z2]) rfl ?_
      exact HF.out
    · have d1 : ((E : Int) == 0) = false := by rw [beq_eq_false_iff_ne]; omega
      obtain ⟨z0, z1, z2⟩ := cells3 Z3
      have zf := free_of Z3
      obtain ⟨m0, m1, m2⟩ := cells3 B3
      have HF := Lib.hid (vl_fin (p := p) (q := q) (by rw [if_neg hE]; exact A3) S3 hlo G3 hR0 hlv.out)
      clear A3 Z3 B3 S3 G3
      go_wp2_with fail
      refine bodyPost_ret (v := .agg #[.int .i64 k, .int .i64 n, .slice x F.len c]) (by simp [results, Try.results51, go_sem, z0, z1, z2]) rfl ?_
      exact HF.out
end Go.Proofs.Ythnkoamabfaioaa
