/- The walk of LevelMade. -/
import Derived.Test.YtlbflfijihbmdaaValues2
import Derived.Test.YtlbflfijihbmdaaStack
namespace Go.Proofs.Ytlbflfijihbmdaa.levelMade
open Go.RowKit

/-- What lies in memory when two levels and two lists of values have been made. -/
structure MdAt (NA NB gp gq : Nat) (ka na : Int) (Fa : Fo) (xa : Option Addr) (ca : Nat) (kb nb : Int) (Fb : Fo) (xb : Option Addr) (cb : Nat) (p0 p1 p2 q0 q1 : Int) (W : World) : Prop where
  a0 : W.cell? ⟨NA, 0, none⟩ = some (.int .i64 ka)
  a1 : W.cell? ⟨NA, 1, none⟩ = some (.int .i64 na)
  a2 : W.cell? ⟨NA, 2, none⟩ = some (.slice xa Fa.len ca)
  b0 : W.cell? ⟨NB, 0, none⟩ = some (.int .i64 kb)
  b1 : W.cell? ⟨NB, 1, none⟩ = some (.int .i64 nb)
  b2 : W.cell? ⟨NB, 2, none⟩ = some (.slice xb Fb.len cb)
  vp : Vs3 W gp p0 p1 p2
  vq : Vs2 W gq q0 q1
  sa : SlIn W (· < NA) Fa xa ca
  sb : SlIn W (· < NA) Fb xb cb
  lo : NA < NB ∧ NB < gp ∧ gp < gq ∧ gq < W.heap.size
section
variable {NA NB gp gq : Nat} {ka na : Int} {Fa : Fo} {xa : Option Addr} {ca : Nat} {kb nb : Int} {Fb : Fo} {xb : Option Addr} {cb : Nat} {p0 p1 p2 q0 q1 : Int} {W W' : World}
theorem MdAt.below (h : MdAt NA NB gp gq ka na Fa xa ca kb nb Fb xb cb p0 p1 p2 q0 q1 W) (hb : Below W.heap.size W W') : MdAt NA NB gp gq ka na Fa xa ca kb nb Fb xb cb p0 p1 p2 q0 q1 W' := by
  have hl := h.lo
  have hz := hb.size
  exact ⟨(bcell hb _ _ (by omega)).trans h.a0, (bcell hb _ _ (by omega)).trans h.a1, (bcell hb _ _ (by omega)).trans h.a2, (bcell hb _ _ (by omega)).trans h.b0, (bcell hb _ _ (by omega)).trans h.b1, (bcell hb _ _ (by omega)).trans h.b2,
    (hb.block gp (by omega)).trans h.vp, (hb.block gq (by omega)).trans h.vq, h.sa.below (hb.mono (by omega)), h.sb.below (hb.mono (by omega)), by omega⟩
theorem Vs3.ints (h : Vs3 W gp p0 p1 p2) : IntsIn W (· < W.heap.size) [p0, p1, p2] (some ⟨gp, 0, none⟩) 3 :=
  IntsIn.mk (by simp) (by omega) (lt_of_block h) (fun i hi => by
    match i, hi with
    | 0, _ => exact cell_at h 0
    | 1, _ => exact cell_at h 1
    | 2, _ => exact cell_at h 2)
theorem Vs2.ints (h : Vs2 W gq q0 q1) : IntsIn W (· < W.heap.size) [q0, q1] (some ⟨gq, 0, none⟩) 2 :=
  IntsIn.mk (by simp) (by omega) (lt_of_block h) (fun i hi => by
    match i, hi with
    | 0, _ => exact cell_at h 0
    | 1, _ => exact cell_at h 1)
end

/-- What the last line needs: the levels c and a in their variables, and two lists of values. -/
structure FinAt (NA NC gp gq : Nat) (ka na : Int) (Fa : Fo) (xa : Option Addr) (ca : Nat) (kc nc : Int) (Fc : Fo) (xc : Option Addr) (cc : Nat) (p0 p1 p2 q0 q1 : Int) (W : World) : Prop where
  a0 : W.cell? ⟨NA, 0, none⟩ = some (.int .i64 ka)
  a1 : W.cell? ⟨NA, 1, none⟩ = some (.int .i64 na)
  a2 : W.cell? ⟨NA, 2, none⟩ = some (.slice xa Fa.len ca)
  c0 : W.cell? ⟨NC, 0, none⟩ = some (.int .i64 kc)
  c1 : W.cell? ⟨NC, 1, none⟩ = some (.int .i64 nc)
  c2 : W.cell? ⟨NC, 2, none⟩ = some (.slice xc Fc.len cc)
  vp : Vs3 W gp p0 p1 p2
  vq : Vs2 W gq q0 q1
  sa : SlIn W (· < W.heap.size) Fa xa ca
  sc : SlIn W (· < W.heap.size) Fc xc cc
  lo : NA < W.heap.size ∧ NC < W.heap.size ∧ gp < W.heap.size ∧ gq < W.heap.size
theorem FinAt.below {NA NC gp gq : Nat} {ka na : Int} {Fa : Fo} {xa : Option Addr} {ca : Nat} {kc nc : Int} {Fc : Fo} {xc : Option Addr} {cc : Nat} {p0 p1 p2 q0 q1 : Int} {W W' : World}
    (h : FinAt NA NC gp gq ka na Fa xa ca kc nc Fc xc cc p0 p1 p2 q0 q1 W) (hb : Below W.heap.size W W') : FinAt NA NC gp gq ka na Fa xa ca kc nc Fc xc cc p0 p1 p2 q0 q1 W' := by
  have hl := h.lo
  have hz := hb.size
  exact ⟨(bcell hb _ _ (by omega)).trans h.a0, (bcell hb _ _ (by omega)).trans h.a1, (bcell hb _ _ (by omega)).trans h.a2, (bcell hb _ _ (by omega)).trans h.c0, (bcell hb _ _ (by omega)).trans h.c1, (bcell hb _ _ (by omega)).trans h.c2,
    (hb.block gp (by omega)).trans h.vp, (hb.block gq (by omega)).trans h.vq, (h.sa.below hb).mono hz, (h.sc.below hb).mono hz, by omega⟩
theorem LvOk.size {k n : Int} {F : Fo} (h : LvOk 5 k n F) : F.size ≤ 30 := by have := h.2; omega

section
variable {NA NB gp gq : Nat} {ka na : Int} {Fa : Fo} {xa : Option Addr} {ca : Nat} {kb nb : Int} {Fb : Fo} {xb : Option Addr} {cb : Nat} {p0 p1 p2 q0 q1 : Int} {W : World}
theorem MdAt.fin2' (h : MdAt NA NB gp gq ka na Fa xa ca kb nb Fb xb cb p0 p1 p2 q0 q1 W) {S : Nat} (hS : W.heap.size = S) (kc nc : Int) :
    FinAt NA (S + 1) gp gq ka na Fa xa ca kc nc (.cons ka na Fa (.cons kb nb Fb .nil)) (some ⟨S, 0, none⟩) 2 p0 p1 p2 q0 q1
      ((W.alloc (.cells #[.int .i64 ka, .int .i64 na, .slice xa Fa.len ca, .int .i64 kb, .int .i64 nb, .slice xb Fb.len cb] 24)).alloc (.cells #[.int .i64 kc, .int .i64 nc, .slice (some ⟨S, 0, none⟩) 2 2] 24)) := by
  subst hS
  have hl := h.lo
  have hb : Below W.heap.size W ((W.alloc (.cells #[.int .i64 ka, .int .i64 na, .slice xa Fa.len ca, .int .i64 kb, .int .i64 nb, .slice xb Fb.len cb] 24)).alloc (.cells #[.int .i64 kc, .int .i64 nc, .slice (some ⟨W.heap.size, 0, none⟩) 2 2] 24)) := ((Below.refl _ _).alloc (Nat.le_refl _) _).alloc (by simp) _
  have u1 : ((W.alloc (.cells #[.int .i64 ka, .int .i64 na, .slice xa Fa.len ca, .int .i64 kb, .int .i64 nb, .slice xb Fb.len cb] 24)).alloc (.cells #[.int .i64 kc, .int .i64 nc, .slice (some ⟨W.heap.size, 0, none⟩) 2 2] 24)).heap[W.heap.size]? = some (.cells #[.int .i64 ka, .int .i64 na, .slice xa Fa.len ca, .int .i64 kb, .int .i64 nb, .slice xb Fb.len cb] 24) := (heap_old _ _ (by simp)).trans (heap_new _ _)
  have u2 := heap_second W (.cells #[.int .i64 ka, .int .i64 na, .slice xa Fa.len ca, .int .i64 kb, .int .i64 nb, .slice xb Fb.len cb] 24) (.cells #[.int .i64 kc, .int .i64 nc, .slice (some ⟨W.heap.size, 0, none⟩) 2 2] 24)
  have us : ((W.alloc (.cells #[.int .i64 ka, .int .i64 na, .slice xa Fa.len ca, .int .i64 kb, .int .i64 nb, .slice xb Fb.len cb] 24)).alloc (.cells #[.int .i64 kc, .int .i64 nc, .slice (some ⟨W.heap.size, 0, none⟩) 2 2] 24)).heap.size = W.heap.size + 2 := by simp
  generalize (W.alloc (.cells #[.int .i64 ka, .int .i64 na, .slice xa Fa.len ca, .int .i64 kb, .int .i64 nb, .slice xb Fb.len cb] 24)).alloc (.cells #[.int .i64 kc, .int .i64 nc, .slice (some ⟨W.heap.size, 0, none⟩) 2 2] 24) = W9 at hb u1 u2 us ⊢
  obtain ⟨c0, c1, c2⟩ := cells3 u2
  have h9 := h.below hb
  have s1 := h9.sa.mono (B' := W9.heap.size) (by omega)
  have s2 := h9.sb.mono (B' := W9.heap.size) (by omega)
  refine ⟨h9.a0, h9.a1, h9.a2, c0, c1, c2, h9.vp, h9.vq, s1, SlIn.mk (by simp [Fo.len]) (by omega) (by omega) ?_, by omega⟩
  exact FoIn.push (cell_at u1 0) (cell_at u1 1) (cell_at u1 2) s1 (FoIn.push (cell_at u1 3) (cell_at u1 4) (cell_at u1 5) s2 trivial)
theorem MdAt.fin1' (h : MdAt NA NB gp gq ka na Fa xa ca kb nb Fb xb cb p0 p1 p2 q0 q1 W) {S : Nat} (hS : W.heap.size = S) (kc nc : Int) :
    FinAt NA (S + 1) gp gq ka na Fa xa ca kc nc (.cons ka na Fa .nil) (some ⟨S, 0, none⟩) 2 p0 p1 p2 q0 q1
      ((W.alloc (.cells #[.int .i64 ka, .int .i64 na, .slice xa Fa.len ca, .int .i64 kb, .int .i64 nb, .slice xb Fb.len cb] 24)).alloc (.cells #[.int .i64 kc, .int .i64 nc, .slice (some ⟨S, 0, none⟩) 1 2] 24)) := by
  subst hS
  have hl := h.lo
  have hb : Below W.heap.size W ((W.alloc (.cells #[.int .i64 ka, .int .i64 na, .slice xa Fa.len ca, .int .i64 kb, .int .i64 nb, .slice xb Fb.len cb] 24)).alloc (.cells #[.int .i64 kc, .int .i64 nc, .slice (some ⟨W.heap.size, 0, none⟩) 1 2] 24)) := ((Below.refl _ _).alloc (Nat.le_refl _) _).alloc (by simp) _
  have u1 : ((W.alloc (.cells #[.int .i64 ka, .int .i64 na, .slice xa Fa.len ca, .int .i64 kb, .int .i64 nb, .slice xb Fb.len cb] 24)).alloc (.cells #[.int .i64 kc, .int .i64 nc, .slice (some ⟨W.heap.size, 0, none⟩) 1 2] 24)).heap[W.heap.size]? = some (.cells #[.int .i64 ka, .int .i64 na, .slice xa Fa.len ca, .int .i64 kb, .int .i64 nb, .slice xb Fb.len cb] 24) := (heap_old _ _ (by simp)).trans (heap_new _ _)
  have u2 := heap_second W (.cells #[.int .i64 ka, .int .i64 na, .slice xa Fa.len ca, .int .i64 kb, .int .i64 nb, .slice xb Fb.len cb] 24) (.cells #[.int .i64 kc, .int .i64 nc, .slice (some ⟨W.heap.size, 0, none⟩) 1 2] 24)
  have us : ((W.alloc (.cells #[.int .i64 ka, .int .i64 na, .slice xa Fa.len ca, .int .i64 kb, .int .i64 nb, .slice xb Fb.len cb] 24)).alloc (.cells #[.int .i64 kc, .int .i64 nc, .slice (some ⟨W.heap.size, 0, none⟩) 1 2] 24)).heap.size = W.heap.size + 2 := by simp
  generalize (W.alloc (.cells #[.int .i64 ka, .int .i64 na, .slice xa Fa.len ca, .int .i64 kb, .int .i64 nb, .slice xb Fb.len cb] 24)).alloc (.cells #[.int .i64 kc, .int .i64 nc, .slice (some ⟨W.heap.size, 0, none⟩) 1 2] 24) = W9 at hb u1 u2 us ⊢
  obtain ⟨c0, c1, c2⟩ := cells3 u2
  have h9 := h.below hb
  have s1 := h9.sa.mono (B' := W9.heap.size) (by omega)
  refine ⟨h9.a0, h9.a1, h9.a2, c0, c1, c2, h9.vp, h9.vq, s1, SlIn.mk (by simp [Fo.len]) (by omega) (by omega) ?_, by omega⟩
  exact FoIn.push (cell_at u1 0) (cell_at u1 1) (cell_at u1 2) s1 trivial
theorem MdAt.core (h : MdAt NA NB gp gq ka na Fa xa ca kb nb Fb xb cb p0 p1 p2 q0 q1 W) {W9 : World} {NC : Nat} {kc nc z : Int} {Fc : Fo} {xc : Option Addr} {cc : Nat} (hz : W.heap.size ≤ W9.heap.size) (hold : ∀ b, b ≤ NA ∨ b = gq → W9.heap[b]? = W.heap[b]?) (hvp : Vs3 W9 gp z p1 p2)
    (c0 : W9.cell? ⟨NC, 0, none⟩ = some (.int .i64 kc)) (c1 : W9.cell? ⟨NC, 1, none⟩ = some (.int .i64 nc)) (c2 : W9.cell? ⟨NC, 2, none⟩ = some (.slice xc Fc.len cc)) (hN : NC < W9.heap.size)
    (hsc : SlIn W9 (· < W9.heap.size) Fa xa ca → SlIn W9 (· < W9.heap.size) Fb xb cb → SlIn W9 (· < W9.heap.size) Fc xc cc) : FinAt NA NC gp gq ka na Fa xa ca kc nc Fc xc cc z p1 p2 q0 q1 W9 := by
  have hl := h.lo
  have hc : ∀ o, W9.cell? ⟨NA, o, none⟩ = W.cell? ⟨NA, o, none⟩ := fun o => World.cell?_of_block (w := W) (hold NA (.inl (Nat.le_refl _)))
  have s1 : SlIn W9 (· < W9.heap.size) Fa xa ca := (h.sa.keep (fun b hb => hold b (.inl (Nat.le_of_lt hb)))).mono (by omega)
  have s2 : SlIn W9 (· < W9.heap.size) Fb xb cb := (h.sb.keep (fun b hb => hold b (.inl (Nat.le_of_lt hb)))).mono (by omega)
  exact ⟨(hc _).trans h.a0, (hc _).trans h.a1, (hc _).trans h.a2, c0, c1, c2, hvp, (hold _ (.inr rfl)).trans h.vq, s1, hsc s1 s2, by omega⟩
theorem MdAt.finp (h : MdAt NA NB gp gq ka na Fa xa ca kb nb Fb xb cb p0 p1 p2 q0 q1 W) (z : Int) :
    FinAt NA (W.heap.size + 1) gp gq ka na Fa xa ca 3 0 (.cons ka na Fa (.cons kb nb Fb .nil)) (some ⟨W.heap.size, 0, none⟩) 2 z p1 p2 q0 q1 (((W.alloc (.cells #[.int .i64 ka, .int .i64 na, .slice xa Fa.len ca, .int .i64 kb, .int .i64 nb, .slice xb Fb.len cb] 24)).alloc (.cells #[.int .i64 3, .int .i64 0, .slice (some ⟨W.heap.size, 0, none⟩) 2 2] 24)).setCell ⟨gp, 0, none⟩ (.int .i64 z)) := by
  have hl := h.lo
  have hk : ∀ b, b ≠ gp → (((W.alloc (.cells #[.int .i64 ka, .int .i64 na, .slice xa Fa.len ca, .int .i64 kb, .int .i64 nb, .slice xb Fb.len cb] 24)).alloc (.cells #[.int .i64 3, .int .i64 0, .slice (some ⟨W.heap.size, 0, none⟩) 2 2] 24)).setCell ⟨gp, 0, none⟩ (.int .i64 z)).heap[b]? = ((W.alloc (.cells #[.int .i64 ka, .int .i64 na, .slice xa Fa.len ca, .int .i64 kb, .int .i64 nb, .slice xb Fb.len cb] 24)).alloc (.cells #[.int .i64 3, .int .i64 0, .slice (some ⟨W.heap.size, 0, none⟩) 2 2] 24)).heap[b]? := fun b hb => Below.heap_setCell _ _ _ _ hb
  have ho : ∀ b, b < W.heap.size → ((W.alloc (.cells #[.int .i64 ka, .int .i64 na, .slice xa Fa.len ca, .int .i64 kb, .int .i64 nb, .slice xb Fb.len cb] 24)).alloc (.cells #[.int .i64 3, .int .i64 0, .slice (some ⟨W.heap.size, 0, none⟩) 2 2] 24)).heap[b]? = W.heap[b]? := fun b hb => (heap_old _ _ (by simp; omega)).trans (heap_old _ _ hb)
  have u1 := (hk W.heap.size (by omega)).trans ((heap_old _ _ (by simp)).trans (heap_new W (.cells #[.int .i64 ka, .int .i64 na, .slice xa Fa.len ca, .int .i64 kb, .int .i64 nb, .slice xb Fb.len cb] 24)))
  have u2 := (hk (W.heap.size + 1) (by omega)).trans (heap_second W (.cells #[.int .i64 ka, .int .i64 na, .slice xa Fa.len ca, .int .i64 kb, .int .i64 nb, .slice xb Fb.len cb] 24) (.cells #[.int .i64 3, .int .i64 0, .slice (some ⟨W.heap.size, 0, none⟩) 2 2] 24))
  have v0 := Vs3.set (show Vs3 ((W.alloc (.cells #[.int .i64 ka, .int .i64 na, .slice xa Fa.len ca, .int .i64 kb, .int .i64 nb, .slice xb Fb.len cb] 24)).alloc (.cells #[.int .i64 3, .int .i64 0, .slice (some ⟨W.heap.size, 0, none⟩) 2 2] 24)) gp p0 p1 p2 from (ho gp (by omega)).trans h.vp) (j := 0) (by omega) z
  have us : (((W.alloc (.cells #[.int .i64 ka, .int .i64 na, .slice xa Fa.len ca, .int .i64 kb, .int .i64 nb, .slice xb Fb.len cb] 24)).alloc (.cells #[.int .i64 3, .int .i64 0, .slice (some ⟨W.heap.size, 0, none⟩) 2 2] 24)).setCell ⟨gp, 0, none⟩ (.int .i64 z)).heap.size = W.heap.size + 2 := by simp
  have h9 : ∀ b, b ≤ NA ∨ b = gq → (((W.alloc (.cells #[.int .i64 ka, .int .i64 na, .slice xa Fa.len ca, .int .i64 kb, .int .i64 nb, .slice xb Fb.len cb] 24)).alloc (.cells #[.int .i64 3, .int .i64 0, .slice (some ⟨W.heap.size, 0, none⟩) 2 2] 24)).setCell ⟨gp, 0, none⟩ (.int .i64 z)).heap[b]? = W.heap[b]? := fun b hb => (hk b (by omega)).trans (ho b (by omega))
  generalize ((W.alloc (.cells #[.int .i64 ka, .int .i64 na, .slice xa Fa.len ca, .int .i64 kb, .int .i64 nb, .slice xb Fb.len cb] 24)).alloc (.cells #[.int .i64 3, .int .i64 0, .slice (some ⟨W.heap.size, 0, none⟩) 2 2] 24)).setCell ⟨gp, 0, none⟩ (.int .i64 z) = W9 at u1 u2 v0 us h9 ⊢
  obtain ⟨c0, c1, c2⟩ := cells3 u2
  exact h.core (by omega) h9 v0 c0 c1 c2 (by omega) (fun s1 s2 => SlIn.mk (by simp [Fo.len]) (by omega) (by omega) (FoIn.push (cell_at u1 0) (cell_at u1 1) (cell_at u1 2) s1 (FoIn.push (cell_at u1 3) (cell_at u1 4) (cell_at u1 5) s2 trivial)))
/-- The append of a third level: it runs. -/
theorem append3 {W : World} (ty : TypeId) {S E la lb : Nat} (hS : W.heap[S]? = some (.cells #[.int .i64 ka, .int .i64 na, .slice xa la ca, .int .i64 kb, .int .i64 nb, .slice xb lb cb] 24)) (hE : W.heap[E]? = some (.cells #[.int .i64 ka, .int .i64 na, .slice xa la ca] 24)) :
    ∃ g' cap' w', (Builtin.append_ #[22, 22] ty #[.slice (some ⟨S, 0, none⟩) 2 2, .slice (some ⟨E, 0, none⟩) 1 1]).run Try.prog W = .ok (.slice (some ⟨g', 0, none⟩) 3 cap') w' ∧ W.grownBy w' (some S) ∧ (g' = S ∨ g' = W.heap.size) ∧ g' < w'.heap.size ∧ 3 ≤ cap' ∧ cap' ≤ maxLen ∧
      (∀ j u, [.int .i64 ka, .int .i64 na, .slice xa la ca, .int .i64 kb, .int .i64 nb, .slice xb lb cb, .int .i64 ka, .int .i64 na, .slice xa la ca][j]? = some u → w'.cell? ⟨g', j, none⟩ = some u) := by
  obtain ⟨i0, hi, hz0, hz1, hz2⟩ := info_parts infoLevel
  have ho : W.ownsRow 0 24 3 (.slice (some ⟨S, 0, none⟩) 2 2) 2 [.int .i64 ka, .int .i64 na, .slice xa la ca, .int .i64 kb, .int .i64 nb, .slice xb lb cb] :=
    ⟨rfl, .inr ⟨S, 2, _, rfl, Nat.zero_le _, hS, by omega, by unfold maxLen; omega, rfl, rfl⟩⟩
  have hc : ∀ j u, [Value.int .i64 ka, .int .i64 na, .slice xa la ca][j]? = some u → W.cell? ((⟨E, 0, none⟩ : Addr).add j) = some u := by
    intro j u hj
    match j, hj with
    | 0, hj => cases hj; exact cell_at hE 0
    | 1, hj => cases hj; exact cell_at hE 1
    | 2, hj => cases hj; exact cell_at hE 2
  have h1 : ∀ u ∈ [Value.int .i64 ka, .int .i64 na, .slice xa la ca], u.oneCell' = true := by
    intro u hu
    simp only [List.mem_cons, List.not_mem_nil, or_false] at hu
    rcases hu with rfl | rfl | rfl <;> rfl
  obtain ⟨v', w', hrun, h2, h3, h4, h5⟩ := run_append_own_at (P := Try.prog) W 0 22 ty 24 i0 _ 3 40 Try.underlying22 hi hz0 hz1 hz2 rfl (by omega) _ 2 _ ho ⟨E, 0, none⟩ 1 1 _ rfl hc h1 (by unfold maxLen; omega) (by omega) (Nat.zero_le _)
  rcases h2.2 with ⟨he, _⟩ | ⟨g', c', cur, hv, hb, hh, hle, hm, _⟩
  · have := (h4.1 he).1; cases this
  · subst hv
    refine ⟨g', c', w', hrun, h3, by simpa [Value.ownBlock] using h5, lt_of_block hh, hle, hm, fun j u hj => ?_⟩
    have := h2.cells (g := g') rfl j u hj
    have e : (⟨g', 0, none⟩ : Addr).add j = ⟨g', j, none⟩ := by unfold Addr.add; split <;> simp_all
    rwa [e] at this
theorem MdAt.fin3 (h : MdAt NA NB gp gq ka na Fa xa ca kb nb Fb xb cb p0 p1 p2 q0 q1 W) {w' : World} {g' cap' : Nat} (hg : (((W.alloc (.cells #[.int .i64 ka, .int .i64 na, .slice xa Fa.len ca, .int .i64 kb, .int .i64 nb, .slice xb Fb.len cb] 24)).alloc (.cells #[.int .i64 3, .int .i64 0, .slice (some ⟨W.heap.size, 0, none⟩) 2 2] 24)).alloc (.cells #[.int .i64 ka, .int .i64 na, .slice xa Fa.len ca] 24)).grownBy w' (some W.heap.size)) (h1 : g' = W.heap.size ∨ g' = W.heap.size + 3) (h2 : g' < w'.heap.size) (h3 : 3 ≤ cap') (h4 : cap' ≤ maxLen)
    (h5 : ∀ j u, [.int .i64 ka, .int .i64 na, .slice xa Fa.len ca, .int .i64 kb, .int .i64 nb, .slice xb Fb.len cb, .int .i64 ka, .int .i64 na, .slice xa Fa.len ca][j]? = some u → w'.cell? ⟨g', j, none⟩ = some u) :
    FinAt NA (W.heap.size + 1) gp gq ka na Fa xa ca 3 0 (.cons ka na Fa (.cons kb nb Fb (.cons ka na Fa .nil))) (some ⟨g', 0, none⟩) cap' p0 p1 p2 q0 q1 (w'.setCell ⟨W.heap.size + 1, 2, none⟩ (.slice (some ⟨g', 0, none⟩) 3 cap')) := by
  have hl := h.lo
  have hsz := hg.size
  have hsz : W.heap.size + 3 ≤ w'.heap.size := by simpa using hsz
  have hk : ∀ b, b ≠ W.heap.size + 1 → (w'.setCell ⟨W.heap.size + 1, 2, none⟩ (.slice (some ⟨g', 0, none⟩) 3 cap')).heap[b]? = w'.heap[b]? := fun b hb => Below.heap_setCell _ _ _ _ hb
  have ho : ∀ b, b < W.heap.size + 3 → b ≠ W.heap.size → w'.heap[b]? = (((W.alloc (.cells #[.int .i64 ka, .int .i64 na, .slice xa Fa.len ca, .int .i64 kb, .int .i64 nb, .slice xb Fb.len cb] 24)).alloc (.cells #[.int .i64 3, .int .i64 0, .slice (some ⟨W.heap.size, 0, none⟩) 2 2] 24)).alloc (.cells #[.int .i64 ka, .int .i64 na, .slice xa Fa.len ca] 24)).heap[b]? := fun b hb hne => hg.block b (by simp; omega) (by intro e; cases e; exact hne rfl)
  have ho2 : ∀ b, b < W.heap.size → w'.heap[b]? = W.heap[b]? := fun b hb => (ho b (by omega) (by omega)).trans ((heap_old _ _ (by simp; omega)).trans ((heap_old _ _ (by simp; omega)).trans (heap_old _ _ hb)))
  have u2 : w'.heap[W.heap.size + 1]? = some (.cells #[.int .i64 3, .int .i64 0, .slice (some ⟨W.heap.size, 0, none⟩) 2 2] 24) := (ho _ (by omega) (by omega)).trans ((heap_old _ _ (by simp)).trans (heap_second W (.cells #[.int .i64 ka, .int .i64 na, .slice xa Fa.len ca, .int .i64 kb, .int .i64 nb, .slice xb Fb.len cb] 24) (.cells #[.int .i64 3, .int .i64 0, .slice (some ⟨W.heap.size, 0, none⟩) 2 2] 24)))
  have u3 : (w'.setCell ⟨W.heap.size + 1, 2, none⟩ (.slice (some ⟨g', 0, none⟩) 3 cap')).heap[W.heap.size + 1]? = some (.cells #[.int .i64 3, .int .i64 0, .slice (some ⟨g', 0, none⟩) 3 cap'] 24) := by
    simp only [World.setCell, Array.getElem?_modify, if_true, u2]; rfl
  have us : (w'.setCell ⟨W.heap.size + 1, 2, none⟩ (.slice (some ⟨g', 0, none⟩) 3 cap')).heap.size = w'.heap.size := by simp
  have hc : ∀ j u, [.int .i64 ka, .int .i64 na, .slice xa Fa.len ca, .int .i64 kb, .int .i64 nb, .slice xb Fb.len cb, .int .i64 ka, .int .i64 na, .slice xa Fa.len ca][j]? = some u → (w'.setCell ⟨W.heap.size + 1, 2, none⟩ (.slice (some ⟨g', 0, none⟩) 3 cap')).cell? ⟨g', j, none⟩ = some u :=
    fun j u hj => (World.cell?_of_block (w := w') (hk g' (by omega))).trans (h5 j u hj)
  have h9 : ∀ b, b < W.heap.size → (w'.setCell ⟨W.heap.size + 1, 2, none⟩ (.slice (some ⟨g', 0, none⟩) 3 cap')).heap[b]? = W.heap[b]? := fun b hb => (hk b (by omega)).trans (ho2 b hb)
  generalize w'.setCell ⟨W.heap.size + 1, 2, none⟩ (.slice (some ⟨g', 0, none⟩) 3 cap') = W9 at u3 us hc h9 ⊢
  obtain ⟨c0, c1, c2⟩ := cells3 u3
  exact h.core (by omega) (fun b hb => h9 b (by omega)) ((h9 gp (by omega)).trans h.vp) c0 c1 c2 (by omega) (fun s1 s2 => ⟨h3, h4, (fun h => by cases h), fun _ => ⟨g', 0, rfl, by omega, FoIn.push (hc 0 _ rfl) (hc 1 _ rfl) (hc 2 _ rfl) s1 (FoIn.push (hc 3 _ rfl) (hc 4 _ rfl) (hc 5 _ rfl) s2 (FoIn.push (hc 6 _ rfl) (hc 7 _ rfl) (hc 8 _ rfl) s1 trivial))⟩⟩)
end

theorem mdAt_start {w2 w4 w5 : World} {ka na : Int} {Fa : Fo} {xa : Option Addr} {ca : Nat} {kb nb : Int} {Fb : Fo} {xb : Option Addr} {cb : Nat} {p0 p1 p2 q0 q1 : Int} (hsa : SlIn w2 (· < w2.heap.size) Fa xa ca) (hsb : SlIn w2 (· < w2.heap.size) Fb xb cb)
    (hb4 : Below (w2.heap.size + 2) ((w2.alloc (.cells #[.int .i64 ka, .int .i64 na, .slice xa Fa.len ca] 24)).alloc (.cells #[.int .i64 kb, .int .i64 nb, .slice xb Fb.len cb] 24)) w4) (hvp : Vs3 w4 (w2.heap.size + 1 + 1) p0 p1 p2) (hvq : Vs2 w5 w4.heap.size q0 q1) (hb5 : Below w4.heap.size w4 w5) :
    MdAt w2.heap.size (w2.heap.size + 1) (w2.heap.size + 1 + 1) w4.heap.size ka na Fa xa ca kb nb Fb xb cb p0 p1 p2 q0 q1 w5 := by
  have hgp := lt_of_block hvp
  have hgq := lt_of_block hvq
  have bx : Below w2.heap.size w2 ((w2.alloc (.cells #[.int .i64 ka, .int .i64 na, .slice xa Fa.len ca] 24)).alloc (.cells #[.int .i64 kb, .int .i64 nb, .slice xb Fb.len cb] 24)) := ((Below.refl _ _).alloc (Nat.le_refl _) _).alloc (by simp) _
  have hb : Below (w2.heap.size + 2) ((w2.alloc (.cells #[.int .i64 ka, .int .i64 na, .slice xa Fa.len ca] 24)).alloc (.cells #[.int .i64 kb, .int .i64 nb, .slice xb Fb.len cb] 24)) w5 := hb4.trans (hb5.mono (by omega))
  have e1 := (hb.block w2.heap.size (by omega)).trans ((heap_old (w2.alloc (.cells #[.int .i64 ka, .int .i64 na, .slice xa Fa.len ca] 24)) (.cells #[.int .i64 kb, .int .i64 nb, .slice xb Fb.len cb] 24) (b := w2.heap.size) (by simp)).trans (heap_new _ _))
  have e2 := (hb.block (w2.heap.size + 1) (by omega)).trans (heap_second _ _ _)
  obtain ⟨a0, a1, a2⟩ := cells3 e1
  obtain ⟨b0, b1, b2⟩ := cells3 e2
  have hbb : Below w2.heap.size w2 w5 := bx.trans (hb.mono (by omega))
  exact ⟨a0, a1, a2, b0, b1, b2, (hb5.block _ hgp).trans hvp, hvq, hsa.below hbb, hsb.below hbb, by omega⟩

theorem wpList_append_run {P : Program} {ops : Array Oper} {rest : List Oper} {o : Oper} {a : Act} {w w' : World} {Q : Exit → Act → World → Prop} {v y v' : Value} (hgd : o.guard = none) (s x : Operand) (t : TypeId)
    (ho : o.op = .call { callee := .builtin .append, args := #[s, x], argTypes := #[t, t] }) (hs : a.eval s = v) (hx : a.eval x = y) (hrun : (Builtin.append_ #[t, t] o.type #[v, y]).run P w = .ok v' w') (h : wpList P ops Q rest (a.put o.dst v') w') :
    wpList P ops Q (o :: rest) a w := by
  refine wpList_plain hgd fun K hK => ?_
  unfold Oper.wp execOp
  simp only [ho, resolve, invoke, builtin, Sem.run_bind, Sem.run_pure, Result.andThen_ok, List.map_toArray, List.map_cons, List.map_nil, hs, hx, hrun]
  exact hK _ _ h

set_option maxRecDepth 100000 in
set_option maxHeartbeats 16000000 in
theorem walk (l1 l2 l3 c1 c2 c3 B : Nat) (a1 a2 a3 : Option Addr) (x n : Int) (w : World) (h1 : U8In w (· < B) l1 a1 c1) (h2 : U8In w (· < B) l2 a2 c2) (h3 : U8In w (· < B) l3 a3 c3) (hB : B ≤ w.heap.size) (hx0 : 0 ≤ x) (hx1 : x < 256) :
    Calls Try.prog 4 #[.slice a1 l1 c1, .slice a2 l2 c2, .slice a3 l3 c3, .int .u8 x, .int .i64 n] w fun e w' => e = .returned (.bool true) ∧ Below w.heap.size w w' := by
  go_enter Try.func4, Try.ntmps4
  go_wp2_with fail
  refine (made_any l1 c1 B a1 _ h1 hB).mono ?_
  rintro e w1 ⟨ka, na, Fa, xa, ca, rfl, hoka, hsa, hb1⟩
  have hw1 := hb1
  have HSA := Lib.hid hsa
  have HOA := Lib.hid hoka
  clear hb1 hsa hoka
  go_wp2_with fail
  refine (made_any l2 c2 B a2 _ (h2.below (hw1.mono hB)) (Nat.le_trans hB hw1.size)).mono ?_
  rintro e w2 ⟨kb, nb, Fb, xb, cb, rfl, hokb, hsb, hb2⟩
  have hw2 : Below w.heap.size w w2 := hw1.trans (hb2.mono hw1.size)
  have HSA2 := Lib.hid (((HSA.out.weak (Q := (· < w1.heap.size)) (fun _ hb => hb.2)).below hb2).mono (B' := w2.heap.size) hb2.size)
  have HSB2 := Lib.hid (hsb.weak (Q := (· < w2.heap.size)) (fun _ hb => hb.2))
  have HOB := Lib.hid hokb
  clear hb2 hsb hokb HSA
  have bx : Below w2.heap.size w2 ((w2.alloc (.cells #[.int .i64 ka, .int .i64 na, .slice xa Fa.len ca] 24)).alloc (.cells #[.int .i64 kb, .int .i64 nb, .slice xb Fb.len cb] 24)) := ((Below.refl _ _).alloc (Nat.le_refl _) _).alloc (by simp) _
  have hwx : Below w.heap.size w ((w2.alloc (.cells #[.int .i64 ka, .int .i64 na, .slice xa Fa.len ca] 24)).alloc (.cells #[.int .i64 kb, .int .i64 nb, .slice xb Fb.len cb] 24)) := hw2.trans (bx.mono hw2.size)
  go_wp2_with fail
  refine (values3_any l3 c3 B a3 _ (h3.below (hwx.mono hB)) (Nat.le_trans hB hwx.size)).mono ?_
  rintro e w4 ⟨p0, p1, p2, rfl, hp0, hp1, hp2, hvp, hb4⟩
  have hw4 : Below w.heap.size w w4 := Below.step hwx hb4 (Nat.le_refl _)
  have HVP := Lib.hid hvp
  have hb4' : Below (w2.heap.size + 2) ((w2.alloc (.cells #[.int .i64 ka, .int .i64 na, .slice xa Fa.len ca] 24)).alloc (.cells #[.int .i64 kb, .int .i64 nb, .slice xb Fb.len cb] 24)) w4 := by simpa using hb4
  clear hvp hb4
  go_wp2_with fail
  refine (values2_any l2 c2 B a2 _ (h2.below (hw4.mono hB)) (Nat.le_trans hB hw4.size)).mono ?_
  rintro e w5 ⟨q0, q1, rfl, hq0, hq1, hvq, hb5⟩
  have hw5 : Below w.heap.size w w5 := Below.step hw4 hb5 (Nat.le_refl _)
  have hNA := hw2.size
  have HMD := Lib.hid (mdAt_start HSA2.out HSB2.out hb4' (by simpa using HVP.out) hvq hb5)
  clear hvq hb5 hb4' HSA2 HSB2 HVP bx hwx hw1 hw2 hw4 h1 h2 h3
  generalize w2.heap.size = NA at HMD hNA ⊢
  generalize w4.heap.size = gq at HMD ⊢
  obtain ⟨m0, m1, m2, m3, m4, m5, mp, mq, ma, mb, ml⟩ := HMD.out
  go_wp2_with fail
  refine (told_any Fa Fb ka na kb nb [p0, p1, p2] [q0, q1] xa xb _ _ ca cb 3 2 w5.heap.size _ (HMD.out.sa.mono (by have := HMD.out.lo; omega)) (HMD.out.sb.mono (by have := HMD.out.lo; omega)) (Vs3.ints HMD.out.vp) (Vs2.ints HMD.out.vq) (Nat.le_refl _) (by have := LvOk.size HOA.out; omega) (by have := LvOk.size HOB.out; omega)).mono ?_
  rintro e w6 ⟨rfl, hb6⟩
  have HM6 := Lib.hid (HMD.out.below hb6)
  have hw6 := Below.step hw5 hb6 (Nat.le_refl _)
  clear m0 m1 m2 m3 m4 m5 mp mq ma mb ml hb6 hw5
  obtain ⟨m0, m1, m2, m3, m4, m5, mp, mq, ma, mb, ml⟩ := HM6.out
  go_wp2_with fail
  refine (told_any Fa Fa ka na ka na [p0, p1, p2] [q0, q1] xa xa _ _ ca ca 3 2 w6.heap.size _ (HM6.out.sa.mono (by have := HM6.out.lo; omega)) (HM6.out.sa.mono (by have := HM6.out.lo; omega)) (Vs3.ints HM6.out.vp) (Vs2.ints HM6.out.vq) (Nat.le_refl _) (by have := LvOk.size HOA.out; omega) (by have := LvOk.size HOA.out; omega)).mono ?_
  rintro e w7 ⟨rfl, hb7⟩
  have HM7 := Lib.hid (HM6.out.below hb7)
  have hw7 := Below.step hw6 hb7 (Nat.le_refl _)
  clear m0 m1 m2 m3 m4 m5 mp mq ma mb ml hb7 hw6
  obtain ⟨m0, m1, m2, m3, m4, m5, mp, mq, ma, mb, ml⟩ := HM7.out
  go_wp2_with fail
  refine (told_any Fa Fb ka na kb nb [p0, p1, p2] [] xa xb _ _ ca cb 3 0 w7.heap.size _ (HM7.out.sa.mono (by have := HM7.out.lo; omega)) (HM7.out.sb.mono (by have := HM7.out.lo; omega)) (Vs3.ints HM7.out.vp) (IntsIn.none _ _) (Nat.le_refl _) (by have := LvOk.size HOA.out; omega) (by have := LvOk.size HOB.out; omega)).mono ?_
  rintro e w8 ⟨rfl, hb8⟩
  have HM8 := Lib.hid (HM7.out.below hb8)
  have hw8 := Below.step hw7 hb8 (Nat.le_refl _)
  clear m0 m1 m2 m3 m4 m5 mp mq ma mb ml hb8 hw7
  obtain ⟨m0, m1, m2, m3, m4, m5, mp, mq, ma, mb, ml⟩ := HM8.out
  have hm : x % 5 = 0 ∨ x % 5 = 1 ∨ x % 5 = 2 ∨ x % 5 = 3 ∨ x % 5 = 4 := by omega
  rcases hm with hm | hm | hm | hm | hm
  · go_wp2_with fail
    have FIN := HM8.out.fin2' rfl 3 n
    refine (awake_any _).mono ?_
    rintro e w10 ⟨rfl, hb10⟩
    have HF := Lib.hid (FIN.below hb10)
    have hw10 : Hid (Below w.heap.size w w10) := by
      refine Lib.hid (Below.step ?_ hb10 (Nat.le_refl _))
      exact ((hw8.alloc hw8.size _).alloc (by have := hw8.size; simp; omega) _)
    clear m0 m1 m2 m3 m4 m5 mp mq ma mb ml hb10 FIN
    obtain ⟨f0, f1, f2, f3, f4, f5, fp, fq, fa, fc, fl⟩ := HF.out
    go_wp2_with fail
    refine (told_any (.cons ka na Fa (.cons kb nb Fb .nil)) Fa 3 n ka na [p0, p1, p2] [q0, q1] (some ⟨w8.heap.size, 0, none⟩) xa _ _ 2 ca 3 2 w10.heap.size _ HF.out.sc HF.out.sa (Vs3.ints HF.out.vp) (Vs2.ints HF.out.vq) (Nat.le_refl _) (by have := LvOk.size HOA.out; have := LvOk.size HOB.out; simp only [Fo.size]; omega) (by have := LvOk.size HOA.out; omega)).mono ?_
    rintro e w11 ⟨rfl, hb11⟩
    have hw11 := Lib.hid (Below.step hw10.out hb11 (Nat.le_refl _))
    go_wp2_with fail
    go_ret
    exact ⟨rfl, hw11.out⟩
  · go_wp2_with fail
    have FIN := HM8.out.fin2' rfl n 0
    refine (awake_any _).mono ?_
    rintro e w10 ⟨rfl, hb10⟩
    have HF := Lib.hid (FIN.below hb10)
    have hw10 : Hid (Below w.heap.size w w10) := by
      refine Lib.hid (Below.step ?_ hb10 (Nat.le_refl _))
      exact ((hw8.alloc hw8.size _).alloc (by have := hw8.size; simp; omega) _)
    clear m0 m1 m2 m3 m4 m5 mp mq ma mb ml hb10 FIN
    obtain ⟨f0, f1, f2, f3, f4, f5, fp, fq, fa, fc, fl⟩ := HF.out
    go_wp2_with fail
    refine (told_any (.cons ka na Fa (.cons kb nb Fb .nil)) Fa n 0 ka na [p0, p1, p2] [q0, q1] (some ⟨w8.heap.size, 0, none⟩) xa _ _ 2 ca 3 2 w10.heap.size _ HF.out.sc HF.out.sa (Vs3.ints HF.out.vp) (Vs2.ints HF.out.vq) (Nat.le_refl _) (by have := LvOk.size HOA.out; have := LvOk.size HOB.out; simp only [Fo.size]; omega) (by have := LvOk.size HOA.out; omega)).mono ?_
    rintro e w11 ⟨rfl, hb11⟩
    have hw11 := Lib.hid (Below.step hw10.out hb11 (Nat.le_refl _))
    go_wp2_with fail
    go_ret
    exact ⟨rfl, hw11.out⟩
  · obtain ⟨f0, f1, f2, _, _, _, _, _, _, _, _⟩ := HM8.out.fin2' rfl 3 0
    have e1 : (((w8.alloc (.cells #[.int .i64 ka, .int .i64 na, .slice xa Fa.len ca, .int .i64 kb, .int .i64 nb, .slice xb Fb.len cb] 24)).alloc (.cells #[.int .i64 3, .int .i64 0, .slice (some ⟨w8.heap.size, 0, none⟩) 2 2] 24)).alloc (.cells #[.int .i64 ka, .int .i64 na, .slice xa Fa.len ca] 24)).heap[w8.heap.size]? = some (.cells #[.int .i64 ka, .int .i64 na, .slice xa Fa.len ca, .int .i64 kb, .int .i64 nb, .slice xb Fb.len cb] 24) := (heap_old _ _ (by simp; omega)).trans ((heap_old _ _ (by simp)).trans (heap_new _ _))
    have e2 : (((w8.alloc (.cells #[.int .i64 ka, .int .i64 na, .slice xa Fa.len ca, .int .i64 kb, .int .i64 nb, .slice xb Fb.len cb] 24)).alloc (.cells #[.int .i64 3, .int .i64 0, .slice (some ⟨w8.heap.size, 0, none⟩) 2 2] 24)).alloc (.cells #[.int .i64 ka, .int .i64 na, .slice xa Fa.len ca] 24)).heap[w8.heap.size + 1 + 1]? = some (.cells #[.int .i64 ka, .int .i64 na, .slice xa Fa.len ca] 24) := by
      have h := heap_second (w8.alloc (.cells #[.int .i64 ka, .int .i64 na, .slice xa Fa.len ca, .int .i64 kb, .int .i64 nb, .slice xb Fb.len cb] 24)) (.cells #[.int .i64 3, .int .i64 0, .slice (some ⟨w8.heap.size, 0, none⟩) 2 2] 24) (.cells #[.int .i64 ka, .int .i64 na, .slice xa Fa.len ca] 24)
      rw [show (w8.alloc (.cells #[.int .i64 ka, .int .i64 na, .slice xa Fa.len ca, .int .i64 kb, .int .i64 nb, .slice xb Fb.len cb] 24)).heap.size = w8.heap.size + 1 by simp] at h
      exact h
    obtain ⟨g', cap', w9, hrun, hgr, hg1, hg2, hc1, hc2, hcs⟩ := append3 22 e1 e2
    have HRUN := Lib.hid hrun
    have FIN := Lib.hid (HM8.out.fin3 hgr (by simpa using hg1) hg2 hc1 hc2 hcs)
    have HBE : Hid (Below w.heap.size w (w9.setCell ⟨w8.heap.size + 1, 2, none⟩ (.slice (some ⟨g', 0, none⟩) 3 cap'))) := by
      refine Lib.hid (Below.setCell (Below.grown (((hw8.alloc hw8.size _).alloc (by have := hw8.size; simp; omega) _).alloc (by have := hw8.size; simp; omega) _) hgr (by have := hw8.size; simp; omega) (fun k hk => by cases hk; exact hw8.size)) ?_ _)
      have := hw8.size
      simp
      omega
    have k0 : w9.heap[w8.heap.size + 1]? = some (.cells #[.int .i64 3, .int .i64 0, .slice (some ⟨w8.heap.size, 0, none⟩) 2 2] 24) := (hgr.block _ (by simp) (by simp)).trans ((heap_old _ _ (by simp)).trans (heap_second _ _ _))
    have k1 := cell_at k0 2
    have k2 := free_of k0 2
    have k3 := lt_of_block k0
    clear hrun hgr hg1 hg2 hc1 hc2 hcs e1 e2 k0
    go_wp2_with (at_builtin; refine wpList_append_run (by rfl) _ _ _ (by rfl) (by rfl) (by rfl) HRUN.out ?_)
    refine (awake_any _).mono ?_
    rintro e w10 ⟨rfl, hb10⟩
    have HF := Lib.hid (FIN.out.below hb10)
    have hw10 : Hid (Below w.heap.size w w10) := Lib.hid (Below.step HBE.out hb10 (Nat.le_refl _))
    clear f0 f1 f2 k1 k2 k3 m0 m1 m2 m3 m4 m5 mp mq ma mb ml hb10 FIN HRUN HBE
    obtain ⟨f0, f1, f2, f3, f4, f5, fp, fq, fa, fc, fl⟩ := HF.out
    go_wp2_with fail
    refine (told_any (.cons ka na Fa (.cons kb nb Fb (.cons ka na Fa .nil))) Fa 3 0 ka na [p0, p1, p2] [q0, q1] (some ⟨g', 0, none⟩) xa _ _ cap' ca 3 2 w10.heap.size _ HF.out.sc HF.out.sa (Vs3.ints HF.out.vp) (Vs2.ints HF.out.vq) (Nat.le_refl _) (by have := LvOk.size HOA.out; have := LvOk.size HOB.out; simp only [Fo.size]; omega) (by have := LvOk.size HOA.out; omega)).mono ?_
    rintro e w11 ⟨rfl, hb11⟩
    have hw11 := Lib.hid (Below.step hw10.out hb11 (Nat.le_refl _))
    go_wp2_with fail
    go_ret
    exact ⟨rfl, hw11.out⟩
  · go_wp2_with fail
    have FIN := HM8.out.fin1' rfl 3 0
    refine (awake_any _).mono ?_
    rintro e w10 ⟨rfl, hb10⟩
    have HF := Lib.hid (FIN.below hb10)
    have hw10 : Hid (Below w.heap.size w w10) := by
      refine Lib.hid (Below.step ?_ hb10 (Nat.le_refl _))
      exact ((hw8.alloc hw8.size _).alloc (by have := hw8.size; simp; omega) _)
    clear m0 m1 m2 m3 m4 m5 mp mq ma mb ml hb10 FIN
    obtain ⟨f0, f1, f2, f3, f4, f5, fp, fq, fa, fc, fl⟩ := HF.out
    go_wp2_with fail
    refine (told_any (.cons ka na Fa .nil) Fa 3 0 ka na [p0, p1, p2] [q0, q1] (some ⟨w8.heap.size, 0, none⟩) xa _ _ 2 ca 3 2 w10.heap.size _ HF.out.sc HF.out.sa (Vs3.ints HF.out.vp) (Vs2.ints HF.out.vq) (Nat.le_refl _) (by have := LvOk.size HOA.out; have := LvOk.size HOB.out; simp only [Fo.size]; omega) (by have := LvOk.size HOA.out; omega)).mono ?_
    rintro e w11 ⟨rfl, hb11⟩
    have hw11 := Lib.hid (Below.step hw10.out hb11 (Nat.le_refl _))
    go_wp2_with fail
    go_ret
    exact ⟨rfl, hw11.out⟩
  · have HFF := HM8.out.fin2' rfl 3 0
    obtain ⟨z, y0, y1, y2⟩ := Vs3.at HFF.vp (j := 0) (by omega)
    go_wp2_with fail
    have FIN := HM8.out.finp n
    refine (awake_any _).mono ?_
    rintro e w10 ⟨rfl, hb10⟩
    have HF := Lib.hid (FIN.below hb10)
    have hw10 : Hid (Below w.heap.size w w10) := by
      refine Lib.hid (Below.step ?_ hb10 (Nat.le_refl _))
      exact (((hw8.alloc hw8.size _).alloc (by have := hw8.size; simp; omega) _).setCell (p := ⟨NA + 1 + 1, 0, none⟩) (by simp; omega) _)
    clear z y0 y1 y2 HFF m0 m1 m2 m3 m4 m5 mp mq ma mb ml hb10 FIN
    obtain ⟨f0, f1, f2, f3, f4, f5, fp, fq, fa, fc, fl⟩ := HF.out
    go_wp2_with fail
    refine (told_any (.cons ka na Fa (.cons kb nb Fb .nil)) Fa 3 0 ka na [n, p1, p2] [q0, q1] (some ⟨w8.heap.size, 0, none⟩) xa _ _ 2 ca 3 2 w10.heap.size _ HF.out.sc HF.out.sa (Vs3.ints HF.out.vp) (Vs2.ints HF.out.vq) (Nat.le_refl _) (by have := LvOk.size HOA.out; have := LvOk.size HOB.out; simp only [Fo.size]; omega) (by have := LvOk.size HOA.out; omega)).mono ?_
    rintro e w11 ⟨rfl, hb11⟩
    have hw11 := Lib.hid (Below.step hw10.out hb11 (Nat.le_refl _))
    go_wp2_with fail
    go_ret
    exact ⟨rfl, hw11.out⟩
end Go.Proofs.Ytlbflfijihbmdaa.levelMade
