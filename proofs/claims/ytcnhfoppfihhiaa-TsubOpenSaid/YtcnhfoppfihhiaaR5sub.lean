/- The contract of the document's own substitution: the level with those levels in the place of its parameters and unknowns. No condition but that the levels lie in memory, are not very great, and that no number is below 0. -/
import Derived.Test.YtcnhfoppfihhiaaSspec
import Derived.Test.YtcnhfoppfihhiaaScopy
import Derived.Test.YtcnhfoppfihhiaaStep
import Derived.Deep.RegionLaw
import Derived.IntWalk
namespace Go.Proofs.Ytcnhfoppfihhiaa
open Go.RowKit

/-- A kid more: the append behind the others, and what lies there then. -/
theorem RpR.next2 {w : World} {OB B : Nat} {k n : Int} {G : Fo} {v : Value} {wr : World} (h : RpR w OB B k n G v wr) (hG : G.len ≤ 1000) {k' n' : Int} {F' : Fo} {w2 : World} {x' : Option Addr} {c' : Nat} (hs : SlIn w2 (fun b => (b < B ∨ wr.heap.size ≤ b) ∧ b < w2.heap.size) F' x' c') (hb : Below wr.heap.size wr w2) :
    w2.cell? ⟨OB, 2, none⟩ = some v ∧ OB < w2.heap.size ∧ ∃ g' cap' w3, (Builtin.append_ #[26, 26] 26 #[v, .slice (some ⟨w2.heap.size, 0, none⟩) 1 1]).run Try.prog (w2.alloc (.cells #[.int .i64 k', .int .i64 n', .slice x' F'.len c'] 38)) = .ok (.slice (some ⟨g', 0, none⟩) (G.len + 1) cap') w3 ∧
      w3.cell? ⟨OB, 2, none⟩ = some v ∧ (∀ o, w3.frozen? ⟨OB, o, none⟩ = false) ∧ RpR w OB B k n (G.app (.cons k' n' F' .nil)) (.slice (some ⟨g', 0, none⟩) (G.len + 1) cap') (w3.setCell ⟨OB, 2, none⟩ (.slice (some ⟨g', 0, none⟩) (G.len + 1) cap')) ∧ ∀ q, q < OB → (w3.setCell ⟨OB, 2, none⟩ (.slice (some ⟨g', 0, none⟩) (G.len + 1) cap')).heap[q]? = wr.heap[q]? := by
  obtain ⟨h1, h2, h3, h4, h5, h6⟩ := h
  have hlt := lt_of_block h2
  have e1 := (hb.block _ (lt_of_block h1)).trans h1
  have e2 := (hb.block _ hlt).trans h2
  have hz := hb.size
  obtain ⟨g', cap', w3, hrun, k3, same, z3, o1, o2, o3⟩ := (h3.later hb).append k' n' (h3.fresh (by omega) (by omega) hs) 26 hG (by omega) (by omega)
  have nv : ∀ b, b ≤ OB → some b ≠ v.ownBlock := fun b hb e => by have := (h3.lt b e.symm).1; omega
  have f1 := (same _ (lt_of_block e1) (nv _ (by omega))).trans e1
  have f2 := (same _ (lt_of_block e2) (nv _ (by omega))).trans e2
  have n1 : w.heap.size + 1 ≠ OB := by omega
  refine ⟨cell_at e2 2, lt_of_block e2, g', cap', w3, hrun, cell_at f2 2, free_of f2, ⟨(Below.heap_setCell _ _ _ _ n1).trans f1, heap_setCell_same w3 _ 2 _ _ _ f2, k3.setLow (by omega) (by omega) 2 _, h4, h5, ?_⟩, fun q hq => (Below.heap_setCell _ _ _ _ (show q ≠ OB by omega)).trans ((same q (by omega) (nv q (by omega))).trans (hb.block q (by omega)))⟩
  refine ⟨(o1.trans hb.os).trans h6.os, (o2.trans hb.tape).trans h6.tape, (o3.trans hb.output).trans h6.output, ?_, fun q hq => ?_⟩
  · have := h6.size; simp; omega
  · have hq6 := h6.size
    have nq : q ≠ OB := by omega
    rw [Below.heap_setCell _ _ _ _ nq, same q (by omega) (nv q (by omega)), hb.block q (by omega)]
    exact h6.block q hq
/-- The variables that the making of a level anew begins with, and the level in the third one. -/
theorem RpR.start2 {w : World} {k n : Int} {a : Option Addr} {len cap B : Nat} (hB : B ≤ w.heap.size) :
    RpR w (w.heap.size + 1 + 1) B k n .nil (.slice none 0 0) (((w.alloc (.cells #[.int .i64 k, .int .i64 n, .slice a len cap] 38)).alloc (.cells #[.int .i64 0, .int .i64 0, .slice none 0 0] 38)).alloc (.cells #[.int .i64 k, .int .i64 n, .slice none 0 0] 38)) ∧
    (((w.alloc (.cells #[.int .i64 k, .int .i64 n, .slice a len cap] 38)).alloc (.cells #[.int .i64 0, .int .i64 0, .slice none 0 0] 38)).alloc (.cells #[.int .i64 k, .int .i64 n, .slice none 0 0] 38)).heap[w.heap.size]? = some (.cells #[.int .i64 k, .int .i64 n, .slice a len cap] 38 (0, 0)) := by
  refine ⟨⟨(heap_old _ _ (by simp)).trans (heap_second _ _ _), ?_, KsMix.nil _ _ _, by omega, hB, (((Below.refl _ _).alloc (Nat.le_refl _) _).alloc (by simp) _).alloc (by simp; omega) _⟩, (heap_old _ _ (by simp; omega)).trans ((heap_old _ _ (by simp)).trans (heap_new _ _))⟩
  have := heap_new ((w.alloc (.cells #[.int .i64 k, .int .i64 n, .slice a len cap] 38)).alloc (.cells #[.int .i64 0, .int .i64 0, .slice none 0 0] 38)) (.cells #[.int .i64 k, .int .i64 n, .slice none 0 0] 38)
  simpa using this
theorem put_in {w : World} {B : Nat} {k' n' : Int} {ks : Fo} {a' : Option Addr} {cap' : Nat} (hs : SlIn w (· < B) ks a' cap') (hB : B ≤ w.heap.size) (o1 o2 : Obj) : RpPost B (.cons k' n' ks .nil) w (.returned (.agg #[.int .i64 k', .int .i64 n', .slice a' ks.len cap'])) ((w.alloc o1).alloc o2) := by
  have hb : Below w.heap.size w ((w.alloc o1).alloc o2) := ((Below.refl _ _).alloc (Nat.le_refl _) _).alloc (by simp) _
  exact ⟨k', n', ks, a', cap', rfl, rfl, (hs.below (hb.mono hB)).weak (fun b h => ⟨.inl h, by have := hb.size; omega⟩), hb⟩

set_option maxRecDepth 100000 in
set_option maxHeartbeats 4000000 in
theorem r5sub_any (P Q : Fo) (ap aq : Option Addr) (cp cq B : Nat) (s : Nat) : ∀ (f : Fo), f.size < s → f.size ≤ 1000 → ∀ (k n : Int) (a : Option Addr) (cap : Nat) (w : World), 0 ≤ n → noneg f → SlIn w (· < B) P ap cp → SlIn w (· < B) Q aq cq → SlIn w (· < B) f a cap → B ≤ w.heap.size →
    Calls Try.prog 72 #[.agg #[.int .i64 k, .int .i64 n, .slice a f.len cap], .slice ap P.len cp, .slice aq Q.len cq] w (RpPost B (sb1 P Q k n (sbF P Q f)) w) := by
  induction s with
  | zero => intro f hs; omega
  | succ s ih =>
    intro f hs hsz k n a cap w hn hnn hsp hsq hsl hB
    have IH := Lib.hid ih
    clear ih
    have hlen := hsl.len
    have hlp := hsp.len
    have hlq := hsq.len
    have hw2 : Below w.heap.size w ((w.alloc (.cells #[.int .i64 k, .int .i64 n, .slice a f.len cap] 38)).alloc (.cells #[.int .i64 0, .int .i64 0, .slice none 0 0] 38)) := ((Below.refl _ _).alloc (Nat.le_refl _) _).alloc (by simp) _
    have HPUT : Hid (∀ (k' n' : Int) (ks : Fo) (a' : Option Addr) (cap' : Nat) (o1 o2 : Obj), SlIn w (· < B) ks a' cap' → RpPost B (.cons k' n' ks .nil) w (.returned (.agg #[.int .i64 k', .int .i64 n', .slice a' ks.len cap'])) ((w.alloc o1).alloc o2)) := Lib.hid (fun k' n' ks a' cap' o1 o2 h => put_in h hB o1 o2)
    have hT : sb1 P Q k n (sbF P Q f) = (sv P Q k n).getD (.cons k n (sbF P Q f) .nil) := rfl
    rw [hT]
    have HLOOP : Hid (sv P Q k n = none → ((k == 5) = false ∨ ((k == 5) = true ∧ decide (n < (P.len : Int)) = false)) → ((k == 6) = false ∨ ((k == 6) = true ∧ decide (n < (Q.len : Int)) = false)) → Calls Try.prog 72 #[.agg #[.int .i64 k, .int .i64 n, .slice a f.len cap], .slice ap P.len cp, .slice aq Q.len cq] w (RpPost B (.cons k n (sbF P Q f) .nil) w)) := Lib.hid (by
      intro hsv d5 d6
      clear hT HPUT
      obtain ⟨hS1, hS2⟩ := RpR.start2 (w := w) (k := k) (n := n) (a := a) (len := f.len) (cap := cap) hB
      have HS := Lib.hid hS1
      have HS0 := Lib.hid hS2
      have HSL := Lib.hid hsl
      clear hS1 hS2 hsl hsv hw2
      have k3 := cell_at (heap_old ((w.alloc (.cells #[.int .i64 k, .int .i64 n, .slice a f.len cap] 38)).alloc (.cells #[.int .i64 0, .int .i64 0, .slice none 0 0] 38)) (.cells #[.int .i64 k, .int .i64 n, .slice none 0 0] 38) (show w.heap.size < _ by simp; omega) |>.trans ((heap_old _ _ (by simp)).trans (heap_new _ _))) 2
      go_enter Try.func72, Try.ntmps72
      rcases d5 with d5 | ⟨d5, d5'⟩ <;> rcases d6 with d6 | ⟨d6, d6'⟩
      case' inl.inl => go_wp2_with fail
      case' inl.inr => go_wp2_with fail
      case' inr.inl => go_wp2_with fail
      case inr.inr => have h1 := beq_iff_eq.1 d5; have h2 := beq_iff_eq.1 d6; omega
      all_goals
        go_loopw [8] (fun jv wr => ∃ (j : Nat) (H rest : Fo) (v : Value), jv = .int .i64 j ∧ Hid (f = H.app rest) ∧ Hid (H.len = j) ∧ Hid (RpR w (w.heap.size + 1 + 1) B k n (sbF P Q H) v wr) ∧ Hid (wr.heap[w.heap.size]? = some (.cells #[.int .i64 k, .int .i64 n, .slice a f.len cap] 38 (0, 0)))) (fun jv _ => f.len - (intOf jv).toNat)
        case atStart => exact ⟨0, .nil, f, _, rfl, Lib.hid rfl, Lib.hid rfl, HS, HS0⟩
        case round =>
          obtain ⟨j, H, rest, v, rfl, hf, hj, hR, hS⟩ := hrel
          have s2 := cell_at hS.out 2
          simp at s2
          have hnH := noneg_app (f := H) (g := rest) (by rw [← hf.out]; exact hnn)
          have hGl := sbF_len P Q H hnH.1
          obtain ⟨g0, g1, g2, gz, q0, q1, q2, qz, hob, hwr⟩ := hR.out.facts
          cases rest with
          | nil =>
            rw [foApp_nil'] at hf
            clear hGl
            have hjl : ¬ (j : Int) < (f.len : Int) := by rw [hf.out, hj.out]; omega
            have dj : decide ((j : Int) < (f.len : Int)) = false := by simpa using hjl
            obtain ⟨x, c, rfl, hE⟩ := hR.out.done
            have HE := Lib.hid hE
            have HF := Lib.hid hf.out
            clear hE hR hS
            go_wp2_with fail
            refine bodyPost_ret (v := .agg #[.int .i64 k, .int .i64 n, .slice x (sbF P Q H).len c]) (by simp [results, Try.results72, go_sem, g0, g1, g2]) rfl ?_
            rw [HF.out]
            exact HE.out
          | cons k' n' ks r' =>
            have hjn : j < f.len := by rw [hf.out, Fo.app_len, hj.out]; simp [Fo.len]
            have hjl : (j : Int) < (f.len : Int) := by omega
            obtain ⟨b, o, rfl, hbB, hf0⟩ := HSL.out.some (by omega)
            have hfa : FoIn w (· < B) (.cons k' n' ks r') b (o + j * 3) := by
              have h1 := hf0
              rw [hf.out] at h1
              rw [← hj.out]
              exact FoIn.behind H _ b o h1
            obtain ⟨e0, e1, ⟨a', cap', e2, hsl'⟩, _⟩ := (hfa.below (hwr.mono hB) _ _ _ hbB).first
            have hks : ks.size < s := by
              have h1 := hs
              rw [hf.out, Fo.app_size] at h1
              simp only [Fo.size] at h1
              omega
            have hBr : B ≤ wr.heap.size := Nat.le_trans hB hwr.size
            have hbk : Below wr.heap.size wr wr.drew := (Below.refl _ _).drew
            have HC : Hid (Calls Try.prog 72 #[.agg #[.int .i64 k', .int .i64 n', .slice a' ks.len cap'], .slice ap P.len cp, .slice aq Q.len cq] wr.drew (RpPost B (sb1 P Q k' n' (sbF P Q ks)) wr.drew)) :=
              Lib.hid (IH.out ks hks (by have h1 := hsz; rw [hf.out, Fo.app_size] at h1; simp only [Fo.size] at h1; omega) k' n' a' cap' _ hnH.2.1 hnH.2.2.1 (hsp.below ((hwr.mono hB).trans (hbk.mono hBr))) (hsq.below ((hwr.mono hB).trans (hbk.mono hBr))) (hsl'.below (hbk.mono hBr)) (Nat.le_trans hBr hbk.size))
            have HAP : Hid (∀ (e : Ending) (w2 : World), RpPost B (sb1 P Q k' n' (sbF P Q ks)) wr.drew e w2 → ∃ (k2 n2 : Int) (F2 : Fo) (x2 : Option Addr) (c2 : Nat), e = .returned (.agg #[.int .i64 k2, .int .i64 n2, .slice x2 F2.len c2]) ∧
                w2.cell? ⟨w.heap.size + 1 + 1, 2, none⟩ = some v ∧ w.heap.size + 1 + 1 < w2.heap.size ∧ (w2.alloc (.cells #[.int .i64 k2, .int .i64 n2, .slice x2 F2.len c2] 38)).cell? ⟨w.heap.size + 1 + 1, 2, none⟩ = some v ∧
                ∃ g' cap' w3, Hid ((Builtin.append_ #[26, 26] 26 #[v, .slice (some ⟨w2.heap.size, 0, none⟩) 1 1]).run Try.prog (w2.alloc (.cells #[.int .i64 k2, .int .i64 n2, .slice x2 F2.len c2] 38)) = .ok (.slice (some ⟨g', 0, none⟩) (j + 1) cap') w3) ∧
                  w3.cell? ⟨w.heap.size + 1 + 1, 2, none⟩ = some v ∧ (∀ o, w3.frozen? ⟨w.heap.size + 1 + 1, o, none⟩ = false) ∧ Hid (RpR w (w.heap.size + 1 + 1) B k n (sbF P Q (H.app (.cons k' n' ks .nil))) (.slice (some ⟨g', 0, none⟩) (j + 1) cap') (w3.setCell ⟨w.heap.size + 1 + 1, 2, none⟩ (.slice (some ⟨g', 0, none⟩) (j + 1) cap'))) ∧ Hid ((w3.setCell ⟨w.heap.size + 1 + 1, 2, none⟩ (.slice (some ⟨g', 0, none⟩) (j + 1) cap')).heap[w.heap.size]? = some (.cells #[.int .i64 k, .int .i64 n, .slice (some ⟨b, o, none⟩) f.len cap] 38 (0, 0)))) := Lib.hid (by
              rintro e w2 ⟨k2, n2, F2, x2, c2, hT, rfl, t1, t2⟩
              have hT' : sbF P Q (H.app (.cons k' n' ks .nil)) = (sbF P Q H).app (.cons k2 n2 F2 .nil) := by rw [sbF_app, ← hT]; show (sbF P Q H).app ((sb1 P Q k' n' (sbF P Q ks)).app .nil) = _; rw [foApp_nil']
              have hG1 : (sbF P Q H).len ≤ 1000 := by rw [hGl]; have h1 := Fo.len_le_size f; rw [hf.out, Fo.app_len, Fo.app_size] at h1; rw [hf.out, Fo.app_size] at hsz; omega
              have t3 : SlIn w2 (fun b => (b < B ∨ wr.heap.size ≤ b) ∧ b < w2.heap.size) F2 x2 c2 := t1.weak (fun b hb => ⟨by have h1 := hb.1; simp at h1; omega, hb.2⟩)
              have t4 : Below wr.heap.size wr w2 := Below.trans ((Below.refl _ _).drew) (t2.mono (by simp))
              obtain ⟨L2, hlb2, g', cap', w3, hrun, L3, Z3, hN, hold⟩ := RpR.next2 (k' := k2) (n' := n2) hR.out hG1 t3 t4
              rw [hGl, hj.out] at hrun hN hold
              rw [hT']
              exact ⟨k2, n2, F2, x2, c2, rfl, L2, hlb2, (World.cell?_of_block (w := w2) (a := ⟨w.heap.size + 1 + 1, 2, none⟩) (heap_old w2 _ hlb2)).trans L2, g', cap', w3, Lib.hid hrun, L3, Z3, Lib.hid hN, Lib.hid ((hold _ (by omega)).trans hS.out)⟩)
            have HSN : Hid (f = (H.app (.cons k' n' ks .nil)).app r') := Lib.hid (by rw [hf.out, foApp_assoc']; rfl)
            have HJ := Lib.hid hj.out
            clear hf hR hfa hf0 hnH hGl g0 g1 g2 gz q0 q1 qz hbk hS
            go_wp2_with fail
            go_region_law (first
              | (refine step_append (by rfl) _ _ _ (by rfl) (by rfl) (by rfl) HRUN.out ?_)
              | (go_simp; go_at_call 72; refine HC.out.mono ?_; intro e w2 hP; obtain ⟨k2, n2, F2, x2, c2, rfl, L2, hlb2, L2a, g', cap', w3, HRUN, L3, Z3, HN, HNS⟩ := HAP.out e w2 hP; clear hP))
            all_goals
              go_wp2_with fail
              go_roundw
              case rel => exact ⟨j + 1, _, r', _, by go_num, HSN, Lib.hid (by rw [Fo.app_len, HJ.out]; rfl), HN, HNS⟩
              case measure => simp [intOf]; omega)
    by_cases h5 : k = 5
    · by_cases hp : n < P.len
      · subst h5
        obtain ⟨i, rfl⟩ : ∃ i : Nat, n = i := ⟨n.toNat, by omega⟩
        rw [sv_5 hp, Int.toNat_natCast]
        obtain ⟨b, o, k', n', ks, a', cap', rfl, hbB, hg, e0, e1, e2, hs'⟩ := slGet hsp (i := i) (by omega)
        have e0' := (bcell hw2 b (o + i * 3) (by omega)).trans e0
        have e1' := (bcell hw2 b (o + i * 3 + 1) (by omega)).trans e1
        have e2' := (bcell hw2 b (o + i * 3 + 2) (by omega)).trans e2
        have hi0 : (0 : Int) ≤ (i : Int) := by omega
        rw [hg]
        show Calls _ _ _ _ (RpPost B (.cons k' n' ks .nil) w)
        have HE := Lib.hid (HPUT.out k' n' ks a' cap' (.cells #[.int .i64 5, .int .i64 i, .slice a f.len cap] 38) (.cells #[.int .i64 k', .int .i64 n', .slice a' ks.len cap'] 38) hs')
        clear hw2 hs' hg hsp hsq e0 e1 e2 HLOOP HPUT IH hT
        go_enter Try.func72, Try.ntmps72
        go_wp2_with fail
        refine bodyPost_ret (v := .agg #[.int .i64 k', .int .i64 n', .slice a' ks.len cap']) (by simp [results, Try.results72, go_sem]) rfl ?_
        exact HE.out
      · subst h5
        rw [sv_5n hp]
        exact HLOOP.out (sv_5n hp) (.inr ⟨rfl, decide_eq_false hp⟩) (.inl rfl)
    · have d5 : (k == 5) = false := beq_eq_false_iff_ne.2 h5
      by_cases h6 : k = 6
      · by_cases hp : n < Q.len
        · subst h6
          obtain ⟨i, rfl⟩ : ∃ i : Nat, n = i := ⟨n.toNat, by omega⟩
          rw [sv_6 hp, Int.toNat_natCast]
          obtain ⟨b, o, k', n', ks, a', cap', rfl, hbB, hg, e0, e1, e2, hs'⟩ := slGet hsq (i := i) (by omega)
          have e0' := (bcell hw2 b (o + i * 3) (by omega)).trans e0
          have e1' := (bcell hw2 b (o + i * 3 + 1) (by omega)).trans e1
          have e2' := (bcell hw2 b (o + i * 3 + 2) (by omega)).trans e2
          have hi0 : (0 : Int) ≤ (i : Int) := by omega
          rw [hg]
          show Calls _ _ _ _ (RpPost B (.cons k' n' ks .nil) w)
          have HE := Lib.hid (HPUT.out k' n' ks a' cap' (.cells #[.int .i64 6, .int .i64 i, .slice a f.len cap] 38) (.cells #[.int .i64 k', .int .i64 n', .slice a' ks.len cap'] 38) hs')
          clear hw2 hs' hg hsp hsq e0 e1 e2 HLOOP HPUT IH hT
          go_enter Try.func72, Try.ntmps72
          go_wp2_with fail
          refine bodyPost_ret (v := .agg #[.int .i64 k', .int .i64 n', .slice a' ks.len cap']) (by simp [results, Try.results72, go_sem]) rfl ?_
          exact HE.out
        · subst h6
          rw [sv_6n hp]
          exact HLOOP.out (sv_6n hp) (.inl rfl) (.inr ⟨rfl, decide_eq_false hp⟩)
      · rw [sv_no h5 h6]
        exact HLOOP.out (sv_no h5 h6) (.inl d5) (.inl (beq_eq_false_iff_ne.2 h6))
end Go.Proofs.Ytcnhfoppfihhiaa
