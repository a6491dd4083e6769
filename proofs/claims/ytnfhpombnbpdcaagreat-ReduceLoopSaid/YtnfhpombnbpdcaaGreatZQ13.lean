/- Soff. No condition but those that stand in each statement. -/
import Derived.Test.YtnfhpombnbpdcaaGreatZQ12
namespace Go.Proofs.YtnfhpombnbpdcaaGreat
open Go.RowKit
def SoAt (w : World) (B bp bq : Nat) (P Q : Fo) : Prop := bp < w.heap.size ∧ bq < w.heap.size ∧ (∃ a c, w.cell? ⟨bp, 0, none⟩ = some (.slice a P.len c) ∧ SlIn w (· < B) P a c) ∧ ∃ a c, w.cell? ⟨bq, 0, none⟩ = some (.slice a Q.len c) ∧ SlIn w (· < B) Q a c
theorem SoAt.later {w w' : World} {B bp bq : Nat} {P Q : Fo} (h : SoAt w B bp bq P Q) (hB : B ≤ w.heap.size) (hb : Below w.heap.size w w') : SoAt w' B bp bq P Q := by
  obtain ⟨h1, h2, ⟨a, c, h3, h4⟩, ⟨a', c', h5, h6⟩⟩ := h
  exact ⟨Nat.lt_of_lt_of_le h1 hb.size, Nat.lt_of_lt_of_le h2 hb.size, ⟨a, c, (bcell hb _ _ h1).trans h3, h4.below (hb.mono hB)⟩, ⟨a', c', (bcell hb _ _ h2).trans h5, h6.below (hb.mono hB)⟩⟩
set_option maxRecDepth 100000 in
set_option maxHeartbeats 4000000 in
theorem sub1_off (P Q : Fo) (B bp bq : Nat) (k n : Int) (hn : 0 ≤ n) (a : Option Addr) (len cap : Nat) (w : World) (hat : SoAt w B bp bq P Q) (hB : B ≤ w.heap.size) :
    Calls Tryz.prog 117 #[.agg #[.int .i64 k, .int .i64 n, .slice a len cap], .pointer (some ⟨bp, 0, none⟩), .pointer (some ⟨bq, 0, none⟩)] w (SvPost B (sv P Q k n) w) := by
  obtain ⟨hbp, hbq, ⟨ap, cp, p0, hsp⟩, ⟨aq, cq, q0, hsq⟩⟩ := hat
  have hw2 : Below w.heap.size w ((w.alloc (.cells #[.int .i64 k, .int .i64 n, .slice a len cap] 45)).alloc (.cells #[.int .i64 0, .int .i64 0, .slice none 0 0] 45)) := ((Below.refl _ _).alloc (Nat.le_refl _) _).alloc (by simp) _
  have p1 := (bcell hw2 bp 0 (by omega)).trans p0
  have q1 := (bcell hw2 bq 0 (by omega)).trans q0
  have HW := Lib.hid hw2
  have hNone : Hid (SvPost B none w (.returned (.tuple #[.agg #[.int .i64 0, .int .i64 0, .slice none 0 0], .bool false])) ((w.alloc (.cells #[.int .i64 k, .int .i64 n, .slice a len cap] 45)).alloc (.cells #[.int .i64 0, .int .i64 0, .slice none 0 0] 45))) := Lib.hid ⟨hw2, rfl⟩
  have hlp := hsp.len
  have hlq := hsq.len
  by_cases h5 : k = 5
  · subst h5
    by_cases hp : n < P.len
    · obtain ⟨i, rfl⟩ : ∃ i : Nat, n = i := ⟨n.toNat, by omega⟩
      rw [sv_5 hp, Int.toNat_natCast]
      obtain ⟨b, o, k', n', ks, a', cap', rfl, hbB, hg, e0, e1, e2, hs'⟩ := slGet hsp (i := i) (by omega)
      have e0' := (bcell hw2 b (o + i * 3) (by omega)).trans e0
      have e1' := (bcell hw2 b (o + i * 3 + 1) (by omega)).trans e1
      have e2' := (bcell hw2 b (o + i * 3 + 2) (by omega)).trans e2
      have hi0 : (0 : Int) ≤ (i : Int) := by omega
      rw [hg]
      have HS := Lib.hid hs'
      clear hw2 hNone hs' hg hsp hsq e0 e1 e2 p0 q0
      go_enter Tryz.func117, Tryz.ntmps117
      go_wp2_with fail
      refine bodyPost_ret (v := .tuple #[.agg #[.int .i64 k', .int .i64 n', .slice a' ks.len cap'], .bool true]) (by simp [results, Tryz.results117, go_sem]) rfl ?_
      exact ⟨((Below.refl _ _).alloc (Nat.le_refl _) _).alloc (by simp) _, k', n', ks, a', cap', rfl, rfl, HS.out⟩
    · rw [sv_5n hp]
      have d0 : decide (n < (P.len : Int)) = false := by simpa using hp
      clear hw2 hsp hsq p0 q0
      go_enter Tryz.func117, Tryz.ntmps117
      go_wp2_with fail
      refine bodyPost_ret (v := .tuple #[.agg #[.int .i64 0, .int .i64 0, .slice none 0 0], .bool false]) (by simp [results, Tryz.results117, go_sem]) rfl ?_
      exact hNone.out
  · by_cases h6 : k = 6
    · subst h6
      by_cases hp : n < Q.len
      · obtain ⟨i, rfl⟩ : ∃ i : Nat, n = i := ⟨n.toNat, by omega⟩
        rw [sv_6 hp, Int.toNat_natCast]
        obtain ⟨b, o, k', n', ks, a', cap', rfl, hbB, hg, e0, e1, e2, hs'⟩ := slGet hsq (i := i) (by omega)
        have e0' := (bcell hw2 b (o + i * 3) (by omega)).trans e0
        have e1' := (bcell hw2 b (o + i * 3 + 1) (by omega)).trans e1
        have e2' := (bcell hw2 b (o + i * 3 + 2) (by omega)).trans e2
        have hi0 : (0 : Int) ≤ (i : Int) := by omega
        rw [hg]
        have HS := Lib.hid hs'
        clear hw2 hNone hs' hg hsq hsp e0 e1 e2 p0 q0
        go_enter Tryz.func117, Tryz.ntmps117
        go_wp2_with fail
        refine bodyPost_ret (v := .tuple #[.agg #[.int .i64 k', .int .i64 n', .slice a' ks.len cap'], .bool true]) (by simp [results, Tryz.results117, go_sem]) rfl ?_
        exact ⟨((Below.refl _ _).alloc (Nat.le_refl _) _).alloc (by simp) _, k', n', ks, a', cap', rfl, rfl, HS.out⟩
      · rw [sv_6n hp]
        have d0 : decide (n < (Q.len : Int)) = false := by simpa using hp
        clear hw2 hsq hsp p0 q0
        go_enter Tryz.func117, Tryz.ntmps117
        go_wp2_with fail
        refine bodyPost_ret (v := .tuple #[.agg #[.int .i64 0, .int .i64 0, .slice none 0 0], .bool false]) (by simp [results, Tryz.results117, go_sem]) rfl ?_
        exact hNone.out
    · rw [sv_no h5 h6]
      have d5 : (k == 5) = false := beq_eq_false_iff_ne.2 h5
      have d6 : (k == 6) = false := beq_eq_false_iff_ne.2 h6
      clear hw2 hsp hsq p0 q0
      go_enter Tryz.func117, Tryz.ntmps117
      go_wp2_with fail
      refine bodyPost_ret (v := .tuple #[.agg #[.int .i64 0, .int .i64 0, .slice none 0 0], .bool false]) (by simp [results, Tryz.results117, go_sem]) rfl ?_
      exact hNone.out
set_option maxRecDepth 100000 in
set_option maxHeartbeats 4000000 in
theorem rep_off (P Q : Fo) (bp bq B : Nat) (s : Nat) : ∀ (f : Fo), f.size < s → f.size ≤ 1000 → ∀ (k n : Int) (a : Option Addr) (cap : Nat) (w : World), 0 ≤ n → noneg f → P.size ≤ 1000 → Q.size ≤ 1000 → SoAt w B bp bq P Q → SlIn w (· < B) f a cap → B ≤ w.heap.size →
    Calls Tryz.prog 116 #[.agg #[.int .i64 k, .int .i64 n, .slice a f.len cap], .func (.func 117) #[] #[.pointer (some ⟨bp, 0, none⟩), .pointer (some ⟨bq, 0, none⟩)]] w (RpPost B (sb1 P Q k n (sbF P Q f)) w) := by
  induction s with
  | zero => intro f hs; omega
  | succ s ih =>
    intro f hs hsz k n a cap w hn hnn hPs hQs hat hsl hB
    have IH := Lib.hid ih
    clear ih
    have hlen := hsl.len
    have HSL := Lib.hid hsl
    clear hsl
    have hn2 : Below w.heap.size w ((w.alloc (.cells #[.int .i64 k, .int .i64 n, .slice a f.len cap] 45)).alloc (.cells #[.int .i64 0, .int .i64 0, .slice none 0 0] 45)) := ((Below.refl _ _).alloc (Nat.le_refl _) _).alloc (by simp) _
    have HC1 := Lib.hid (sub1_off P Q B bp bq k n hn a f.len cap _ (hat.later hB hn2) (Nat.le_trans hB hn2.size))
    clear hn2
    obtain ⟨o, ho⟩ : ∃ o, sv P Q k n = o := ⟨_, rfl⟩
    have hT : sb1 P Q k n (sbF P Q f) = o.getD (.cons k n (sbF P Q f) .nil) := by unfold sb1; rw [ho]
    rw [hT]
    rw [ho] at HC1
    have HZ := Lib.hid (sv_size hPs hQs hn ho)
    clear hT ho
    cases o with
    | some T =>
      show Calls _ _ _ _ (RpPost B T w)
      go_enter Tryz.func116, Tryz.ntmps116
      go_wp2_with fail
      refine HC1.out.mono ?_
      rintro e w1 ⟨hb1, k1, n1, F1, x1, c1, rfl, rfl, hs1⟩
      have hb2 : Below (w.heap.size + 1 + 1) ((w.alloc (.cells #[.int .i64 k, .int .i64 n, .slice a f.len cap] 45)).alloc (.cells #[.int .i64 0, .int .i64 0, .slice none 0 0] 45)) w1 := by simpa using hb1
      obtain ⟨_, _, _, hw1, hb3⟩ := copy_box (k := k) (n := n) (len := f.len) hb2
      have hbo : Below w1.heap.size w1 (w1.alloc (.cells #[.int .i64 k1, .int .i64 n1, .slice x1 F1.len c1] 45)) := (Below.refl _ _).alloc (Nat.le_refl _) _
      have hBw : B ≤ w1.heap.size := Nat.le_trans hB hb3.size
      have HC2 := Lib.hid (copy_any (F1.size + 1) F1 (Nat.lt_succ_self _) (by have h1 := HZ.out; simp only [Option.getD, Fo.size] at h1; omega) k1 n1 x1 c1 B (w1.alloc (.cells #[.int .i64 k1, .int .i64 n1, .slice x1 F1.len c1] 45)) ((hs1.below (hb1.mono (by simp; omega))).below (hbo.mono hBw)) (Nat.le_trans hBw hbo.size))
      have HFI : Hid (∀ (e : Ending) (w3 : World), RpPost B (.cons k1 n1 F1 .nil) (w1.alloc (.cells #[.int .i64 k1, .int .i64 n1, .slice x1 F1.len c1] 45)) e w3 → ∃ (x2 : Option Addr) (c2 : Nat), e = .returned (.agg #[.int .i64 k1, .int .i64 n1, .slice x2 F1.len c2]) ∧
          w3.cell? ⟨w.heap.size + 1, 0, none⟩ = some (.int .i64 0) ∧ w3.cell? ⟨w.heap.size + 1, 1, none⟩ = some (.int .i64 0) ∧ w3.cell? ⟨w.heap.size + 1, 2, none⟩ = some (.slice none 0 0) ∧ (∀ o, w3.frozen? ⟨w.heap.size + 1, o, none⟩ = false) ∧ w.heap.size + 1 < w3.heap.size ∧
          Hid (RpPost B (.cons k1 n1 F1 .nil) w (.returned (.agg #[.int .i64 k1, .int .i64 n1, .slice x2 F1.len c2])) (((w3.setCell ⟨w.heap.size + 1, 0, none⟩ (.int .i64 k1)).setCell ⟨w.heap.size + 1, 1, none⟩ (.int .i64 n1)).setCell ⟨w.heap.size + 1, 2, none⟩ (.slice x2 F1.len c2)))) := Lib.hid (fun e w3 h => rep_store hb2 hB _ h)
      clear hb1 hb2 hb3 hbo hs1 HC1 HSL IH hat
      go_wp2_with fail
      refine HC2.out.mono ?_
      intro e w3 hP
      obtain ⟨x2, c2, rfl, g0, g1, g2, gz, hlt, HE⟩ := HFI.out e w3 hP
      clear hP
      go_wp2_with fail
      refine bodyPost_ret (v := .agg #[.int .i64 k1, .int .i64 n1, .slice x2 F1.len c2]) (by simp [results, Tryz.results116, go_sem, g0, g1, g2]) rfl ?_
      exact HE.out
    | none =>
      show Calls _ _ _ _ (RpPost B (.cons k n (sbF P Q f) .nil) w)
      go_enter Tryz.func116, Tryz.ntmps116
      go_wp2_with fail
      refine HC1.out.mono ?_
      rintro e w1 ⟨hb1, rfl⟩
      have hb2 : Below (w.heap.size + 1 + 1) ((w.alloc (.cells #[.int .i64 k, .int .i64 n, .slice a f.len cap] 45)).alloc (.cells #[.int .i64 0, .int .i64 0, .slice none 0 0] 45)) w1 := by simpa using hb1
      obtain ⟨k0, k1, k2, hw1, hb3⟩ := copy_box (k := k) (n := n) (len := f.len) hb2
      have HS : Hid (RpR w (w1.heap.size + 1) B k n .nil (.slice none 0 0) ((w1.alloc (.cells #[.int .i64 0, .int .i64 0, .slice none 0 0] 45)).alloc (.cells #[.int .i64 k, .int .i64 n, .slice none 0 0] 45))) := Lib.hid (RpR.start hb2 hB _)
      clear hb1 hb2
      have hw0 : w.heap.size < w1.heap.size := by omega
      have hz1 := heap_old w1 (.cells #[.int .i64 0, .int .i64 0, .slice none 0 0] 45) hw0
      have k3 := (World.cell?_of_block (w := w1) (a := ⟨w.heap.size, 0, none⟩) hz1).trans k0
      have k4 := (World.cell?_of_block (w := w1) (a := ⟨w.heap.size, 1, none⟩) hz1).trans k1
      have k5 := (World.cell?_of_block (w := w1) (a := ⟨w.heap.size, 2, none⟩) ((heap_old (w1.alloc (.cells #[.int .i64 0, .int .i64 0, .slice none 0 0] 45)) (.cells #[.int .i64 k, .int .i64 n, .slice none 0 0] 45) (by simp; omega)).trans hz1)).trans k2
      clear hz1 k1 k2
      go_wp2_with fail
      go_loopw [27] (fun jv wr => ∃ (j : Nat) (H rest : Fo) (v : Value), jv = .int .i64 j ∧ Hid (f = H.app rest) ∧ Hid (H.len = j) ∧ Hid (RpR w (w1.heap.size + 1) B k n (sbF P Q H) v wr)) (fun jv _ => f.len - (intOf jv).toNat)
      case atStart => exact ⟨0, .nil, f, _, rfl, Lib.hid rfl, Lib.hid rfl, HS⟩
      case round =>
        obtain ⟨j, H, rest, v, rfl, hf, hj, hR⟩ := hrel
        have hnH := noneg_app (f := H) (g := rest) (by rw [← hf.out]; exact hnn)
        have hGl := sbF_len P Q H hnH.1
        obtain ⟨g0, g1, g2, gz, q0, q1, q2, qz, hob, hwr⟩ := hR.out.facts
        cases rest with
        | nil =>
          rw [foApp_nil'] at hf
          clear hGl
          have hjl : ¬ (j : Int) < (f.len : Int) := by rw [hf.out, hj.out]; omega
          have dj : decide ((j : Int) < (f.len : Int)) = false := by simpa using hjl
          obtain ⟨x, c, rfl, hE⟩ := hR.out.done
          have HE := Lib.hid hE
          have HF := Lib.hid hf.out
          clear hE hR
          go_wp2_with fail
          refine bodyPost_ret (v := .agg #[.int .i64 k, .int .i64 n, .slice x (sbF P Q H).len c]) (by simp [results, Tryz.results116, go_sem, g0, g1, g2]) rfl ?_
          rw [HF.out]
          exact HE.out
        | cons k' n' ks r' =>
          have hjn : j < f.len := by rw [hf.out, Fo.app_len, hj.out]; simp [Fo.len]
          have hjl : (j : Int) < (f.len : Int) := by omega
          obtain ⟨b, o, rfl, hbB, hf0⟩ := HSL.out.some (by omega)
          have hfa : FoIn w (· < B) (.cons k' n' ks r') b (o + j * 3) := by
            have h1 := hf0
            rw [hf.out] at h1
            rw [← hj.out]
            exact FoIn.behind H _ b o h1
          obtain ⟨e0, e1, ⟨a', cap', e2, hsl'⟩, _⟩ := (hfa.below (hwr.mono hB) _ _ _ hbB).first
          have hks : ks.size < s := by
            have h1 := hs
            rw [hf.out, Fo.app_size] at h1
            simp only [Fo.size] at h1
            omega
          have hBr : B ≤ wr.heap.size := Nat.le_trans hB hwr.size
          have hbk : Below wr.heap.size wr (wr.alloc (.cells #[.int .i64 k', .int .i64 n', .slice a' ks.len cap'] 45)).drew := ((Below.refl _ _).alloc (Nat.le_refl _) _).drew
          have HC : Hid (Calls Tryz.prog 116 #[.agg #[.int .i64 k', .int .i64 n', .slice a' ks.len cap'], .func (.func 117) #[] #[.pointer (some ⟨bp, 0, none⟩), .pointer (some ⟨bq, 0, none⟩)]] (wr.alloc (.cells #[.int .i64 k', .int .i64 n', .slice a' ks.len cap'] 45)).drew (RpPost B (sb1 P Q k' n' (sbF P Q ks)) (wr.alloc (.cells #[.int .i64 k', .int .i64 n', .slice a' ks.len cap'] 45)).drew)) :=
            Lib.hid (IH.out ks hks (by have h1 := hsz; rw [hf.out, Fo.app_size] at h1; simp only [Fo.size] at h1; omega) k' n' a' cap' _ hnH.2.1 hnH.2.2.1 hPs hQs (hat.later hB (Below.step hwr hbk (Nat.le_refl _))) (hsl'.below (hbk.mono hBr)) (Nat.le_trans hBr hbk.size))
          have HAP : Hid (∀ (e : Ending) (w2 : World), RpPost B (sb1 P Q k' n' (sbF P Q ks)) (wr.alloc (.cells #[.int .i64 k', .int .i64 n', .slice a' ks.len cap'] 45)).drew e w2 → ∃ (k2 n2 : Int) (F2 : Fo) (x2 : Option Addr) (c2 : Nat), e = .returned (.agg #[.int .i64 k2, .int .i64 n2, .slice x2 F2.len c2]) ∧
              w2.cell? ⟨w1.heap.size + 1, 2, none⟩ = some v ∧ w1.heap.size + 1 < w2.heap.size ∧ (w2.alloc (.cells #[.int .i64 k2, .int .i64 n2, .slice x2 F2.len c2] 45)).cell? ⟨w1.heap.size + 1, 2, none⟩ = some v ∧
              ∃ g' cap' w3, Hid ((Builtin.append_ #[27, 27] 27 #[v, .slice (some ⟨w2.heap.size, 0, none⟩) 1 1]).run Tryz.prog (w2.alloc (.cells #[.int .i64 k2, .int .i64 n2, .slice x2 F2.len c2] 45)) = .ok (.slice (some ⟨g', 0, none⟩) (j + 1) cap') w3) ∧
                w3.cell? ⟨w1.heap.size + 1, 2, none⟩ = some v ∧ (∀ o, w3.frozen? ⟨w1.heap.size + 1, o, none⟩ = false) ∧ Hid (RpR w (w1.heap.size + 1) B k n (sbF P Q (H.app (.cons k' n' ks .nil))) (.slice (some ⟨g', 0, none⟩) (j + 1) cap') (w3.setCell ⟨w1.heap.size + 1, 2, none⟩ (.slice (some ⟨g', 0, none⟩) (j + 1) cap')))) := Lib.hid (by
            rintro e w2 ⟨k2, n2, F2, x2, c2, hT, rfl, t1, t2⟩
            have hT' : sbF P Q (H.app (.cons k' n' ks .nil)) = (sbF P Q H).app (.cons k2 n2 F2 .nil) := by rw [sbF_app, ← hT]; show (sbF P Q H).app ((sb1 P Q k' n' (sbF P Q ks)).app .nil) = _; rw [foApp_nil']
            have hG1 : (sbF P Q H).len ≤ 1000 := by rw [hGl]; have h1 := Fo.len_le_size f; rw [hf.out, Fo.app_len, Fo.app_size] at h1; rw [hf.out, Fo.app_size] at hsz; omega
            have t3 : SlIn w2 (fun b => (b < B ∨ wr.heap.size ≤ b) ∧ b < w2.heap.size) F2 x2 c2 := t1.weak (fun b hb => ⟨by have h1 := hb.1; simp at h1; omega, hb.2⟩)
            have t4 : Below wr.heap.size wr w2 := Below.trans (((Below.refl _ _).alloc (Nat.le_refl _) _).drew) (t2.mono (by simp))
            obtain ⟨L2, hlb2, g', cap', w3, hrun, L3, Z3, hN⟩ := RpR.next (k' := k2) (n' := n2) hR.out hG1 t3 t4
            rw [hGl, hj.out] at hrun hN
            rw [hT']
            exact ⟨k2, n2, F2, x2, c2, rfl, L2, hlb2, (World.cell?_of_block (w := w2) (a := ⟨w1.heap.size + 1, 2, none⟩) (heap_old w2 _ hlb2)).trans L2, g', cap', w3, Lib.hid hrun, L3, Z3, Lib.hid hN⟩)
          have HSN : Hid (f = (H.app (.cons k' n' ks .nil)).app r') := Lib.hid (by rw [hf.out, foApp_assoc']; rfl)
          have HJ := Lib.hid hj.out
          clear hf hR hfa hf0 hnH hGl g0 g1 g2 gz q0 q1 qz k0 hbk
          go_wp2_with fail
          go_region_law (first
            | (refine step_append (by rfl) _ _ _ (by rfl) (by rfl) (by rfl) HRUN.out ?_)
            | (go_simp; go_at_call 116; refine HC.out.mono ?_; intro e w2 hP; obtain ⟨k2, n2, F2, x2, c2, rfl, L2, hlb2, L2a, g', cap', w3, HRUN, L3, Z3, HN⟩ := HAP.out e w2 hP; clear hP))
          all_goals
            go_wp2_with fail
            go_roundw
            case rel => exact ⟨j + 1, _, r', _, by go_num, HSN, Lib.hid (by rw [Fo.app_len, HJ.out]; rfl), HN⟩
            case measure => simp [intOf]; omega
theorem su_finB {B : Nat} {w w4 : World} (hB : B ≤ w.heap.size) {k n k2 n2 : Int} {f P Q F2 : Fo} {a ap aq a2 : Option Addr} {cap cp cq c2 : Nat} (hok : okS P Q k n f = (true && (true && true))) (hT : sb1 P Q k n (sbF P Q f) = .cons k2 n2 F2 .nil) (hb : Below (w.heap.size + 1 + 1 + 1 + 1) (SuW w k n f P Q a ap aq cap cp cq) w4)
    {w3 : World} (hz : w.heap.size + 1 + 1 + 1 + 1 ≤ w3.heap.size) (hs : SlIn w4 (fun b => (b < B ∨ w3.heap.size ≤ b) ∧ b < w4.heap.size) F2 a2 c2) :
    (Calls Tryz.prog 114 #[.agg #[.int .i64 k2, .int .i64 n2, .slice a2 F2.len c2]] (w4.alloc (.cells #[.int .i64 k2, .int .i64 n2, .slice a2 F2.len c2] 45)) fun e w' => e = .returned (.bool (rightB 5 10 k2 n2 F2)) ∧ Below (w4.alloc (.cells #[.int .i64 k2, .int .i64 n2, .slice a2 F2.len c2] 45)).heap.size (w4.alloc (.cells #[.int .i64 k2, .int .i64 n2, .slice a2 F2.len c2] 45)) w') ∧
    ∀ w5, Below (w4.alloc (.cells #[.int .i64 k2, .int .i64 n2, .slice a2 F2.len c2] 45)).heap.size (w4.alloc (.cells #[.int .i64 k2, .int .i64 n2, .slice a2 F2.len c2] 45)) w5 →
      (rightB 5 10 k2 n2 F2 = true → SuPostB B (subT P Q k n f) (subE P Q k n f) w (.returned (.tuple #[.agg #[.int .i64 k2, .int .i64 n2, .slice a2 F2.len c2], .int .i64 0])) (((w5.setCell ⟨w.heap.size + 1 + 1 + 1, 0, none⟩ (.int .i64 k2)).setCell ⟨w.heap.size + 1 + 1 + 1, 1, none⟩ (.int .i64 n2)).setCell ⟨w.heap.size + 1 + 1 + 1, 2, none⟩ (.slice a2 F2.len c2))) ∧
      (rightB 5 10 k2 n2 F2 = false → SuPostB B (subT P Q k n f) (subE P Q k n f) w (.returned (.tuple #[.agg #[.int .i64 0, .int .i64 0, .slice none 0 0], .int .i64 2])) (((w5.setCell ⟨w.heap.size + 1 + 1 + 1, 0, none⟩ (.int .i64 0)).setCell ⟨w.heap.size + 1 + 1 + 1, 1, none⟩ (.int .i64 0)).setCell ⟨w.heap.size + 1 + 1 + 1, 2, none⟩ (.slice none 0 0))) := by
  have hbo : Below w4.heap.size w4 (w4.alloc (.cells #[.int .i64 k2, .int .i64 n2, .slice a2 F2.len c2] 45)) := (Below.refl _ _).alloc (Nat.le_refl _) _
  have hs4 : SlIn w4 (· < w4.heap.size) F2 a2 c2 := hs.weak (fun b hb => hb.2)
  refine ⟨sright_any k2 n2 F2 a2 c2 w4.heap.size _ (hs4.below hbo) hbo.size, fun w5 h5 => ⟨fun hr => ?_, fun hr => ?_⟩⟩
  · have h6 := suW_step (suW_step hb hbo) h5
    have hw5 := (suW_at h6).2.2.2.2
    have h45 : Below w4.heap.size w4 w5 := Below.step hbo h5 (Nat.le_refl _)
    have hE : subE P Q k n f = 0 := by
      unfold subE
      rw [hok, hT]
      show (if rightB 5 10 k2 n2 F2 = true then (0 : Int) else 2) = 0
      rw [if_pos hr]
    have hTT : subT P Q k n f = .cons k2 n2 F2 .nil := by unfold subT; rw [if_pos hE]; exact hT
    rw [hE, hTT]
    have hg := set3_only (w := w5) (w.heap.size + 1 + 1 + 1) (.int .i64 k2) (.int .i64 n2) (.slice a2 F2.len c2)
    refine ⟨k2, n2, F2, a2, c2, rfl, rfl, ?_, ?_⟩
    · refine ((hs.keep (fun b hb => h45.block b hb.2)).keep (w' := ((w5.setCell ⟨w.heap.size + 1 + 1 + 1, 0, none⟩ (.int .i64 k2)).setCell ⟨w.heap.size + 1 + 1 + 1, 1, none⟩ (.int .i64 n2)).setCell ⟨w.heap.size + 1 + 1 + 1, 2, none⟩ (.slice a2 F2.len c2)) (fun b hb => Only.block hg (Nat.lt_of_lt_of_le hb.2 h45.size) ?_)).weak (fun b hb => ?_)
      · have := hb.1; omega
      · exact ⟨by have := hb.1; omega, Nat.lt_of_lt_of_le hb.2 (Nat.le_trans h45.size hg.size)⟩
    · exact ⟨hg.os.trans hw5.1.os, hg.tape.trans hw5.1.tape, hg.output.trans hw5.1.output, Nat.le_trans hw5.1.size hg.size, fun q hq => (Only.block hg (by omega) (by omega)).trans (hw5.1.block q hq)⟩
  · have h6 := suW_step (suW_step hb hbo) h5
    have hw5 := (suW_at h6).2.2.2.2
    have hE : subE P Q k n f = 2 := by
      unfold subE
      rw [hok, hT]
      show (if rightB 5 10 k2 n2 F2 = true then (0 : Int) else 2) = 2
      rw [if_neg (by rw [hr]; simp)]
    have hTT : subT P Q k n f = .cons 0 0 .nil .nil := by unfold subT; rw [hE]; rfl
    rw [hE, hTT]
    exact SuPostB.no (((hw5.1.setCell (by simp; omega) _).setCell (by simp; omega) _).setCell (by simp; omega) _)
set_option maxRecDepth 100000 in
set_option maxHeartbeats 4000000 in
theorem sSub_off (P Q : Fo) (k n : Int) (f : Fo) (a ap aq : Option Addr) (cap cp cq B : Nat) (w : World) (hsl : SlIn w (· < B) f a cap) (hsp : SlIn w (· < B) P ap cp) (hsq : SlIn w (· < B) Q aq cq) (hB : B ≤ w.heap.size) :
    Calls Tryz.prog 103 #[.agg #[.int .i64 k, .int .i64 n, .slice a f.len cap], .slice ap P.len cp, .slice aq Q.len cq] w (SuPostB B (subT P Q k n f) (subE P Q k n f) w) := by
  have hb0 : Below (w.heap.size + 1 + 1 + 1 + 1) (SuW w k n f P Q a ap aq cap cp cq) (SuW w k n f P Q a ap aq cap cp cq) := Below.refl _ _
  have hlp := hsp.len
  have hlq := hsq.len
  have HL : Hid (∀ W, Below (w.heap.size + 1 + 1 + 1 + 1) (SuW w k n f P Q a ap aq cap cp cq) W → Calls Tryz.prog 114 #[.agg #[.int .i64 k, .int .i64 n, .slice a f.len cap]] W fun e w' => e = .returned (.bool (rightB 5 10 k n f)) ∧ Below W.heap.size W w') := Lib.hid (fun W h =>
    sright_any k n f a cap B W (hsl.below ((suW_at h).2.2.2.2.1.mono hB)) (by have := (suW_at h).2.2.2.2.2; omega))
  have HP : Hid (∀ W, Below (w.heap.size + 1 + 1 + 1 + 1) (SuW w k n f P Q a ap aq cap cp cq) W → Calls Tryz.prog 115 #[.slice ap P.len cp] W fun e w' => e = .returned (.bool (allR P)) ∧ Below W.heap.size W w') := Lib.hid (fun W h =>
    sallRight_any P ap cp B W (hsp.below ((suW_at h).2.2.2.2.1.mono hB)) (by have := (suW_at h).2.2.2.2.2; omega))
  have HQ : Hid (∀ W, Below (w.heap.size + 1 + 1 + 1 + 1) (SuW w k n f P Q a ap aq cap cp cq) W → Calls Tryz.prog 115 #[.slice aq Q.len cq] W fun e w' => e = .returned (.bool (allR Q)) ∧ Below W.heap.size W w') := Lib.hid (fun W h =>
    sallRight_any Q aq cq B W (hsq.below ((suW_at h).2.2.2.2.1.mono hB)) (by have := (suW_at h).2.2.2.2.2; omega))
  have HNO : Hid (okS P Q k n f = false → ∀ W, Below (w.heap.size + 1 + 1 + 1 + 1) (SuW w k n f P Q a ap aq cap cp cq) W → SuPostB B (subT P Q k n f) (subE P Q k n f) w (.returned (.tuple #[.agg #[.int .i64 0, .int .i64 0, .slice none 0 0], .int .i64 1])) (((W.setCell ⟨w.heap.size + 1 + 1 + 1, 0, none⟩ (.int .i64 0)).setCell ⟨w.heap.size + 1 + 1 + 1, 1, none⟩ (.int .i64 0)).setCell ⟨w.heap.size + 1 + 1 + 1, 2, none⟩ (.slice none 0 0))) := Lib.hid (fun h W hb => by
    rw [(okS_1 h).1, (okS_1 h).2]
    exact SuPostB.no ((((suW_at hb).2.2.2.2.1.setCell (by simp; omega) _).setCell (by simp; omega) _).setCell (by simp; omega) _))
  have HNO0 : Hid (okS P Q k n f = false → SuPostB B (subT P Q k n f) (subE P Q k n f) w (.returned (.tuple #[.agg #[.int .i64 0, .int .i64 0, .slice none 0 0], .int .i64 1])) (SuW w k n f P Q a ap aq cap cp cq)) := Lib.hid (fun h => by
    rw [(okS_1 h).1, (okS_1 h).2]
    exact SuPostB.no (suW_at hb0).2.2.2.2.1)
  by_cases h1 : P.len ≤ 5
  · have d1 : decide ((5 : Int) < (P.len : Int)) = false := by simp; omega
    by_cases h2 : Q.len ≤ 10
    · have d2 : decide ((10 : Int) < (Q.len : Int)) = false := by simp; omega
      have HOK : Hid (okS P Q k n f = (rightB 5 10 k n f && (allR P && allR Q))) := Lib.hid (by unfold okS; rw [decide_eq_true h1, decide_eq_true h2]; rfl)
      have HRP : Hid (∀ (W : World), Below (w.heap.size + 1 + 1 + 1 + 1) (SuW w k n f P Q a ap aq cap cp cq) W → rightB 5 10 k n f = true → allR P = true → allR Q = true → Calls Tryz.prog 116 #[.agg #[.int .i64 k, .int .i64 n, .slice a f.len cap], .func (.func 117) #[] #[.pointer (some ⟨w.heap.size + 1, 0, none⟩), .pointer (some ⟨w.heap.size + 1 + 1, 0, none⟩)]] W (RpPost B (sb1 P Q k n (sbF P Q f)) W)) := Lib.hid (fun W hb r1 r2 r3 => by
        obtain ⟨y1, y2, y3, y4, y5, y6⟩ := suW_at hb
        have yB := y5.mono hB
        have q1 := allR_size r2
        have q2 := allR_size r3
        obtain ⟨p1, p2, p3⟩ := right_parts r1
        exact rep_off P Q (w.heap.size + 1) (w.heap.size + 1 + 1) B (f.size + 1) f (Nat.lt_succ_self _) (by omega) k n a cap W p1 p2 (by omega) (by omega)
          ⟨by omega, by omega, ⟨ap, cp, cell_at y2 0, hsp.below yB⟩, ⟨aq, cq, cell_at y3 0, hsq.below yB⟩⟩ (hsl.below yB) (by omega))
      generalize hv : rightB 5 10 k n f = v at HL HOK HRP
      generalize hvp : allR P = vp at HP HOK HRP
      generalize hvq : allR Q = vq at HQ HOK HRP
      clear hv hvp hvq hsl hsp hsq
      have HB0 := Lib.hid hb0
      clear hb0
      go_enter Tryz.func103, Tryz.ntmps103
      go_wp2_with fail
      refine (HL.out _ HB0.out).mono ?_
      rintro e w1 ⟨rfl, hb1⟩
      have B1 : Hid (Below (w.heap.size + 1 + 1 + 1 + 1) (SuW w k n f P Q a ap aq cap cp cq) w1) := Lib.hid (suW_step HB0.out hb1)
      clear hb1
      obtain ⟨x1, x2, x3, x4, x5, x6, x7, x8, x9, x10⟩ := suW_cells B1.out
      cases v with
      | false =>
        have HE := Lib.hid (HNO.out HOK.out w1 B1.out)
        go_wp2_with fail
        refine bodyPost_ret (v := .tuple #[.agg #[.int .i64 0, .int .i64 0, .slice none 0 0], .int .i64 1]) (by simp [results, Tryz.results103, go_sem, x6, x7, x8]) rfl ?_
        exact HE.out
      | true =>
        go_wp2_with fail
        refine (HP.out _ B1.out).mono ?_
        rintro e w2 ⟨rfl, hb2⟩
        have B2 : Hid (Below (w.heap.size + 1 + 1 + 1 + 1) (SuW w k n f P Q a ap aq cap cp cq) w2) := Lib.hid (suW_step B1.out hb2)
        clear hb2 x1 x2 x3 x4 x5 x6 x7 x8 x9 x10
        obtain ⟨x1, x2, x3, x4, x5, x6, x7, x8, x9, x10⟩ := suW_cells B2.out
        cases vp with
        | false =>
          have HE := Lib.hid (HNO.out HOK.out w2 B2.out)
          go_wp2_with fail
          refine bodyPost_ret (v := .tuple #[.agg #[.int .i64 0, .int .i64 0, .slice none 0 0], .int .i64 1]) (by simp [results, Tryz.results103, go_sem, x6, x7, x8]) rfl ?_
          exact HE.out
        | true =>
          go_wp2_with fail
          refine (HQ.out _ B2.out).mono ?_
          rintro e w3 ⟨rfl, hb3⟩
          have B3 : Hid (Below (w.heap.size + 1 + 1 + 1 + 1) (SuW w k n f P Q a ap aq cap cp cq) w3) := Lib.hid (suW_step B2.out hb3)
          clear hb3 x1 x2 x3 x4 x5 x6 x7 x8 x9 x10
          obtain ⟨x1, x2, x3, x4, x5, x6, x7, x8, x9, x10⟩ := suW_cells B3.out
          cases vq with
          | false =>
            have HE := Lib.hid (HNO.out HOK.out w3 B3.out)
            go_wp2_with fail
            refine bodyPost_ret (v := .tuple #[.agg #[.int .i64 0, .int .i64 0, .slice none 0 0], .int .i64 1]) (by simp [results, Tryz.results103, go_sem, x6, x7, x8]) rfl ?_
            exact HE.out
          | true =>
            go_wp2_with fail
            refine (HRP.out _ B3.out trivial trivial trivial).mono ?_
            rintro e w4 ⟨k2, n2, F2, a2, c2, hT, rfl, t1, t2⟩
            have B4 : Hid (Below (w.heap.size + 1 + 1 + 1 + 1) (SuW w k n f P Q a ap aq cap cp cq) w4) := Lib.hid (suW_step B3.out t2)
            clear x1 x2 x3 x4 x5 x6 x7 x8 x9 x10
            have HF := Lib.hid (su_finB hB HOK.out hT B4.out (suW_at B3.out).2.2.2.2.2 t1)
            clear t1 t2
            have B5 : Hid (Below (w.heap.size + 1 + 1 + 1 + 1) (SuW w k n f P Q a ap aq cap cp cq) (w4.alloc (.cells #[.int .i64 k2, .int .i64 n2, .slice a2 F2.len c2] 45))) := Lib.hid (suW_step B4.out ((Below.refl _ _).alloc (Nat.le_refl _) _))
            have HR := Lib.hid HF.out.1
            have HF2 := Lib.hid HF.out.2
            clear HF hT
            generalize rightB 5 10 k2 n2 F2 = vr at HR HF2
            go_wp2_with fail
            refine HR.out.mono ?_
            rintro e w5 ⟨rfl, hb5⟩
            have B6 : Hid (Below (w.heap.size + 1 + 1 + 1 + 1) (SuW w k n f P Q a ap aq cap cp cq) w5) := Lib.hid (suW_step B5.out hb5)
            obtain ⟨x1, x2, x3, x4, x5, x6, x7, x8, x9, x10⟩ := suW_cells B6.out
            have y0 := (bcell (by simpa using hb5) w4.heap.size 0 (Nat.lt_succ_self _)).trans (cell_at (heap_new w4 (.cells #[.int .i64 k2, .int .i64 n2, .slice a2 F2.len c2] 45)) 0)
            have y1 := (bcell (by simpa using hb5) w4.heap.size 1 (Nat.lt_succ_self _)).trans (cell_at (heap_new w4 (.cells #[.int .i64 k2, .int .i64 n2, .slice a2 F2.len c2] 45)) 1)
            have y2 := (bcell (by simpa using hb5) w4.heap.size 2 (Nat.lt_succ_self _)).trans (cell_at (heap_new w4 (.cells #[.int .i64 k2, .int .i64 n2, .slice a2 F2.len c2] 45)) 2)
            simp at y0 y1 y2
            have HG := Lib.hid (HF2.out w5 hb5)
            clear hb5
            cases vr with
            | false =>
              have HE := Lib.hid (HG.out.2 rfl)
              clear HG
              go_wp2_with fail
              refine bodyPost_ret (v := .tuple #[.agg #[.int .i64 0, .int .i64 0, .slice none 0 0], .int .i64 2]) (by simp [results, Tryz.results103, go_sem, x6, x7, x8]) rfl ?_
              exact HE.out
            | true =>
              have HE := Lib.hid (HG.out.1 rfl)
              clear HG
              go_wp2_with fail
              refine bodyPost_ret (v := .tuple #[.agg #[.int .i64 k2, .int .i64 n2, .slice a2 F2.len c2], .int .i64 0]) (by simp [results, Tryz.results103, go_sem, x6, x7, x8]) rfl ?_
              exact HE.out
    · have d2 : decide ((10 : Int) < (Q.len : Int)) = true := by simp; omega
      have hok : okS P Q k n f = false := by unfold okS; rw [decide_eq_false h2]; simp
      have HE := Lib.hid (HNO0.out hok)
      clear hsl hsp hsq hb0
      go_enter Tryz.func103, Tryz.ntmps103
      go_wp2_with fail
      refine bodyPost_ret (v := .tuple #[.agg #[.int .i64 0, .int .i64 0, .slice none 0 0], .int .i64 1]) (by simp [results, Tryz.results103, go_sem]) rfl ?_
      exact HE.out
  · have d1 : decide ((5 : Int) < (P.len : Int)) = true := by simp; omega
    have hok : okS P Q k n f = false := by unfold okS; rw [decide_eq_false h1]; simp
    have HE := Lib.hid (HNO0.out hok)
    clear hsl hsp hsq hb0
    go_enter Tryz.func103, Tryz.ntmps103
    go_wp2_with fail
    refine bodyPost_ret (v := .tuple #[.agg #[.int .i64 0, .int .i64 0, .slice none 0 0], .int .i64 1]) (by simp [results, Tryz.results103, go_sem]) rfl ?_
    exact HE.out
end Go.Proofs.YtnfhpombnbpdcaaGreat
