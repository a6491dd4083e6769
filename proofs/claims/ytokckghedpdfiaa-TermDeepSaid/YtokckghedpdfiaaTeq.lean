/- The contracts of slices.EqualFunc over lists of levels, and of alike. No condition but that what is looked at lies in memory and is of no more than a million levels. -/
import Derived.Test.YtokckghedpdfiaaTt
import Derived.Test.YtokckghedpdfiaaSame
namespace Go.Proofs.Ytokckghedpdfiaa
open Go.RowKit

set_option maxRecDepth 100000 in
set_option maxHeartbeats 4000000 in
theorem teq_any (f g : Fo) (a a' : Option Addr) (cap cap' B : Nat) (w : World) (hsl : SlIn w (· < B) f a cap) (hsl' : SlIn w (· < B) g a' cap') (hB : B ≤ w.heap.size) (hf : f.size ≤ 1000000) (hg : g.size ≤ 1000000) :
    Calls Try.prog 52 #[.slice a f.len cap, .slice a' g.len cap', .func (.func 53) #[] #[]] w fun e w' => e = .returned (.bool (decide (f = g))) ∧ Below w.heap.size w w' := by
  have hlen := hsl.len
  by_cases hl : f.len = g.len
  · obtain ⟨L, HL⟩ : ∃ L, g.len = L := ⟨_, rfl⟩
    have H1 := Lib.hid (hl.trans HL)
    have HL := Lib.hid HL
    have d0 : ((f.len : Int) != (g.len : Int)) = false := by rw [hl]; simp
    rw [H1.out, HL.out] at d0 ⊢
    rw [H1.out] at hlen
    have HS := Lib.hid hsl
    have HS' := Lib.hid hsl'
    have HF := Lib.hid hf
    have HG := Lib.hid hg
    generalize hres : decide (f = g) = res
    have HR := Lib.hid hres
    clear hl hsl hsl' hf hg hres
    go_enter Try.func52, Try.ntmps52
    go_wp2_with fail
    go_loopw [17] (fun i wr => ∃ (j : Nat) (r r' : Fo), i = .int .i64 j ∧ Hid (j + r.len = L) ∧ Hid (r.len = r'.len) ∧ Hid (r.size ≤ f.size) ∧ Hid (r'.size ≤ g.size) ∧ Hid (∀ b o, a = some ⟨b, o, none⟩ → FoIn w (· < B) r b (o + j * 3)) ∧
        Hid (∀ b o, a' = some ⟨b, o, none⟩ → FoIn w (· < B) r' b (o + j * 3)) ∧ Hid (decide (r = r') = res) ∧ Hid (Below w.heap.size w wr)) (fun i _ => L - (intOf i).toNat)
    case atStart => exact ⟨0, f, g, rfl, Lib.hid (by have := H1.out; omega), Lib.hid (by rw [H1.out, HL.out]), Lib.hid (Nat.le_refl _), Lib.hid (Nat.le_refl _), Lib.hid (by rintro b o rfl; simpa using HS.out.foIn), Lib.hid (by rintro b o rfl; simpa using HS'.out.foIn), HR, Lib.hid (Below.refl _ _)⟩
    case round =>
      obtain ⟨j, r, r', rfl, hj, hjj, hrs, hrs', hin, hin', heq, hw⟩ := hrel
      match r, r', hj, hjj, hrs, hrs', hin, hin', heq with
      | .nil, .cons .., _, hjj, _, _, _, _, _ => have := hjj.out; simp [Fo.len] at this
      | .cons .., .nil, _, hjj, _, _, _, _, _ => have := hjj.out; simp [Fo.len] at this
      | .nil, .nil, hj, _, _, _, _, _, heq =>
        have hlt : ¬ (j : Int) < (L : Int) := by have := hj.out; simp [Fo.len] at this; omega
        have d' : decide ((j : Int) < (L : Int)) = false := by simpa using hlt
        go_wp2_with fail
        go_ret
        exact ⟨by rw [← heq.out]; rfl, hw.out⟩
      | .cons k1 n1 ks r1, .cons k2 n2 ks' r2, hj, hjj, hrs, hrs', hin, hin', heq =>
        have hlt : j < L := by have := hj.out; simp [Fo.len] at this; omega
        have hlt' : (j : Int) < (L : Int) := by omega
        have hwB : Below B w wr := hw.out.mono hB
        obtain ⟨b, o, rfl, hbB, _⟩ := HS.out.some (by rw [H1.out]; omega)
        obtain ⟨b', o', rfl, hbB', _⟩ := HS'.out.some (by rw [HL.out]; omega)
        obtain ⟨e0, e1, ⟨a1, cap1, e2, hsl1⟩, _⟩ := (hin.out b o rfl).below hwB _ _ _ hbB |>.first
        obtain ⟨e3, e4, ⟨a2, cap2, e5, hsl2⟩, _⟩ := (hin'.out b' o' rfl).below hwB _ _ _ hbB' |>.first
        have hbr : b' < wr.heap.size := by have := hw.out.size; omega
        have hwa := heap_old wr (.cells #[.int .i64 k1, .int .i64 n1, .slice a1 ks.len cap1] 33) hbr
        have e3' := (World.cell?_of_block (a := ⟨b', o' + j * 3, none⟩) hwa).trans e3
        have e4' := (World.cell?_of_block (a := ⟨b', o' + j * 3 + 1, none⟩) hwa).trans e4
        have e5' := (World.cell?_of_block (a := ⟨b', o' + j * 3 + 2, none⟩) hwa).trans e5
        have HC : Hid (∀ v, decide (k1 = k2 ∧ n1 = n2 ∧ ks = ks') = v → decide (Fo.cons k1 n1 ks r1 = Fo.cons k2 n2 ks' r2) = (v && decide (r1 = r2))) := Lib.hid (by
          rintro v rfl
          rw [Bool.eq_iff_iff]
          simp [and_assoc])
        have hBr : B ≤ wr.heap.size := Nat.le_trans hB hw.out.size
        have hk : Below wr.heap.size wr ((wr.alloc (.cells #[.int .i64 k1, .int .i64 n1, .slice a1 ks.len cap1] 33)).alloc (.cells #[.int .i64 k2, .int .i64 n2, .slice a2 ks'.len cap2] 33)) := ((Below.refl _ _).alloc (Nat.le_refl _) _).alloc (by simp) _
        have C1 := Lib.hid (Same_any ks ks' k1 n1 k2 n2 a1 a2 cap1 cap2 B ((wr.alloc (.cells #[.int .i64 k1, .int .i64 n1, .slice a1 ks.len cap1] 33)).alloc (.cells #[.int .i64 k2, .int .i64 n2, .slice a2 ks'.len cap2] 33)) (hsl1.below (hk.mono hBr)) (hsl2.below (hk.mono hBr)) (Nat.le_trans hBr hk.size) (by have h1 := hrs.out; have h2 := HF.out; simp only [Fo.size] at h1; omega) (by have h1 := hrs'.out; have h2 := HG.out; simp only [Fo.size] at h1; omega))
        have HK := Lib.hid hk
        generalize hv : decide (k1 = k2 ∧ n1 = n2 ∧ ks = ks') = v at C1
        have HC' := Lib.hid (HC.out v hv)
        clear HC hv hsl1 hsl2 hwa e3 e4 e5 hk
        go_wp2_with fail
        refine C1.out.mono ?_
        rintro e w2 ⟨rfl, hb2⟩
        have hE := Lib.hid (hw.out.trans ((Below.step HK.out hb2 (Nat.le_refl _)).mono hw.out.size))
        clear hb2 C1 HK
        cases v with
        | true =>
          go_wp2_with fail
          go_roundw
          case rel => exact ⟨j + 1, r1, r2, by go_num, Lib.hid (by have := hj.out; simp [Fo.len] at this; omega), Lib.hid (by have := hjj.out; simpa [Fo.len] using this), Lib.hid (by have := hrs.out; simp [Fo.size] at this; omega), Lib.hid (by have := hrs'.out; simp [Fo.size] at this; omega), Lib.hid (by rintro b1 o1 h; cases h; have := (hin.out b o rfl).2.2.2; rwa [show o + (j + 1) * 3 = o + j * 3 + 3 by omega]), Lib.hid (by rintro b1 o1 h; cases h; have := (hin'.out b' o' rfl).2.2.2; rwa [show o' + (j + 1) * 3 = o' + j * 3 + 3 by omega]), Lib.hid (by rw [← heq.out, HC'.out]; rfl), hE⟩
          case measure => simp [intOf]; omega
        | false =>
          go_wp2_with fail
          go_ret
          exact ⟨by rw [← heq.out, HC'.out]; rfl, hE.out⟩
  · rw [decide_eq_false (fun h => hl (by rw [h]))]
    have d0 : ((f.len : Int) != (g.len : Int)) = true := by rw [bne_iff_ne]; omega
    clear hl
    go_enter Try.func52, Try.ntmps52
    go_wp2_with fail
    go_ret
    exact ⟨rfl, Below.refl _ _⟩
set_option maxRecDepth 100000 in
set_option maxHeartbeats 4000000 in
theorem talike_any (f g : Fo) (k n k' n' : Int) (a a' ka ka' : Option Addr) (cap cap' kl kl' kc kc' B : Nat) (w : World) (hsl : SlIn w (· < B) f a cap) (hsl' : SlIn w (· < B) g a' cap') (hB : B ≤ w.heap.size) (hf : f.size ≤ 1000000) (hg : g.size ≤ 1000000) :
    Calls Try.prog 36 #[.agg #[.int .i64 k, .int .i64 n, .slice a f.len cap, .slice ka kl kc], .agg #[.int .i64 k', .int .i64 n', .slice a' g.len cap', .slice ka' kl' kc']] w fun e w' => e = .returned (.bool (decide (k = k' ∧ n = n' ∧ kl = kl' ∧ f = g))) ∧ Below w.heap.size w w' := by
  have hb : Below w.heap.size w ((w.alloc (.cells #[.int .i64 k, .int .i64 n, .slice a f.len cap, .slice ka kl kc] 25)).alloc (.cells #[.int .i64 k', .int .i64 n', .slice a' g.len cap', .slice ka' kl' kc'] 25)) := ((Below.refl _ _).alloc (Nat.le_refl _) _).alloc (by simp) _
  have HC := Lib.hid (teq_any f g a a' cap cap' B ((w.alloc (.cells #[.int .i64 k, .int .i64 n, .slice a f.len cap, .slice ka kl kc] 25)).alloc (.cells #[.int .i64 k', .int .i64 n', .slice a' g.len cap', .slice ka' kl' kc'] 25)) (hsl.below (hb.mono hB)) (hsl'.below (hb.mono hB)) (Nat.le_trans hB hb.size) hf hg)
  have HB := Lib.hid hb
  clear hb hsl hsl'
  by_cases h1 : k = k'
  · by_cases h2 : n = n'
    · by_cases h3 : kl = kl'
      · have HV : Hid (decide (k = k' ∧ n = n' ∧ kl = kl' ∧ f = g) = decide (f = g)) := Lib.hid (by simp [h1, h2, h3])
        generalize decide (k = k' ∧ n = n' ∧ kl = kl' ∧ f = g) = res at HV
        generalize decide (f = g) = x at HC HV
        have d1 : (k == k') = true := beq_iff_eq.2 h1
        have d2 : (n == n') = true := beq_iff_eq.2 h2
        have d3 : ((kl : Int) == (kl' : Int)) = true := beq_iff_eq.2 (by omega)
        clear h1 h2 h3
        go_enter Try.func36, Try.ntmps36
        go_wp2_with fail
        refine HC.out.mono ?_
        rintro e w2 ⟨rfl, hb2⟩
        have HE := Lib.hid (Below.step HB.out hb2 (Nat.le_refl _))
        clear hb2
        go_wp2_with fail
        go_ret
        exact ⟨by rw [HV.out]; rfl, HE.out⟩
      · rw [decide_eq_false (fun h => h3 h.2.2.1)]
        have d1 : (k == k') = true := beq_iff_eq.2 h1
        have d2 : (n == n') = true := beq_iff_eq.2 h2
        have d3 : ((kl : Int) == (kl' : Int)) = false := beq_eq_false_iff_ne.2 (by omega)
        clear h1 h2 h3
        go_enter Try.func36, Try.ntmps36
        go_wp2_with fail
        go_ret
        exact ⟨rfl, HB.out⟩
    · rw [decide_eq_false (fun h => h2 h.2.1)]
      have d1 : (k == k') = true := beq_iff_eq.2 h1
      have d2 : (n == n') = false := beq_eq_false_iff_ne.2 h2
      clear h1 h2
      go_enter Try.func36, Try.ntmps36
      go_wp2_with fail
      go_ret
      exact ⟨rfl, HB.out⟩
  · rw [decide_eq_false (fun h => h1 h.1)]
    have d1 : (k == k') = false := beq_eq_false_iff_ne.2 h1
    clear h1
    go_enter Try.func36, Try.ntmps36
    go_wp2_with fail
    go_ret
    exact ⟨rfl, HB.out⟩
end Go.Proofs.Ytokckghedpdfiaa
