/- The contract of the program's 'replaced', with the function that tells what is put in: the level with those levels in their places. No condition but that the levels lie in memory, are not very great, and that no number is below 0. -/
import Derived.Test.YtcnhfoppfihhiaaScopy
import Derived.Test.YtcnhfoppfihhiaaSsub1
namespace Go.Proofs.Ytcnhfoppfihhiaa
open Go.RowKit

theorem get_size : ∀ (F : Fo) (i : Nat), (F.get i).size ≤ F.size
  | .nil, _ => Nat.le_refl _
  | .cons k n ks r, 0 => by simp only [Fo.get, Fo.size]; omega
  | .cons k n ks r, i + 1 => by have := get_size r i; simp only [Fo.get, Fo.size]; omega
theorem sv_size {P Q : Fo} {k n : Int} {o : Option Fo} (hP : P.size ≤ 1000) (hQ : Q.size ≤ 1000) (_hn : 0 ≤ n) (h : sv P Q k n = o) : (o.getD .nil).size ≤ 1000 := by
  subst h
  unfold sv
  split
  · exact Nat.le_trans (get_size _ _) hP
  · split
    · exact Nat.le_trans (get_size _ _) hQ
    · exact Nat.zero_le _
/-- The copy is stored as the answer. -/
theorem rep_store {w w1 : World} {k n k1 n1 : Int} {a : Option Addr} {len cap B : Nat} {F1 : Fo} (hb : Below (w.heap.size + 1 + 1) ((w.alloc (.cells #[.int .i64 k, .int .i64 n, .slice a len cap] 38)).alloc (.cells #[.int .i64 0, .int .i64 0, .slice none 0 0] 38)) w1) (hB : B ≤ w.heap.size) (ob : Obj) {e : Ending} {w3 : World}
    (h : RpPost B (.cons k1 n1 F1 .nil) (w1.alloc ob) e w3) : ∃ (x2 : Option Addr) (c2 : Nat), e = .returned (.agg #[.int .i64 k1, .int .i64 n1, .slice x2 F1.len c2]) ∧
          w3.cell? ⟨w.heap.size + 1, 0, none⟩ = some (.int .i64 0) ∧ w3.cell? ⟨w.heap.size + 1, 1, none⟩ = some (.int .i64 0) ∧ w3.cell? ⟨w.heap.size + 1, 2, none⟩ = some (.slice none 0 0) ∧ (∀ o, w3.frozen? ⟨w.heap.size + 1, o, none⟩ = false) ∧ w.heap.size + 1 < w3.heap.size ∧
          Hid (RpPost B (.cons k1 n1 F1 .nil) w (.returned (.agg #[.int .i64 k1, .int .i64 n1, .slice x2 F1.len c2])) (((w3.setCell ⟨w.heap.size + 1, 0, none⟩ (.int .i64 k1)).setCell ⟨w.heap.size + 1, 1, none⟩ (.int .i64 n1)).setCell ⟨w.heap.size + 1, 2, none⟩ (.slice x2 F1.len c2))) := by
  obtain ⟨k2, n2, F2, x2, c2, hT, rfl, t1, t2⟩ := h
  obtain ⟨rfl, rfl, rfl⟩ := one_eq hT
  obtain ⟨_, _, _, hz, hw⟩ := copy_box hb
  have e0 : w1.heap[w.heap.size + 1]? = some (.cells #[.int .i64 0, .int .i64 0, .slice none 0 0] 38 (0, 0)) := (hb.block _ (by omega)).trans (by have := heap_second w (.cells #[.int .i64 k, .int .i64 n, .slice a len cap] 38) (.cells #[.int .i64 0, .int .i64 0, .slice none 0 0] 38); simpa using this)
  have e3 := (t2.block _ (by simp; omega)).trans ((heap_old w1 ob hz).trans e0)
  have hlt := lt_of_block e3
  have hb3 : Below w.heap.size w w3 := Below.step (hw.alloc hw.size ob) t2 (Nat.le_refl _)
  have hg := set3_only (w := w3) (w.heap.size + 1) (.int .i64 k1) (.int .i64 n1) (.slice x2 F1.len c2)
  refine ⟨x2, c2, rfl, cell_at e3 0, cell_at e3 1, cell_at e3 2, free_of e3, hlt, Lib.hid ⟨k1, n1, F1, x2, c2, rfl, rfl, ?_, ?_⟩⟩
  · refine (t1.keep (fun b hb => Only.block hg hb.2 ?_)).weak (fun b hb => ⟨?_, Nat.lt_of_lt_of_le hb.2 hg.size⟩)
    · have h1 := hb.1; simp at h1; have h2 := hw.size; omega
    · have h1 := hb.1; simp at h1; have h2 := hw.size; omega
  · exact ⟨hg.os.trans hb3.os, hg.tape.trans hb3.tape, hg.output.trans hb3.output, Nat.le_trans hb3.size hg.size, fun q hq => (Only.block hg (by have := hb3.size; omega) (by omega)).trans (hb3.block q hq)⟩

set_option maxRecDepth 100000 in
set_option maxHeartbeats 4000000 in
theorem rep_any (P Q : Fo) (bp bq B : Nat) (s : Nat) : ∀ (f : Fo), f.size < s → f.size ≤ 1000 → ∀ (k n : Int) (a : Option Addr) (cap : Nat) (w : World), 0 ≤ n → noneg f → P.size ≤ 1000 → Q.size ≤ 1000 → SbAt w B bp bq P Q → SlIn w (· < B) f a cap → B ≤ w.heap.size →
    Calls Try.prog 62 #[.agg #[.int .i64 k, .int .i64 n, .slice a f.len cap], .func (.func 63) #[] #[.pointer (some ⟨bp, 0, none⟩), .pointer (some ⟨bq, 0, none⟩)]] w (RpPost B (sb1 P Q k n (sbF P Q f)) w) := by
  induction s with
  | zero => intro f hs; omega
  | succ s ih =>
    intro f hs hsz k n a cap w hn hnn hPs hQs hat hsl hB
    have IH := Lib.hid ih
    clear ih
    have hlen := hsl.len
    have HSL := Lib.hid hsl
    clear hsl
    have hn2 : Below w.heap.size w ((w.alloc (.cells #[.int .i64 k, .int .i64 n, .slice a f.len cap] 38)).alloc (.cells #[.int .i64 0, .int .i64 0, .slice none 0 0] 38)) := ((Below.refl _ _).alloc (Nat.le_refl _) _).alloc (by simp) _
    have HC1 := Lib.hid (sub1_any P Q B bp bq k n hn a f.len cap _ (hat.below (hn2.mono hB)) (Nat.le_trans hB hn2.size))
    clear hn2
    obtain ⟨o, ho⟩ : ∃ o, sv P Q k n = o := ⟨_, rfl⟩
    have hT : sb1 P Q k n (sbF P Q f) = o.getD (.cons k n (sbF P Q f) .nil) := by unfold sb1; rw [ho]
    rw [hT]
    rw [ho] at HC1
    have HZ := Lib.hid (sv_size hPs hQs hn ho)
    clear hT ho
    cases o with
    | some T =>
      show Calls _ _ _ _ (RpPost B T w)
      go_enter Try.func62, Try.ntmps62
      go_wp2_with fail
      refine HC1.out.mono ?_
      rintro e w1 ⟨hb1, k1, n1, F1, x1, c1, rfl, rfl, hs1⟩
      have hb2 : Below (w.heap.size + 1 + 1) ((w.alloc (.cells #[.int .i64 k, .int .i64 n, .slice a f.len cap] 38)).alloc (.cells #[.int .i64 0, .int .i64 0, .slice none 0 0] 38)) w1 := by simpa using hb1
      obtain ⟨_, _, _, hw1, hb3⟩ := copy_box (k := k) (n := n) (len := f.len) hb2
      have hbo : Below w1.heap.size w1 (w1.alloc (.cells #[.int .i64 k1, .int .i64 n1, .slice x1 F1.len c1] 38)) := (Below.refl _ _).alloc (Nat.le_refl _) _
      have hBw : B ≤ w1.heap.size := Nat.le_trans hB hb3.size
      have HC2 := Lib.hid (copy_any (F1.size + 1) F1 (Nat.lt_succ_self _) (by have h1 := HZ.out; simp only [Option.getD, Fo.size] at h1; omega) k1 n1 x1 c1 B (w1.alloc (.cells #[.int .i64 k1, .int .i64 n1, .slice x1 F1.len c1] 38)) ((hs1.below (hb1.mono (by simp; omega))).below (hbo.mono hBw)) (Nat.le_trans hBw hbo.size))
      have HFI : Hid (∀ (e : Ending) (w3 : World), RpPost B (.cons k1 n1 F1 .nil) (w1.alloc (.cells #[.int .i64 k1, .int .i64 n1, .slice x1 F1.len c1] 38)) e w3 → ∃ (x2 : Option Addr) (c2 : Nat), e = .returned (.agg #[.int .i64 k1, .int .i64 n1, .slice x2 F1.len c2]) ∧
          w3.cell? ⟨w.heap.size + 1, 0, none⟩ = some (.int .i64 0) ∧ w3.cell? ⟨w.heap.size + 1, 1, none⟩ = some (.int .i64 0) ∧ w3.cell? ⟨w.heap.size + 1, 2, none⟩ = some (.slice none 0 0) ∧ (∀ o, w3.frozen? ⟨w.heap.size + 1, o, none⟩ = false) ∧ w.heap.size + 1 < w3.heap.size ∧
          Hid (RpPost B (.cons k1 n1 F1 .nil) w (.returned (.agg #[.int .i64 k1, .int .i64 n1, .slice x2 F1.len c2])) (((w3.setCell ⟨w.heap.size + 1, 0, none⟩ (.int .i64 k1)).setCell ⟨w.heap.size + 1, 1, none⟩ (.int .i64 n1)).setCell ⟨w.heap.size + 1, 2, none⟩ (.slice x2 F1.len c2)))) := Lib.hid (fun e w3 h => rep_store hb2 hB _ h)
      clear hb1 hb2 hb3 hbo hs1 HC1 HSL IH hat
      go_wp2_with fail
      refine HC2.out.mono ?_
      intro e w3 hP
      obtain ⟨x2, c2, rfl, g0, g1, g2, gz, hlt, HE⟩ := HFI.out e w3 hP
      clear hP
      go_wp2_with fail
      refine bodyPost_ret (v := .agg #[.int .i64 k1, .int .i64 n1, .slice x2 F1.len c2]) (by simp [results, Try.results62, go_sem, g0, g1, g2]) rfl ?_
      exact HE.out
    | none =>
      show Calls _ _ _ _ (RpPost B (.cons k n (sbF P Q f) .nil) w)
      go_enter Try.func62, Try.ntmps62
      go_wp2_with fail
      refine HC1.out.mono ?_
      rintro e w1 ⟨hb1, rfl⟩
      have hb2 : Below (w.heap.size + 1 + 1) ((w.alloc (.cells #[.int .i64 k, .int .i64 n, .slice a f.len cap] 38)).alloc (.cells #[.int .i64 0, .int .i64 0, .slice none 0 0] 38)) w1 := by simpa using hb1
      obtain ⟨k0, k1, k2, hw1, hb3⟩ := copy_box (k := k) (n := n) (len := f.len) hb2
      have HS : Hid (RpR w (w1.heap.size + 1) B k n .nil (.slice none 0 0) ((w1.alloc (.cells #[.int .i64 0, .int .i64 0, .slice none 0 0] 38)).alloc (.cells #[.int .i64 k, .int .i64 n, .slice none 0 0] 38))) := Lib.hid (RpR.start hb2 hB _)
      clear hb1 hb2
      have hw0 : w.heap.size < w1.heap.size := by omega
      have hz1 := heap_old w1 (.cells #[.int .i64 0, .int .i64 0, .slice none 0 0] 38) hw0
      have k3 := (World.cell?_of_block (w := w1) (a := ⟨w.heap.size, 0, none⟩) hz1).trans k0
      have k4 := (World.cell?_of_block (w := w1) (a := ⟨w.heap.size, 1, none⟩) hz1).trans k1
      have k5 := (World.cell?_of_block (w := w1) (a := ⟨w.heap.size, 2, none⟩) ((heap_old (w1.alloc (.cells #[.int .i64 0, .int .i64 0, .slice none 0 0] 38)) (.cells #[.int .i64 k, .int .i64 n, .slice none 0 0] 38) (by simp; omega)).trans hz1)).trans k2
      clear hz1 k1 k2
      go_wp2_with fail
      go_loopw [27] (fun jv wr => ∃ (j : Nat) (H rest : Fo) (v : Value), jv = .int .i64 j ∧ Hid (f = H.app rest) ∧ Hid (H.len = j) ∧ Hid (RpR w (w1.heap.size + 1) B k n (sbF P Q H) v wr)) (fun jv _ => f.len - (intOf jv).toNat)
      case atStart => exact ⟨0, .nil, f, _, rfl, Lib.hid rfl, Lib.hid rfl, HS⟩
      case round =>
        obtain ⟨j, H, rest, v, rfl, hf, hj, hR⟩ := hrel
        have hnH := noneg_app (f := H) (g := rest) (by rw [← hf.out]; exact hnn)
        have hGl := sbF_len P Q H hnH.1
        obtain ⟨g0, g1, g2, gz, q0, q1, q2, qz, hob, hwr⟩ := hR.out.facts
        cases rest with
        | nil =>
          rw [foApp_nil'] at hf
          clear hGl
          have hjl : ¬ (j : Int) < (f.len : Int) := by rw [hf.out, hj.out]; omega
          have dj : decide ((j : Int) < (f.len : Int)) = false := by simpa using hjl
          obtain ⟨x, c, rfl, hE⟩ := hR.out.done
          have HE := Lib.hid hE
          have HF := Lib.hid hf.out
          clear hE hR
          go_wp2_with fail
          refine bodyPost_ret (v := .agg #[.int .i64 k, .int .i64 n, .slice x (sbF P Q H).len c]) (by simp [results, Try.results62, go_sem, g0, g1, g2]) rfl ?_
          rw [HF.out]
          exact HE.out
        | cons k' n' ks r' =>
          have hjn : j < f.len := by rw [hf.out, Fo.app_len, hj.out]; simp [Fo.len]
          have hjl : (j : Int) < (f.len : Int) := by omega
          obtain ⟨b, o, rfl, hbB, hf0⟩ := HSL.out.some (by omega)
          have hfa : FoIn w (· < B) (.cons k' n' ks r') b (o + j * 3) := by
            have h1 := hf0
            rw [hf.out] at h1
            rw [← hj.out]
            exact FoIn.behind H _ b o h1
          obtain ⟨e0, e1, ⟨a', cap', e2, hsl'⟩, _⟩ := (hfa.below (hwr.mono hB) _ _ _ hbB).first
          have hks : ks.size < s := by
            have h1 := hs
            rw [hf.out, Fo.app_size] at h1
            simp only [Fo.size] at h1
            omega
          have hBr : B ≤ wr.heap.size := Nat.le_trans hB hwr.size
          have hbk : Below wr.heap.size wr (wr.alloc (.cells #[.int .i64 k', .int .i64 n', .slice a' ks.len cap'] 38)).drew := ((Below.refl _ _).alloc (Nat.le_refl _) _).drew
          have HC : Hid (Calls Try.prog 62 #[.agg #[.int .i64 k', .int .i64 n', .slice a' ks.len cap'], .func (.func 63) #[] #[.pointer (some ⟨bp, 0, none⟩), .pointer (some ⟨bq, 0, none⟩)]] (wr.alloc (.cells #[.int .i64 k', .int .i64 n', .slice a' ks.len cap'] 38)).drew (RpPost B (sb1 P Q k' n' (sbF P Q ks)) (wr.alloc (.cells #[.int .i64 k', .int .i64 n', .slice a' ks.len cap'] 38)).drew)) :=
            Lib.hid (IH.out ks hks (by have h1 := hsz; rw [hf.out, Fo.app_size] at h1; simp only [Fo.size] at h1; omega) k' n' a' cap' _ hnH.2.1 hnH.2.2.1 hPs hQs (hat.below ((hwr.mono hB).trans (hbk.mono hBr))) (hsl'.below (hbk.mono hBr)) (Nat.le_trans hBr hbk.size))
          have HAP : Hid (∀ (e : Ending) (w2 : World), RpPost B (sb1 P Q k' n' (sbF P Q ks)) (wr.alloc (.cells #[.int .i64 k', .int .i64 n', .slice a' ks.len cap'] 38)).drew e w2 → ∃ (k2 n2 : Int) (F2 : Fo) (x2 : Option Addr) (c2 : Nat), e = .returned (.agg #[.int .i64 k2, .int .i64 n2, .slice x2 F2.len c2]) ∧
              w2.cell? ⟨w1.heap.size + 1, 2, none⟩ = some v ∧ w1.heap.size + 1 < w2.heap.size ∧ (w2.alloc (.cells #[.int .i64 k2, .int .i64 n2, .slice x2 F2.len c2] 38)).cell? ⟨w1.heap.size + 1, 2, none⟩ = some v ∧
              ∃ g' cap' w3, Hid ((Builtin.append_ #[26, 26] 26 #[v, .slice (some ⟨w2.heap.size, 0, none⟩) 1 1]).run Try.prog (w2.alloc (.cells #[.int .i64 k2, .int .i64 n2, .slice x2 F2.len c2] 38)) = .ok (.slice (some ⟨g', 0, none⟩) (j + 1) cap') w3) ∧
                w3.cell? ⟨w1.heap.size + 1, 2, none⟩ = some v ∧ (∀ o, w3.frozen? ⟨w1.heap.size + 1, o, none⟩ = false) ∧ Hid (RpR w (w1.heap.size + 1) B k n (sbF P Q (H.app (.cons k' n' ks .nil))) (.slice (some ⟨g', 0, none⟩) (j + 1) cap') (w3.setCell ⟨w1.heap.size + 1, 2, none⟩ (.slice (some ⟨g', 0, none⟩) (j + 1) cap')))) := Lib.hid (by
            rintro e w2 ⟨k2, n2, F2, x2, c2, hT, rfl, t1, t2⟩
            have hT' : sbF P Q (H.app (.cons k' n' ks .nil)) = (sbF P Q H).app (.cons k2 n2 F2 .nil) := by rw [sbF_app, ← hT]; show (sbF P Q H).app ((sb1 P Q k' n' (sbF P Q ks)).app .nil) = _; rw [foApp_nil']
            have hG1 : (sbF P Q H).len ≤ 1000 := by rw [hGl]; have h1 := Fo.len_le_size f; rw [hf.out, Fo.app_len, Fo.app_size] at h1; rw [hf.out, Fo.app_size] at hsz; omega
            have t3 : SlIn w2 (fun b => (b < B ∨ wr.heap.size ≤ b) ∧ b < w2.heap.size) F2 x2 c2 := t1.weak (fun b hb => ⟨by have h1 := hb.1; simp at h1; omega, hb.2⟩)
            have t4 : Below wr.heap.size wr w2 := Below.trans (((Below.refl _ _).alloc (Nat.le_refl _) _).drew) (t2.mono (by simp))
            obtain ⟨L2, hlb2, g', cap', w3, hrun, L3, Z3, hN⟩ := RpR.next (k' := k2) (n' := n2) hR.out hG1 t3 t4
            rw [hGl, hj.out] at hrun hN
            rw [hT']
            exact ⟨k2, n2, F2, x2, c2, rfl, L2, hlb2, (World.cell?_of_block (w := w2) (a := ⟨w1.heap.size + 1, 2, none⟩) (heap_old w2 _ hlb2)).trans L2, g', cap', w3, Lib.hid hrun, L3, Z3, Lib.hid hN⟩)
          have HSN : Hid (f = (H.app (.cons k' n' ks .nil)).app r') := Lib.hid (by rw [hf.out, foApp_assoc']; rfl)
          have HJ := Lib.hid hj.out
          clear hf hR hfa hf0 hnH hGl g0 g1 g2 gz q0 q1 qz k0 hbk
          go_wp2_with fail
          go_region_law (first
            | (refine step_append (by rfl) _ _ _ (by rfl) (by rfl) (by rfl) HRUN.out ?_)
            | (go_simp; go_at_call 62; refine HC.out.mono ?_; intro e w2 hP; obtain ⟨k2, n2, F2, x2, c2, rfl, L2, hlb2, L2a, g', cap', w3, HRUN, L3, Z3, HN⟩ := HAP.out e w2 hP; clear hP))
          all_goals
            go_wp2_with fail
            go_roundw
            case rel => exact ⟨j + 1, _, r', _, by go_num, HSN, Lib.hid (by rw [Fo.app_len, HJ.out]; rfl), HN⟩
            case measure => simp [intOf]; omega
end Go.Proofs.Ytcnhfoppfihhiaa
