/- The contracts of free and Free: how many variables are free in a term that is well-formed. -/
import Derived.Test.YtokckghedpdfiaaTwf
import Derived.Test.YtokckghedpdfiaaTright
namespace Go.Proofs.Ytokckghedpdfiaa
open Go.RowKit

theorem frHeld {B : Nat} {W w' : World} {N b i : Nat} {x0 x1 x2 x3 y : Value} (h : Below B W w') (hN : N < B) (hb : b < B) (q0 : W.cell? ⟨N, 0, none⟩ = some x0) (q1 : W.cell? ⟨N, 1, none⟩ = some x1) (q2 : W.cell? ⟨N, 2, none⟩ = some x2) (q3 : W.cell? ⟨N, 3, none⟩ = some x3) (m1 : W.cell? ⟨b, i, none⟩ = some y) :
    w'.cell? ⟨N, 0, none⟩ = some x0 ∧ w'.cell? ⟨N, 1, none⟩ = some x1 ∧ w'.cell? ⟨N, 2, none⟩ = some x2 ∧ w'.cell? ⟨N, 3, none⟩ = some x3 ∧ w'.cell? ⟨b, i, none⟩ = some y :=
  ⟨(bcell h _ _ hN).trans q0, (bcell h _ _ hN).trans q1, (bcell h _ _ hN).trans q2, (bcell h _ _ hN).trans q3, (bcell h _ _ hb).trans m1⟩

set_option maxRecDepth 100000 in
set_option maxHeartbeats 4000000 in
theorem tfree_any (s : Nat) : ∀ (f : Ft), f.size < s → ∀ (k n : Int) (ls : Fo) (la ka : Option Addr) (lc kc B r : Nat) (w : World), wf1 1030 k n ls f → TlIn w (· < B) f ka kc → B ≤ w.heap.size → TabAt w r →
    Calls Try.prog 41 #[.map (some r), .agg #[.int .i64 k, .int .i64 n, .slice la ls.len lc, .slice ka f.len kc]] w fun e w' => e = .returned (.int .i64 (fr1 k n f)) ∧ Below w.heap.size w w' := by
  induction s with
  | zero => intro f hs; omega
  | succ s ih =>
    intro f hs k n ls la ka lc kc B r w hwf hsl hB hm
    have IH := Lib.hid ih
    clear ih
    have hlen := hsl.len
    by_cases hk : k = 1
    · obtain ⟨_, _, hn0, hn1⟩ := wf1_leaf (hk ▸ hwf)
      have e : fr1 k n f = n + 1 := if_pos hk
      rw [e]
      have hk' : (k == 1) = true := beq_iff_eq.2 hk
      clear hk e
      go_enter Try.func41, Try.ntmps41
      go_wp2_with fail
      go_ret
      exact ⟨rfl, (Below.refl _ _).alloc (Nat.le_refl _) _⟩
    · have hk' : (k == 1) = false := beq_eq_false_iff_ne.2 hk
      have HFR : Hid (fr1 k n f = frF f k 0) := Lib.hid (if_neg hk)
      generalize fr1 k n f = res at HFR
      obtain ⟨⟨hk1, hk7, hlk⟩, _, hwk⟩ := hwf
      have hkn : (tkids k).toNat = f.len := by omega
      have HK := Lib.hid hlk
      have HM := Lib.hid hm
      have HW := Lib.hid hwk
      have hT1 := hm.alloc (.cells #[.int .i64 k, .int .i64 n, .slice la ls.len lc, .slice ka f.len kc] 25)
      have hlook := run_tlook (w.alloc (.cells #[.int .i64 k, .int .i64 n, .slice la ls.len lc, .slice ka f.len kc] 25)) r hT1 k false hk1 hk7
      simp only [tRow, tRw, hkn] at hlook
      have hlook' : (Instr.lookup 54 (.map (some r)) (.int .i64 k) false).run Try.prog (w.alloc (.cells #[.int .i64 k, .int .i64 n, .slice la ls.len lc, .slice ka f.len kc] 25)) = .ok (.agg #[.func (.func (tFn k)) #[] #[], .int .i64 (tlo k), .int .i64 (thi k), .slice (tAddr r k) f.len f.len]) (w.alloc (.cells #[.int .i64 k, .int .i64 n, .slice la ls.len lc, .slice ka f.len kc] 25)) := hlook
      have fd := run_tfield3
      clear hlook hkn hlk hm hT1 hwk hk
      go_enter Try.func41, Try.ntmps41
      go_wp2_with fail
      clear hlook' fd
      go_loopw [5, 23] (fun q i wr => ∃ (j : Nat) (H rr : Ft) (x : Int), i = .int .i64 j ∧ q = .int .i64 x ∧ 0 ≤ x ∧ x ≤ 2000 ∧ Hid (f = H.app rr) ∧ Hid (H.len = j) ∧ Hid (max x (frF rr k j) = frF f k 0) ∧ Hid (Below (w.heap.size + 1) (w.alloc (.cells #[.int .i64 k, .int .i64 n, .slice la ls.len lc, .slice ka f.len kc] 25)) wr))
        (fun _ i _ => f.len - (intOf i).toNat)
      case atStart => exact ⟨0, .nil, f, 0, rfl, rfl, by omega, by omega, Lib.hid rfl, Lib.hid rfl, Lib.hid (by have := (frF_bd (N := 1030) (by omega) f k 0 HW.out).1; omega), Lib.hid (Below.refl _ _)⟩
      case round =>
        obtain ⟨j, H, rr, x, rfl, rfl, hx0, hx1, hf, hj, hall, hb⟩ := hrel
        have hwW : Hid (Below w.heap.size w wr) := Lib.hid (Below.trans ((Below.refl _ _).alloc (Nat.le_refl _) _) (hb.out.mono (by omega)))
        cases rr with
        | nil =>
          have hjl : ¬ (j : Int) < (f.len : Int) := by rw [hf.out, Ft.app_nil, hj.out]; omega
          have d' : decide ((j : Int) < (f.len : Int)) = false := by simpa using hjl
          go_wp2_with fail
          go_ret
          exact ⟨by rw [HFR.out, ← hall.out]; show Ending.returned (.int .i64 x) = .returned (.int .i64 (max x 0)); rw [show max x 0 = x by omega], hwW.out⟩
        | cons k' n' ls' ks r' =>
          have hjn : j < f.len := by rw [hf.out, Ft.app_len, hj.out]; simp [Ft.len]
          have hlt' : (j : Int) < (f.len : Int) := by omega
          have hwB : Below B w wr := hwW.out.mono hB
          obtain ⟨b, o, rfl, hbB, hf0⟩ := hsl.some (by omega)
          have hfa : FtIn w (· < B) (.cons k' n' ls' ks r') b (o + j * 4) := by
            have h1 := hf0
            rw [hf.out] at h1
            rw [← hj.out]
            exact FtIn.behind H _ b o h1
          obtain ⟨e0, e1, ⟨la', lc', e2, hls'⟩, ⟨ka', kc', e3, hsl'⟩, _⟩ := (hfa.below hwB _ _ _ hbB).first
          have hks : ks.size < s := by
            have h1 := hs
            rw [hf.out, Ft.app_size] at h1
            simp only [Ft.size] at h1
            omega
          have hwk' : wf1 1030 k' n' ls' ks := by
            have h1 := HW.out
            rw [hf.out, wfF_app] at h1
            exact (wfF_parts h1.2).1
          have hbd := fr1_bd (by omega) hwk'
          have hbi := bindK_le k j
          have hTr : TabAt wr r := HM.out.later hwW.out
          obtain ⟨bb, hbb, hb1, hb2, hb3⟩ := hTr.own (k := k) (i := j) (by have := HK.out; omega)
          have hnew := heap_new wr (.cells #[.int .i64 k', .int .i64 n', .slice la' ls'.len lc', .slice ka' ks.len kc'] 25)
          obtain ⟨q0, q1, q2, q3⟩ := cells4 hnew
          have hbr : bb < wr.heap.size := by have := hTr.lt; omega
          have m1 := (World.cell?_of_block (a := ⟨bb, j, none⟩) (heap_old wr (.cells #[.int .i64 k', .int .i64 n', .slice la' ls'.len lc', .slice ka' ks.len kc'] 25) hbr)).trans hb3
          have hB1 : Below B w (wr.alloc (.cells #[.int .i64 k', .int .i64 n', .slice la' ls'.len lc', .slice ka' ks.len kc'] 25)).drew := (hwB.alloc (Nat.le_trans hB hwW.out.size) _).drew
          have HCL := Lib.hid (IH.out ks hks k' n' ls' la' ka' lc' kc' B r (wr.alloc (.cells #[.int .i64 k', .int .i64 n', .slice la' ls'.len lc', .slice ka' ks.len kc'] 25)).drew hwk' (hsl'.below (((Below.refl B wr).alloc (Nat.le_trans hB hwW.out.size) _).drew)) (Nat.le_trans hB hB1.size |> fun _ => by have := hwW.out.size; simp; omega) (hTr.alloc _).drew)
          have HA : Hid (max x (max (fr1 k' n' ks - bindK k j) (frF r' k (j + 1))) = frF f k 0) := Lib.hid hall.out
          have HW1 : Hid (IntKind.i64.wrap (fr1 k' n' ks - bindK k j) = fr1 k' n' ks - bindK k j) := Lib.hid (IntWalk.i64_in _ (by omega))
          have hxx : -1 ≤ fr1 k' n' ks - bindK k j ∧ fr1 k' n' ks - bindK k j ≤ 1100 := by omega
          have HJ : Hid (f = (H.app (.cons k' n' ls' ks .nil)).app r') := Lib.hid (by rw [hf.out, Ft.app_assoc]; rfl)
          have HL : Hid ((H.app (.cons k' n' ls' ks .nil)).len = j + 1) := Lib.hid (by rw [Ft.app_len, hj.out]; rfl)
          have hz1 : Hid (Below (w.heap.size + 1) (w.alloc (.cells #[.int .i64 k, .int .i64 n, .slice la ls.len lc, .slice (some ⟨b, o, none⟩) f.len kc] 25)) (wr.alloc (.cells #[.int .i64 k', .int .i64 n', .slice la' ls'.len lc', .slice ka' ks.len kc'] 25)).drew) := Lib.hid ((hb.out.alloc (by have := hb.out.size; simpa using this) _).drew)
          rw [hbb]
          generalize hX : fr1 k' n' ks = X at HCL HA HW1 hxx
          generalize hY : bindK k j = Y at HA HW1 hxx m1
          clear hX hY hbd hbi hnew hb3 hls' hsl' hf0 hfa hTr hwk' hb1 hb2 hf hall hj hB1 hbb hwW
          go_wp2_with fail
          go_region_held3 (fun w' => w'.cell? ⟨wr.heap.size, 0, none⟩ = some (.int .i64 k') ∧ w'.cell? ⟨wr.heap.size, 1, none⟩ = some (.int .i64 n') ∧ w'.cell? ⟨wr.heap.size, 2, none⟩ = some (.slice la' ls'.len lc') ∧ w'.cell? ⟨wr.heap.size, 3, none⟩ = some (.slice ka' ks.len kc') ∧ w'.cell? ⟨bb, j, none⟩ = some (.int .i64 Y))
            (first | exact ⟨q0, q1, q2, q3, m1⟩ | exact frHeld (W := (wr.alloc (.cells #[.int .i64 k', .int .i64 n', .slice la' ls'.len lc', .slice ka' ks.len kc'] 25)).drew) HBN.out (by simp) (by simp; omega) q0 q1 q2 q3 m1)
            (first | (go_at_call 41; refine HCL.out.mono ?_; rintro e wN ⟨rfl, hbN⟩; have HBN := Lib.hid hbN; clear hbN))
          have hmax : (if x < X - Y then X - Y else x) = max x (X - Y) := by split <;> omega
          simp only [HW1.out, hmax]
          have HE := Lib.hid (Below.step hz1.out HBN.out (by simp))
          have HMX : Hid (max (max x (X - Y)) (frF r' k (j + 1)) = frF f k 0) := Lib.hid (by rw [← HA.out]; omega)
          have hm0 : 0 ≤ max x (X - Y) := by omega
          have hm1 : max x (X - Y) ≤ 2000 := by omega
          generalize max x (X - Y) = M at HMX hm0 hm1 ⊢
          clear q0 q1 q2 q3 m1 HCL HBN HW1 hz1 HA hmax
          go_wp2_with fail
          go_roundw
          case rel => exact ⟨j + 1, _, r', M, by go_num, rfl, hm0, hm1, HJ, HL, HMX, HE⟩
          case measure => simp [intOf]; omega
set_option maxRecDepth 100000 in
set_option maxHeartbeats 2000000 in
theorem tFree_any (k n : Int) (ls : Fo) (f : Ft) (la ka : Option Addr) (lc kc B : Nat) (w : World) (hls : SlIn w (· < B) ls la lc) (hsl : TlIn w (· < B) f ka kc) (hB : B ≤ w.heap.size) :
    Calls Try.prog 21 #[.agg #[.int .i64 k, .int .i64 n, .slice la ls.len lc, .slice ka f.len kc]] w fun e w' => e = .returned (.int .i64 (if shB k n ls f = true then fr1 k n f else 0)) ∧ Below w.heap.size w w' := by
  have hb : Below w.heap.size w (w.alloc (.cells #[.int .i64 k, .int .i64 n, .slice la ls.len lc, .slice ka f.len kc] 25)) := (Below.refl _ _).alloc (Nat.le_refl _) _
  have HB := Lib.hid hb
  have HWE : Hid (∀ (W : World) (r : Nat), Below w.heap.size w W → TabAt W r → Calls Try.prog 29 #[.map (some r), .agg #[.int .i64 k, .int .i64 n, .slice la ls.len lc, .slice ka f.len kc]] W fun e w' => e = .returned (.bool (shB k n ls f)) ∧ Below W.heap.size W w') := Lib.hid (by
    intro W r h h2
    exact twell_any k n ls f la ka lc kc B r W (hls.below (h.mono hB)) (hsl.below (h.mono hB)) (Nat.le_trans hB h.size) h2)
  have HFR : Hid (∀ (W : World) (r : Nat), Below w.heap.size w W → TabAt W r → shB k n ls f = true → Calls Try.prog 41 #[.map (some r), .agg #[.int .i64 k, .int .i64 n, .slice la ls.len lc, .slice ka f.len kc]] W fun e w' => e = .returned (.int .i64 (fr1 k n f)) ∧ Below W.heap.size W w') := Lib.hid (by
    intro W r h h2 h3
    exact tfree_any (f.size + 1) f (Nat.lt_succ_self _) k n ls la ka lc kc B r W (wf_of_sh h3) (hsl.below (h.mono hB)) (Nat.le_trans hB h.size) h2)
  generalize shB k n ls f = x at HWE HFR
  generalize fr1 k n f = y at HFR
  clear hls hsl hb
  go_enter Try.func21, Try.ntmps21
  go_wp2_with fail
  refine (tkinds_any _).mono ?_
  rintro e w1 ⟨rfl, hT, hb1⟩
  have HT : Hid (TabAt w1 (w.heap.size + 1)) := Lib.hid (by simpa using hT)
  have hb2 := Lib.hid (Below.step HB.out hb1 (Nat.le_refl _))
  have hb1' : Below (w.heap.size + 1) (w.alloc (.cells #[.int .i64 k, .int .i64 n, .slice la ls.len lc, .slice ka f.len kc] 25)) w1 := by simpa using hb1
  have c0 := bcell hb1' w.heap.size 0 (by omega)
  have c1 := bcell hb1' w.heap.size 1 (by omega)
  have c2 := bcell hb1' w.heap.size 2 (by omega)
  have c3 := bcell hb1' w.heap.size 3 (by omega)
  simp at c0 c1 c2 c3
  have hz := Lib.hid hb1'.size
  clear hT hb1 hb1'
  simp only [World.size_alloc]
  go_wp2_with fail
  refine (HWE.out _ _ hb2.out HT.out).mono ?_
  rintro e w2 ⟨rfl, hb3⟩
  cases x with
  | false =>
    have HE := Lib.hid (Below.step hb2.out hb3 (Nat.le_refl _))
    clear hb3
    go_wp2_with fail
    go_ret
    exact ⟨rfl, HE.out⟩
  | true =>
    have HE := Lib.hid (Below.step hb2.out hb3 (Nat.le_refl _))
    have HT2 := Lib.hid (HT.out.later hb3)
    have hlt : w.heap.size < w1.heap.size := by have := hz.out; simp at this; omega
    have d0 := (bcell hb3 w.heap.size 0 hlt).trans c0
    have d1 := (bcell hb3 w.heap.size 1 hlt).trans c1
    have d2 := (bcell hb3 w.heap.size 2 hlt).trans c2
    have d3 := (bcell hb3 w.heap.size 3 hlt).trans c3
    clear hb3 c0 c1 c2 c3
    go_wp2_with fail
    refine (HFR.out _ _ HE.out HT2.out trivial).mono ?_
    rintro e w3 ⟨rfl, hb4⟩
    have HE2 := Lib.hid (Below.step HE.out hb4 (Nat.le_refl _))
    clear hb4
    go_wp2_with fail
    go_ret
    exact ⟨rfl, HE2.out⟩
end Go.Proofs.Ytokckghedpdfiaa
