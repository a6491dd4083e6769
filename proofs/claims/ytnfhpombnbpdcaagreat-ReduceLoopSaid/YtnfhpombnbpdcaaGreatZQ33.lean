/- Tlift. No condition but those that stand in each statement. -/
import Derived.Test.YtnfhpombnbpdcaaGreatZQ27
import Derived.Test.YtnfhpombnbpdcaaGreatZQ32
import Derived.Test.YtnfhpombnbpdcaaGreatZQ22
namespace Go.Proofs.YtnfhpombnbpdcaaGreat
open Go.RowKit
set_option maxRecDepth 100000 in
set_option maxHeartbeats 1000000 in
theorem tvar_any (n : Int) (B : Nat) (w : World) : Calls Tryz.prog 62 #[.int .i64 n] w (TmPost B (tV n) w) := by
  go_enter Tryz.func62, Tryz.ntmps62
  go_wp2_with fail
  refine bodyPost_ret (v := .agg #[.int .i64 1, .int .i64 n, .slice none 0 0, .slice none 0 0]) (by simp [results, Tryz.results62, go_sem]) rfl ?_
  exact ⟨none, 0, none, 0, rfl, SlIn.none _ _, TlIn.none _ _, by first | exact (Below.refl _ _).alloc (Nat.le_refl _) _ | exact ((((((Below.refl _ _).alloc (Nat.le_refl _) _).setCell (by simp) _).setCell (by simp) _).setCell (by simp) _).setCell (by simp) _)⟩
set_option maxHeartbeats 1000000 in
theorem tmay_any (x : Int) (w : World) : Calls Tryz.prog 37 #[.int .i64 x] w fun e w' => e = .returned (.bool (decide (0 ≤ x) && decide (x ≤ 1000))) ∧ w' = w := by
  by_cases h : 0 ≤ x
  · have d : decide (0 ≤ x) = true := decide_eq_true h
    go_enter Tryz.func37, Tryz.ntmps37
    go_wp2_with fail
    go_ret
    exact ⟨by rw [d]; rfl, rfl⟩
  · have d : decide (0 ≤ x) = false := decide_eq_false h
    go_enter Tryz.func37, Tryz.ntmps37
    go_wp2_with fail
    go_ret
    exact ⟨rfl, rfl⟩
def L2At (A1 A2 : Nat) (fr by' : Int) (W : World) : Prop := W.cell? ⟨A1, 0, none⟩ = some (.int .i64 fr) ∧ W.cell? ⟨A2, 0, none⟩ = some (.int .i64 by') ∧ A1 < W.heap.size ∧ A2 < W.heap.size
theorem L2At.later {A1 A2 : Nat} {fr by' : Int} {W W' : World} (h : L2At A1 A2 fr by' W) (hb : Below W.heap.size W W') : L2At A1 A2 fr by' W' :=
  ⟨(bcell hb _ _ h.2.2.1).trans h.1, (bcell hb _ _ h.2.2.2).trans h.2.1, Nat.lt_of_lt_of_le h.2.2.1 hb.size, Nat.lt_of_lt_of_le h.2.2.2 hb.size⟩
set_option maxRecDepth 100000 in
set_option maxHeartbeats 2000000 in
theorem tlift1_any (A1 A2 B : Nat) (fr by' n b : Int) (w : World) (hok : L2At A1 A2 fr by' w) (hB : B ≤ w.heap.size) (h1 : 0 ≤ fr ∧ fr ≤ 2000 ∧ 0 ≤ by' ∧ by' ≤ 2000) (hn0 : 0 ≤ n) (hn : n ≤ 1030) (hb0 : 0 ≤ b) (hb1 : b ≤ 2000) :
    Calls Tryz.prog 61 #[.int .i64 n, .int .i64 b, .pointer (some ⟨A1, 0, none⟩), .pointer (some ⟨A2, 0, none⟩)] w (TmPost B (gL fr by' n b) w) := by
  have hbw : Below w.heap.size w (w.alloc (.cells #[.int .i64 0, .int .i64 0, .slice none 0 0, .slice none 0 0] 30)) := (Below.refl _ _).alloc (Nat.le_refl _) _
  have hok1 := hok.later hbw
  obtain ⟨c1, c2, l1, l2⟩ := hok
  obtain ⟨m1, m2, _, _⟩ := hok1
  obtain ⟨f0, f1, b0', b1'⟩ := h1
  have HBW := Lib.hid hbw
  have HR0 := Lib.hid (heap_new w (.cells #[.int .i64 0, .int .i64 0, .slice none 0 0, .slice none 0 0] 30))
  have hBw := Lib.hid (Nat.le_trans hB hbw.size)
  have HV : Hid (∀ x : Int, Calls Tryz.prog 62 #[.int .i64 x] (w.alloc (.cells #[.int .i64 0, .int .i64 0, .slice none 0 0, .slice none 0 0] 30)) (TmPost B (tV x) (w.alloc (.cells #[.int .i64 0, .int .i64 0, .slice none 0 0, .slice none 0 0] 30)))) := Lib.hid (fun x => tvar_any x B _)
  clear hbw m1 m2
  by_cases hc : fr + b ≤ n
  · have e : gL fr by' n b = tV (n + by') := by unfold gL; rw [if_pos hc]
    rw [e]
    clear e
    go_enter Tryz.func61, Tryz.ntmps61
    go_wp2_with fail
    refine (HV.out _).mono ?_
    rintro e w1 ⟨x1, y1, x2, y2, rfl, hl1, hs1, hb2⟩
    have hR1 := (hb2.block w.heap.size (by simp)).trans HR0.out
    obtain ⟨g0, g1, g2, g3⟩ := cells4 hR1
    have gz := free_of hR1
    have hlt := lt_of_block hR1
    have HE := Lib.hid (TmPost.store (B := B) (w := w) (R := w.heap.size) (T := tV (n + by')) hl1 hs1 (Below.step HBW.out hb2 (Nat.le_refl _)) hB (Nat.le_refl _) (by simp))
    clear hl1 hs1 hb2 hR1
    go_wp2_with fail
    refine bodyPost_ret (v := .agg #[.int .i64 (tV (n + by')).k, .int .i64 (tV (n + by')).n, .slice x1 (tV (n + by')).ls.len y1, .slice x2 (tV (n + by')).ks.len y2]) (by simp [results, Tryz.results61, go_sem, g0, g1, g2, g3]) rfl ?_
    exact HE.out
  · have e : gL fr by' n b = tV n := by unfold gL; rw [if_neg hc]
    rw [e]
    clear e
    go_enter Tryz.func61, Tryz.ntmps61
    go_wp2_with fail
    refine (HV.out _).mono ?_
    rintro e w1 ⟨x1, y1, x2, y2, rfl, hl1, hs1, hb2⟩
    have hR1 := (hb2.block w.heap.size (by simp)).trans HR0.out
    obtain ⟨g0, g1, g2, g3⟩ := cells4 hR1
    have gz := free_of hR1
    have hlt := lt_of_block hR1
    have HE := Lib.hid (TmPost.store (B := B) (w := w) (R := w.heap.size) (T := tV n) hl1 hs1 (Below.step HBW.out hb2 (Nat.le_refl _)) hB (Nat.le_refl _) (by simp))
    clear hl1 hs1 hb2 hR1
    go_wp2_with fail
    refine bodyPost_ret (v := .agg #[.int .i64 (tV n).k, .int .i64 (tV n).n, .slice x1 (tV n).ls.len y1, .slice x2 (tV n).ks.len y2]) (by simp [results, Tryz.results61, go_sem, g0, g1, g2, g3]) rfl ?_
    exact HE.out
set_option maxRecDepth 100000 in
set_option maxHeartbeats 2000000 in
theorem tlifted_any (k n fr by' : Int) (ls : Fo) (f : Ft) (la ka : Option Addr) (lc kc B r : Nat) (w : World) (hwf : wf1 1030 k n ls f) (hsz : f.size ≤ 1000) (hls : SlIn w (· < B) ls la lc) (hsl : TlIn w (· < B) f ka kc) (hB : B ≤ w.heap.size) (hm : TabAt w r) (h1 : 0 ≤ fr ∧ fr ≤ 2000 ∧ 0 ≤ by' ∧ by' ≤ 2000) :
    Calls Tryz.prog 39 #[.map (some r), .agg #[.int .i64 k, .int .i64 n, .slice la ls.len lc, .slice ka f.len kc], .int .i64 fr, .int .i64 by'] w (TmPost B (rep1 (gL fr by') k n ls f 0) w) := by
  have hb : Below w.heap.size w ((((w.alloc (.cells #[.int .i64 k, .int .i64 n, .slice la ls.len lc, .slice ka f.len kc] 30)).alloc (.cells #[.int .i64 fr] 3)).alloc (.cells #[.int .i64 by'] 3)).alloc (.cells #[.int .i64 0, .int .i64 0, .slice none 0 0, .slice none 0 0] 30)) :=
    ((((Below.refl _ _).alloc (Nat.le_refl _) _).alloc (by simp) _).alloc (by simp; omega) _).alloc (by simp; omega) _
  have hok : L2At (w.heap.size + 1) (w.heap.size + 1 + 1) fr by' ((((w.alloc (.cells #[.int .i64 k, .int .i64 n, .slice la ls.len lc, .slice ka f.len kc] 30)).alloc (.cells #[.int .i64 fr] 3)).alloc (.cells #[.int .i64 by'] 3)).alloc (.cells #[.int .i64 0, .int .i64 0, .slice none 0 0, .slice none 0 0] 30)) := by
    have e1 : ((((w.alloc (.cells #[.int .i64 k, .int .i64 n, .slice la ls.len lc, .slice ka f.len kc] 30)).alloc (.cells #[.int .i64 fr] 3)).alloc (.cells #[.int .i64 by'] 3)).alloc (.cells #[.int .i64 0, .int .i64 0, .slice none 0 0, .slice none 0 0] 30)).heap[w.heap.size + 1]? = some (.cells #[.int .i64 fr] 3 (0, 0)) := (heap_old _ _ (by simp)).trans ((heap_old _ _ (by simp)).trans (heap_second _ _ _))
    have e2 : ((((w.alloc (.cells #[.int .i64 k, .int .i64 n, .slice la ls.len lc, .slice ka f.len kc] 30)).alloc (.cells #[.int .i64 fr] 3)).alloc (.cells #[.int .i64 by'] 3)).alloc (.cells #[.int .i64 0, .int .i64 0, .slice none 0 0, .slice none 0 0] 30)).heap[w.heap.size + 1 + 1]? = some (.cells #[.int .i64 by'] 3 (0, 0)) := (heap_old _ _ (by simp)).trans (by have := heap_second (w.alloc (.cells #[.int .i64 k, .int .i64 n, .slice la ls.len lc, .slice ka f.len kc] 30)) (.cells #[.int .i64 fr] 3) (.cells #[.int .i64 by'] 3); simpa using this)
    exact ⟨cell_at e1 0, cell_at e2 0, by simp, by simp⟩
  have HR0 : Hid (((((w.alloc (.cells #[.int .i64 k, .int .i64 n, .slice la ls.len lc, .slice ka f.len kc] 30)).alloc (.cells #[.int .i64 fr] 3)).alloc (.cells #[.int .i64 by'] 3)).alloc (.cells #[.int .i64 0, .int .i64 0, .slice none 0 0, .slice none 0 0] 30)).heap[w.heap.size + 1 + 1 + 1]? = some (.cells #[.int .i64 0, .int .i64 0, .slice none 0 0, .slice none 0 0] 30 (0, 0))) := Lib.hid (by
    have := heap_second ((w.alloc (.cells #[.int .i64 k, .int .i64 n, .slice la ls.len lc, .slice ka f.len kc] 30)).alloc (.cells #[.int .i64 fr] 3)) (.cells #[.int .i64 by'] 3) (.cells #[.int .i64 0, .int .i64 0, .slice none 0 0, .slice none 0 0] 30); simpa using this)
  have HC := Lib.hid (treplaced_any 61 (.inl rfl) (.pointer (some ⟨w.heap.size + 1, 0, none⟩)) (.pointer (some ⟨w.heap.size + 1 + 1, 0, none⟩)) (gL fr by') B r (L2At (w.heap.size + 1) (w.heap.size + 1 + 1) fr by') (fun W W' h hb => h.later hb)
    (fun n b W h _ hBW h0 h2 h3 h4 => tlift1_any _ _ B fr by' n b W h hBW h1 h0 h2 h3 h4) (f.size + 1) f (Nat.lt_succ_self _) hsz k n 0 ls la ka lc kc _ hwf (by omega) (by omega) (hls.below (hb.mono hB)) (hsl.below (hb.mono hB)) (Nat.le_trans hB hb.size) (hm.later hb) hok)
  have HB := Lib.hid hb
  generalize rep1 (gL fr by') k n ls f 0 = T at HC
  clear hb hok hls hsl hm hwf h1
  go_enter Tryz.func39, Tryz.ntmps39
  go_wp2_with fail
  refine HC.out.mono ?_
  rintro e w1 ⟨x1, y1, x2, y2, rfl, hl1, hs1, hb2⟩
  have hR1 := (hb2.block (w.heap.size + 1 + 1 + 1) (by simp)).trans HR0.out
  obtain ⟨g0, g1, g2, g3⟩ := cells4 hR1
  have gz := free_of hR1
  have hlt := lt_of_block hR1
  have HE := Lib.hid (TmPost.store (B := B) (w := w) (R := w.heap.size + 1 + 1 + 1) (T := T) hl1 hs1 (Below.step HB.out hb2 (Nat.le_refl _)) hB (by omega) (by simp))
  clear hl1 hs1 hb2 hR1
  go_wp2_with fail
  refine bodyPost_ret (v := .agg #[.int .i64 T.k, .int .i64 T.n, .slice x1 T.ls.len y1, .slice x2 T.ks.len y2]) (by simp [results, Tryz.results39, go_sem, g0, g1, g2, g3]) rfl ?_
  exact HE.out
def LePost (A : Tm × Int) (w : World) (e : Ending) (w' : World) : Prop :=
  ∃ (la : Option Addr) (lc : Nat) (x : Option Addr) (c : Nat), e = .returned (.tuple #[.agg #[.int .i64 A.1.k, .int .i64 A.1.n, .slice la A.1.ls.len lc, .slice x A.1.ks.len c], .int .i64 A.2]) ∧ SlIn w' (fun b => w.heap.size ≤ b ∧ b < w'.heap.size) A.1.ls la lc ∧ TlIn w' (fun b => w.heap.size ≤ b ∧ b < w'.heap.size) A.1.ks x c ∧ Below w.heap.size w w'
theorem LePost.store {R : Nat} {T : Tm} {E : Int} {w w3 : World} {P : Nat → Prop} {la x : Option Addr} {lc c : Nat} (hP : ∀ b, P b → b < w3.heap.size ∧ b ≠ R ∧ w.heap.size ≤ b) (hl : SlIn w3 P T.ls la lc) (hs : TlIn w3 P T.ks x c) (hb : Below w.heap.size w w3) (h1 : w.heap.size ≤ R) :
    LePost (T, E) w (.returned (.tuple #[.agg #[.int .i64 T.k, .int .i64 T.n, .slice la T.ls.len lc, .slice x T.ks.len c], .int .i64 E])) ((((w3.setCell ⟨R, 0, none⟩ (.int .i64 T.k)).setCell ⟨R, 1, none⟩ (.int .i64 T.n)).setCell ⟨R, 2, none⟩ (.slice la T.ls.len lc)).setCell ⟨R, 3, none⟩ (.slice x T.ks.len c)) := by
  have hg := set4_only (w := w3) R (.int .i64 T.k) (.int .i64 T.n) (.slice la T.ls.len lc) (.slice x T.ks.len c)
  refine ⟨la, lc, x, c, rfl, ?_, ?_, ?_⟩
  · exact (hl.keep (fun b hb => Only.block hg (hP b hb).1 (hP b hb).2.1)).weak (fun b hb => ⟨(hP b hb).2.2, Nat.lt_of_lt_of_le (hP b hb).1 hg.size⟩)
  · exact hs.turn (fun b hb => Only.block hg (hP b hb).1 (hP b hb).2.1) (fun b hb => ⟨(hP b hb).2.2, Nat.lt_of_lt_of_le (hP b hb).1 hg.size⟩)
  · exact ⟨hg.os.trans hb.os, hg.tape.trans hb.tape, hg.output.trans hb.output, Nat.le_trans hb.size hg.size, fun q hq => (Only.block hg (by have := hb.size; omega) (by omega)).trans (hb.block q hq)⟩
theorem Ft.lvsz_mono {N M : Nat} (h : N ≤ M) : ∀ {f : Ft}, f.lvsz N → f.lvsz M
  | .nil, _ => trivial
  | .cons .., hf => ⟨Nat.le_trans hf.1 h, Ft.lvsz_mono h hf.2.1, Ft.lvsz_mono h hf.2.2⟩
theorem sh_small {k n : Int} {ls : Fo} {f : Ft} (h : shB k n ls f = true) : f.size ≤ 1000 ∧ f.lvsz 1000 ∧ ls.size ≤ 1000 := by
  obtain ⟨h1, h2, h3⟩ := shB_parts h
  exact ⟨by omega, Ft.lvsz_mono (by omega) (tAll_lvsz h3), by have := tfits_lvsz h2; omega⟩
set_option maxRecDepth 100000 in
set_option maxHeartbeats 2000000 in
theorem tfin_any (T : Tm) (la ka : Option Addr) (lc kc B r : Nat) (w : World) (hls : SlIn w (· < B) T.ls la lc) (hsl : TlIn w (· < B) T.ks ka kc) (hB : B ≤ w.heap.size) (hm : TabAt w r) :
    Calls Tryz.prog 38 #[.map (some r), .agg #[.int .i64 T.k, .int .i64 T.n, .slice la T.ls.len lc, .slice ka T.ks.len kc]] w (LePost (fin1 T) w) := by
  have hb : Below w.heap.size w ((w.alloc (.cells #[.int .i64 T.k, .int .i64 T.n, .slice la T.ls.len lc, .slice ka T.ks.len kc] 30)).alloc (.cells #[.int .i64 0, .int .i64 0, .slice none 0 0, .slice none 0 0] 30)) := ((Below.refl _ _).alloc (Nat.le_refl _) _).alloc (by simp) _
  have HW := Lib.hid (twell_any T.k T.n T.ls T.ks la ka lc kc B r _ (hls.below (hb.mono hB)) (hsl.below (hb.mono hB)) (Nat.le_trans hB hb.size) (hm.later hb))
  have HFI : Hid (∀ x, shB T.k T.n T.ls T.ks = x → fin1 T = if x = true then (T, 0) else (tZ, 2)) := Lib.hid (fun x hx => by unfold fin1 Tm.sh; rw [hx])
  have HCO : Hid (shB T.k T.n T.ls T.ks = true → ∀ W : World, Below w.heap.size w W → Calls Tryz.prog 59 #[.agg #[.int .i64 T.k, .int .i64 T.n, .slice la T.ls.len lc, .slice ka T.ks.len kc]] W (TmPost 0 T W)) := Lib.hid (by
    intro hx W h
    obtain ⟨a, b, c⟩ := sh_small hx
    exact tcop_any (T.ks.size + 1) T.ks (Nat.lt_succ_self _) a b T.k T.n T.ls la ka lc kc B W c (hls.below (h.mono hB)) (hsl.below (h.mono hB)) (Nat.le_trans hB h.size))
  have HR0 := Lib.hid (heap_second w (.cells #[.int .i64 T.k, .int .i64 T.n, .slice la T.ls.len lc, .slice ka T.ks.len kc] 30) (.cells #[.int .i64 0, .int .i64 0, .slice none 0 0, .slice none 0 0] 30))
  have HQ0 : Hid (((w.alloc (.cells #[.int .i64 T.k, .int .i64 T.n, .slice la T.ls.len lc, .slice ka T.ks.len kc] 30)).alloc (.cells #[.int .i64 0, .int .i64 0, .slice none 0 0, .slice none 0 0] 30)).heap[w.heap.size]? = some (.cells #[.int .i64 T.k, .int .i64 T.n, .slice la T.ls.len lc, .slice ka T.ks.len kc] 30 (0, 0))) := Lib.hid ((heap_old _ _ (by simp)).trans (heap_new _ _))
  generalize shB T.k T.n T.ls T.ks = x at HW HFI HCO
  have HF := Lib.hid (HFI.out x rfl)
  generalize fin1 T = A at HF
  have HB := Lib.hid hb
  clear HFI hb hls hsl hm
  go_enter Tryz.func38, Tryz.ntmps38
  go_wp2_with fail
  refine HW.out.mono ?_
  rintro e w1 ⟨rfl, hb1⟩
  have hR1 := (hb1.block (w.heap.size + 1) (by simp)).trans HR0.out
  obtain ⟨g0, g1, g2, g3⟩ := cells4 hR1
  have gz := free_of hR1
  have hlt := lt_of_block hR1
  have hq1 := (hb1.block w.heap.size (by simp; omega)).trans HQ0.out
  obtain ⟨q0, q1, q2, q3⟩ := cells4 hq1
  have HB1 := Lib.hid (Below.step HB.out hb1 (Nat.le_refl _))
  cases x with
  | false =>
    have HA : Hid (A = (tZ, 2)) := Lib.hid (by rw [HF.out]; rfl)
    have HE := Lib.hid (LePost.store (R := w.heap.size + 1) (T := tZ) (E := 2) (w := w) (w3 := w1) (P := fun _ => False) (la := none) (lc := 0) (x := none) (c := 0) (fun _ h => h.elim) (SlIn.none _ _) (TlIn.none _ _) HB1.out (by omega))
    clear hb1 hR1 hq1 HCO
    go_wp2_with fail
    refine bodyPost_ret (v := .tuple #[.agg #[.int .i64 0, .int .i64 0, .slice none 0 0, .slice none 0 0], .int .i64 2]) (by simp [results, Tryz.results38, go_sem, g0, g1, g2, g3]) rfl ?_
    rw [HA.out]
    exact HE.out
  | true =>
    have HA : Hid (A = (T, 0)) := Lib.hid (by rw [HF.out]; rfl)
    have HC := Lib.hid (HCO.out rfl w1 HB1.out)
    clear hb1 hq1 HCO
    have hB1 : B ≤ w.heap.size := hB
    go_wp2_with fail
    refine HC.out.mono ?_
    rintro e w2 ⟨x1, y1, x2, y2, rfl, hl2, hs2, hb2⟩
    have hR2 := (hb2.block (w.heap.size + 1) hlt).trans hR1
    have HE := Lib.hid (LePost.store (R := w.heap.size + 1) (T := T) (E := 0) (w := w) (w3 := w2) (P := fun b => (b < 0 ∨ w1.heap.size ≤ b) ∧ b < w2.heap.size) (fun b h => ⟨h.2, by omega, by omega⟩) hl2 hs2 (Below.step HB1.out hb2 (Nat.le_refl _)) (by omega))
    clear g0 g1 g2 g3 gz hR1 q0 q1 q2 q3
    obtain ⟨g0, g1, g2, g3⟩ := cells4 hR2
    have gz := free_of hR2
    have hlt2 := lt_of_block hR2
    clear hl2 hs2 hb2 hR2
    go_wp2_with fail
    refine bodyPost_ret (v := .tuple #[.agg #[.int .i64 T.k, .int .i64 T.n, .slice x1 T.ls.len y1, .slice x2 T.ks.len y2], .int .i64 0]) (by simp [results, Tryz.results38, go_sem, g0, g1, g2, g3]) rfl ?_
    rw [HA.out]
    exact HE.out
end Go.Proofs.YtnfhpombnbpdcaaGreat
