/- Topen. No condition but those that stand in each statement. -/
import Derived.Deep.RegionHeld3
import Derived.RegionTactic
import Derived.BigRegion
import Derived.ChangeAlike
import Derived.Test.YtnfhpombnbpdcaaGreatZQ34
namespace Go.Proofs.YtnfhpombnbpdcaaGreat
open Go.RowKit
def OpAt (T1 U1 r B : Nat) (U : Tm) (la : Option Addr) (lc : Nat) (ka : Option Addr) (kc : Nat) (W : World) : Prop :=
  W.cell? ⟨T1, 0, none⟩ = some (.map (some r)) ∧ W.heap[U1]? = some (.cells #[.int .i64 U.k, .int .i64 U.n, .slice la U.ls.len lc, .slice ka U.ks.len kc] 30 (0, 0)) ∧ SlIn W (· < B) U.ls la lc ∧ TlIn W (· < B) U.ks ka kc ∧ T1 < W.heap.size ∧ B ≤ W.heap.size
theorem OpAt.later {T1 U1 r B : Nat} {U : Tm} {la : Option Addr} {lc : Nat} {ka : Option Addr} {kc : Nat} {W W' : World} (h : OpAt T1 U1 r B U la lc ka kc W) (hb : Below W.heap.size W W') : OpAt T1 U1 r B U la lc ka kc W' := by
  obtain ⟨h1, h2, h3, h4, h5, h6⟩ := h
  exact ⟨(bcell hb _ _ h5).trans h1, (hb.block _ (lt_of_block h2)).trans h2, h3.below (hb.mono h6), h4.below (hb.mono h6), Nat.lt_of_lt_of_le h5 hb.size, Nat.le_trans h6 hb.size⟩
set_option maxRecDepth 100000 in
set_option maxHeartbeats 4000000 in
theorem topen1_any (T1 U1 r B : Nat) (U : Tm) (la : Option Addr) (lc : Nat) (ka : Option Addr) (kc : Nat) (n b : Int) (w : World) (hok : OpAt T1 U1 r B U la lc ka kc w) (hm : TabAt w r) (hU : wf1 1030 U.k U.n U.ls U.ks) (hUs : U.ks.size ≤ 1000) (hn0 : 0 ≤ n) (hn : n ≤ 1030) (hb0 : 0 ≤ b) (hb1 : b ≤ 2000) :
    Calls Tryz.prog 93 #[.int .i64 n, .int .i64 b, .pointer (some ⟨T1, 0, none⟩), .pointer (some ⟨U1, 0, none⟩)] w (TmPost B (gO U n b) w) := by
  have hbw : Below w.heap.size w (w.alloc (.cells #[.int .i64 0, .int .i64 0, .slice none 0 0, .slice none 0 0] 30)) := (Below.refl _ _).alloc (Nat.le_refl _) _
  have hB := hok.2.2.2.2.2
  have hok1 := hok.later hbw
  obtain ⟨t1, u1, hls, hsl, l1, _⟩ := hok1
  obtain ⟨u10, u11, u12, u13⟩ := cells4 u1
  obtain ⟨s1, s2, _, _, l3, _⟩ := hok
  obtain ⟨s20, s21, s22, s23⟩ := cells4 s2
  have l2 := lt_of_block s2
  have HBW := Lib.hid hbw
  have HR0 := Lib.hid (heap_new w (.cells #[.int .i64 0, .int .i64 0, .slice none 0 0, .slice none 0 0] 30))
  have HV : Hid (∀ x : Int, Calls Tryz.prog 62 #[.int .i64 x] (w.alloc (.cells #[.int .i64 0, .int .i64 0, .slice none 0 0, .slice none 0 0] 30)) (TmPost B (tV x) (w.alloc (.cells #[.int .i64 0, .int .i64 0, .slice none 0 0, .slice none 0 0] 30)))) := Lib.hid (fun x => tvar_any x B _)
  have HL := Lib.hid (tlifted_any U.k U.n 0 b U.ls U.ks la ka lc kc B r (w.alloc (.cells #[.int .i64 0, .int .i64 0, .slice none 0 0, .slice none 0 0] 30)) hU hUs hls hsl (Nat.le_trans hB hbw.size) (hm.later hbw) (by omega))
  clear hbw hls hsl u1 s2 t1 u10 u11 u12 u13 hm hU
  have htail : Hid (∀ (T : Tm) (w1 : World) (x1 : Option Addr) (y1 : Nat) (x2 : Option Addr) (y2 : Nat), SlIn w1 (fun q => (q < B ∨ (w.alloc (.cells #[.int .i64 0, .int .i64 0, .slice none 0 0, .slice none 0 0] 30)).heap.size ≤ q) ∧ q < w1.heap.size) T.ls x1 y1 → TlIn w1 (fun q => (q < B ∨ (w.alloc (.cells #[.int .i64 0, .int .i64 0, .slice none 0 0, .slice none 0 0] 30)).heap.size ≤ q) ∧ q < w1.heap.size) T.ks x2 y2 → Below (w.alloc (.cells #[.int .i64 0, .int .i64 0, .slice none 0 0, .slice none 0 0] 30)).heap.size (w.alloc (.cells #[.int .i64 0, .int .i64 0, .slice none 0 0, .slice none 0 0] 30)) w1 →
      (w1.cell? ⟨w.heap.size, 0, none⟩ = some (.int .i64 0) ∧ w1.cell? ⟨w.heap.size, 1, none⟩ = some (.int .i64 0) ∧ w1.cell? ⟨w.heap.size, 2, none⟩ = some (.slice none 0 0) ∧ w1.cell? ⟨w.heap.size, 3, none⟩ = some (.slice none 0 0)) ∧ (∀ o, w1.frozen? ⟨w.heap.size, o, none⟩ = false) ∧ w.heap.size < w1.heap.size ∧
      Hid (TmPost B T w (.returned (.agg #[.int .i64 T.k, .int .i64 T.n, .slice x1 T.ls.len y1, .slice x2 T.ks.len y2])) ((((w1.setCell ⟨w.heap.size, 0, none⟩ (.int .i64 T.k)).setCell ⟨w.heap.size, 1, none⟩ (.int .i64 T.n)).setCell ⟨w.heap.size, 2, none⟩ (.slice x1 T.ls.len y1)).setCell ⟨w.heap.size, 3, none⟩ (.slice x2 T.ks.len y2)))) := Lib.hid (by
    intro T w1 x1 y1 x2 y2 hl1 hs1 hb2
    have hR1 := (hb2.block w.heap.size (by simp)).trans HR0.out
    exact ⟨cells4 hR1, free_of hR1, lt_of_block hR1, Lib.hid (TmPost.store (B := B) (w := w) (R := w.heap.size) (T := T) hl1 hs1 (Below.step HBW.out hb2 (Nat.le_refl _)) hB (Nat.le_refl _) (by simp))⟩)
  by_cases hc : n = b
  · have e : gO U n b = rep1 (gL 0 b) U.k U.n U.ls U.ks 0 := by unfold gO; rw [if_pos hc]
    rw [e]
    generalize rep1 (gL 0 b) U.k U.n U.ls U.ks 0 = T at HL
    have hc' : (n == b) = true := beq_iff_eq.2 hc
    clear e hc
    go_enter Tryz.func93, Tryz.ntmps93
    go_wp2_with fail
    refine HL.out.mono ?_
    rintro e w1 ⟨x1, y1, x2, y2, rfl, hl1, hs1, hb2⟩
    obtain ⟨⟨g0, g1, g2, g3⟩, gz, hlt, HE⟩ := htail.out T w1 x1 y1 x2 y2 hl1 hs1 hb2
    clear hl1 hs1 hb2 htail HL HV
    go_wp2_with fail
    refine bodyPost_ret (v := .agg #[.int .i64 T.k, .int .i64 T.n, .slice x1 T.ls.len y1, .slice x2 T.ks.len y2]) (by simp [results, Tryz.results93, go_sem, g0, g1, g2, g3]) rfl ?_
    exact HE.out
  · have hc' : (n == b) = false := beq_eq_false_iff_ne.2 hc
    by_cases hd : b < n
    · have e : gO U n b = tV (n - 1) := by unfold gO; rw [if_neg hc, if_pos hd]
      rw [e]
      generalize hT : tV (n - 1) = T
      have HV1 := Lib.hid (HV.out (n - 1))
      rw [hT] at HV1
      clear e hc hT HV HL
      go_enter Tryz.func93, Tryz.ntmps93
      go_wp2_with fail
      refine HV1.out.mono ?_
      rintro e w1 ⟨x1, y1, x2, y2, rfl, hl1, hs1, hb2⟩
      obtain ⟨⟨g0, g1, g2, g3⟩, gz, hlt, HE⟩ := htail.out T w1 x1 y1 x2 y2 hl1 hs1 hb2
      clear hl1 hs1 hb2 htail HV1
      go_wp2_with fail
      refine bodyPost_ret (v := .agg #[.int .i64 T.k, .int .i64 T.n, .slice x1 T.ls.len y1, .slice x2 T.ks.len y2]) (by simp [results, Tryz.results93, go_sem, g0, g1, g2, g3]) rfl ?_
      exact HE.out
    · have e : gO U n b = tV n := by unfold gO; rw [if_neg hc, if_neg hd]
      rw [e]
      generalize hT : tV n = T
      have HV1 := Lib.hid (HV.out n)
      rw [hT] at HV1
      clear e hc hT HV HL
      go_enter Tryz.func93, Tryz.ntmps93
      go_wp2_with fail
      refine HV1.out.mono ?_
      rintro e w1 ⟨x1, y1, x2, y2, rfl, hl1, hs1, hb2⟩
      obtain ⟨⟨g0, g1, g2, g3⟩, gz, hlt, HE⟩ := htail.out T w1 x1 y1 x2 y2 hl1 hs1 hb2
      clear hl1 hs1 hb2 htail HV1
      go_wp2_with fail
      refine bodyPost_ret (v := .agg #[.int .i64 T.k, .int .i64 T.n, .slice x1 T.ls.len y1, .slice x2 T.ks.len y2]) (by simp [results, Tryz.results93, go_sem, g0, g1, g2, g3]) rfl ?_
      exact HE.out
structure OpF (w W : World) (X r : Nat) (OT OU OZ OX : Obj) : Prop where
  t : W.heap[w.heap.size]? = some OT
  u : W.heap[w.heap.size + 1]? = some OU
  z : W.heap[w.heap.size + 1 + 1]? = some OZ
  x : W.heap[X]? = some OX
  tab : TabAt W r
  bel : Below w.heap.size w W
  ne : X ≠ w.heap.size + 1 + 1
theorem OpF.later {w W W' : World} {X r : Nat} {OT OU OZ OX : Obj} (h : OpF w W X r OT OU OZ OX) (hb : Below W.heap.size W W') : OpF w W' X r OT OU OZ OX :=
  ⟨(hb.block _ (lt_of_block h.t)).trans h.t, (hb.block _ (lt_of_block h.u)).trans h.u, (hb.block _ (lt_of_block h.z)).trans h.z, (hb.block _ (lt_of_block h.x)).trans h.x, h.tab.later hb, Below.step h.bel hb (Nat.le_refl _), h.ne⟩
theorem opHeld {w W : World} {X r : Nat} {k n : Int} {s1 s2 : Value} {OU OZ : Obj} {v : Value} (h : OpF w W X r (.cells #[.int .i64 k, .int .i64 n, s1, s2] 30 (0, 0)) OU OZ (.cells #[v] 77 (0, 0))) :
    W.cell? ⟨X, 0, none⟩ = some v ∧ W.cell? ⟨w.heap.size, 0, none⟩ = some (.int .i64 k) ∧ W.cell? ⟨w.heap.size, 1, none⟩ = some (.int .i64 n) ∧ W.cell? ⟨w.heap.size, 2, none⟩ = some s1 ∧ W.cell? ⟨w.heap.size, 3, none⟩ = some s2 :=
  ⟨cell_at h.x 0, cell_at h.t 0, cell_at h.t 1, cell_at h.t 2, cell_at h.t 3⟩
theorem opHeldS {w W : World} {X r : Nat} {k n : Int} {s1 s2 : Value} {OU OZ : Obj} {v a b c d : Value} (h : OpF w W X r (.cells #[.int .i64 k, .int .i64 n, s1, s2] 30 (0, 0)) OU OZ (.cells #[v] 77 (0, 0))) :
    ((((W.setCell ⟨w.heap.size + 1 + 1, 0, none⟩ a).setCell ⟨w.heap.size + 1 + 1, 1, none⟩ b).setCell ⟨w.heap.size + 1 + 1, 2, none⟩ c).setCell ⟨w.heap.size + 1 + 1, 3, none⟩ d).cell? ⟨X, 0, none⟩ = some v ∧
    ((((W.setCell ⟨w.heap.size + 1 + 1, 0, none⟩ a).setCell ⟨w.heap.size + 1 + 1, 1, none⟩ b).setCell ⟨w.heap.size + 1 + 1, 2, none⟩ c).setCell ⟨w.heap.size + 1 + 1, 3, none⟩ d).cell? ⟨w.heap.size, 0, none⟩ = some (.int .i64 k) ∧
    ((((W.setCell ⟨w.heap.size + 1 + 1, 0, none⟩ a).setCell ⟨w.heap.size + 1 + 1, 1, none⟩ b).setCell ⟨w.heap.size + 1 + 1, 2, none⟩ c).setCell ⟨w.heap.size + 1 + 1, 3, none⟩ d).cell? ⟨w.heap.size, 1, none⟩ = some (.int .i64 n) ∧
    ((((W.setCell ⟨w.heap.size + 1 + 1, 0, none⟩ a).setCell ⟨w.heap.size + 1 + 1, 1, none⟩ b).setCell ⟨w.heap.size + 1 + 1, 2, none⟩ c).setCell ⟨w.heap.size + 1 + 1, 3, none⟩ d).cell? ⟨w.heap.size, 2, none⟩ = some s1 ∧
    ((((W.setCell ⟨w.heap.size + 1 + 1, 0, none⟩ a).setCell ⟨w.heap.size + 1 + 1, 1, none⟩ b).setCell ⟨w.heap.size + 1 + 1, 2, none⟩ c).setCell ⟨w.heap.size + 1 + 1, 3, none⟩ d).cell? ⟨w.heap.size, 3, none⟩ = some s2 := by
  have hg := set4_only (w := W) (w.heap.size + 1 + 1) a b c d
  have hx := (Only.block hg (lt_of_block h.x) h.ne).trans h.x
  have ht := (Only.block hg (lt_of_block h.t) (by omega)).trans h.t
  exact ⟨cell_at hx 0, cell_at ht 0, cell_at ht 1, cell_at ht 2, cell_at ht 3⟩
theorem openA_no {t u : Tm} (h : t.sh = false ∨ u.sh = false) : openA t u = (tZ, 1) := by
  unfold openA; rw [if_neg]
  rintro ⟨h1, h2⟩
  rcases h with h | h
  · rw [h] at h1; cases h1
  · rw [h] at h2; cases h2
theorem openA_yes {t u : Tm} (h : t.sh = true) (h1 : u.sh = true) : openA t u = fin1 (rep1 (gO u) t.k t.n t.ls t.ks 0) := by
  unfold openA; rw [if_pos ⟨h, h1⟩]
set_option maxRecDepth 100000 in
set_option maxHeartbeats 4000000 in
theorem tOpen_any (t u : Tm) (la ka la' ka' : Option Addr) (lc kc lc' kc' B : Nat) (w : World) (hls : SlIn w (· < B) t.ls la lc) (hsl : TlIn w (· < B) t.ks ka kc) (hls' : SlIn w (· < B) u.ls la' lc') (hsl' : TlIn w (· < B) u.ks ka' kc') (hB : B ≤ w.heap.size) :
    Calls Tryz.prog 76 #[.agg #[.int .i64 t.k, .int .i64 t.n, .slice la t.ls.len lc, .slice ka t.ks.len kc], .agg #[.int .i64 u.k, .int .i64 u.n, .slice la' u.ls.len lc', .slice ka' u.ks.len kc']] w (LePost (openA t u) w) := by
  obtain ⟨OT, hOT⟩ : ∃ o : Obj, o = .cells #[.int .i64 t.k, .int .i64 t.n, .slice la t.ls.len lc, .slice ka t.ks.len kc] 30 (0, 0) := ⟨_, rfl⟩
  obtain ⟨OU, hOU⟩ : ∃ o : Obj, o = .cells #[.int .i64 u.k, .int .i64 u.n, .slice la' u.ls.len lc', .slice ka' u.ks.len kc'] 30 (0, 0) := ⟨_, rfl⟩
  obtain ⟨OZ, hOZ⟩ : ∃ o : Obj, o = .cells #[.int .i64 0, .int .i64 0, .slice none 0 0, .slice none 0 0] 30 (0, 0) := ⟨_, rfl⟩
  have hb : Below w.heap.size w (((w.alloc OT).alloc OU).alloc OZ) := (((Below.refl _ _).alloc (Nat.le_refl _) _).alloc (by simp) _).alloc (by simp; omega) _
  have hT0 : (((w.alloc OT).alloc OU).alloc OZ).heap[w.heap.size]? = some OT := (heap_old _ _ (by simp; omega)).trans ((heap_old _ _ (by simp)).trans (heap_new _ _))
  have hU0 : (((w.alloc OT).alloc OU).alloc OZ).heap[w.heap.size + 1]? = some OU := (heap_old _ _ (by simp)).trans (heap_second _ _ _)
  have hZ0 : (((w.alloc OT).alloc OU).alloc OZ).heap[w.heap.size + 1 + 1]? = some OZ := by have := heap_second (w.alloc OT) OU OZ; simpa using this
  have hs0 : (((w.alloc OT).alloc OU).alloc OZ).heap.size = w.heap.size + 1 + 1 + 1 := by simp
  subst hOT hOU hOZ
  have HB := Lib.hid hb
  have HT0 := Lib.hid hT0
  have HU0 := Lib.hid hU0
  have HZ0 := Lib.hid hZ0
  have HS0 := Lib.hid hs0
  have HW1 : Hid (∀ (W : World) (r : Nat), Below w.heap.size w W → TabAt W r → Calls Tryz.prog 36 #[.map (some r), .agg #[.int .i64 t.k, .int .i64 t.n, .slice la t.ls.len lc, .slice ka t.ks.len kc]] W fun e w' => e = .returned (.bool t.sh) ∧ Below W.heap.size W w') := Lib.hid (by
    intro W r h h2
    exact twell_any t.k t.n t.ls t.ks la ka lc kc B r W (hls.below (h.mono hB)) (hsl.below (h.mono hB)) (Nat.le_trans hB h.size) h2)
  have HW2 : Hid (∀ (W : World) (r : Nat), Below w.heap.size w W → TabAt W r → Calls Tryz.prog 36 #[.map (some r), .agg #[.int .i64 u.k, .int .i64 u.n, .slice la' u.ls.len lc', .slice ka' u.ks.len kc']] W fun e w' => e = .returned (.bool u.sh) ∧ Below W.heap.size W w') := Lib.hid (by
    intro W r h h2
    exact twell_any u.k u.n u.ls u.ks la' ka' lc' kc' B r W (hls'.below (h.mono hB)) (hsl'.below (h.mono hB)) (Nat.le_trans hB h.size) h2)
  have HRE : Hid (t.sh = true → u.sh = true → ∀ (T1 U1 r : Nat) (W : World), Below w.heap.size w W → TabAt W r → W.cell? ⟨T1, 0, none⟩ = some (.map (some r)) → W.heap[U1]? = some (.cells #[.int .i64 u.k, .int .i64 u.n, .slice la' u.ls.len lc', .slice ka' u.ks.len kc'] 30 (0, 0)) → T1 < W.heap.size →
      Calls Tryz.prog 60 #[.map (some r), .agg #[.int .i64 t.k, .int .i64 t.n, .slice la t.ls.len lc, .slice ka t.ks.len kc], .int .i64 0, .func (.func 93) #[] #[.pointer (some ⟨T1, 0, none⟩), .pointer (some ⟨U1, 0, none⟩)]] W (TmPost B (rep1 (gO u) t.k t.n t.ls t.ks 0) W)) := Lib.hid (by
    intro h1 h2 T1 U1 r W h hT hc hU hlt
    have hBW := Nat.le_trans hB h.size
    exact treplaced_any 93 (.inr rfl) (.pointer (some ⟨T1, 0, none⟩)) (.pointer (some ⟨U1, 0, none⟩)) (gO u) B r (OpAt T1 U1 r B u la' lc' ka' kc') (fun W W' h hb => h.later hb)
      (fun n b W hW hT _ h3 h4 h5 h6 => topen1_any T1 U1 r B u la' lc' ka' kc' n b W hW hT (wf_of_sh h2) (sh_small h2).1 h3 h4 h5 h6) (t.ks.size + 1) t.ks (Nat.lt_succ_self _) (sh_small h1).1 t.k t.n 0 t.ls la ka lc kc W (wf_of_sh h1) (by omega) (by have := (sh_small h1).1; omega) (hls.below (h.mono hB)) (hsl.below (h.mono hB)) hBW hT
      ⟨hc, hU, hls'.below (h.mono hB), hsl'.below (h.mono hB), hlt, hBW⟩)
  have HNO : Hid (t.sh = false ∨ u.sh = false → openA t u = (tZ, 1)) := Lib.hid openA_no
  have HYES : Hid (t.sh = true → u.sh = true → openA t u = fin1 (rep1 (gO u) t.k t.n t.ls t.ks 0)) := Lib.hid openA_yes
  generalize t.sh = x at HW1 HRE HNO HYES
  generalize u.sh = y at HW2 HRE HNO HYES
  generalize rep1 (gO u) t.k t.n t.ls t.ks 0 = T at HRE HYES
  generalize openA t u = A at HNO HYES
  clear hls hsl hls' hsl' hb hT0 hU0 hZ0 hs0
  have hbad : Hid (∀ w3 : World, Below w.heap.size w w3 → A = (tZ, 1) → LePost A w (.returned (.tuple #[.agg #[.int .i64 0, .int .i64 0, .slice none 0 0, .slice none 0 0], .int .i64 1])) ((((w3.setCell ⟨w.heap.size + 1 + 1, 0, none⟩ (.int .i64 0)).setCell ⟨w.heap.size + 1 + 1, 1, none⟩ (.int .i64 0)).setCell ⟨w.heap.size + 1 + 1, 2, none⟩ (.slice none 0 0)).setCell ⟨w.heap.size + 1 + 1, 3, none⟩ (.slice none 0 0))) := Lib.hid (by
    rintro w3 h rfl
    exact LePost.store (R := w.heap.size + 1 + 1) (T := tZ) (E := 1) (w := w) (w3 := w3) (P := fun _ => False) (la := none) (lc := 0) (x := none) (c := 0) (fun _ h => h.elim) (SlIn.none _ _) (TlIn.none _ _) h (by omega))
  go_enter Tryz.func76, Tryz.ntmps76
  go_wp2_with fail
  refine (tkinds_any _).mono ?_
  rintro e w1 ⟨rfl, hT, hb1⟩
  rw [HS0.out] at hT hb1 ⊢
  have hz1 : w.heap.size + 1 + 1 < w1.heap.size := by have h1 := hb1.size; rw [HS0.out] at h1; omega
  have HB1 := Lib.hid (Below.step HB.out (by rw [HS0.out]; exact hb1) (Nat.le_refl _))
  have HB1A := Lib.hid (HB1.out.alloc HB1.out.size (.cells #[.map (some (w.heap.size + 1 + 1 + 1))] 77))
  have HO1 : Hid (OpF w (w1.alloc (.cells #[.map (some (w.heap.size + 1 + 1 + 1))] 77)) w1.heap.size (w.heap.size + 1 + 1 + 1) (.cells #[.int .i64 t.k, .int .i64 t.n, .slice la t.ls.len lc, .slice ka t.ks.len kc] 30 (0, 0)) (.cells #[.int .i64 u.k, .int .i64 u.n, .slice la' u.ls.len lc', .slice ka' u.ks.len kc'] 30 (0, 0)) (.cells #[.int .i64 0, .int .i64 0, .slice none 0 0, .slice none 0 0] 30 (0, 0)) (.cells #[.map (some (w.heap.size + 1 + 1 + 1))] 77 (0, 0))) :=
    Lib.hid ⟨(heap_old w1 _ (by omega : w.heap.size < w1.heap.size)).trans ((hb1.block _ (by omega)).trans HT0.out), (heap_old w1 _ (by omega : w.heap.size + 1 < w1.heap.size)).trans ((hb1.block _ (by omega)).trans HU0.out), (heap_old w1 _ hz1).trans ((hb1.block _ (by omega)).trans HZ0.out), heap_new w1 _, hT.alloc _, HB1A.out, by omega⟩
  obtain ⟨q0, q1, q2, q3⟩ := cells4 HO1.out.t
  have x1 := cell_at HO1.out.x 0
  simp only [List.getElem?_toArray, List.getElem?_cons_zero] at x1
  clear hT hb1 HB1 HB1A HT0 HU0 HZ0
  go_wp2_with fail
  refine (HW1.out _ _ HO1.out.bel HO1.out.tab).mono ?_
  rintro e w2 ⟨rfl, hb2⟩
  have HO2 := Lib.hid (HO1.out.later hb2)
  have hzz : w.heap.size + 1 + 1 < w2.heap.size := lt_of_block HO2.out.z
  have hxx : w1.heap.size < w2.heap.size := lt_of_block HO2.out.x
  clear q0 q1 q2 q3 x1 hb2 HO1
  cases x with
  | false =>
    have HA := Lib.hid (HNO.out (.inl rfl))
    obtain ⟨g0, g1, g2, g3⟩ := cells4 HO2.out.z
    have gz := free_of HO2.out.z
    go_wp2_with fail
    refine bodyPost_ret (v := .tuple #[.agg #[.int .i64 0, .int .i64 0, .slice none 0 0, .slice none 0 0], .int .i64 1]) (by simp [results, Tryz.results76, go_sem, g0, g1, g2, g3]) rfl ?_
    exact hbad.out _ HO2.out.bel HA.out
  | true =>
    obtain ⟨q0, q1, q2, q3⟩ := cells4 HO2.out.u
    have x2 := cell_at HO2.out.x 0
    simp only [List.getElem?_toArray, List.getElem?_cons_zero] at x2
    go_wp2_with fail
    refine (HW2.out _ _ HO2.out.bel HO2.out.tab).mono ?_
    rintro e w3 ⟨rfl, hb3⟩
    have HO3 := Lib.hid (HO2.out.later hb3)
    have hzz3 : w.heap.size + 1 + 1 < w3.heap.size := lt_of_block HO3.out.z
    have hxx3 : w1.heap.size < w3.heap.size := lt_of_block HO3.out.x
    clear q0 q1 q2 q3 x2 hb3 HO2
    cases y with
    | false =>
      have HA := Lib.hid (HNO.out (.inr rfl))
      obtain ⟨g0, g1, g2, g3⟩ := cells4 HO3.out.z
      have gz := free_of HO3.out.z
      go_wp2_with fail
      refine bodyPost_ret (v := .tuple #[.agg #[.int .i64 0, .int .i64 0, .slice none 0 0, .slice none 0 0], .int .i64 1]) (by simp [results, Tryz.results76, go_sem, g0, g1, g2, g3]) rfl ?_
      exact hbad.out _ HO3.out.bel HA.out
    | true =>
      have HA := Lib.hid (HYES.out (by first | rfl | trivial) (by first | rfl | trivial))
      have HO3D := Lib.hid (HO3.out.later (Below.refl w3.heap.size w3).drew)
      have HC := Lib.hid (HRE.out (by first | rfl | trivial) (by first | rfl | trivial) w1.heap.size (w.heap.size + 1) (w.heap.size + 1 + 1 + 1) w3.drew HO3D.out.bel HO3D.out.tab (cell_at HO3D.out.x 0) HO3D.out.u hxx3)
      obtain ⟨e0, e1, e2, e3, e4⟩ := opHeld HO3D.out
      clear HNO HYES HRE HW1 HW2 hbad
      go_wp2_with fail
      go_region_held3 (fun w' => w'.cell? ⟨w1.heap.size, 0, none⟩ = some (.map (some (w.heap.size + 1 + 1 + 1))) ∧ w'.cell? ⟨w.heap.size, 0, none⟩ = some (.int .i64 t.k) ∧ w'.cell? ⟨w.heap.size, 1, none⟩ = some (.int .i64 t.n) ∧ w'.cell? ⟨w.heap.size, 2, none⟩ = some (.slice la t.ls.len lc) ∧ w'.cell? ⟨w.heap.size, 3, none⟩ = some (.slice ka t.ks.len kc))
        (first | exact ⟨e0, e1, e2, e3, e4⟩ | exact opHeld HO4.out | exact opHeld HO5.out | exact opHeldS HO5.out)
        (first
          | (go_at_call 60; refine HC.out.mono ?_; rintro e w4 ⟨x1, y1, x2, y2, rfl, hl4, hs4, hb4⟩; have HO4 := Lib.hid (HO3D.out.later hb4); have HL4 := Lib.hid hl4; have HS4 := Lib.hid hs4; clear hl4 hs4 hb4)
          | (go_at_call 38; refine (tfin_any T x1 x2 y1 y2 w4.heap.size (w.heap.size + 1 + 1 + 1) w4 (HL4.out.weak (fun b h => h.2)) (HS4.out.weak (fun b h => h.2)) (Nat.le_refl _) HO4.out.tab).mono ?_; rw [← HA.out]; rintro e w5 ⟨u1, v1, u2, v2, rfl, hl5, hs5, hb5⟩; have HO5 := Lib.hid (HO4.out.later hb5); obtain ⟨g0, g1, g2, g3⟩ := cells4 HO5.out.z; have gz := free_of HO5.out.z; have hz5 := lt_of_block HO5.out.z; have HL5 := Lib.hid hl5; have HS5 := Lib.hid hs5; have hz4 := Lib.hid (lt_of_block HO4.out.z); clear hl5 hs5 hb5))
      have HE := Lib.hid (LePost.store (R := w.heap.size + 1 + 1) (T := A.1) (E := A.2) (w := w) (w3 := w5) (P := fun b => w4.heap.size ≤ b ∧ b < w5.heap.size) (fun b h => ⟨h.2, by have := hz4.out; omega, by have := hz4.out; omega⟩) HL5.out HS5.out HO5.out.bel (by omega))
      go_wp2_with fail
      refine bodyPost_ret (v := .tuple #[.agg #[.int .i64 A.1.k, .int .i64 A.1.n, .slice u1 A.1.ls.len v1, .slice u2 A.1.ks.len v2], .int .i64 A.2]) (by simp [results, Tryz.results76, go_sem, g0, g1, g2, g3]) rfl ?_
      exact HE.out
end Go.Proofs.YtnfhpombnbpdcaaGreat
