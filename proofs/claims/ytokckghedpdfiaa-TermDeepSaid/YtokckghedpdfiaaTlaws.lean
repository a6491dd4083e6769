/- The contracts of the law's own Var, Sort, Bind, and of Few. No condition but those that stand in each statement. -/
import Derived.Test.YtokckghedpdfiaaTmix
import Derived.Test.YtokckghedpdfiaaNodes
namespace Go.Proofs.Ytokckghedpdfiaa
open Go.RowKit

set_option maxRecDepth 100000 in
set_option maxHeartbeats 1000000 in
theorem tVar_any (n : Int) (w : World) : Calls Try.prog 13 #[.int .i64 n] w fun e w' => e = .returned (.agg #[.int .i64 1, .int .i64 n, .slice none 0 0, .slice none 0 0]) ∧ Below w.heap.size w w' := by
  go_enter Try.func13, Try.ntmps13
  go_wp2_with fail
  refine bodyPost_ret (v := .agg #[.int .i64 1, .int .i64 n, .slice none 0 0, .slice none 0 0]) (by simp [results, Try.results13, go_sem]) rfl ?_
  exact ⟨rfl, (Below.refl _ _).alloc (Nat.le_refl _) _⟩
set_option maxRecDepth 100000 in
set_option maxHeartbeats 1000000 in
theorem tBind_any (k : Int) (a : Option Addr) (len cap : Nat) (w : World) : Calls Try.prog 12 #[.int .i64 k, .slice a len cap] w fun e w' => e = .returned (.agg #[.int .i64 k, .int .i64 0, .slice none 0 0, .slice a len cap]) ∧ Below w.heap.size w w' := by
  go_enter Try.func12, Try.ntmps12
  go_wp2_with fail
  refine bodyPost_ret (v := .agg #[.int .i64 k, .int .i64 0, .slice none 0 0, .slice a len cap]) (by simp [results, Try.results12, go_sem]) rfl ?_
  exact ⟨rfl, (Below.refl _ _).alloc (Nat.le_refl _) _⟩
/-- A Sort of a level. -/
def sortT (k n : Int) (ks : Fo) : Tm := ⟨2, 0, .cons k n ks .nil, .nil⟩
set_option maxRecDepth 100000 in
set_option maxHeartbeats 1000000 in
theorem tSort_any (k n : Int) (f : Fo) (a : Option Addr) (cap B : Nat) (w : World) (hs : SlIn w (· < B) f a cap) (hB : B ≤ w.heap.size) : Calls Try.prog 18 #[.agg #[.int .i64 k, .int .i64 n, .slice a f.len cap]] w (TmPost B (sortT k n f) w) := by
  have hb : Below w.heap.size w (((w.alloc (.cells #[.int .i64 k, .int .i64 n, .slice a f.len cap] 33)).alloc (.cells #[.int .i64 2, .int .i64 0, .slice (some ⟨w.heap.size + 1 + 1, 0, none⟩) 1 1, .slice none 0 0] 25)).alloc (.cells #[.int .i64 k, .int .i64 n, .slice a f.len cap] 33)) := (((Below.refl _ _).alloc (Nat.le_refl _) _).alloc (by simp) _).alloc (by simp; omega) _
  have hn := heap_second (w.alloc (.cells #[.int .i64 k, .int .i64 n, .slice a f.len cap] 33)) (.cells #[.int .i64 2, .int .i64 0, .slice (some ⟨w.heap.size + 1 + 1, 0, none⟩) 1 1, .slice none 0 0] 25) (.cells #[.int .i64 k, .int .i64 n, .slice a f.len cap] 33)
  have HB := Lib.hid hb
  have HN := Lib.hid hn
  have HS := Lib.hid hs
  clear hb hn hs
  go_enter Try.func18, Try.ntmps18
  go_wp2_with fail
  refine bodyPost_ret (v := .agg #[.int .i64 2, .int .i64 0, .slice (some ⟨w.heap.size + 1 + 1, 0, none⟩) 1 1, .slice none 0 0]) (by simp [results, Try.results18, go_sem]) rfl ?_
  have hn := HN.out
  simp only [World.size_alloc] at hn
  obtain ⟨c0, c1, c2⟩ := cells3 hn
  refine ⟨some ⟨w.heap.size + 1 + 1, 0, none⟩, 1, none, 0, rfl, ?_, TlIn.none _ _, HB.out⟩
  refine SlIn.mk (by simp [sortT, Fo.len]) (by omega) ⟨by omega, by simp⟩ (FoIn.push c0 c1 c2 ?_ trivial)
  exact (HS.out.below (HB.out.mono hB)).weak (fun b hb => ⟨.inl hb, by simp; omega⟩)

/-- Few, as a plain function: so many, less the levels, less the Kids. -/
def fewL : Fo → Int → Int
  | .nil, m => m
  | .cons _ _ ks r, m => if 0 < m then fewL r (m - nodesF ks m 1) else m
def fewF : Ft → Int → Int
  | .nil, m => m
  | .cons _ _ ls ks r, m => if 0 < m then fewF r (fewF ks (fewL ls (m - 1))) else m
def few1 (ls : Fo) (ks : Ft) (m : Int) : Int := fewF ks (fewL ls (m - 1))
theorem fewL_eq : ∀ (f : Fo) (m : Int), fewL f m ≤ m ∧ (0 < fewL f m → fewL f m = m - f.size)
  | .nil, m => by simp [fewL, Fo.size]
  | .cons k n ks r, m => by
    unfold fewL
    split
    · rename_i h
      have h1 := nodesF_eq ks m 1 (by omega) (by omega)
      have ih := fewL_eq r (m - nodesF ks m 1)
      simp only [Fo.size]
      refine ⟨by omega, fun h2 => ?_⟩
      have h3 := ih.2 h2
      omega
    · exact ⟨Int.le_refl _, fun h => by omega⟩
theorem fewF_eq : ∀ (f : Ft) (m : Int), fewF f m ≤ m ∧ (0 < fewF f m → fewF f m = m - f.bulk)
  | .nil, m => by simp [fewF, Ft.bulk]
  | .cons k n ls ks r, m => by
    unfold fewF
    split
    · rename_i h
      have h1 := fewL_eq ls (m - 1)
      have h2 := fewF_eq ks (fewL ls (m - 1))
      have h3 := fewF_eq r (fewF ks (fewL ls (m - 1)))
      simp only [Ft.bulk]
      refine ⟨by omega, fun h4 => ?_⟩
      have h5 := h3.2 h4
      have h6 := h2.2 (by omega)
      have h7 := h1.2 (by omega)
      omega
    · exact ⟨Int.le_refl _, fun h => by omega⟩
theorem few1_yes {ls : Fo} {ks : Ft} (h : 0 < few1 ls ks 1000) : ls.size ≤ 1000 ∧ ks.bulk ≤ 1000 := by
  unfold few1 at h
  have h1 := fewL_eq ls (1000 - 1)
  have h2 := fewF_eq ks (fewL ls (1000 - 1))
  have h3 := h2.2 h
  have h4 := h1.2 (by omega)
  omega
theorem fewL_stop (k n : Int) (ks r : Fo) {m : Int} (h : ¬ 0 < m) : fewL (.cons k n ks r) m = m := if_neg h
theorem fewL_go (k n : Int) (ks r : Fo) {m : Int} (h : 0 < m) : fewL (.cons k n ks r) m = fewL r (m - nodesF ks m 1) := if_pos h
theorem fewF_stop (k n : Int) (ls : Fo) (ks r : Ft) {m : Int} (h : ¬ 0 < m) : fewF (.cons k n ls ks r) m = m := if_neg h
theorem fewF_go (k n : Int) (ls : Fo) (ks r : Ft) {m : Int} (h : 0 < m) : fewF (.cons k n ls ks r) m = fewF r (few1 ls ks m) := if_pos h
theorem fewL_low : ∀ (f : Fo) (m : Int), -1000 ≤ m → m ≤ 1000 → -1000 ≤ fewL f m
  | .nil, _, h, _ => h
  | .cons k n ks r, m, h, h' => by
    unfold fewL
    split
    · rename_i hm
      have h1 := nodesF_eq ks m 1 (by omega) (by omega)
      exact fewL_low r _ (by omega) (by omega)
    · exact h
theorem fewF_low : ∀ (f : Ft) (m : Int), -1000 ≤ m → m ≤ 1000 → -1000 ≤ fewF f m
  | .nil, _, h, _ => h
  | .cons k n ls ks r, m, h, h' => by
    unfold fewF
    split
    · rename_i hm
      have a := fewL_eq ls (m - 1)
      have b := fewL_low ls (m - 1) (by omega) (by omega)
      have c := fewF_eq ks (fewL ls (m - 1))
      have d := fewF_low ks (fewL ls (m - 1)) b (by omega)
      exact fewF_low r _ d (by omega)
    · exact h
set_option maxRecDepth 100000 in
set_option maxHeartbeats 4000000 in
theorem tfew_any (s : Nat) : ∀ (f : Ft), f.size < s → ∀ (k n m : Int) (ls : Fo) (la ka : Option Addr) (lc kc B : Nat) (w : World), SlIn w (· < B) ls la lc → TlIn w (· < B) f ka kc → B ≤ w.heap.size → 1 ≤ m → m ≤ 1000 →
    Calls Try.prog 9 #[.agg #[.int .i64 k, .int .i64 n, .slice la ls.len lc, .slice ka f.len kc], .int .i64 m] w fun e w' => e = .returned (.int .i64 (few1 ls f m)) ∧ Below w.heap.size w w' := by
  induction s with
  | zero => intro f hs; omega
  | succ s ih =>
    intro f hs k n m ls la ka lc kc B w hls hsl hB h1 h2
    have IH := Lib.hid ih
    clear ih
    have hlen := hsl.len
    have hlen2 := hls.len
    have HFW : Hid (few1 ls f m = fewF f (fewL ls (m - 1))) := Lib.hid rfl
    generalize few1 ls f m = res at HFW
    go_enter Try.func9, Try.ntmps9
    go_wp2_with fail
    go_loopw [1, 5] (fun mm i wr => ∃ (j : Nat) (r : Fo) (q : Int), i = .int .i64 j ∧ mm = .int .i64 q ∧ -1000 ≤ q ∧ q ≤ 1000 ∧ Hid (j + r.len = ls.len) ∧ Hid (∀ b o, la = some ⟨b, o, none⟩ → FoIn w (· < B) r b (o + j * 3)) ∧ Hid (fewL r q = fewL ls (m - 1)) ∧
        Hid (Below (w.heap.size + 1) (w.alloc (.cells #[.int .i64 k, .int .i64 n, .slice la ls.len lc, .slice ka f.len kc] 25)) wr))
      (fun _ i _ => ls.len - (intOf i).toNat)
    case atStart => exact ⟨0, ls, m - 1, rfl, rfl, by omega, by omega, Lib.hid (by omega), Lib.hid (by rintro b o rfl; simpa using hls.foIn), Lib.hid rfl, Lib.hid (Below.refl _ _)⟩
    case round =>
      obtain ⟨j, r, q, rfl, rfl, hq0, hq1, hj, hin, hfew, hb⟩ := hrel
      have c2 := bcell hb.out w.heap.size 2 (by omega)
      have c3 := bcell hb.out w.heap.size 3 (by omega)
      simp at c2 c3
      have hwW : Hid (Below w.heap.size w wr) := Lib.hid (Below.trans ((Below.refl _ _).alloc (Nat.le_refl _) _) (hb.out.mono (by omega)))
      have hwB : Below B w wr := hwW.out.mono hB
      have hnext : (¬ ((j : Int) < (ls.len : Int) ∧ 0 < q)) → fewL ls (m - 1) = q := fun h => by
        rw [← hfew.out]
        cases r with
        | nil => rfl
        | cons k' n' ks r' =>
          have hlt : (j : Int) < (ls.len : Int) := by have := hj.out; simp [Fo.len] at this; omega
          exact fewL_stop k' n' ks r' (fun h0 => h ⟨hlt, h0⟩)
      have HNEXT := Lib.hid hnext
      clear hnext
      by_cases hgo : (j : Int) < (ls.len : Int) ∧ 0 < q
      · obtain ⟨hlt, hq⟩ := hgo
        cases r with
        | nil => have := hj.out; simp [Fo.len] at this; omega
        | cons k' n' ks r' =>
          obtain ⟨b, o, rfl, hbB, hf0⟩ := hls.some (by omega)
          obtain ⟨e0, e1, ⟨a', cap', e2, hsl'⟩, _⟩ := (hin.out b o rfl).below hwB _ _ _ hbB |>.first
          have HG := Lib.hid (fewL_go k' n' ks r' hq)
          have hv := nodesF_eq ks q 1 (by omega) (by omega)
          have hv1 : 1 ≤ nodesF ks q 1 := by omega
          have hv2 : nodesF ks q 1 ≤ q := by omega
          have HC := Lib.hid (nodes_any (ks.size + 1) ks (Nat.lt_succ_self _) k' n' q a' cap' B wr hsl' (Nat.le_trans hB hwW.out.size) (by omega) hq1)
          generalize nodesF ks q 1 = nn at HC HG hv1 hv2
          clear hv hsl' hf0
          go_wp2_with fail
          refine HC.out.mono ?_
          rintro e w2 ⟨rfl, hb2⟩
          have hb' := Lib.hid (Below.step hb.out hb2 (by simp))
          clear hb2 HC
          go_wp2_with fail
          go_roundw
          case rel => exact ⟨j + 1, r', _, by go_num, rfl, by omega, by omega, Lib.hid (by have := hj.out; simp [Fo.len] at this; omega), Lib.hid (by rintro b' o' h; cases h; have := (hin.out b o rfl).2.2.2; rwa [show o + (j + 1) * 3 = o + j * 3 + 3 by omega]), Lib.hid (by rw [← hfew.out, HG.out]), hb'⟩
          case measure => simp [intOf]; omega
      · have HQ := Lib.hid (HNEXT.out hgo)
        have W1 : ∃ W, W = wr := ⟨_, rfl⟩
        obtain ⟨W, hW⟩ := W1
        rw [← hW] at c2 c3 hb hwW ⊢
        have HBW := hb
        clear hfew hin hwB hb HNEXT hW
        have hways : (∃ _ : (j : Int) < (ls.len : Int), ¬ 0 < q) ∨ ¬ (j : Int) < (ls.len : Int) := by
          by_cases h1 : (j : Int) < (ls.len : Int)
          · exact .inl ⟨h1, fun h => hgo ⟨h1, h⟩⟩
          · exact .inr h1
        clear hgo
        rcases hways with ⟨hlt, hnq⟩ | hnl
        all_goals
          first
            | (have d1 : decide ((j : Int) < (ls.len : Int)) = true := decide_eq_true hlt
               have d2 : decide (0 < q) = false := decide_eq_false hnq)
            | (have d1 : decide ((j : Int) < (ls.len : Int)) = false := decide_eq_false hnl)
          go_wp2_with fail
          clear c2 c3
          go_loopw [1, 6] (fun mm i wr => ∃ (j : Nat) (r : Ft) (x : Int), i = .int .i64 j ∧ mm = .int .i64 x ∧ -1000 ≤ x ∧ x ≤ 1000 ∧ Hid (j + r.len = f.len) ∧ Hid (r.size ≤ f.size) ∧ Hid (∀ b o, ka = some ⟨b, o, none⟩ → FtIn w (· < B) r b (o + j * 4)) ∧ Hid (fewF r x = fewF f q) ∧
              Hid (Below (w.heap.size + 1) (w.alloc (.cells #[.int .i64 k, .int .i64 n, .slice la ls.len lc, .slice ka f.len kc] 25)) wr))
            (fun _ i _ => f.len - (intOf i).toNat)
          case atStart => exact ⟨0, f, q, rfl, rfl, hq0, hq1, Lib.hid (by omega), Lib.hid (Nat.le_refl _), Lib.hid (by rintro b o rfl; simpa using hsl.ftIn), Lib.hid rfl, HBW⟩
          case round =>
            first | clear hlt hnq d2 | clear hnl
            clear d1 hq0 hq1 hj hwW HBW
            obtain ⟨j, r, x, rfl, rfl, hx0, hx1, hj, hrs, hin, hfew, hb⟩ := hrel
            have c3 := bcell hb.out w.heap.size 3 (by omega)
            simp at c3
            have hwW : Hid (Below w.heap.size w wr) := Lib.hid (Below.trans ((Below.refl _ _).alloc (Nat.le_refl _) _) (hb.out.mono (by omega)))
            have hwB : Below B w wr := hwW.out.mono hB
            have HRES : Hid (res = fewF r x) := Lib.hid (by rw [HFW.out, HQ.out, hfew.out])
            cases r with
            | nil =>
              have hlt : ¬ (j : Int) < (f.len : Int) := by have := hj.out; simp [Ft.len] at this; omega
              have d' : decide ((j : Int) < (f.len : Int)) = false := by simpa using hlt
              go_wp2_with fail
              go_ret
              exact ⟨by rw [HRES.out]; rfl, hwW.out⟩
            | cons k' n' ls' ks r' =>
              have hlt : j < f.len := by have := hj.out; simp [Ft.len] at this; omega
              have hlt' : (j : Int) < (f.len : Int) := by omega
              by_cases hq : 0 < x
              · obtain ⟨b, o, rfl, hbB, hf0⟩ := hsl.some (by omega)
                obtain ⟨e0, e1, ⟨la', lc', e2, hls'⟩, ⟨ka', kc', e3, hsl'⟩, _⟩ := (hin.out b o rfl).below hwB _ _ _ hbB |>.first
                have hks : ks.size < s := by have := hrs.out; simp [Ft.size] at this; omega
                have HG := Lib.hid (fewF_go k' n' ls' ks r' hq)
                have a1 := fewL_eq ls' (x - 1)
                have a2 := fewL_low ls' (x - 1) (by omega) (by omega)
                have a3 := fewF_eq ks (fewL ls' (x - 1))
                have a4 := fewF_low ks (fewL ls' (x - 1)) a2 (by omega)
                have hv1 : -1000 ≤ few1 ls' ks x := a4
                have hv2 : few1 ls' ks x ≤ 1000 := by unfold few1; omega
                have HC := Lib.hid (IH.out ks hks k' n' x ls' la' ka' lc' kc' B wr hls' hsl' (Nat.le_trans hB hwW.out.size) (by omega) hx1)
                generalize few1 ls' ks x = nn at HC HG hv1 hv2
                clear a1 a2 a3 a4 hls' hsl' hf0
                go_wp2_with fail
                refine HC.out.mono ?_
                rintro e w2 ⟨rfl, hb2⟩
                have hb' := Lib.hid (Below.step hb.out hb2 (by simp))
                clear hb2 HC
                go_wp2_with fail
                go_roundw
                case rel => exact ⟨j + 1, r', nn, by go_num, rfl, hv1, hv2, Lib.hid (by have := hj.out; simp [Ft.len] at this; omega), Lib.hid (by have := hrs.out; simp [Ft.size] at this; omega), Lib.hid (by rintro b' o' h; cases h; have := (hin.out b o rfl).2.2.2.2; rwa [show o + (j + 1) * 4 = o + j * 4 + 4 by omega]), Lib.hid (by rw [← hfew.out, HG.out]), hb'⟩
                case measure => simp [intOf]; omega
              · have d2 : decide (0 < x) = false := decide_eq_false hq
                have d1 : decide ((j : Int) < (f.len : Int)) = true := decide_eq_true hlt'
                have HS := Lib.hid (fewF_stop k' n' ls' ks r' hq)
                go_wp2_with fail
                go_ret
                exact ⟨by rw [HRES.out, HS.out]; rfl, hwW.out⟩
end Go.Proofs.Ytokckghedpdfiaa
