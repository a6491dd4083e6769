/- Tright0. No condition but those that stand in each statement. -/
import Derived.Test.YtnfhpombnbpdcaaGreatZQ20
namespace Go.Proofs.YtnfhpombnbpdcaaGreat
open Go.RowKit
set_option maxRecDepth 100000 in
set_option maxHeartbeats 4000000 in
theorem tright_any (p m v k n : Int) (ls : Fo) (f : Ft) (la ka : Option Addr) (lc kc B r : Nat) (w : World) (hls : SlIn w (· < B) ls la lc) (hsl : TlIn w (· < B) f ka kc) (hB : B ≤ w.heap.size) (hm : TabAt w r) :
    Calls Tryz.prog 33 #[.map (some r), .agg #[.int .i64 k, .int .i64 n, .slice la ls.len lc, .slice ka f.len kc], .int .i64 v, .int .i64 p, .int .i64 m] w fun e w' => e = .returned (.bool (tRightB p m v k n ls f)) ∧ Below w.heap.size w w' := by
  have hr := hm.lt
  have HM := Lib.hid hm
  clear hm
  by_cases h1 : v < 0
  · rw [tRightB_out k n ls f (by omega)]
    go_enter Tryz.func33, Tryz.ntmps33
    go_wp2_with fail
    go_ret
    exact ⟨rfl, (Below.refl _ _).alloc (Nat.le_refl _) _⟩
  · by_cases h2 : 1000 < v
    · rw [tRightB_out k n ls f (by omega)]
      go_enter Tryz.func33, Tryz.ntmps33
      go_wp2_with fail
      go_ret
      exact ⟨rfl, (Below.refl _ _).alloc (Nat.le_refl _) _⟩
    · by_cases h3 : p < 0
      · rw [tRightB_out k n ls f (by omega)]
        go_enter Tryz.func33, Tryz.ntmps33
        go_wp2_with fail
        go_ret
        exact ⟨rfl, (Below.refl _ _).alloc (Nat.le_refl _) _⟩
      · by_cases h4 : 5 < p
        · rw [tRightB_out k n ls f (by omega)]
          go_enter Tryz.func33, Tryz.ntmps33
          go_wp2_with fail
          go_ret
          exact ⟨rfl, (Below.refl _ _).alloc (Nat.le_refl _) _⟩
        · by_cases h5 : m < 0
          · rw [tRightB_out k n ls f (by omega)]
            go_enter Tryz.func33, Tryz.ntmps33
            go_wp2_with fail
            go_ret
            exact ⟨rfl, (Below.refl _ _).alloc (Nat.le_refl _) _⟩
          · by_cases h6 : 10 < m
            · rw [tRightB_out k n ls f (by omega)]
              go_enter Tryz.func33, Tryz.ntmps33
              go_wp2_with fail
              go_ret
              exact ⟨rfl, (Below.refl _ _).alloc (Nat.le_refl _) _⟩
            · rw [tRightB_c k n ls f (by omega)]
              go_enter Tryz.func33, Tryz.ntmps33
              go_wp2_with fail
              have hb : Below w.heap.size w ((w.alloc (.cells #[.int .i64 k, .int .i64 n, .slice la ls.len lc, .slice ka f.len kc] 30)).alloc (.cells #[.map (some r), .int .i64 p, .int .i64 m, .int .i64 600] 97)) := ((Below.refl _ _).alloc (Nat.le_refl _) _).alloc (by simp) _
              have hat : TkAt ((w.alloc (.cells #[.int .i64 k, .int .i64 n, .slice la ls.len lc, .slice ka f.len kc] 30)).alloc (.cells #[.map (some r), .int .i64 p, .int .i64 m, .int .i64 600] 97)) (w.heap.size + 1) r p m ((600 : Nat) : Int) :=
                ⟨by have := heap_new (w.alloc (.cells #[.int .i64 k, .int .i64 n, .slice la ls.len lc, .slice ka f.len kc] 30)) (.cells #[.map (some r), .int .i64 p, .int .i64 m, .int .i64 600] 97); simpa using this, HM.out.below hb hr, by omega⟩
              refine (tcright_any p m (f.size + 1) f (Nat.lt_succ_self _) k n v ls 30 600 la ka lc kc B (w.heap.size + 1) r _ (hls.below (hb.mono hB)) (hsl.below (hb.mono hB)) (by omega) (by omega) (by omega) (by omega) (by omega) hat).mono ?_
              rintro e w2 ⟨rfl, _, hg⟩
              have hg' := Lib.hid hg
              go_wp2_with fail
              go_ret
              exact ⟨rfl, ((hb.trans (Below.mk hg.os hg.tape hg.output hg.size (fun i hi => Only.block hg (by simp; omega) (by omega)))))⟩
theorem tRHeld {B : Nat} {W w' : World} {N : Nat} {x0 x1 x2 x3 : Value} (h : Below B W w') (hN : N < B) (q0 : W.cell? ⟨N, 0, none⟩ = some x0) (q1 : W.cell? ⟨N, 1, none⟩ = some x1) (q2 : W.cell? ⟨N, 2, none⟩ = some x2) (q3 : W.cell? ⟨N, 3, none⟩ = some x3) :
    Hid (Below B W w') ∧ w'.cell? ⟨N, 0, none⟩ = some x0 ∧ w'.cell? ⟨N, 1, none⟩ = some x1 ∧ w'.cell? ⟨N, 2, none⟩ = some x2 ∧ w'.cell? ⟨N, 3, none⟩ = some x3 :=
  ⟨Lib.hid h, (bcell h _ _ hN).trans q0, (bcell h _ _ hN).trans q1, (bcell h _ _ hN).trans q2, (bcell h _ _ hN).trans q3⟩
set_option maxRecDepth 100000 in
set_option maxHeartbeats 2000000 in
theorem tRight_any (p m v k n : Int) (ls : Fo) (f : Ft) (la ka : Option Addr) (lc kc B : Nat) (w : World) (hls : SlIn w (· < B) ls la lc) (hsl : TlIn w (· < B) f ka kc) (hB : B ≤ w.heap.size) :
    Calls Tryz.prog 24 #[.agg #[.int .i64 k, .int .i64 n, .slice la ls.len lc, .slice ka f.len kc], .int .i64 v, .int .i64 p, .int .i64 m] w fun e w' => e = .returned (.bool (tRightB p m v k n ls f)) ∧ Below w.heap.size w w' := by
  have HR : Hid (∀ (W : World) (r : Nat), Below w.heap.size w W → TabAt W r → Calls Tryz.prog 33 #[.map (some r), .agg #[.int .i64 k, .int .i64 n, .slice la ls.len lc, .slice ka f.len kc], .int .i64 v, .int .i64 p, .int .i64 m] W fun e w' => e = .returned (.bool (tRightB p m v k n ls f)) ∧ Below W.heap.size W w') := Lib.hid (by
    intro W r h h2
    exact tright_any p m v k n ls f la ka lc kc B r W (hls.below (h.mono hB)) (hsl.below (h.mono hB)) (Nat.le_trans hB h.size) h2)
  generalize tRightB p m v k n ls f = x at HR
  have hb : Below w.heap.size w (w.alloc (.cells #[.int .i64 k, .int .i64 n, .slice la ls.len lc, .slice ka f.len kc] 30)).drew := ((Below.refl _ _).alloc (Nat.le_refl _) _).drew
  have hnew := heap_new w (.cells #[.int .i64 k, .int .i64 n, .slice la ls.len lc, .slice ka f.len kc] 30)
  obtain ⟨q0, q1, q2, q3⟩ := cells4 hnew
  have HB := Lib.hid hb
  clear hls hsl hnew hb
  go_enter Tryz.func24, Tryz.ntmps24
  go_wp2_with fail
  go_region_held3 (fun w' => Hid (Below (w.heap.size + 1) (w.alloc (.cells #[.int .i64 k, .int .i64 n, .slice la ls.len lc, .slice ka f.len kc] 30)).drew w') ∧ w'.cell? ⟨w.heap.size, 0, none⟩ = some (.int .i64 k) ∧ w'.cell? ⟨w.heap.size, 1, none⟩ = some (.int .i64 n) ∧ w'.cell? ⟨w.heap.size, 2, none⟩ = some (.slice la ls.len lc) ∧ w'.cell? ⟨w.heap.size, 3, none⟩ = some (.slice ka f.len kc))
    (first | exact ⟨Lib.hid (Below.refl _ _), q0, q1, q2, q3⟩ | (go_split_ands; exact tRHeld (Below.step (Hid.out (by assumption)) hbN (by simp)) (Nat.lt_succ_self _) q0 q1 q2 q3))
    (first | (go_at_call 34; go_split_ands; refine (tkinds_any _).mono ?_; rintro e wN ⟨rfl, hT, hbN⟩; have HT : Hid (TabAt wN (w.heap.size + 1)) := Lib.hid (by simpa using hT); clear hT) | (go_at_call 33; go_split_ands; refine (HR.out wN (w.heap.size + 1) (HB.out.trans (Below.mono (Hid.out (by assumption)) (Nat.le_succ _))) HT.out).mono ?_; rintro e wN ⟨rfl, hbN⟩))
  all_goals go_split_ands
  all_goals have hEE := Lib.hid (HB.out.trans (Below.mono (Hid.out (by assumption : Hid (Below (w.heap.size + 1) (w.alloc (.cells #[.int .i64 k, .int .i64 n, .slice la ls.len lc, .slice ka f.len kc] 30)).drew wN))) (Nat.le_succ _)))
  all_goals go_wp2_with fail
  all_goals go_ret
  all_goals exact ⟨rfl, hEE.out⟩
end Go.Proofs.YtnfhpombnbpdcaaGreat
