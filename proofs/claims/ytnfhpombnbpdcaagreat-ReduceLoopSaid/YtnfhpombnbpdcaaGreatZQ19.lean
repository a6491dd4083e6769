/- Tfits. No condition but those that stand in each statement. -/
import Derived.Deep.QuietTactic
import Derived.BigQuiet
import Derived.RegionTactic
import Derived.BigRegion
import Derived.ChangeAlike
import Derived.Test.YtnfhpombnbpdcaaGreatZQ18
import Derived.Test.YtnfhpombnbpdcaaGreatZQ7
namespace Go.Proofs.YtnfhpombnbpdcaaGreat
open Go.RowKit
theorem run_store_nilFunc' (P : Program) (w : World) (a : Addr) (m : Mode) : (store a .nilFunc m).run P w = stored P w a .nilFunc m := run_store P w a _ m rfl
theorem run_store_func' (P : Program) (w : World) (a : Addr) (m : Mode) (f : Fn) (x y : Array Value) : (store a (.func f x y) m).run P w = stored P w a (.func f x y) m := run_store P w a _ m rfl
attribute [local go_sem] run_store_nilFunc' run_store_func'
def TkAt (w : World) (C r : Nat) (p m left : Int) : Prop :=
  w.heap[C]? = some (.cells #[.map (some r), .int .i64 p, .int .i64 m, .int .i64 left] 97 (0, 0)) ∧ TabAt w r ∧ r + 4 < C
theorem TkAt.facts {w : World} {C r : Nat} {p m left : Int} (h : TkAt w C r p m left) :
    w.cell? ⟨C, 0, none⟩ = some (.map (some r)) ∧ w.cell? ⟨C, 1, none⟩ = some (.int .i64 p) ∧ w.cell? ⟨C, 2, none⟩ = some (.int .i64 m) ∧ w.cell? ⟨C, 3, none⟩ = some (.int .i64 left) ∧ w.frozen? ⟨C, 3, none⟩ = false ∧ C < w.heap.size := by
  obtain ⟨h1, _, _⟩ := h
  exact ⟨cell_at h1 0, cell_at h1 1, cell_at h1 2, cell_at h1 3, free_of h1 3, lt_of_block h1⟩
theorem TkAt.below {w w' : World} {C r : Nat} {p m left : Int} (h : TkAt w C r p m left) (hb : Below w.heap.size w w') : TkAt w' C r p m left := by
  have hlt := lt_of_block h.1
  exact ⟨(hb.block C hlt).trans h.1, h.2.1.below hb (by have := h.2.2; omega), h.2.2⟩
theorem TkAt.alloc {w : World} {C r : Nat} {p m left : Int} (h : TkAt w C r p m left) (o : Obj) : TkAt (w.alloc o) C r p m left := h.below ((Below.refl _ _).alloc (Nat.le_refl _) o)
theorem TkAt.set {w : World} {C r : Nat} {p m left : Int} (h : TkAt w C r p m left) (l : Int) : TkAt (w.setCell ⟨C, 3, none⟩ (.int .i64 l)) C r p m l := by
  obtain ⟨h1, h2, h3⟩ := h
  refine ⟨?_, h2.turn (fun b hb1 hb2 => Below.heap_setCell _ _ _ _ (by show b ≠ C; omega)), h3⟩
  simp only [World.setCell, Array.getElem?_modify, if_true, h1]; rfl
theorem quiet_more' {P : Program} {f : FuncId} {args : Array Value} {w : World} {a n : Nat} {v : Value}
    (h : Calls P f args (w.drewN (a + n)) fun e w' => e = .returned v ∧ w' = w.drewN (a + n)) :
    Calls P f args (w.drewN (a + n)) fun e w'' => e = .returned v ∧ ∃ m, w'' = w.drewN (a + m) :=
  h.mono fun _ _ ⟨he, hm⟩ => ⟨he, n, hm⟩
theorem tfits_yes {p m v k n : Int} {ls : Fo} {klen : Nat} (h1 : (klen : Int) = tkids k) (h2 : ¬ n < 0) (h3 : ¬ tlim v k ≤ n) (h4 : ¬ (ls.len : Int) < tlo k) (h5 : ¬ thi k < (ls.len : Int)) : tfitsB p m v k n ls klen = lvB p m ls := by
  unfold tfitsB
  rw [decide_eq_true h1, decide_eq_true (by omega : 0 ≤ n), decide_eq_true (by omega : n < tlim v k), decide_eq_true (by omega : tlo k ≤ (ls.len : Int)), decide_eq_true (by omega : (ls.len : Int) ≤ thi k)]
  rfl
theorem tfits_no {p m v k n : Int} {ls : Fo} {klen : Nat} (h : (klen : Int) ≠ tkids k ∨ n < 0 ∨ tlim v k ≤ n ∨ (ls.len : Int) < tlo k ∨ thi k < (ls.len : Int)) : tfitsB p m v k n ls klen = false := by
  unfold tfitsB
  rcases h with h | h | h | h | h
  · rw [decide_eq_false h]; rfl
  · rw [decide_eq_false (by omega : ¬ 0 ≤ n)]; simp
  · rw [decide_eq_false (by omega : ¬ n < tlim v k)]; simp
  · rw [decide_eq_false (by omega : ¬ tlo k ≤ (ls.len : Int))]; simp
  · rw [decide_eq_false (by omega : ¬ (ls.len : Int) ≤ thi k)]; simp
set_option maxRecDepth 100000 in
set_option maxHeartbeats 2000000 in
theorem tcfits_k (v p m left k n : Int) (la : Option Addr) (ll lc : Nat) (ka : Option Addr) (klen kc C r : Nat) (w : World) (hk : k < 1 ∨ 7 < k) (hat : TkAt w C r p m left) :
    Calls Tryz.prog 73 #[.pointer (some ⟨C, 0, none⟩), .agg #[.int .i64 k, .int .i64 n, .slice la ll lc, .slice ka klen kc], .int .i64 v] w fun e w' => e = .returned (.bool false) ∧ Below w.heap.size w w' := by
  obtain ⟨c0, c1, c2, c3, fz, hC⟩ := hat.facts
  have hat1 := hat.alloc (.cells #[.int .i64 k, .int .i64 n, .slice la ll lc, .slice ka klen kc] 30)
  have l1 := run_tlook_no (w.alloc (.cells #[.int .i64 k, .int .i64 n, .slice la ll lc, .slice ka klen kc] 30)).drew r hat1.2.1.drew k true hk
  have l2 := fun o => run_tlook_no ((w.alloc (.cells #[.int .i64 k, .int .i64 n, .slice la ll lc, .slice ka klen kc] 30)).alloc o).drew r (hat1.alloc o).2.1.drew k true hk
  simp only [if_true] at l1 l2
  clear hat1 hat
  go_enter Tryz.func73, Tryz.ntmps73
  go_wp2_with fail
  go_region
  go_wp2_with fail
  go_quiet (fail)
  go_wp2_with fail
  go_ret
  exact ⟨rfl, Below.draws (((Below.refl _ _).alloc (Nat.le_refl _) _).alloc (by simp) _).drew _⟩
theorem tfHeld {W w' : World} {N C : Nat} {x0 x1 x2 y1 y2 : Value} (h : Hid (Below W.heap.size W w')) (hC : C < N) (hN : N < W.heap.size) (q0 : W.cell? ⟨N, 0, none⟩ = some x0) (q1 : W.cell? ⟨N, 1, none⟩ = some x1) (q2 : W.cell? ⟨N, 2, none⟩ = some x2) (m1 : W.cell? ⟨C, 1, none⟩ = some y1) (m2 : W.cell? ⟨C, 2, none⟩ = some y2) :
    w'.cell? ⟨N, 0, none⟩ = some x0 ∧ w'.cell? ⟨N, 1, none⟩ = some x1 ∧ w'.cell? ⟨N, 2, none⟩ = some x2 ∧ w'.cell? ⟨C, 1, none⟩ = some y1 ∧ w'.cell? ⟨C, 2, none⟩ = some y2 :=
  ⟨(bcell h.out _ _ hN).trans q0, (bcell h.out _ _ hN).trans q1, (bcell h.out _ _ hN).trans q2, (bcell h.out _ _ (by omega)).trans m1, (bcell h.out _ _ (by omega)).trans m2⟩
set_option maxRecDepth 100000 in
set_option maxHeartbeats 4000000 in
theorem tcfits_f (v p m left k n lo hi L : Int) (K g : Nat) (ka' : Option Addr) (res : Bool) (ls : Fo) (la : Option Addr) (lc : Nat) (ka : Option Addr) (klen kc C r B : Nat) (w : World) (hg : g = 52 ∨ g = 53 ∨ g = 54)
    (hl : ∀ W : World, TabAt W r → (Instr.lookup 77 (.map (some r)) (.int .i64 k) true).run Tryz.prog W = .ok (.tuple #[.agg #[.func (.func g) #[] #[], .int .i64 lo, .int .i64 hi, .slice ka' K K], .bool true]) W)
    (hf : ∀ W : World, Calls Tryz.prog g #[.int .i64 v] W fun e w' => e = .returned (.int .i64 L) ∧ w' = W) (hat : TkAt w C r p m left) (hB : B ≤ w.heap.size) (hsl : SlIn w (· < B) ls la lc)
    (hres : res = if (klen : Int) = (K : Int) ∧ ¬ n < 0 ∧ ¬ L ≤ n ∧ ¬ (ls.len : Int) < lo ∧ ¬ hi < (ls.len : Int) then lvB p m ls else false) :
    Calls Tryz.prog 73 #[.pointer (some ⟨C, 0, none⟩), .agg #[.int .i64 k, .int .i64 n, .slice la ls.len lc, .slice ka klen kc], .int .i64 v] w fun e w' => e = .returned (.bool res) ∧ Below w.heap.size w w' := by
  obtain ⟨c0, c1, c2, c3, fz, hC⟩ := hat.facts
  have hat1 := hat.alloc (.cells #[.int .i64 k, .int .i64 n, .slice la ls.len lc, .slice ka klen kc] 30)
  have l1 := hl (w.alloc (.cells #[.int .i64 k, .int .i64 n, .slice la ls.len lc, .slice ka klen kc] 30)).drew hat1.2.1.drew
  have l2 := fun o => hl ((w.alloc (.cells #[.int .i64 k, .int .i64 n, .slice la ls.len lc, .slice ka klen kc] 30)).alloc o).drew (hat1.alloc o).2.1.drew
  have HF := Lib.hid hf
  have hend : Below w.heap.size w ((w.alloc (.cells #[.int .i64 k, .int .i64 n, .slice la ls.len lc, .slice ka klen kc] 30)).alloc (.cells #[.func (.func g) #[] #[], .int .i64 lo, .int .i64 hi, .slice ka' K K] 100)).drew := (((Below.refl _ _).alloc (Nat.le_refl _) _).alloc (by simp) _).drew
  have HE := Lib.hid hend
  have HE0 : Hid (Below w.heap.size w ((w.alloc (.cells #[.int .i64 k, .int .i64 n, .slice la ls.len lc, .slice ka klen kc] 30)).alloc (.cells #[.func (.func g) #[] #[], .int .i64 lo, .int .i64 hi, .slice ka' K K] 100))) := Lib.hid (((Below.refl _ _).alloc (Nat.le_refl _) _).alloc (by simp) _)
  have HSL := Lib.hid hsl
  have HB := Lib.hid hB
  have HAT := Lib.hid hat
  clear hat1 hat hl hf hend hsl hB
  by_cases h1 : (klen : Int) = (K : Int)
  · have d1 : ((klen : Int) != (K : Int)) = false := by rw [h1]; simp
    by_cases h2 : n < 0
    · rw [if_neg (fun h => h.2.1 h2)] at hres
      subst hres
      have d2 : decide (n < 0) = true := decide_eq_true h2
      clear h1 h2
      rcases hg with rfl | rfl | rfl
      all_goals
        go_enter Tryz.func73, Tryz.ntmps73
        go_wp2_with fail
        go_region
        go_wp2_with fail
        go_quiet (fail)
        go_wp2_with fail
        go_ret
        exact ⟨rfl, Below.draws HE.out _⟩
    · have d2 : decide (n < 0) = false := decide_eq_false h2
      by_cases h3 : L ≤ n
      · rw [if_neg (fun h => h.2.2.1 h3)] at hres
        subst hres
        have d3 : decide (L ≤ n) = true := decide_eq_true h3
        clear h1 h2 h3
        rcases hg with rfl | rfl | rfl
        all_goals
          go_enter Tryz.func73, Tryz.ntmps73
          go_wp2_with fail
          go_region
          go_wp2_with fail
          go_quiet (first | (go_at_call 52; exact quiet_more' (HF.out _)) | (go_at_call 53; exact quiet_more' (HF.out _)) | (go_at_call 54; exact quiet_more' (HF.out _)))
          go_wp2_with fail
          go_ret
          exact ⟨rfl, Below.draws HE.out _⟩
      · have d3 : decide (L ≤ n) = false := decide_eq_false h3
        by_cases h4 : (ls.len : Int) < lo
        · rw [if_neg (fun h => h.2.2.2.1 h4)] at hres
          subst hres
          have d4 : decide ((ls.len : Int) < lo) = true := decide_eq_true h4
          clear h1 h2 h3 h4
          rcases hg with rfl | rfl | rfl
          all_goals
            go_enter Tryz.func73, Tryz.ntmps73
            go_wp2_with fail
            go_region
            go_wp2_with fail
            go_quiet (first | (go_at_call 52; exact quiet_more' (HF.out _)) | (go_at_call 53; exact quiet_more' (HF.out _)) | (go_at_call 54; exact quiet_more' (HF.out _)))
            go_wp2_with fail
            go_ret
            exact ⟨rfl, Below.draws HE.out _⟩
        · have d4 : decide ((ls.len : Int) < lo) = false := decide_eq_false h4
          by_cases h5 : hi < (ls.len : Int)
          · rw [if_neg (fun h => h.2.2.2.2 h5)] at hres
            subst hres
            have d5 : decide (hi < (ls.len : Int)) = true := decide_eq_true h5
            clear h1 h2 h3 h4 h5
            rcases hg with rfl | rfl | rfl
            all_goals
              go_enter Tryz.func73, Tryz.ntmps73
              go_wp2_with fail
              go_region
              go_wp2_with fail
              go_quiet (first | (go_at_call 52; exact quiet_more' (HF.out _)) | (go_at_call 53; exact quiet_more' (HF.out _)) | (go_at_call 54; exact quiet_more' (HF.out _)))
              go_wp2_with fail
              go_ret
              exact ⟨rfl, Below.draws HE.out _⟩
          · have d5 : decide (hi < (ls.len : Int)) = false := decide_eq_false h5
            rw [if_pos ⟨h1, h2, h3, h4, h5⟩] at hres
            have HR := Lib.hid hres
            clear h1 h2 h3 h4 h5 hres
            have hlen := HSL.out.len
            have hC1 : C < w.heap.size + 1 + 1 := by omega
            rcases hg with rfl | rfl | rfl
            all_goals
              go_enter Tryz.func73, Tryz.ntmps73
              go_wp2_with fail
              go_region
              go_wp2_with fail
              go_quiet (first | (go_at_call 52; exact quiet_more' (HF.out _)) | (go_at_call 53; exact quiet_more' (HF.out _)) | (go_at_call 54; exact quiet_more' (HF.out _)))
              go_wp2_with fail
              go_loopw [65] (fun i wr => ∃ (j : Nat) (rr : Fo), i = .int .i64 j ∧ Hid (j + rr.len = ls.len) ∧ Hid (∀ b o, la = some ⟨b, o, none⟩ → FoIn w (· < B) rr b (o + j * 3)) ∧ Hid (lvB p m rr = lvB p m ls) ∧ Hid (Below w.heap.size w wr)) (fun i _ => ls.len - (intOf i).toNat)
              case atStart => exact ⟨0, ls, rfl, Lib.hid (by omega), Lib.hid (by rintro b o rfl; simpa using HSL.out.foIn), Lib.hid rfl, Lib.hid (Below.draws HE0.out _)⟩
              case round =>
                obtain ⟨j, rr, rfl, hj, hin, hall, hw⟩ := hrel
                cases rr with
                | nil =>
                  have hlt : ¬ (j : Int) < (ls.len : Int) := by have := hj.out; simp [Fo.len] at this; omega
                  have d' : decide ((j : Int) < (ls.len : Int)) = false := by simpa using hlt
                  go_wp2_with fail
                  go_ret
                  exact ⟨by rw [HR.out, ← hall.out]; rfl, hw.out⟩
                | cons k' n' ks r' =>
                  have hlt : j < ls.len := by have := hj.out; simp [Fo.len] at this; omega
                  have hlt' : (j : Int) < (ls.len : Int) := by omega
                  obtain ⟨b, o, rfl, hbB, hf0⟩ := HSL.out.some (by omega)
                  have hwB : Below B w wr := hw.out.mono HB.out
                  obtain ⟨e0, e1, ⟨a', cap', e2, hsl'⟩, hrest⟩ := ((hin.out b o rfl).below hwB _ _ _ hbB).first
                  have hatr := HAT.out.below hw.out
                  obtain ⟨g0, g1, g2, g3, gz, gC⟩ := hatr.facts
                  have hBr : B ≤ wr.heap.size := Nat.le_trans HB.out hw.out.size
                  have hnew := heap_new wr (.cells #[.int .i64 k', .int .i64 n', .slice a' ks.len cap'] 45)
                  have q0 := cell_at hnew 0
                  have q1 := cell_at hnew 1
                  have q2 := cell_at hnew 2
                  simp only [List.getElem?_toArray, List.getElem?_cons_zero, List.getElem?_cons_succ] at q0 q1 q2
                  have m1 := ((World.cell?_of_block (a := ⟨C, 1, none⟩) (heap_old wr (.cells #[.int .i64 k', .int .i64 n', .slice a' ks.len cap'] 45) gC))).trans g1
                  have m2 := ((World.cell?_of_block (a := ⟨C, 2, none⟩) (heap_old wr (.cells #[.int .i64 k', .int .i64 n', .slice a' ks.len cap'] 45) gC))).trans g2
                  have hb1 : Below wr.heap.size wr (wr.alloc (.cells #[.int .i64 k', .int .i64 n', .slice a' ks.len cap'] 45)) := (Below.refl _ _).alloc (Nat.le_refl _) _
                  have HB1 := Lib.hid hb1
                  have HC := Lib.hid (Right_any p m k' n' ks a' cap' B ((wr.alloc (.cells #[.int .i64 k', .int .i64 n', .slice a' ks.len cap'] 45)).drew) (hsl'.below ((hb1.mono hBr).drew)) (Nat.le_trans hBr hb1.size))
                  have hHC : Hid (lvB p m (.cons k' n' ks r') = (rightB p m k' n' ks && lvB p m r')) := Lib.hid rfl
                  generalize rightB p m k' n' ks = vv at HC hHC
                  clear hnew hb1 hsl' hf0 g0 g3 gz hatr
                  go_wp2_with fail
                  go_region_held3 (fun w' => w'.cell? ⟨wr.heap.size, 0, none⟩ = some (.int .i64 k') ∧ w'.cell? ⟨wr.heap.size, 1, none⟩ = some (.int .i64 n') ∧ w'.cell? ⟨wr.heap.size, 2, none⟩ = some (.slice a' ks.len cap') ∧ w'.cell? ⟨C, 1, none⟩ = some (.int .i64 p) ∧ w'.cell? ⟨C, 2, none⟩ = some (.int .i64 m))
                    (first | exact ⟨q0, q1, q2, m1, m2⟩ | exact tfHeld (W := (wr.alloc (.cells #[.int .i64 k', .int .i64 n', .slice a' ks.len cap'] 45)).drew) HB2 gC (by simp) q0 q1 q2 m1 m2)
                    (first | (go_at_call 81; refine HC.out.mono ?_; rintro e wN ⟨rfl, hbN⟩; have HB2 := Lib.hid hbN))
                  have hE := Lib.hid (Below.step (hw.out.trans (HB1.out.drew.mono hw.out.size)) hbN (by simp))
                  clear hbN HB1 HB2
                  cases vv with
                  | true =>
                    go_wp2_with fail
                    go_roundw
                    case rel => exact ⟨j + 1, r', by go_num, Lib.hid (by have := hj.out; simp [Fo.len] at this; omega), Lib.hid (by rintro b' o' h; cases h; have := (hin.out b o rfl).2.2.2; rwa [show o + (j + 1) * 3 = o + j * 3 + 3 by omega]), Lib.hid (by rw [← hall.out, hHC.out]; rfl), hE⟩
                    case measure => simp [intOf]; omega
                  | false =>
                    go_wp2_with fail
                    go_ret
                    exact ⟨by rw [HR.out, ← hall.out, hHC.out]; rfl, hE.out⟩
  · rw [if_neg (fun h => h1 h.1)] at hres
    subst hres
    have d1 : ((klen : Int) != (K : Int)) = true := by rw [bne_iff_ne]; exact h1
    clear h1
    rcases hg with rfl | rfl | rfl
    all_goals
      go_enter Tryz.func73, Tryz.ntmps73
      go_wp2_with fail
      go_region
      go_wp2_with fail
      go_quiet (fail)
      go_wp2_with fail
      go_ret
      exact ⟨rfl, Below.draws HE.out _⟩
theorem tcfits_any (v p m left k n : Int) (ls : Fo) (la : Option Addr) (lc : Nat) (ka : Option Addr) (klen kc C r B : Nat) (w : World) (hat : TkAt w C r p m left) (hB : B ≤ w.heap.size) (hsl : SlIn w (· < B) ls la lc) :
    Calls Tryz.prog 73 #[.pointer (some ⟨C, 0, none⟩), .agg #[.int .i64 k, .int .i64 n, .slice la ls.len lc, .slice ka klen kc], .int .i64 v] w fun e w' => e = .returned (.bool (tfitsB p m v k n ls klen)) ∧ Below w.heap.size w w' := by
  rcases tkids_cases k with ⟨h1, h7, h0, _⟩ | ⟨hk, he⟩
  · refine tcfits_f v p m left k n (tlo k) (thi k) (tlim v k) (tkids k).toNat (tFn k) (tAddr r k) _ ls la lc ka klen kc C r B w (by unfold tFn; split <;> (try split) <;> simp) (fun W hW => run_tlook W r hW k true h1 h7) (tFn_any k v) hat hB hsl ?_
    split
    · rename_i h
      obtain ⟨a1, a2, a3, a4, a5⟩ := h
      exact tfits_yes (by omega) a2 a3 a4 a5
    · rename_i h
      refine tfits_no ?_
      omega
  · rw [tfits_no (.inl (by omega))]
    exact tcfits_k v p m left k n la ls.len lc ka klen kc C r w hk hat
end Go.Proofs.YtnfhpombnbpdcaaGreat
