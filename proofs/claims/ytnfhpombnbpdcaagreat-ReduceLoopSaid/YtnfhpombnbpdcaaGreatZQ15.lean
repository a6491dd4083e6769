/- Tcopl. No condition but those that stand in each statement. -/
import Derived.Deep.RegionLaw
import Derived.IntWalk
import Derived.Test.YtnfhpombnbpdcaaGreatZQ11
import Derived.Test.YtnfhpombnbpdcaaGreatZQ0
namespace Go.Proofs.YtnfhpombnbpdcaaGreat
open Go.RowKit
theorem foApp_nil2 : ∀ f : Fo, f.app .nil = f
  | .nil => rfl
  | .cons k n ks r => by show Fo.cons k n ks (r.app .nil) = _; rw [foApp_nil2 r]
theorem foApp_assoc2 : ∀ f g h : Fo, (f.app g).app h = f.app (g.app h)
  | .nil, _, _ => rfl
  | .cons k n ks r, g, h => by show Fo.cons k n ks ((r.app g).app h) = Fo.cons k n ks (r.app (g.app h)); rw [foApp_assoc2 r]
theorem FoIn.behind2 {w : World} {P : Nat → Prop} : ∀ (G r : Fo) (b o : Nat), FoIn w P (G.app r) b o → FoIn w P r b (o + G.len * 3)
  | .nil, r, b, o, h => by simpa [Fo.len, Fo.app] using h
  | .cons k n ks G, r, b, o, h => by
    have h1 := FoIn.behind2 G r b (o + 3) h.2.2.2
    have e : o + (Fo.cons k n ks G).len * 3 = o + 3 + G.len * 3 := by simp only [Fo.len]; omega
    rwa [e]
theorem one_eq2 {k n k' n' : Int} {F F' : Fo} (h : Fo.cons k n F .nil = Fo.cons k' n' F' .nil) : k = k' ∧ n = n' ∧ F = F' := by
  injection h with h1 h2 h3
  exact ⟨h1, h2, h3⟩
theorem RpR.start2c {w : World} {k n : Int} {B : Nat} (o1 : Obj) (hB : B ≤ w.heap.size) :
    RpR w (w.heap.size + 1 + 1) B k n .nil (.slice none 0 0) (((w.alloc o1).alloc (.cells #[.int .i64 0, .int .i64 0, .slice none 0 0] 45)).alloc (.cells #[.int .i64 k, .int .i64 n, .slice none 0 0] 45)) := by
  refine ⟨(heap_old _ _ (by simp)).trans (heap_second _ _ _), ?_, KsMix.nil _ _ _, by omega, hB, (((Below.refl _ _).alloc (Nat.le_refl _) _).alloc (by simp) _).alloc (by simp; omega) _⟩
  have := heap_second (w.alloc o1) (.cells #[.int .i64 0, .int .i64 0, .slice none 0 0] 45) (.cells #[.int .i64 k, .int .i64 n, .slice none 0 0] 45)
  simpa using this
set_option maxRecDepth 100000 in
set_option maxHeartbeats 4000000 in
theorem tcopl_any (s : Nat) : ∀ (f : Fo), f.size < s → f.size ≤ 1000 → ∀ (k n : Int) (a : Option Addr) (cap B : Nat) (w : World), SlIn w (· < B) f a cap → B ≤ w.heap.size →
    Calls Tryz.prog 80 #[.agg #[.int .i64 k, .int .i64 n, .slice a f.len cap]] w (RpPost 0 (.cons k n f .nil) w) := by
  induction s with
  | zero => intro f hs; omega
  | succ s ih =>
    intro f hs hsz k n a cap B w hsl hB
    have IH := Lib.hid ih
    clear ih
    have hlen := hsl.len
    have HSL := Lib.hid hsl
    have HS := Lib.hid (RpR.start2c (w := w) (k := k) (n := n) (.cells #[.int .i64 k, .int .i64 n, .slice a f.len cap] 45) (Nat.zero_le _))
    clear hsl
    go_enter Tryz.func80, Tryz.ntmps80
    go_wp2_with fail
    go_loopw [14] (fun jv wr => ∃ (j : Nat) (G rest : Fo) (v : Value), jv = .int .i64 j ∧ Hid (f = G.app rest) ∧ Hid (G.len = j) ∧ Hid (RpR w (w.heap.size + 1 + 1) 0 k n G v wr)) (fun jv _ => f.len - (intOf jv).toNat)
    case atStart => exact ⟨0, .nil, f, _, rfl, Lib.hid rfl, Lib.hid rfl, HS⟩
    case round =>
      obtain ⟨j, G, rest, v, rfl, hf, hj, hR⟩ := hrel
      obtain ⟨g0, g1, g2, gz, q0, q1, q2, qz, hob, hwr⟩ := hR.out.facts
      cases rest with
      | nil =>
        have hjl : ¬ (j : Int) < (f.len : Int) := by rw [hf.out, foApp_nil2, hj.out]; omega
        have dj : decide ((j : Int) < (f.len : Int)) = false := by simpa using hjl
        obtain ⟨x, c, rfl, hE⟩ := hR.out.done
        have HE := Lib.hid hE
        have HF : Hid (f = G) := Lib.hid (by rw [hf.out, foApp_nil2])
        clear hE hR hf
        go_wp2_with fail
        refine bodyPost_ret (v := .agg #[.int .i64 k, .int .i64 n, .slice x G.len c]) (by simp [results, Tryz.results80, go_sem, g0, g1, g2]) rfl ?_
        rw [HF.out]
        exact HE.out
      | cons k' n' ks r' =>
        have hjn : j < f.len := by rw [hf.out, Fo.app_len, hj.out]; simp [Fo.len]
        have hjl : (j : Int) < (f.len : Int) := by omega
        obtain ⟨b, o, rfl, hbB, hf0⟩ := HSL.out.some (by omega)
        have hfa : FoIn w (· < B) (.cons k' n' ks r') b (o + j * 3) := by
          have h1 := hf0
          rw [hf.out] at h1
          rw [← hj.out]
          exact FoIn.behind2 G _ b o h1
        obtain ⟨e0, e1, ⟨a', cap', e2, hsl'⟩, _⟩ := (hfa.below (hwr.mono hB) _ _ _ hbB).first
        have hks : ks.size < s := by
          have h1 := hs
          rw [hf.out, Fo.app_size] at h1
          simp only [Fo.size] at h1
          omega
        have hBr : B ≤ wr.heap.size := Nat.le_trans hB hwr.size
        have hbk : Below wr.heap.size wr (wr.alloc (.cells #[.int .i64 k', .int .i64 n', .slice a' ks.len cap'] 45)).drew := ((Below.refl _ _).alloc (Nat.le_refl _) _).drew
        have HC : Hid (Calls Tryz.prog 80 #[.agg #[.int .i64 k', .int .i64 n', .slice a' ks.len cap']] (wr.alloc (.cells #[.int .i64 k', .int .i64 n', .slice a' ks.len cap'] 45)).drew (RpPost 0 (.cons k' n' ks .nil) (wr.alloc (.cells #[.int .i64 k', .int .i64 n', .slice a' ks.len cap'] 45)).drew)) :=
          Lib.hid (IH.out ks hks (by have h1 := hsz; rw [hf.out, Fo.app_size] at h1; simp only [Fo.size] at h1; omega) k' n' a' cap' B _ (hsl'.below (hbk.mono hBr)) (Nat.le_trans hBr hbk.size))
        have HAP : Hid (∀ (e : Ending) (w2 : World), RpPost 0 (.cons k' n' ks .nil) (wr.alloc (.cells #[.int .i64 k', .int .i64 n', .slice a' ks.len cap'] 45)).drew e w2 → ∃ (x2 : Option Addr) (c2 : Nat), e = .returned (.agg #[.int .i64 k', .int .i64 n', .slice x2 ks.len c2]) ∧
            w2.cell? ⟨w.heap.size + 1 + 1, 2, none⟩ = some v ∧ w.heap.size + 1 + 1 < w2.heap.size ∧ (w2.alloc (.cells #[.int .i64 k', .int .i64 n', .slice x2 ks.len c2] 45)).cell? ⟨w.heap.size + 1 + 1, 2, none⟩ = some v ∧
            ∃ g' cap' w3, Hid ((Builtin.append_ #[27, 27] 27 #[v, .slice (some ⟨w2.heap.size, 0, none⟩) 1 1]).run Tryz.prog (w2.alloc (.cells #[.int .i64 k', .int .i64 n', .slice x2 ks.len c2] 45)) = .ok (.slice (some ⟨g', 0, none⟩) (j + 1) cap') w3) ∧
              w3.cell? ⟨w.heap.size + 1 + 1, 2, none⟩ = some v ∧ (∀ o, w3.frozen? ⟨w.heap.size + 1 + 1, o, none⟩ = false) ∧ Hid (RpR w (w.heap.size + 1 + 1) 0 k n (G.app (.cons k' n' ks .nil)) (.slice (some ⟨g', 0, none⟩) (j + 1) cap') (w3.setCell ⟨w.heap.size + 1 + 1, 2, none⟩ (.slice (some ⟨g', 0, none⟩) (j + 1) cap')))) := Lib.hid (by
          rintro e w2 ⟨k2, n2, F2, x2, c2, hT, rfl, t1, t2⟩
          obtain ⟨rfl, rfl, rfl⟩ := one_eq2 hT
          have hG1 : G.len ≤ 1000 := by have h1 := Fo.len_le_size f; rw [hf.out, Fo.app_len, Fo.app_size] at h1; rw [hf.out, Fo.app_size] at hsz; omega
          have t3 : SlIn w2 (fun b => (b < 0 ∨ wr.heap.size ≤ b) ∧ b < w2.heap.size) ks x2 c2 := t1.weak (fun b hb => ⟨by have h1 := hb.1; simp at h1; omega, hb.2⟩)
          have t4 : Below wr.heap.size wr w2 := Below.trans (((Below.refl _ _).alloc (Nat.le_refl _) _).drew) (t2.mono (by simp))
          obtain ⟨L2, hlb2, g', cap', w3, hrun, L3, Z3, hN⟩ := RpR.next (k' := k') (n' := n') hR.out hG1 t3 t4
          rw [hj.out] at hrun hN
          exact ⟨x2, c2, rfl, L2, hlb2, (World.cell?_of_block (w := w2) (a := ⟨w.heap.size + 1 + 1, 2, none⟩) (heap_old w2 _ hlb2)).trans L2, g', cap', w3, Lib.hid hrun, L3, Z3, Lib.hid hN⟩)
        have HSN : Hid (f = (G.app (.cons k' n' ks .nil)).app r') := Lib.hid (by rw [hf.out, foApp_assoc2]; rfl)
        have HJ := Lib.hid hj.out
        clear hf hR hfa hf0 g0 g1 g2 gz q0 q1 qz hbk
        go_wp2_with fail
        go_region_law (first
          | (refine step_append (by rfl) _ _ _ (by rfl) (by rfl) (by rfl) HRUN.out ?_)
          | (go_simp; go_at_call 80; refine HC.out.mono ?_; intro e w2 hP; obtain ⟨x2, c2, rfl, L2, hlb2, L2a, g', cap', w3, HRUN, L3, Z3, HN⟩ := HAP.out e w2 hP; clear hP))
        all_goals
          go_wp2_with fail
          go_roundw
          case rel => exact ⟨j + 1, _, r', _, by go_num, HSN, Lib.hid (by rw [Fo.app_len, HJ.out]; rfl), HN⟩
          case measure => simp [intOf]; omega
end Go.Proofs.YtnfhpombnbpdcaaGreat
