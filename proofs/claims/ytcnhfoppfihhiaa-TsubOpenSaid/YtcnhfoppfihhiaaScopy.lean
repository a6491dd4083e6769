/- The contracts of the program's 'nothing', and of its 'replaced' with it: the level is made anew. No condition but that the level lies in memory. -/
import Derived.Test.YtcnhfoppfihhiaaKmix
import Derived.Test.YtcnhfoppfihhiaaStep
import Derived.Deep.RegionLaw
import Derived.IntWalk
namespace Go.Proofs.Ytcnhfoppfihhiaa
open Go.RowKit

set_option maxHeartbeats 1000000 in
theorem nothing_any (k n : Int) (a : Option Addr) (len cap : Nat) (w : World) :
    Calls Try.prog 75 #[.agg #[.int .i64 k, .int .i64 n, .slice a len cap]] w fun e w' => e = .returned (.tuple #[.agg #[.int .i64 0, .int .i64 0, .slice none 0 0], .bool false]) ∧ Below w.heap.size w w' := by
  have hb : Below w.heap.size w ((w.alloc (.cells #[.int .i64 k, .int .i64 n, .slice a len cap] 38)).alloc (.cells #[.int .i64 0, .int .i64 0, .slice none 0 0] 38)) := ((Below.refl _ _).alloc (Nat.le_refl _) _).alloc (by simp) _
  have HB := Lib.hid hb
  clear hb
  go_enter Try.func75, Try.ntmps75
  go_wp2_with fail
  refine bodyPost_ret (v := .tuple #[.agg #[.int .i64 0, .int .i64 0, .slice none 0 0], .bool false]) (by simp [results, Try.results75, go_sem]) rfl ?_
  exact ⟨rfl, by first | exact HB.out | exact Below.setCell (Below.setCell (Below.setCell HB.out (by simp) _) (by simp) _) (by simp) _⟩

theorem foApp_nil' : ∀ f : Fo, f.app .nil = f
  | .nil => rfl
  | .cons k n ks r => by show Fo.cons k n ks (r.app .nil) = _; rw [foApp_nil' r]
theorem FoIn.behind {w : World} {P : Nat → Prop} : ∀ (G r : Fo) (b o : Nat), FoIn w P (G.app r) b o → FoIn w P r b (o + G.len * 3)
  | .nil, r, b, o, h => by simpa [Fo.len, Fo.app] using h
  | .cons k n ks G, r, b, o, h => by
    have h1 := FoIn.behind G r b (o + 3) h.2.2.2
    have e : o + (Fo.cons k n ks G).len * 3 = o + 3 + G.len * 3 := by simp only [Fo.len]; omega
    rwa [e]
theorem foApp_assoc' : ∀ f g h : Fo, (f.app g).app h = f.app (g.app h)
  | .nil, _, _ => rfl
  | .cons k n ks r, g, h => by show Fo.cons k n ks ((r.app g).app h) = Fo.cons k n ks (r.app (g.app h)); rw [foApp_assoc' r]
theorem one_eq {k n k' n' : Int} {F F' : Fo} (h : Fo.cons k n F .nil = Fo.cons k' n' F' .nil) : k = k' ∧ n = n' ∧ F = F' := by
  injection h with h1 h2 h3
  exact ⟨h1, h2, h3⟩
/-- What is known behind the call of the function that replaces. -/
theorem copy_box {w w1 : World} {k n : Int} {a : Option Addr} {len cap : Nat} (hb : Below (w.heap.size + 1 + 1) ((w.alloc (.cells #[.int .i64 k, .int .i64 n, .slice a len cap] 38)).alloc (.cells #[.int .i64 0, .int .i64 0, .slice none 0 0] 38)) w1) :
    w1.cell? ⟨w.heap.size, 0, none⟩ = some (.int .i64 k) ∧ w1.cell? ⟨w.heap.size, 1, none⟩ = some (.int .i64 n) ∧ w1.cell? ⟨w.heap.size, 2, none⟩ = some (.slice a len cap) ∧ w.heap.size + 1 < w1.heap.size ∧ Below w.heap.size w w1 := by
  have e : w1.heap[w.heap.size]? = some (.cells #[.int .i64 k, .int .i64 n, .slice a len cap] 38 (0, 0)) := (hb.block _ (by omega)).trans ((heap_old _ _ (by simp)).trans (heap_new _ _))
  have hz := hb.size
  simp at hz
  exact ⟨cell_at e 0, cell_at e 1, cell_at e 2, by omega, (((Below.refl _ _).alloc (Nat.le_refl _) _).alloc (by simp) _).trans (hb.mono (by omega))⟩
theorem RpR.start {w w1 : World} {k n : Int} {a : Option Addr} {len cap B : Nat} (hb : Below (w.heap.size + 1 + 1) ((w.alloc (.cells #[.int .i64 k, .int .i64 n, .slice a len cap] 38)).alloc (.cells #[.int .i64 0, .int .i64 0, .slice none 0 0] 38)) w1) (hB : B ≤ w.heap.size) (o : Obj) :
    RpR w (w1.heap.size + 1) B k n .nil (.slice none 0 0) ((w1.alloc o).alloc (.cells #[.int .i64 k, .int .i64 n, .slice none 0 0] 38)) := by
  obtain ⟨_, _, _, hz, hw⟩ := copy_box hb
  have e : w1.heap[w.heap.size + 1]? = some (.cells #[.int .i64 0, .int .i64 0, .slice none 0 0] 38 (0, 0)) := (hb.block _ (by omega)).trans (by have := heap_second w (.cells #[.int .i64 k, .int .i64 n, .slice a len cap] 38) (.cells #[.int .i64 0, .int .i64 0, .slice none 0 0] 38); simpa using this)
  exact ⟨(heap_old _ _ (by simp; omega)).trans ((heap_old _ _ hz).trans e), heap_second _ _ _, KsMix.nil _ _ _, by omega, hB, (hw.alloc hw.size _).alloc (by have := hw.size; simp; omega) _⟩

set_option maxRecDepth 100000 in
set_option maxHeartbeats 4000000 in
theorem copy_any (s : Nat) : ∀ (f : Fo), f.size < s → f.size ≤ 1000 → ∀ (k n : Int) (a : Option Addr) (cap B : Nat) (w : World), SlIn w (· < B) f a cap → B ≤ w.heap.size →
    Calls Try.prog 62 #[.agg #[.int .i64 k, .int .i64 n, .slice a f.len cap], .func (.func 75) #[] #[]] w (RpPost B (.cons k n f .nil) w) := by
  induction s with
  | zero => intro f hs; omega
  | succ s ih =>
    intro f hs hsz k n a cap B w hsl hB
    have IH := Lib.hid ih
    clear ih
    have hlen := hsl.len
    have HSL := Lib.hid hsl
    clear hsl
    go_enter Try.func62, Try.ntmps62
    go_wp2_with fail
    refine (nothing_any k n a f.len cap _).mono ?_
    rintro e w1 ⟨rfl, hb1⟩
    have hb2 : Below (w.heap.size + 1 + 1) ((w.alloc (.cells #[.int .i64 k, .int .i64 n, .slice a f.len cap] 38)).alloc (.cells #[.int .i64 0, .int .i64 0, .slice none 0 0] 38)) w1 := by simpa using hb1
    obtain ⟨k0, k1, k2, hw1, hb3⟩ := copy_box (k := k) (n := n) (len := f.len) hb2
    have HS : Hid (RpR w (w1.heap.size + 1) B k n .nil (.slice none 0 0) ((w1.alloc (.cells #[.int .i64 0, .int .i64 0, .slice none 0 0] 38)).alloc (.cells #[.int .i64 k, .int .i64 n, .slice none 0 0] 38))) := Lib.hid (RpR.start hb2 hB _)
    clear hb1 hb2
    have hw0 : w.heap.size < w1.heap.size := by omega
    have hz1 := heap_old w1 (.cells #[.int .i64 0, .int .i64 0, .slice none 0 0] 38) hw0
    have k3 := (World.cell?_of_block (w := w1) (a := ⟨w.heap.size, 0, none⟩) hz1).trans k0
    have k4 := (World.cell?_of_block (w := w1) (a := ⟨w.heap.size, 1, none⟩) hz1).trans k1
    have k5 := (World.cell?_of_block (w := w1) (a := ⟨w.heap.size, 2, none⟩) ((heap_old (w1.alloc (.cells #[.int .i64 0, .int .i64 0, .slice none 0 0] 38)) (.cells #[.int .i64 k, .int .i64 n, .slice none 0 0] 38) (by simp; omega)).trans hz1)).trans k2
    clear hz1 k1 k2
    go_wp2_with fail
    go_loopw [27] (fun jv wr => ∃ (j : Nat) (G rest : Fo) (v : Value), jv = .int .i64 j ∧ Hid (f = G.app rest) ∧ Hid (G.len = j) ∧ Hid (RpR w (w1.heap.size + 1) B k n G v wr)) (fun jv _ => f.len - (intOf jv).toNat)
    case atStart => exact ⟨0, .nil, f, _, rfl, Lib.hid rfl, Lib.hid rfl, HS⟩
    case round =>
      obtain ⟨j, G, rest, v, rfl, hf, hj, hR⟩ := hrel
      obtain ⟨g0, g1, g2, gz, q0, q1, q2, qz, hob, hwr⟩ := hR.out.facts
      cases rest with
      | nil =>
        rw [foApp_nil'] at hf
        have hjl : ¬ (j : Int) < (f.len : Int) := by rw [hf.out, hj.out]; omega
        have dj : decide ((j : Int) < (f.len : Int)) = false := by simpa using hjl
        obtain ⟨x, c, rfl, hE⟩ := hR.out.done
        have HE := Lib.hid hE
        have HF := Lib.hid hf.out
        clear hE hR
        go_wp2_with fail
        refine bodyPost_ret (v := .agg #[.int .i64 k, .int .i64 n, .slice x G.len c]) (by simp [results, Try.results62, go_sem, g0, g1, g2]) rfl ?_
        rw [HF.out]
        exact HE.out
      | cons k' n' ks r' =>
        have hjn : j < f.len := by rw [hf.out, Fo.app_len, hj.out]; simp [Fo.len]
        have hjl : (j : Int) < (f.len : Int) := by omega
        obtain ⟨b, o, rfl, hbB, hf0⟩ := HSL.out.some (by omega)
        have hfa : FoIn w (· < B) (.cons k' n' ks r') b (o + j * 3) := by
          have h1 := hf0
          rw [hf.out] at h1
          rw [← hj.out]
          exact FoIn.behind G _ b o h1
        obtain ⟨e0, e1, ⟨a', cap', e2, hsl'⟩, _⟩ := (hfa.below (hwr.mono hB) _ _ _ hbB).first
        have hks : ks.size < s := by
          have h1 := hs
          rw [hf.out, Fo.app_size] at h1
          simp only [Fo.size] at h1
          omega
        have hBr : B ≤ wr.heap.size := Nat.le_trans hB hwr.size
        have hbk : Below wr.heap.size wr (wr.alloc (.cells #[.int .i64 k', .int .i64 n', .slice a' ks.len cap'] 38)).drew := ((Below.refl _ _).alloc (Nat.le_refl _) _).drew
        have HC : Hid (Calls Try.prog 62 #[.agg #[.int .i64 k', .int .i64 n', .slice a' ks.len cap'], .func (.func 75) #[] #[]] (wr.alloc (.cells #[.int .i64 k', .int .i64 n', .slice a' ks.len cap'] 38)).drew (RpPost B (.cons k' n' ks .nil) (wr.alloc (.cells #[.int .i64 k', .int .i64 n', .slice a' ks.len cap'] 38)).drew)) :=
          Lib.hid (IH.out ks hks (by have h1 := hsz; rw [hf.out, Fo.app_size] at h1; simp only [Fo.size] at h1; omega) k' n' a' cap' B _ (hsl'.below (hbk.mono hBr)) (Nat.le_trans hBr hbk.size))
        have HAP : Hid (∀ (e : Ending) (w2 : World), RpPost B (.cons k' n' ks .nil) (wr.alloc (.cells #[.int .i64 k', .int .i64 n', .slice a' ks.len cap'] 38)).drew e w2 → ∃ (x2 : Option Addr) (c2 : Nat), e = .returned (.agg #[.int .i64 k', .int .i64 n', .slice x2 ks.len c2]) ∧
            w2.cell? ⟨w1.heap.size + 1, 2, none⟩ = some v ∧ w1.heap.size + 1 < w2.heap.size ∧ (w2.alloc (.cells #[.int .i64 k', .int .i64 n', .slice x2 ks.len c2] 38)).cell? ⟨w1.heap.size + 1, 2, none⟩ = some v ∧
            ∃ g' cap' w3, Hid ((Builtin.append_ #[26, 26] 26 #[v, .slice (some ⟨w2.heap.size, 0, none⟩) 1 1]).run Try.prog (w2.alloc (.cells #[.int .i64 k', .int .i64 n', .slice x2 ks.len c2] 38)) = .ok (.slice (some ⟨g', 0, none⟩) (j + 1) cap') w3) ∧
              w3.cell? ⟨w1.heap.size + 1, 2, none⟩ = some v ∧ (∀ o, w3.frozen? ⟨w1.heap.size + 1, o, none⟩ = false) ∧ Hid (RpR w (w1.heap.size + 1) B k n (G.app (.cons k' n' ks .nil)) (.slice (some ⟨g', 0, none⟩) (j + 1) cap') (w3.setCell ⟨w1.heap.size + 1, 2, none⟩ (.slice (some ⟨g', 0, none⟩) (j + 1) cap')))) := Lib.hid (by
          rintro e w2 ⟨k2, n2, F2, x2, c2, hT, rfl, t1, t2⟩
          obtain ⟨rfl, rfl, rfl⟩ := one_eq hT
          have hG1 : G.len ≤ 1000 := by have h1 := Fo.len_le_size f; rw [hf.out, Fo.app_len, Fo.app_size] at h1; rw [hf.out, Fo.app_size] at hsz; omega
          have t3 : SlIn w2 (fun b => (b < B ∨ wr.heap.size ≤ b) ∧ b < w2.heap.size) ks x2 c2 := t1.weak (fun b hb => ⟨by have h1 := hb.1; simp at h1; omega, hb.2⟩)
          have t4 : Below wr.heap.size wr w2 := Below.trans (((Below.refl _ _).alloc (Nat.le_refl _) _).drew) (t2.mono (by simp))
          obtain ⟨L2, hlb2, g', cap', w3, hrun, L3, Z3, hN⟩ := RpR.next (k' := k') (n' := n') hR.out hG1 t3 t4
          rw [hj.out] at hrun hN
          exact ⟨x2, c2, rfl, L2, hlb2, (World.cell?_of_block (w := w2) (a := ⟨w1.heap.size + 1, 2, none⟩) (heap_old w2 _ hlb2)).trans L2, g', cap', w3, Lib.hid hrun, L3, Z3, Lib.hid hN⟩)
        have HSN : Hid (f = (G.app (.cons k' n' ks .nil)).app r') := Lib.hid (by rw [hf.out, foApp_assoc']; rfl)
        have HJ := Lib.hid hj.out
        clear hf hR hfa hf0 g0 g1 g2 gz q0 q1 qz k0 hbk
        go_wp2_with fail
        go_region_law (first
          | (refine step_append (by rfl) _ _ _ (by rfl) (by rfl) (by rfl) HRUN.out ?_)
          | (go_simp; go_at_call 62; refine HC.out.mono ?_; intro e w2 hP; obtain ⟨x2, c2, rfl, L2, hlb2, L2a, g', cap', w3, HRUN, L3, Z3, HN⟩ := HAP.out e w2 hP; clear hP))
        all_goals
          go_wp2_with fail
          go_roundw
          case rel => exact ⟨j + 1, _, r', _, by go_num, HSN, Lib.hid (by rw [Fo.app_len, HJ.out]; rfl), HN⟩
          case measure => simp [intOf]; omega
end Go.Proofs.Ytcnhfoppfihhiaa
