/- Scopy, Sspec, Ssub1, Srep, Ssub, Ssub2, SuB, Scopn. No condition but those that stand in each statement. -/
import Derived.Deep.RegionLaw
import Derived.IntWalk
import Derived.Test.YtnfhpombnbpdcaaGreatZQ11
import Derived.Test.YtnfhpombnbpdcaaGreatZQ0
import Derived.Test.YtnfhpombnbpdcaaGreatZQ2
import Derived.Test.YtnfhpombnbpdcaaGreatZQ4
import Derived.Deep.RegionHeld3
import Derived.Test.YtnfhpombnbpdcaaGreatZQ8
import Derived.Test.YtnfhpombnbpdcaaGreatZQ7
namespace Go.Proofs.YtnfhpombnbpdcaaGreat
open Go.RowKit
set_option maxHeartbeats 1000000 in
theorem nothing_any (k n : Int) (a : Option Addr) (len cap : Nat) (w : World) :
    Calls Tryz.prog 119 #[.agg #[.int .i64 k, .int .i64 n, .slice a len cap]] w fun e w' => e = .returned (.tuple #[.agg #[.int .i64 0, .int .i64 0, .slice none 0 0], .bool false]) ∧ Below w.heap.size w w' := by
  have hb : Below w.heap.size w ((w.alloc (.cells #[.int .i64 k, .int .i64 n, .slice a len cap] 45)).alloc (.cells #[.int .i64 0, .int .i64 0, .slice none 0 0] 45)) := ((Below.refl _ _).alloc (Nat.le_refl _) _).alloc (by simp) _
  have HB := Lib.hid hb
  clear hb
  go_enter Tryz.func119, Tryz.ntmps119
  go_wp2_with fail
  refine bodyPost_ret (v := .tuple #[.agg #[.int .i64 0, .int .i64 0, .slice none 0 0], .bool false]) (by simp [results, Tryz.results119, go_sem]) rfl ?_
  exact ⟨rfl, by first | exact HB.out | exact Below.setCell (Below.setCell (Below.setCell HB.out (by simp) _) (by simp) _) (by simp) _⟩
theorem foApp_nil' : ∀ f : Fo, f.app .nil = f
  | .nil => rfl
  | .cons k n ks r => by show Fo.cons k n ks (r.app .nil) = _; rw [foApp_nil' r]
theorem FoIn.behind {w : World} {P : Nat → Prop} : ∀ (G r : Fo) (b o : Nat), FoIn w P (G.app r) b o → FoIn w P r b (o + G.len * 3)
  | .nil, r, b, o, h => by simpa [Fo.len, Fo.app] using h
  | .cons k n ks G, r, b, o, h => by
    have h1 := FoIn.behind G r b (o + 3) h.2.2.2
    have e : o + (Fo.cons k n ks G).len * 3 = o + 3 + G.len * 3 := by simp only [Fo.len]; omega
    rwa [e]
theorem foApp_assoc' : ∀ f g h : Fo, (f.app g).app h = f.app (g.app h)
  | .nil, _, _ => rfl
  | .cons k n ks r, g, h => by show Fo.cons k n ks ((r.app g).app h) = Fo.cons k n ks (r.app (g.app h)); rw [foApp_assoc' r]
theorem one_eq {k n k' n' : Int} {F F' : Fo} (h : Fo.cons k n F .nil = Fo.cons k' n' F' .nil) : k = k' ∧ n = n' ∧ F = F' := by
  injection h with h1 h2 h3
  exact ⟨h1, h2, h3⟩
theorem copy_box {w w1 : World} {k n : Int} {a : Option Addr} {len cap : Nat} (hb : Below (w.heap.size + 1 + 1) ((w.alloc (.cells #[.int .i64 k, .int .i64 n, .slice a len cap] 45)).alloc (.cells #[.int .i64 0, .int .i64 0, .slice none 0 0] 45)) w1) :
    w1.cell? ⟨w.heap.size, 0, none⟩ = some (.int .i64 k) ∧ w1.cell? ⟨w.heap.size, 1, none⟩ = some (.int .i64 n) ∧ w1.cell? ⟨w.heap.size, 2, none⟩ = some (.slice a len cap) ∧ w.heap.size + 1 < w1.heap.size ∧ Below w.heap.size w w1 := by
  have e : w1.heap[w.heap.size]? = some (.cells #[.int .i64 k, .int .i64 n, .slice a len cap] 45 (0, 0)) := (hb.block _ (by omega)).trans ((heap_old _ _ (by simp)).trans (heap_new _ _))
  have hz := hb.size
  simp at hz
  exact ⟨cell_at e 0, cell_at e 1, cell_at e 2, by omega, (((Below.refl _ _).alloc (Nat.le_refl _) _).alloc (by simp) _).trans (hb.mono (by omega))⟩
theorem RpR.start {w w1 : World} {k n : Int} {a : Option Addr} {len cap B : Nat} (hb : Below (w.heap.size + 1 + 1) ((w.alloc (.cells #[.int .i64 k, .int .i64 n, .slice a len cap] 45)).alloc (.cells #[.int .i64 0, .int .i64 0, .slice none 0 0] 45)) w1) (hB : B ≤ w.heap.size) (o : Obj) :
    RpR w (w1.heap.size + 1) B k n .nil (.slice none 0 0) ((w1.alloc o).alloc (.cells #[.int .i64 k, .int .i64 n, .slice none 0 0] 45)) := by
  obtain ⟨_, _, _, hz, hw⟩ := copy_box hb
  have e : w1.heap[w.heap.size + 1]? = some (.cells #[.int .i64 0, .int .i64 0, .slice none 0 0] 45 (0, 0)) := (hb.block _ (by omega)).trans (by have := heap_second w (.cells #[.int .i64 k, .int .i64 n, .slice a len cap] 45) (.cells #[.int .i64 0, .int .i64 0, .slice none 0 0] 45); simpa using this)
  exact ⟨(heap_old _ _ (by simp; omega)).trans ((heap_old _ _ hz).trans e), heap_second _ _ _, KsMix.nil _ _ _, by omega, hB, (hw.alloc hw.size _).alloc (by have := hw.size; simp; omega) _⟩
set_option maxRecDepth 100000 in
set_option maxHeartbeats 4000000 in
theorem copy_any (s : Nat) : ∀ (f : Fo), f.size < s → f.size ≤ 1000 → ∀ (k n : Int) (a : Option Addr) (cap B : Nat) (w : World), SlIn w (· < B) f a cap → B ≤ w.heap.size →
    Calls Tryz.prog 116 #[.agg #[.int .i64 k, .int .i64 n, .slice a f.len cap], .func (.func 119) #[] #[]] w (RpPost B (.cons k n f .nil) w) := by
  induction s with
  | zero => intro f hs; omega
  | succ s ih =>
    intro f hs hsz k n a cap B w hsl hB
    have IH := Lib.hid ih
    clear ih
    have hlen := hsl.len
    have HSL := Lib.hid hsl
    clear hsl
    go_enter Tryz.func116, Tryz.ntmps116
    go_wp2_with fail
    refine (nothing_any k n a f.len cap _).mono ?_
    rintro e w1 ⟨rfl, hb1⟩
    have hb2 : Below (w.heap.size + 1 + 1) ((w.alloc (.cells #[.int .i64 k, .int .i64 n, .slice a f.len cap] 45)).alloc (.cells #[.int .i64 0, .int .i64 0, .slice none 0 0] 45)) w1 := by simpa using hb1
    obtain ⟨k0, k1, k2, hw1, hb3⟩ := copy_box (k := k) (n := n) (len := f.len) hb2
    have HS : Hid (RpR w (w1.heap.size + 1) B k n .nil (.slice none 0 0) ((w1.alloc (.cells #[.int .i64 0, .int .i64 0, .slice none 0 0] 45)).alloc (.cells #[.int .i64 k, .int .i64 n, .slice none 0 0] 45))) := Lib.hid (RpR.start hb2 hB _)
    clear hb1 hb2
    have hw0 : w.heap.size < w1.heap.size := by omega
    have hz1 := heap_old w1 (.cells #[.int .i64 0, .int .i64 0, .slice none 0 0] 45) hw0
    have k3 := (World.cell?_of_block (w := w1) (a := ⟨w.heap.size, 0, none⟩) hz1).trans k0
    have k4 := (World.cell?_of_block (w := w1) (a := ⟨w.heap.size, 1, none⟩) hz1).trans k1
    have k5 := (World.cell?_of_block (w := w1) (a := ⟨w.heap.size, 2, none⟩) ((heap_old (w1.alloc (.cells #[.int .i64 0, .int .i64 0, .slice none 0 0] 45)) (.cells #[.int .i64 k, .int .i64 n, .slice none 0 0] 45) (by simp; omega)).trans hz1)).trans k2
    clear hz1 k1 k2
    go_wp2_with fail
    go_loopw [27] (fun jv wr => ∃ (j : Nat) (G rest : Fo) (v : Value), jv = .int .i64 j ∧ Hid (f = G.app rest) ∧ Hid (G.len = j) ∧ Hid (RpR w (w1.heap.size + 1) B k n G v wr)) (fun jv _ => f.len - (intOf jv).toNat)
    case atStart => exact ⟨0, .nil, f, _, rfl, Lib.hid rfl, Lib.hid rfl, HS⟩
    case round =>
      obtain ⟨j, G, rest, v, rfl, hf, hj, hR⟩ := hrel
      obtain ⟨g0, g1, g2, gz, q0, q1, q2, qz, hob, hwr⟩ := hR.out.facts
      cases rest with
      | nil =>
        rw [foApp_nil'] at hf
        have hjl : ¬ (j : Int) < (f.len : Int) := by rw [hf.out, hj.out]; omega
        have dj : decide ((j : Int) < (f.len : Int)) = false := by simpa using hjl
        obtain ⟨x, c, rfl, hE⟩ := hR.out.done
        have HE := Lib.hid hE
        have HF := Lib.hid hf.out
        clear hE hR
        go_wp2_with fail
        refine bodyPost_ret (v := .agg #[.int .i64 k, .int .i64 n, .slice x G.len c]) (by simp [results, Tryz.results116, go_sem, g0, g1, g2]) rfl ?_
        rw [HF.out]
        exact HE.out
      | cons k' n' ks r' =>
        have hjn : j < f.len := by rw [hf.out, Fo.app_len, hj.out]; simp [Fo.len]
        have hjl : (j : Int) < (f.len : Int) := by omega
        obtain ⟨b, o, rfl, hbB, hf0⟩ := HSL.out.some (by omega)
        have hfa : FoIn w (· < B) (.cons k' n' ks r') b (o + j * 3) := by
          have h1 := hf0
          rw [hf.out] at h1
          rw [← hj.out]
          exact FoIn.behind G _ b o h1
        obtain ⟨e0, e1, ⟨a', cap', e2, hsl'⟩, _⟩ := (hfa.below (hwr.mono hB) _ _ _ hbB).first
        have hks : ks.size < s := by
          have h1 := hs
          rw [hf.out, Fo.app_size] at h1
          simp only [Fo.size] at h1
          omega
        have hBr : B ≤ wr.heap.size := Nat.le_trans hB hwr.size
        have hbk : Below wr.heap.size wr (wr.alloc (.cells #[.int .i64 k', .int .i64 n', .slice a' ks.len cap'] 45)).drew := ((Below.refl _ _).alloc (Nat.le_refl _) _).drew
        have HC : Hid (Calls Tryz.prog 116 #[.agg #[.int .i64 k', .int .i64 n', .slice a' ks.len cap'], .func (.func 119) #[] #[]] (wr.alloc (.cells #[.int .i64 k', .int .i64 n', .slice a' ks.len cap'] 45)).drew (RpPost B (.cons k' n' ks .nil) (wr.alloc (.cells #[.int .i64 k', .int .i64 n', .slice a' ks.len cap'] 45)).drew)) :=
          Lib.hid (IH.out ks hks (by have h1 := hsz; rw [hf.out, Fo.app_size] at h1; simp only [Fo.size] at h1; omega) k' n' a' cap' B _ (hsl'.below (hbk.mono hBr)) (Nat.le_trans hBr hbk.size))
        have HAP : Hid (∀ (e : Ending) (w2 : World), RpPost B (.cons k' n' ks .nil) (wr.alloc (.cells #[.int .i64 k', .int .i64 n', .slice a' ks.len cap'] 45)).drew e w2 → ∃ (x2 : Option Addr) (c2 : Nat), e = .returned (.agg #[.int .i64 k', .int .i64 n', .slice x2 ks.len c2]) ∧
            w2.cell? ⟨w1.heap.size + 1, 2, none⟩ = some v ∧ w1.heap.size + 1 < w2.heap.size ∧ (w2.alloc (.cells #[.int .i64 k', .int .i64 n', .slice x2 ks.len c2] 45)).cell? ⟨w1.heap.size + 1, 2, none⟩ = some v ∧
            ∃ g' cap' w3, Hid ((Builtin.append_ #[27, 27] 27 #[v, .slice (some ⟨w2.heap.size, 0, none⟩) 1 1]).run Tryz.prog (w2.alloc (.cells #[.int .i64 k', .int .i64 n', .slice x2 ks.len c2] 45)) = .ok (.slice (some ⟨g', 0, none⟩) (j + 1) cap') w3) ∧
              w3.cell? ⟨w1.heap.size + 1, 2, none⟩ = some v ∧ (∀ o, w3.frozen? ⟨w1.heap.size + 1, o, none⟩ = false) ∧ Hid (RpR w (w1.heap.size + 1) B k n (G.app (.cons k' n' ks .nil)) (.slice (some ⟨g', 0, none⟩) (j + 1) cap') (w3.setCell ⟨w1.heap.size + 1, 2, none⟩ (.slice (some ⟨g', 0, none⟩) (j + 1) cap')))) := Lib.hid (by
          rintro e w2 ⟨k2, n2, F2, x2, c2, hT, rfl, t1, t2⟩
          obtain ⟨rfl, rfl, rfl⟩ := one_eq hT
          have hG1 : G.len ≤ 1000 := by have h1 := Fo.len_le_size f; rw [hf.out, Fo.app_len, Fo.app_size] at h1; rw [hf.out, Fo.app_size] at hsz; omega
          have t3 : SlIn w2 (fun b => (b < B ∨ wr.heap.size ≤ b) ∧ b < w2.heap.size) ks x2 c2 := t1.weak (fun b hb => ⟨by have h1 := hb.1; simp at h1; omega, hb.2⟩)
          have t4 : Below wr.heap.size wr w2 := Below.trans (((Below.refl _ _).alloc (Nat.le_refl _) _).drew) (t2.mono (by simp))
          obtain ⟨L2, hlb2, g', cap', w3, hrun, L3, Z3, hN⟩ := RpR.next (k' := k') (n' := n') hR.out hG1 t3 t4
          rw [hj.out] at hrun hN
          exact ⟨x2, c2, rfl, L2, hlb2, (World.cell?_of_block (w := w2) (a := ⟨w1.heap.size + 1, 2, none⟩) (heap_old w2 _ hlb2)).trans L2, g', cap', w3, Lib.hid hrun, L3, Z3, Lib.hid hN⟩)
        have HSN : Hid (f = (G.app (.cons k' n' ks .nil)).app r') := Lib.hid (by rw [hf.out, foApp_assoc']; rfl)
        have HJ := Lib.hid hj.out
        clear hf hR hfa hf0 g0 g1 g2 gz q0 q1 qz k0 hbk
        go_wp2_with fail
        go_region_law (first
          | (refine step_append (by rfl) _ _ _ (by rfl) (by rfl) (by rfl) HRUN.out ?_)
          | (go_simp; go_at_call 116; refine HC.out.mono ?_; intro e w2 hP; obtain ⟨x2, c2, rfl, L2, hlb2, L2a, g', cap', w3, HRUN, L3, Z3, HN⟩ := HAP.out e w2 hP; clear hP))
        all_goals
          go_wp2_with fail
          go_roundw
          case rel => exact ⟨j + 1, _, r', _, by go_num, HSN, Lib.hid (by rw [Fo.app_len, HJ.out]; rfl), HN⟩
          case measure => simp [intOf]; omega
end Go.Proofs.YtnfhpombnbpdcaaGreat
namespace Go.Proofs.YtnfhpombnbpdcaaGreat
open Go
def Fo.get : Fo → Nat → Fo
  | .nil, _ => .nil
  | .cons k n ks _, 0 => .cons k n ks .nil
  | .cons _ _ _ r, i + 1 => r.get i
def sv (P Q : Fo) (k n : Int) : Option Fo := if k = 5 ∧ n < P.len then some (P.get n.toNat) else if k = 6 ∧ n < Q.len then some (Q.get n.toNat) else none
def sb1 (P Q : Fo) (k n : Int) (ks : Fo) : Fo := (sv P Q k n).getD (.cons k n ks .nil)
def sbF (P Q : Fo) : Fo → Fo
  | .nil => .nil
  | .cons k n ks r => (sb1 P Q k n (sbF P Q ks)).app (sbF P Q r)
def noneg : Fo → Prop
  | .nil => True
  | .cons _ n ks r => 0 ≤ n ∧ noneg ks ∧ noneg r
theorem sv_5 {P Q : Fo} {n : Int} (h : n < P.len) : sv P Q 5 n = some (P.get n.toNat) := if_pos ⟨rfl, h⟩
theorem sv_5n {P Q : Fo} {n : Int} (h : ¬ n < P.len) : sv P Q 5 n = none := by
  unfold sv; rw [if_neg (fun e => h e.2), if_neg (fun e => by cases e.1)]
theorem sv_6 {P Q : Fo} {n : Int} (h : n < Q.len) : sv P Q 6 n = some (Q.get n.toNat) := by
  unfold sv; rw [if_neg (fun e => by cases e.1), if_pos ⟨rfl, h⟩]
theorem sv_6n {P Q : Fo} {n : Int} (h : ¬ n < Q.len) : sv P Q 6 n = none := by
  unfold sv; rw [if_neg (fun e => by cases e.1), if_neg (fun e => h e.2)]
theorem sv_no {P Q : Fo} {k n : Int} (h5 : k ≠ 5) (h6 : k ≠ 6) : sv P Q k n = none := by
  unfold sv; rw [if_neg (fun e => h5 e.1), if_neg (fun e => h6 e.1)]
theorem get_at : ∀ {F : Fo} {i : Nat}, i < F.len → ∃ k n ks, F.get i = .cons k n ks .nil
  | .nil, _, h => by simp [Fo.len] at h
  | .cons k n ks _, 0, _ => ⟨k, n, ks, rfl⟩
  | .cons _ _ _ r, i + 1, h => get_at (F := r) (by simp [Fo.len] at h; omega)
theorem noneg_app : ∀ {f g : Fo}, noneg (f.app g) → noneg f ∧ noneg g
  | .nil, _, h => ⟨trivial, h⟩
  | .cons k n ks r, g, h => by
    obtain ⟨h1, h2, h3⟩ := h
    obtain ⟨h4, h5⟩ := noneg_app (f := r) h3
    exact ⟨⟨h1, h2, h4⟩, h5⟩
theorem sbF_app (P Q : Fo) : ∀ f g : Fo, sbF P Q (f.app g) = (sbF P Q f).app (sbF P Q g)
  | .nil, _ => rfl
  | .cons k n ks r, g => by
    show (sb1 P Q k n (sbF P Q ks)).app (sbF P Q (r.app g)) = ((sb1 P Q k n (sbF P Q ks)).app (sbF P Q r)).app (sbF P Q g)
    rw [sbF_app P Q r g]
    generalize sb1 P Q k n (sbF P Q ks) = X
    generalize sbF P Q r = Y
    generalize sbF P Q g = Z
    induction X with
    | nil => rfl
    | cons a b c d _ ih => show Fo.cons a b c (d.app (Y.app Z)) = Fo.cons a b c ((d.app Y).app Z); rw [ih]
theorem sb1_len {P Q : Fo} {k n : Int} (ks : Fo) (hn : 0 ≤ n) : (sb1 P Q k n ks).len = 1 := by
  unfold sb1 sv
  split
  · rename_i h
    obtain ⟨_, _, _, e⟩ := get_at (F := P) (i := n.toNat) (by omega)
    simp [e, Fo.len]
  · split
    · rename_i h
      obtain ⟨_, _, _, e⟩ := get_at (F := Q) (i := n.toNat) (by omega)
      simp [e, Fo.len]
    · rfl
theorem sbF_len (P Q : Fo) : ∀ f : Fo, noneg f → (sbF P Q f).len = f.len
  | .nil, _ => rfl
  | .cons k n ks r, h => by
    show ((sb1 P Q k n (sbF P Q ks)).app (sbF P Q r)).len = r.len + 1
    rw [Fo.app_len, sb1_len _ h.1, sbF_len P Q r h.2.2]; omega
theorem FoIn.get {w : World} {P : Nat → Prop} : ∀ {F : Fo} {i b o : Nat}, i < F.len → FoIn w P F b o → ∃ (k n : Int) (ks : Fo) (a : Option Addr) (cap : Nat), F.get i = .cons k n ks .nil ∧
    w.cell? ⟨b, o + i * 3, none⟩ = some (.int .i64 k) ∧ w.cell? ⟨b, o + i * 3 + 1, none⟩ = some (.int .i64 n) ∧ w.cell? ⟨b, o + i * 3 + 2, none⟩ = some (.slice a ks.len cap) ∧ SlIn w P ks a cap
  | .nil, _, _, _, h, _ => by simp [Fo.len] at h
  | .cons k n ks r, 0, b, o, _, h => by
    obtain ⟨h0, h1, ⟨a, cap, h2, h3⟩, _⟩ := h.first
    exact ⟨k, n, ks, a, cap, rfl, by simpa using h0, by simpa using h1, by simpa using h2, h3⟩
  | .cons _ _ _ r, i + 1, b, o, hl, h => by
    obtain ⟨k, n, ks, a, cap, e, h0, h1, h2, h3⟩ := FoIn.get (F := r) (i := i) (by simp [Fo.len] at hl; omega) h.2.2.2
    have q : o + 3 + i * 3 = o + (i + 1) * 3 := by omega
    rw [q] at h0 h1 h2
    exact ⟨k, n, ks, a, cap, e, h0, h1, h2, h3⟩
theorem slGet {w : World} {P : Nat → Prop} {F : Fo} {a : Option Addr} {cap i : Nat} (h : SlIn w P F a cap) (hi : i < F.len) : ∃ (b o : Nat) (k n : Int) (ks : Fo) (a' : Option Addr) (cap' : Nat), a = some ⟨b, o, none⟩ ∧ P b ∧ F.get i = .cons k n ks .nil ∧
    w.cell? ⟨b, o + i * 3, none⟩ = some (.int .i64 k) ∧ w.cell? ⟨b, o + i * 3 + 1, none⟩ = some (.int .i64 n) ∧ w.cell? ⟨b, o + i * 3 + 2, none⟩ = some (.slice a' ks.len cap') ∧ SlIn w P ks a' cap' := by
  obtain ⟨b, o, e, hb, hf⟩ := h.some (by omega)
  obtain ⟨k, n, ks, a', cap', h1, h2, h3, h4, h5⟩ := hf.get hi
  exact ⟨b, o, k, n, ks, a', cap', e, hb, h1, h2, h3, h4, h5⟩
end Go.Proofs.YtnfhpombnbpdcaaGreat
namespace Go.Proofs.YtnfhpombnbpdcaaGreat
open Go.RowKit
def SvPost (B : Nat) (o : Option Fo) (w : World) (e : Ending) (w' : World) : Prop := Below w.heap.size w w' ∧ match o with
  | none => e = .returned (.tuple #[.agg #[.int .i64 0, .int .i64 0, .slice none 0 0], .bool false])
  | some T => ∃ (k n : Int) (F : Fo) (x : Option Addr) (c : Nat), T = .cons k n F .nil ∧ e = .returned (.tuple #[.agg #[.int .i64 k, .int .i64 n, .slice x F.len c], .bool true]) ∧ SlIn w (· < B) F x c
end Go.Proofs.YtnfhpombnbpdcaaGreat
namespace Go.Proofs.YtnfhpombnbpdcaaGreat
open Go.RowKit
theorem get_size : ∀ (F : Fo) (i : Nat), (F.get i).size ≤ F.size
  | .nil, _ => Nat.le_refl _
  | .cons k n ks r, 0 => by simp only [Fo.get, Fo.size]; omega
  | .cons k n ks r, i + 1 => by have := get_size r i; simp only [Fo.get, Fo.size]; omega
theorem sv_size {P Q : Fo} {k n : Int} {o : Option Fo} (hP : P.size ≤ 1000) (hQ : Q.size ≤ 1000) (_hn : 0 ≤ n) (h : sv P Q k n = o) : (o.getD .nil).size ≤ 1000 := by
  subst h
  unfold sv
  split
  · exact Nat.le_trans (get_size _ _) hP
  · split
    · exact Nat.le_trans (get_size _ _) hQ
    · exact Nat.zero_le _
theorem rep_store {w w1 : World} {k n k1 n1 : Int} {a : Option Addr} {len cap B : Nat} {F1 : Fo} (hb : Below (w.heap.size + 1 + 1) ((w.alloc (.cells #[.int .i64 k, .int .i64 n, .slice a len cap] 45)).alloc (.cells #[.int .i64 0, .int .i64 0, .slice none 0 0] 45)) w1) (hB : B ≤ w.heap.size) (ob : Obj) {e : Ending} {w3 : World}
    (h : RpPost B (.cons k1 n1 F1 .nil) (w1.alloc ob) e w3) : ∃ (x2 : Option Addr) (c2 : Nat), e = .returned (.agg #[.int .i64 k1, .int .i64 n1, .slice x2 F1.len c2]) ∧
          w3.cell? ⟨w.heap.size + 1, 0, none⟩ = some (.int .i64 0) ∧ w3.cell? ⟨w.heap.size + 1, 1, none⟩ = some (.int .i64 0) ∧ w3.cell? ⟨w.heap.size + 1, 2, none⟩ = some (.slice none 0 0) ∧ (∀ o, w3.frozen? ⟨w.heap.size + 1, o, none⟩ = false) ∧ w.heap.size + 1 < w3.heap.size ∧
          Hid (RpPost B (.cons k1 n1 F1 .nil) w (.returned (.agg #[.int .i64 k1, .int .i64 n1, .slice x2 F1.len c2])) (((w3.setCell ⟨w.heap.size + 1, 0, none⟩ (.int .i64 k1)).setCell ⟨w.heap.size + 1, 1, none⟩ (.int .i64 n1)).setCell ⟨w.heap.size + 1, 2, none⟩ (.slice x2 F1.len c2))) := by
  obtain ⟨k2, n2, F2, x2, c2, hT, rfl, t1, t2⟩ := h
  obtain ⟨rfl, rfl, rfl⟩ := one_eq hT
  obtain ⟨_, _, _, hz, hw⟩ := copy_box hb
  have e0 : w1.heap[w.heap.size + 1]? = some (.cells #[.int .i64 0, .int .i64 0, .slice none 0 0] 45 (0, 0)) := (hb.block _ (by omega)).trans (by have := heap_second w (.cells #[.int .i64 k, .int .i64 n, .slice a len cap] 45) (.cells #[.int .i64 0, .int .i64 0, .slice none 0 0] 45); simpa using this)
  have e3 := (t2.block _ (by simp; omega)).trans ((heap_old w1 ob hz).trans e0)
  have hlt := lt_of_block e3
  have hb3 : Below w.heap.size w w3 := Below.step (hw.alloc hw.size ob) t2 (Nat.le_refl _)
  have hg := set3_only (w := w3) (w.heap.size + 1) (.int .i64 k1) (.int .i64 n1) (.slice x2 F1.len c2)
  refine ⟨x2, c2, rfl, cell_at e3 0, cell_at e3 1, cell_at e3 2, free_of e3, hlt, Lib.hid ⟨k1, n1, F1, x2, c2, rfl, rfl, ?_, ?_⟩⟩
  · refine (t1.keep (fun b hb => Only.block hg hb.2 ?_)).weak (fun b hb => ⟨?_, Nat.lt_of_lt_of_le hb.2 hg.size⟩)
    · have h1 := hb.1; simp at h1; have h2 := hw.size; omega
    · have h1 := hb.1; simp at h1; have h2 := hw.size; omega
  · exact ⟨hg.os.trans hb3.os, hg.tape.trans hb3.tape, hg.output.trans hb3.output, Nat.le_trans hb3.size hg.size, fun q hq => (Only.block hg (by have := hb3.size; omega) (by omega)).trans (hb3.block q hq)⟩
end Go.Proofs.YtnfhpombnbpdcaaGreat
namespace Go.Proofs.YtnfhpombnbpdcaaGreat
open Go.RowKit
set_option maxHeartbeats 1000000 in
theorem sright_any (k n : Int) (f : Fo) (a : Option Addr) (cap B : Nat) (w : World) (hsl : SlIn w (· < B) f a cap) (hB : B ≤ w.heap.size) :
    Calls Tryz.prog 114 #[.agg #[.int .i64 k, .int .i64 n, .slice a f.len cap]] w fun e w' => e = .returned (.bool (rightB 5 10 k n f)) ∧ Below w.heap.size w w' := by
  have hb : Below w.heap.size w (w.alloc (.cells #[.int .i64 k, .int .i64 n, .slice a f.len cap] 45)) := (Below.refl _ _).alloc (Nat.le_refl _) _
  have HC := Lib.hid (Right_any 5 10 k n f a cap B _ (hsl.below (hb.mono hB)) (Nat.le_trans hB hb.size))
  have HB := Lib.hid hb
  clear hb
  generalize rightB 5 10 k n f = v at HC ⊢
  go_enter Tryz.func114, Tryz.ntmps114
  go_wp2_with fail
  refine HC.out.mono ?_
  rintro e w2 ⟨rfl, hb2⟩
  go_wp2_with fail
  go_ret
  exact ⟨rfl, Below.step HB.out hb2 (Nat.le_refl _)⟩
theorem node_fits0 {p m k n : Int} {f : Fo} {d : Int} (h : rNode p m k n f.len d (rAll p m f (d - 1)) = true) : 0 ≤ n ∧ rAll p m f (d - 1) = true := by
  have hd : 1 ≤ d := by
    by_cases hd : d < 1
    · simp [rNode, hd] at h
    · omega
  rw [rNode_fits p m k n f.len d _ hd (fun h => rAll_nil_of p m f _ (by omega))] at h
  unfold fitsB at h
  simp only [Bool.and_eq_true, decide_eq_true_eq] at h
  exact ⟨h.1.2.1, h.2⟩
def allR : Fo → Bool
  | .nil => true
  | .cons k n ks r => rightB 5 10 k n ks && allR r
set_option maxRecDepth 100000 in
set_option maxHeartbeats 2000000 in
theorem sallRight_any (f : Fo) (a : Option Addr) (cap B : Nat) (w : World) (hsl : SlIn w (· < B) f a cap) (hB : B ≤ w.heap.size) :
    Calls Tryz.prog 115 #[.slice a f.len cap] w fun e w' => e = .returned (.bool (allR f)) ∧ Below w.heap.size w w' := by
  have hlen := hsl.len
  have HSL := Lib.hid hsl
  clear hsl
  go_enter Tryz.func115, Tryz.ntmps115
  go_wp2_with fail
  go_loopw [7] (fun jv wr => ∃ (j : Nat) (rest : Fo), jv = .int .i64 j ∧ Hid (j + rest.len = f.len) ∧ Hid (∀ b o, a = some ⟨b, o, none⟩ → FoIn w (· < B) rest b (o + j * 3)) ∧ Hid (allR rest = allR f) ∧ Below w.heap.size w wr) (fun jv _ => f.len - (intOf jv).toNat)
  case atStart => exact ⟨0, f, rfl, Lib.hid (by omega), Lib.hid (by rintro b o rfl; simpa using HSL.out.foIn), Lib.hid rfl, Below.refl _ _⟩
  case round =>
    obtain ⟨j, rest, rfl, hj, hin, hall, hb⟩ := hrel
    cases rest with
    | nil =>
      have hlt : ¬ (j : Int) < (f.len : Int) := by have := hj.out; simp [Fo.len] at this; omega
      have dj : decide ((j : Int) < (f.len : Int)) = false := by simpa using hlt
      go_wp2_with fail
      go_ret
      exact ⟨by rw [← hall.out]; rfl, hb⟩
    | cons k' n' ks r' =>
      have hjn : j < f.len := by have := hj.out; simp [Fo.len] at this; omega
      have hjl : (j : Int) < (f.len : Int) := by omega
      obtain ⟨b, o, rfl, hbB, _⟩ := HSL.out.some (by omega)
      have hfa := hin.out b o rfl
      obtain ⟨e0, e1, ⟨a', cap', e2, hsl'⟩, _⟩ := (hfa.below (hb.mono hB) _ _ _ hbB).first
      have hBr : B ≤ wr.heap.size := Nat.le_trans hB hb.size
      have hbk : Below wr.heap.size wr (wr.alloc (.cells #[.int .i64 k', .int .i64 n', .slice a' ks.len cap'] 45)) := (Below.refl _ _).alloc (Nat.le_refl _) _
      have HC := Lib.hid (sright_any k' n' ks a' cap' B _ (hsl'.below (hbk.mono hBr)) (Nat.le_trans hBr hbk.size))
      have hall' := hall.out
      simp only [allR] at hall'
      have HBK := Lib.hid hbk
      clear hbk hsl'
      generalize rightB 5 10 k' n' ks = v at HC hall'
      cases v with
      | true =>
        have HN := Lib.hid hall'
        clear hall' hall
        go_wp2_with fail
        refine HC.out.mono ?_
        rintro e w2 ⟨rfl, hb2⟩
        have HB2 := Lib.hid (Below.step hb (Below.step HBK.out hb2 (Nat.le_refl _)) (Nat.le_refl _))
        clear hb2
        go_wp2_with fail
        go_roundw
        case rel => exact ⟨j + 1, r', by go_num, Lib.hid (by have := hj.out; simp [Fo.len] at this; omega), Lib.hid (by rintro b' o' h; cases h; have := hfa.2.2.2; rwa [show o + (j + 1) * 3 = o + j * 3 + 3 by omega]), Lib.hid (by have h := HN.out; simpa using h), HB2.out⟩
        case measure => simp [intOf]; omega
      | false =>
        have HN := Lib.hid hall'
        clear hall' hall
        go_wp2_with fail
        refine HC.out.mono ?_
        rintro e w2 ⟨rfl, hb2⟩
        have HB2 := Lib.hid (Below.step hb (Below.step HBK.out hb2 (Nat.le_refl _)) (Nat.le_refl _))
        clear hb2
        go_wp2_with fail
        go_ret
        exact ⟨by have h := HN.out; simp at h; rw [← h]; rfl, HB2.out⟩
theorem noneg_of {p m : Int} : ∀ {f : Fo} {d : Int}, rAll p m f d = true → noneg f
  | .nil, _, _ => trivial
  | .cons k n ks r, d, h => by
    simp only [rAll, Bool.and_eq_true] at h
    have h1 := node_fits0 h.1
    exact ⟨h1.1, noneg_of h1.2, noneg_of h.2⟩
theorem right_parts {k n : Int} {f : Fo} (h : rightB 5 10 k n f = true) : 0 ≤ n ∧ noneg f ∧ f.size ≤ 99 := by
  unfold rightB at h
  simp only [Bool.and_eq_true, decide_eq_true_eq] at h
  have h1 := node_fits0 (p := 5) (m := 10) (k := k) (n := n) (f := f) (d := 12) h.2.2
  exact ⟨h1.1, noneg_of h1.2, by omega⟩
theorem allR_size : ∀ {F : Fo}, allR F = true → F.size ≤ 100 * F.len
  | .nil, _ => Nat.zero_le _
  | .cons k n ks r, h => by
    simp only [allR, Bool.and_eq_true] at h
    have h1 := (right_parts h.1).2.2
    have h2 := allR_size (F := r) h.2
    simp only [Fo.size, Fo.len]
    omega
def rightT : Fo → Bool
  | .cons k n ks .nil => rightB 5 10 k n ks
  | _ => false
def okS (P Q : Fo) (k n : Int) (f : Fo) : Bool := decide (P.len ≤ 5) && (decide (Q.len ≤ 10) && (rightB 5 10 k n f && (allR P && allR Q)))
def subE (P Q : Fo) (k n : Int) (f : Fo) : Int := if okS P Q k n f = true then (if rightT (sb1 P Q k n (sbF P Q f)) = true then 0 else 2) else 1
def subT (P Q : Fo) (k n : Int) (f : Fo) : Fo := if subE P Q k n f = 0 then sb1 P Q k n (sbF P Q f) else .cons 0 0 .nil .nil
theorem okS_1 {P Q : Fo} {k n : Int} {f : Fo} (h : okS P Q k n f = false) : subE P Q k n f = 1 ∧ subT P Q k n f = .cons 0 0 .nil .nil := by
  have e : subE P Q k n f = 1 := by unfold subE; rw [h]; rfl
  exact ⟨e, by unfold subT; rw [e]; rfl⟩
end Go.Proofs.YtnfhpombnbpdcaaGreat
namespace Go.Proofs.YtnfhpombnbpdcaaGreat
open Go.RowKit
def SuW (w : World) (k n : Int) (f P Q : Fo) (a ap aq : Option Addr) (cap cp cq : Nat) : World :=
  (((w.alloc (.cells #[.int .i64 k, .int .i64 n, .slice a f.len cap] 45)).alloc (.cells #[.slice ap P.len cp] 27)).alloc (.cells #[.slice aq Q.len cq] 27)).alloc (.cells #[.int .i64 0, .int .i64 0, .slice none 0 0] 45)
theorem suW_at {w w1 : World} {k n : Int} {f P Q : Fo} {a ap aq : Option Addr} {cap cp cq : Nat} (hb : Below (w.heap.size + 1 + 1 + 1 + 1) (SuW w k n f P Q a ap aq cap cp cq) w1) :
    w1.heap[w.heap.size]? = some (.cells #[.int .i64 k, .int .i64 n, .slice a f.len cap] 45 (0, 0)) ∧ w1.heap[w.heap.size + 1]? = some (.cells #[.slice ap P.len cp] 27 (0, 0)) ∧ w1.heap[w.heap.size + 1 + 1]? = some (.cells #[.slice aq Q.len cq] 27 (0, 0)) ∧
    w1.heap[w.heap.size + 1 + 1 + 1]? = some (.cells #[.int .i64 0, .int .i64 0, .slice none 0 0] 45 (0, 0)) ∧ Below w.heap.size w w1 ∧ w.heap.size + 1 + 1 + 1 + 1 ≤ w1.heap.size := by
  unfold SuW at hb
  generalize h1 : w.alloc (.cells #[.int .i64 k, .int .i64 n, .slice a f.len cap] 45) = W1 at hb
  have z1 : W1.heap.size = w.heap.size + 1 := by rw [← h1]; simp
  have e1 := heap_new w (.cells #[.int .i64 k, .int .i64 n, .slice a f.len cap] 45)
  rw [h1] at e1
  have b1 : Below w.heap.size w W1 := by rw [← h1]; exact (Below.refl _ _).alloc (Nat.le_refl _) _
  generalize h2 : W1.alloc (.cells #[.slice ap P.len cp] 27) = W2 at hb
  have z2 : W2.heap.size = w.heap.size + 1 + 1 := by rw [← h2, World.size_alloc, z1]
  have e2 := heap_new W1 (.cells #[.slice ap P.len cp] 27)
  rw [h2, z1] at e2
  have b2 : Below (w.heap.size + 1) W1 W2 := by rw [← h2]; exact (Below.refl _ _).alloc (by omega) _
  generalize h3 : W2.alloc (.cells #[.slice aq Q.len cq] 27) = W3 at hb
  have z3 : W3.heap.size = w.heap.size + 1 + 1 + 1 := by rw [← h3, World.size_alloc, z2]
  have e3 := heap_new W2 (.cells #[.slice aq Q.len cq] 27)
  rw [h3, z2] at e3
  have b3 : Below (w.heap.size + 1 + 1) W2 W3 := by rw [← h3]; exact (Below.refl _ _).alloc (by omega) _
  generalize h4 : W3.alloc (.cells #[.int .i64 0, .int .i64 0, .slice none 0 0] 45) = W4 at hb
  have z4 : W4.heap.size = w.heap.size + 1 + 1 + 1 + 1 := by rw [← h4, World.size_alloc, z3]
  have e4 := heap_new W3 (.cells #[.int .i64 0, .int .i64 0, .slice none 0 0] 45)
  rw [h4, z3] at e4
  have b4 : Below (w.heap.size + 1 + 1 + 1) W3 W4 := by rw [← h4]; exact (Below.refl _ _).alloc (by omega) _
  refine ⟨(hb.block _ (by omega)).trans ((b4.block _ (by omega)).trans ((b3.block _ (by omega)).trans ((b2.block _ (by omega)).trans e1))), (hb.block _ (by omega)).trans ((b4.block _ (by omega)).trans ((b3.block _ (by omega)).trans e2)), (hb.block _ (by omega)).trans ((b4.block _ (by omega)).trans e3), (hb.block _ (by omega)).trans e4, ?_, by have := hb.size; omega⟩
  exact (((b1.trans (b2.mono (by omega))).trans (b3.mono (by omega))).trans (b4.mono (by omega))).trans (hb.mono (by omega))
theorem suW_size (w : World) (k n : Int) (f P Q : Fo) (a ap aq : Option Addr) (cap cp cq : Nat) : (SuW w k n f P Q a ap aq cap cp cq).heap.size = w.heap.size + 1 + 1 + 1 + 1 := by simp [SuW]
theorem suW_step {w w1 w2 : World} {k n : Int} {f P Q : Fo} {a ap aq : Option Addr} {cap cp cq : Nat} (hb : Below (w.heap.size + 1 + 1 + 1 + 1) (SuW w k n f P Q a ap aq cap cp cq) w1) (hb2 : Below w1.heap.size w1 w2) : Below (w.heap.size + 1 + 1 + 1 + 1) (SuW w k n f P Q a ap aq cap cp cq) w2 :=
  Below.step hb hb2 (by rw [suW_size]; exact Nat.le_refl _)
theorem suW_cells {w w1 : World} {k n : Int} {f P Q : Fo} {a ap aq : Option Addr} {cap cp cq : Nat} (hb : Below (w.heap.size + 1 + 1 + 1 + 1) (SuW w k n f P Q a ap aq cap cp cq) w1) :
    w1.cell? ⟨w.heap.size, 0, none⟩ = some (.int .i64 k) ∧ w1.cell? ⟨w.heap.size, 1, none⟩ = some (.int .i64 n) ∧ w1.cell? ⟨w.heap.size, 2, none⟩ = some (.slice a f.len cap) ∧ w1.cell? ⟨w.heap.size + 1, 0, none⟩ = some (.slice ap P.len cp) ∧ w1.cell? ⟨w.heap.size + 1 + 1, 0, none⟩ = some (.slice aq Q.len cq) ∧
    w1.cell? ⟨w.heap.size + 1 + 1 + 1, 0, none⟩ = some (.int .i64 0) ∧ w1.cell? ⟨w.heap.size + 1 + 1 + 1, 1, none⟩ = some (.int .i64 0) ∧ w1.cell? ⟨w.heap.size + 1 + 1 + 1, 2, none⟩ = some (.slice none 0 0) ∧ (∀ o, w1.frozen? ⟨w.heap.size + 1 + 1 + 1, o, none⟩ = false) ∧ w.heap.size + 1 + 1 + 1 < w1.heap.size := by
  obtain ⟨h1, h2, h3, h4, _, h6⟩ := suW_at hb
  exact ⟨cell_at h1 0, cell_at h1 1, cell_at h1 2, cell_at h2 0, cell_at h3 0, cell_at h4 0, cell_at h4 1, cell_at h4 2, free_of h4, by omega⟩
end Go.Proofs.YtnfhpombnbpdcaaGreat
namespace Go.Proofs.YtnfhpombnbpdcaaGreat
open Go.RowKit
def SuPostB (B : Nat) (T : Fo) (E : Int) (w : World) (e : Ending) (w' : World) : Prop :=
  ∃ (k n : Int) (F : Fo) (x : Option Addr) (c : Nat), T = .cons k n F .nil ∧ e = .returned (.tuple #[.agg #[.int .i64 k, .int .i64 n, .slice x F.len c], .int .i64 E]) ∧ SlIn w' (fun b => (b < B ∨ w.heap.size ≤ b) ∧ b < w'.heap.size) F x c ∧ Below w.heap.size w w'
theorem SuPostB.no {B : Nat} {E : Int} {w w' : World} (h : Below w.heap.size w w') : SuPostB B (.cons 0 0 .nil .nil) E w (.returned (.tuple #[.agg #[.int .i64 0, .int .i64 0, .slice none 0 0], .int .i64 E])) w' := ⟨0, 0, .nil, none, 0, rfl, rfl, SlIn.none _ _, h⟩
end Go.Proofs.YtnfhpombnbpdcaaGreat
namespace Go.Proofs.YtnfhpombnbpdcaaGreat
open Go.RowKit
set_option maxRecDepth 100000 in
set_option maxHeartbeats 4000000 in
theorem copn_any (s : Nat) : ∀ (f : Fo), f.size < s → f.size ≤ 1000 → ∀ (k n : Int) (a : Option Addr) (cap B : Nat) (w : World), SlIn w (· < B) f a cap → B ≤ w.heap.size →
    Calls Tryz.prog 116 #[.agg #[.int .i64 k, .int .i64 n, .slice a f.len cap], .func (.func 119) #[] #[]] w (RpPost 0 (.cons k n f .nil) w) := by
  induction s with
  | zero => intro f hs; omega
  | succ s ih =>
    intro f hs hsz k n a cap B w hsl hB
    have IH := Lib.hid ih
    clear ih
    have hlen := hsl.len
    have HSL := Lib.hid hsl
    clear hsl
    go_enter Tryz.func116, Tryz.ntmps116
    go_wp2_with fail
    refine (nothing_any k n a f.len cap _).mono ?_
    rintro e w1 ⟨rfl, hb1⟩
    have hb2 : Below (w.heap.size + 1 + 1) ((w.alloc (.cells #[.int .i64 k, .int .i64 n, .slice a f.len cap] 45)).alloc (.cells #[.int .i64 0, .int .i64 0, .slice none 0 0] 45)) w1 := by simpa using hb1
    obtain ⟨k0, k1, k2, hw1, hb3⟩ := copy_box (k := k) (n := n) (len := f.len) hb2
    have HS : Hid (RpR w (w1.heap.size + 1) 0 k n .nil (.slice none 0 0) ((w1.alloc (.cells #[.int .i64 0, .int .i64 0, .slice none 0 0] 45)).alloc (.cells #[.int .i64 k, .int .i64 n, .slice none 0 0] 45))) := Lib.hid (RpR.start hb2 (Nat.zero_le _) _)
    clear hb1 hb2
    have hw0 : w.heap.size < w1.heap.size := by omega
    have hz1 := heap_old w1 (.cells #[.int .i64 0, .int .i64 0, .slice none 0 0] 45) hw0
    have k3 := (World.cell?_of_block (w := w1) (a := ⟨w.heap.size, 0, none⟩) hz1).trans k0
    have k4 := (World.cell?_of_block (w := w1) (a := ⟨w.heap.size, 1, none⟩) hz1).trans k1
    have k5 := (World.cell?_of_block (w := w1) (a := ⟨w.heap.size, 2, none⟩) ((heap_old (w1.alloc (.cells #[.int .i64 0, .int .i64 0, .slice none 0 0] 45)) (.cells #[.int .i64 k, .int .i64 n, .slice none 0 0] 45) (by simp; omega)).trans hz1)).trans k2
    clear hz1 k1 k2
    go_wp2_with fail
    go_loopw [27] (fun jv wr => ∃ (j : Nat) (G rest : Fo) (v : Value), jv = .int .i64 j ∧ Hid (f = G.app rest) ∧ Hid (G.len = j) ∧ Hid (RpR w (w1.heap.size + 1) 0 k n G v wr)) (fun jv _ => f.len - (intOf jv).toNat)
    case atStart => exact ⟨0, .nil, f, _, rfl, Lib.hid rfl, Lib.hid rfl, HS⟩
    case round =>
      obtain ⟨j, G, rest, v, rfl, hf, hj, hR⟩ := hrel
      obtain ⟨g0, g1, g2, gz, q0, q1, q2, qz, hob, hwr⟩ := hR.out.facts
      cases rest with
      | nil =>
        rw [foApp_nil'] at hf
        have hjl : ¬ (j : Int) < (f.len : Int) := by rw [hf.out, hj.out]; omega
        have dj : decide ((j : Int) < (f.len : Int)) = false := by simpa using hjl
        obtain ⟨x, c, rfl, hE⟩ := hR.out.done
        have HE := Lib.hid hE
        have HF := Lib.hid hf.out
        clear hE hR
        go_wp2_with fail
        refine bodyPost_ret (v := .agg #[.int .i64 k, .int .i64 n, .slice x G.len c]) (by simp [results, Tryz.results116, go_sem, g0, g1, g2]) rfl ?_
        rw [HF.out]
        exact HE.out
      | cons k' n' ks r' =>
        have hjn : j < f.len := by rw [hf.out, Fo.app_len, hj.out]; simp [Fo.len]
        have hjl : (j : Int) < (f.len : Int) := by omega
        obtain ⟨b, o, rfl, hbB, hf0⟩ := HSL.out.some (by omega)
        have hfa : FoIn w (· < B) (.cons k' n' ks r') b (o + j * 3) := by
          have h1 := hf0
          rw [hf.out] at h1
          rw [← hj.out]
          exact FoIn.behind G _ b o h1
        obtain ⟨e0, e1, ⟨a', cap', e2, hsl'⟩, _⟩ := (hfa.below (hwr.mono hB) _ _ _ hbB).first
        have hks : ks.size < s := by
          have h1 := hs
          rw [hf.out, Fo.app_size] at h1
          simp only [Fo.size] at h1
          omega
        have hBr : B ≤ wr.heap.size := Nat.le_trans hB hwr.size
        have hbk : Below wr.heap.size wr (wr.alloc (.cells #[.int .i64 k', .int .i64 n', .slice a' ks.len cap'] 45)).drew := ((Below.refl _ _).alloc (Nat.le_refl _) _).drew
        have HC : Hid (Calls Tryz.prog 116 #[.agg #[.int .i64 k', .int .i64 n', .slice a' ks.len cap'], .func (.func 119) #[] #[]] (wr.alloc (.cells #[.int .i64 k', .int .i64 n', .slice a' ks.len cap'] 45)).drew (RpPost 0 (.cons k' n' ks .nil) (wr.alloc (.cells #[.int .i64 k', .int .i64 n', .slice a' ks.len cap'] 45)).drew)) :=
          Lib.hid (IH.out ks hks (by have h1 := hsz; rw [hf.out, Fo.app_size] at h1; simp only [Fo.size] at h1; omega) k' n' a' cap' B _ (hsl'.below (hbk.mono hBr)) (Nat.le_trans hBr hbk.size))
        have HAP : Hid (∀ (e : Ending) (w2 : World), RpPost 0 (.cons k' n' ks .nil) (wr.alloc (.cells #[.int .i64 k', .int .i64 n', .slice a' ks.len cap'] 45)).drew e w2 → ∃ (x2 : Option Addr) (c2 : Nat), e = .returned (.agg #[.int .i64 k', .int .i64 n', .slice x2 ks.len c2]) ∧
            w2.cell? ⟨w1.heap.size + 1, 2, none⟩ = some v ∧ w1.heap.size + 1 < w2.heap.size ∧ (w2.alloc (.cells #[.int .i64 k', .int .i64 n', .slice x2 ks.len c2] 45)).cell? ⟨w1.heap.size + 1, 2, none⟩ = some v ∧
            ∃ g' cap' w3, Hid ((Builtin.append_ #[27, 27] 27 #[v, .slice (some ⟨w2.heap.size, 0, none⟩) 1 1]).run Tryz.prog (w2.alloc (.cells #[.int .i64 k', .int .i64 n', .slice x2 ks.len c2] 45)) = .ok (.slice (some ⟨g', 0, none⟩) (j + 1) cap') w3) ∧
              w3.cell? ⟨w1.heap.size + 1, 2, none⟩ = some v ∧ (∀ o, w3.frozen? ⟨w1.heap.size + 1, o, none⟩ = false) ∧ Hid (RpR w (w1.heap.size + 1) 0 k n (G.app (.cons k' n' ks .nil)) (.slice (some ⟨g', 0, none⟩) (j + 1) cap') (w3.setCell ⟨w1.heap.size + 1, 2, none⟩ (.slice (some ⟨g', 0, none⟩) (j + 1) cap')))) := Lib.hid (by
          rintro e w2 ⟨k2, n2, F2, x2, c2, hT, rfl, t1, t2⟩
          obtain ⟨rfl, rfl, rfl⟩ := one_eq hT
          have hG1 : G.len ≤ 1000 := by have h1 := Fo.len_le_size f; rw [hf.out, Fo.app_len, Fo.app_size] at h1; rw [hf.out, Fo.app_size] at hsz; omega
          have t3 : SlIn w2 (fun b => (b < 0 ∨ wr.heap.size ≤ b) ∧ b < w2.heap.size) ks x2 c2 := t1.weak (fun b hb => ⟨by have h1 := hb.1; simp at h1; omega, hb.2⟩)
          have t4 : Below wr.heap.size wr w2 := Below.trans (((Below.refl _ _).alloc (Nat.le_refl _) _).drew) (t2.mono (by simp))
          obtain ⟨L2, hlb2, g', cap', w3, hrun, L3, Z3, hN⟩ := RpR.next (k' := k') (n' := n') hR.out hG1 t3 t4
          rw [hj.out] at hrun hN
          exact ⟨x2, c2, rfl, L2, hlb2, (World.cell?_of_block (w := w2) (a := ⟨w1.heap.size + 1, 2, none⟩) (heap_old w2 _ hlb2)).trans L2, g', cap', w3, Lib.hid hrun, L3, Z3, Lib.hid hN⟩)
        have HSN : Hid (f = (G.app (.cons k' n' ks .nil)).app r') := Lib.hid (by rw [hf.out, foApp_assoc']; rfl)
        have HJ := Lib.hid hj.out
        clear hf hR hfa hf0 g0 g1 g2 gz q0 q1 qz k0 hbk
        go_wp2_with fail
        go_region_law (first
          | (refine step_append (by rfl) _ _ _ (by rfl) (by rfl) (by rfl) HRUN.out ?_)
          | (go_simp; go_at_call 116; refine HC.out.mono ?_; intro e w2 hP; obtain ⟨x2, c2, rfl, L2, hlb2, L2a, g', cap', w3, HRUN, L3, Z3, HN⟩ := HAP.out e w2 hP; clear hP))
        all_goals
          go_wp2_with fail
          go_roundw
          case rel => exact ⟨j + 1, _, r', _, by go_num, HSN, Lib.hid (by rw [Fo.app_len, HJ.out]; rfl), HN⟩
          case measure => simp [intOf]; omega
end Go.Proofs.YtnfhpombnbpdcaaGreat
