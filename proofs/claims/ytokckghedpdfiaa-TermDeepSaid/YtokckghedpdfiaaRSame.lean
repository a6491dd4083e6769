/- The contract of the document's own Same: whether two levels are the same. -/
import Derived.Test.YtokckghedpdfiaaTree
import Derived.Deep.RegionHeld3
namespace Go.Proofs.Ytokckghedpdfiaa
open Go.RowKit

/-- What the region of the call holds on to, in a world that is only more. -/
theorem heldT {wr w' : World} {x y b b' o o' j cap cap' cap1 cap2 L : Nat} {k1 n1 k2 n2 : Int} {a1 a2 : Option Addr} {l l' : Nat} (hb : Below wr.heap.size wr w') (hx : x < wr.heap.size) (hy : y < wr.heap.size) (h1 : b < wr.heap.size) (h2 : b' < wr.heap.size)
    (c2 : wr.cell? ⟨x, 2, none⟩ = some (.slice (some ⟨b, o, none⟩) L cap)) (c5 : wr.cell? ⟨y, 2, none⟩ = some (.slice (some ⟨b', o', none⟩) L cap'))
    (e0 : wr.cell? ⟨b, o + j * 3, none⟩ = some (.int .i64 k1)) (e1 : wr.cell? ⟨b, o + j * 3 + 1, none⟩ = some (.int .i64 n1)) (e2 : wr.cell? ⟨b, o + j * 3 + 2, none⟩ = some (.slice a1 l cap1))
    (e3 : wr.cell? ⟨b', o' + j * 3, none⟩ = some (.int .i64 k2)) (e4 : wr.cell? ⟨b', o' + j * 3 + 1, none⟩ = some (.int .i64 n2)) (e5 : wr.cell? ⟨b', o' + j * 3 + 2, none⟩ = some (.slice a2 l' cap2)) :
    Hid (Below wr.heap.size wr w') ∧ w'.cell? ⟨x, 2, none⟩ = some (.slice (some ⟨b, o, none⟩) L cap) ∧ w'.cell? ⟨y, 2, none⟩ = some (.slice (some ⟨b', o', none⟩) L cap') ∧
      w'.cell? ⟨b, o + j * 3, none⟩ = some (.int .i64 k1) ∧ w'.cell? ⟨b, o + j * 3 + 1, none⟩ = some (.int .i64 n1) ∧ w'.cell? ⟨b, o + j * 3 + 2, none⟩ = some (.slice a1 l cap1) ∧
      w'.cell? ⟨b', o' + j * 3, none⟩ = some (.int .i64 k2) ∧ w'.cell? ⟨b', o' + j * 3 + 1, none⟩ = some (.int .i64 n2) ∧ w'.cell? ⟨b', o' + j * 3 + 2, none⟩ = some (.slice a2 l' cap2) :=
  ⟨Lib.hid hb, (bcell hb _ _ hx).trans c2, (bcell hb _ _ hy).trans c5, (bcell hb _ _ h1).trans e0, (bcell hb _ _ h1).trans e1, (bcell hb _ _ h1).trans e2, (bcell hb _ _ h2).trans e3, (bcell hb _ _ h2).trans e4, (bcell hb _ _ h2).trans e5⟩

set_option maxRecDepth 100000 in
set_option maxHeartbeats 2000000 in
theorem rSame_any (s : Nat) : ∀ (f g : Fo), f.size < s → ∀ (k n k' n' : Int) (a a' : Option Addr) (cap cap' B : Nat) (w : World), SlIn w (· < B) f a cap → SlIn w (· < B) g a' cap' → B ≤ w.heap.size →
    Calls Try.prog 39 #[.agg #[.int .i64 k, .int .i64 n, .slice a f.len cap], .agg #[.int .i64 k', .int .i64 n', .slice a' g.len cap']] w fun e w' => e = .returned (.bool (decide (k = k' ∧ n = n' ∧ f = g))) ∧ Below w.heap.size w w' := by
  induction s with
  | zero => intro f g hs; omega
  | succ s ih =>
    intro f g hs k n k' n' a a' cap cap' B w hsl hsl' hB
    have IH := Lib.hid ih
    clear ih
    have hlen := hsl.len
    have hlen' := hsl'.len
    have hbx : Below w.heap.size w ((w.alloc (.cells #[.int .i64 k, .int .i64 n, .slice a f.len cap] 33)).alloc (.cells #[.int .i64 k', .int .i64 n', .slice a' g.len cap'] 33)) := ((Below.refl _ _).alloc (Nat.le_refl _) _).alloc (by simp) _
    by_cases h1 : k = k'
    · by_cases h2 : n = n'
      · by_cases h3 : f.len = g.len
        · subst h1 h2
          have HP : Hid (decide (k = k ∧ n = n ∧ f = g) = decide (f = g)) := Lib.hid (by simp)
          rw [HP.out]
          obtain ⟨L, hLf, hLg⟩ : ∃ L, f.len = L ∧ g.len = L := ⟨_, h3, rfl⟩
          have H3 := Lib.hid hLf
          have HL := Lib.hid hLg
          rw [hLf] at hlen
          rw [hLf, hLg] at hbx
          rw [hLf, hLg]
          clear h3 hLf hLg HP hlen'
          go_enter Try.func39, Try.ntmps39
          go_wp2_with fail
          go_loopw [5] (fun i wr => ∃ (j : Nat) (r r' : Fo), i = .int .i64 j ∧ Hid (j + r.len = L) ∧ Hid (r.len = r'.len) ∧ Hid (r.size ≤ f.size) ∧
              Hid (∀ b o, a = some ⟨b, o, none⟩ → FoIn w (· < B) r b (o + j * 3)) ∧ Hid (∀ b o, a' = some ⟨b, o, none⟩ → FoIn w (· < B) r' b (o + j * 3)) ∧ Hid (decide (f = g) = decide (r = r')) ∧
              Below (w.heap.size + 2) ((w.alloc (.cells #[.int .i64 k, .int .i64 n, .slice a L cap] 33)).alloc (.cells #[.int .i64 k, .int .i64 n, .slice a' L cap'] 33)) wr)
            (fun i _ => L - (intOf i).toNat)
          case atStart => exact ⟨0, f, g, rfl, Lib.hid (by rw [H3.out]; omega), Lib.hid (by rw [H3.out, HL.out]), Lib.hid (Nat.le_refl _), Lib.hid (by rintro b o rfl; simpa using hsl.foIn), Lib.hid (by rintro b o rfl; simpa using hsl'.foIn), Lib.hid rfl, Below.refl _ _⟩
          case round =>
            obtain ⟨j, r, r', rfl, hj, hjj, hrs, hin, hin', heq, hb⟩ := hrel
            have c2 := bcell hb w.heap.size 2 (by omega)
            have c5 := bcell hb (w.heap.size + 1) 2 (by omega)
            simp at c2 c5
            have hwB : Below B w wr := (hbx.mono hB).trans (hb.mono (by omega))
            have hwW : Below w.heap.size w wr := hbx.trans (hb.mono (by omega))
            have HSZ : Hid (w.heap.size + 2 ≤ wr.heap.size) := Lib.hid (by have := hb.size; simpa using this)
            match r, r' with
            | .nil, .cons .. => have := hjj.out; simp [Fo.len] at this
            | .cons .., .nil => have := hjj.out; simp [Fo.len] at this
            | .nil, .nil =>
              have hlt : ¬ (j : Int) < (L : Int) := by have := hj.out; simp [Fo.len] at this; omega
              have d' : decide ((j : Int) < (L : Int)) = false := by simpa using hlt
              go_wp2_with fail
              go_ret
              exact ⟨by rw [heq.out]; rfl, hwW⟩
            | .cons k1 n1 ks r1, .cons k2 n2 ks' r2 =>
              have hlt : j < L := by have := hj.out; simp [Fo.len] at this; omega
              obtain ⟨b, o, rfl, hbB, _⟩ := hsl.some (by rw [H3.out]; omega)
              obtain ⟨b', o', rfl, hbB', _⟩ := hsl'.some (by rw [HL.out]; omega)
              obtain ⟨e0, e1, ⟨a1, cap1, e2, hsl1⟩, _⟩ := (hin.out b o rfl).below hwB _ _ _ hbB |>.first
              obtain ⟨e3, e4, ⟨a2, cap2, e5, hsl2⟩, _⟩ := (hin'.out b' o' rfl).below hwB _ _ _ hbB' |>.first
              have hks : ks.size < s := by have := hrs.out; simp [Fo.size] at this; omega
              have HC : Hid (∀ v, decide (k1 = k2 ∧ n1 = n2 ∧ ks = ks') = v → decide (Fo.cons k1 n1 ks r1 = Fo.cons k2 n2 ks' r2) = (v && decide (r1 = r2))) := Lib.hid (by
                rintro v rfl
                rw [Bool.eq_iff_iff]
                simp [and_assoc])
              have C1 := Lib.hid (fun W h1 h2 h3 => IH.out ks ks' hks k1 n1 k2 n2 a1 a2 cap1 cap2 B W h1 h2 h3)
              generalize hv : decide (k1 = k2 ∧ n1 = n2 ∧ ks = ks') = v at C1
              have HC' := Lib.hid (HC.out v hv)
              clear HC hv
              have hlt' : (j : Int) < (L : Int) := by omega
              go_wp2_with fail
              go_region_held3 (fun w' => Hid (Below wr.heap.size wr w') ∧ w'.cell? ⟨w.heap.size, 2, none⟩ = some (.slice (some ⟨b, o, none⟩) L cap) ∧ w'.cell? ⟨w.heap.size + 1, 2, none⟩ = some (.slice (some ⟨b', o', none⟩) L cap') ∧
                  w'.cell? ⟨b, o + j * 3, none⟩ = some (.int .i64 k1) ∧ w'.cell? ⟨b, o + j * 3 + 1, none⟩ = some (.int .i64 n1) ∧ w'.cell? ⟨b, o + j * 3 + 2, none⟩ = some (.slice a1 ks.len cap1) ∧
                  w'.cell? ⟨b', o' + j * 3, none⟩ = some (.int .i64 k2) ∧ w'.cell? ⟨b', o' + j * 3 + 1, none⟩ = some (.int .i64 n2) ∧ w'.cell? ⟨b', o' + j * 3 + 2, none⟩ = some (.slice a2 ks'.len cap2))
                (first | exact ⟨Lib.hid (Below.refl _ _).drew, c2, c5, e0, e1, e2, e3, e4, e5⟩ | exact heldT (Below.step (Below.refl _ _).drew hbN (Nat.le_refl _)) (by have := HSZ.out; omega) (by have := HSZ.out; omega) (by have := HSZ.out; omega) (by have := HSZ.out; omega) c2 c5 e0 e1 e2 e3 e4 e5)
                (first | (go_at_call 39; refine (C1.out _ (by exact hsl1.below (Below.refl _ _).drew) (by exact hsl2.below (Below.refl _ _).drew) (by exact Nat.le_trans hB hwB.size)).mono ?_; rintro e wN ⟨rfl, hbN⟩))
              have hbE := Lib.hid (Below.step hb (Below.step (Below.refl _ _).drew hbN (Nat.le_refl _)) (by simp))
              have hwE := Lib.hid (Below.step hwW (Below.step (Below.refl _ _).drew hbN (Nat.le_refl _)) (Nat.le_refl _))
              clear c2 c5 e0 e1 e2 e3 e4 e5
              cases v with
              | true =>
                go_wp2_with fail
                go_roundw
                case rel => exact ⟨j + 1, r1, r2, by go_num, Lib.hid (by have := hj.out; simp [Fo.len] at this; omega), Lib.hid (by have := hjj.out; simpa [Fo.len] using this), Lib.hid (by have := hrs.out; simp [Fo.size] at this; omega), Lib.hid (by rintro b' o' h; cases h; have := (hin.out b o rfl).2.2.2; rwa [show o + (j + 1) * 3 = o + j * 3 + 3 by omega]), Lib.hid (by rintro b1 o1 h; cases h; have := (hin'.out b' o' rfl).2.2.2; rwa [show o' + (j + 1) * 3 = o' + j * 3 + 3 by omega]), Lib.hid (by rw [heq.out, HC'.out]; rfl), hbE.out⟩
                case measure => simp [intOf]; omega
              | false =>
                go_wp2_with fail
                go_ret
                exact ⟨by rw [heq.out, HC'.out]; rfl, hwE.out⟩
        · have d3 : ((f.len : Int) != (g.len : Int)) = true := by rw [bne_iff_ne]; omega
          have e : decide (k = k' ∧ n = n' ∧ f = g) = false := decide_eq_false (fun h => h3 (by rw [h.2.2]))
          rw [e]
          subst h1 h2
          clear e h3
          go_enter Try.func39, Try.ntmps39
          go_wp2_with fail
          go_ret
          exact ⟨rfl, hbx⟩
      · have d2 : (n != n') = true := by rw [bne_iff_ne]; exact h2
        have e : decide (k = k' ∧ n = n' ∧ f = g) = false := decide_eq_false (fun h => h2 h.2.1)
        rw [e]
        subst h1
        clear e h2
        go_enter Try.func39, Try.ntmps39
        go_wp2_with fail
        go_ret
        exact ⟨rfl, hbx⟩
    · have d1 : (k != k') = true := by rw [bne_iff_ne]; exact h1
      have e : decide (k = k' ∧ n = n' ∧ f = g) = false := decide_eq_false (fun h => h1 h.1)
      rw [e]
      clear e h1
      go_enter Try.func39, Try.ntmps39
      go_wp2_with fail
      go_ret
      exact ⟨rfl, hbx⟩
end Go.Proofs.Ytokckghedpdfiaa
