/- The contract of the document's own Same of terms. No condition but that they lie in memory. -/
import Derived.Test.YthnkoamabfaioaaTt
import Derived.Test.YthnkoamabfaioaaZP3
import Derived.Deep.RegionHeld3
import Derived.Test.YthnkoamabfaioaaUrget
import Derived.Test.YthnkoamabfaioaaZP1
import Derived.Test.YthnkoamabfaioaaZP0
import Derived.Lib.SmallJoins
import Derived.Test.YthnkoamabfaioaaZP2
import Derived.Test.YthnkoamabfaioaaTspec
import Derived.MapKept
import Derived.LoopTactic
import Derived.WalkKit
import Derived.ProofKit
namespace Go.Proofs.Ythnkoamabfaioaa
open Go.RowKit

theorem heldT3 {wr w' : World} {x y b b' i i' c : Nat} {s1 s2 k1 n1 a1 k2 n2 a2 : Value} (hb : Below wr.heap.size wr w') (hx : x < wr.heap.size) (hy : y < wr.heap.size) (h1 : b < wr.heap.size) (h2 : b' < wr.heap.size)
    (c2 : wr.cell? ⟨x, c, none⟩ = some s1) (c5 : wr.cell? ⟨y, c, none⟩ = some s2)
    (e0 : wr.cell? ⟨b, i, none⟩ = some k1) (e1 : wr.cell? ⟨b, i + 1, none⟩ = some n1) (e2 : wr.cell? ⟨b, i + 2, none⟩ = some a1)
    (e3 : wr.cell? ⟨b', i', none⟩ = some k2) (e4 : wr.cell? ⟨b', i' + 1, none⟩ = some n2) (e5 : wr.cell? ⟨b', i' + 2, none⟩ = some a2) :
    Hid (Below wr.heap.size wr w') ∧ w'.cell? ⟨x, c, none⟩ = some s1 ∧ w'.cell? ⟨y, c, none⟩ = some s2 ∧ w'.cell? ⟨b, i, none⟩ = some k1 ∧ w'.cell? ⟨b, i + 1, none⟩ = some n1 ∧ w'.cell? ⟨b, i + 2, none⟩ = some a1 ∧ w'.cell? ⟨b', i', none⟩ = some k2 ∧ w'.cell? ⟨b', i' + 1, none⟩ = some n2 ∧ w'.cell? ⟨b', i' + 2, none⟩ = some a2 :=
  ⟨Lib.hid hb, (bcell hb _ _ hx).trans c2, (bcell hb _ _ hy).trans c5, (bcell hb _ _ h1).trans e0, (bcell hb _ _ h1).trans e1, (bcell hb _ _ h1).trans e2, (bcell hb _ _ h2).trans e3, (bcell hb _ _ h2).trans e4, (bcell hb _ _ h2).trans e5⟩
theorem heldT4 {wr w' : World} {x y b b' i i' c : Nat} {s1 s2 k1 n1 a1 f1 k2 n2 a2 f2 : Value} (hb : Below wr.heap.size wr w') (hx : x < wr.heap.size) (hy : y < wr.heap.size) (h1 : b < wr.heap.size) (h2 : b' < wr.heap.size)
    (c2 : wr.cell? ⟨x, c, none⟩ = some s1) (c5 : wr.cell? ⟨y, c, none⟩ = some s2)
    (e0 : wr.cell? ⟨b, i, none⟩ = some k1) (e1 : wr.cell? ⟨b, i + 1, none⟩ = some n1) (e2 : wr.cell? ⟨b, i + 2, none⟩ = some a1) (e2' : wr.cell? ⟨b, i + 3, none⟩ = some f1)
    (e3 : wr.cell? ⟨b', i', none⟩ = some k2) (e4 : wr.cell? ⟨b', i' + 1, none⟩ = some n2) (e5 : wr.cell? ⟨b', i' + 2, none⟩ = some a2) (e5' : wr.cell? ⟨b', i' + 3, none⟩ = some f2) :
    Hid (Below wr.heap.size wr w') ∧ w'.cell? ⟨x, c, none⟩ = some s1 ∧ w'.cell? ⟨y, c, none⟩ = some s2 ∧ w'.cell? ⟨b, i, none⟩ = some k1 ∧ w'.cell? ⟨b, i + 1, none⟩ = some n1 ∧ w'.cell? ⟨b, i + 2, none⟩ = some a1 ∧ w'.cell? ⟨b, i + 3, none⟩ = some f1 ∧ w'.cell? ⟨b', i', none⟩ = some k2 ∧ w'.cell? ⟨b', i' + 1, none⟩ = some n2 ∧ w'.cell? ⟨b', i' + 2, none⟩ = some a2 ∧ w'.cell? ⟨b', i' + 3, none⟩ = some f2 :=
  ⟨Lib.hid hb, (bcell hb _ _ hx).trans c2, (bcell hb _ _ hy).trans c5, (bcell hb _ _ h1).trans e0, (bcell hb _ _ h1).trans e1, (bcell hb _ _ h1).trans e2, (bcell hb _ _ h1).trans e2', (bcell hb _ _ h2).trans e3, (bcell hb _ _ h2).trans e4, (bcell hb _ _ h2).trans e5, (bcell hb _ _ h2).trans e5'⟩

set_option maxRecDepth 100000 in
set_option maxHeartbeats 4000000 in
theorem r13same_any (s : Nat) : ∀ (f g : Ft), f.size < s → ∀ (k n k' n' : Int) (ls ls' : Fo) (la la' a a' : Option Addr) (lc lc' cap cap' B : Nat) (w : World), SlIn w (· < B) ls la lc → SlIn w (· < B) ls' la' lc' → TlIn w (· < B) f a cap → TlIn w (· < B) g a' cap' → B ≤ w.heap.size →
    Calls Try.prog 18 #[.agg #[.int .i64 k, .int .i64 n, .slice la ls.len lc, .slice a f.len cap], .agg #[.int .i64 k', .int .i64 n', .slice la' ls'.len lc', .slice a' g.len cap']] w fun e w' => e = .returned (.bool (decide (Ft.cons k n ls f .nil = Ft.cons k' n' ls' g .nil))) ∧ Below w.heap.size w w' := by
  induction s with
  | zero => intro f g hs; omega
  | succ s ih =>
    intro f g hs k n k' n' ls ls' la la' a a' lc lc' cap cap' B w hl hl' hsl hsl' hB
    have IH := Lib.hid ih
    clear ih
    have hlen := hsl.len
    have hlen2 := hl.len
    have hbx : Below w.heap.size w ((w.alloc (.cells #[.int .i64 k, .int .i64 n, .slice la ls.len lc, .slice a f.len cap] 29)).alloc (.cells #[.int .i64 k', .int .i64 n', .slice la' ls'.len lc', .slice a' g.len cap'] 29)) := ((Below.refl _ _).alloc (Nat.le_refl _) _).alloc (by simp) _
    by_cases h1 : k = k'
    · by_cases h2 : n = n'
      · by_cases h3 : ls.len = ls'.len
        · by_cases h4 : f.len = g.len
          · subst h1 h2
            have HP : Hid (decide (Ft.cons k n ls f .nil = Ft.cons k n ls' g .nil) = decide (ls = ls' ∧ f = g)) := Lib.hid (by simp)
            generalize decide (Ft.cons k n ls f .nil = Ft.cons k n ls' g .nil) = res at HP
            obtain ⟨M, hMf, hMg⟩ : ∃ M, ls.len = M ∧ ls'.len = M := ⟨_, h3, rfl⟩
            obtain ⟨L, hLf, hLg⟩ : ∃ L, f.len = L ∧ g.len = L := ⟨_, h4, rfl⟩
            have H3 := Lib.hid hLf
            have HL := Lib.hid hLg
            have M3 := Lib.hid hMf
            have ML := Lib.hid hMg
            rw [hLf] at hlen
            rw [hMf] at hlen2
            rw [hLf, hLg, hMf, hMg] at hbx
            rw [hLf, hLg, hMf, hMg]
            clear h3 h4 hLf hLg hMf hMg
            go_enter Try.func18, Try.ntmps18
            go_wp2_with fail
            go_loopw [5] (fun i wr => ∃ (j : Nat) (r r' : Fo), i = .int .i64 j ∧ Hid (j + r.len = M) ∧ Hid (r.len = r'.len) ∧
                Hid (∀ b o, la = some ⟨b, o, none⟩ → FoIn w (· < B) r b (o + j * 3)) ∧ Hid (∀ b o, la' = some ⟨b, o, none⟩ → FoIn w (· < B) r' b (o + j * 3)) ∧ Hid (res = decide (r = r' ∧ f = g)) ∧
                Hid (Below (w.heap.size + 2) ((w.alloc (.cells #[.int .i64 k, .int .i64 n, .slice la M lc, .slice a L cap] 29)).alloc (.cells #[.int .i64 k, .int .i64 n, .slice la' M lc', .slice a' L cap'] 29)) wr))
              (fun i _ => M - (intOf i).toNat)
            case atStart => exact ⟨0, ls, ls', rfl, Lib.hid (by rw [M3.out]; omega), Lib.hid (by rw [M3.out, ML.out]), Lib.hid (by rintro b o rfl; simpa using hl.foIn), Lib.hid (by rintro b o rfl; simpa using hl'.foIn), HP, Lib.hid (Below.refl _ _)⟩
            case round =>
              obtain ⟨j, r, r', rfl, hj, hjj, hin, hin', heq, hb⟩ := hrel
              have c2 := bcell hb.out w.heap.size 2 (by omega)
              have c3 := bcell hb.out w.heap.size 3 (by omega)
              have c5 := bcell hb.out (w.heap.size + 1) 2 (by omega)
              have c6 := bcell hb.out (w.heap.size + 1) 3 (by omega)
              simp at c2 c3 c5 c6
              have HSZ : Hid (w.heap.size + 2 ≤ wr.heap.size) := Lib.hid (by have := hb.out.size; simpa using this)
              have HWW : Hid (Below w.heap.size w wr) := Lib.hid (hbx.trans (hb.out.mono (by omega)))
              match r, r', hj, hjj, hin, hin', heq with
              | .nil, .cons .., _, hjj, _, _, _ => have := hjj.out; simp [Fo.len] at this
              | .cons .., .nil, _, hjj, _, _, _ => have := hjj.out; simp [Fo.len] at this
              | .nil, .nil, hj, _, _, _, heq =>
                have hlt : ¬ (j : Int) < (M : Int) := by have := hj.out; simp [Fo.len] at this; omega
                have d' : decide ((j : Int) < (M : Int)) = false := by simpa using hlt
                have HP2 : Hid (res = decide (f = g)) := Lib.hid (by rw [heq.out]; simp)
                have HB2 := hb
                clear heq hj
                have W1 : ∃ W, W = wr := ⟨_, rfl⟩
                obtain ⟨W, hW⟩ := W1
                rw [← hW] at c2 c3 c5 c6 HSZ HWW HB2 hb ⊢
                clear hb hW
                go_wp2_with fail
                go_loopw [6] (fun i wr => ∃ (j : Nat) (r r' : Ft), i = .int .i64 j ∧ Hid (j + r.len = L) ∧ Hid (r.len = r'.len) ∧ Hid (r.size ≤ f.size) ∧
                    Hid (∀ b o, a = some ⟨b, o, none⟩ → FtIn w (· < B) r b (o + j * 4)) ∧ Hid (∀ b o, a' = some ⟨b, o, none⟩ → FtIn w (· < B) r' b (o + j * 4)) ∧ Hid (res = decide (r = r')) ∧
                    Hid (Below (w.heap.size + 2) ((w.alloc (.cells #[.int .i64 k, .int .i64 n, .slice la M lc, .slice a L cap] 29)).alloc (.cells #[.int .i64 k, .int .i64 n, .slice la' M lc', .slice a' L cap'] 29)) wr))
                  (fun i _ => L - (intOf i).toNat)
                case atStart => exact ⟨0, f, g, rfl, Lib.hid (by rw [H3.out]; omega), Lib.hid (by rw [H3.out, HL.out]), Lib.hid (Nat.le_refl _), Lib.hid (by rintro b o rfl; simpa using hsl.ftIn), Lib.hid (by rintro b o rfl; simpa using hsl'.ftIn), HP2, HB2⟩
                case round =>
                  clear c2 c3 c5 c6 d' hlt
                  obtain ⟨j, r, r', rfl, hj, hjj, hrs, hin, hin', heq, hb⟩ := hrel
                  have c3 := bcell hb.out w.heap.size 3 (by omega)
                  have c6 := bcell hb.out (w.heap.size + 1) 3 (by omega)
                  simp at c3 c6
                  have HWr : Hid (Below w.heap.size w wr) := Lib.hid (hbx.trans (hb.out.mono (by omega)))
                  have hwB : Below B w wr := HWr.out.mono hB
                  have HSZ : Hid (w.heap.size + 2 ≤ wr.heap.size) := Lib.hid (by have := hb.out.size; simpa using this)
                  match r, r', hj, hjj, hrs, hin, hin', heq with
                  | .nil, .cons .., _, hjj, _, _, _, _ => have := hjj.out; simp [Ft.len] at this
                  | .cons .., .nil, _, hjj, _, _, _, _ => have := hjj.out; simp [Ft.len] at this
                  | .nil, .nil, hj, _, _, _, _, heq =>
                    have hlt : ¬ (j : Int) < (L : Int) := by have := hj.out; simp [Ft.len] at this; omega
                    have d' : decide ((j : Int) < (L : Int)) = false := by simpa using hlt
                    go_wp2_with fail
                    go_ret
                    exact ⟨by rw [heq.out]; rfl, HWr.out⟩
                  | .cons k1 n1 l1 ks r1, .cons k2 n2 l2 ks' r2, hj, hjj, hrs, hin, hin', heq =>
                    have hlt : j < L := by have := hj.out; simp [Ft.len] at this; omega
                    have hlt' : (j : Int) < (L : Int) := by omega
                    obtain ⟨b, o, rfl, hbB, _⟩ := hsl.some (by rw [H3.out]; omega)
                    obtain ⟨b', o', rfl, hbB', _⟩ := hsl'.some (by rw [HL.out]; omega)
                    obtain ⟨e0, e1, ⟨u1, v1, e2, hl1⟩, ⟨a1, cap1, e2', hsl1⟩, _⟩ := (hin.out b o rfl).below hwB _ _ _ hbB |>.first
                    obtain ⟨e3, e4, ⟨u2, v2, e5, hl2⟩, ⟨a2, cap2, e5', hsl2⟩, _⟩ := (hin'.out b' o' rfl).below hwB _ _ _ hbB' |>.first
                    have hks : ks.size < s := by have := hrs.out; simp [Ft.size] at this; omega
                    have HC : Hid (∀ v, decide (Ft.cons k1 n1 l1 ks .nil = Ft.cons k2 n2 l2 ks' .nil) = v → decide (Ft.cons k1 n1 l1 ks r1 = Ft.cons k2 n2 l2 ks' r2) = (v && decide (r1 = r2))) := Lib.hid (by
                      rintro v rfl
                      rw [Bool.eq_iff_iff]
                      simp [and_assoc])
                    have hbr : b < wr.heap.size := by have := HWr.out.size; omega
                    have hbr' : b' < wr.heap.size := by have := HWr.out.size; omega
                    have hz1 : w.heap.size < wr.heap.size := by have := HSZ.out; omega
                    have hz2 : w.heap.size + 1 < wr.heap.size := by have := HSZ.out; omega
                    have hBr : B ≤ wr.heap.size := Nat.le_trans hB HWr.out.size
                    have C1 := Lib.hid (IH.out ks ks' hks k1 n1 k2 n2 l1 l2 u1 u2 a1 a2 v1 v2 cap1 cap2 B wr.drew (hl1.below (Below.refl _ _).drew) (hl2.below (Below.refl _ _).drew) (hsl1.below (Below.refl _ _).drew) (hsl2.below (Below.refl _ _).drew) hBr)
                    generalize hv : decide (Ft.cons k1 n1 l1 ks .nil = Ft.cons k2 n2 l2 ks' .nil) = v at C1
                    have HC' := Lib.hid (HC.out v hv)
                    clear HC hv hl1 hl2 hsl1 hsl2
                    go_wp2_with fail
                    go_region_held3 (fun w' => Hid (Below wr.heap.size wr w') ∧ w'.cell? ⟨w.heap.size, 3, none⟩ = some (.slice (some ⟨b, o, none⟩) L cap) ∧ w'.cell? ⟨w.heap.size + 1, 3, none⟩ = some (.slice (some ⟨b', o', none⟩) L cap') ∧
                        w'.cell? ⟨b, o + j * 4, none⟩ = some (.int .i64 k1) ∧ w'.cell? ⟨b, o + j * 4 + 1, none⟩ = some (.int .i64 n1) ∧ w'.cell? ⟨b, o + j * 4 + 2, none⟩ = some (.slice u1 l1.len v1) ∧ w'.cell? ⟨b, o + j * 4 + 3, none⟩ = some (.slice a1 ks.len cap1) ∧
                        w'.cell? ⟨b', o' + j * 4, none⟩ = some (.int .i64 k2) ∧ w'.cell? ⟨b', o' + j * 4 + 1, none⟩ = some (.int .i64 n2) ∧ w'.cell? ⟨b', o' + j * 4 + 2, none⟩ = some (.slice u2 l2.len v2) ∧ w'.cell? ⟨b', o' + j * 4 + 3, none⟩ = some (.slice a2 ks'.len cap2))
                      (first | exact ⟨Lib.hid (Below.refl _ _).drew, c3, c6, e0, e1, e2, e2', e3, e4, e5, e5'⟩ | exact heldT4 (Below.step (Below.refl _ _).drew hbN (Nat.le_refl _)) hz1 hz2 hbr hbr' c3 c6 e0 e1 e2 e2' e3 e4 e5 e5')
                      (first | (go_at_call 18; refine C1.out.mono ?_; rintro e wN ⟨rfl, hbN⟩))
                    have hbE := Lib.hid (Below.step hb.out (Below.step (Below.refl _ _).drew hbN (Nat.le_refl _)) (by simp))
                    have hwE := Lib.hid (Below.step HWr.out (Below.step (Below.refl _ _).drew hbN (Nat.le_refl _)) (Nat.le_refl _))
                    clear c3 c6 e0 e1 e2 e2' e3 e4 e5 e5' hbN C1
                    cases v with
                    | true =>
                      go_wp2_with fail
                      go_roundw
                      case rel => exact ⟨j + 1, r1, r2, by go_num, Lib.hid (by have := hj.out; simp [Ft.len] at this; omega), Lib.hid (by have := hjj.out; simpa [Ft.len] using this), Lib.hid (by have := hrs.out; simp [Ft.size] at this; omega), Lib.hid (by rintro b' o' h; cases h; have := (hin.out b o rfl).2.2.2.2; rwa [show o + (j + 1) * 4 = o + j * 4 + 4 by omega]), Lib.hid (by rintro b1 o1 h; cases h; have := (hin'.out b' o' rfl).2.2.2.2; rwa [show o' + (j + 1) * 4 = o' + j * 4 + 4 by omega]), Lib.hid (by rw [heq.out, HC'.out]; rfl), hbE⟩
                      case measure => simp [intOf]; omega
                    | false =>
                      go_wp2_with fail
                      go_ret
                      exact ⟨by rw [heq.out, HC'.out]; rfl, hwE.out⟩
              | .cons k1 n1 ks r1, .cons k2 n2 ks' r2, hj, hjj, hin, hin', heq =>
                have hwB : Below B w wr := HWW.out.mono hB
                have hlt : j < M := by have := hj.out; simp [Fo.len] at this; omega
                have hlt' : (j : Int) < (M : Int) := by omega
                obtain ⟨b, o, rfl, hbB, _⟩ := hl.some (by rw [M3.out]; omega)
                obtain ⟨b', o', rfl, hbB', _⟩ := hl'.some (by rw [ML.out]; omega)
                obtain ⟨e0, e1, ⟨a1, cap1, e2, hsl1⟩, _⟩ := (hin.out b o rfl).below hwB _ _ _ hbB |>.first
                obtain ⟨e3, e4, ⟨a2, cap2, e5, hsl2⟩, _⟩ := (hin'.out b' o' rfl).below hwB _ _ _ hbB' |>.first
                have HC : Hid (∀ v, decide (k1 = k2 ∧ n1 = n2 ∧ ks = ks') = v → decide (Fo.cons k1 n1 ks r1 = Fo.cons k2 n2 ks' r2 ∧ f = g) = (v && decide (r1 = r2 ∧ f = g))) := Lib.hid (by
                  rintro v rfl
                  rw [Bool.eq_iff_iff]
                  simp [and_assoc])
                have hbr : b < wr.heap.size := by have := HWW.out.size; omega
                have hbr' : b' < wr.heap.size := by have := HWW.out.size; omega
                have hz1 : w.heap.size < wr.heap.size := by have := HSZ.out; omega
                have hz2 : w.heap.size + 1 < wr.heap.size := by have := HSZ.out; omega
                have C1 := Lib.hid (rSame_any (ks.size + 1) ks ks' (Nat.lt_succ_self _) k1 n1 k2 n2 a1 a2 cap1 cap2 B wr.drew (hsl1.below (Below.refl _ _).drew) (hsl2.below (Below.refl _ _).drew) (Nat.le_trans hB HWW.out.size))
                generalize hv : decide (k1 = k2 ∧ n1 = n2 ∧ ks = ks') = v at C1
                have HC' := Lib.hid (HC.out v hv)
                clear HC hv hsl1 hsl2
                go_wp2_with fail
                go_region_held3 (fun w' => Hid (Below wr.heap.size wr w') ∧ w'.cell? ⟨w.heap.size, 2, none⟩ = some (.slice (some ⟨b, o, none⟩) M lc) ∧ w'.cell? ⟨w.heap.size + 1, 2, none⟩ = some (.slice (some ⟨b', o', none⟩) M lc') ∧
                    w'.cell? ⟨b, o + j * 3, none⟩ = some (.int .i64 k1) ∧ w'.cell? ⟨b, o + j * 3 + 1, none⟩ = some (.int .i64 n1) ∧ w'.cell? ⟨b, o + j * 3 + 2, none⟩ = some (.slice a1 ks.len cap1) ∧
                    w'.cell? ⟨b', o' + j * 3, none⟩ = some (.int .i64 k2) ∧ w'.cell? ⟨b', o' + j * 3 + 1, none⟩ = some (.int .i64 n2) ∧ w'.cell? ⟨b', o' + j * 3 + 2, none⟩ = some (.slice a2 ks'.len cap2))
                  (first | exact ⟨Lib.hid (Below.refl _ _).drew, c2, c5, e0, e1, e2, e3, e4, e5⟩ | exact heldT3 (Below.step (Below.refl _ _).drew hbN (Nat.le_refl _)) hz1 hz2 hbr hbr' c2 c5 e0 e1 e2 e3 e4 e5)
                  (first | (go_at_call 31; refine C1.out.mono ?_; rintro e wN ⟨rfl, hbN⟩))
                have hbE := Lib.hid (Below.step hb.out (Below.step (Below.refl _ _).drew hbN (Nat.le_refl _)) (by simp))
                have hwE := Lib.hid (Below.step HWW.out (Below.step (Below.refl _ _).drew hbN (Nat.le_refl _)) (Nat.le_refl _))
                clear c2 c3 c5 c6 e0 e1 e2 e3 e4 e5 hbN C1
                cases v with
                | true =>
                  go_wp2_with fail
                  go_roundw
                  case rel => exact ⟨j + 1, r1, r2, by go_num, Lib.hid (by have := hj.out; simp [Fo.len] at this; omega), Lib.hid (by have := hjj.out; simpa [Fo.len] using this), Lib.hid (by rintro b' o' h; cases h; have := (hin.out b o rfl).2.2.2; rwa [show o + (j + 1) * 3 = o + j * 3 + 3 by omega]), Lib.hid (by rintro b1 o1 h; cases h; have := (hin'.out b' o' rfl).2.2.2; rwa [show o' + (j + 1) * 3 = o' + j * 3 + 3 by omega]), Lib.hid (by rw [heq.out, HC'.out]; rfl), hbE⟩
                  case measure => simp [intOf]; omega
                | false =>
                  go_wp2_with fail
                  go_ret
                  exact ⟨by rw [heq.out, HC'.out]; rfl, hwE.out⟩
          · have d4 : ((f.len : Int) != (g.len : Int)) = true := by rw [bne_iff_ne]; omega
            have d3 : ((ls.len : Int) != (ls'.len : Int)) = false := by rw [h3]; simp
            have e : decide (Ft.cons k n ls f .nil = Ft.cons k' n' ls' g .nil) = false := decide_eq_false (fun h => h4 (by injection h with _ _ _ h; rw [h]))
            rw [e]
            subst h1 h2
            clear e h3 h4
            go_enter Try.func18, Try.ntmps18
            go_wp2_with fail
            go_ret
            exact ⟨rfl, hbx⟩
        · have d3 : ((ls.len : Int) != (ls'.len : Int)) = true := by rw [bne_iff_ne]; omega
          have e : decide (Ft.cons k n ls f .nil = Ft.cons k' n' ls' g .nil) = false := decide_eq_false (fun h => h3 (by injection h with _ _ h; rw [h]))
          rw [e]
          subst h1 h2
          clear e h3
          go_enter Try.func18, Try.ntmps18
          go_wp2_with fail
          go_ret
          exact ⟨rfl, hbx⟩
      · have d2 : (n != n') = true := by rw [bne_iff_ne]; exact h2
        have e : decide (Ft.cons k n ls f .nil = Ft.cons k' n' ls' g .nil) = false := decide_eq_false (fun h => h2 (by injection h))
        rw [e]
        subst h1
        clear e h2
        go_enter Try.func18, Try.ntmps18
        go_wp2_with fail
        go_ret
        exact ⟨rfl, hbx⟩
    · have d1 : (k != k') = true := by rw [bne_iff_ne]; exact h1
      have e : decide (Ft.cons k n ls f .nil = Ft.cons k' n' ls' g .nil) = false := decide_eq_false (fun h => h1 (by injection h))
      rw [e]
      clear e h1
      go_enter Try.func18, Try.ntmps18
      go_wp2_with fail
      go_ret
      exact ⟨rfl, hbx⟩
end Go.Proofs.Ythnkoamabfaioaa
/- The law's own comparison of the two Gets of terms, and its sample calls: they return true; they only make new memory. The conditions: what the program's Put and Get answer (GetC, PutC). -/
namespace Go.Proofs.Ythnkoamabfaioaa
open Go.RowKit

/-- What the program's Get answers. -/
def GetC : Prop := ∀ (s : ByteArray) (a : Int) (w : World), s.size ≤ maxLen → Calls Try.prog 17 #[.string s, .int .i64 a] w (TgPost (ansT s a) w)
/-- What the program's Put answers. -/
def PutC : Prop := ∀ (k n : Int) (ls : Fo) (F : Ft) (la x : Option Addr) (lc c B : Nat) (w : World), SlIn w (· < B) ls la lc → TlIn w (· < B) F x c → B ≤ w.heap.size →
  Calls Try.prog 14 #[.agg #[.int .i64 k, .int .i64 n, .slice la ls.len lc, .slice x F.len c]] w fun e w' => e = .returned (tputV k n ls F) ∧ Below w.heap.size w w'
/-- What is told, laid out: the term, the place, the error. -/
def gT : Tl → Tm × Nat × Nat
  | .no er => (tZ, 0, er)
  | .ok k n ls ks q _ => (⟨k, n, ls, ks⟩, q, 0)
theorem tg_laid {r : Tl} {w w' : World} {e : Ending} (h : TgPost r w e w') : ∃ (la : Option Addr) (lc : Nat) (ka : Option Addr) (kc : Nat), e = .returned (.tuple #[.agg #[.int .i64 (gT r).1.k, .int .i64 (gT r).1.n, .slice la (gT r).1.ls.len lc, .slice ka (gT r).1.ks.len kc], .int .i64 (gT r).2.1, .int .i64 (gT r).2.2]) ∧ TmIn w' w'.heap.size (gT r).1 la lc ka kc ∧ Below w.heap.size w w' := by
  obtain ⟨hb, h⟩ := h
  cases r with
  | no er => exact ⟨none, 0, none, 0, h, ⟨SlIn.none _ _, TlIn.none _ _, Nat.le_refl _⟩, hb⟩
  | ok k n ls ks q m =>
    obtain ⟨la, lc, ka, kc, rfl, h1, h2⟩ := h
    exact ⟨la, lc, ka, kc, rfl, ⟨h1.weak (fun _ h => h.2), h2.weak (fun _ h => h.2), Nat.le_refl _⟩, hb⟩
/-- The document's own Same of one term, twice. -/
theorem r13same_yes {T : Tm} {la : Option Addr} {lc : Nat} {ka : Option Addr} {kc : Nat} {ua : Option Addr} {uc : Nat} {va : Option Addr} {vc N M : Nat} {W : World} (p : TmIn W N T la lc ka kc) (q : TmIn W M T ua uc va vc) :
    Calls Try.prog 18 #[.agg #[.int .i64 T.k, .int .i64 T.n, .slice la T.ls.len lc, .slice ka T.ks.len kc], .agg #[.int .i64 T.k, .int .i64 T.n, .slice ua T.ls.len uc, .slice va T.ks.len vc]] W fun e w' => e = .returned (.bool true) ∧ Below W.heap.size W w' := by
  have r := r13same_any (T.ks.size + 1) T.ks T.ks (Nat.lt_succ_self _) T.k T.n T.k T.n T.ls T.ls la ua ka va lc uc kc vc W.heap.size W (p.1.mono p.2.2) (q.1.mono q.2.2) (p.2.1.mono p.2.2) (q.2.1.mono q.2.2) (Nat.le_refl _)
  rwa [one_refl T] at r
set_option maxRecDepth 100000 in
set_option maxHeartbeats 2000000 in
theorem get14_any (hG : GetC) (s : ByteArray) (a : Int) (w : World) (hs : s.size ≤ maxLen) : Calls Try.prog 10 #[.string s, .int .i64 a] w fun e w' => e = .returned (.bool true) ∧ Below w.heap.size w w' := by
  have HA := Lib.hid ((hG s a w hs).mono (fun _ _ h => tg_laid h))
  have HB := Lib.hid (fun W => (r14Get_ans s a W hs).mono (fun _ _ h => tg_laid h))
  generalize gT (ansT s a) = X at HA HB
  obtain ⟨T, q, E⟩ := X
  go_enter Try.func10, Try.ntmps10
  go_wp2_with fail
  refine HA.out.mono ?_
  rintro e w1 ⟨la, lc, ka, kc, rfl, t1, hb1⟩
  have hal : Below w1.heap.size w1 (w1.alloc (.cells #[.int .i64 T.k, .int .i64 T.n, .slice la T.ls.len lc, .slice ka T.ks.len kc] 29)) := (Below.refl _ _).alloc (Nat.le_refl _) _
  have T2 := Lib.hid (TmBox.new t1)
  have HB2 := Lib.hid (Below.step hb1 hal (Nat.le_refl _))
  clear t1 hb1 hal HA
  go_wp2_with fail
  refine (HB.out _).mono ?_
  rintro e w3 ⟨la', lc', ka', kc', rfl, t3, hb3⟩
  have hal : Below w3.heap.size w3 (w3.alloc (.cells #[.int .i64 T.k, .int .i64 T.n, .slice la' T.ls.len lc', .slice ka' T.ks.len kc'] 29)) := (Below.refl _ _).alloc (Nat.le_refl _) _
  have T4 := Lib.hid ((T2.out.later hb3).later hal)
  have U4 := Lib.hid (TmBox.new t3)
  have HB4 := Lib.hid (Below.step (Below.step HB2.out hb3 (Nat.le_refl _)) hal (Nat.le_refl _))
  obtain ⟨c0, c1, c2, c3⟩ := T4.out.cells
  clear t3 hb3 hal HB T2 HB2
  go_wp2_with fail
  refine (r13same_yes T4.out.2 U4.out.2).mono ?_
  rintro e w5 ⟨rfl, hb5⟩
  have HB6 := Lib.hid (Below.step HB4.out hb5 (Nat.le_refl _))
  clear hb5 c0 c1 c2 c3 T4 U4
  go_wp2_with fail
  go_ret
  exact ⟨rfl, HB6.out⟩

/-- The sample term: a Lam of a Sort and a Var. -/
def sZ4 : Tm := ⟨2, 0, .cons 1 0 .nil .nil, .nil⟩
def aw4T : Tm := ⟨5, 0, .nil, sZ4.to ((tV 0).to .nil)⟩
theorem aw4_put : tputV 5 0 .nil (sZ4.to ((tV 0).to .nil)) = .tuple #[.string ⟨#[5, 2, 1, 1, 0]⟩, .int .i64 0] := by
  rw [tputV_yes (by decide +kernel)]
  have : encT 5 0 .nil (sZ4.to ((tV 0).to .nil)) = [5, 2, 1, 1, 0] := by simp [encT, encTh, encTF, encF, encH, sZ4, tV, Tm.to, enc_small]
  rw [this]; rfl
theorem aw4_bad : tputV 0 0 .nil .nil = .tuple #[.string ⟨#[]⟩, .int .i64 1] := by rw [tputV_no (by decide +kernel)]; rfl
theorem aw4_get1 : ansT ⟨#[120, 5, 2, 1, 1, 0, 121]⟩ 1 = .ok 5 0 .nil (sZ4.to ((tV 0).to .nil)) 6 3 := by kernel_rfl
theorem aw4_get2 : ansT ⟨#[8]⟩ 0 = .no 20 := by kernel_rfl
theorem aw4_get3 : ansT ⟨#[4, 1]⟩ 0 = .no 21 := by kernel_rfl
theorem aw4_add1 (W : World) : (Op.stringOp .add ⟨#[120]⟩ ⟨#[5, 2, 1, 1, 0]⟩).run Try.prog W = .ok (.string ⟨#[120, 5, 2, 1, 1, 0]⟩) W := by
  rw [run_string_add_sum W _ _ (by decide)]; rfl
theorem aw4_add2 (W : World) : (Op.stringOp .add ⟨#[120, 5, 2, 1, 1, 0]⟩ ⟨#[121]⟩).run Try.prog W = .ok (.string ⟨#[120, 5, 2, 1, 1, 0, 121]⟩) W := by
  rw [run_string_add_sum W _ _ (by decide)]; rfl
theorem lit_sv {W : World} {N : Nat} {s : Tm} {la ka : Option Addr} {lc kc : Nat} (h : TmIn W N s la lc ka kc) (n : Int) :
    TlIn (W.alloc (.cells #[.int .i64 s.k, .int .i64 s.n, .slice la s.ls.len lc, .slice ka s.ks.len kc, .int .i64 1, .int .i64 n, .slice none 0 0, .slice none 0 0] 29)) (· < W.heap.size + 1) (s.to ((tV n).to .nil)) (some ⟨W.heap.size, 0, none⟩) 2 := by
  have hb : Below W.heap.size W (W.alloc (.cells #[.int .i64 s.k, .int .i64 s.n, .slice la s.ls.len lc, .slice ka s.ks.len kc, .int .i64 1, .int .i64 n, .slice none 0 0, .slice none 0 0] 29)) := (Below.refl _ _).alloc (Nat.le_refl _) _
  have h2 := heap_new W (.cells #[.int .i64 s.k, .int .i64 s.n, .slice la s.ls.len lc, .slice ka s.ks.len kc, .int .i64 1, .int .i64 n, .slice none 0 0, .slice none 0 0] 29)
  have e : N ≤ W.heap.size + 1 := by have := h.2.2; omega
  exact TlIn.mk (Nat.le_refl _) (by omega) (Nat.lt_succ_self _) (FtIn.push (cell_at h2 0) (cell_at h2 1) (cell_at h2 2) ((h.1.below (hb.mono h.2.2)).mono e) (cell_at h2 3) ((h.2.1.below (hb.mono h.2.2)).mono e) (FtIn.push (cell_at h2 4) (cell_at h2 5) (cell_at h2 6) (SlIn.none _ _) (cell_at h2 7) (TlIn.none _ _) trivial))
set_option maxRecDepth 100000 in
set_option maxHeartbeats 4000000 in
theorem awake14_any (hG : GetC) (hP : PutC) (w : World) : Calls Try.prog 9 #[] w fun e w' => e = .returned (.bool true) ∧ Below w.heap.size w w' := by
  have HS : Hid (∀ W : World, Calls Try.prog 20 #[.agg #[.int .i64 1, .int .i64 0, .slice none 0 0]] W fun e w' => ∃ x, e = .returned (.agg #[.int .i64 2, .int .i64 0, .slice x 1 1, .slice none 0 0]) ∧ TmIn w' w'.heap.size sZ4 x 1 none 0 ∧ Below W.heap.size W w') := Lib.hid (by
    intro W
    refine (tSort_in 1 0 .nil none 0 W.heap.size W (SlIn.none _ _) (Nat.le_refl _)).mono ?_
    rintro e w' ⟨x, rfl, h, hb⟩
    exact ⟨x, rfl, ⟨h.weak (fun _ h => h.2), TlIn.none _ _, Nat.le_refl _⟩, hb⟩)
  have HP1 : Hid (∀ (W : World) (N : Nat) (x : Option Addr), TmIn W N aw4T none 0 x 2 → Calls Try.prog 14 #[.agg #[.int .i64 5, .int .i64 0, .slice none 0 0, .slice x 2 2]] W fun e w' => e = .returned (.tuple #[.string ⟨#[5, 2, 1, 1, 0]⟩, .int .i64 0]) ∧ Below W.heap.size W w') := Lib.hid (by
    intro W N x h
    have := hP 5 0 .nil (sZ4.to ((tV 0).to .nil)) none x 0 2 W.heap.size W (SlIn.none _ _) (h.2.1.mono h.2.2) (Nat.le_refl _)
    rw [aw4_put] at this; exact this)
  have HP2 : Hid (∀ (W : World), Calls Try.prog 14 #[.agg #[.int .i64 0, .int .i64 0, .slice none 0 0, .slice none 0 0]] W fun e w' => e = .returned (.tuple #[.string ⟨#[]⟩, .int .i64 1]) ∧ Below W.heap.size W w') := Lib.hid (fun W => by
    have := hP 0 0 .nil .nil none none 0 0 0 W (SlIn.none _ _) (TlIn.none _ _) (Nat.zero_le _)
    rw [aw4_bad] at this; exact this)
  have HG1 : Hid (∀ (W : World), Calls Try.prog 17 #[.string ⟨#[120, 5, 2, 1, 1, 0, 121]⟩, .int .i64 1] W fun e w' => ∃ la lc x c, e = .returned (.tuple #[.agg #[.int .i64 5, .int .i64 0, .slice la 0 lc, .slice x 2 c], .int .i64 6, .int .i64 0]) ∧ TmIn w' w'.heap.size aw4T la lc x c ∧ Below W.heap.size W w') := Lib.hid (fun W => by
    have := hG ⟨#[120, 5, 2, 1, 1, 0, 121]⟩ 1 W (by decide +kernel)
    rw [aw4_get1] at this
    exact this.mono (fun _ _ h => tg_laid h))
  have HG2 : Hid (∀ (W : World), Calls Try.prog 17 #[.string ⟨#[8]⟩, .int .i64 0] W fun e w' => e = .returned (.tuple #[.agg #[.int .i64 0, .int .i64 0, .slice none 0 0, .slice none 0 0], .int .i64 0, .int .i64 20]) ∧ Below W.heap.size W w') := Lib.hid (fun W => by
    have := hG ⟨#[8]⟩ 0 W (by decide +kernel)
    rw [aw4_get2] at this
    exact this.mono (fun _ _ h => ⟨h.2, h.1⟩))
  have HG3 : Hid (∀ (W : World), Calls Try.prog 17 #[.string ⟨#[4, 1]⟩, .int .i64 0] W fun e w' => e = .returned (.tuple #[.agg #[.int .i64 0, .int .i64 0, .slice none 0 0, .slice none 0 0], .int .i64 0, .int .i64 21]) ∧ Below W.heap.size W w') := Lib.hid (fun W => by
    have := hG ⟨#[4, 1]⟩ 0 W (by decide +kernel)
    rw [aw4_get3] at this
    exact this.mono (fun _ _ h => ⟨h.2, h.1⟩))
  have ha1 := aw4_add1
  have ha2 := aw4_add2
  go_enter Try.func9, Try.ntmps9
  go_wp2_with fail
  refine (HS.out _).mono ?_
  rintro e w1 ⟨sx, rfl, t1, hb1⟩
  have S1 := Lib.hid t1
  have HB1 := Lib.hid hb1
  clear t1 hb1
  go_wp2_with fail
  refine (tVar_any 0 _).mono ?_
  rintro e w2 ⟨rfl, hb2⟩
  have HL := Lib.hid (lit_sv (S1.out.later hb2) 0)
  have hal : Below w2.heap.size w2 (w2.alloc (.cells #[.int .i64 2, .int .i64 0, .slice sx 1 1, .slice none 0 0, .int .i64 1, .int .i64 0, .slice none 0 0, .slice none 0 0] 29)) := (Below.refl _ _).alloc (Nat.le_refl _) _
  have HB2 := Lib.hid (Below.step (Below.step HB1.out hb2 (Nat.le_refl _)) hal (Nat.le_refl _))
  clear hb2 hal HB1 S1
  go_wp2_with fail
  refine (tBind_any 5 _ 2 2 _).mono ?_
  rintro e w3 ⟨rfl, hb3⟩
  have t3 : TmIn w3 w3.heap.size aw4T none 0 (some ⟨w2.heap.size, 0, none⟩) 2 := by
    have z := hb3.size
    simp at z
    exact ⟨SlIn.none _ _, (HL.out.below (hb3.mono (by simp))).mono (by omega), Nat.le_refl _⟩
  have hal : Below w3.heap.size w3 (w3.alloc (.cells #[.int .i64 5, .int .i64 0, .slice none 0 0, .slice (some ⟨w2.heap.size, 0, none⟩) 2 2] 29)) := (Below.refl _ _).alloc (Nat.le_refl _) _
  have T4 : Hid (TmBox (w3.alloc (.cells #[.int .i64 5, .int .i64 0, .slice none 0 0, .slice (some ⟨w2.heap.size, 0, none⟩) 2 2] 29)) w3.heap.size aw4T none 0 (some ⟨w2.heap.size, 0, none⟩) 2) := Lib.hid (TmBox.new t3)
  have HB4 := Lib.hid (Below.step (Below.step HB2.out hb3 (Nat.le_refl _)) hal (Nat.le_refl _))
  clear t3 hb3 hal HB2 HL
  go_wp2_with fail
  refine (HP1.out _ _ _ T4.out.2).mono ?_
  rintro e w5 ⟨rfl, hb5⟩
  have T5 := Lib.hid (T4.out.later hb5)
  have HB5 := Lib.hid (Below.step HB4.out hb5 (Nat.le_refl _))
  clear hb5 T4 HB4
  go_wp2_with fail
  refine (HG1.out _).mono ?_
  rintro e w6 ⟨la, lc, x, c, rfl, t6, hb6⟩
  have hal : Below w6.heap.size w6 (w6.alloc (.cells #[.int .i64 5, .int .i64 0, .slice la 0 lc, .slice x 2 c] 29)) := (Below.refl _ _).alloc (Nat.le_refl _) _
  have T7 := Lib.hid ((T5.out.later hb6).later hal)
  have U7 : Hid (TmBox (w6.alloc (.cells #[.int .i64 5, .int .i64 0, .slice la 0 lc, .slice x 2 c] 29)) w6.heap.size aw4T la lc x c) := Lib.hid (TmBox.new t6)
  have HB7 := Lib.hid (Below.step (Below.step HB5.out hb6 (Nat.le_refl _)) hal (Nat.le_refl _))
  clear t6 hb6 hal T5 HB5
  go_wp2_with fail
  refine (HG2.out _).mono ?_
  rintro e w8 ⟨rfl, hb8⟩
  have hal : Below w8.heap.size w8 (w8.alloc (.cells #[.int .i64 0, .int .i64 0, .slice none 0 0, .slice none 0 0] 29)) := (Below.refl _ _).alloc (Nat.le_refl _) _
  have T8 := Lib.hid ((T7.out.later hb8).later hal)
  have U8 := Lib.hid ((U7.out.later hb8).later hal)
  have HB8 := Lib.hid (Below.step (Below.step HB7.out hb8 (Nat.le_refl _)) hal (Nat.le_refl _))
  clear hb8 hal T7 U7 HB7
  go_wp2_with fail
  refine (HG3.out _).mono ?_
  rintro e w9 ⟨rfl, hb9⟩
  have hal : Below w9.heap.size w9 (w9.alloc (.cells #[.int .i64 0, .int .i64 0, .slice none 0 0, .slice none 0 0] 29)) := (Below.refl _ _).alloc (Nat.le_refl _) _
  have T9 := Lib.hid ((T8.out.later hb9).later hal)
  have U9 := Lib.hid ((U8.out.later hb9).later hal)
  have HB9 := Lib.hid (Below.step (Below.step HB8.out hb9 (Nat.le_refl _)) hal (Nat.le_refl _))
  clear hb9 hal T8 U8 HB8
  go_wp2_with fail
  refine (HP2.out _).mono ?_
  rintro e wa ⟨rfl, hba⟩
  have Ta := Lib.hid (T9.out.later hba)
  have Ua := Lib.hid (U9.out.later hba)
  have HBa := Lib.hid (Below.step HB9.out hba (Nat.le_refl _))
  clear hba T9 U9 HB9
  obtain ⟨c0, c1, c2, c3⟩ := Ta.out.cells
  obtain ⟨d0, d1, d2, d3⟩ := Ua.out.cells
  have c0' : wa.cell? ⟨w3.heap.size, 0, none⟩ = some (.int .i64 5) := c0
  have c1' : wa.cell? ⟨w3.heap.size, 1, none⟩ = some (.int .i64 0) := c1
  have c2' : wa.cell? ⟨w3.heap.size, 2, none⟩ = some (.slice none 0 0) := c2
  have c3' : wa.cell? ⟨w3.heap.size, 3, none⟩ = some (.slice (some ⟨w2.heap.size, 0, none⟩) 2 2) := c3
  have d0' : wa.cell? ⟨w6.heap.size, 0, none⟩ = some (.int .i64 5) := d0
  have d1' : wa.cell? ⟨w6.heap.size, 1, none⟩ = some (.int .i64 0) := d1
  have d2' : wa.cell? ⟨w6.heap.size, 2, none⟩ = some (.slice la 0 lc) := d2
  have d3' : wa.cell? ⟨w6.heap.size, 3, none⟩ = some (.slice x 2 c) := d3
  have HSM : Hid (Calls Try.prog 18 #[.agg #[.int .i64 5, .int .i64 0, .slice none 0 0, .slice (some ⟨w2.heap.size, 0, none⟩) 2 2], .agg #[.int .i64 5, .int .i64 0, .slice la 0 lc, .slice x 2 c]] wa fun e w' => e = .returned (.bool true) ∧ Below wa.heap.size wa w') := Lib.hid (r13same_yes (T := aw4T) Ta.out.2 Ua.out.2)
  clear c0 c1 c2 c3 d0 d1 d2 d3 Ta Ua
  go_wp2_with fail
  refine HSM.out.mono ?_
  rintro e wb ⟨rfl, hbb⟩
  have HBb := Lib.hid (Below.step HBa.out hbb (Nat.le_refl _))
  clear hbb c0' c1' c2' c3' d0' d1' d2' d3' HSM
  go_wp2_with fail
  go_ret
  exact ⟨rfl, HBb.out⟩
end Go.Proofs.Ythnkoamabfaioaa
/- The contract of the law's own Made: a term whose shape is right, of at most three free variables, at most four deep, in new memory. No condition but that the numbers lie in memory. -/
namespace Go.Proofs.Ythnkoamabfaioaa
open Go.RowKit

/-- What Made answers. -/
def MdOk (v : Int) (d : Nat) (w : World) (e : Ending) (w' : World) : Prop :=
  ∃ (T : Tm) (la : Option Addr) (lc : Nat) (ka : Option Addr) (kc : Nat), e = .returned (.agg #[.int .i64 T.k, .int .i64 T.n, .slice la T.ls.len lc, .slice ka T.ks.len kc]) ∧ okT v (d + 1 : Nat) T ∧
    SlIn w' (fun b => w.heap.size ≤ b ∧ b < w'.heap.size) T.ls la lc ∧ TlIn w' (fun b => w.heap.size ≤ b ∧ b < w'.heap.size) T.ks ka kc ∧ Below w.heap.size w w'
set_option maxRecDepth 100000 in
set_option maxHeartbeats 2000000 in
theorem tMade_any (len cap : Nat) (a : Option Addr) (B : Nat) (w : World) (hin : U8In w (· < B) len a cap) (hB : B ≤ w.heap.size) :
    Calls Try.prog 13 #[.slice a len cap] w (MdOk 3 3 w) := by
  have hb : Below w.heap.size w ((w.alloc (.cells #[.int .i64 0, .int .i64 0, .slice none 0 0, .slice none 0 0] 29)).alloc (.cells #[.slice a len cap, .int .i64 0] 53)) := ((Below.refl _ _).alloc (Nat.le_refl _) _).alloc (by simp) _
  have HB := Lib.hid hb
  have hat : MkAt ((w.alloc (.cells #[.int .i64 0, .int .i64 0, .slice none 0 0, .slice none 0 0] 29)).alloc (.cells #[.slice a len cap, .int .i64 0] 53)) (w.heap.size + 1) a len cap 0 := heap_second w _ _
  have HR := Lib.hid ((heap_old (w.alloc (.cells #[.int .i64 0, .int .i64 0, .slice none 0 0, .slice none 0 0] 29)) (.cells #[.slice a len cap, .int .i64 0] 53) (b := w.heap.size) (by simp)).trans (heap_new w _))
  have HT := Lib.hid (tTerm_any 3 3 (w.heap.size + 1) len cap 0 B a 4 _ hat (hin.below (hb.mono hB)) (by omega) (by decide) (by omega) (by omega) (by omega) (by omega))
  clear hat hb hin
  go_enter Try.func13, Try.ntmps13
  go_wp2_with fail
  refine HT.out.mono ?_
  rintro e w1 ⟨T, la, lc, ka, kc, t', rfl, ok, sl, tl, _, _, hg⟩
  have hR1 := (Only.block hg (b := w.heap.size) (by simp; omega) (by omega)).trans HR.out
  have hz1 := hg.size
  simp at hz1
  obtain ⟨r0, r1, r2, r3⟩ := cells4 hR1
  have rf := free_of hR1
  have HSL := Lib.hid sl
  have HTL := Lib.hid tl
  have HOK := Lib.hid ok
  have HG := Lib.hid hg
  clear sl tl ok hg hR1 HT
  go_wp2_with fail
  refine bodyPost_ret (v := .agg #[.int .i64 T.k, .int .i64 T.n, .slice la T.ls.len lc, .slice ka T.ks.len kc]) (by simp [results, Try.results13, go_sem, r0, r1, r2, r3]) rfl ?_
  have u := set4_only (w := w1) w.heap.size (.int .i64 T.k) (.int .i64 T.n) (.slice la T.ls.len lc) (.slice ka T.ks.len kc)
  refine ⟨T, la, lc, ka, kc, rfl, HOK.out, ?_, ?_, ?_⟩
  · exact (HSL.out.keep (fun b hb => Only.block u hb.2 (by have := hb.1; simp at this; omega))).weak (fun b hb => ⟨by have := hb.1; simp at this; omega, Nat.lt_of_lt_of_le hb.2 u.size⟩)
  · exact HTL.out.turn (fun b hb => Only.block u hb.2 (by have := hb.1; simp at this; omega)) (fun b hb => ⟨by have := hb.1; simp at this; omega, Nat.lt_of_lt_of_le hb.2 u.size⟩)
  · refine ⟨u.os.trans (HG.out.os.trans HB.out.os), u.tape.trans (HG.out.tape.trans HB.out.tape), u.output.trans (HG.out.output.trans HB.out.output), Nat.le_trans HB.out.size (Nat.le_trans HG.out.size u.size), fun q hq => ?_⟩
    rw [Only.block u (by omega) (by omega), Only.block HG.out (by simp; omega) (by omega)]
    exact HB.out.block q hq
end Go.Proofs.Ythnkoamabfaioaa
/- A term that came in as an argument: what lies in memory. -/
namespace Go.Proofs.Ythnkoamabfaioaa
open Go.ChangeShapes Go.WideShapes Go.ChangeAt Go.RowKit

set_option maxRecDepth 100000 in
theorem cellsLevel : Try.prog.cellsOf 33 = 3 := by kernel_rfl
set_option maxRecDepth 100000 in
theorem cellsInt : Try.prog.cellsOf 3 = 1 := by kernel_rfl
set_option maxRecDepth 100000 in
theorem cellsLevels : Try.prog.cellsOf 26 = 1 := by kernel_rfl
set_option maxRecDepth 100000 in
theorem cellsU8 : Try.prog.cellsOf 5 = 1 := by kernel_rfl

section
variable {H : Type} {enc : TypeId × Value → H} {w : World} {base : Nat} {spare : Nat → Bool} {held : Bool}
set_option maxRecDepth 100000 in
/-- Levels one behind the other make a forest. -/
theorem forest {w : World} {P : Nat → Prop} {b : Nat} : ∀ (m o : Nat), (∀ i, i < m → ∃ (k n : Int) (ks : Fo) (a : Option Addr) (cap : Nat), w.cell? ⟨b, o + i * 3, none⟩ = some (.int .i64 k) ∧ w.cell? ⟨b, o + i * 3 + 1, none⟩ = some (.int .i64 n) ∧ w.cell? ⟨b, o + i * 3 + 2, none⟩ = some (.slice a ks.len cap) ∧ SlIn w P ks a cap) →
    ∃ F : Fo, F.len = m ∧ FoIn w P F b o
  | 0, _, _ => ⟨.nil, rfl, trivial⟩
  | m + 1, o, h => by
    obtain ⟨F, hl, hF⟩ := forest m (o + 3) (fun i hi => by
      obtain ⟨k, n, ks, a, cap, h0, h1, h2, h3⟩ := h (i + 1) (by omega)
      exact ⟨k, n, ks, a, cap, by rw [show o + 3 + i * 3 = o + (i + 1) * 3 by omega]; exact h0, by rw [show o + 3 + i * 3 = o + (i + 1) * 3 by omega]; exact h1, by rw [show o + 3 + i * 3 = o + (i + 1) * 3 by omega]; exact h2, h3⟩)
    obtain ⟨k, n, ks, a, cap, h0, h1, h2, h3⟩ := h 0 (by omega)
    simp only [Nat.zero_mul, Nat.add_zero] at h0 h1 h2
    exact ⟨.cons k n ks F, by simp [Fo.len, hl], FoIn.push h0 h1 h2 h3 hF⟩

set_option maxRecDepth 100000 in
theorem open_level (fuel : Nat) : ∀ (cs : List Value) (x : DataW H × List MemPlace), DataW.trod enc Try.prog w base spare held fuel 33 cs = some x →
    ∃ (k n : Int) (F : Fo) (a : Option Addr) (cap : Nat), cs = [.int .i64 k, .int .i64 n, .slice a F.len cap] ∧ SlIn w (· < w.heap.size) F a cap := by
  induction fuel using Nat.strongRecOn with
  | ind fuel ih =>
    intro cs x h
    obtain ⟨xs, n0, hf, _, hl, hxl, hg⟩ := DataW.trod_struct Try.underlying33 h
    rw [cellsLevel] at hl
    match cs, hl with
    | [c0, c1, c2], _ =>
      have hxl' : xs.length = 3 := hxl
      match xs, hxl' with
      | [y0, y1, y2], _ =>
        have t0 : DataW.trod enc Try.prog w base spare held n0 3 [c0] = some y0 := by have := hg 0 _ rfl; simpa [cellsInt] using this
        have t1 : DataW.trod enc Try.prog w base spare held n0 3 [c1] = some y1 := by have := hg 1 _ rfl; simpa [cellsInt] using this
        have t2 : DataW.trod enc Try.prog w base spare held n0 26 [c2] = some y2 := by have := hg 2 _ rfl; simpa [cellsLevels] using this
        obtain ⟨k, e0, _⟩ := DataW.trod_int Try.underlying3 t0
        obtain ⟨n, e1, _⟩ := DataW.trod_int Try.underlying3 t1
        injection e0 with e0 _
        injection e1 with e1 _
        subst e0 e1
        rcases DataW.trod_slice Try.underlying26 t2 with ⟨e2, _⟩ | ⟨a, len, cap, elems, rest, n1, hn1, e2, _, hb, hle, hm, hlen, hel, _⟩
        · injection e2 with e2 _
          subst e2
          exact ⟨k, n, .nil, none, 0, rfl, SlIn.none _ _⟩
        · injection e2 with e2 _
          subst e2
          rw [cellsLevel] at hel
          have each : ∀ i, i < len → ∃ (k n : Int) (ks : Fo) (a' : Option Addr) (cap : Nat), w.cell? (a.add (i * 3)) = some (.int .i64 k) ∧ w.cell? ((a.add (i * 3)).add 1) = some (.int .i64 n) ∧ w.cell? ((a.add (i * 3)).add 2) = some (.slice a' ks.len cap) ∧ SlIn w (· < w.heap.size) ks a' cap := by
            intro i hi
            have h1 := hel i hi
            rw [List.getElem?_eq_getElem (by omega)] at h1
            obtain ⟨cs', hc, ht⟩ := Option.bind_eq_some_iff.1 h1
            obtain ⟨k, n, ks, a', cap, rfl, hs⟩ := ih n1 (by omega) cs' _ ht
            obtain ⟨_, hcl, hat⟩ := World.cells?_some hc
            have q0 := hat 0 (by omega)
            have q1 := hat 1 (by omega)
            have q2 := hat 2 (by omega)
            exact ⟨k, n, ks, a', cap, by simpa [Addr.add] using q0, by simpa using q1, by simpa using q2, hs⟩
          rcases Nat.eq_zero_or_pos len with h0 | h0
          · subst h0
            exact ⟨k, n, .nil, some a, cap, rfl, ⟨Nat.zero_le _, hm, (fun h => by cases h), (fun h => by simp [Fo.len] at h)⟩⟩
          · have hsp : a.spot = none := by
              obtain ⟨k, n, ks, a', cap, q0, _⟩ := each 0 h0
              cases hs : a.spot with
              | none => rfl
              | some y => exfalso; simp [Addr.add, World.cell?, hs] at q0; split at q0 <;> simp at q0
            obtain ⟨b, o, sp⟩ := a
            have hsp' : sp = none := hsp
            subst hsp'
            have hadd : ∀ m, (⟨b, o, none⟩ : Addr).add m = ⟨b, o + m, none⟩ := fun m => by unfold Addr.add; split <;> simp_all
            simp only [hadd] at each
            have hbl : b < w.heap.size := by
              obtain ⟨k, n, ks, a', cap, q0, _⟩ := each 0 h0
              exact World.block_lt_of_cell? _ _ q0
            obtain ⟨F, hl, hF⟩ := forest len o each
            subst hl
            exact ⟨k, n, F, some ⟨b, o, none⟩, cap, rfl, ⟨hle, hm, (fun h => by cases h), (fun _ => ⟨b, o, rfl, hbl, hF⟩)⟩⟩
end
set_option maxRecDepth 100000 in
theorem laidOut : laidOutB Try.prog = true := by kernel_rfl
set_option maxRecDepth 100000 in
theorem t_cellsTerm : Try.prog.cellsOf 29 = 4 := by kernel_rfl
set_option maxRecDepth 100000 in
theorem t_cellsTerms : Try.prog.cellsOf 27 = 1 := by kernel_rfl
section
variable {H : Type} {enc : TypeId × Value → H} {w : World} {base : Nat} {spare : Nat → Bool} {held : Bool}
set_option maxRecDepth 100000 in
/-- Terms one behind the other make a forest. -/
theorem t_forest {w : World} {P : Nat → Prop} {b : Nat} : ∀ (m o : Nat), (∀ i, i < m → ∃ (T : Tm) (la : Option Addr) (lc : Nat) (a : Option Addr) (cap : Nat), w.cell? ⟨b, o + i * 4, none⟩ = some (.int .i64 T.k) ∧ w.cell? ⟨b, o + i * 4 + 1, none⟩ = some (.int .i64 T.n) ∧ w.cell? ⟨b, o + i * 4 + 2, none⟩ = some (.slice la T.ls.len lc) ∧ w.cell? ⟨b, o + i * 4 + 3, none⟩ = some (.slice a T.ks.len cap) ∧ SlIn w P T.ls la lc ∧ TlIn w P T.ks a cap) →
    ∃ F : Ft, F.len = m ∧ FtIn w P F b o
  | 0, _, _ => ⟨.nil, rfl, trivial⟩
  | m + 1, o, h => by
    obtain ⟨F, hl, hF⟩ := t_forest m (o + 4) (fun i hi => by
      have := h (i + 1) (by omega)
      rwa [show o + (i + 1) * 4 = o + 4 + i * 4 by omega] at this)
    obtain ⟨T, la, lc, a, cap, h0, h1, h2, h3, hs, ht⟩ := h 0 (by omega)
    simp only [Nat.zero_mul, Nat.add_zero] at h0 h1 h2 h3
    exact ⟨.cons T.k T.n T.ls T.ks F, by simp [Ft.len, hl], FtIn.push h0 h1 h2 hs h3 ht hF⟩

set_option maxRecDepth 100000 in
theorem open_levels {fuel : Nat} {c : Value} {x : DataW H × List MemPlace} (h : DataW.trod enc Try.prog w base spare held fuel 26 [c] = some x) :
    ∃ (F : Fo) (la : Option Addr) (lc : Nat), c = .slice la F.len lc ∧ SlIn w (· < w.heap.size) F la lc := by
  rcases DataW.trod_slice Try.underlying26 h with ⟨e2, _⟩ | ⟨a, len, cap, elems, rest, n1, hn1, e2, _, hb, hle, hm, hlen, hel, _⟩
  · injection e2 with e2 _
    subst e2
    exact ⟨.nil, none, 0, rfl, SlIn.none _ _⟩
  · injection e2 with e2 _
    subst e2
    rw [cellsLevel] at hel
    have each : ∀ i, i < len → ∃ (k n : Int) (ks : Fo) (a' : Option Addr) (cap : Nat), w.cell? (a.add (i * 3)) = some (.int .i64 k) ∧ w.cell? ((a.add (i * 3)).add 1) = some (.int .i64 n) ∧ w.cell? ((a.add (i * 3)).add 2) = some (.slice a' ks.len cap) ∧ SlIn w (· < w.heap.size) ks a' cap := by
      intro i hi
      have h1 := hel i hi
      rw [List.getElem?_eq_getElem (by omega)] at h1
      obtain ⟨cs', hc, ht⟩ := Option.bind_eq_some_iff.1 h1
      obtain ⟨k, n, ks, a', cap, rfl, hs⟩ := open_level n1 cs' _ ht
      obtain ⟨_, hcl, hat⟩ := World.cells?_some hc
      have q0 := hat 0 (by omega)
      have q1 := hat 1 (by omega)
      have q2 := hat 2 (by omega)
      exact ⟨k, n, ks, a', cap, by simpa [Addr.add] using q0, by simpa using q1, by simpa using q2, hs⟩
    rcases Nat.eq_zero_or_pos len with h0 | h0
    · subst h0
      exact ⟨.nil, some a, cap, rfl, ⟨Nat.zero_le _, hm, (fun h => by cases h), (fun h => by simp [Fo.len] at h)⟩⟩
    · have hsp : a.spot = none := by
        obtain ⟨k, n, ks, a', cap, q0, _⟩ := each 0 h0
        cases hs : a.spot with
        | none => rfl
        | some y => exfalso; simp [Addr.add, World.cell?, hs] at q0; split at q0 <;> simp at q0
      obtain ⟨b, o, sp⟩ := a
      have hsp' : sp = none := hsp
      subst hsp'
      have hadd : ∀ m, (⟨b, o, none⟩ : Addr).add m = ⟨b, o + m, none⟩ := fun m => by unfold Addr.add; split <;> simp_all
      simp only [hadd] at each
      have hbl : b < w.heap.size := by
        obtain ⟨k, n, ks, a', cap, q0, _⟩ := each 0 h0
        exact World.block_lt_of_cell? _ _ q0
      obtain ⟨F, hl, hF⟩ := forest len o each
      subst hl
      exact ⟨F, some ⟨b, o, none⟩, cap, rfl, ⟨hle, hm, (fun h => by cases h), (fun _ => ⟨b, o, rfl, hbl, hF⟩)⟩⟩

set_option maxRecDepth 100000 in
theorem open_term (fuel : Nat) : ∀ (cs : List Value) (x : DataW H × List MemPlace), DataW.trod enc Try.prog w base spare held fuel 29 cs = some x →
    ∃ (T : Tm) (la : Option Addr) (lc : Nat) (a : Option Addr) (cap : Nat), cs = [.int .i64 T.k, .int .i64 T.n, .slice la T.ls.len lc, .slice a T.ks.len cap] ∧ SlIn w (· < w.heap.size) T.ls la lc ∧ TlIn w (· < w.heap.size) T.ks a cap := by
  induction fuel using Nat.strongRecOn with
  | ind fuel ih =>
    intro cs x h
    obtain ⟨xs, n0, hf, _, hl, hxl, hg⟩ := DataW.trod_struct Try.underlying29 h
    rw [t_cellsTerm] at hl
    match cs, hl with
    | [c0, c1, c2, c3], _ =>
      have hxl' : xs.length = 4 := hxl
      match xs, hxl' with
      | [y0, y1, y2, y3], _ =>
        have t0 : DataW.trod enc Try.prog w base spare held n0 3 [c0] = some y0 := by have := hg 0 _ rfl; simpa [cellsInt] using this
        have t1 : DataW.trod enc Try.prog w base spare held n0 3 [c1] = some y1 := by have := hg 1 _ rfl; simpa [cellsInt] using this
        have t2 : DataW.trod enc Try.prog w base spare held n0 26 [c2] = some y2 := by have := hg 2 _ rfl; simpa [cellsLevels] using this
        have t3 : DataW.trod enc Try.prog w base spare held n0 27 [c3] = some y3 := by have := hg 3 _ rfl; simpa [t_cellsTerms] using this
        obtain ⟨k, e0, _⟩ := DataW.trod_int Try.underlying3 t0
        obtain ⟨n, e1, _⟩ := DataW.trod_int Try.underlying3 t1
        injection e0 with e0 _
        injection e1 with e1 _
        subst e0 e1
        obtain ⟨F, la, lc, e2, hs2⟩ := open_levels t2
        subst e2
        rcases DataW.trod_slice Try.underlying27 t3 with ⟨e3, _⟩ | ⟨a, len, cap, elems, rest, n1, hn1, e3, _, hb, hle, hm, hlen, hel, _⟩
        · injection e3 with e3 _
          subst e3
          exact ⟨⟨k, n, F, .nil⟩, la, lc, none, 0, rfl, hs2, TlIn.none _ _⟩
        · injection e3 with e3 _
          subst e3
          rw [t_cellsTerm] at hel
          have each : ∀ i, i < len → ∃ (T : Tm) (la : Option Addr) (lc : Nat) (a' : Option Addr) (cap : Nat), w.cell? (a.add (i * 4)) = some (.int .i64 T.k) ∧ w.cell? ((a.add (i * 4)).add 1) = some (.int .i64 T.n) ∧ w.cell? ((a.add (i * 4)).add 2) = some (.slice la T.ls.len lc) ∧ w.cell? ((a.add (i * 4)).add 3) = some (.slice a' T.ks.len cap) ∧ SlIn w (· < w.heap.size) T.ls la lc ∧ TlIn w (· < w.heap.size) T.ks a' cap := by
            intro i hi
            have h1 := hel i hi
            rw [List.getElem?_eq_getElem (by omega)] at h1
            obtain ⟨cs', hc, ht⟩ := Option.bind_eq_some_iff.1 h1
            obtain ⟨T, la, lc, a', cap, rfl, hs, hk⟩ := ih n1 (by omega) cs' _ ht
            obtain ⟨_, hcl, hat⟩ := World.cells?_some hc
            have q0 := hat 0 (by omega)
            have q1 := hat 1 (by omega)
            have q2 := hat 2 (by omega)
            have q3 := hat 3 (by omega)
            exact ⟨T, la, lc, a', cap, by simpa [Addr.add] using q0, by simpa using q1, by simpa using q2, by simpa using q3, hs, hk⟩
          rcases Nat.eq_zero_or_pos len with h0 | h0
          · subst h0
            exact ⟨⟨k, n, F, .nil⟩, la, lc, some a, cap, rfl, hs2, ⟨Nat.zero_le _, hm, (fun h => by cases h), (fun h => by simp [Ft.len] at h)⟩⟩
          · have hsp : a.spot = none := by
              obtain ⟨T, _, _, _, _, q0, _⟩ := each 0 h0
              cases hs : a.spot with
              | none => rfl
              | some y => exfalso; simp [Addr.add, World.cell?, hs] at q0; split at q0 <;> simp at q0
            obtain ⟨b, o, sp⟩ := a
            have hsp' : sp = none := hsp
            subst hsp'
            have hadd : ∀ m, (⟨b, o, none⟩ : Addr).add m = ⟨b, o + m, none⟩ := fun m => by unfold Addr.add; split <;> simp_all
            simp only [hadd] at each
            have hbl : b < w.heap.size := by
              obtain ⟨T, _, _, _, _, q0, _⟩ := each 0 h0
              exact World.block_lt_of_cell? _ _ q0
            obtain ⟨G, hl, hF⟩ := t_forest len o each
            subst hl
            exact ⟨⟨k, n, F, G⟩, la, lc, some ⟨b, o, none⟩, cap, rfl, hs2, ⟨hle, hm, (fun h => by cases h), (fun _ => ⟨b, o, rfl, hbl, hF⟩)⟩⟩
end
section
variable {H : Type} {enc : TypeId × Value → H} {W : World} {base : Nat} {spare : Nat → Bool} {held : Bool}
set_option maxRecDepth 100000 in
theorem arg_term {r : Reach} {b0 : Nat} {v : Value} {d : DataW H} {p : List MemPlace} (hv : Value.okWide Try.prog W r b0 29 v) (h : DataW.Trod enc Try.prog W base spare held 29 v d p) :
    ∃ (T : Tm) (la : Option Addr) (lc : Nat) (a : Option Addr) (cap : Nat), v = .agg #[.int .i64 T.k, .int .i64 T.n, .slice la T.ls.len lc, .slice a T.ks.len cap] ∧ TmIn W W.heap.size T la lc a cap := by
  obtain ⟨cs, rfl, hsz⟩ := okWide_struct Try.underlying29 hv
  obtain ⟨fuel, hf⟩ := h
  obtain ⟨T, la, lc, a, cap, hcs, hs, hk⟩ := open_term fuel _ _ hf
  refine ⟨T, la, lc, a, cap, ?_, hs, hk, Nat.le_refl _⟩
  have : cs.toList = [.int .i64 T.k, .int .i64 T.n, .slice la T.ls.len lc, .slice a T.ks.len cap] := by simpa [Value.cells] using hcs
  obtain ⟨l⟩ := cs
  simp only at this
  rw [this]
end
end Go.Proofs.Ythnkoamabfaioaa
/- Bytes that came in as an argument. -/
namespace Go.Proofs.Ythnkoamabfaioaa
open Go.ChangeShapes Go.WideShapes Go.ChangeAt Go.RowKit
set_option maxRecDepth 100000 in
theorem u8_range {a : Int} (w0 : (Lit.int .u8 a).wf = true) : 0 ≤ a ∧ a < 256 := by
  have e1 : IntKind.u8.min = 0 := rfl
  have e2 : IntKind.u8.max = 255 := rfl
  simp only [Lit.wf, e1, e2, Bool.and_eq_true, decide_eq_true_eq] at w0
  omega
section
variable {H : Type} {enc : TypeId × Value → H} {W : World} {base : Nat} {spare : Nat → Bool} {held : Bool}
set_option maxRecDepth 100000 in
theorem arg_nums {q : IntKind} {ty el : TypeId} (ht : Try.prog.underlying ty = some (.slice el)) (he : Try.prog.underlying el = some (.int q)) (hc : Try.prog.cellsOf el = 1) {r : Reach} {b0 : Nat} {v : Value} {d : DataW H} {p : List MemPlace} (hv : Value.okWide Try.prog W r b0 ty v) (h : DataW.Trod enc Try.prog W base spare held ty v d p) :
    ∃ (l : List Int) (a : Option Addr) (cap : Nat), v = .slice a l.length cap ∧ l.length ≤ cap ∧ cap ≤ maxLen ∧ (a = none → cap = 0) ∧ (∀ z ∈ l, (Lit.int q z).wf = true) ∧ (0 < l.length → ∃ b o, a = some ⟨b, o, none⟩ ∧ b < W.heap.size ∧ ∀ i, i < l.length → W.cell? ⟨b, o + i, none⟩ = some (.int q (l.getD i 0))) := by
  obtain ⟨a, len, cap, rfl⟩ := okWide_slice ht hv
  obtain ⟨fuel, hf⟩ := h
  rcases open_ints ht he hc hf with ⟨hcs, _⟩ | ⟨a', len', cap', zs, hcs, _, hl, hm, hz, _, hcell, hwf⟩
  · have hcs' : a = none ∧ len = 0 ∧ cap = 0 := by simpa [Value.cells] using hcs
    obtain ⟨rfl, rfl, rfl⟩ := hcs'
    exact ⟨[], none, 0, rfl, Nat.le_refl _, Nat.zero_le _, fun _ => rfl, by simp, by simp⟩
  · have hcs' : a = some a' ∧ len = len' ∧ cap = cap' := by simpa [Value.cells] using hcs
    obtain ⟨rfl, rfl, rfl⟩ := hcs'
    have hzl : len ≤ zs.length := by rw [hz]; split <;> omega
    have hlen : (zs.take len).length = len := by simp; omega
    refine ⟨zs.take len, some a', cap, by rw [hlen], by omega, hm, (fun h => by cases h), fun z hz => hwf z (List.mem_of_mem_take hz), fun h0 => ?_⟩
    rw [hlen] at h0 ⊢
    have hget : ∀ i, i < len → (zs.take len).getD i 0 = zs.getD i 0 := fun i hi => by simp [List.getD_eq_getElem?_getD, hi]
    have q0 := hcell 0 (by omega)
    have hsp : a'.spot = none := by
      cases hs : a'.spot with
      | none => rfl
      | some y => exfalso; simp [Addr.add, World.cell?, hs] at q0; split at q0 <;> simp at q0
    obtain ⟨b, o, sp⟩ := a'
    have hsp' : sp = none := hsp
    subst hsp'
    have hadd : ∀ m, (⟨b, o, none⟩ : Addr).add m = ⟨b, o + m, none⟩ := fun m => by unfold Addr.add; split <;> simp_all
    simp only [hadd] at hcell
    refine ⟨b, o, rfl, World.block_lt_of_cell? _ _ (hcell 0 (by omega)), fun i hi => ?_⟩
    rw [hget i hi]
    exact hcell i (by omega)
set_option maxRecDepth 100000 in
theorem arg_bytes {r : Reach} {b0 : Nat} {v : Value} {d : DataW H} {p : List MemPlace} (hv : Value.okWide Try.prog W r b0 24 v) (h : DataW.Trod enc Try.prog W base spare held 24 v d p) :
    ∃ (len : Nat) (a : Option Addr) (cap : Nat), v = .slice a len cap ∧ U8In W (· < W.heap.size) len a cap := by
  obtain ⟨l, a, cap, h1, h2, h3, h4, hwf, h5⟩ := arg_nums Try.underlying24 Try.underlying5 cellsU8 hv h
  refine ⟨l.length, a, cap, h1, h2, h3, h4, fun h0 => ?_⟩
  obtain ⟨b, o, ha, hb, hc⟩ := h5 h0
  refine ⟨b, o, ha, hb, fun i hi => ?_⟩
  have hm : l.getD i 0 ∈ l := by
    have e : l.getD i 0 = l[i] := by simp [List.getD_eq_getElem?_getD, hi]
    rw [e]; exact List.getElem_mem hi
  have := u8_range (hwf _ hm)
  exact ⟨_, this.1, this.2, hc i hi⟩
end
end Go.Proofs.Ythnkoamabfaioaa
/- The table of the kinds of terms: the map that kinds makes, the rows of numbers that it leads to, and what is found in it. No condition. -/
namespace Go.Proofs.Ythnkoamabfaioaa
open Go.RowKit

/-- The row of a kind in the table. -/
def tRw (f : Nat) (lo hi : Int) (a : Option Addr) (len : Nat) : Value := .agg #[.func (.func f) #[] #[], .int .i64 lo, .int .i64 hi, .slice a len len]
def tAddr (r : Nat) (k : Int) : Option Addr := if k = 4 then some ⟨r + 1, 0, none⟩ else if k = 5 then some ⟨r + 1 + 1, 0, none⟩ else if k = 6 then some ⟨r + 1 + 1 + 1, 0, none⟩ else if k = 7 then some ⟨r + 1 + 1 + 1 + 1, 0, none⟩ else none
def tFn (k : Int) : Nat := if k = 1 then 54 else if k = 3 then 55 else 53
/-- The table. -/
def tTab (r : Nat) : Array MapEntry := #[⟨.int .i64 1, tRw 54 0 0 none 0, 0⟩, ⟨.int .i64 2, tRw 53 1 1 none 0, 1⟩, ⟨.int .i64 3, tRw 55 0 5 none 0, 2⟩, ⟨.int .i64 4, tRw 53 0 0 (some ⟨r + 1, 0, none⟩) 2, 3⟩,
  ⟨.int .i64 5, tRw 53 0 0 (some ⟨r + 1 + 1, 0, none⟩) 2, 4⟩, ⟨.int .i64 6, tRw 53 0 0 (some ⟨r + 1 + 1 + 1, 0, none⟩) 2, 5⟩, ⟨.int .i64 7, tRw 53 0 0 (some ⟨r + 1 + 1 + 1 + 1, 0, none⟩) 3, 6⟩]
/-- The table lies at the block r, its rows of numbers behind it. -/
structure TabAt (W : World) (r : Nat) : Prop where
  tab : W.heap[r]? = some (.map (tTab r) 7)
  r1 : W.heap[r + 1]? = some (.cells #[.int .i64 0, .int .i64 0] 3 (0, 0))
  r2 : W.heap[r + 1 + 1]? = some (.cells #[.int .i64 0, .int .i64 1] 3 (0, 0))
  r3 : W.heap[r + 1 + 1 + 1]? = some (.cells #[.int .i64 0, .int .i64 1] 3 (0, 0))
  r4 : W.heap[r + 1 + 1 + 1 + 1]? = some (.cells #[.int .i64 0, .int .i64 0, .int .i64 1] 3 (0, 0))
theorem TabAt.lt {W : World} {r : Nat} (h : TabAt W r) : r + 4 < W.heap.size := lt_of_block h.r4
theorem TabAt.turn {W W' : World} {r : Nat} (h : TabAt W r) (hk : ∀ b, r ≤ b → b ≤ r + 4 → W'.heap[b]? = W.heap[b]?) : TabAt W' r :=
  ⟨(hk _ (by omega) (by omega)).trans h.tab, (hk _ (by omega) (by omega)).trans h.r1, (hk _ (by omega) (by omega)).trans h.r2, (hk _ (by omega) (by omega)).trans h.r3, (hk _ (by omega) (by omega)).trans h.r4⟩
theorem TabAt.below {W W' : World} {r B : Nat} (h : TabAt W r) (hb : Below B W W') (hB : r + 4 < B) : TabAt W' r := h.turn (fun b _ h2 => hb.block b (by omega))
theorem TabAt.later {W W' : World} {r : Nat} (h : TabAt W r) (hb : Below W.heap.size W W') : TabAt W' r := h.below hb h.lt
theorem TabAt.only {W W' : World} {r C : Nat} (h : TabAt W r) (hg : W.grownBy W' (some C)) (hC : r + 4 < C) : TabAt W' r := h.turn (fun b _ h2 => Only.block hg (by have := h.lt; omega) (by omega))
theorem TabAt.drew {W : World} {r : Nat} (h : TabAt W r) : TabAt W.drew r := ⟨h.tab, h.r1, h.r2, h.r3, h.r4⟩
theorem TabAt.alloc {W : World} {r : Nat} (h : TabAt W r) (o : Obj) : TabAt (W.alloc o) r := h.later ((Below.refl _ _).alloc (Nat.le_refl _) o)

def mset (W : World) (r : Nat) (o : Obj) : World := { W with heap := W.heap.setIfInBounds r o }
theorem mset_alloc (W : World) (r : Nat) (o o1 : Obj) (h : r < W.heap.size) : mset (W.alloc o1) r o = (mset W r o).alloc o1 := by
  have e : (W.heap.push o1).setIfInBounds r o = (W.heap.setIfInBounds r o).push o1 := by
    apply Array.ext_getElem?
    intro i
    rw [Array.getElem?_setIfInBounds, Array.getElem?_push, Array.getElem?_push, Array.getElem?_setIfInBounds]
    by_cases hi : r = i
    · subst hi
      rw [if_pos rfl, if_pos rfl, if_pos (by simp; omega), if_pos h, if_neg (by simp; omega)]
    · rw [if_neg hi, if_neg hi, Array.size_setIfInBounds]
  show ({ W with heap := (W.heap.push o1).setIfInBounds r o } : World) = { W with heap := (W.heap.setIfInBounds r o).push o1 }
  rw [e]
theorem mset_new (w : World) (o o1 : Obj) : mset (w.alloc o1) w.heap.size o = w.alloc o := by
  have e : (w.heap.push o1).setIfInBounds w.heap.size o = w.heap.push o := by
    apply Array.ext_getElem?
    intro i
    rw [Array.getElem?_setIfInBounds, Array.getElem?_push, Array.getElem?_push]
    by_cases hi : w.heap.size = i
    · subst hi; simp
    · rw [if_neg hi, if_neg (Ne.symm hi), if_neg (Ne.symm hi)]
  show ({ w with heap := (w.heap.push o1).setIfInBounds w.heap.size o } : World) = { w with heap := w.heap.push o }
  rw [e]
theorem run_tins (W : World) (r : Nat) (es : Array MapEntry) (clock : Nat) (k : Int) (val : Value) (hb : W.heap[r]? = some (.map es clock)) (hf : Instr.findNow (.int .i64) (.int .i64 k) es.toList 0 = some none) :
    (Instr.mapUpdate 73 (.map (some r)) (.int .i64 k) val).run Try.prog W = .ok () (mset W r (.map (es.push { key := .int .i64 k, val := val, born := clock }) (clock + 1))) := by
  have hc : (Instr.checkKey false 10000 3 (.int .i64 k)).run Try.prog W = .ok () W := MapKept.run_checkKey (k := .int .i64 k) Try.underlying3 (by simp [MapKept.IsKey]) false 9999
  simp only [Instr.mapUpdate, Sem.run_bind, run_underlying Try.underlying73, MapKept.run_getObj_map hb, hc, MapKept.run_findKey Try.underlying3 hf, MapKept.run_setObj_map _ hb, Result.andThen]
  rfl
theorem map_new (w : World) (es : Array MapEntry) (c : Nat) : (w.alloc (.map es c)).heap[w.heap.size]? = some (.map es c) := heap_new w _

theorem five_new (w : World) (m a b c d : Obj) : (((((w.alloc m).alloc a).alloc b).alloc c).alloc d).heap[w.heap.size]? = some m ∧ (((((w.alloc m).alloc a).alloc b).alloc c).alloc d).heap[w.heap.size + 1]? = some a ∧
    (((((w.alloc m).alloc a).alloc b).alloc c).alloc d).heap[w.heap.size + 1 + 1]? = some b ∧ (((((w.alloc m).alloc a).alloc b).alloc c).alloc d).heap[w.heap.size + 1 + 1 + 1]? = some c ∧ (((((w.alloc m).alloc a).alloc b).alloc c).alloc d).heap[w.heap.size + 1 + 1 + 1 + 1]? = some d := by
  have s1 : (w.alloc m).heap.size = w.heap.size + 1 := by simp
  have s2 : ((w.alloc m).alloc a).heap.size = w.heap.size + 1 + 1 := by simp
  have s3 : (((w.alloc m).alloc a).alloc b).heap.size = w.heap.size + 1 + 1 + 1 := by simp
  have s4 : ((((w.alloc m).alloc a).alloc b).alloc c).heap.size = w.heap.size + 1 + 1 + 1 + 1 := by simp
  have n0 := heap_new w m
  have n1 := heap_new (w.alloc m) a
  have n2 := heap_new ((w.alloc m).alloc a) b
  have n3 := heap_new (((w.alloc m).alloc a).alloc b) c
  have n4 := heap_new ((((w.alloc m).alloc a).alloc b).alloc c) d
  rw [s1] at n1
  rw [s2] at n2
  rw [s3] at n3
  rw [s4] at n4
  refine ⟨?_, ?_, ?_, ?_, n4⟩
  · rw [heap_old _ _ (by omega), heap_old _ _ (by omega), heap_old _ _ (by omega), heap_old _ _ (by omega)]; exact n0
  · rw [heap_old _ _ (by omega), heap_old _ _ (by omega), heap_old _ _ (by omega)]; exact n1
  · rw [heap_old _ _ (by omega), heap_old _ _ (by omega)]; exact n2
  · rw [heap_old _ _ (by omega)]; exact n3

set_option maxRecDepth 100000 in
set_option maxHeartbeats 4000000 in
theorem tkinds_any (w : World) : Calls Try.prog 36 #[] w fun e w' => e = .returned (.map (some w.heap.size)) ∧ TabAt w' w.heap.size ∧ Below w.heap.size w w' := by
  have hmm := @run_makeMap Try.prog
  have i0 : ∀ (es : Array MapEntry) (c : Nat) (k : Int) (v : Value), Instr.findNow (.int .i64) (.int .i64 k) es.toList 0 = some none → (Instr.mapUpdate 73 (.map (some w.heap.size)) (.int .i64 k) v).run Try.prog (w.alloc (.map es c)) = .ok () (w.alloc (.map (es.push { key := .int .i64 k, val := v, born := c }) (c + 1))) := fun es c k v hf => by
    rw [run_tins _ _ es c k v (map_new w es c) hf, mset_new]
  have i1 : ∀ (es : Array MapEntry) (c : Nat) (k : Int) (v : Value) (o1 : Obj), Instr.findNow (.int .i64) (.int .i64 k) es.toList 0 = some none → (Instr.mapUpdate 73 (.map (some w.heap.size)) (.int .i64 k) v).run Try.prog ((w.alloc (.map es c)).alloc o1) = .ok () ((w.alloc (.map (es.push { key := .int .i64 k, val := v, born := c }) (c + 1))).alloc o1) := fun es c k v o1 hf => by
    rw [run_tins _ _ es c k v ((heap_old _ _ (by simp)).trans (map_new w es c)) hf, mset_alloc _ _ _ _ (by simp), mset_new]
  have i2 : ∀ (es : Array MapEntry) (c : Nat) (k : Int) (v : Value) (o1 o2 : Obj), Instr.findNow (.int .i64) (.int .i64 k) es.toList 0 = some none → (Instr.mapUpdate 73 (.map (some w.heap.size)) (.int .i64 k) v).run Try.prog (((w.alloc (.map es c)).alloc o1).alloc o2) = .ok () (((w.alloc (.map (es.push { key := .int .i64 k, val := v, born := c }) (c + 1))).alloc o1).alloc o2) := fun es c k v o1 o2 hf => by
    rw [run_tins _ _ es c k v ((heap_old _ _ (by simp; omega)).trans ((heap_old _ _ (by simp)).trans (map_new w es c))) hf, mset_alloc _ _ _ _ (by simp; omega), mset_alloc _ _ _ _ (by simp), mset_new]
  have i3 : ∀ (es : Array MapEntry) (c : Nat) (k : Int) (v : Value) (o1 o2 o3 : Obj), Instr.findNow (.int .i64) (.int .i64 k) es.toList 0 = some none → (Instr.mapUpdate 73 (.map (some w.heap.size)) (.int .i64 k) v).run Try.prog ((((w.alloc (.map es c)).alloc o1).alloc o2).alloc o3) = .ok () ((((w.alloc (.map (es.push { key := .int .i64 k, val := v, born := c }) (c + 1))).alloc o1).alloc o2).alloc o3) := fun es c k v o1 o2 o3 hf => by
    rw [run_tins _ _ es c k v ((heap_old _ _ (by simp; omega)).trans ((heap_old _ _ (by simp; omega)).trans ((heap_old _ _ (by simp)).trans (map_new w es c)))) hf, mset_alloc _ _ _ _ (by simp; omega), mset_alloc _ _ _ _ (by simp; omega), mset_alloc _ _ _ _ (by simp), mset_new]
  have i4 : ∀ (es : Array MapEntry) (c : Nat) (k : Int) (v : Value) (o1 o2 o3 o4 : Obj), Instr.findNow (.int .i64) (.int .i64 k) es.toList 0 = some none → (Instr.mapUpdate 73 (.map (some w.heap.size)) (.int .i64 k) v).run Try.prog (((((w.alloc (.map es c)).alloc o1).alloc o2).alloc o3).alloc o4) = .ok () (((((w.alloc (.map (es.push { key := .int .i64 k, val := v, born := c }) (c + 1))).alloc o1).alloc o2).alloc o3).alloc o4) := fun es c k v o1 o2 o3 o4 hf => by
    rw [run_tins _ _ es c k v ((heap_old _ _ (by simp; omega)).trans ((heap_old _ _ (by simp; omega)).trans ((heap_old _ _ (by simp; omega)).trans ((heap_old _ _ (by simp)).trans (map_new w es c))))) hf, mset_alloc _ _ _ _ (by simp; omega), mset_alloc _ _ _ _ (by simp; omega), mset_alloc _ _ _ _ (by simp; omega), mset_alloc _ _ _ _ (by simp), mset_new]
  have h1 := fun v => i0 #[] 0 1 v rfl
  have h2 := fun v1 v => i0 #[⟨.int .i64 1, v1, 0⟩] 1 2 v rfl
  have h3 := fun v1 v2 v => i0 #[⟨.int .i64 1, v1, 0⟩, ⟨.int .i64 2, v2, 1⟩] 2 3 v rfl
  have h4 := fun v1 v2 v3 v o1 => i1 #[⟨.int .i64 1, v1, 0⟩, ⟨.int .i64 2, v2, 1⟩, ⟨.int .i64 3, v3, 2⟩] 3 4 v o1 rfl
  have h5 := fun v1 v2 v3 v4 v o1 o2 => i2 #[⟨.int .i64 1, v1, 0⟩, ⟨.int .i64 2, v2, 1⟩, ⟨.int .i64 3, v3, 2⟩, ⟨.int .i64 4, v4, 3⟩] 4 5 v o1 o2 rfl
  have h6 := fun v1 v2 v3 v4 v5 v o1 o2 o3 => i3 #[⟨.int .i64 1, v1, 0⟩, ⟨.int .i64 2, v2, 1⟩, ⟨.int .i64 3, v3, 2⟩, ⟨.int .i64 4, v4, 3⟩, ⟨.int .i64 5, v5, 4⟩] 5 6 v o1 o2 o3 rfl
  have h7 := fun v1 v2 v3 v4 v5 v6 v o1 o2 o3 o4 => i4 #[⟨.int .i64 1, v1, 0⟩, ⟨.int .i64 2, v2, 1⟩, ⟨.int .i64 3, v3, 2⟩, ⟨.int .i64 4, v4, 3⟩, ⟨.int .i64 5, v5, 4⟩, ⟨.int .i64 6, v6, 5⟩] 6 7 v o1 o2 o3 o4 rfl
  clear i0 i1 i2 i3 i4
  go_enter Try.func36, Try.ntmps36
  go_wp2_with fail
  go_ret
  refine ⟨rfl, ⟨?_, ?_, ?_, ?_, ?_⟩, ?_⟩
  · exact (five_new w _ _ _ _ _).1
  · exact (five_new w _ _ _ _ _).2.1
  · exact (five_new w _ _ _ _ _).2.2.1
  · exact (five_new w _ _ _ _ _).2.2.2.1
  · exact (five_new w _ _ _ _ _).2.2.2.2
  · exact (((((Below.refl _ _).alloc (Nat.le_refl _) _).alloc (by simp) _).alloc (by simp; omega) _).alloc (by simp; omega) _).alloc (by simp; omega) _

/-- What is found in the table at a kind. -/
def tRow (r : Nat) (k : Int) : Value := tRw (tFn k) (tlo k) (thi k) (tAddr r k) (tkids k).toNat
theorem tfound (r : Nat) (k : Int) (h1 : 1 ≤ k) (h7 : k ≤ 7) : ∃ i, Instr.findNow (.int .i64) (.int .i64 k) (tTab r).toList 0 = some (some (i, tRow r k)) := by
  have hc : k = 1 ∨ k = 2 ∨ k = 3 ∨ k = 4 ∨ k = 5 ∨ k = 6 ∨ k = 7 := by omega
  rcases hc with rfl | rfl | rfl | rfl | rfl | rfl | rfl
  · exact ⟨0, rfl⟩
  · exact ⟨1, rfl⟩
  · exact ⟨2, rfl⟩
  · exact ⟨3, rfl⟩
  · exact ⟨4, rfl⟩
  · exact ⟨5, rfl⟩
  · exact ⟨6, rfl⟩
theorem run_tlook (W : World) (r : Nat) (hb : TabAt W r) (k : Int) (c : Bool) (h1 : 1 ≤ k) (h7 : k ≤ 7) :
    (Instr.lookup 73 (.map (some r)) (.int .i64 k) c).run Try.prog W = .ok (if c then .tuple #[tRow r k, .bool true] else tRow r k) W := by
  have hc : (Instr.checkKey (tTab r).isEmpty 10000 3 (.int .i64 k)).run Try.prog W = .ok () W := MapKept.run_checkKey (k := .int .i64 k) Try.underlying3 (by simp [MapKept.IsKey]) _ 9999
  obtain ⟨i, hf⟩ := tfound r k h1 h7
  simp [Instr.lookup, run_underlying Try.underlying73, MapKept.run_getObj_map hb.tab, hc, MapKept.run_findKey Try.underlying3 hf, Result.andThen]
theorem run_tlook_no (W : World) (r : Nat) (hb : TabAt W r) (k : Int) (c : Bool) (hk : k < 1 ∨ 7 < k) :
    (Instr.lookup 73 (.map (some r)) (.int .i64 k) c).run Try.prog W = .ok (if c then .tuple #[.agg #[.nilFunc, .int .i64 0, .int .i64 0, .slice none 0 0], .bool false] else .agg #[.nilFunc, .int .i64 0, .int .i64 0, .slice none 0 0]) W := by
  have hc : (Instr.checkKey (tTab r).isEmpty 10000 3 (.int .i64 k)).run Try.prog W = .ok () W := MapKept.run_checkKey (k := .int .i64 k) Try.underlying3 (by simp [MapKept.IsKey]) _ 9999
  have hf : Instr.findNow (.int .i64) (.int .i64 k) (tTab r).toList 0 = some none := by
    have n1 : (k == 1) = false := beq_eq_false_iff_ne.2 (by omega)
    have n2 : (k == 2) = false := beq_eq_false_iff_ne.2 (by omega)
    have n3 : (k == 3) = false := beq_eq_false_iff_ne.2 (by omega)
    have n4 : (k == 4) = false := beq_eq_false_iff_ne.2 (by omega)
    have n5 : (k == 5) = false := beq_eq_false_iff_ne.2 (by omega)
    have n6 : (k == 6) = false := beq_eq_false_iff_ne.2 (by omega)
    have n7 : (k == 7) = false := beq_eq_false_iff_ne.2 (by omega)
    simp [tTab, Instr.findNow, Instr.sameNow, n1, n2, n3, n4, n5, n6, n7]
  simp [Instr.lookup, run_underlying Try.underlying73, MapKept.run_getObj_map hb.tab, hc, MapKept.run_findKey Try.underlying3 hf, Result.andThen]
theorem run_tfield3 (g : Nat) (lo hi : Int) (a : Option Addr) (x y : Nat) (W : World) : (Instr.field 92 (.agg #[.func (.func g) #[] #[], .int .i64 lo, .int .i64 hi, .slice a x y]) 3).run Try.prog W = .ok (.slice a x y) W := by kernel_rfl
/-- The row of numbers of a kind: how many binders each kid is below. -/
theorem TabAt.own {W : World} {r : Nat} (h : TabAt W r) {k : Int} {i : Nat} (hi : (i : Int) < tkids k) : ∃ b, tAddr r k = some ⟨b, 0, none⟩ ∧ r < b ∧ b ≤ r + 4 ∧ W.cell? ⟨b, i, none⟩ = some (.int .i64 (bindK k i)) := by
  have hk : k = 4 ∨ k = 5 ∨ k = 6 ∨ k = 7 := by
    unfold tkids at hi
    by_cases h1 : k = 4 ∨ k = 5 ∨ k = 6
    · omega
    · rw [if_neg h1] at hi
      by_cases h2 : k = 7
      · omega
      · rw [if_neg h2] at hi
        split at hi <;> omega
  rcases hk with rfl | rfl | rfl | rfl
  · have hc : i = 0 ∨ i = 1 := by simp [tkids] at hi; omega
    refine ⟨r + 1, rfl, by omega, by omega, ?_⟩
    rcases hc with rfl | rfl <;> exact cell_at h.r1 _
  · have hc : i = 0 ∨ i = 1 := by simp [tkids] at hi; omega
    refine ⟨r + 1 + 1, rfl, by omega, by omega, ?_⟩
    rcases hc with rfl | rfl <;> exact cell_at h.r2 _
  · have hc : i = 0 ∨ i = 1 := by simp [tkids] at hi; omega
    refine ⟨r + 1 + 1 + 1, rfl, by omega, by omega, ?_⟩
    rcases hc with rfl | rfl <;> exact cell_at h.r3 _
  · have hc : i = 0 ∨ i = 1 ∨ i = 2 := by simp [tkids] at hi; omega
    refine ⟨r + 1 + 1 + 1 + 1, rfl, by omega, by omega, ?_⟩
    rcases hc with rfl | rfl | rfl <;> exact cell_at h.r4 _
theorem tk1_any (v : Int) (w : World) : Calls Try.prog 53 #[.int .i64 v] w fun e w' => e = .returned (.int .i64 1) ∧ w' = w := by
  go_enter Try.func53, Try.ntmps53
  go_wp2
  go_ret
  exact ⟨rfl, rfl⟩
theorem tk2_any (v : Int) (w : World) : Calls Try.prog 54 #[.int .i64 v] w fun e w' => e = .returned (.int .i64 v) ∧ w' = w := by
  go_enter Try.func54, Try.ntmps54
  go_wp2
  go_ret
  exact ⟨rfl, rfl⟩
theorem tk3_any (v : Int) (w : World) : Calls Try.prog 55 #[.int .i64 v] w fun e w' => e = .returned (.int .i64 20) ∧ w' = w := by
  go_enter Try.func55, Try.ntmps55
  go_wp2
  go_ret
  exact ⟨rfl, rfl⟩
theorem tFn_any (k v : Int) (w : World) : Calls Try.prog (tFn k) #[.int .i64 v] w fun e w' => e = .returned (.int .i64 (tlim v k)) ∧ w' = w := by
  unfold tFn tlim
  split
  · exact tk2_any v w
  · split
    · exact tk3_any v w
    · exact tk1_any v w
end Go.Proofs.Ythnkoamabfaioaa
