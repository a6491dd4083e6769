/- The contract of the document's own Same of terms. No condition but that they lie in memory. -/
import Derived.Test.YtcnhfoppfihhiaaTt
import Derived.Test.YtcnhfoppfihhiaaZP0
import Derived.Deep.RegionHeld3
import Derived.Test.YtcnhfoppfihhiaaQtop
import Derived.Deep.CutBlock
import Derived.Test.YtcnhfoppfihhiaaTmix
namespace Go.Proofs.Ytcnhfoppfihhiaa
open Go.RowKit

theorem heldT3 {wr w' : World} {x y b b' i i' c : Nat} {s1 s2 k1 n1 a1 k2 n2 a2 : Value} (hb : Below wr.heap.size wr w') (hx : x < wr.heap.size) (hy : y < wr.heap.size) (h1 : b < wr.heap.size) (h2 : b' < wr.heap.size)
    (c2 : wr.cell? ⟨x, c, none⟩ = some s1) (c5 : wr.cell? ⟨y, c, none⟩ = some s2)
    (e0 : wr.cell? ⟨b, i, none⟩ = some k1) (e1 : wr.cell? ⟨b, i + 1, none⟩ = some n1) (e2 : wr.cell? ⟨b, i + 2, none⟩ = some a1)
    (e3 : wr.cell? ⟨b', i', none⟩ = some k2) (e4 : wr.cell? ⟨b', i' + 1, none⟩ = some n2) (e5 : wr.cell? ⟨b', i' + 2, none⟩ = some a2) :
    Hid (Below wr.heap.size wr w') ∧ w'.cell? ⟨x, c, none⟩ = some s1 ∧ w'.cell? ⟨y, c, none⟩ = some s2 ∧ w'.cell? ⟨b, i, none⟩ = some k1 ∧ w'.cell? ⟨b, i + 1, none⟩ = some n1 ∧ w'.cell? ⟨b, i + 2, none⟩ = some a1 ∧ w'.cell? ⟨b', i', none⟩ = some k2 ∧ w'.cell? ⟨b', i' + 1, none⟩ = some n2 ∧ w'.cell? ⟨b', i' + 2, none⟩ = some a2 :=
  ⟨Lib.hid hb, (bcell hb _ _ hx).trans c2, (bcell hb _ _ hy).trans c5, (bcell hb _ _ h1).trans e0, (bcell hb _ _ h1).trans e1, (bcell hb _ _ h1).trans e2, (bcell hb _ _ h2).trans e3, (bcell hb _ _ h2).trans e4, (bcell hb _ _ h2).trans e5⟩
theorem heldT4 {wr w' : World} {x y b b' i i' c : Nat} {s1 s2 k1 n1 a1 f1 k2 n2 a2 f2 : Value} (hb : Below wr.heap.size wr w') (hx : x < wr.heap.size) (hy : y < wr.heap.size) (h1 : b < wr.heap.size) (h2 : b' < wr.heap.size)
    (c2 : wr.cell? ⟨x, c, none⟩ = some s1) (c5 : wr.cell? ⟨y, c, none⟩ = some s2)
    (e0 : wr.cell? ⟨b, i, none⟩ = some k1) (e1 : wr.cell? ⟨b, i + 1, none⟩ = some n1) (e2 : wr.cell? ⟨b, i + 2, none⟩ = some a1) (e2' : wr.cell? ⟨b, i + 3, none⟩ = some f1)
    (e3 : wr.cell? ⟨b', i', none⟩ = some k2) (e4 : wr.cell? ⟨b', i' + 1, none⟩ = some n2) (e5 : wr.cell? ⟨b', i' + 2, none⟩ = some a2) (e5' : wr.cell? ⟨b', i' + 3, none⟩ = some f2) :
    Hid (Below wr.heap.size wr w') ∧ w'.cell? ⟨x, c, none⟩ = some s1 ∧ w'.cell? ⟨y, c, none⟩ = some s2 ∧ w'.cell? ⟨b, i, none⟩ = some k1 ∧ w'.cell? ⟨b, i + 1, none⟩ = some n1 ∧ w'.cell? ⟨b, i + 2, none⟩ = some a1 ∧ w'.cell? ⟨b, i + 3, none⟩ = some f1 ∧ w'.cell? ⟨b', i', none⟩ = some k2 ∧ w'.cell? ⟨b', i' + 1, none⟩ = some n2 ∧ w'.cell? ⟨b', i' + 2, none⟩ = some a2 ∧ w'.cell? ⟨b', i' + 3, none⟩ = some f2 :=
  ⟨Lib.hid hb, (bcell hb _ _ hx).trans c2, (bcell hb _ _ hy).trans c5, (bcell hb _ _ h1).trans e0, (bcell hb _ _ h1).trans e1, (bcell hb _ _ h1).trans e2, (bcell hb _ _ h1).trans e2', (bcell hb _ _ h2).trans e3, (bcell hb _ _ h2).trans e4, (bcell hb _ _ h2).trans e5, (bcell hb _ _ h2).trans e5'⟩

set_option maxRecDepth 100000 in
set_option maxHeartbeats 4000000 in
theorem r13same_any (s : Nat) : ∀ (f g : Ft), f.size < s → ∀ (k n k' n' : Int) (ls ls' : Fo) (la la' a a' : Option Addr) (lc lc' cap cap' B : Nat) (w : World), SlIn w (· < B) ls la lc → SlIn w (· < B) ls' la' lc' → TlIn w (· < B) f a cap → TlIn w (· < B) g a' cap' → B ≤ w.heap.size →
    Calls Try.prog 12 #[.agg #[.int .i64 k, .int .i64 n, .slice la ls.len lc, .slice a f.len cap], .agg #[.int .i64 k', .int .i64 n', .slice la' ls'.len lc', .slice a' g.len cap']] w fun e w' => e = .returned (.bool (decide (Ft.cons k n ls f .nil = Ft.cons k' n' ls' g .nil))) ∧ Below w.heap.size w w' := by
  induction s with
  | zero => intro f g hs; omega
  | succ s ih =>
    intro f g hs k n k' n' ls ls' la la' a a' lc lc' cap cap' B w hl hl' hsl hsl' hB
    have IH := Lib.hid ih
    clear ih
    have hlen := hsl.len
    have hlen2 := hl.len
    have hbx : Below w.heap.size w ((w.alloc (.cells #[.int .i64 k, .int .i64 n, .slice la ls.len lc, .slice a f.len cap] 29)).alloc (.cells #[.int .i64 k', .int .i64 n', .slice la' ls'.len lc', .slice a' g.len cap'] 29)) := ((Below.refl _ _).alloc (Nat.le_refl _) _).alloc (by simp) _
    by_cases h1 : k = k'
    · by_cases h2 : n = n'
      · by_cases h3 : ls.len = ls'.len
        · by_cases h4 : f.len = g.len
          · subst h1 h2
            have HP : Hid (decide (Ft.cons k n ls f .nil = Ft.cons k n ls' g .nil) = decide (ls = ls' ∧ f = g)) := Lib.hid (by simp)
            generalize decide (Ft.cons k n ls f .nil = Ft.cons k n ls' g .nil) = res at HP
            obtain ⟨M, hMf, hMg⟩ : ∃ M, ls.len = M ∧ ls'.len = M := ⟨_, h3, rfl⟩
            obtain ⟨L, hLf, hLg⟩ : ∃ L, f.len = L ∧ g.len = L := ⟨_, h4, rfl⟩
            have H3 := Lib.hid hLf
            have HL := Lib.hid hLg
            have M3 := Lib.hid hMf
            have ML := Lib.hid hMg
            rw [hLf] at hlen
            rw [hMf] at hlen2
            rw [hLf, hLg, hMf, hMg] at hbx
            rw [hLf, hLg, hMf, hMg]
            clear h3 h4 hLf hLg hMf hMg
            go_enter Try.func12, Try.ntmps12
            go_wp2_with fail
            go_loopw [5] (fun i wr => ∃ (j : Nat) (r r' : Fo), i = .int .i64 j ∧ Hid (j + r.len = M) ∧ Hid (r.len = r'.len) ∧
                Hid (∀ b o, la = some ⟨b, o, none⟩ → FoIn w (· < B) r b (o + j * 3)) ∧ Hid (∀ b o, la' = some ⟨b, o, none⟩ → FoIn w (· < B) r' b (o + j * 3)) ∧ Hid (res = decide (r = r' ∧ f = g)) ∧
                Hid (Below (w.heap.size + 2) ((w.alloc (.cells #[.int .i64 k, .int .i64 n, .slice la M lc, .slice a L cap] 29)).alloc (.cells #[.int .i64 k, .int .i64 n, .slice la' M lc', .slice a' L cap'] 29)) wr))
              (fun i _ => M - (intOf i).toNat)
            case atStart => exact ⟨0, ls, ls', rfl, Lib.hid (by rw [M3.out]; omega), Lib.hid (by rw [M3.out, ML.out]), Lib.hid (by rintro b o rfl; simpa using hl.foIn), Lib.hid (by rintro b o rfl; simpa using hl'.foIn), HP, Lib.hid (Below.refl _ _)⟩
            case round =>
              obtain ⟨j, r, r', rfl, hj, hjj, hin, hin', heq, hb⟩ := hrel
              have c2 := bcell hb.out w.heap.size 2 (by omega)
              have c3 := bcell hb.out w.heap.size 3 (by omega)
              have c5 := bcell hb.out (w.heap.size + 1) 2 (by omega)
              have c6 := bcell hb.out (w.heap.size + 1) 3 (by omega)
              simp at c2 c3 c5 c6
              have HSZ : Hid (w.heap.size + 2 ≤ wr.heap.size) := Lib.hid (by have := hb.out.size; simpa using this)
              have HWW : Hid (Below w.heap.size w wr) := Lib.hid (hbx.trans (hb.out.mono (by omega)))
              match r, r', hj, hjj, hin, hin', heq with
              | .nil, .cons .., _, hjj, _, _, _ => have := hjj.out; simp [Fo.len] at this
              | .cons .., .nil, _, hjj, _, _, _ => have := hjj.out; simp [Fo.len] at this
              | .nil, .nil, hj, _, _, _, heq =>
                have hlt : ¬ (j : Int) < (M : Int) := by have := hj.out; simp [Fo.len] at this; omega
                have d' : decide ((j : Int) < (M : Int)) = false := by simpa using hlt
                have HP2 : Hid (res = decide (f = g)) := Lib.hid (by rw [heq.out]; simp)
                have HB2 := hb
                clear heq hj
                have W1 : ∃ W, W = wr := ⟨_, rfl⟩
                obtain ⟨W, hW⟩ := W1
                rw [← hW] at c2 c3 c5 c6 HSZ HWW HB2 hb ⊢
                clear hb hW
                go_wp2_with fail
                go_loopw [6] (fun i wr => ∃ (j : Nat) (r r' : Ft), i = .int .i64 j ∧ Hid (j + r.len = L) ∧ Hid (r.len = r'.len) ∧ Hid (r.size ≤ f.size) ∧
                    Hid (∀ b o, a = some ⟨b, o, none⟩ → FtIn w (· < B) r b (o + j * 4)) ∧ Hid (∀ b o, a' = some ⟨b, o, none⟩ → FtIn w (· < B) r' b (o + j * 4)) ∧ Hid (res = decide (r = r')) ∧
                    Hid (Below (w.heap.size + 2) ((w.alloc (.cells #[.int .i64 k, .int .i64 n, .slice la M lc, .slice a L cap] 29)).alloc (.cells #[.int .i64 k, .int .i64 n, .slice la' M lc', .slice a' L cap'] 29)) wr))
                  (fun i _ => L - (intOf i).toNat)
                case atStart => exact ⟨0, f, g, rfl, Lib.hid (by rw [H3.out]; omega), Lib.hid (by rw [H3.out, HL.out]), Lib.hid (Nat.le_refl _), Lib.hid (by rintro b o rfl; simpa using hsl.ftIn), Lib.hid (by rintro b o rfl; simpa using hsl'.ftIn), HP2, HB2⟩
                case round =>
                  clear c2 c3 c5 c6 d' hlt
                  obtain ⟨j, r, r', rfl, hj, hjj, hrs, hin, hin', heq, hb⟩ := hrel
                  have c3 := bcell hb.out w.heap.size 3 (by omega)
                  have c6 := bcell hb.out (w.heap.size + 1) 3 (by omega)
                  simp at c3 c6
                  have HWr : Hid (Below w.heap.size w wr) := Lib.hid (hbx.trans (hb.out.mono (by omega)))
                  have hwB : Below B w wr := HWr.out.mono hB
                  have HSZ : Hid (w.heap.size + 2 ≤ wr.heap.size) := Lib.hid (by have := hb.out.size; simpa using this)
                  match r, r', hj, hjj, hrs, hin, hin', heq with
                  | .nil, .cons .., _, hjj, _, _, _, _ => have := hjj.out; simp [Ft.len] at this
                  | .cons .., .nil, _, hjj, _, _, _, _ => have := hjj.out; simp [Ft.len] at this
                  | .nil, .nil, hj, _, _, _, _, heq =>
                    have hlt : ¬ (j : Int) < (L : Int) := by have := hj.out; simp [Ft.len] at this; omega
                    have d' : decide ((j : Int) < (L : Int)) = false := by simpa using hlt
                    go_wp2_with fail
                    go_ret
                    exact ⟨by rw [heq.out]; rfl, HWr.out⟩
                  | .cons k1 n1 l1 ks r1, .cons k2 n2 l2 ks' r2, hj, hjj, hrs, hin, hin', heq =>
                    have hlt : j < L := by have := hj.out; simp [Ft.len] at this; omega
                    have hlt' : (j : Int) < (L : Int) := by omega
                    obtain ⟨b, o, rfl, hbB, _⟩ := hsl.some (by rw [H3.out]; omega)
                    obtain ⟨b', o', rfl, hbB', _⟩ := hsl'.some (by rw [HL.out]; omega)
                    obtain ⟨e0, e1, ⟨u1, v1, e2, hl1⟩, ⟨a1, cap1, e2', hsl1⟩, _⟩ := (hin.out b o rfl).below hwB _ _ _ hbB |>.first
                    obtain ⟨e3, e4, ⟨u2, v2, e5, hl2⟩, ⟨a2, cap2, e5', hsl2⟩, _⟩ := (hin'.out b' o' rfl).below hwB _ _ _ hbB' |>.first
                    have hks : ks.size < s := by have := hrs.out; simp [Ft.size] at this; omega
                    have HC : Hid (∀ v, decide (Ft.cons k1 n1 l1 ks .nil = Ft.cons k2 n2 l2 ks' .nil) = v → decide (Ft.cons k1 n1 l1 ks r1 = Ft.cons k2 n2 l2 ks' r2) = (v && decide (r1 = r2))) := Lib.hid (by
                      rintro v rfl
                      rw [Bool.eq_iff_iff]
                      simp [and_assoc])
                    have hbr : b < wr.heap.size := by have := HWr.out.size; omega
                    have hbr' : b' < wr.heap.size := by have := HWr.out.size; omega
                    have hz1 : w.heap.size < wr.heap.size := by have := HSZ.out; omega
                    have hz2 : w.heap.size + 1 < wr.heap.size := by have := HSZ.out; omega
                    have hBr : B ≤ wr.heap.size := Nat.le_trans hB HWr.out.size
                    have C1 := Lib.hid (IH.out ks ks' hks k1 n1 k2 n2 l1 l2 u1 u2 a1 a2 v1 v2 cap1 cap2 B wr.drew (hl1.below (Below.refl _ _).drew) (hl2.below (Below.refl _ _).drew) (hsl1.below (Below.refl _ _).drew) (hsl2.below (Below.refl _ _).drew) hBr)
                    generalize hv : decide (Ft.cons k1 n1 l1 ks .nil = Ft.cons k2 n2 l2 ks' .nil) = v at C1
                    have HC' := Lib.hid (HC.out v hv)
                    clear HC hv hl1 hl2 hsl1 hsl2
                    go_wp2_with fail
                    go_region_held3 (fun w' => Hid (Below wr.heap.size wr w') ∧ w'.cell? ⟨w.heap.size, 3, none⟩ = some (.slice (some ⟨b, o, none⟩) L cap) ∧ w'.cell? ⟨w.heap.size + 1, 3, none⟩ = some (.slice (some ⟨b', o', none⟩) L cap') ∧
                        w'.cell? ⟨b, o + j * 4, none⟩ = some (.int .i64 k1) ∧ w'.cell? ⟨b, o + j * 4 + 1, none⟩ = some (.int .i64 n1) ∧ w'.cell? ⟨b, o + j * 4 + 2, none⟩ = some (.slice u1 l1.len v1) ∧ w'.cell? ⟨b, o + j * 4 + 3, none⟩ = some (.slice a1 ks.len cap1) ∧
                        w'.cell? ⟨b', o' + j * 4, none⟩ = some (.int .i64 k2) ∧ w'.cell? ⟨b', o' + j * 4 + 1, none⟩ = some (.int .i64 n2) ∧ w'.cell? ⟨b', o' + j * 4 + 2, none⟩ = some (.slice u2 l2.len v2) ∧ w'.cell? ⟨b', o' + j * 4 + 3, none⟩ = some (.slice a2 ks'.len cap2))
                      (first | exact ⟨Lib.hid (Below.refl _ _).drew, c3, c6, e0, e1, e2, e2', e3, e4, e5, e5'⟩ | exact heldT4 (Below.step (Below.refl _ _).drew hbN (Nat.le_refl _)) hz1 hz2 hbr hbr' c3 c6 e0 e1 e2 e2' e3 e4 e5 e5')
                      (first | (go_at_call 12; refine C1.out.mono ?_; rintro e wN ⟨rfl, hbN⟩))
                    have hbE := Lib.hid (Below.step hb.out (Below.step (Below.refl _ _).drew hbN (Nat.le_refl _)) (by simp))
                    have hwE := Lib.hid (Below.step HWr.out (Below.step (Below.refl _ _).drew hbN (Nat.le_refl _)) (Nat.le_refl _))
                    clear c3 c6 e0 e1 e2 e2' e3 e4 e5 e5' hbN C1
                    cases v with
                    | true =>
                      go_wp2_with fail
                      go_roundw
                      case rel => exact ⟨j + 1, r1, r2, by go_num, Lib.hid (by have := hj.out; simp [Ft.len] at this; omega), Lib.hid (by have := hjj.out; simpa [Ft.len] using this), Lib.hid (by have := hrs.out; simp [Ft.size] at this; omega), Lib.hid (by rintro b' o' h; cases h; have := (hin.out b o rfl).2.2.2.2; rwa [show o + (j + 1) * 4 = o + j * 4 + 4 by omega]), Lib.hid (by rintro b1 o1 h; cases h; have := (hin'.out b' o' rfl).2.2.2.2; rwa [show o' + (j + 1) * 4 = o' + j * 4 + 4 by omega]), Lib.hid (by rw [heq.out, HC'.out]; rfl), hbE⟩
                      case measure => simp [intOf]; omega
                    | false =>
                      go_wp2_with fail
                      go_ret
                      exact ⟨by rw [heq.out, HC'.out]; rfl, hwE.out⟩
              | .cons k1 n1 ks r1, .cons k2 n2 ks' r2, hj, hjj, hin, hin', heq =>
                have hwB : Below B w wr := HWW.out.mono hB
                have hlt : j < M := by have := hj.out; simp [Fo.len] at this; omega
                have hlt' : (j : Int) < (M : Int) := by omega
                obtain ⟨b, o, rfl, hbB, _⟩ := hl.some (by rw [M3.out]; omega)
                obtain ⟨b', o', rfl, hbB', _⟩ := hl'.some (by rw [ML.out]; omega)
                obtain ⟨e0, e1, ⟨a1, cap1, e2, hsl1⟩, _⟩ := (hin.out b o rfl).below hwB _ _ _ hbB |>.first
                obtain ⟨e3, e4, ⟨a2, cap2, e5, hsl2⟩, _⟩ := (hin'.out b' o' rfl).below hwB _ _ _ hbB' |>.first
                have HC : Hid (∀ v, decide (k1 = k2 ∧ n1 = n2 ∧ ks = ks') = v → decide (Fo.cons k1 n1 ks r1 = Fo.cons k2 n2 ks' r2 ∧ f = g) = (v && decide (r1 = r2 ∧ f = g))) := Lib.hid (by
                  rintro v rfl
                  rw [Bool.eq_iff_iff]
                  simp [and_assoc])
                have hbr : b < wr.heap.size := by have := HWW.out.size; omega
                have hbr' : b' < wr.heap.size := by have := HWW.out.size; omega
                have hz1 : w.heap.size < wr.heap.size := by have := HSZ.out; omega
                have hz2 : w.heap.size + 1 < wr.heap.size := by have := HSZ.out; omega
                have C1 := Lib.hid (rSame_any (ks.size + 1) ks ks' (Nat.lt_succ_self _) k1 n1 k2 n2 a1 a2 cap1 cap2 B wr.drew (hsl1.below (Below.refl _ _).drew) (hsl2.below (Below.refl _ _).drew) (Nat.le_trans hB HWW.out.size))
                generalize hv : decide (k1 = k2 ∧ n1 = n2 ∧ ks = ks') = v at C1
                have HC' := Lib.hid (HC.out v hv)
                clear HC hv hsl1 hsl2
                go_wp2_with fail
                go_region_held3 (fun w' => Hid (Below wr.heap.size wr w') ∧ w'.cell? ⟨w.heap.size, 2, none⟩ = some (.slice (some ⟨b, o, none⟩) M lc) ∧ w'.cell? ⟨w.heap.size + 1, 2, none⟩ = some (.slice (some ⟨b', o', none⟩) M lc') ∧
                    w'.cell? ⟨b, o + j * 3, none⟩ = some (.int .i64 k1) ∧ w'.cell? ⟨b, o + j * 3 + 1, none⟩ = some (.int .i64 n1) ∧ w'.cell? ⟨b, o + j * 3 + 2, none⟩ = some (.slice a1 ks.len cap1) ∧
                    w'.cell? ⟨b', o' + j * 3, none⟩ = some (.int .i64 k2) ∧ w'.cell? ⟨b', o' + j * 3 + 1, none⟩ = some (.int .i64 n2) ∧ w'.cell? ⟨b', o' + j * 3 + 2, none⟩ = some (.slice a2 ks'.len cap2))
                  (first | exact ⟨Lib.hid (Below.refl _ _).drew, c2, c5, e0, e1, e2, e3, e4, e5⟩ | exact heldT3 (Below.step (Below.refl _ _).drew hbN (Nat.le_refl _)) hz1 hz2 hbr hbr' c2 c5 e0 e1 e2 e3 e4 e5)
                  (first | (go_at_call 27; refine C1.out.mono ?_; rintro e wN ⟨rfl, hbN⟩))
                have hbE := Lib.hid (Below.step hb.out (Below.step (Below.refl _ _).drew hbN (Nat.le_refl _)) (by simp))
                have hwE := Lib.hid (Below.step HWW.out (Below.step (Below.refl _ _).drew hbN (Nat.le_refl _)) (Nat.le_refl _))
                clear c2 c3 c5 c6 e0 e1 e2 e3 e4 e5 hbN C1
                cases v with
                | true =>
                  go_wp2_with fail
                  go_roundw
                  case rel => exact ⟨j + 1, r1, r2, by go_num, Lib.hid (by have := hj.out; simp [Fo.len] at this; omega), Lib.hid (by have := hjj.out; simpa [Fo.len] using this), Lib.hid (by rintro b' o' h; cases h; have := (hin.out b o rfl).2.2.2; rwa [show o + (j + 1) * 3 = o + j * 3 + 3 by omega]), Lib.hid (by rintro b1 o1 h; cases h; have := (hin'.out b' o' rfl).2.2.2; rwa [show o' + (j + 1) * 3 = o' + j * 3 + 3 by omega]), Lib.hid (by rw [heq.out, HC'.out]; rfl), hbE⟩
                  case measure => simp [intOf]; omega
                | false =>
                  go_wp2_with fail
                  go_ret
                  exact ⟨by rw [heq.out, HC'.out]; rfl, hwE.out⟩
          · have d4 : ((f.len : Int) != (g.len : Int)) = true := by rw [bne_iff_ne]; omega
            have d3 : ((ls.len : Int) != (ls'.len : Int)) = false := by rw [h3]; simp
            have e : decide (Ft.cons k n ls f .nil = Ft.cons k' n' ls' g .nil) = false := decide_eq_false (fun h => h4 (by injection h with _ _ _ h; rw [h]))
            rw [e]
            subst h1 h2
            clear e h3 h4
            go_enter Try.func12, Try.ntmps12
            go_wp2_with fail
            go_ret
            exact ⟨rfl, hbx⟩
        · have d3 : ((ls.len : Int) != (ls'.len : Int)) = true := by rw [bne_iff_ne]; omega
          have e : decide (Ft.cons k n ls f .nil = Ft.cons k' n' ls' g .nil) = false := decide_eq_false (fun h => h3 (by injection h with _ _ h; rw [h]))
          rw [e]
          subst h1 h2
          clear e h3
          go_enter Try.func12, Try.ntmps12
          go_wp2_with fail
          go_ret
          exact ⟨rfl, hbx⟩
      · have d2 : (n != n') = true := by rw [bne_iff_ne]; exact h2
        have e : decide (Ft.cons k n ls f .nil = Ft.cons k' n' ls' g .nil) = false := decide_eq_false (fun h => h2 (by injection h))
        rw [e]
        subst h1
        clear e h2
        go_enter Try.func12, Try.ntmps12
        go_wp2_with fail
        go_ret
        exact ⟨rfl, hbx⟩
    · have d1 : (k != k') = true := by rw [bne_iff_ne]; exact h1
      have e : decide (Ft.cons k n ls f .nil = Ft.cons k' n' ls' g .nil) = false := decide_eq_false (fun h => h1 (by injection h))
      rw [e]
      clear e h1
      go_enter Try.func12, Try.ntmps12
      go_wp2_with fail
      go_ret
      exact ⟨rfl, hbx⟩
end Go.Proofs.Ytcnhfoppfihhiaa
/- The law's own comparison of what is told of a term. The conditions: what the program's Sub, Metas and Consts answer (QSubC, QMetC, QConC); the term is well-formed. -/
namespace Go.Proofs.Ytcnhfoppfihhiaa
open Go.RowKit

/-- What the program's Sub answers. -/
def QSubC : Prop := ∀ (P Q : Fo) (T : Tm) (la ka ap aq : Option Addr) (lc kc cp cq B : Nat) (w : World), SlIn w (· < B) T.ls la lc → TlIn w (· < B) T.ks ka kc → SlIn w (· < B) P ap cp → SlIn w (· < B) Q aq cq → B ≤ w.heap.size →
  Calls Try.prog 10 #[.agg #[.int .i64 T.k, .int .i64 T.n, .slice la T.ls.len lc, .slice ka T.ks.len kc], .slice ap P.len cp, .slice aq Q.len cq] w (QaPost (qA P Q T) w)
/-- A row of numbers in memory, as an answer. -/
def RnPost (zs : List Int) (w : World) (e : Ending) (w' : World) : Prop := ∃ x c, e = .returned (.slice x zs.length c) ∧ IntsIn w' (· < w'.heap.size) zs x c ∧ Below w.heap.size w w'
/-- What the program's Metas and Consts answer. -/
def QMetC : Prop := ∀ (T : Tm) (la ka : Option Addr) (lc kc B : Nat) (w : World), T.sh = true → SlIn w (· < B) T.ls la lc → TlIn w (· < B) T.ks ka kc → B ≤ w.heap.size →
  Calls Try.prog 17 #[.agg #[.int .i64 T.k, .int .i64 T.n, .slice la T.ls.len lc, .slice ka T.ks.len kc]] w (RnPost T.mets w)
def QConC : Prop := ∀ (T : Tm) (la ka : Option Addr) (lc kc B : Nat) (w : World), T.sh = true → SlIn w (· < B) T.ls la lc → TlIn w (· < B) T.ks ka kc → B ≤ w.heap.size →
  Calls Try.prog 18 #[.agg #[.int .i64 T.k, .int .i64 T.n, .slice la T.ls.len lc, .slice ka T.ks.len kc]] w (RnPost T.cons w)
theorem RnPost.of {zs : List Int} {w w' : World} {e : Ending} (h : NuPost zs w e w') : RnPost zs w e w' := by
  obtain ⟨x, c, rfl, h1, h2⟩ := h
  exact ⟨x, c, rfl, h1.ints, h2⟩
theorem ints8_yes {zs : List Int} {x y : Option Addr} {c d M N : Nat} {W : World} (h : IntsIn W (· < M) zs x c) (hM : M ≤ W.heap.size) (k : IntsIn W (· < N) zs y d) (hN : N ≤ W.heap.size) : Calls Try.prog 16 #[.slice x zs.length c, .slice y zs.length d] W fun e w' => e = .returned (.bool true) ∧ Below W.heap.size W w' := by
  have := ints8_any zs zs x y c d W.heap.size W (h.weak (fun b hb => Nat.lt_of_lt_of_le hb hM)) (k.weak (fun b hb => Nat.lt_of_lt_of_le hb hN)) (Nat.le_refl _)
  rwa [show eqI zs zs = true from decide_eq_true rfl] at this
theorem RowL.of2 {zs : List Int} {x : Option Addr} {c : Nat} {w : World} (h : IntsIn w (· < w.heap.size) zs x c) : RowL zs x c w := fun _ hb => ⟨h.below hb, hb.size⟩
theorem rows_two {zs : List Int} {x y : Option Addr} {c d : Nat} {w1 w2 W : World} (h : RowL zs x c w1) (k : RowL zs y d w2) (hb : Below w1.heap.size w1 W) (kb : Below w2.heap.size w2 W) : Calls Try.prog 16 #[.slice x zs.length c, .slice y zs.length d] W fun e w' => e = .returned (.bool true) ∧ Below W.heap.size W w' :=
  ints8_yes (h W hb).1 (h W hb).2 (k W kb).1 (k W kb).2
/-- The document's own Same of one term, twice. -/
theorem r13same_two {T : Tm} {la : Option Addr} {lc : Nat} {ka : Option Addr} {kc : Nat} {ua : Option Addr} {uc : Nat} {va : Option Addr} {vc N M : Nat} {W : World} (p : TmIn W N T la lc ka kc) (q : TmIn W M T ua uc va vc) :
    Calls Try.prog 12 #[.agg #[.int .i64 T.k, .int .i64 T.n, .slice la T.ls.len lc, .slice ka T.ks.len kc], .agg #[.int .i64 T.k, .int .i64 T.n, .slice ua T.ls.len uc, .slice va T.ks.len vc]] W fun e w' => e = .returned (.bool true) ∧ Below W.heap.size W w' := by
  have r := r13same_any (T.ks.size + 1) T.ks T.ks (Nat.lt_succ_self _) T.k T.n T.k T.n T.ls T.ls la ua ka va lc uc kc vc W.heap.size W (p.1.mono p.2.2) (q.1.mono q.2.2) (p.2.1.mono p.2.2) (q.2.1.mono q.2.2) (Nat.le_refl _)
  rwa [one_refl T] at r

set_option maxRecDepth 100000 in
set_option maxHeartbeats 8000000 in
theorem same15_any (hS : QSubC) (hM : QMetC) (hC : QConC) (P Q : Fo) (T : Tm) (hT : T.sh = true) (la ka ap aq : Option Addr) (lc kc cp cq N : Nat) (w : World) (ht : TmIn w N T la lc ka kc) (hsp : SlIn w (· < N) P ap cp) (hsq : SlIn w (· < N) Q aq cq) :
    Calls Try.prog 7 #[.agg #[.int .i64 T.k, .int .i64 T.n, .slice la T.ls.len lc, .slice ka T.ks.len kc], .slice ap P.len cp, .slice aq Q.len cq] w fun e w' => e = .returned (.bool true) ∧ Below w.heap.size w w' := by
  have hB := ht.2.2
  have CS := Lib.hid (fun W (h : Below w.heap.size w W) => hS P Q T la ka ap aq lc kc cp cq N W (ht.1.below (h.mono hB)) (ht.2.1.below (h.mono hB)) (hsp.below (h.mono hB)) (hsq.below (h.mono hB)) (Nat.le_trans hB h.size))
  have CR := Lib.hid (fun W (h : Below w.heap.size w W) => r15Sub_any P Q T la ka ap aq lc kc cp cq N W (ht.1.below (h.mono hB)) (ht.2.1.below (h.mono hB)) (hsp.below (h.mono hB)) (hsq.below (h.mono hB)) (Nat.le_trans hB h.size))
  have CM := Lib.hid (fun W (h : Below w.heap.size w W) => hM T la ka lc kc N W hT (ht.1.below (h.mono hB)) (ht.2.1.below (h.mono hB)) (Nat.le_trans hB h.size))
  have CM' := Lib.hid (fun W (h : Below w.heap.size w W) => (r15Metas_any T hT la ka lc kc N W (ht.1.below (h.mono hB)) (ht.2.1.below (h.mono hB)) (Nat.le_trans hB h.size)).mono (fun _ _ h => RnPost.of h))
  have CC := Lib.hid (fun W (h : Below w.heap.size w W) => hC T la ka lc kc N W hT (ht.1.below (h.mono hB)) (ht.2.1.below (h.mono hB)) (Nat.le_trans hB h.size))
  have CC' := Lib.hid (fun W (h : Below w.heap.size w W) => (r15Consts_any (T.ks.size + 1) T.ks (Nat.lt_succ_self _) (sh_small9 hT).1 T.k T.n T.ls la ka lc kc N W (ht.1.below (h.mono hB)) (ht.2.1.below (h.mono hB)) (Nat.le_trans hB h.size)).mono (fun _ _ h => RnPost.of h))
  rw [show onceL (cs1 T.k T.n T.ks) [] = T.cons from rfl] at CC'
  generalize T.mets = zm at CM CM'
  generalize T.cons = zc at CC CC'
  generalize qA P Q T = A at CS CR
  obtain ⟨U, E⟩ := A
  have dE : (E == E) = true := by simp
  have hb0 : Below w.heap.size w (w.alloc (.cells #[.int .i64 T.k, .int .i64 T.n, .slice la T.ls.len lc, .slice ka T.ks.len kc] 29)) := (Below.refl _ _).alloc (Nat.le_refl _) _
  have HB0 := Lib.hid hb0
  have HU0 := Lib.hid (heap_new w (.cells #[.int .i64 T.k, .int .i64 T.n, .slice la T.ls.len lc, .slice ka T.ks.len kc] 29))
  obtain ⟨c0, c1, c2, c3⟩ := cells4 HU0.out
  clear hb0 ht hsp hsq hT
  go_enter Try.func7, Try.ntmps7
  go_wp2_with fail
  refine (CS.out _ HB0.out).mono ?_
  rintro e w1 ⟨a1, d1, a2, d2, rfl, s1, s2, b1⟩
  have T1 : Hid (TmIn w1 w1.heap.size U a1 d1 a2 d2) := Lib.hid ⟨s1, s2, Nat.le_refl _⟩
  have HB1 := Lib.hid (Below.step HB0.out b1 (Nat.le_refl _))
  have HU1 := Lib.hid ((b1.block _ (lt_of_block HU0.out)).trans HU0.out)
  clear s1 s2 b1 c0 c1 c2 c3
  obtain ⟨c0, c1, c2, c3⟩ := cells4 HU1.out
  have hbx : Below w1.heap.size w1 (w1.alloc (.cells #[.int .i64 U.k, .int .i64 U.n, .slice a1 U.ls.len d1, .slice a2 U.ks.len d2] 29)) := (Below.refl _ _).alloc (Nat.le_refl _) _
  have l0 := lt_of_block HU1.out
  have X1 := Lib.hid (TmBox.new T1.out)
  have HB2 := Lib.hid (Below.step HB1.out hbx (Nat.le_refl _))
  have HU2 := Lib.hid ((hbx.block _ l0).trans HU1.out)
  clear c0 c1 c2 c3
  obtain ⟨c0, c1, c2, c3⟩ := cells4 HU2.out
  clear hbx
  go_wp2_with fail
  refine (CR.out _ HB2.out).mono ?_
  rintro e w2 ⟨a3, d3, a4, d4, rfl, s3, s4, b2⟩
  have T2 : Hid (TmIn w2 w2.heap.size U a3 d3 a4 d4) := Lib.hid ⟨s3, s4, Nat.le_refl _⟩
  have hbx : Below w2.heap.size w2 (w2.alloc (.cells #[.int .i64 U.k, .int .i64 U.n, .slice a3 U.ls.len d3, .slice a4 U.ks.len d4] 29)) := (Below.refl _ _).alloc (Nat.le_refl _) _
  have b12 := Below.step b2 hbx (Nat.le_refl _)
  have X2 := Lib.hid (TmBox.new T2.out)
  have X1' := Lib.hid (X1.out.later b12)
  have HU3 := Lib.hid ((b12.block _ (lt_of_block HU2.out)).trans HU2.out)
  have HB3 := Lib.hid (Below.step HB2.out b12 (Nat.le_refl _))
  clear s3 s4 b2 hbx b12 c0 c1 c2 c3 X1 T1 T2 HU0 HU1 HU2 HB1 HB2 HB0 l0
  go_upto_region 3 with fail
  generalize w2.alloc (.cells #[.int .i64 U.k, .int .i64 U.n, .slice a3 U.ls.len d3, .slice a4 U.ks.len d4] 29) = W0 at X1' X2 HU3 HB3 ⊢
  generalize w1.heap.size = N1 at X1' ⊢
  generalize w2.heap.size = N2 at X2 ⊢
  have HCL : Hid (∀ w', Below W0.heap.size W0 w' → (w'.cell? ⟨w.heap.size, 0, none⟩ = some (.int .i64 T.k) ∧ w'.cell? ⟨w.heap.size, 1, none⟩ = some (.int .i64 T.n) ∧ w'.cell? ⟨w.heap.size, 2, none⟩ = some (.slice la T.ls.len lc) ∧ w'.cell? ⟨w.heap.size, 3, none⟩ = some (.slice ka T.ks.len kc)) ∧
      (w'.cell? ⟨N1, 0, none⟩ = some (.int .i64 U.k) ∧ w'.cell? ⟨N1, 1, none⟩ = some (.int .i64 U.n) ∧ w'.cell? ⟨N1, 2, none⟩ = some (.slice a1 U.ls.len d1) ∧ w'.cell? ⟨N1, 3, none⟩ = some (.slice a2 U.ks.len d2)) ∧
      (w'.cell? ⟨N2, 0, none⟩ = some (.int .i64 U.k) ∧ w'.cell? ⟨N2, 1, none⟩ = some (.int .i64 U.n) ∧ w'.cell? ⟨N2, 2, none⟩ = some (.slice a3 U.ls.len d3) ∧ w'.cell? ⟨N2, 3, none⟩ = some (.slice a4 U.ks.len d4))) := Lib.hid (fun w' hb =>
    ⟨cells4 ((hb.block _ (lt_of_block HU3.out)).trans HU3.out), (X1'.out.later hb).cells, (X2.out.later hb).cells⟩)
  have HSM := Lib.hid (fun (w' : World) (hb : Below W0.heap.size W0 w') => r13same_two (X1'.out.2.later hb) (X2.out.2.later hb))
  have HW : Hid (∀ w', Below W0.heap.size W0 w' → Below w.heap.size w w') := Lib.hid (fun w' hb => Below.step HB3.out hb (Nat.le_refl _))
  clear HU3 X1' X2
  go_region_held3 (fun w' => Hid (Below W0.heap.size W0 w') ∧ ((w'.cell? ⟨w.heap.size, 0, none⟩ = some (.int .i64 T.k) ∧ w'.cell? ⟨w.heap.size, 1, none⟩ = some (.int .i64 T.n) ∧ w'.cell? ⟨w.heap.size, 2, none⟩ = some (.slice la T.ls.len lc) ∧ w'.cell? ⟨w.heap.size, 3, none⟩ = some (.slice ka T.ks.len kc)) ∧
      (w'.cell? ⟨N1, 0, none⟩ = some (.int .i64 U.k) ∧ w'.cell? ⟨N1, 1, none⟩ = some (.int .i64 U.n) ∧ w'.cell? ⟨N1, 2, none⟩ = some (.slice a1 U.ls.len d1) ∧ w'.cell? ⟨N1, 3, none⟩ = some (.slice a2 U.ks.len d2)) ∧
      (w'.cell? ⟨N2, 0, none⟩ = some (.int .i64 U.k) ∧ w'.cell? ⟨N2, 1, none⟩ = some (.int .i64 U.n) ∧ w'.cell? ⟨N2, 2, none⟩ = some (.slice a3 U.ls.len d3) ∧ w'.cell? ⟨N2, 3, none⟩ = some (.slice a4 U.ks.len d4))))
    (first | exact ⟨Lib.hid (Below.refl _ _).drew, HCL.out _ (Below.refl _ _).drew⟩ | (go_split_ands; exact ⟨Lib.hid (Below.step (Hid.out (by assumption)) hbN (Nat.le_refl _)), HCL.out _ (Below.step (Hid.out (by assumption)) hbN (Nat.le_refl _))⟩))
    (first
      | (go_at_call 12; go_split_ands; refine (HSM.out _ (Hid.out (by assumption))).mono ?_; rintro e wN ⟨rfl, hbN⟩)
      | (go_at_call 17; go_split_ands; refine (CM.out _ (by exact HW.out _ (Hid.out (by assumption)))).mono ?_; rintro e wN ⟨y1, m1, rfl, o1, hbN⟩; have R1 := Lib.hid (RowL.of2 o1); clear o1)
      | (go_at_call 20; go_split_ands; refine (CM'.out _ (by exact HW.out _ (Hid.out (by assumption)))).mono ?_; rintro e wN ⟨y2, m2, rfl, o2, hbN⟩; have R2 := Lib.hid (RowL.of2 o2); clear o2)
      | (go_at_call 18; go_split_ands; refine (CC.out _ (by exact HW.out _ (Hid.out (by assumption)))).mono ?_; rintro e wN ⟨y3, m3, rfl, o3, hbN⟩; have R3 := Lib.hid (RowL.of2 o3); clear o3)
      | (go_at_call 21; go_split_ands; refine (CC'.out _ (by exact HW.out _ (Hid.out (by assumption)))).mono ?_; rintro e wN ⟨y4, m4, rfl, o4, hbN⟩; have R4 := Lib.hid (RowL.of2 o4); clear o4)
      | (go_at_call_of 16 (Value.slice y3 zc.length m3); refine (rows_two R3.out R4.out (by first | exact hbN | exact Below.refl _ _) (by first | exact hbN | exact Below.refl _ _)).mono ?_; rintro e wN ⟨rfl, hbN⟩)
      | (go_at_call_of 16 (Value.slice y1 zm.length m1); refine (rows_two R1.out R2.out (by first | exact hbN | exact Below.refl _ _) (by first | exact hbN | exact Below.refl _ _)).mono ?_; rintro e wN ⟨rfl, hbN⟩))
  all_goals go_split_ands
  all_goals have hEE := Lib.hid (HW.out _ (Hid.out (by assumption : Hid (Below W0.heap.size W0 wN))))
  all_goals go_wp2_with fail
  all_goals go_ret
  all_goals exact ⟨rfl, hEE.out⟩
end Go.Proofs.Ytcnhfoppfihhiaa
/- The contracts of the law's own Var, Sort, Bind. No condition but those that stand in each statement. -/
namespace Go.Proofs.Ytcnhfoppfihhiaa
open Go.RowKit

set_option maxRecDepth 100000 in
set_option maxHeartbeats 1000000 in
theorem tVar_any (n : Int) (w : World) : Calls Try.prog 39 #[.int .i64 n] w fun e w' => e = .returned (.agg #[.int .i64 1, .int .i64 n, .slice none 0 0, .slice none 0 0]) ∧ Below w.heap.size w w' := by
  go_enter Try.func39, Try.ntmps39
  go_wp2_with fail
  refine bodyPost_ret (v := .agg #[.int .i64 1, .int .i64 n, .slice none 0 0, .slice none 0 0]) (by simp [results, Try.results39, go_sem]) rfl ?_
  exact ⟨rfl, (Below.refl _ _).alloc (Nat.le_refl _) _⟩
set_option maxRecDepth 100000 in
set_option maxHeartbeats 1000000 in
theorem tBind_any (k : Int) (a : Option Addr) (len cap : Nat) (w : World) : Calls Try.prog 14 #[.int .i64 k, .slice a len cap] w fun e w' => e = .returned (.agg #[.int .i64 k, .int .i64 0, .slice none 0 0, .slice a len cap]) ∧ Below w.heap.size w w' := by
  go_enter Try.func14, Try.ntmps14
  go_wp2_with fail
  refine bodyPost_ret (v := .agg #[.int .i64 k, .int .i64 0, .slice none 0 0, .slice a len cap]) (by simp [results, Try.results14, go_sem]) rfl ?_
  exact ⟨rfl, (Below.refl _ _).alloc (Nat.le_refl _) _⟩
/-- A Sort of a level. -/
def sortT (k n : Int) (ks : Fo) : Tm := ⟨2, 0, .cons k n ks .nil, .nil⟩
set_option maxRecDepth 100000 in
set_option maxHeartbeats 1000000 in
theorem tSort_any (k n : Int) (f : Fo) (a : Option Addr) (cap B : Nat) (w : World) (hs : SlIn w (· < B) f a cap) (hB : B ≤ w.heap.size) : Calls Try.prog 11 #[.agg #[.int .i64 k, .int .i64 n, .slice a f.len cap]] w (TmPost B (sortT k n f) w) := by
  have hb : Below w.heap.size w (((w.alloc (.cells #[.int .i64 k, .int .i64 n, .slice a f.len cap] 38)).alloc (.cells #[.int .i64 2, .int .i64 0, .slice (some ⟨w.heap.size + 1 + 1, 0, none⟩) 1 1, .slice none 0 0] 29)).alloc (.cells #[.int .i64 k, .int .i64 n, .slice a f.len cap] 38)) := (((Below.refl _ _).alloc (Nat.le_refl _) _).alloc (by simp) _).alloc (by simp; omega) _
  have hn := heap_second (w.alloc (.cells #[.int .i64 k, .int .i64 n, .slice a f.len cap] 38)) (.cells #[.int .i64 2, .int .i64 0, .slice (some ⟨w.heap.size + 1 + 1, 0, none⟩) 1 1, .slice none 0 0] 29) (.cells #[.int .i64 k, .int .i64 n, .slice a f.len cap] 38)
  have HB := Lib.hid hb
  have HN := Lib.hid hn
  have HS := Lib.hid hs
  clear hb hn hs
  go_enter Try.func11, Try.ntmps11
  go_wp2_with fail
  refine bodyPost_ret (v := .agg #[.int .i64 2, .int .i64 0, .slice (some ⟨w.heap.size + 1 + 1, 0, none⟩) 1 1, .slice none 0 0]) (by simp [results, Try.results11, go_sem]) rfl ?_
  have hn := HN.out
  simp only [World.size_alloc] at hn
  obtain ⟨c0, c1, c2⟩ := cells3 hn
  refine ⟨some ⟨w.heap.size + 1 + 1, 0, none⟩, 1, none, 0, rfl, ?_, TlIn.none _ _, HB.out⟩
  refine SlIn.mk (by simp [sortT, Fo.len]) (by omega) ⟨by omega, by simp⟩ (FoIn.push c0 c1 c2 ?_ trivial)
  exact (HS.out.below (HB.out.mono hB)).weak (fun b hb => ⟨.inl hb, by simp; omega⟩)

end Go.Proofs.Ytcnhfoppfihhiaa
