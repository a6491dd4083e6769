/- The contract of the document's own Same of terms. No condition but that they lie in memory. -/
import Derived.Test.YtokckghedpdfiaaTt
import Derived.Test.YtokckghedpdfiaaRSame
import Derived.Deep.RegionHeld3
namespace Go.Proofs.Ytokckghedpdfiaa
open Go.RowKit

theorem heldT3 {wr w' : World} {x y b b' i i' c : Nat} {s1 s2 k1 n1 a1 k2 n2 a2 : Value} (hb : Below wr.heap.size wr w') (hx : x < wr.heap.size) (hy : y < wr.heap.size) (h1 : b < wr.heap.size) (h2 : b' < wr.heap.size)
    (c2 : wr.cell? ⟨x, c, none⟩ = some s1) (c5 : wr.cell? ⟨y, c, none⟩ = some s2)
    (e0 : wr.cell? ⟨b, i, none⟩ = some k1) (e1 : wr.cell? ⟨b, i + 1, none⟩ = some n1) (e2 : wr.cell? ⟨b, i + 2, none⟩ = some a1)
    (e3 : wr.cell? ⟨b', i', none⟩ = some k2) (e4 : wr.cell? ⟨b', i' + 1, none⟩ = some n2) (e5 : wr.cell? ⟨b', i' + 2, none⟩ = some a2) :
    Hid (Below wr.heap.size wr w') ∧ w'.cell? ⟨x, c, none⟩ = some s1 ∧ w'.cell? ⟨y, c, none⟩ = some s2 ∧ w'.cell? ⟨b, i, none⟩ = some k1 ∧ w'.cell? ⟨b, i + 1, none⟩ = some n1 ∧ w'.cell? ⟨b, i + 2, none⟩ = some a1 ∧ w'.cell? ⟨b', i', none⟩ = some k2 ∧ w'.cell? ⟨b', i' + 1, none⟩ = some n2 ∧ w'.cell? ⟨b', i' + 2, none⟩ = some a2 :=
  ⟨Lib.hid hb, (bcell hb _ _ hx).trans c2, (bcell hb _ _ hy).trans c5, (bcell hb _ _ h1).trans e0, (bcell hb _ _ h1).trans e1, (bcell hb _ _ h1).trans e2, (bcell hb _ _ h2).trans e3, (bcell hb _ _ h2).trans e4, (bcell hb _ _ h2).trans e5⟩
theorem heldT4 {wr w' : World} {x y b b' i i' c : Nat} {s1 s2 k1 n1 a1 f1 k2 n2 a2 f2 : Value} (hb : Below wr.heap.size wr w') (hx : x < wr.heap.size) (hy : y < wr.heap.size) (h1 : b < wr.heap.size) (h2 : b' < wr.heap.size)
    (c2 : wr.cell? ⟨x, c, none⟩ = some s1) (c5 : wr.cell? ⟨y, c, none⟩ = some s2)
    (e0 : wr.cell? ⟨b, i, none⟩ = some k1) (e1 : wr.cell? ⟨b, i + 1, none⟩ = some n1) (e2 : wr.cell? ⟨b, i + 2, none⟩ = some a1) (e2' : wr.cell? ⟨b, i + 3, none⟩ = some f1)
    (e3 : wr.cell? ⟨b', i', none⟩ = some k2) (e4 : wr.cell? ⟨b', i' + 1, none⟩ = some n2) (e5 : wr.cell? ⟨b', i' + 2, none⟩ = some a2) (e5' : wr.cell? ⟨b', i' + 3, none⟩ = some f2) :
    Hid (Below wr.heap.size wr w') ∧ w'.cell? ⟨x, c, none⟩ = some s1 ∧ w'.cell? ⟨y, c, none⟩ = some s2 ∧ w'.cell? ⟨b, i, none⟩ = some k1 ∧ w'.cell? ⟨b, i + 1, none⟩ = some n1 ∧ w'.cell? ⟨b, i + 2, none⟩ = some a1 ∧ w'.cell? ⟨b, i + 3, none⟩ = some f1 ∧ w'.cell? ⟨b', i', none⟩ = some k2 ∧ w'.cell? ⟨b', i' + 1, none⟩ = some n2 ∧ w'.cell? ⟨b', i' + 2, none⟩ = some a2 ∧ w'.cell? ⟨b', i' + 3, none⟩ = some f2 :=
  ⟨Lib.hid hb, (bcell hb _ _ hx).trans c2, (bcell hb _ _ hy).trans c5, (bcell hb _ _ h1).trans e0, (bcell hb _ _ h1).trans e1, (bcell hb _ _ h1).trans e2, (bcell hb _ _ h1).trans e2', (bcell hb _ _ h2).trans e3, (bcell hb _ _ h2).trans e4, (bcell hb _ _ h2).trans e5, (bcell hb _ _ h2).trans e5'⟩

set_option maxRecDepth 100000 in
set_option maxHeartbeats 4000000 in
theorem r13same_any (s : Nat) : ∀ (f g : Ft), f.size < s → ∀ (k n k' n' : Int) (ls ls' : Fo) (la la' a a' : Option Addr) (lc lc' cap cap' B : Nat) (w : World), SlIn w (· < B) ls la lc → SlIn w (· < B) ls' la' lc' → TlIn w (· < B) f a cap → TlIn w (· < B) g a' cap' → B ≤ w.heap.size →
    Calls Try.prog 19 #[.agg #[.int .i64 k, .int .i64 n, .slice la ls.len lc, .slice a f.len cap], .agg #[.int .i64 k', .int .i64 n', .slice la' ls'.len lc', .slice a' g.len cap']] w fun e w' => e = .returned (.bool (decide (Ft.cons k n ls f .nil = Ft.cons k' n' ls' g .nil))) ∧ Below w.heap.size w w' := by
  induction s with
  | zero => intro f g hs; omega
  | succ s ih =>
    intro f g hs k n k' n' ls ls' la la' a a' lc lc' cap cap' B w hl hl' hsl hsl' hB
    have IH := Lib.hid ih
    clear ih
    have hlen := hsl.len
    have hlen2 := hl.len
    have hbx : Below w.heap.size w ((w.alloc (.cells #[.int .i64 k, .int .i64 n, .slice la ls.len lc, .slice a f.len cap] 25)).alloc (.cells #[.int .i64 k', .int .i64 n', .slice la' ls'.len lc', .slice a' g.len cap'] 25)) := ((Below.refl _ _).alloc (Nat.le_refl _) _).alloc (by simp) _
    by_cases h1 : k = k'
    · by_cases h2 : n = n'
      · by_cases h3 : ls.len = ls'.len
        · by_cases h4 : f.len = g.len
          · subst h1 h2
            have HP : Hid (decide (Ft.cons k n ls f .nil = Ft.cons k n ls' g .nil) = decide (ls = ls' ∧ f = g)) := Lib.hid (by simp)
            generalize decide (Ft.cons k n ls f .nil = Ft.cons k n ls' g .nil) = res at HP
            obtain ⟨M, hMf, hMg⟩ : ∃ M, ls.len = M ∧ ls'.len = M := ⟨_, h3, rfl⟩
            obtain ⟨L, hLf, hLg⟩ : ∃ L, f.len = L ∧ g.len = L := ⟨_, h4, rfl⟩
            have H3 := Lib.hid hLf
            have HL := Lib.hid hLg
            have M3 := Lib.hid hMf
            have ML := Lib.hid hMg
            rw [hLf] at hlen
            rw [hMf] at hlen2
            rw [hLf, hLg, hMf, hMg] at hbx
            rw [hLf, hLg, hMf, hMg]
            clear h3 h4 hLf hLg hMf hMg
            go_enter Try.func19, Try.ntmps19
            go_wp2_with fail
            go_loopw [5] (fun i wr => ∃ (j : Nat) (r r' : Fo), i = .int .i64 j ∧ Hid (j + r.len = M) ∧ Hid (r.len = r'.len) ∧
                Hid (∀ b o, la = some ⟨b, o, none⟩ → FoIn w (· < B) r b (o + j * 3)) ∧ Hid (∀ b o, la' = some ⟨b, o, none⟩ → FoIn w (· < B) r' b (o + j * 3)) ∧ Hid (res = decide (r = r' ∧ f = g)) ∧
                Hid (Below (w.heap.size + 2) ((w.alloc (.cells #[.int .i64 k, .int .i64 n, .slice la M lc, .slice a L cap] 25)).alloc (.cells #[.int .i64 k, .int .i64 n, .slice la' M lc', .slice a' L cap'] 25)) wr))
              (fun i _ => M - (intOf i).toNat)
            case atStart => exact ⟨0, ls, ls', rfl, Lib.hid (by rw [M3.out]; omega), Lib.hid (by rw [M3.out, ML.out]), Lib.hid (by rintro b o rfl; simpa using hl.foIn), Lib.hid (by rintro b o rfl; simpa using hl'.foIn), HP, Lib.hid (Below.refl _ _)⟩
            case round =>
              obtain ⟨j, r, r', rfl, hj, hjj, hin, hin', heq, hb⟩ := hrel
              have c2 := bcell hb.out w.heap.size 2 (by omega)
              have c3 := bcell hb.out w.heap.size 3 (by omega)
              have c5 := bcell hb.out (w.heap.size + 1) 2 (by omega)
              have c6 := bcell hb.out (w.heap.size + 1) 3 (by omega)
              simp at c2 c3 c5 c6
              have HSZ : Hid (w.heap.size + 2 ≤ wr.heap.size) := Lib.hid (by have := hb.out.size; simpa using this)
              have HWW : Hid (Below w.heap.size w wr) := Lib.hid (hbx.trans (hb.out.mono (by omega)))
              match r, r', hj, hjj, hin, hin', heq with
              | .nil, .cons .., _, hjj, _, _, _ => have := hjj.out; simp [Fo.len] at this
              | .cons .., .nil, _, hjj, _, _, _ => have := hjj.out; simp [Fo.len] at this
              | .nil, .nil, hj, _, _, _, heq =>
                have hlt : ¬ (j : Int) < (M : Int) := by have := hj.out; simp [Fo.len] at this; omega
                have d' : decide ((j : Int) < (M : Int)) = false := by simpa using hlt
                have HP2 : Hid (res = decide (f = g)) := Lib.hid (by rw [heq.out]; simp)
                have HB2 := hb
                clear heq hj
                have W1 : ∃ W, W = wr := ⟨_, rfl⟩
                obtain ⟨W, hW⟩ := W1
                rw [← hW] at c2 c3 c5 c6 HSZ HWW HB2 hb ⊢
                clear hb hW
                go_wp2_with fail
                go_loopw [6] (fun i wr => ∃ (j : Nat) (r r' : Ft), i = .int .i64 j ∧ Hid (j + r.len = L) ∧ Hid (r.len = r'.len) ∧ Hid (r.size ≤ f.size) ∧
                    Hid (∀ b o, a = some ⟨b, o, none⟩ → FtIn w (· < B) r b (o + j * 4)) ∧ Hid (∀ b o, a' = some ⟨b, o, none⟩ → FtIn w (· < B) r' b (o + j * 4)) ∧ Hid (res = decide (r = r')) ∧
                    Hid (Below (w.heap.size + 2) ((w.alloc (.cells #[.int .i64 k, .int .i64 n, .slice la M lc, .slice a L cap] 25)).alloc (.cells #[.int .i64 k, .int .i64 n, .slice la' M lc', .slice a' L cap'] 25)) wr))
                  (fun i _ => L - (intOf i).toNat)
                case atStart => exact ⟨0, f, g, rfl, Lib.hid (by rw [H3.out]; omega), Lib.hid (by rw [H3.out, HL.out]), Lib.hid (Nat.le_refl _), Lib.hid (by rintro b o rfl; simpa using hsl.ftIn), Lib.hid (by rintro b o rfl; simpa using hsl'.ftIn), HP2, HB2⟩
                case round =>
                  clear c2 c3 c5 c6 d' hlt
                  obtain ⟨j, r, r', rfl, hj, hjj, hrs, hin, hin', heq, hb⟩ := hrel
                  have c3 := bcell hb.out w.heap.size 3 (by omega)
                  have c6 := bcell hb.out (w.heap.size + 1) 3 (by omega)
                  simp at c3 c6
                  have HWr : Hid (Below w.heap.size w wr) := Lib.hid (hbx.trans (hb.out.mono (by omega)))
                  have hwB : Below B w wr := HWr.out.mono hB
                  have HSZ : Hid (w.heap.size + 2 ≤ wr.heap.size) := Lib.hid (by have := hb.out.size; simpa using this)
                  match r, r', hj, hjj, hrs, hin, hin', heq with
                  | .nil, .cons .., _, hjj, _, _, _, _ => have := hjj.out; simp [Ft.len] at this
                  | .cons .., .nil, _, hjj, _, _, _, _ => have := hjj.out; simp [Ft.len] at this
                  | .nil, .nil, hj, _, _, _, _, heq =>
                    have hlt : ¬ (j : Int) < (L : Int) := by have := hj.out; simp [Ft.len] at this; omega
                    have d' : decide ((j : Int) < (L : Int)) = false := by simpa using hlt
                    go_wp2_with fail
                    go_ret
                    exact ⟨by rw [heq.out]; rfl, HWr.out⟩
                  | .cons k1 n1 l1 ks r1, .cons k2 n2 l2 ks' r2, hj, hjj, hrs, hin, hin', heq =>
                    have hlt : j < L := by have := hj.out; simp [Ft.len] at this; omega
                    have hlt' : (j : Int) < (L : Int) := by omega
                    obtain ⟨b, o, rfl, hbB, _⟩ := hsl.some (by rw [H3.out]; omega)
                    obtain ⟨b', o', rfl, hbB', _⟩ := hsl'.some (by rw [HL.out]; omega)
                    obtain ⟨e0, e1, ⟨u1, v1, e2, hl1⟩, ⟨a1, cap1, e2', hsl1⟩, _⟩ := (hin.out b o rfl).below hwB _ _ _ hbB |>.first
                    obtain ⟨e3, e4, ⟨u2, v2, e5, hl2⟩, ⟨a2, cap2, e5', hsl2⟩, _⟩ := (hin'.out b' o' rfl).below hwB _ _ _ hbB' |>.first
                    have hks : ks.size < s := by have := hrs.out; simp [Ft.size] at this; omega
                    have HC : Hid (∀ v, decide (Ft.cons k1 n1 l1 ks .nil = Ft.cons k2 n2 l2 ks' .nil) = v → decide (Ft.cons k1 n1 l1 ks r1 = Ft.cons k2 n2 l2 ks' r2) = (v && decide (r1 = r2))) := Lib.hid (by
                      rintro v rfl
                      rw [Bool.eq_iff_iff]
                      simp [and_assoc])
                    have hbr : b < wr.heap.size := by have := HWr.out.size; omega
                    have hbr' : b' < wr.heap.size := by have := HWr.out.size; omega
                    have hz1 : w.heap.size < wr.heap.size := by have := HSZ.out; omega
                    have hz2 : w.heap.size + 1 < wr.heap.size := by have := HSZ.out; omega
                    have hBr : B ≤ wr.heap.size := Nat.le_trans hB HWr.out.size
                    have C1 := Lib.hid (IH.out ks ks' hks k1 n1 k2 n2 l1 l2 u1 u2 a1 a2 v1 v2 cap1 cap2 B wr.drew (hl1.below (Below.refl _ _).drew) (hl2.below (Below.refl _ _).drew) (hsl1.below (Below.refl _ _).drew) (hsl2.below (Below.refl _ _).drew) hBr)
                    generalize hv : decide (Ft.cons k1 n1 l1 ks .nil = Ft.cons k2 n2 l2 ks' .nil) = v at C1
                    have HC' := Lib.hid (HC.out v hv)
                    clear HC hv hl1 hl2 hsl1 hsl2
                    go_wp2_with fail
                    go_region_held3 (fun w' => Hid (Below wr.heap.size wr w') ∧ w'.cell? ⟨w.heap.size, 3, none⟩ = some (.slice (some ⟨b, o, none⟩) L cap) ∧ w'.cell? ⟨w.heap.size + 1, 3, none⟩ = some (.slice (some ⟨b', o', none⟩) L cap') ∧
                        w'.cell? ⟨b, o + j * 4, none⟩ = some (.int .i64 k1) ∧ w'.cell? ⟨b, o + j * 4 + 1, none⟩ = some (.int .i64 n1) ∧ w'.cell? ⟨b, o + j * 4 + 2, none⟩ = some (.slice u1 l1.len v1) ∧ w'.cell? ⟨b, o + j * 4 + 3, none⟩ = some (.slice a1 ks.len cap1) ∧
                        w'.cell? ⟨b', o' + j * 4, none⟩ = some (.int .i64 k2) ∧ w'.cell? ⟨b', o' + j * 4 + 1, none⟩ = some (.int .i64 n2) ∧ w'.cell? ⟨b', o' + j * 4 + 2, none⟩ = some (.slice u2 l2.len v2) ∧ w'.cell? ⟨b', o' + j * 4 + 3, none⟩ = some (.slice a2 ks'.len cap2))
                      (first | exact ⟨Lib.hid (Below.refl _ _).drew, c3, c6, e0, e1, e2, e2', e3, e4, e5, e5'⟩ | exact heldT4 (Below.step (Below.refl _ _).drew hbN (Nat.le_refl _)) hz1 hz2 hbr hbr' c3 c6 e0 e1 e2 e2' e3 e4 e5 e5')
                      (first | (go_at_call 19; refine C1.out.mono ?_; rintro e wN ⟨rfl, hbN⟩))
                    have hbE := Lib.hid (Below.step hb.out (Below.step (Below.refl _ _).drew hbN (Nat.le_refl _)) (by simp))
                    have hwE := Lib.hid (Below.step HWr.out (Below.step (Below.refl _ _).drew hbN (Nat.le_refl _)) (Nat.le_refl _))
                    clear c3 c6 e0 e1 e2 e2' e3 e4 e5 e5' hbN C1
                    cases v with
                    | true =>
                      go_wp2_with fail
                      go_roundw
                      case rel => exact ⟨j + 1, r1, r2, by go_num, Lib.hid (by have := hj.out; simp [Ft.len] at this; omega), Lib.hid (by have := hjj.out; simpa [Ft.len] using this), Lib.hid (by have := hrs.out; simp [Ft.size] at this; omega), Lib.hid (by rintro b' o' h; cases h; have := (hin.out b o rfl).2.2.2.2; rwa [show o + (j + 1) * 4 = o + j * 4 + 4 by omega]), Lib.hid (by rintro b1 o1 h; cases h; have := (hin'.out b' o' rfl).2.2.2.2; rwa [show o' + (j + 1) * 4 = o' + j * 4 + 4 by omega]), Lib.hid (by rw [heq.out, HC'.out]; rfl), hbE⟩
                      case measure => simp [intOf]; omega
                    | false =>
                      go_wp2_with fail
                      go_ret
                      exact ⟨by rw [heq.out, HC'.out]; rfl, hwE.out⟩
              | .cons k1 n1 ks r1, .cons k2 n2 ks' r2, hj, hjj, hin, hin', heq =>
                have hwB : Below B w wr := HWW.out.mono hB
                have hlt : j < M := by have := hj.out; simp [Fo.len] at this; omega
                have hlt' : (j : Int) < (M : Int) := by omega
                obtain ⟨b, o, rfl, hbB, _⟩ := hl.some (by rw [M3.out]; omega)
                obtain ⟨b', o', rfl, hbB', _⟩ := hl'.some (by rw [ML.out]; omega)
                obtain ⟨e0, e1, ⟨a1, cap1, e2, hsl1⟩, _⟩ := (hin.out b o rfl).below hwB _ _ _ hbB |>.first
                obtain ⟨e3, e4, ⟨a2, cap2, e5, hsl2⟩, _⟩ := (hin'.out b' o' rfl).below hwB _ _ _ hbB' |>.first
                have HC : Hid (∀ v, decide (k1 = k2 ∧ n1 = n2 ∧ ks = ks') = v → decide (Fo.cons k1 n1 ks r1 = Fo.cons k2 n2 ks' r2 ∧ f = g) = (v && decide (r1 = r2 ∧ f = g))) := Lib.hid (by
                  rintro v rfl
                  rw [Bool.eq_iff_iff]
                  simp [and_assoc])
                have hbr : b < wr.heap.size := by have := HWW.out.size; omega
                have hbr' : b' < wr.heap.size := by have := HWW.out.size; omega
                have hz1 : w.heap.size < wr.heap.size := by have := HSZ.out; omega
                have hz2 : w.heap.size + 1 < wr.heap.size := by have := HSZ.out; omega
                have C1 := Lib.hid (rSame_any (ks.size + 1) ks ks' (Nat.lt_succ_self _) k1 n1 k2 n2 a1 a2 cap1 cap2 B wr.drew (hsl1.below (Below.refl _ _).drew) (hsl2.below (Below.refl _ _).drew) (Nat.le_trans hB HWW.out.size))
                generalize hv : decide (k1 = k2 ∧ n1 = n2 ∧ ks = ks') = v at C1
                have HC' := Lib.hid (HC.out v hv)
                clear HC hv hsl1 hsl2
                go_wp2_with fail
                go_region_held3 (fun w' => Hid (Below wr.heap.size wr w') ∧ w'.cell? ⟨w.heap.size, 2, none⟩ = some (.slice (some ⟨b, o, none⟩) M lc) ∧ w'.cell? ⟨w.heap.size + 1, 2, none⟩ = some (.slice (some ⟨b', o', none⟩) M lc') ∧
                    w'.cell? ⟨b, o + j * 3, none⟩ = some (.int .i64 k1) ∧ w'.cell? ⟨b, o + j * 3 + 1, none⟩ = some (.int .i64 n1) ∧ w'.cell? ⟨b, o + j * 3 + 2, none⟩ = some (.slice a1 ks.len cap1) ∧
                    w'.cell? ⟨b', o' + j * 3, none⟩ = some (.int .i64 k2) ∧ w'.cell? ⟨b', o' + j * 3 + 1, none⟩ = some (.int .i64 n2) ∧ w'.cell? ⟨b', o' + j * 3 + 2, none⟩ = some (.slice a2 ks'.len cap2))
                  (first | exact ⟨Lib.hid (Below.refl _ _).drew, c2, c5, e0, e1, e2, e3, e4, e5⟩ | exact heldT3 (Below.step (Below.refl _ _).drew hbN (Nat.le_refl _)) hz1 hz2 hbr hbr' c2 c5 e0 e1 e2 e3 e4 e5)
                  (first | (go_at_call 39; refine C1.out.mono ?_; rintro e wN ⟨rfl, hbN⟩))
                have hbE := Lib.hid (Below.step hb.out (Below.step (Below.refl _ _).drew hbN (Nat.le_refl _)) (by simp))
                have hwE := Lib.hid (Below.step HWW.out (Below.step (Below.refl _ _).drew hbN (Nat.le_refl _)) (Nat.le_refl _))
                clear c2 c3 c5 c6 e0 e1 e2 e3 e4 e5 hbN C1
                cases v with
                | true =>
                  go_wp2_with fail
                  go_roundw
                  case rel => exact ⟨j + 1, r1, r2, by go_num, Lib.hid (by have := hj.out; simp [Fo.len] at this; omega), Lib.hid (by have := hjj.out; simpa [Fo.len] using this), Lib.hid (by rintro b' o' h; cases h; have := (hin.out b o rfl).2.2.2; rwa [show o + (j + 1) * 3 = o + j * 3 + 3 by omega]), Lib.hid (by rintro b1 o1 h; cases h; have := (hin'.out b' o' rfl).2.2.2; rwa [show o' + (j + 1) * 3 = o' + j * 3 + 3 by omega]), Lib.hid (by rw [heq.out, HC'.out]; rfl), hbE⟩
                  case measure => simp [intOf]; omega
                | false =>
                  go_wp2_with fail
                  go_ret
                  exact ⟨by rw [heq.out, HC'.out]; rfl, hwE.out⟩
          · have d4 : ((f.len : Int) != (g.len : Int)) = true := by rw [bne_iff_ne]; omega
            have d3 : ((ls.len : Int) != (ls'.len : Int)) = false := by rw [h3]; simp
            have e : decide (Ft.cons k n ls f .nil = Ft.cons k' n' ls' g .nil) = false := decide_eq_false (fun h => h4 (by injection h with _ _ _ h; rw [h]))
            rw [e]
            subst h1 h2
            clear e h3 h4
            go_enter Try.func19, Try.ntmps19
            go_wp2_with fail
            go_ret
            exact ⟨rfl, hbx⟩
        · have d3 : ((ls.len : Int) != (ls'.len : Int)) = true := by rw [bne_iff_ne]; omega
          have e : decide (Ft.cons k n ls f .nil = Ft.cons k' n' ls' g .nil) = false := decide_eq_false (fun h => h3 (by injection h with _ _ h; rw [h]))
          rw [e]
          subst h1 h2
          clear e h3
          go_enter Try.func19, Try.ntmps19
          go_wp2_with fail
          go_ret
          exact ⟨rfl, hbx⟩
      · have d2 : (n != n') = true := by rw [bne_iff_ne]; exact h2
        have e : decide (Ft.cons k n ls f .nil = Ft.cons k' n' ls' g .nil) = false := decide_eq_false (fun h => h2 (by injection h))
        rw [e]
        subst h1
        clear e h2
        go_enter Try.func19, Try.ntmps19
        go_wp2_with fail
        go_ret
        exact ⟨rfl, hbx⟩
    · have d1 : (k != k') = true := by rw [bne_iff_ne]; exact h1
      have e : decide (Ft.cons k n ls f .nil = Ft.cons k' n' ls' g .nil) = false := decide_eq_false (fun h => h1 (by injection h))
      rw [e]
      clear e h1
      go_enter Try.func19, Try.ntmps19
      go_wp2_with fail
      go_ret
      exact ⟨rfl, hbx⟩
end Go.Proofs.Ytokckghedpdfiaa
