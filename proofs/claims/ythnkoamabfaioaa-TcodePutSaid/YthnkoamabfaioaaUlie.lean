/- Terms as bytes: what is read is right, and is what writing gives; an error is not 0. No condition but those that stand in each statement. -/
import Derived.Test.YthnkoamabfaioaaUonce
import Derived.Test.YthnkoamabfaioaaLerr
namespace Go.Proofs.Ythnkoamabfaioaa
open Go

/-- What reading levels tells. -/
def VsOk (s : ByteArray) (c p : Nat) : Rs → Prop
  | .no e => e ≠ 0
  | .ok F q _ => F.len = c ∧ lvB 5 10 F = true ∧ Lie s p q (encF F)
theorem rowsV_once (s : ByteArray) : ∀ (c p : Nat), p ≤ s.size → VsOk s c p (rowsV s c p)
  | 0, p, hp => ⟨rfl, rfl, Lie.nil hp⟩
  | c + 1, p, hp => by
    have h1 := rdL_once s 12 p 100 hp
    unfold rowsV
    cases hr : rdL s 12 p 100 with
    | no e =>
      have e2 : lvStep s p 0 = .no e := by unfold lvStep; rw [hr]
      rw [rows_no e2]
      exact rdL_err s 12 p 100 e hr
    | ok k n F q l' =>
      have e2 : lvStep s p 0 = .ok k n F q 0 := by unfold lvStep; rw [hr]
      rw [hr] at h1
      obtain ⟨g1, g2, g3, _⟩ := h1
      rw [rows_ok e2]
      have h2 := rowsV_once s c q g3.2.1
      unfold rowsV at h2
      cases hs : rows (lvStep s) c q 0 with
      | no e => rw [hs] at h2; exact h2
      | ok G q' l'' =>
        rw [hs] at h2
        obtain ⟨k1, k2, k3⟩ := h2
        refine ⟨by simp [Fo.app, Fo.len, k1], ?_, ?_⟩
        · simp only [Fo.app, lvB, Bool.and_eq_true]
          refine ⟨?_, k2⟩
          unfold rightB
          simp only [Bool.and_eq_true, decide_eq_true_eq]
          exact ⟨by omega, by omega, g1⟩
        · have eF : encF (Fo.app (.cons (k : Int) (n : Int) F .nil) G) = encL k n F ++ encF G := by simp only [Fo.app, encF, encL, List.append_assoc]
          rw [eF]
          exact Lie.trans g3 k3
/-- What reading a term tells. -/
def TlOk (s : ByteArray) (d b p m : Nat) : Tl → Prop
  | .no e => e ≠ 0
  | .ok k n ls ks q m' => tOne 5 10 (1000 + (b : Int)) d k n ls ks = true ∧ m + 1 + ks.size = m' ∧ m' ≤ 600 ∧ Lie s p q (encT k n ls ks) ∧ p < q
def TsOk (s : ByteArray) (d : Nat) (k0 : Int) (b c i p m : Nat) : Ts → Prop
  | .no e => e ≠ 0
  | .ok F q m' => F.len = c ∧ tAll 5 10 F k0 i (1000 + (b : Int)) d = true ∧ m + F.size = m' ∧ m' ≤ 600 ∧ Lie s p q (encTF F)
theorem rowsT_once (s : ByteArray) (d : Nat) (ih : ∀ b p m, p ≤ s.size → TlOk s d b p m (rdT s d b p m)) (k0 : Int) (b : Nat) : ∀ (c i p m : Nat), p ≤ s.size → m ≤ 600 → TsOk s d k0 b c i p m (rowsT (rdT s d) k0 b c i p m)
  | 0, i, p, m, hp, hm => ⟨rfl, rfl, by simp [Ft.size], hm, Lie.nil hp⟩
  | c + 1, i, p, m, hp, hm => by
    have hb := bindK_nn k0 i
    have h1 := ih (b + (bindK k0 i).toNat) p m hp
    cases hr : rdT s d (b + (bindK k0 i).toNat) p m with
    | no e => rw [rowsT_no hr]; rw [hr] at h1; exact h1
    | ok k n ls ks q m' =>
      rw [hr] at h1
      obtain ⟨g1, g2, g3, g4, _⟩ := h1
      rw [rowsT_ok hr]
      have h2 := rowsT_once s d ih k0 b c (i + 1) q m' g4.2.1 g3
      cases hs : rowsT (rdT s d) k0 b c (i + 1) q m' with
      | no e => rw [hs] at h2; exact h2
      | ok G q' m'' =>
        rw [hs] at h2
        obtain ⟨k1, k2, k3, k4, k5⟩ := h2
        refine ⟨by simp [Ft.app, Ft.len, k1], ?_, by simp only [Ft.app, Ft.size]; omega, k4, ?_⟩
        · simp only [Ft.app]
          rw [tAll_cons, Bool.and_eq_true]
          refine ⟨?_, k2⟩
          rw [show (1000 + (b : Int)) + bindK k0 i = 1000 + ((b + (bindK k0 i).toNat : Nat) : Int) by omega]
          exact g1
        · have eF : encTF (Ft.app (.cons (k : Int) (n : Int) ls ks .nil) G) = encT k n ls ks ++ encTF G := by simp only [Ft.app, encTF, encT, List.append_assoc]
          rw [eF]
          exact Lie.trans g4 k5
theorem tOne_of {v k n : Int} {d : Nat} {ls : Fo} {ks : Ft} (h : tfitsB 5 10 v k n ls ks.len = true) (h2 : tAll 5 10 ks k 0 v d = true) : tOne 5 10 v ((d + 1 : Nat) : Int) k n ls ks = true := by
  unfold tOne
  simp only [Bool.and_eq_true, decide_eq_true_eq]
  exact ⟨by omega, h, by rwa [show ((d + 1 : Nat) : Int) - 1 = (d : Int) by omega]⟩
theorem wrapT_once (s : ByteArray) (k c d b p p0 m : Nat) (hk : ((k = 4 ∨ k = 5 ∨ k = 6) ∧ c = 2) ∨ (k = 7 ∧ c = 3)) (h0 : Lie s p0 p (enc k)) (hp0 : p0 < p) {r : Ts} (h : TsOk s d k b c 0 p (m + 1) r) : TlOk s (d + 1) b p0 m (r.wrap k) := by
  cases r with
  | no e => exact h
  | ok F q m' =>
    obtain ⟨h1, h2, h3, h4, h5⟩ := h
    have hq := h5.1
    refine ⟨tOne_of ?_ h2, h3, h4, ?_, by omega⟩
    · rw [h1]
      rcases hk with ⟨rfl | rfl | rfl, rfl⟩ | ⟨rfl, rfl⟩ <;> simp [tfitsB, tkids, tlim, tlo, thi, Fo.len, lvB]
    · have e : encT (k : Int) ((0 : Nat) : Int) .nil F = enc k ++ encTF F := by
        simp only [encT, encTh, encF, List.append_nil, Int.toNat_natCast]
        rw [if_neg (by omega), if_neg (by omega)]; simp
      rw [e]
      exact Lie.trans h0 h5
theorem termT_once (s : ByteArray) (k n d b c p p0 m : Nat) (l : List Int) (h0 : Lie s p0 p l) (hp0 : p0 < p) (hm : m + 1 ≤ 600) {r : Rs} (h : VsOk s c p r) (ht : ∀ F : Fo, F.len = c → lvB 5 10 F = true → tfitsB 5 10 (1000 + (b : Int)) k n F 0 = true ∧ encT k n F .nil = l ++ encF F) : TlOk s (d + 1) b p0 m (r.term k n (m + 1)) := by
  cases r with
  | no e => exact h
  | ok F q l' =>
    obtain ⟨h1, h2, h3⟩ := h
    obtain ⟨t1, t2⟩ := ht F h1 h2
    have hq := h3.1
    refine ⟨tOne_of t1 rfl, by simp [Ft.size], hm, ?_, by omega⟩
    rw [t2]
    exact Lie.trans h0 h3
/-- WHAT IS READ IS RIGHT, AND WHAT WRITING GIVES. -/
theorem rdT_once (s : ByteArray) : ∀ (d b p m : Nat), p ≤ s.size → TlOk s d b p m (rdT s d b p m)
  | 0, _, _, _, _ => by rw [rdT]; exact (by omega : (2 : Nat) ≠ 0)
  | d + 1, b, p, m, hp => by
    rw [rdT]
    split
    · exact (by omega : (2 : Nat) ≠ 0)
    split
    · assumption
    rename_i hm hn
    rcases num_cases s p with hn' | ⟨k, cnt, h', _⟩
    · exact absurd hn' hn
    obtain ⟨g1, g2⟩ := num_lie h'
    rw [h']
    have hq : p + cnt ≤ s.size := g1.2.1
    have hrows := fun k0 => rowsT_once s d (fun b p m h => rdT_once s d b p m h) k0 b
    simp only [rdKt]
    split
    · rename_i hk
      subst hk
      split
      · assumption
      rename_i hn2
      rcases num_cases s (p + cnt) with hn' | ⟨n, cnt2, h2', _⟩
      · exact absurd hn' hn2
      obtain ⟨j1, j2⟩ := num_lie h2'
      rw [h2']
      simp only
      split
      · exact (by omega : (20 : Nat) ≠ 0)
      rename_i hlim
      refine ⟨tOne_of ?_ rfl, by simp [Ft.size], by omega, ?_, by omega⟩
      · simp [tfitsB, tkids, tlim, tlo, thi, Fo.len, Ft.len, lvB]; omega
      · have e : encT ((1 : Nat) : Int) (n : Int) .nil .nil = enc 1 ++ enc n := by simp [encT, encTh, encTF, encF]
        rw [e]
        exact Lie.trans g1 j1
    split
    · rename_i hk
      subst hk
      refine termT_once s 2 0 d b 1 (p + cnt) p m (enc 2) g1 g2 (by omega) (rowsV_once s 1 (p + cnt) hq) (fun F hF hB => ⟨?_, ?_⟩)
      · simp [tfitsB, tkids, tlim, tlo, thi, hF, hB]
      · simp [encT, encTh, encTF]
    split
    · rename_i hk
      subst hk
      split
      · assumption
      rename_i hn2
      rcases num_cases s (p + cnt) with hn' | ⟨n, cnt2, h2', _⟩
      · exact absurd hn' hn2
      obtain ⟨j1, j2⟩ := num_lie h2'
      rw [h2']
      simp only
      split
      · exact (by omega : (20 : Nat) ≠ 0)
      rename_i hlim
      unfold rdC
      split
      · assumption
      rename_i hn3
      rcases num_cases s (p + cnt + cnt2) with hn' | ⟨c, cnt3, h3', _⟩
      · exact absurd hn' hn3
      obtain ⟨i1, i2⟩ := num_lie h3'
      rw [h3']
      simp only
      split
      · exact (by omega : (20 : Nat) ≠ 0)
      rename_i hlim2
      refine termT_once s 3 n d b c _ p m (enc 3 ++ (enc n ++ enc c)) (Lie.trans g1 (Lie.trans j1 i1)) (by omega) (by omega) (rowsV_once s c _ i1.2.1) (fun F hF hB => ⟨?_, ?_⟩)
      · simp [tfitsB, tkids, tlim, tlo, thi, hF, hB]; omega
      · simp [encT, encTh, encTF, hF]
    split
    · rename_i hk; subst hk; exact wrapT_once s 4 2 d b _ p m (by omega) g1 g2 (hrows 4 2 0 _ _ hq (by omega))
    split
    · rename_i hk; subst hk; exact wrapT_once s 5 2 d b _ p m (by omega) g1 g2 (hrows 5 2 0 _ _ hq (by omega))
    split
    · rename_i hk; subst hk; exact wrapT_once s 6 2 d b _ p m (by omega) g1 g2 (hrows 6 2 0 _ _ hq (by omega))
    split
    · rename_i hk; subst hk; exact wrapT_once s 7 3 d b _ p m (by omega) g1 g2 (hrows 7 3 0 _ _ hq (by omega))
    · exact (by omega : (20 : Nat) ≠ 0)
/-- A whole term that is read: its shape is right. -/
theorem rdT_sh {s : ByteArray} {p k n q m : Nat} {ls : Fo} {ks : Ft} (hp : p ≤ s.size) (h : rdT s 30 0 p 0 = .ok k n ls ks q m) : shB k n ls ks = true ∧ Lie s p q (encT k n ls ks) ∧ p < q := by
  have h1 := rdT_once s 30 0 p 0 hp
  rw [h] at h1
  obtain ⟨g1, g2, g3, g4, g5⟩ := h1
  refine ⟨?_, g4, g5⟩
  unfold shB tRightB
  simp only [Bool.and_eq_true, decide_eq_true_eq]
  exact ⟨by omega, by omega, by simpa using g1⟩
end Go.Proofs.Ythnkoamabfaioaa
