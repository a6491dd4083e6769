/- Levels as bytes, the other way: what is cut off is not read, and what is read is right, and is what writing gives. No condition but those that stand in each statement. -/
import Derived.Test.YthnkoamabfaioaaLspec
namespace Go.Proofs.Ythnkoamabfaioaa
open Go

theorem rows_cut_nil {s : ByteArray} {d p l c : Nat} (hd : s.data.toList.drop p = []) (hl : l ≠ 0) : rows (rdL s (d + 1)) (c + 1) p l = .no 21 := by
  apply rows_no
  rw [rdL, if_neg hl, num_end hd]; simp
theorem rdN_cut {s : ByteArray} {lim k p l : Nat} (hd : s.data.toList.drop p = []) : rdN s lim k p l = .no 21 := by rw [rdN, num_end hd]; simp
theorem take_cons_of {m : Nat} {b : UInt8} {t : List UInt8} (h : 0 < m) : (b :: t).take m = b :: t.take (m - 1) := by
  cases m with
  | zero => omega
  | succ m => simp
/-- WHAT IS CUT OFF IS NOT READ, of levels one behind the other. -/
theorem rows_cut (s : ByteArray) : ∀ (F : Fo) (d p l m : Nat), rAll 5 10 F d = true → F.size ≤ l → m < (bys (encF F)).length → s.data.toList.drop p = (bys (encF F)).take m →
    rows (rdL s d) F.len p l = .no 21
  | .nil, d, p, l, m, _, _, hm, _ => by simp [encF, bys] at hm
  | .cons k n ks r, d, p, l, m, h, hs, hm, hd => by
    have h0 := h
    simp only [rAll, Bool.and_eq_true] at h
    obtain ⟨h1, h2⟩ := h
    simp only [Fo.size] at hs
    have hc := rNode_cases h1
    obtain ⟨d, rfl⟩ : ∃ e, d = e + 1 := ⟨d - 1, by omega⟩
    have e1 : (((d + 1 : Nat) : Int) - 1) = ((d : Nat) : Int) := by omega
    have hl : l ≠ 0 := by omega
    have eF : bys (encF (.cons k n ks r)) = bys (encL k n ks) ++ bys (encF r) := by simp only [encF, encL, bys_append]
    rw [eF] at hm hd
    by_cases hcut : m < (bys (encL k n ks)).length
    · rw [List.take_append_of_le_length (Nat.le_of_lt hcut)] at hd
      rw [Fo.len]
      by_cases hm0 : m = 0
      · subst hm0; exact rows_cut_nil (by simpa using hd) hl
      · apply rows_no
        rw [e1] at hc
        have eL : bys (encL k n ks) = bys (encH k n) ++ bys (encF ks) := by simp only [encL, bys_append]
        rw [eL] at hcut hd
        rcases hc.2 with ⟨hk, hn, hlen⟩ | ⟨hk, hn, hlen, hsub⟩ | ⟨hk, hn, hlen, hsub⟩ | ⟨hk, hn0, hn, hlen⟩ | ⟨hk, hn0, hn, hlen⟩
        · have hks := Fo.len_zero hlen
          subst hk hn hks
          rw [encH_plain (k := 1) (n := 0) (by omega)] at hcut
          simp [encF, bys] at hcut
          omega
        · subst hk hn
          rw [encH_plain (k := 2) (n := 0) (by omega)] at hcut hd
          rw [List.cons_append, List.nil_append, take_cons_of (by omega)] at hd
          rw [rdL_at hl hd (by decide)]
          have ih := rows_cut s ks d (p + 1) (l - 1) (m - 1) hsub (by omega) (by simp at hcut; omega) (drop_next hd)
          rw [hlen] at ih
          simp only [rdK, show (2 : Int).toNat = 2 from rfl, if_true]
          rw [ih]
          simp [Rs.wrap]
        · have hb := encH_plain (k := k) (n := n) (by omega)
          rw [hb] at hcut hd
          rw [List.cons_append, List.nil_append, take_cons_of (by omega)] at hd
          rw [rdL_at hl hd (by omega)]
          have ih := rows_cut s ks d (p + 1) (l - 1) (m - 1) hsub (by omega) (by simp at hcut; omega) (drop_next hd)
          rw [hlen] at ih
          rcases hk with rfl | rfl
          · simp only [rdK, show (3 : Int).toNat = 3 from rfl, if_neg (by decide : ¬ 3 = 1), if_neg (by decide : ¬ 3 = 2), if_true]
            rw [ih]; rfl
          · simp only [rdK, show (4 : Int).toNat = 4 from rfl, if_neg (by decide : ¬ 4 = 1), if_neg (by decide : ¬ 4 = 2), if_neg (by decide : ¬ 4 = 3), if_true]
            rw [ih]; rfl
        · have hks := Fo.len_zero hlen
          subst hk hks
          rw [encH_named (k := 5) (n := n) (by omega) (by omega)] at hcut hd
          have hm1 : m = 1 := by simp [encF, bys] at hcut; omega
          subst hm1
          rw [List.cons_append, take_cons_of (by omega)] at hd
          rw [rdL_at hl hd (by decide)]
          simp only [rdK, show (5 : Int).toNat = 5 from rfl, if_neg (by decide : ¬ 5 = 1), if_neg (by decide : ¬ 5 = 2), if_neg (by decide : ¬ 5 = 3), if_neg (by decide : ¬ 5 = 4), if_true]
          exact rdN_cut (by have := drop_next hd; simpa using this)
        · have hks := Fo.len_zero hlen
          subst hk hks
          rw [encH_named (k := 6) (n := n) (by omega) (by omega)] at hcut hd
          have hm1 : m = 1 := by simp [encF, bys] at hcut; omega
          subst hm1
          rw [List.cons_append, take_cons_of (by omega)] at hd
          rw [rdL_at hl hd (by decide)]
          simp only [rdK, show (6 : Int).toNat = 6 from rfl, if_neg (by decide : ¬ 6 = 1), if_neg (by decide : ¬ 6 = 2), if_neg (by decide : ¬ 6 = 3), if_neg (by decide : ¬ 6 = 4), if_neg (by decide : ¬ 6 = 5), if_true]
          exact rdN_cut (by have := drop_next hd; simpa using this)
    · have hge : (bys (encL k n ks)).length ≤ m := by omega
      rw [List.take_append, List.take_of_length_le hge] at hd
      have hok := rdL_encL s k n ks (d + 1) p l _ h1 (by omega) hd
      rw [Fo.len, rows_ok hok]
      have hd2 := drop_more hd
      rw [bys_len] at hd2
      have ih := rows_cut s r (d + 1) (p + (encL k n ks).length) (l - (ks.size + 1)) (m - (bys (encL k n ks)).length) h2 (by omega) (by simp only [List.length_append] at hm; omega) (by rw [hd2, bys_len])
      rw [ih]; rfl

/-- WHAT IS CUT OFF IS NOT READ: a right level. -/
theorem rdL_cut (s : ByteArray) (k n : Int) (ks : Fo) (d p l m : Nat) (h : rNode 5 10 k n ks.len d (rAll 5 10 ks ((d : Int) - 1)) = true) (hs : ks.size + 1 ≤ l) (hm : m < (encL k n ks).length) (hd : s.data.toList.drop p = (bys (encL k n ks)).take m) :
    rdL s d p l = .no 21 := by
  have h1 := rows_cut s (.cons k n ks .nil) d p l m (by simp [rAll, h]) (by simp [Fo.size]; omega) (by rw [encF_one, bys_len]; exact hm) (by rw [encF_one]; exact hd)
  simp only [Fo.len, Nat.zero_add] at h1
  cases hr : rdL s d p l with
  | no e => rw [rows_no hr] at h1; injection h1 with h1; rw [h1]
  | ok k' n' F q l' => rw [rows_ok hr] at h1; simp only [rows, Rs.prep] at h1; cases h1

/-- What a number that is read is. -/
theorem num_cases (s : ByteArray) (p : Nat) : (num s p).2.2 ≠ 0 ∨ ∃ m cnt, num s p = (m, p + cnt, 0) ∧ 1 ≤ cnt ∧ p + cnt ≤ s.size ∧ (s.data.toList.drop p).take cnt = bys (enc m) := by
  unfold num
  rcases rd_cases p (s.data.toList.drop p) 0 0 with h | h | ⟨m, cnt, h, h1, h2, h3, _, _⟩
  · exact .inl (by rw [h]; simp)
  · exact .inl (by rw [h]; simp)
  · refine .inr ⟨m, cnt, by rw [h]; simp, h1, ?_, h3⟩
    have h2' : cnt ≤ s.size - p := by simpa using h2
    omega
/-- The bytes from p on, up to q, are these. -/
def Lie (s : ByteArray) (p q : Nat) (l : List Int) : Prop := p ≤ q ∧ q ≤ s.size ∧ (s.data.toList.drop p).take (q - p) = bys l
theorem Lie.trans {s : ByteArray} {p q r : Nat} {a b : List Int} (h : Lie s p q a) (k : Lie s q r b) : Lie s p r (a ++ b) := by
  obtain ⟨h1, h2, h3⟩ := h
  obtain ⟨k1, k2, k3⟩ := k
  refine ⟨by omega, k2, ?_⟩
  rw [bys_append, ← h3, ← k3, show r - p = (q - p) + (r - q) by omega, List.take_add, List.drop_drop, show p + (q - p) = q by omega]
theorem Lie.nil {s : ByteArray} {p : Nat} (h : p ≤ s.size) : Lie s p p [] := ⟨Nat.le_refl _, h, by simp [bys]⟩
theorem num_lie {s : ByteArray} {p m q : Nat} (h : num s p = (m, q, 0)) : Lie s p q (enc m) ∧ p < q := by
  rcases num_cases s p with hn | ⟨m', cnt, h', h1, h2, h3⟩
  · rw [h] at hn; simp at hn
  · rw [h'] at h
    simp only [Prod.mk.injEq, and_true] at h
    obtain ⟨rfl, rfl⟩ := h
    exact ⟨⟨by omega, h2, by rwa [show p + cnt - p = cnt by omega]⟩, by omega⟩

/-- What a level that is read is: right, so many levels fewer, and its bytes stand there. -/
def RlOk (s : ByteArray) (d p l : Nat) : Rl → Prop
  | .no _ => True
  | .ok k n F q l' => rNode 5 10 k n F.len d (rAll 5 10 F ((d : Int) - 1)) = true ∧ F.size + 1 + l' = l ∧ Lie s p q (encL k n F) ∧ p < q
def RsOk (s : ByteArray) (d c p l : Nat) : Rs → Prop
  | .no _ => True
  | .ok F q l' => F.len = c ∧ rAll 5 10 F d = true ∧ F.size + l' = l ∧ Lie s p q (encF F)
theorem rows_once (s : ByteArray) (d : Nat) (ih : ∀ p l, p ≤ s.size → RlOk s d p l (rdL s d p l)) : ∀ (c p l : Nat), p ≤ s.size → RsOk s d c p l (rows (rdL s d) c p l)
  | 0, p, l, hp => ⟨rfl, rfl, by simp [Fo.size], Lie.nil hp⟩
  | c + 1, p, l, hp => by
    have h1 := ih p l hp
    cases hr : rdL s d p l with
    | no e => rw [rows_no hr]; trivial
    | ok k n F q l' =>
      rw [hr] at h1
      obtain ⟨g1, g2, g3, _⟩ := h1
      rw [rows_ok hr]
      have h2 := rows_once s d ih c q l' g3.2.1
      cases hs : rows (rdL s d) c q l' with
      | no e => trivial
      | ok G q' l'' =>
        rw [hs] at h2
        obtain ⟨k1, k2, k3, k4⟩ := h2
        refine ⟨by simp [Fo.app, Fo.len, k1], ?_, by simp only [Fo.app, Fo.size]; omega, ?_⟩
        · simp only [Fo.app, rAll, Bool.and_eq_true]; exact ⟨g1, k2⟩
        · simp only [Fo.app, encF]
          exact Lie.trans g3 k4
theorem rdN_once (s : ByteArray) (lim k p l d : Nat) (hk : k = 5 ∧ lim = 5 ∨ k = 6 ∧ lim = 10) {p0 : Nat} (h0 : Lie s p0 p (enc k)) (hp0 : p0 < p) (hl : 0 < l) : RlOk s (d + 1) p0 l (rdN s lim k p (l - 1)) := by
  unfold rdN
  rcases num_cases s p with hn | ⟨m, cnt, h', _⟩
  · rw [if_pos hn]; trivial
  · obtain ⟨g1, g2⟩ := num_lie h'
    rw [h']
    simp only [ne_eq, not_true_eq_false, if_false]
    split
    · trivial
    · rename_i hlim
      refine ⟨?_, by simp [Fo.size]; omega, ?_, by omega⟩
      · rw [show rAll 5 10 .nil (((d + 1 : Nat) : Int) - 1) = true from rfl, rNode_fits _ _ _ _ _ _ _ (by omega) (fun _ => rfl)]
        rcases hk with ⟨rfl, rfl⟩ | ⟨rfl, rfl⟩
        · simp [fitsB, kidsOf, limOf, Fo.len]; omega
        · simp [fitsB, kidsOf, limOf, Fo.len]; omega
      · have e : encL (k : Int) (m : Int) .nil = enc k ++ enc m := by
          simp only [encL, encH, encF, List.append_nil, Int.toNat_natCast]
          rw [if_pos (by omega)]
        rw [e]
        exact Lie.trans h0 g1
theorem wrap_once (s : ByteArray) (k c d p p0 l : Nat) (hk : k = 2 ∧ c = 1 ∨ k = 3 ∧ c = 2 ∨ k = 4 ∧ c = 2) (h0 : Lie s p0 p (enc k)) (hp0 : p0 < p) (hl : 0 < l) {r : Rs} (h : RsOk s d c p (l - 1) r) : RlOk s (d + 1) p0 l (r.wrap k) := by
  cases r with
  | no e => trivial
  | ok F q l' =>
    obtain ⟨h1, h2, h3, h4⟩ := h
    have hq := h4.1
    refine ⟨?_, by omega, ?_, by omega⟩
    · rw [rNode_fits _ _ _ _ _ _ _ (by omega) (fun e => by omega), show (((d + 1 : Nat) : Int) - 1) = (d : Int) by omega, h2, h1]
      rcases hk with ⟨rfl, rfl⟩ | ⟨rfl, rfl⟩ | ⟨rfl, rfl⟩ <;> simp [fitsB, kidsOf, limOf]
    · have e : encL (k : Int) ((0 : Nat) : Int) F = enc k ++ encF F := by
        simp only [encL, encH, Int.toNat_natCast]
        rw [if_neg (by omega), List.append_nil]
      rw [e]
      exact Lie.trans h0 h4
/-- WHAT IS READ IS WHAT WRITING GIVES. -/
theorem rdL_once (s : ByteArray) : ∀ (d p l : Nat), p ≤ s.size → RlOk s d p l (rdL s d p l)
  | 0, _, _, _ => trivial
  | d + 1, p, l, hp => by
    rw [rdL]
    split
    · trivial
    split
    · trivial
    rename_i hl hn
    rcases num_cases s p with hn' | ⟨k, cnt, h', _⟩
    · exact absurd hn' hn
    obtain ⟨g1, g2⟩ := num_lie h'
    rw [h']
    have hq : p + cnt ≤ s.size := g1.2.1
    have hrows := rows_once s d (fun p l h => rdL_once s d p l h)
    simp only [rdK]
    split
    · rename_i hk
      subst hk
      refine ⟨?_, by simp [Fo.size]; omega, ?_, g2⟩
      · rw [show rAll 5 10 .nil (((d + 1 : Nat) : Int) - 1) = true from rfl, rNode_fits _ _ _ _ _ _ _ (by omega) (fun _ => rfl)]; simp [fitsB, kidsOf, limOf, Fo.len]
      · have e : encL ((1 : Nat) : Int) ((0 : Nat) : Int) .nil = enc 1 := by simp [encL, encH, encF]
        rw [e]; exact g1
    split
    · rename_i hk; subst hk; exact wrap_once s 2 1 d _ p l (by omega) g1 g2 (by omega) (hrows 1 _ _ hq)
    split
    · rename_i hk; subst hk; exact wrap_once s 3 2 d _ p l (by omega) g1 g2 (by omega) (hrows 2 _ _ hq)
    split
    · rename_i hk; subst hk; exact wrap_once s 4 2 d _ p l (by omega) g1 g2 (by omega) (hrows 2 _ _ hq)
    split
    · rename_i hk; subst hk; exact rdN_once s 5 5 _ l d (by omega) g1 g2 (by omega)
    split
    · rename_i hk; subst hk; exact rdN_once s 10 6 _ l d (by omega) g1 g2 (by omega)
    · trivial
end Go.Proofs.Ythnkoamabfaioaa
