/- Terms as bytes, the other way: what is cut off is not read, what is read is right, and is what writing gives, and an error is not 0. No condition but those that stand in each statement. -/
import Derived.Test.YthnkoamabfaioaaUspec
namespace Go.Proofs.Ythnkoamabfaioaa
open Go

/-- Levels one behind the other, cut off. -/
theorem rowsV_cut (s : ByteArray) : ∀ (F : Fo) (p m : Nat), lvB 5 10 F = true → m < (encF F).length → s.data.toList.drop p = (bys (encF F)).take m → rowsV s F.len p = .no 21
  | .nil, p, m, _, hm, _ => by simp [encF] at hm
  | .cons k n ks r, p, m, h, hm, hd => by
    simp only [lvB, Bool.and_eq_true] at h
    obtain ⟨h1, h2⟩ := rightB_split h.1
    have hc := rNode_cases h2
    have eF : encF (.cons k n ks r) = encL k n ks ++ encF r := by simp only [encF, encL, List.append_assoc]
    rw [eF] at hm hd
    rw [bys_append] at hd
    by_cases hcut : m < (encL k n ks).length
    · rw [List.take_append_of_le_length (by rw [bys_len]; omega)] at hd
      have e1 : rdL s 12 p 100 = _ := rdL_cut s k n ks 12 p 100 m h2 h1 hcut hd
      unfold rowsV
      rw [Fo.len]
      exact rows_no (by unfold lvStep; rw [e1])
    · rw [List.take_append, List.take_of_length_le (by rw [bys_len]; omega)] at hd
      have e1 : rdL s 12 p 100 = _ := rdL_encL s k n ks 12 p 100 _ h2 h1 hd
      have e2 : lvStep s p 0 = .ok k.toNat n.toNat ks (p + (encL k n ks).length) 0 := by unfold lvStep; rw [e1]
      have hd2 := drop_more hd
      rw [bys_len] at hd2
      have ih := rowsV_cut s r (p + (encL k n ks).length) (m - (encL k n ks).length) h.2 (by simp only [List.length_append] at hm; omega) hd2
      unfold rowsV at ih ⊢
      rw [Fo.len, rows_ok e2, ih]; rfl
/-- More variables may be. -/
theorem tfits_up {v v' k n : Int} {ls : Fo} {len : Nat} (h : tfitsB 5 10 v k n ls len = true) (hv : v ≤ v') : tfitsB 5 10 v' k n ls len = true := by
  unfold tfitsB at h ⊢
  simp only [Bool.and_eq_true, decide_eq_true_eq] at h ⊢
  have : tlim v k ≤ tlim v' k := by unfold tlim; split <;> (try split) <;> omega
  exact ⟨h.1, h.2.1, by omega, h.2.2.2.1, h.2.2.2.2.1, h.2.2.2.2.2⟩
theorem tAll_up : ∀ {F : Ft} {k0 : Int} {i : Nat} {v v' d : Int}, tAll 5 10 F k0 i v d = true → v ≤ v' → tAll 5 10 F k0 i v' d = true
  | .nil, _, _, _, _, _, _, _ => rfl
  | .cons k n ls ks r, k0, i, v, v', d, h, hv => by
    unfold tAll at h ⊢
    simp only [Bool.and_eq_true, decide_eq_true_eq] at h ⊢
    exact ⟨⟨h.1.1, tfits_up h.1.2.1 (by omega), tAll_up h.1.2.2 (by omega)⟩, tAll_up h.2 hv⟩
theorem tOne_up {v v' d k n : Int} {ls : Fo} {ks : Ft} (h : tOne 5 10 v d k n ls ks = true) (hv : v ≤ v') : tOne 5 10 v' d k n ls ks = true := by
  unfold tOne at h ⊢
  simp only [Bool.and_eq_true, decide_eq_true_eq] at h ⊢
  exact ⟨h.1, tfits_up h.2.1 hv, tAll_up h.2.2 hv⟩
theorem rdT_nil {s : ByteArray} {d b p m : Nat} (hd : s.data.toList.drop p = []) (hm : m < 600) : rdT s (d + 1) b p m = .no 21 := by
  rw [rdT, if_neg (by omega), num_end hd]; simp
theorem enc_one {n : Nat} (h : n < 128) : (enc n).length = 1 := by rw [enc_small h]; rfl
theorem take_more {a t : List UInt8} {m : Nat} (h : a.length ≤ m) : (a ++ t).take m = a ++ t.take (m - a.length) := by
  rw [List.take_append, List.take_of_length_le h]
/-- WHAT IS CUT OFF IS NOT READ, of terms one behind the other whose variables are small. -/
theorem rowsT_cut (s : ByteArray) : ∀ (F : Ft) (k0 : Int) (i b d p m j : Nat) (v : Int), tAll 5 10 F k0 i v d = true → v ≤ 1000 + b → v + d ≤ 128 → b + d ≤ 100000 → m + F.size ≤ 600 → j < (encTF F).length → s.data.toList.drop p = (bys (encTF F)).take j →
    rowsT (rdT s d) k0 b F.len i p m = .no 21
  | .nil, k0, i, b, d, p, m, j, v, _, _, _, _, _, hj, _ => by simp [encTF] at hj
  | .cons k n ls ks r, k0, i, b, d, p, m, j, v, h, hv, hvd, hbd, hs, hj, hd => by
    rw [tAll_cons] at h
    simp only [Bool.and_eq_true] at h
    obtain ⟨hT, h2⟩ := h
    have h1 := hT
    unfold tOne at h1
    simp only [Bool.and_eq_true, decide_eq_true_eq] at h1
    obtain ⟨h0, hf, hk⟩ := h1
    obtain ⟨d, rfl⟩ : ∃ e, d = e + 1 := ⟨d - 1, by omega⟩
    have hb := bindK_nn k0 i
    obtain ⟨b', hb'⟩ : ∃ b', b + (bindK k0 i).toNat = b' := ⟨_, rfl⟩
    obtain ⟨v', hv'⟩ : ∃ v', v + bindK k0 i = v' := ⟨_, rfl⟩
    rw [hv'] at hf hk
    rw [show ((d + 1 : Nat) : Int) - 1 = (d : Int) by omega] at hk
    simp only [Ft.size] at hs
    have hc := tfits_cases hf
    have eT : encTF (.cons k n ls ks r) = encT k n ls ks ++ encTF r := by simp only [encTF, encT, List.append_assoc]
    rw [eT] at hj hd
    rw [bys_append] at hd
    by_cases hcut : j < (encT k n ls ks).length
    · rw [List.take_append_of_le_length (by rw [bys_len]; omega)] at hd
      rw [Ft.len]
      apply rowsT_no
      rw [hb']
      by_cases hj0 : j = 0
      · subst hj0; exact rdT_nil (by simpa using hd) (by omega)
      rcases hc with ⟨rfl, hn0, hn, rfl, hlen⟩ | ⟨rfl, rfl, hl1, hlv, hlen⟩ | ⟨rfl, hn0, hn, hl5, hlv, hlen⟩ | ⟨hkk, rfl, rfl⟩
      · have hks := Ft.len_zero hlen
        subst hks
        have eE : encT 1 n .nil .nil = enc 1 ++ enc n.toNat := by simp [encT, encTh, encTF, encF]
        have l1 : (enc 1).length = 1 := enc_one (by omega)
        have l2 : (enc n.toNat).length = 1 := enc_one (by omega)
        rw [eE] at hd hcut
        simp only [List.length_append] at hcut
        rw [bys_append, take_more (by rw [bys_len]; omega)] at hd
        have n1 := num_enc hd (by decide)
        have hd2 := drop_more hd
        rw [bys_len, show j - (enc 1).length = 0 by omega, List.take_zero] at hd2
        rw [rdT_at (by omega) n1, rdKt, if_pos rfl, num_end hd2]; simp
      · have hks := Ft.len_zero hlen
        subst hks
        have eE : encT 2 0 ls .nil = enc 2 ++ encF ls := by simp [encT, encTh, encTF]
        have l1 : (enc 2).length = 1 := enc_one (by omega)
        rw [eE] at hd hcut
        simp only [List.length_append] at hcut
        rw [bys_append, take_more (by rw [bys_len]; omega)] at hd
        have n1 := num_enc hd (by decide)
        have hd2 := drop_more hd
        rw [bys_len] at hd2
        have e2 := rowsV_cut s ls _ _ hlv (by omega) hd2
        rw [hl1] at e2
        rw [rdT_at (by omega) n1, rdKt, if_neg (by omega), if_pos rfl, e2]; rfl
      · have hks := Ft.len_zero hlen
        subst hks
        have eE : encT 3 n ls .nil = enc 3 ++ (enc n.toNat ++ (enc ls.len ++ encF ls)) := by simp [encT, encTh, encTF]
        have l1 : (enc 3).length = 1 := enc_one (by omega)
        have l2 : (enc n.toNat).length = 1 := enc_one (by omega)
        have l3 : (enc ls.len).length = 1 := enc_one (by omega)
        rw [eE] at hd hcut
        simp only [List.length_append] at hcut
        rw [bys_append, take_more (by rw [bys_len]; omega)] at hd
        have n1 := num_enc hd (by decide)
        have hd2 := drop_more hd
        rw [bys_len] at hd2
        rw [rdT_at (by omega) n1, rdKt, if_neg (by omega), if_neg (by omega), if_pos rfl]
        by_cases hj1 : j = 1
        · rw [show j - (enc 3).length = 0 by omega, List.take_zero] at hd2
          rw [num_end hd2]; simp
        rw [bys_append, take_more (by rw [bys_len]; omega)] at hd2
        have n2 := num_enc hd2 (by omega)
        have hd3 := drop_more hd2
        rw [bys_len] at hd3
        rw [n2, if_neg (by simp), if_neg (by simp; omega), rdC]
        by_cases hj2 : j = 2
        · rw [show j - (enc 3).length - (enc n.toNat).length = 0 by omega, List.take_zero] at hd3
          rw [num_end hd3]; simp
        rw [bys_append, take_more (by rw [bys_len]; omega)] at hd3
        have n3 := num_enc hd3 (by omega)
        have hd4 := drop_more hd3
        rw [bys_len] at hd4
        have e2 := rowsV_cut s ls _ _ hlv (by omega) hd4
        rw [n3, if_neg (by simp), if_neg (by simp; omega), e2]; rfl
      · have hk0 : 4 ≤ k ∧ k ≤ 7 := by omega
        have eE : encT k 0 .nil ks = enc k.toNat ++ encTF ks := by
          simp only [encT, encTh, encF, List.append_nil]
          rw [if_neg (by omega), if_neg (by omega)]; simp
        have l1 : (enc k.toNat).length = 1 := enc_one (by omega)
        rw [eE] at hd hcut
        simp only [List.length_append] at hcut
        rw [bys_append, take_more (by rw [bys_len]; omega)] at hd
        have n1 := num_enc hd (by omega)
        have hd2 := drop_more hd
        rw [bys_len] at hd2
        have ih := rowsT_cut s ks k 0 b' d (p + (enc k.toNat).length) (m + 1) _ v' hk (by omega) (by omega) (by omega) (by omega) (by omega) hd2
        rw [rdT_at (by omega) n1, rdKt_kids (c := ks.len) (by omega), ih]; rfl
    · rw [take_more (by rw [bys_len]; omega)] at hd
      have h4 : tAll 5 10 (.cons k n ls ks .nil) k0 i (1000 + (b : Int)) (d + 1 : Nat) = true := by
        rw [tAll_cons]
        simp only [tAll, Bool.and_true]
        have := hT
        exact tOne_up this (by omega)
      have r1 := rowsT_encTF s (.cons k n ls ks .nil) k0 i b (d + 1) p m _ _ h4 rfl hbd (by simp [Ft.size]; omega) (by rw [encTF_one]; exact hd)
      rw [encTF_one] at r1
      simp only [Ft.len, Nat.zero_add, Ft.size, Nat.add_zero] at r1
      rw [Ft.len]
      cases hr : rdT s (d + 1) b' p m with
      | no e => rw [rowsT_no (by rw [hb']; exact hr)] at r1; cases r1
      | ok k' n' ls' ks' q m' =>
        rw [rowsT_ok (by rw [hb']; exact hr)] at r1 ⊢
        simp only [rowsT, Ts.prep, Ft.app, Ts.ok.injEq] at r1
        obtain ⟨_, rfl, rfl⟩ := r1
        have hd2 := drop_more hd
        rw [bys_len] at hd2
        rw [rowsT_cut s r k0 (i + 1) b (d + 1) _ _ (j - (encT k n ls ks).length) v h2 hv hvd hbd (by omega) (by simp only [List.length_append] at hj; omega) hd2]; rfl
end Go.Proofs.Ythnkoamabfaioaa
