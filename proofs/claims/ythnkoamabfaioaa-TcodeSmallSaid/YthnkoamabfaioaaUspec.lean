/- Terms as bytes, as plain functions: what the bytes of a forest of terms are, what reading tells, and that reading undoes writing. No condition but those that stand in each statement. -/
import Derived.Test.YthnkoamabfaioaaTspec
import Derived.Test.YthnkoamabfaioaaLonce
namespace Go.Proofs.Ythnkoamabfaioaa
open Go

/-- What reading a term tells: an error, or its Kind, its N, its Levels, its Kids, the place behind it, and how many terms have been read. -/
inductive Tl where
  | no (e : Nat)
  | ok (k n : Nat) (ls : Fo) (ks : Ft) (q m : Nat)
/-- Likewise of some terms one behind the other. -/
inductive Ts where
  | no (e : Nat)
  | ok (F : Ft) (q m : Nat)
def Ts.wrap (k : Nat) : Ts → Tl
  | .no e => .no e
  | .ok F q m => .ok k 0 .nil F q m
def Ts.prep (G : Ft) : Ts → Ts
  | .no e => .no e
  | .ok F q m => .ok (G.app F) q m
/-- Others of a term of the kind k, from the i-th on, b binders around it. -/
def rowsT (step : Nat → Nat → Nat → Tl) (k : Int) (b : Nat) : Nat → Nat → Nat → Nat → Ts
  | 0, _, p, m => .ok .nil p m
  | c + 1, i, p, m => match step (b + (bindK k i).toNat) p m with
    | .no e => .no e
    | .ok k' n ls ks q m' => (rowsT step k b c (i + 1) q m').prep (.cons k' n ls ks .nil)
/-- A level, whole; some of them one behind the other. -/
def lvStep (s : ByteArray) (p l : Nat) : Rl := match rdL s 12 p 100 with
  | .no e => .no e
  | .ok k n F q _ => .ok k n F q l
def rowsV (s : ByteArray) (c p : Nat) : Rs := rows (lvStep s) c p 0
def Rs.term (k n m : Nat) : Rs → Tl
  | .no e => .no e
  | .ok F q _ => .ok k n F .nil q m
/-- What follows the N of a Const. -/
def rdC (s : ByteArray) (n p m : Nat) : Tl := if (num s p).2.2 ≠ 0 then .no (num s p).2.2 else if 6 ≤ (num s p).1 then .no 20 else (rowsV s (num s p).1 (num s p).2.1).term 3 n m
/-- What follows a Kind. -/
def rdKt (s : ByteArray) (step : Nat → Nat → Nat → Tl) (k b p m : Nat) : Tl :=
  if k = 1 then (if (num s p).2.2 ≠ 0 then .no (num s p).2.2 else if 1000 + b ≤ (num s p).1 then .no 20 else .ok 1 (num s p).1 .nil .nil (num s p).2.1 m)
  else if k = 2 then (rowsV s 1 p).term 2 0 m
  else if k = 3 then (if (num s p).2.2 ≠ 0 then .no (num s p).2.2 else if 20 ≤ (num s p).1 then .no 20 else rdC s (num s p).1 (num s p).2.1 m)
  else if k = 4 then (rowsT step 4 b 2 0 p m).wrap 4 else if k = 5 then (rowsT step 5 b 2 0 p m).wrap 5 else if k = 6 then (rowsT step 6 b 2 0 p m).wrap 6 else if k = 7 then (rowsT step 7 b 3 0 p m).wrap 7
  else .no 20
/-- A term that may be so deep, below b binders, from the place p on, where m terms have been read. -/
def rdT (s : ByteArray) : Nat → Nat → Nat → Nat → Tl
  | 0, _, _, _ => .no 2
  | d + 1, b, p, m => if 600 ≤ m then .no 2 else if (num s p).2.2 ≠ 0 then .no (num s p).2.2 else rdKt s (rdT s d) (num s p).1 b (num s p).2.1 (m + 1)

/-- The bytes of a term's own part. -/
def encTh (k n : Int) (ls : Fo) : List Int := enc k.toNat ++ ((if k = 1 ∨ k = 3 then enc n.toNat else []) ++ ((if k = 3 then enc ls.len else []) ++ encF ls))
/-- The bytes of terms one behind the other; of one. -/
def encTF : Ft → List Int
  | .nil => []
  | .cons k n ls ks r => encTh k n ls ++ (encTF ks ++ encTF r)
def encT (k n : Int) (ls : Fo) (ks : Ft) : List Int := encTh k n ls ++ encTF ks
theorem encTF_app : ∀ f g : Ft, encTF (f.app g) = encTF f ++ encTF g
  | .nil, _ => rfl
  | .cons _ _ _ _ r, g => by simp only [Ft.app, encTF, encTF_app r g, List.append_assoc]
theorem encTF_one (k n : Int) (ls : Fo) (ks : Ft) : encTF (.cons k n ls ks .nil) = encT k n ls ks := by simp [encTF, encT]

theorem rowsT_no {step : Nat → Nat → Nat → Tl} {k : Int} {b c i p m e : Nat} (h : step (b + (bindK k i).toNat) p m = .no e) : rowsT step k b (c + 1) i p m = .no e := by rw [rowsT, h]
theorem rowsT_ok {step : Nat → Nat → Nat → Tl} {k : Int} {b c i p m k' n q m' : Nat} {ls : Fo} {ks : Ft} (h : step (b + (bindK k i).toNat) p m = .ok k' n ls ks q m') : rowsT step k b (c + 1) i p m = (rowsT step k b c (i + 1) q m').prep (.cons k' n ls ks .nil) := by rw [rowsT, h]

/-- What a right term is, by its Kind. -/
theorem tfits_cases {v k n : Int} {ls : Fo} {len : Nat} (h : tfitsB 5 10 v k n ls len = true) :
    (k = 1 ∧ 0 ≤ n ∧ n < v ∧ ls = .nil ∧ len = 0) ∨ (k = 2 ∧ n = 0 ∧ ls.len = 1 ∧ lvB 5 10 ls = true ∧ len = 0) ∨ (k = 3 ∧ 0 ≤ n ∧ n < 20 ∧ ls.len ≤ 5 ∧ lvB 5 10 ls = true ∧ len = 0) ∨
    ((((k = 4 ∨ k = 5 ∨ k = 6) ∧ len = 2) ∨ (k = 7 ∧ len = 3)) ∧ n = 0 ∧ ls = .nil) := by
  have hk := tfits_len h
  have hc := tkids_cases k
  have hk' : k = 1 ∨ k = 2 ∨ k = 3 ∨ k = 4 ∨ k = 5 ∨ k = 6 ∨ k = 7 := by omega
  unfold tfitsB at h
  simp only [Bool.and_eq_true, decide_eq_true_eq] at h
  obtain ⟨h1, h2, h3, h4, h5, h6⟩ := h
  rcases hk' with rfl | rfl | rfl | rfl | rfl | rfl | rfl <;> simp [tkids, tlim, tlo, thi] at h1 h3 h4 h5
  · exact .inl ⟨rfl, h2, h3, Fo.len_zero h5, h1⟩
  · exact .inr (.inl ⟨rfl, by omega, by omega, h6, h1⟩)
  · exact .inr (.inr (.inl ⟨rfl, h2, h3, by omega, h6, h1⟩))
  · exact .inr (.inr (.inr ⟨.inl ⟨by omega, by omega⟩, by omega, Fo.len_zero h5⟩))
  · exact .inr (.inr (.inr ⟨.inl ⟨by omega, by omega⟩, by omega, Fo.len_zero h5⟩))
  · exact .inr (.inr (.inr ⟨.inl ⟨by omega, by omega⟩, by omega, Fo.len_zero h5⟩))
  · exact .inr (.inr (.inr ⟨.inr ⟨rfl, by omega⟩, by omega, Fo.len_zero h5⟩))
/-- A number, as it was written. -/
theorem num_enc {s : ByteArray} {p n : Nat} {t : List UInt8} (h : s.data.toList.drop p = bys (enc n) ++ t) (hn : n ≤ 1099511627776) : num s p = (n, p + (enc n).length, 0) := by
  unfold num
  have := enc_len6 hn
  rw [h, rd_enc p t n 0 0 (by omega) (by omega) (by simpa using hn)]
  simp
theorem rightB_split {k n : Int} {F : Fo} (h : rightB 5 10 k n F = true) : F.size + 1 ≤ 100 ∧ rNode 5 10 k n F.len (12 : Nat) (rAll 5 10 F (((12 : Nat) : Int) - 1)) = true := by
  unfold rightB at h
  simp only [Bool.and_eq_true, decide_eq_true_eq] at h
  exact ⟨h.2.1, h.2.2⟩
/-- READING UNDOES WRITING, of whole levels one behind the other. -/
theorem rowsV_encF (s : ByteArray) : ∀ (F : Fo) (p : Nat) (t : List UInt8), lvB 5 10 F = true → s.data.toList.drop p = bys (encF F) ++ t → rowsV s F.len p = .ok F (p + (encF F).length) 0
  | .nil, p, t, _, _ => by simp [rowsV, rows, Fo.len, encF]
  | .cons k n ks r, p, t, h, hd => by
    simp only [lvB, Bool.and_eq_true] at h
    obtain ⟨h1, h2⟩ := rightB_split h.1
    have hc := rNode_cases h2
    have eF : encF (.cons k n ks r) = encL k n ks ++ encF r := by simp only [encF, encL, List.append_assoc]
    rw [eF, bys_append, List.append_assoc] at hd
    have e1 : rdL s 12 p 100 = _ := rdL_encL s k n ks 12 p 100 _ h2 h1 hd
    have e2 : lvStep s p 0 = .ok k.toNat n.toNat ks (p + (encL k n ks).length) 0 := by unfold lvStep; rw [e1]
    have hd2 := drop_more hd
    rw [bys_len] at hd2
    have ih := rowsV_encF s r (p + (encL k n ks).length) t h.2 hd2
    unfold rowsV at ih ⊢
    rw [Fo.len, rows_ok e2, ih]
    have e3 : ((k.toNat : Nat) : Int) = k := by omega
    have e4 : ((n.toNat : Nat) : Int) = n := by omega
    simp [Rs.prep, Fo.app, e3, e4, eF]; omega
theorem rdKt_kids {s : ByteArray} {step : Nat → Nat → Nat → Tl} {k : Int} {c b p m : Nat} (h : ((k = 4 ∨ k = 5 ∨ k = 6) ∧ c = 2) ∨ (k = 7 ∧ c = 3)) : rdKt s step k.toNat b p m = (rowsT step k b c 0 p m).wrap k.toNat := by
  rcases h with ⟨rfl | rfl | rfl, rfl⟩ | ⟨rfl, rfl⟩ <;> rfl
theorem rdT_at {s : ByteArray} {d b p m k q : Nat} (hm : m < 600) (h : num s p = (k, q, 0)) : rdT s (d + 1) b p m = rdKt s (rdT s d) k b q (m + 1) := by
  rw [rdT, if_neg (by omega), h]; simp
theorem bindK_nn (k : Int) (i : Nat) : 0 ≤ bindK k i ∧ bindK k i ≤ 1 := by unfold bindK; split <;> omega
/-- READING UNDOES WRITING, of terms one behind the other. -/
theorem rowsT_encTF (s : ByteArray) : ∀ (F : Ft) (k0 : Int) (i b d p m : Nat) (v : Int) (t : List UInt8), tAll 5 10 F k0 i v d = true → v = 1000 + b → b + d ≤ 100000 → m + F.size ≤ 600 → s.data.toList.drop p = bys (encTF F) ++ t →
    rowsT (rdT s d) k0 b F.len i p m = .ok F (p + (encTF F).length) (m + F.size)
  | .nil, k0, i, b, d, p, m, v, t, _, _, _, _, _ => by simp [rowsT, Ft.len, encTF, Ft.size]
  | .cons k n ls ks r, k0, i, b, d, p, m, v, t, h, hv, hbd, hs, hd => by
    rw [tAll_cons] at h
    simp only [Bool.and_eq_true] at h
    obtain ⟨h1, h2⟩ := h
    unfold tOne at h1
    simp only [Bool.and_eq_true, decide_eq_true_eq] at h1
    obtain ⟨h0, hf, hk⟩ := h1
    obtain ⟨d, rfl⟩ : ∃ e, d = e + 1 := ⟨d - 1, by omega⟩
    have hb := bindK_nn k0 i
    obtain ⟨b', hb'⟩ : ∃ b', b + (bindK k0 i).toNat = b' := ⟨_, rfl⟩
    have hv' : v + bindK k0 i = 1000 + (b' : Int) := by omega
    rw [hv'] at hf hk
    rw [show ((d + 1 : Nat) : Int) - 1 = (d : Int) by omega] at hk
    simp only [Ft.size] at hs
    have hc := tfits_cases hf
    have eT : encTF (.cons k n ls ks r) = encT k n ls ks ++ encTF r := by simp only [encTF, encT, List.append_assoc]
    rw [eT, bys_append, List.append_assoc] at hd
    have fin : rdT s (d + 1) b' p m = .ok k.toNat n.toNat ls ks (p + (encT k n ls ks).length) (m + 1 + ks.size) ∧ 0 ≤ k ∧ 0 ≤ n := by
      rcases hc with ⟨rfl, hn0, hn, rfl, hlen⟩ | ⟨rfl, rfl, hl1, hlv, hlen⟩ | ⟨rfl, hn0, hn, hl5, hlv, hlen⟩ | ⟨hkk, rfl, rfl⟩
      · have hks := Ft.len_zero hlen
        subst hks
        have eE : encT 1 n .nil .nil = enc 1 ++ enc n.toNat := by simp [encT, encTh, encTF, encF]
        rw [eE, bys_append, List.append_assoc] at hd
        have n1 := num_enc hd (by decide)
        have hd2 := drop_more hd
        rw [bys_len] at hd2
        have n2 := num_enc hd2 (by omega)
        refine ⟨?_, by omega, hn0⟩
        rw [rdT_at (by omega) n1, rdKt, if_pos rfl, n2, if_neg (by simp), if_neg (by simp; omega), eE]
        simp [Ft.size]; omega
      · have hks := Ft.len_zero hlen
        subst hks
        have eE : encT 2 0 ls .nil = enc 2 ++ encF ls := by simp [encT, encTh, encTF]
        rw [eE, bys_append, List.append_assoc] at hd
        have n1 := num_enc hd (by decide)
        have hd2 := drop_more hd
        rw [bys_len] at hd2
        have e2 := rowsV_encF s ls _ _ hlv hd2
        rw [hl1] at e2
        refine ⟨?_, by omega, by omega⟩
        rw [rdT_at (by omega) n1, rdKt, if_neg (by omega), if_pos rfl, e2, eE]
        simp [Rs.term, Ft.size]; omega
      · have hks := Ft.len_zero hlen
        subst hks
        have eE : encT 3 n ls .nil = enc 3 ++ (enc n.toNat ++ (enc ls.len ++ encF ls)) := by simp [encT, encTh, encTF]
        rw [eE, bys_append, bys_append, bys_append, List.append_assoc, List.append_assoc, List.append_assoc] at hd
        have n1 := num_enc hd (by decide)
        have hd2 := drop_more hd
        rw [bys_len] at hd2
        have n2 := num_enc hd2 (by omega)
        have hd3 := drop_more hd2
        rw [bys_len] at hd3
        have n3 := num_enc hd3 (by omega)
        have hd4 := drop_more hd3
        rw [bys_len] at hd4
        have e2 := rowsV_encF s ls _ _ hlv hd4
        refine ⟨?_, by omega, hn0⟩
        rw [rdT_at (by omega) n1, rdKt, if_neg (by omega), if_neg (by omega), if_pos rfl, n2, if_neg (by simp), if_neg (by simp; omega), rdC, n3, if_neg (by simp), if_neg (by simp; omega), e2, eE]
        simp [Rs.term, Ft.size]; omega
      · have hk0 : 4 ≤ k ∧ k ≤ 7 := by omega
        have eE : encT k 0 .nil ks = enc k.toNat ++ encTF ks := by
          simp only [encT, encTh, encF, List.append_nil]
          rw [if_neg (by omega), if_neg (by omega)]; simp
        rw [eE, bys_append, List.append_assoc] at hd
        have n1 := num_enc hd (by omega)
        have hd2 := drop_more hd
        rw [bys_len] at hd2
        have ih := rowsT_encTF s ks k 0 b' d (p + (enc k.toNat).length) (m + 1) _ _ hk rfl (by omega) (by omega) hd2
        refine ⟨?_, by omega, by omega⟩
        rw [rdT_at (by omega) n1, rdKt_kids (c := ks.len) (by omega), ih, eE]
        simp [Ts.wrap]; omega
    obtain ⟨f1, f2, f3⟩ := fin
    rw [Ft.len, rowsT_ok (by rw [hb']; exact f1)]
    have hd2 := drop_more hd
    rw [bys_len] at hd2
    rw [rowsT_encTF s r k0 (i + 1) b (d + 1) _ (m + 1 + ks.size) v t h2 hv hbd (by omega) hd2]
    have e3 : ((k.toNat : Nat) : Int) = k := by omega
    have e4 : ((n.toNat : Nat) : Int) = n := by omega
    simp [Ts.prep, Ft.app, e3, e4, eT, Ft.size]; omega
/-- READING UNDOES WRITING: a right term. -/
theorem rdT_encT (s : ByteArray) (k n : Int) (ls : Fo) (ks : Ft) (p : Nat) (t : List UInt8) (h : shB k n ls ks = true) (hd : s.data.toList.drop p = bys (encT k n ls ks) ++ t) :
    rdT s 30 0 p 0 = .ok k.toNat n.toNat ls ks (p + (encT k n ls ks).length) (ks.size + 1) := by
  obtain ⟨h1, h2, h3⟩ := shB_parts h
  have h4 : tAll 5 10 (.cons k n ls ks .nil) 0 0 1000 (30 : Nat) = true := by
    rw [tAll_cons, show bindK 0 0 = 0 by simp [bindK]]
    unfold tOne
    simp only [tAll, Bool.and_true, Bool.and_eq_true, decide_eq_true_eq, Int.add_zero]
    exact ⟨by omega, h2, h3⟩
  have r := rowsT_encTF s (.cons k n ls ks .nil) 0 0 0 30 p 0 1000 t h4 (by omega) (by omega) (by simp [Ft.size]; omega) (by rw [encTF_one]; exact hd)
  rw [encTF_one] at r
  simp only [Ft.len, Nat.zero_add, Ft.size, Nat.add_zero] at r
  have e0 : 0 + (bindK 0 0).toNat = 0 := by simp [bindK]
  cases hr : rdT s 30 0 p 0 with
  | no e => rw [rowsT_no (by rw [e0]; exact hr)] at r; cases r
  | ok k' n' ls' ks' q m' =>
    rw [rowsT_ok (by rw [e0]; exact hr)] at r
    simp only [rowsT, Ts.prep, Ft.app, Ts.ok.injEq, Ft.cons.injEq, and_true] at r
    obtain ⟨⟨rfl, rfl, rfl, rfl⟩, rfl, rfl⟩ := r
    simp
end Go.Proofs.Ythnkoamabfaioaa
