/- Levels as bytes, as plain functions: what the bytes of a forest are, what reading tells, that reading undoes writing, that what is cut off is not read, and that what is read is what writing gives. No condition but those that stand in each statement. -/
import Derived.Test.YthnkoamabfaioaaBack
import Derived.Test.YthnkoamabfaioaaSpec
import Derived.Test.YthnkoamabfaioaaStack
namespace Go.Proofs.Ythnkoamabfaioaa
open Go

/-- What reading a level tells: an error, or its Kind, its N, its Kids, the place behind it, and how many levels may still be read. -/
inductive Rl where
  | no (e : Nat)
  | ok (k n : Nat) (F : Fo) (q l : Nat)
/-- Likewise of some levels one behind the other. -/
inductive Rs where
  | no (e : Nat)
  | ok (F : Fo) (q l : Nat)
def Rs.wrap (k : Nat) : Rs → Rl
  | .no e => .no e
  | .ok F q l => .ok k 0 F q l
def Rs.prep (G : Fo) : Rs → Rs
  | .no e => .no e
  | .ok F q l => .ok (G.app F) q l
def rows (step : Nat → Nat → Rl) : Nat → Nat → Nat → Rs
  | 0, p, l => .ok .nil p l
  | c + 1, p, l => match step p l with
    | .no e => .no e
    | .ok k n F q l' => (rows step c q l').prep (.cons k n F .nil)
def num (s : ByteArray) (p : Nat) : Nat × Nat × Nat := rd p 0 0 (s.data.toList.drop p)
/-- The N of a Param or a Meta. -/
def rdN (s : ByteArray) (lim k p l : Nat) : Rl := if (num s p).2.2 ≠ 0 then .no (num s p).2.2 else if lim ≤ (num s p).1 then .no 20 else .ok k (num s p).1 .nil (num s p).2.1 l
/-- What follows a Kind. -/
def rdK (s : ByteArray) (step : Nat → Nat → Rl) (k p l : Nat) : Rl :=
  if k = 1 then .ok 1 0 .nil p l else if k = 2 then (rows step 1 p l).wrap 2 else if k = 3 then (rows step 2 p l).wrap 3 else if k = 4 then (rows step 2 p l).wrap 4
  else if k = 5 then rdN s 5 5 p l else if k = 6 then rdN s 10 6 p l else .no 20
/-- A level that may be so deep, from the place p on, where l levels may still be read. -/
def rdL (s : ByteArray) : Nat → Nat → Nat → Rl
  | 0, _, _ => .no 2
  | d + 1, p, l => if l = 0 then .no 2 else if (num s p).2.2 ≠ 0 then .no (num s p).2.2 else rdK s (rdL s d) (num s p).1 (num s p).2.1 (l - 1)

theorem Fo.app_assoc : ∀ f g h : Fo, (f.app g).app h = f.app (g.app h)
  | .nil, _, _ => rfl
  | .cons _ _ _ r, g, h => by simp only [Fo.app, Fo.app_assoc r g h]
theorem Fo.app_nil : ∀ f : Fo, f.app .nil = f
  | .nil => rfl
  | .cons _ _ _ r => by simp only [Fo.app, Fo.app_nil r]
theorem Rs.prep_prep (G H : Fo) : ∀ r : Rs, (r.prep H).prep G = r.prep (G.app H)
  | .no _ => rfl
  | .ok .. => by simp only [Rs.prep, Fo.app_assoc]
theorem Rs.prep_nil : ∀ r : Rs, r.prep .nil = r
  | .no _ => rfl
  | .ok .. => rfl
theorem rows_no {step : Nat → Nat → Rl} {c p l e : Nat} (h : step p l = .no e) : rows step (c + 1) p l = .no e := by unfold rows; rw [h]
theorem rows_ok {step : Nat → Nat → Rl} {c p l k n q l' : Nat} {F : Fo} (h : step p l = .ok k n F q l') : rows step (c + 1) p l = (rows step c q l').prep (.cons k n F .nil) := by rw [rows, h]

/-- The bytes of a level's own part. -/
def encH (k n : Int) : List Int := enc k.toNat ++ (if k = 5 ∨ k = 6 then enc n.toNat else [])
/-- The bytes of levels one behind the other. -/
def encF : Fo → List Int
  | .nil => []
  | .cons k n ks r => encH k n ++ encF ks ++ encF r
def encL (k n : Int) (ks : Fo) : List Int := encH k n ++ encF ks
theorem encF_app : ∀ f g : Fo, encF (f.app g) = encF f ++ encF g
  | .nil, _ => rfl
  | .cons _ _ _ r, g => by simp only [Fo.app, encF, encF_app r g, List.append_assoc]
theorem encF_one (k n : Int) (ks : Fo) : encF (.cons k n ks .nil) = encL k n ks := by simp [encF, encL]

/-- What a right level is, by its Kind. -/
theorem rNode_cases {k n : Int} {len : Nat} {d : Int} {sub : Bool} (h : rNode 5 10 k n len d sub = true) :
    1 ≤ d ∧ ((k = 1 ∧ n = 0 ∧ len = 0) ∨ (k = 2 ∧ n = 0 ∧ len = 1 ∧ sub = true) ∨ ((k = 3 ∨ k = 4) ∧ n = 0 ∧ len = 2 ∧ sub = true) ∨ (k = 5 ∧ 0 ≤ n ∧ n < 5 ∧ len = 0) ∨ (k = 6 ∧ 0 ≤ n ∧ n < 10 ∧ len = 0)) := by
  unfold rNode at h
  split at h
  · simp at h
  split at h
  · simp at h
  rename_i hd hl
  refine ⟨by omega, ?_⟩
  have hl' : (len : Int) = kidsOf k := by simpa using hl
  unfold kidsOf at hl'
  split at h
  · rename_i h5
    subst h5
    simp at h hl'
    omega
  split at h
  · rename_i h6
    subst h6
    simp at h hl'
    omega
  rename_i h5 h6
  simp at h
  split at hl'
  · omega
  split at hl'
  · rename_i h2
    exact .inr (.inl ⟨h2, h.2, by omega, h.1⟩)
  split at hl'
  · rename_i h34
    exact .inr (.inr (.inl ⟨h34, h.2, by omega, h.1⟩))
  · omega
theorem enc_byte {n : Nat} (h : n < 128) : bys (enc n) = [UInt8.ofNat n] := by rw [enc_small h]; simp [bys]
theorem bys_append (a b : List Int) : bys (a ++ b) = bys a ++ bys b := by simp [bys]
/-- The own part's bytes of a right level. -/
theorem encH_plain {k n : Int} (h : k = 1 ∨ k = 2 ∨ k = 3 ∨ k = 4) : bys (encH k n) = [UInt8.ofNat k.toNat] := by
  unfold encH
  rw [if_neg (by omega), List.append_nil, enc_byte (by omega)]
theorem encH_named {k n : Int} (h : k = 5 ∨ k = 6) (hn : n < 128) : bys (encH k n) = [UInt8.ofNat k.toNat, UInt8.ofNat n.toNat] := by
  unfold encH
  rw [if_pos h, bys_append, enc_byte (by omega), enc_byte (by omega)]; rfl
/-- One byte that is a number. -/
theorem num_byte {s : ByteArray} {p n : Nat} {t : List UInt8} (h : s.data.toList.drop p = UInt8.ofNat n :: t) (hn : n < 128) : num s p = (n, p + 1, 0) := by
  have e : (UInt8.ofNat n).toNat = n := ofNat_toNat (by omega)
  unfold num
  rw [h, rd_end (by omega) (by omega) (by rw [e]; simp; omega), e]
  simp; omega
theorem num_end {s : ByteArray} {p : Nat} (h : s.data.toList.drop p = []) : num s p = (0, 0, 21) := by unfold num; rw [h]; rfl
theorem drop_next {s : ByteArray} {p : Nat} {b : UInt8} {t : List UInt8} (h : s.data.toList.drop p = b :: t) : s.data.toList.drop (p + 1) = t := by
  rw [← List.drop_drop, h]; rfl
theorem drop_more {s : ByteArray} {p : Nat} {a t : List UInt8} (h : s.data.toList.drop p = a ++ t) : s.data.toList.drop (p + a.length) = t := by
  rw [← List.drop_drop, h, List.drop_left]

theorem rdL_at {s : ByteArray} {d p l k : Nat} {t : List UInt8} (hl : l ≠ 0) (h : s.data.toList.drop p = UInt8.ofNat k :: t) (hk : k < 128) : rdL s (d + 1) p l = rdK s (rdL s d) k (p + 1) (l - 1) := by
  rw [rdL, if_neg hl, num_byte h hk]; simp
theorem rdN_at {s : ByteArray} {lim k p l n : Nat} {t : List UInt8} (h : s.data.toList.drop p = UInt8.ofNat n :: t) (hn : n < 128) (hlim : n < lim) : rdN s lim k p l = .ok k n .nil (p + 1) l := by
  rw [rdN, num_byte h hn, if_neg (by simp), if_neg (by simpa using hlim)]

/-- READING UNDOES WRITING, of levels one behind the other. -/
theorem rows_encF (s : ByteArray) : ∀ (F : Fo) (d p l : Nat) (t : List UInt8), rAll 5 10 F d = true → F.size ≤ l → s.data.toList.drop p = bys (encF F) ++ t →
    rows (rdL s d) F.len p l = .ok F (p + (encF F).length) (l - F.size)
  | .nil, d, p, l, t, _, _, _ => by simp [rows, Fo.len, encF, Fo.size]
  | .cons k n ks r, d, p, l, t, h, hs, hd => by
    simp only [rAll, Bool.and_eq_true] at h
    obtain ⟨h1, h2⟩ := h
    simp only [Fo.size] at hs
    simp only [encF, bys_append, List.append_assoc] at hd
    have hc := rNode_cases h1
    obtain ⟨d, rfl⟩ : ∃ e, d = e + 1 := ⟨d - 1, by omega⟩
    have e1 : (((d + 1 : Nat) : Int) - 1) = ((d : Nat) : Int) := by omega
    rw [e1] at hc
    have hl : l ≠ 0 := by omega
    have fin : rdL s (d + 1) p l = .ok k.toNat n.toNat ks (p + (encL k n ks).length) (l - 1 - ks.size) ∧ (0 ≤ k ∧ 0 ≤ n) := by
      rcases hc.2 with ⟨hk, hn, hlen⟩ | ⟨hk, hn, hlen, hsub⟩ | ⟨hk, hn, hlen, hsub⟩ | ⟨hk, hn0, hn, hlen⟩ | ⟨hk, hn0, hn, hlen⟩
      · have hks := Fo.len_zero hlen
        subst hk hn hks
        have hb := encH_plain (k := 1) (n := 0) (by omega)
        rw [hb] at hd
        rw [rdL_at hl hd (by decide)]
        have : (encH 1 0).length = 1 := by have := congrArg List.length hb; rwa [bys_len] at this
        refine ⟨?_, by omega⟩
        simp [rdK, encL, encF, this, Fo.size]
      · subst hk hn
        have hb := encH_plain (k := 2) (n := 0) (by omega)
        rw [hb] at hd
        rw [rdL_at hl hd (by decide)]
        have hL : (encH 2 0).length = 1 := by have := congrArg List.length hb; rwa [bys_len] at this
        have ih := rows_encF s ks d (p + 1) (l - 1) (bys (encF r) ++ t) hsub (by omega) (by have := drop_next hd; simpa using this)
        rw [hlen] at ih
        refine ⟨?_, by omega⟩
        simp only [rdK, show (2 : Int).toNat = 2 from rfl, if_true]
        rw [ih]
        simp [Rs.wrap, encL, hL]; omega
      · have hb := encH_plain (k := k) (n := n) (by omega)
        rw [hb] at hd
        rw [rdL_at hl hd (by omega)]
        have hL : (encH k n).length = 1 := by have := congrArg List.length hb; rwa [bys_len] at this
        have ih := rows_encF s ks d (p + 1) (l - 1) (bys (encF r) ++ t) hsub (by omega) (by have := drop_next hd; simpa using this)
        rw [hlen] at ih
        refine ⟨?_, by omega⟩
        rcases hk with rfl | rfl
        · subst hn
          simp only [rdK, show (3 : Int).toNat = 3 from rfl, if_neg (by decide : ¬ 3 = 1), if_neg (by decide : ¬ 3 = 2), if_true]
          rw [ih]
          simp [Rs.wrap, encL, hL]; omega
        · subst hn
          simp only [rdK, show (4 : Int).toNat = 4 from rfl, if_neg (by decide : ¬ 4 = 1), if_neg (by decide : ¬ 4 = 2), if_neg (by decide : ¬ 4 = 3), if_true]
          rw [ih]
          simp [Rs.wrap, encL, hL]; omega
      · have hks := Fo.len_zero hlen
        subst hk hks
        have hb := encH_named (k := 5) (n := n) (by omega) (by omega)
        rw [hb] at hd
        rw [rdL_at hl hd (by decide)]
        have hL : (encH 5 n).length = 2 := by have := congrArg List.length hb; rwa [bys_len] at this
        have hd' := drop_next hd
        refine ⟨?_, by omega⟩
        simp only [rdK, show (5 : Int).toNat = 5 from rfl, if_neg (by decide : ¬ 5 = 1), if_neg (by decide : ¬ 5 = 2), if_neg (by decide : ¬ 5 = 3), if_neg (by decide : ¬ 5 = 4), if_true]
        rw [rdN_at (n := n.toNat) hd' (by omega) (by omega)]
        simp [encL, encF, hL, Fo.size]
      · have hks := Fo.len_zero hlen
        subst hk hks
        have hb := encH_named (k := 6) (n := n) (by omega) (by omega)
        rw [hb] at hd
        rw [rdL_at hl hd (by decide)]
        have hL : (encH 6 n).length = 2 := by have := congrArg List.length hb; rwa [bys_len] at this
        have hd' := drop_next hd
        refine ⟨?_, by omega⟩
        simp only [rdK, show (6 : Int).toNat = 6 from rfl, if_neg (by decide : ¬ 6 = 1), if_neg (by decide : ¬ 6 = 2), if_neg (by decide : ¬ 6 = 3), if_neg (by decide : ¬ 6 = 4), if_neg (by decide : ¬ 6 = 5), if_true]
        rw [rdN_at (n := n.toNat) hd' (by omega) (by omega)]
        simp [encL, encF, hL, Fo.size]
    rw [Fo.len, rows_ok fin.1]
    have hd2 : s.data.toList.drop (p + (encL k n ks).length) = bys (encF r) ++ t := by
      have := drop_more (s := s) (p := p) (a := bys (encH k n) ++ bys (encF ks)) (t := bys (encF r) ++ t) (by rw [hd]; simp)
      rwa [← bys_append, bys_len] at this
    rw [rows_encF s r (d + 1) _ (l - 1 - ks.size) t h2 (by omega) hd2]
    have e2 : ((k.toNat : Nat) : Int) = k := by omega
    have e3 : ((n.toNat : Nat) : Int) = n := by omega
    simp [Rs.prep, Fo.app, e2, e3, encF, encL, Fo.size]; omega

/-- READING UNDOES WRITING: a right level. -/
theorem rdL_encL (s : ByteArray) (k n : Int) (ks : Fo) (d p l : Nat) (t : List UInt8) (h : rNode 5 10 k n ks.len d (rAll 5 10 ks ((d : Int) - 1)) = true) (hs : ks.size + 1 ≤ l) (hd : s.data.toList.drop p = bys (encL k n ks) ++ t) :
    rdL s d p l = .ok k.toNat n.toNat ks (p + (encL k n ks).length) (l - (ks.size + 1)) := by
  have h1 := rows_encF s (.cons k n ks .nil) d p l t (by simp [rAll, h]) (by simp [Fo.size]; omega) (by rw [encF_one]; exact hd)
  rw [encF_one] at h1
  have hc := rNode_cases h
  simp only [Fo.len, Nat.zero_add, Fo.size, Nat.add_zero] at h1
  cases hr : rdL s d p l with
  | no e => rw [rows_no hr] at h1; cases h1
  | ok k' n' F q l' =>
    rw [rows_ok hr] at h1
    simp only [rows, Rs.prep, Fo.app, Rs.ok.injEq, Fo.cons.injEq, and_true] at h1
    obtain ⟨⟨rfl, rfl, rfl⟩, rfl, rfl⟩ := h1
    simp
end Go.Proofs.Ythnkoamabfaioaa
