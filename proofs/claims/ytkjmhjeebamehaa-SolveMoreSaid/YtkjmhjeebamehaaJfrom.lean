/- What From tells of clauses by numbers from a model on, from noughts on, and from what it told: plain mathematics. No condition but those that stand in each statement. -/
import Derived.Test.YtkjmhjeebamehaaJfacts
import Derived.Test.YtkjmhjeebamehaaRowL
import Derived.Test.YtkjmhjeebamehaaHsmall
namespace Go.Proofs.Ytkjmhjeebamehaa
open Go.RowKit

theorem mostF_low {vars : Int} {c : Cl} (hc : c.2.2 ≤ 2) : ∀ (l : List At) (s : Int), l.all (atB vars) = true → s ≤ 2 → mostF s c l ≤ 2
  | [], _, _, h => h
  | x :: r, s, h, hs => by
    simp only [List.all_cons, Bool.and_eq_true] at h
    have a2 := atB_of h.1
    exact mostF_low hc r (max s (c.2.2 - x.2)) h.2 (by omega)
theorem mostD_low {vars : Int} : ∀ (l : List Cl) (s : Int), l.all (clB vars) = true → (∀ d ∈ l, d.2.2 ≤ 2) → s ≤ 2 → mostD s l ≤ 2
  | [], _, _, _, h => h
  | c :: r, s, h, ht, hs => by
    simp only [List.all_cons, Bool.and_eq_true] at h
    obtain ⟨_, _, a3⟩ := clB_of h.1
    exact mostD_low r _ h.2 (fun d hd => ht d (by simp [hd])) (mostF_low (ht c (by simp)) c.1 s a3 hs)
theorem zeros_ok {V : Nat} {l : List Cl} (hr : hrB V l = true) : brkOk (zerosJ V) l = true := brkOk_mk hr (zerosJ_len V) (nats_of fun i => by rw [zerosJ_at]; omega)
/-- From the values that From told: the same. -/
theorem from_again {V : Nat} {l : List Cl} {x y : List Int} {t : Bool} {h : Int} (hr : hrB V l = true) (hl : x.length = V) (hn : natsB x = true) (hx : maxL x ≤ 1000) (hm : ModJ l x) (hf : FmIs l x y t h) : y = x ∧ t = true ∧ h = 0 := by
  have hk := brkOk_mk hr hl hn
  rcases hf with ⟨_, _, ⟨n, ht⟩, rfl⟩ | ⟨_, h1, _⟩ | ⟨h1, _⟩
  · rcases fm_cases hk hx ht with ⟨h1, h2, _⟩ | ⟨_, _, h3⟩
    · exact ⟨(h2.2.2 x (LeM.refl x) hm).anti h2.1, h1, rfl⟩
    · exact absurd hm (h3 x (LeM.refl x))
  · exact absurd hx h1
  · rw [hk] at h1; cases h1
theorem from_facts {V : Nat} {l : List Cl} {m a b x : List Int} {is also so : Bool} {n f g : Int} (hV1 : 1 ≤ V) (hV2 : V ≤ 8) (hr : hrB V l = true) (hto : ∀ d ∈ l, d.2.2 ≤ 2) (hl : m.length = V) (hm : LowM m)
    (ha : TellJ l (zerosJ V) (((V : Int) - 1) * mostD 0 l) a is n) (hb : FmIs l (zerosJ V) b also f) (hx : FmIs l m x so g) :
    b = a ∧ also = is ∧ f = 0 ∧ so = is ∧ g = 0 ∧ (is = false → x = []) ∧ (is = true → LeastJ l m x ∧ x.length = V ∧ natsB x = true ∧ maxL x ≤ 1000) := by
  have hz : maxL (zerosJ V) ≤ 1000 := by rw [maxL_zeros hV1]; omega
  have hmx := hm.most (by omega)
  have hk := brkOk_mk hr hl hm.nats
  obtain ⟨_, _, _, v4⟩ := hrB_of hr
  have hD := mostD_low l 0 v4 hto (by omega)
  obtain ⟨rfl, rfl, rfl⟩ : b = a ∧ also = is ∧ f = 0 := by
    rcases hb with ⟨_, _, ⟨z, ht⟩, rfl⟩ | ⟨_, h1, _⟩ | ⟨h1, _⟩
    · rw [hiJ_zeros hV1] at ht
      obtain ⟨e1, e2, _⟩ := ht.uniq ha
      exact ⟨e1, e2, rfl⟩
    · exact absurd hz h1
    · rw [zeros_ok hr] at h1; cases h1
  obtain ⟨⟨z, ht⟩, rfl⟩ : (∃ z, TellJ l m (hiJ m l) x so z) ∧ g = 0 := by
    rcases hx with ⟨_, _, h, rfl⟩ | ⟨_, h1, _⟩ | ⟨h1, _⟩
    · exact ⟨h, rfl⟩
    · exact absurd hmx h1
    · rw [hk] at h1; cases h1
  have hbase := sv_cases hr ha
  have hfrom := fm_cases hk hmx ht
  have hso : so = also := by
    rcases hbase with ⟨h1, h2, h3, _⟩ | ⟨h1, _, h2⟩
    · rcases hfrom with ⟨k1, _⟩ | ⟨_, _, k2⟩
      · rw [h1, k1]
      · obtain ⟨q, q1, q2⟩ := mod_more (l := l) (m := m) (by rw [hl]; exact RightJ.of v4) (by rw [h3, hl]) h2.2.1
        exact absurd q2 (k2 q q1)
    · rcases hfrom with ⟨k1, k2, _⟩ | ⟨k1, _⟩
      · exact absurd k2.2.1 (h2 x ((hm.le hl).trans k2.1))
      · rw [h1, k1]
  refine ⟨rfl, rfl, rfl, hso, rfl, fun h => ?_, fun h => ?_⟩
  · rcases hfrom with ⟨k1, _⟩ | ⟨_, k2, _⟩
    · rw [hso, h] at k1; cases k1
    · exact k2
  · rcases hfrom with ⟨_, k2, k3, k4, k5⟩ | ⟨k1, _⟩
    · refine ⟨k2, k3.trans hl, k5, ?_⟩
      have h1 := (maxL_bd (l := x) (X := hiJ m l) (by omega) k4).2
      have h2 : maxL m ≤ 11 := (maxL_bd (X := 11) (by omega) (fun i => by have := hm i; omega)).2
      have h3 : ((m.length : Int) - 1) * mostD 0 l ≤ 14 := by
        have e := Int.mul_le_mul_of_nonneg_left hD (show (0 : Int) ≤ (m.length : Int) - 1 by omega)
        omega
      unfold hiJ at h1
      omega
    · rw [hso, h] at k1; cases k1
/-- Two rows of the same numbers. -/
theorem ints_eq {w1 w2 W : World} {zs : List Int} {x y : Option Addr} {c d : Nat} (h : RowL zs x c w1) (hb : Below w1.heap.size w1 W) (k : RowL zs y d w2) (kb : Below w2.heap.size w2 W) (n : Nat) (hn : zs.length = n) : Calls Try.prog 17 #[.slice x n c, .slice y n d] W fun e w' => e = .returned (.bool true) ∧ Below W.heap.size W w' := by
  subst hn
  obtain ⟨h1, h2⟩ := h _ hb
  obtain ⟨k1, k2⟩ := k _ kb
  have := ints8_any zs zs x y c d W.heap.size W (h1.mono h2) (k1.mono k2) (Nat.le_refl _)
  rwa [show eqI zs zs = true from decide_eq_true rfl] at this
/-- A cell of a row, later. -/
theorem RowL.cell {w1 W : World} {zs : List Int} {x : Option Addr} {c i : Nat} (h : RowL zs x c w1) (hb : Below w1.heap.size w1 W) (hi : i < zs.length) : ∃ g o, x = some ⟨g, o, none⟩ ∧ W.cell? ⟨g, o + i, none⟩ = some (.int .i64 (zs.getD i 0)) := by
  obtain ⟨g, o, e, _, hc⟩ := ((h W hb).1).some (by omega)
  exact ⟨g, o, e, hc i hi⟩
/-- A cell of a model that the law made, later. -/
theorem num_cell {w1 W : World} {m : List Int} {g i cap : Nat} (h : IntsIn w1 (· < w1.heap.size) m (some ⟨g, 0, none⟩) cap) (hb : Below w1.heap.size w1 W) (hi : i < m.length) : W.cell? ⟨g, i, none⟩ = some (.int .i64 (m.getD i 0)) := by
  obtain ⟨g2, o, e, _, hc⟩ := (h.below hb).some (by omega)
  cases e
  have := hc i hi
  rwa [Nat.zero_add] at this
end Go.Proofs.Ytkjmhjeebamehaa
