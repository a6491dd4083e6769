/- The contracts of the program's and the document's questions of one atom, and of whether two rows of numbers are the same. No condition but those that stand in each statement. -/
import Derived.Test.YtglggigndhbpcaaZBase
import Derived.Deep.QuietTactic
import Derived.BigQuiet
namespace Go.Proofs.Ytglggigndhbpcaa
open Go.RowKit

set_option maxHeartbeats 1000000 in
theorem hfits_any (x : At) (vars : Int) (w : World) :
    Calls Try.prog 48 #[.agg #[.int .i64 x.1, .int .i64 x.2], .int .i64 vars] w fun e w' => e = .returned (.bool (atB vars x)) ∧ w' = w.alloc (.cells #[.int .i64 x.1, .int .i64 x.2] 27) := by
  obtain ⟨v, o⟩ := x
  obtain ⟨B, hB⟩ : ∃ B, B = atB vars (v, o) := ⟨_, rfl⟩
  rw [← hB]
  by_cases h1 : 0 ≤ v
  · by_cases h2 : v < vars
    · by_cases h3 : 0 ≤ o
      · by_cases h4 : o ≤ 1000
        · have HB : Hid (B = true) := Lib.hid (by rw [hB]; simp [atB, h1, h2, h3, h4])
          clear hB
          have d1 : decide (0 ≤ v) = true := decide_eq_true h1
          have d2 : decide (v < vars) = true := decide_eq_true h2
          have d3 : decide (0 ≤ o) = true := decide_eq_true h3
          have d4 : decide (o ≤ 1000) = true := decide_eq_true h4
          go_enter Try.func48, Try.ntmps48
          go_wp2_with fail
          go_ret
          exact ⟨by rw [HB.out]; rfl, rfl⟩
        · have HB : Hid (B = false) := Lib.hid (by rw [hB]; simp [atB, h4])
          clear hB
          have d1 : decide (0 ≤ v) = true := decide_eq_true h1
          have d2 : decide (v < vars) = true := decide_eq_true h2
          have d3 : decide (0 ≤ o) = true := decide_eq_true h3
          have d4 : decide (o ≤ 1000) = false := decide_eq_false h4
          go_enter Try.func48, Try.ntmps48
          go_wp2_with fail
          go_ret
          exact ⟨by rw [HB.out]; rfl, rfl⟩
      · have HB : Hid (B = false) := Lib.hid (by rw [hB]; simp [atB, h3])
        clear hB
        have d1 : decide (0 ≤ v) = true := decide_eq_true h1
        have d2 : decide (v < vars) = true := decide_eq_true h2
        have d3 : decide (0 ≤ o) = false := decide_eq_false h3
        go_enter Try.func48, Try.ntmps48
        go_wp2_with fail
        go_ret
        exact ⟨by rw [HB.out]; rfl, rfl⟩
    · have HB : Hid (B = false) := Lib.hid (by rw [hB]; simp [atB, h2])
      clear hB
      have d1 : decide (0 ≤ v) = true := decide_eq_true h1
      have d2 : decide (v < vars) = false := decide_eq_false h2
      go_enter Try.func48, Try.ntmps48
      go_wp2_with fail
      go_ret
      exact ⟨by rw [HB.out]; rfl, rfl⟩
  · have HB : Hid (B = false) := Lib.hid (by rw [hB]; simp [atB, h1])
    clear hB
    have d1 : decide (0 ≤ v) = false := decide_eq_false h1
    go_enter Try.func48, Try.ntmps48
    go_wp2_with fail
    go_ret
    exact ⟨by rw [HB.out]; rfl, rfl⟩
set_option maxHeartbeats 1000000 in
theorem r8atom_any (x : At) (vars : Int) (w : World) :
    Calls Try.prog 52 #[.agg #[.int .i64 x.1, .int .i64 x.2], .int .i64 vars] w fun e w' => e = .returned (.bool (atB vars x)) ∧ w' = w.alloc (.cells #[.int .i64 x.1, .int .i64 x.2] 27) := by
  obtain ⟨v, o⟩ := x
  obtain ⟨B, hB⟩ : ∃ B, B = atB vars (v, o) := ⟨_, rfl⟩
  rw [← hB]
  by_cases h1 : 0 ≤ v
  · by_cases h2 : v < vars
    · by_cases h3 : 0 ≤ o
      · by_cases h4 : o ≤ 1000
        · have HB : Hid (B = true) := Lib.hid (by rw [hB]; simp [atB, h1, h2, h3, h4])
          clear hB
          have d1 : decide (0 ≤ v) = true := decide_eq_true h1
          have d2 : decide (v < vars) = true := decide_eq_true h2
          have d3 : decide (0 ≤ o) = true := decide_eq_true h3
          have d4 : decide (o ≤ 1000) = true := decide_eq_true h4
          go_enter Try.func52, Try.ntmps52
          go_wp2_with fail
          go_ret
          exact ⟨by rw [HB.out]; rfl, rfl⟩
        · have HB : Hid (B = false) := Lib.hid (by rw [hB]; simp [atB, h4])
          clear hB
          have d1 : decide (0 ≤ v) = true := decide_eq_true h1
          have d2 : decide (v < vars) = true := decide_eq_true h2
          have d3 : decide (0 ≤ o) = true := decide_eq_true h3
          have d4 : decide (o ≤ 1000) = false := decide_eq_false h4
          go_enter Try.func52, Try.ntmps52
          go_wp2_with fail
          go_ret
          exact ⟨by rw [HB.out]; rfl, rfl⟩
      · have HB : Hid (B = false) := Lib.hid (by rw [hB]; simp [atB, h3])
        clear hB
        have d1 : decide (0 ≤ v) = true := decide_eq_true h1
        have d2 : decide (v < vars) = true := decide_eq_true h2
        have d3 : decide (0 ≤ o) = false := decide_eq_false h3
        go_enter Try.func52, Try.ntmps52
        go_wp2_with fail
        go_ret
        exact ⟨by rw [HB.out]; rfl, rfl⟩
    · have HB : Hid (B = false) := Lib.hid (by rw [hB]; simp [atB, h2])
      clear hB
      have d1 : decide (0 ≤ v) = true := decide_eq_true h1
      have d2 : decide (v < vars) = false := decide_eq_false h2
      go_enter Try.func52, Try.ntmps52
      go_wp2_with fail
      go_ret
      exact ⟨by rw [HB.out]; rfl, rfl⟩
  · have HB : Hid (B = false) := Lib.hid (by rw [hB]; simp [atB, h1])
    clear hB
    have d1 : decide (0 ≤ v) = false := decide_eq_false h1
    go_enter Try.func52, Try.ntmps52
    go_wp2_with fail
    go_ret
    exact ⟨by rw [HB.out]; rfl, rfl⟩
theorem up_to {p : Nat → Prop} {q : Nat} (h : ∀ k, k < q → p k) (hq : p q) : ∀ k, k < q + 1 → p k := fun k hk => by
  rcases Nat.lt_or_ge k q with h1 | h1
  · exact h k h1
  · obtain rfl : k = q := by omega
    exact hq
/-- Two rows of numbers: are they the same? -/
def eqI (a b : List Int) : Bool := decide (a = b)
theorem eqI_len {a b : List Int} (h : a.length ≠ b.length) : eqI a b = false := decide_eq_false (fun e => h (by rw [e]))
theorem eqI_ne {a b : List Int} {k : Nat} (h : a.getD k 0 ≠ b.getD k 0) : eqI a b = false := decide_eq_false (fun e => h (by rw [e]))
theorem eqI_all {a b : List Int} (hl : a.length = b.length) (h : ∀ k, k < a.length → a.getD k 0 = b.getD k 0) : eqI a b = true := by
  refine decide_eq_true (List.ext_getElem hl fun i h1 h2 => ?_)
  have := h i h1
  simpa [List.getD_eq_getElem?_getD, h1, h2] using this
set_option maxRecDepth 100000 in
set_option maxHeartbeats 1000000 in
theorem ints8_any (l m : List Int) (a b : Option Addr) (ca cb B : Nat) (w : World) (h1 : IntsIn w (· < B) l a ca) (h2 : IntsIn w (· < B) m b cb) (hB : B ≤ w.heap.size) :
    Calls Try.prog 22 #[.slice a l.length ca, .slice b m.length cb] w fun e w' => e = .returned (.bool (eqI l m)) ∧ Below w.heap.size w w' := by
  have hlen := h1.len
  have hlen2 := h2.len
  have H1 := Lib.hid h1
  have H2 := Lib.hid h2
  clear h1 h2
  by_cases hl : l.length = m.length
  · have HL := Lib.hid hl
    have HA := Lib.hid (fun h => eqI_all hl h)
    have HN := Lib.hid (fun k (h : l.getD k 0 ≠ m.getD k 0) => eqI_ne h)
    generalize eqI l m = V at HA HN ⊢
    have d0 : ((m.length : Int) != (m.length : Int)) = false := by simp
    rw [hl]
    clear hl hlen
    go_enter Try.func22, Try.ntmps22
    go_wp2_with fail
    go_loopw [5] (fun qv wr => ∃ q : Nat, qv = .int .i64 q ∧ q ≤ m.length ∧ Hid (∀ k, k < q → l.getD k 0 = m.getD k 0) ∧ Below w.heap.size w wr) (fun qv _ => m.length - (intOf qv).toNat)
    case atStart => exact ⟨0, rfl, Nat.zero_le _, Lib.hid (fun k h => absurd h (by omega)), Below.refl _ _⟩
    case round =>
      obtain ⟨q, rfl, hq, hp, hb⟩ := hrel
      by_cases hql : q < m.length
      · have hq0 : (0 : Int) ≤ (q : Int) := by omega
        have hql' : (q : Int) < (m.length : Int) := by omega
        obtain ⟨g, o, rfl, hg, hc⟩ := H1.out.some (by have := HL.out; omega)
        obtain ⟨g2, o2, rfl, hg2, hc2⟩ := H2.out.some (by omega)
        have e0 := (bcell hb g (o + q) (by omega)).trans (hc q (by have := HL.out; omega))
        have e1 := (bcell hb g2 (o2 + q) (by omega)).trans (hc2 q hql)
        have HBN : Hid (∀ n, Below w.heap.size w (wr.drewN n)) := Lib.hid (fun n => Below.draws hb n)
        clear hc hc2
        by_cases he : l.getD q 0 = m.getD q 0
        · have HE := Lib.hid he
          rw [he] at e0
          clear he
          generalize m.getD q 0 = z at e0 e1
          have dz : (z != z) = false := by simp
          go_wp2_with fail
          go_quiet (fail)
          go_wp2_with fail
          go_roundw
          case rel => exact ⟨q + 1, by go_num, by omega, Lib.hid (up_to (p := fun k => l.getD k 0 = m.getD k 0) hp.out HE.out), HBN.out _⟩
          case measure => simp [intOf]; omega
        · have HE := Lib.hid (HN.out q he)
          have dz : (l.getD q 0 != m.getD q 0) = true := by simpa using he
          generalize m.getD q 0 = z at e0 e1 dz
          generalize l.getD q 0 = z2 at e0 e1 dz
          clear he
          go_wp2_with fail
          go_quiet (fail)
          go_wp2_with fail
          go_ret
          exact ⟨by rw [HE.out]; rfl, HBN.out _⟩
      · have HE := Lib.hid (HA.out (fun k hk => hp.out k (by have := HL.out; omega)))
        go_wp2_with fail
        go_ret
        exact ⟨by rw [HE.out]; rfl, hb⟩
  · have HE := Lib.hid (eqI_len hl)
    have d0 : ((l.length : Int) != (m.length : Int)) = true := by simp; omega
    generalize eqI l m = V at HE ⊢
    clear hl
    go_enter Try.func22, Try.ntmps22
    go_wp2_with fail
    go_ret
    exact ⟨by rw [HE.out]; rfl, Below.refl _ _⟩
end Go.Proofs.Ytglggigndhbpcaa
/- The contract of the program's comparison of two rows of numbers. Condition: the rows lie in memory. -/
namespace Go.Proofs.Ytglggigndhbpcaa
open Go.RowKit

set_option maxRecDepth 100000 in
set_option maxHeartbeats 4000000 in
theorem sequal_any (l m : List Int) (a b : Option Addr) (ca cb B : Nat) (w : World) (h1 : IntsIn w (· < B) l a ca) (h2 : IntsIn w (· < B) m b cb) (hB : B ≤ w.heap.size) :
    Calls Try.prog 39 #[.slice a l.length ca, .slice b m.length cb] w fun e w' => e = .returned (.bool (eqI l m)) ∧ Below w.heap.size w w' := by
  have hlen := h1.len
  have hlen2 := h2.len
  have H1 := Lib.hid h1
  have H2 := Lib.hid h2
  have HL1 : Hid (l.length = l.length) := Lib.hid rfl
  have HL2 : Hid (m.length = m.length) := Lib.hid rfl
  have HY := Lib.hid (fun (h : l.length = m.length) h2 => eqI_all h h2)
  have HN := Lib.hid (fun k (h : l.getD k 0 ≠ m.getD k 0) => eqI_ne h)
  have HD := Lib.hid (fun (h : l.length ≠ m.length) => eqI_len h)
  clear h1 h2
  generalize eqI l m = V at HY HN HD ⊢
  generalize hn : l.length = n at hlen HL1 HY HD ⊢
  generalize hk : m.length = k at hlen2 HL2 HY HD ⊢
  clear HL1 HL2
  have HN1 := Lib.hid hn
  have HK1 := Lib.hid hk
  clear hn hk
  by_cases hl : n = k
  · subst hl
    have HA := Lib.hid (HY.out rfl)
    have d0 : ((n : Int) != (n : Int)) = false := by simp
    clear HY HD
    go_enter Try.func39, Try.ntmps39
    go_wp2_with fail
    go_loopw [13] (fun qv wr => ∃ q : Nat, qv = .int .i64 q ∧ q ≤ n ∧ Hid (∀ k, k < q → l.getD k 0 = m.getD k 0) ∧ Below w.heap.size w wr) (fun qv _ => n - (intOf qv).toNat)
    case atStart => exact ⟨0, rfl, Nat.zero_le _, Lib.hid (fun k h => absurd h (by omega)), Below.refl _ _⟩
    case round =>
      obtain ⟨q, rfl, hq, hp, hb⟩ := hrel
      by_cases hql : q < n
      · have hq0 : (0 : Int) ≤ (q : Int) := by omega
        have hql' : (q : Int) < (n : Int) := by omega
        obtain ⟨g, o, rfl, hg, hc⟩ := H1.out.some (by have := HN1.out; omega)
        obtain ⟨g2, o2, rfl, hg2, hc2⟩ := H2.out.some (by have := HK1.out; omega)
        have e0 := (bcell hb g (o + q) (by omega)).trans (hc q (by have := HN1.out; omega))
        have e1 := (bcell hb g2 (o2 + q) (by omega)).trans (hc2 q (by have := HK1.out; omega))
        have HBN : Hid (∀ n, Below w.heap.size w (wr.drewN n)) := Lib.hid (fun n => Below.draws hb n)
        clear hc hc2
        by_cases he : l.getD q 0 = m.getD q 0
        · have HE := Lib.hid he
          rw [he] at e0
          clear he
          generalize m.getD q 0 = z at e0 e1
          have dz : (z != z) = false := by simp
          go_wp2_with fail
          go_quiet (fail)
          go_wp2_with fail
          go_roundw
          case rel => exact ⟨q + 1, by go_num, by omega, Lib.hid (up_to (p := fun k => l.getD k 0 = m.getD k 0) hp.out HE.out), HBN.out _⟩
          case measure => simp [intOf]; omega
        · have HE := Lib.hid (HN.out q he)
          have dz : (l.getD q 0 != m.getD q 0) = true := by simpa using he
          generalize m.getD q 0 = z at e0 e1 dz
          generalize l.getD q 0 = z2 at e0 e1 dz
          clear he
          go_wp2_with fail
          go_quiet (fail)
          go_wp2_with fail
          go_ret
          exact ⟨by rw [HE.out]; rfl, HBN.out _⟩
      · have HE := Lib.hid (HA.out (fun k hk => hp.out k (by have := HN1.out; omega)))
        go_wp2_with fail
        go_ret
        exact ⟨by rw [HE.out]; rfl, hb⟩
  · have HE := Lib.hid (HD.out hl)
    have d0 : ((n : Int) != (k : Int)) = true := by simp; omega
    clear hl HY HD HN
    go_enter Try.func39, Try.ntmps39
    go_wp2_with fail
    go_ret
    exact ⟨by rw [HE.out]; rfl, Below.refl _ _⟩
end Go.Proofs.Ytglggigndhbpcaa
