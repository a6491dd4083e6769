/- The contract of the program's Names: the variables that clauses name, or the refusal; how arrays of sixteen bools are compared. Condition: the clauses lie in memory. -/
import Derived.Test.YtkadbllabeobeaaHnamed
import Derived.Test.YtkadbllabeobeaaHrow
import Derived.Test.YtkadbllabeobeaaWpl
import Derived.ChangeKeysEq
namespace Go.Proofs.Ytkadbllabeobeaa
open Go.RowKit

def namesE (vars : Int) (l : List Cl) : Int := if hrB vars l = true then 0 else 1
def namesR (vars : Int) (l : List Cl) : List Int := if hrB vars l = true then nmTo l vars.toNat else []

/-- Is none of the sixteen left? -/
def none16 (f : Nat → Bool) : Bool := (List.range 16).all fun i => !f i
theorem undVars : Try.prog.underlying 53 = some (.array 16 4) := by kernel_rfl
theorem infoBool : (Try.prog.info? 4).map (fun i => (i.zero, i.size, i.bytes)) = some (some (.bool false), 1, 1) := by kernel_rfl
theorem cellsBool : Try.prog.cellsOf 4 = 1 := by kernel_rfl
theorem plainBool : Try.prog.plainKey 4 = true := by kernel_rfl
theorem eq_bool (d : Nat) (a b : Bool) (w : World) : (Op.equalIn (d + 1) 4 (.bool a) (.bool b)).run Try.prog w = .ok (a == b) w := by
  simp [Op.equalIn, run_underlying Try.underlying4]
theorem run_items16 (d : Nat) (f : Nat → Bool) (w : World) : ∀ is : List Nat, (∀ i ∈ is, i < 16) → (Op.eqItems (d + 1) 4 1 (arr16 f) (arr16 fun _ => false) is).run Try.prog w = .ok (is.all fun i => !f i) w
  | [], _ => by simp [Op.eqItems]
  | i :: is, h => by
    have hi : i < 16 := h i (by simp)
    have p1 : (part 4 (arr16 f) (i * 1)).run Try.prog w = .ok (.bool (f i)) w := run_part_plain w plainBool (by rw [Nat.mul_one]; exact arr16_at f i hi)
    have p2 : (part 4 (arr16 fun _ => false) (i * 1)).run Try.prog w = .ok (.bool false) w := run_part_plain w plainBool (by rw [Nat.mul_one]; exact arr16_at _ i hi)
    have ih := run_items16 d f w is (fun j hj => h j (by simp [hj]))
    simp only [Op.eqItems, Sem.run_bind, p1, p2, Result.andThen_ok, eq_bool]
    cases hf : f i
    · simpa [hf] using ih
    · simp [hf]
theorem run_equal16 (w : World) (f : Nat → Bool) : (Op.equal 53 (.agg (arr16 f)) (.agg (arr16 fun _ => false))).run Try.prog w = .ok (none16 f) w := by
  obtain ⟨i0, hi, _⟩ := info_parts infoBool
  unfold Op.equal Op.maxDepth
  rw [run_equalIn_array w 9999 _ _ undVars hi, cellsBool, run_items16 9998 f w _ (fun i hi => by simpa using hi)]
  rfl

theorem none16_at {f : Nat → Bool} (h : none16 f = true) (i : Nat) (hi : i < 16) : f i = false := by
  have := List.all_eq_true.1 h i (by simpa using hi)
  simpa using this
theorem none16_no {f : Nat → Bool} (h : none16 f = false) : ∃ i, i < 16 ∧ f i = true := by
  have h2 : ¬ (∀ i ∈ List.range 16, (!f i) = true) := fun e => by rw [none16, List.all_eq_true.2 e] at h; cases h
  by_cases e : ∃ i, i < 16 ∧ f i = true
  · exact e
  · refine absurd (fun i hi => ?_) h2
    cases hf : f i
    · rfl
    · exact absurd ⟨i, by simpa using hi, hf⟩ e
/-- What is left, before variable v. -/
def LeftAt (l : List Cl) (v : Nat) (f : Nat → Bool) : Prop := ∀ i : Nat, i < 16 → f i = (nmB (i : Int) l && decide (v ≤ i))
theorem LeftAt.lt {l : List Cl} {v : Nat} {f : Nat → Bool} (h : LeftAt l v f) (hn : none16 f = false) : v < 16 := by
  obtain ⟨i, hi, hf⟩ := none16_no hn
  rw [h i hi] at hf
  simp at hf
  omega
theorem LeftAt.at {l : List Cl} {v : Nat} {f : Nat → Bool} (h : LeftAt l v f) (hv : v < 16) : f v = nmB (v : Int) l := by rw [h v hv]; simp
theorem LeftAt.off {l : List Cl} {v : Nat} {f : Nat → Bool} (h : LeftAt l v f) : LeftAt l (v + 1) (fun i => if i = v then false else f i) := fun i hi => by
  by_cases e : i = v
  · subst e; simp
  · show (if i = v then false else f i) = _
    rw [if_neg e, h i hi]
    by_cases e2 : v ≤ i
    · simp [e2, show v + 1 ≤ i by omega]
    · simp [e2, show ¬ v + 1 ≤ i by omega]
theorem LeftAt.same {l : List Cl} {v : Nat} {f : Nat → Bool} (h : LeftAt l v f) (hv : v < 16) (hf : f v = false) : LeftAt l (v + 1) f := fun i hi => by
  by_cases e : i = v
  · subst e; simp [hf]
  · rw [h i hi]
    by_cases e2 : v ≤ i
    · simp [e2, show v + 1 ≤ i by omega]
    · simp [e2, show ¬ v + 1 ≤ i by omega]
theorem LeftAt.all {vars : Int} {l : List Cl} {v : Nat} {f : Nat → Bool} (h : LeftAt l v f) (hc : l.all (clB vars) = true) (hv : 1 ≤ vars) (hv2 : vars ≤ 16) (hn : none16 f = true) : nmTo l v = nmTo l vars.toNat := by
  refine nmTo_end (fun i hi => ?_) (fun i hi => ?_)
  · cases e : nmB (i : Int) l with
    | false => rfl
    | true =>
      have h1 := nmB_lt hc e
      have h2 := none16_at hn i (by omega)
      rw [h i (by omega), e] at h2
      simp at h2
      omega
  · cases e : nmB (i : Int) l with
    | false => rfl
    | true => have h1 := nmB_lt hc e; omega
theorem IOwn.moreAt {w wr : World} {base X : Nat} {v : Value} {zs : List Int} {cs : Array Value} {t : TypeId} (h : IOwn wr base v zs) (hX : wr.heap[X]? = some (.cells cs t (0, 0))) (hXb : X < base) (hb : Below w.heap.size w wr) (hbase : base ≤ wr.heap.size) (hwb : w.heap.size ≤ base) (ty : TypeId) (z : Int) (hsz : zs.length ≤ 1000) :
    ∃ g c w3, Hid ((Builtin.append_ #[23, 23] ty #[v, .slice (some ⟨wr.heap.size, 0, none⟩) 1 1]).run Try.prog (wr.alloc (.cells #[.int .i64 z] 3)) = .ok (.slice (some ⟨g, 0, none⟩) (zs.length + 1) c) w3) ∧
      Hid (IOwn w3 base (.slice (some ⟨g, 0, none⟩) (zs.length + 1) c) (zs ++ [z])) ∧ Hid (Below w.heap.size w w3) ∧ Hid (w3.heap[X]? = some (.cells cs t (0, 0))) ∧ Hid (base ≤ w3.heap.size) := by
  obtain ⟨g, c, w3, hrun, h2, ht⟩ := h.push ty z (by omega) hbase
  have hlow := ht.low hbase (fun b hb => (h.lt b hb).1)
  exact ⟨g, c, w3, Lib.hid hrun, Lib.hid h2, Lib.hid (hb.trans (hlow.mono hwb)), Lib.hid ((hlow.block X hXb).trans hX), Lib.hid (Nat.le_trans hbase hlow.size)⟩

set_option maxRecDepth 100000 in
set_option maxHeartbeats 8000000 in
theorem hNames_any (vars : Int) (l : List Cl) (a : Option Addr) (cap B : Nat) (w : World) (hin : ClsIn w (· < B) l a cap) (hB : B ≤ w.heap.size) :
    Calls Try.prog 15 #[.int .i64 vars, .slice a l.length cap] w (RowPost (namesR vars l) (namesE vars l) w) := by
  have CR := Lib.hid (hRight_any vars l a cap B w hin hB)
  have HI := Lib.hid hin
  have HN : Hid (hrB vars l = false → namesR vars l = [] ∧ namesE vars l = 1) := Lib.hid (fun h => by simp [namesR, namesE, h])
  have HY : Hid (hrB vars l = true → namesR vars l = nmTo l vars.toNat ∧ namesE vars l = 0) := Lib.hid (fun h => by simp [namesR, namesE, h])
  have HC : Hid (hrB vars l = true → 1 ≤ vars ∧ vars ≤ 16 ∧ l.all (clB vars) = true) := Lib.hid (fun h => ⟨(hrB_of h).1, (hrB_of h).2.1, (hrB_of h).2.2.2⟩)
  generalize namesR vars l = R at HN HY ⊢
  generalize namesE vars l = E at HN HY ⊢
  clear hin
  cases hr : hrB vars l with
  | false =>
    obtain ⟨rfl, rfl⟩ := HN.out hr
    rw [hr] at CR
    clear hr HN HY HC
    go_enter Try.func15, Try.ntmps15
    go_wp2_with (go_at_call 16; refine CR.out.mono ?_; rintro e w1 ⟨rfl, hb1⟩)
    go_ret2
    exact RowPost.nil rfl hb1
  | true =>
    have HV := Lib.hid (HY.out hr).1
    obtain rfl := (HY.out hr).2
    rw [hr] at CR
    have HC1 := Lib.hid (HC.out hr)
    have CD := Lib.hid (fun W (h : Below w.heap.size w W) => hnamed_any vars l a cap B W (pairs_ok HC1.out.2.2) HC1.out.2.1 (HI.out.below (h.mono hB)) (Nat.le_trans hB h.size))
    have HL0 : Hid (LeftAt l 0 (fun i => nmB (i : Int) l)) := Lib.hid (fun i _ => by simp)
    generalize (fun i : Nat => nmB (i : Int) l) = f0 at CD HL0
    unfold arr16 at CD
    clear hr HN HY HC
    go_enter Try.func15, Try.ntmps15
    go_wp2_with (first | (go_at_call 16; refine CR.out.mono ?_; rintro e w1 ⟨rfl, hb1⟩) | (go_at_call 24; refine (CD.out _ hb1).mono ?_; rintro e w2 ⟨rfl, hb2⟩))
    have hX0 : (w2.alloc (.cells (arr16 f0) 53)).heap[w2.heap.size]? = some (.cells (arr16 f0) 53 (0, 0)) := heap_new _ _
    have HX0 := Lib.hid hX0
    have HB0 : Hid (Below w.heap.size w (w2.alloc (.cells (arr16 f0) 53))) := Lib.hid ((Below.step hb1 hb2 (Nat.le_refl _)).alloc (Nat.le_trans hb1.size hb2.size) _)
    have hwb : w.heap.size ≤ w2.heap.size + 1 := by have := hb1.size; have := hb2.size; omega
    have HZ0 : Hid (w2.heap.size + 1 ≤ (w2.alloc (.cells (arr16 f0) 53)).heap.size) := Lib.hid (by simp)
    clear hX0
    unfold arr16 at HX0 HB0 HZ0
    go_loopw [7, 8] (fun uv vv wr => ∃ (v : Nat) (u : Value) (f : Nat → Bool), uv = u ∧ vv = .int .i64 v ∧ v ≤ 16 ∧ Hid (LeftAt l v f) ∧ Hid (wr.heap[w2.heap.size]? = some (.cells (arr16 f) 53 (0, 0))) ∧ Hid (IOwn wr (w2.heap.size + 1) u (nmTo l v)) ∧ Hid (Below w.heap.size w wr) ∧ Hid (w2.heap.size + 1 ≤ wr.heap.size)) (fun _ vv _ => 16 - (intOf vv).toNat)
    case atStart => exact ⟨0, _, f0, rfl, rfl, by omega, HL0, HX0, Lib.hid (IOwn.nil _ _), HB0, HZ0⟩
    case round =>
      obtain ⟨v, u, f, rfl, rfl, hv, hl, hX, hown, hb, hz⟩ := hrel
      have c0 := (cell_at hX.out 0).trans (arr16_at _ 0 (by decide))
      have c1 := (cell_at hX.out 1).trans (arr16_at _ 1 (by decide))
      have c2 := (cell_at hX.out 2).trans (arr16_at _ 2 (by decide))
      have c3 := (cell_at hX.out 3).trans (arr16_at _ 3 (by decide))
      have c4 := (cell_at hX.out 4).trans (arr16_at _ 4 (by decide))
      have c5 := (cell_at hX.out 5).trans (arr16_at _ 5 (by decide))
      have c6 := (cell_at hX.out 6).trans (arr16_at _ 6 (by decide))
      have c7 := (cell_at hX.out 7).trans (arr16_at _ 7 (by decide))
      have c8 := (cell_at hX.out 8).trans (arr16_at _ 8 (by decide))
      have c9 := (cell_at hX.out 9).trans (arr16_at _ 9 (by decide))
      have c10 := (cell_at hX.out 10).trans (arr16_at _ 10 (by decide))
      have c11 := (cell_at hX.out 11).trans (arr16_at _ 11 (by decide))
      have c12 := (cell_at hX.out 12).trans (arr16_at _ 12 (by decide))
      have c13 := (cell_at hX.out 13).trans (arr16_at _ 13 (by decide))
      have c14 := (cell_at hX.out 14).trans (arr16_at _ 14 (by decide))
      have c15 := (cell_at hX.out 15).trans (arr16_at _ 15 (by decide))
      have HEQ := run_equal16 wr f
      unfold arr16 Op.equal Op.maxDepth at HEQ
      dsimp only at HEQ
      cases hnn : none16 f with
      | true =>
        rw [hnn] at HEQ
        have HALL := Lib.hid (hl.out.all HC1.out.2.2 HC1.out.1 HC1.out.2.1 hnn)
        obtain ⟨x, c, rfl⟩ := hown.out.form
        have HE : Hid (RowPost R 0 w (.returned (.tuple #[.slice x (nmTo l v).length c, .int .i64 0])) wr) := Lib.hid (by rw [HV.out, ← HALL.out]; exact ⟨x, c, rfl, hown.out.low (by omega), hb.out⟩)
        clear hown hnn
        go_wp2_with fail
        go_ret2
        exact HE.out
      | false =>
        rw [hnn] at HEQ
        have hv16 := hl.out.lt hnn
        clear hnn
        have cv := (cell_at hX.out v).trans (arr16_at f v hv16)
        have HFV := Lib.hid (hl.out.at hv16)
        have hvi : (v : Int) < 16 := by omega
        have HNS := Lib.hid (nmTo_succ l v)
        cases hfv : f v with
        | true =>
          rw [hfv] at cv
          have HNX : Hid (nmTo l (v + 1) = nmTo l v ++ [(v : Int)]) := Lib.hid (by rw [HNS.out, if_pos (by rw [← HFV.out]; exact hfv)])
          obtain ⟨g2, c2, w3, HRUN, HOW3, HB3, HX3, HZ3⟩ := hown.out.moreAt hX.out (Nat.lt_succ_self _) hb.out hz.out hwb 23 v (by have := nmTo_len l v; omega)
          have fX := free_of HX3.out v
          have cX := (cell_at HX3.out v).trans (arr16_at f v hv16)
          have HX4 : Hid ((w3.setCell ⟨w2.heap.size, v, none⟩ (.bool false)).heap[w2.heap.size]? = some (.cells (arr16 (fun i => if i = v then false else f i)) 53 (0, 0))) := Lib.hid (by rw [← arr16_set f v false hv16]; exact heap_setCell_same w3 _ v _ _ _ HX3.out)
          have HOW4 : Hid (IOwn (w3.setCell ⟨w2.heap.size, v, none⟩ (.bool false)) (w2.heap.size + 1) (.slice (some ⟨g2, 0, none⟩) ((nmTo l v).length + 1) c2) (nmTo l v ++ [(v : Int)])) := Lib.hid (HOW3.out.keep (fun g hg => Below.heap_setCell _ _ _ _ (show g ≠ w2.heap.size by have := (HOW3.out.lt g hg).1; omega)))
          have HB4 : Hid (Below w.heap.size w (w3.setCell ⟨w2.heap.size, v, none⟩ (.bool false))) := Lib.hid (HB3.out.setCell (p := ⟨w2.heap.size, v, none⟩) (show w.heap.size ≤ w2.heap.size by have := hb1.size; have := hb2.size; omega) _)
          have HZ4 : Hid (w2.heap.size + 1 ≤ (w3.setCell ⟨w2.heap.size, v, none⟩ (.bool false)).heap.size) := Lib.hid (by have := HZ3.out; simpa using this)
          have HL4 := Lib.hid hl.out.off
          clear hfv
          go_wp2_with (at_builtin; refine wpList_append_run (by rfl) _ _ _ (by rfl) (by rfl) (by rfl) HRUN.out ?_)
          go_roundw
          case rel => exact ⟨v + 1, _, _, rfl, by go_num, by omega, HL4, HX4, Lib.hid (by rw [HNX.out]; exact HOW4.out), HB4, HZ4⟩
          case measure => simp [intOf]; omega
        | false =>
          rw [hfv] at cv
          have HNX : Hid (nmTo l (v + 1) = nmTo l v) := Lib.hid (by rw [HNS.out, if_neg (by rw [← HFV.out, hfv]; decide), List.append_nil])
          have HL4 := Lib.hid (hl.out.same hv16 hfv)
          clear hfv
          go_wp2_with fail
          go_roundw
          case rel => exact ⟨v + 1, _, _, rfl, by go_num, by omega, HL4, hX, Lib.hid (by rw [HNX.out]; exact hown.out), hb, hz⟩
          case measure => simp [intOf]; omega
end Go.Proofs.Ytkadbllabeobeaa
