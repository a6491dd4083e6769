/- A row of numbers of the call's own: what lies in memory, and what an append does. No condition but those that stand in each statement. -/
import Derived.Test.YtcnhfoppfihhiaaTree
import Derived.Maps.AppendAt
import Derived.RangeFuncBox
import Derived.Test.YtcnhfoppfihhiaaNspec
import Derived.Test.YtcnhfoppfihhiaaCell
import Derived.Test.YtcnhfoppfihhiaaWpl
import Derived.Deep.QuietTactic
import Derived.BigQuiet
import Derived.IntWalk
import Derived.Test.YtcnhfoppfihhiaaSsub
import Derived.Test.YtcnhfoppfihhiaaQmath
import Derived.Deep.CutBlock
import Derived.Test.YtcnhfoppfihhiaaTlf
import Derived.Test.YtcnhfoppfihhiaaRow
import Derived.Deep.RegionHeld3
namespace Go.Proofs.Ytcnhfoppfihhiaa
open Go.RowKit

/-- A row of numbers of the call's own. -/
def IOwn (w : World) (base : Nat) (v : Value) (zs : List Int) : Prop := w.ownsRow base 3 1 v zs.length (zs.map (Value.int .i64))
theorem infoInt : (Try.prog.info? 3).map (fun i => (i.zero, i.size, i.bytes)) = some (some (.int .i64 0), 1, 8) := by kernel_rfl
theorem IOwn.nil (w : World) (base : Nat) : IOwn w base (.slice none 0 0) [] := World.ownsRow_nil w base _ _
theorem IOwn.form {w : World} {base : Nat} {v : Value} {zs : List Int} (h : IOwn w base v zs) : ∃ x c, v = .slice x zs.length c := by
  rcases h.2 with ⟨rfl, h0⟩ | ⟨g, cap, cur, rfl, _⟩
  · exact ⟨none, 0, by rw [h0]⟩
  · exact ⟨_, _, rfl⟩
theorem IOwn.at {w : World} {base : Nat} {v : Value} {zs : List Int} (h : IOwn w base v zs) {i : Nat} (hi : i < zs.length) : ∃ g c, v = .slice (some ⟨g, 0, none⟩) zs.length c ∧ base ≤ g ∧ g < w.heap.size ∧ w.cell? ⟨g, i, none⟩ = some (.int .i64 (zs.getD i 0)) := by
  rcases h.2 with ⟨rfl, h0⟩ | ⟨g, cap, cur, rfl, hb, hh, _⟩
  · omega
  · refine ⟨g, cap, rfl, hb, lt_of_block hh, ?_⟩
    rw [World.ownsRow.cellAt h i (by omega)]
    simp [List.getD_eq_getElem?_getD, hi]
theorem IOwn.low {w : World} {base base' : Nat} {v : Value} {zs : List Int} (h : IOwn w base v zs) (hb : base' ≤ base) : IOwn w base' v zs := by
  refine ⟨h.1, ?_⟩
  rcases h.2 with h | ⟨g, cap, cur, h1, h2, h3⟩
  · exact .inl h
  · exact .inr ⟨g, cap, cur, h1, by omega, h3⟩
/-- THE APPEND of a number. -/
theorem IOwn.append {w : World} {base : Nat} {v : Value} {zs : List Int} (h : IOwn w base v zs) (ty : TypeId) (z : Int) (hsz : zs.length ≤ 1000000) (hbase : base ≤ w.heap.size) :
    ∃ v' w', (Builtin.append_ #[45, 45] ty #[v, .slice (some ⟨w.heap.size, 0, none⟩) 1 1]).run Try.prog (w.alloc (.cells #[.int .i64 z] 3)) = .ok v' w' ∧ IOwn w' base v' (zs ++ [z]) ∧ (w.alloc (.cells #[.int .i64 z] 3)).grownBy w' v.ownBlock ∧ (v'.ownBlock = v.ownBlock ∨ v'.ownBlock = some (w.heap.size + 1)) := by
  obtain ⟨i0, hi, hz0, hz1, hz2⟩ := info_parts infoInt
  obtain ⟨v', w', hrun, h2, h3, _, h5⟩ := run_append_own_at (P := Try.prog) _ base 45 ty 3 i0 _ 1 8 Try.underlying45 hi hz0 hz1 hz2 rfl (by omega) v zs.length _ (World.ownsRow.alloc h _) ⟨w.heap.size, 0, none⟩ 1 1 [.int .i64 z] rfl (cell_one_new _ _ _) (by simp [Value.oneCell']) (by unfold maxLen; omega) (by omega) (by simp; omega)
  refine ⟨v', w', hrun, ?_, h3, by simpa using h5⟩
  unfold IOwn
  rw [List.length_append, List.map_append]
  exact h2
theorem IOwn.kept {w w' : World} {base : Nat} {v : Value} {zs : List Int} {row : Option Nat} (h : IOwn w base v zs) (hg : w.grownBy w' row) (hne : v.ownBlock = none ∨ v.ownBlock ≠ row) : IOwn w' base v zs := World.ownsRow.kept h hg hne
theorem IOwn.drew {w : World} {base : Nat} {v : Value} {zs : List Int} (h : IOwn w base v zs) (m : Nat) : IOwn (w.drewN m) base v zs := h
theorem IOwn.alloc {w : World} {base : Nat} {v : Value} {zs : List Int} (h : IOwn w base v zs) (o : Obj) : IOwn (w.alloc o) base v zs := World.ownsRow.alloc h o
theorem IOwn.lt {w : World} {base : Nat} {v : Value} {zs : List Int} (h : IOwn w base v zs) : ∀ g, v.ownBlock = some g → base ≤ g ∧ g < w.heap.size := fun g hg => World.ownsRow.lt h g hg
/-- The row lies there still where its own block does. -/
theorem IOwn.keep {w w' : World} {base : Nat} {v : Value} {zs : List Int} (h : IOwn w base v zs) (hk : ∀ g, v.ownBlock = some g → w'.heap[g]? = w.heap[g]?) : IOwn w' base v zs := by
  refine ⟨h.1, ?_⟩
  rcases h.2 with hn | ⟨g, cap, cur, e, hb, hh, rest⟩
  · exact .inl hn
  · exact .inr ⟨g, cap, cur, e, hb, (hk g (by rw [e]; rfl)).trans hh, rest⟩

/-- What may have changed: the blocks of which O tells; of the blocks of which O' tells, each is one of those or new. -/
def Turn (O : Nat → Prop) (w : World) (O' : Nat → Prop) (w' : World) : Prop :=
  w'.os = w.os ∧ w'.tape = w.tape ∧ w'.output = w.output ∧ w.heap.size ≤ w'.heap.size ∧ (∀ b, b < w.heap.size → ¬ O b → w'.heap[b]? = w.heap[b]?) ∧ ∀ b, O' b → O b ∨ w.heap.size ≤ b
theorem Turn.refl (O : Nat → Prop) (w : World) : Turn O w O w := ⟨rfl, rfl, rfl, Nat.le_refl _, fun _ _ _ => rfl, fun _ h => .inl h⟩
theorem Turn.trans {O O' O'' : Nat → Prop} {w w' w'' : World} (h : Turn O w O' w') (k : Turn O' w' O'' w'') : Turn O w O'' w'' := by
  obtain ⟨h1, h2, h3, h4, h5, h6⟩ := h
  obtain ⟨k1, k2, k3, k4, k5, k6⟩ := k
  refine ⟨k1.trans h1, k2.trans h2, k3.trans h3, Nat.le_trans h4 k4, fun b hb hO => (k5 b (by omega) (fun h => ?_)).trans (h5 b hb hO), fun b hb => ?_⟩
  · rcases h6 b h with h | h
    · exact hO h
    · omega
  · rcases k6 b hb with h | h
    · exact h6 b h
    · exact .inr (by omega)
theorem Turn.below {O : Nat → Prop} {w w' : World} (h : Below w.heap.size w w') : Turn O w O w' := ⟨h.os, h.tape, h.output, h.size, fun b hb _ => h.block b hb, fun _ h => .inl h⟩
theorem Turn.alloc (O : Nat → Prop) (w : World) (o : Obj) : Turn O w O (w.alloc o) := Turn.below ((Below.refl _ _).alloc (Nat.le_refl _) o)
/-- All that lay below B lies there still, where O tells of no block below B. -/
theorem Turn.low {O O' : Nat → Prop} {w w' : World} {B : Nat} (h : Turn O w O' w') (hB : B ≤ w.heap.size) (hO : ∀ b, O b → B ≤ b) : Below B w w' := ⟨h.1, h.2.1, h.2.2.1, h.2.2.2.1, fun b hb => h.2.2.2.2.1 b (by omega) (fun e => by have := hO b e; omega)⟩
theorem Turn.weak {O O' O2 : Nat → Prop} {w w' : World} (h : Turn O w O' w') (hO : ∀ b, b < w.heap.size → O b → O2 b) : Turn O2 w (fun b => O2 b ∨ O' b) w' := ⟨h.1, h.2.1, h.2.2.1, h.2.2.2.1, fun b hb hn => h.2.2.2.2.1 b hb (fun e => hn (hO b hb e)), fun b hb => by
  rcases hb with hb | hb
  · exact .inl hb
  · rcases h.2.2.2.2.2 b hb with h1 | h1
    · rcases Nat.lt_or_ge b w.heap.size with h2 | h2
      · exact .inl (hO b h2 h1)
      · exact .inr h2
    · exact .inr h1⟩
/-- The block of a row of the call's own. -/
def OwnB (v : Value) (b : Nat) : Prop := v.ownBlock = some b
/-- THE APPEND of a number, in those words. -/
theorem IOwn.push {w : World} {base : Nat} {v : Value} {zs : List Int} (h : IOwn w base v zs) (ty : TypeId) (z : Int) (hsz : zs.length ≤ 1000000) (hbase : base ≤ w.heap.size) :
    ∃ g' cap' w', (Builtin.append_ #[45, 45] ty #[v, .slice (some ⟨w.heap.size, 0, none⟩) 1 1]).run Try.prog (w.alloc (.cells #[.int .i64 z] 3)) = .ok (.slice (some ⟨g', 0, none⟩) (zs.length + 1) cap') w' ∧ IOwn w' base (.slice (some ⟨g', 0, none⟩) (zs.length + 1) cap') (zs ++ [z]) ∧ Turn (OwnB v) w (OwnB (.slice (some ⟨g', 0, none⟩) (zs.length + 1) cap')) w' := by
  obtain ⟨v', w', hrun, h2, h3, h5⟩ := h.append ty z hsz hbase
  have h2' := h2
  unfold IOwn at h2'
  rw [List.length_append, List.length_singleton] at h2'
  obtain ⟨g', cap', rfl⟩ := ownsRow_succ h2'
  have hz := h3.size
  rw [World.size_alloc] at hz
  refine ⟨g', cap', w', hrun, h2, h3.os, h3.tape, h3.output, by omega, fun b hb hn => ?_, fun b hb => ?_⟩
  · exact (h3.block b (by rw [World.size_alloc]; omega) (fun e => hn e.symm)).trans (heap_old _ _ hb)
  · rcases h5 with h5 | h5
    · exact .inl (by unfold OwnB at hb ⊢; rw [← h5]; exact hb)
    · unfold OwnB at hb
      rw [h5] at hb
      injection hb with hb
      exact .inr (by omega)
end Go.Proofs.Ytcnhfoppfihhiaa
/- The contract of the document's own 'named': the numbers of a kind, each once, behind those that are there. No condition but that the level lies in memory and that all are not very many. -/
namespace Go.Proofs.Ytcnhfoppfihhiaa
open Go.RowKit

/-- What is answered: the row. -/
def NmPost (base : Nat) (v : Value) (zs' : List Int) (w : World) (e : Ending) (w' : World) : Prop := ∃ x c, e = .returned (.slice x zs'.length c) ∧ IOwn w' base (.slice x zs'.length c) zs' ∧ Turn (OwnB v) w (OwnB (.slice x zs'.length c)) w'

/-- What stands in memory while the Kids are gone through. -/
def NrS (K : Int) (w : World) (base _B : Nat) (f : Fo) (x : Option Addr) (c : Nat) (zs : List Int) (j : Nat) (rest : Fo) (x' : Option Addr) (c' : Nat) (zs' : List Int) (wr : World) : Prop :=
  j + rest.len = f.len ∧ nmF K rest zs' = nmF K f zs ∧ (zs'.length + rest.size ≤ 900 ∧ rest.size ≤ f.size) ∧ IOwn wr base (.slice x' zs'.length c') zs' ∧ Turn (OwnB (.slice x zs.length c)) w (OwnB (.slice x' zs'.length c')) wr
theorem NrS.low {K : Int} {w : World} {base B : Nat} {f : Fo} {x : Option Addr} {c : Nat} {zs : List Int} {j : Nat} {rest : Fo} {x' : Option Addr} {c' : Nat} {zs' : List Int} {wr : World} (h : NrS K w base B f x c zs j rest x' c' zs' wr) (hB : B ≤ base) (hb : base ≤ w.heap.size)
    (hlt : ∀ g, (Value.slice x zs.length c).ownBlock = some g → base ≤ g ∧ g < w.heap.size) : Below B w wr := h.2.2.2.2.low (by omega) (fun b hO => by have := hlt b hO; omega)

set_option maxRecDepth 100000 in
set_option maxHeartbeats 4000000 in
theorem named_any (K : Int) (s : Nat) : ∀ (f : Fo), f.size < s → ∀ (k n : Int) (a x : Option Addr) (cap c base B : Nat) (zs : List Int) (w : World), SlIn w (· < B) f a cap → B ≤ base → base ≤ w.heap.size → IOwn w base (.slice x zs.length c) zs → zs.length + f.size ≤ 900 →
    Calls Try.prog 55 #[.agg #[.int .i64 k, .int .i64 n, .slice a f.len cap], .int .i64 K, .slice x zs.length c] w (NmPost base (.slice x zs.length c) (nm1 K k n f zs) w) := by
  induction s with
  | zero => intro f hs; omega
  | succ s ih =>
    intro f hs k n a x cap c base B zs w hsl hBb hbw hown hsz
    have IH := Lib.hid ih
    clear ih
    have hlen := hsl.len
    have HSL := Lib.hid hsl
    have hbox : Below w.heap.size w (w.alloc (.cells #[.int .i64 k, .int .i64 n, .slice a f.len cap] 38)) := (Below.refl _ _).alloc (Nat.le_refl _) _
    have HO : Hid (IOwn (w.alloc (.cells #[.int .i64 k, .int .i64 n, .slice a f.len cap] 38)) base (.slice x zs.length c) zs) := Lib.hid (hown.alloc _)
    have HT : Hid (Turn (OwnB (.slice x zs.length c)) w (OwnB (.slice x zs.length c)) (w.alloc (.cells #[.int .i64 k, .int .i64 n, .slice a f.len cap] 38))) := Lib.hid (Turn.alloc _ _ _)
    have hlt := hown.lt
    have HLT := Lib.hid hlt
    have HBX := Lib.hid hbox
    clear hsl hbox hown hlt
    by_cases hk : k = K
    · subst hk
      rw [nm1_y]
      have HI : Hid (∀ q, q < zs.length → zs.getD q 0 = n → ins n zs = zs) := Lib.hid (fun q hq h => by
        unfold ins; rw [if_pos]
        rw [← h, List.getD_eq_getElem?_getD, List.getElem?_eq_getElem hq]; exact List.getElem_mem hq)
      have HJ : Hid ((∀ q, q < zs.length → zs.getD q 0 ≠ n) → ins n zs = zs ++ [n]) := Lib.hid (fun h => by
        unfold ins; rw [if_neg]
        intro hm
        obtain ⟨i, hi, he⟩ := List.mem_iff_getElem.1 hm
        exact h i hi (by rw [List.getD_eq_getElem?_getD, List.getElem?_eq_getElem hi]; exact he))
      have dk : (k == k) = true := by simp
      go_enter Try.func55, Try.ntmps55
      go_wp2_with fail
      go_loopw [7] (fun qv wr => ∃ q : Nat, qv = .int .i64 q ∧ q ≤ zs.length ∧ Hid (∀ i, i < q → zs.getD i 0 ≠ n) ∧ Below (w.heap.size + 1) (w.alloc (.cells #[.int .i64 k, .int .i64 n, .slice a f.len cap] 38)) wr) (fun qv _ => zs.length - (intOf qv).toNat)
      case atStart => exact ⟨0, rfl, Nat.zero_le _, Lib.hid (fun i hi => by omega), Below.refl _ _⟩
      case round =>
        obtain ⟨q, rfl, hq, hno, hb⟩ := hrel
        have c1 := bcell hb w.heap.size 1 (by omega)
        simp at c1
        have HOr : Hid (IOwn wr base (.slice x zs.length c) zs) := Lib.hid (HO.out.keep (fun g hg => hb.block g (by have := HLT.out g hg; omega)))
        have HTr : Hid (∀ m, Turn (OwnB (.slice x zs.length c)) w (OwnB (.slice x zs.length c)) (wr.drewN m)) := Lib.hid (fun m => HT.out.trans (Turn.below (by have := Below.draws hb m; simpa using this)))
        by_cases hql : q < zs.length
        · have hql' : (q : Int) < (zs.length : Int) := by omega
          have hq0 : (0 : Int) ≤ (q : Int) := by omega
          obtain ⟨g, c', hv, hg1, hg2, hcell⟩ := HOr.out.at hql
          obtain ⟨rfl, rfl⟩ : x = some ⟨g, 0, none⟩ ∧ c = c' := by injection hv with h1 h2 h3; exact ⟨h1, h3⟩
          clear hv
          have HIq := Lib.hid (HI.out q hql)
          have HNq : Hid (zs.getD q 0 ≠ n → ∀ i, i < q + 1 → zs.getD i 0 ≠ n) := Lib.hid (fun h i hi => by
            rcases Nat.lt_succ_iff_lt_or_eq.1 hi with h1 | h1
            · exact hno.out i h1
            · rw [h1]; exact h)
          generalize hz : zs.getD q 0 = z at hcell HIq HNq
          clear hz
          by_cases hzn : z = n
          · have dz : (z == n) = true := beq_iff_eq.2 hzn
            have HE : Hid (∀ m, NmPost base (.slice (some ⟨g, 0, none⟩) zs.length c) (ins n zs) w (.returned (.slice (some ⟨g, 0, none⟩) zs.length c)) (wr.drewN m)) := Lib.hid (fun m => by
              rw [HIq.out hzn]
              exact ⟨_, _, rfl, HOr.out.drew m, HTr.out m⟩)
            clear hzn
            go_wp2_with fail
            go_quiet (fail)
            go_wp2_with fail
            go_ret
            exact HE.out _
          · have dz : (z == n) = false := beq_eq_false_iff_ne.2 hzn
            have HNN := Lib.hid (HNq.out hzn)
            have HBN : Hid (∀ m, Below (w.heap.size + 1) (w.alloc (.cells #[.int .i64 k, .int .i64 n, .slice a f.len cap] 38)) (wr.drewN m)) := Lib.hid (fun m => Below.draws hb m)
            clear hzn
            go_wp2_with fail
            go_quiet (fail)
            go_wp2_with fail
            go_roundw
            case rel => exact ⟨q + 1, by go_num, by omega, HNN, HBN.out _⟩
            case measure => simp [intOf]; omega
        · have hql' : ¬ (q : Int) < (zs.length : Int) := by omega
          have dq : decide ((q : Int) < (zs.length : Int)) = false := by simpa using hql'
          have hins := HJ.out (fun i hi => hno.out i (by omega))
          obtain ⟨g', cap', w3, hrun, ho3, ht3⟩ := HOr.out.push 45 n (by omega) (Nat.le_trans hbw (by have := hb.size; simp at this; omega))
          have HRUN := Lib.hid hrun
          have HE : Hid (NmPost base (.slice x zs.length c) (ins n zs) w (.returned (.slice (some ⟨g', 0, none⟩) (zs.length + 1) cap')) w3) := Lib.hid (by
            rw [hins]
            exact ⟨some ⟨g', 0, none⟩, cap', by rw [List.length_append]; rfl, by rw [List.length_append]; exact ho3, by rw [List.length_append]; exact (HTr.out 0).trans ht3⟩)
          clear hrun ho3 ht3 hins
          go_wp2_with (at_builtin; refine wpList_append_run (by rfl) _ _ _ (by rfl) (by rfl) (by rfl) HRUN.out ?_)
          go_ret
          exact HE.out
    · rw [nm1_n n f zs hk]
      have dk : (k == K) = false := beq_eq_false_iff_ne.2 hk
      obtain ⟨W1, hW1⟩ : ∃ W1, (w.alloc (.cells #[.int .i64 k, .int .i64 n, .slice a f.len cap] 38)) = W1 := ⟨_, rfl⟩
      have hz1 : W1.heap.size = w.heap.size + 1 := by rw [← hW1]; simp
      have hs1 : W1.heap[w.heap.size]? = some (.cells #[.int .i64 k, .int .i64 n, .slice a f.len cap] 38 (0, 0)) := by rw [← hW1]; exact heap_new _ _
      have HZ1 := Lib.hid hz1
      have HS1 := Lib.hid hs1
      rw [hW1] at HO HT HBX
      have HW1 := Lib.hid hW1
      have HS0 : Hid (NrS K W1 base B f x c zs 0 f x c zs W1) := Lib.hid ⟨by omega, rfl, ⟨by omega, Nat.le_refl _⟩, HO.out, Turn.refl _ _⟩
      clear hW1 hz1 hs1
      go_enter Try.func55, Try.ntmps55
      go_wp2_with fail
      rw [HW1.out]
      clear HW1
      go_loopw [2, 8] (fun ov iv wr => ∃ (j : Nat) (rest : Fo) (x' : Option Addr) (c' : Nat) (zs' : List Int), ov = .slice x' zs'.length c' ∧ iv = .int .i64 j ∧ Hid (NrS K W1 base B f x c zs j rest x' c' zs' wr) ∧ Hid (∀ b o, a = some ⟨b, o, none⟩ → FoIn w (· < B) rest b (o + j * 3)) ∧ Hid (wr.heap[w.heap.size]? = some (.cells #[.int .i64 k, .int .i64 n, .slice a f.len cap] 38 (0, 0)))) (fun _ iv _ => f.len - (intOf iv).toNat)
      case atStart => exact ⟨0, f, x, c, zs, rfl, rfl, HS0, Lib.hid (by rintro b o rfl; simpa using HSL.out.foIn), HS1⟩
      case round =>
        obtain ⟨j, rest, x', c', zs', rfl, rfl, hR, hin, hS⟩ := hrel
        have s2 := cell_at hS.out 2
        simp at s2
        cases rest with
        | nil =>
          have hjl : ¬ (j : Int) < (f.len : Int) := by have h1 := hR.out.1; simp only [Fo.len] at h1; omega
          have dj : decide ((j : Int) < (f.len : Int)) = false := by simpa using hjl
          have HE : Hid (NmPost base (.slice x zs.length c) (nmF K f zs) w (.returned (.slice x' zs'.length c')) wr) := Lib.hid (by
            obtain ⟨_, h2, _, h4, h5⟩ := hR.out
            rw [← h2]
            exact ⟨x', c', rfl, h4, HT.out.trans h5⟩)
          clear hR hS
          go_wp2_with fail
          go_ret
          exact HE.out
        | cons k' n' ks r' =>
          have hjn : j < f.len := by have h1 := hR.out.1; simp only [Fo.len] at h1; omega
          have hjl : (j : Int) < (f.len : Int) := by omega
          have hj0 : (0 : Int) ≤ (j : Int) := by omega
          obtain ⟨b, o, rfl, hbB, _⟩ := HSL.out.some (by omega)
          have hfa := hin.out b o rfl
          have hwB : Below B w wr := (HBX.out.mono (Nat.le_trans hBb hbw)).trans (hR.out.low hBb (by have := HZ1.out; omega) (fun g hg => by have := HLT.out g hg; have := HZ1.out; omega))
          obtain ⟨e0, e1, ⟨a', cap', e2, hsl'⟩, _⟩ := (hfa.below hwB _ _ _ hbB).first
          have hks : ks.size < s := by have h1 := hR.out.2.2.1; have h2 := Fo.len_le_size ks; simp only [Fo.size] at h1; omega
          have HC : Hid (Calls Try.prog 55 #[.agg #[.int .i64 k', .int .i64 n', .slice a' ks.len cap'], .int .i64 K, .slice x' zs'.length c'] wr (NmPost base (.slice x' zs'.length c') (nm1 K k' n' ks zs') wr)) := Lib.hid (IH.out ks hks k' n' a' x' cap' c' base B zs' wr hsl' hBb (by have h1 := hR.out.2.2.2.2.2.2.2.1; have h2 := HZ1.out; omega) hR.out.2.2.2.1 (by have h1 := hR.out.2.2.1; simp only [Fo.size] at h1; omega))
          have HN : Hid (∀ e w2, NmPost base (.slice x' zs'.length c') (nm1 K k' n' ks zs') wr e w2 → ∃ x2 c2, e = .returned (.slice x2 (nm1 K k' n' ks zs').length c2) ∧ Hid (NrS K W1 base B f x c zs (j + 1) r' x2 c2 (nm1 K k' n' ks zs') w2) ∧ Hid (w2.heap[w.heap.size]? = some (.cells #[.int .i64 k, .int .i64 n, .slice (some ⟨b, o, none⟩) f.len cap] 38 (0, 0)))) := Lib.hid (by
            rintro e w2 ⟨x2, c2, rfl, t1, t2⟩
            obtain ⟨h1, h2, h3, h4, h5⟩ := hR.out
            refine ⟨x2, c2, rfl, Lib.hid ⟨by simp only [Fo.len] at h1; omega, by rw [← h2]; rfl, ?_, t1, h5.trans t2⟩, Lib.hid ?_⟩
            · have h6 := nm1_len K k' n' ks zs'
              simp only [Fo.size] at h3
              omega
            · refine (t2.2.2.2.2.1 _ (lt_of_block hS.out) (fun h => ?_)).trans hS.out
              rcases h5.2.2.2.2.2 _ h with h | h
              · have := (HLT.out _ h).2; omega
              · have := HZ1.out; omega)
          clear hR hS
          generalize nm1 K k' n' ks zs' = zs2 at HC HN
          go_wp2_with fail
          refine HC.out.mono ?_
          intro e w2 hP
          obtain ⟨x2, c2, rfl, HN2, HS2⟩ := HN.out e w2 hP
          clear hP
          go_wp2_with fail
          go_roundw
          case rel => exact ⟨j + 1, r', x2, c2, zs2, rfl, by go_num, HN2, Lib.hid (by rintro b' o' h; cases h; have := hfa.2.2.2; rwa [show o + (j + 1) * 3 = o + j * 3 + 3 by omega]), HS2⟩
          case measure => simp [intOf]; omega
end Go.Proofs.Ytcnhfoppfihhiaa
/- The contract of the document's own Metas of a level: the unknowns that it names, each once; rows of numbers as slices. Condition: the level is right. -/
namespace Go.Proofs.Ytcnhfoppfihhiaa
open Go.RowKit

/-- What is answered: the row. -/
def NuPost (zs : List Int) (w : World) (e : Ending) (w' : World) : Prop := ∃ x c, e = .returned (.slice x zs.length c) ∧ IOwn w' w.heap.size (.slice x zs.length c) zs ∧ Below w.heap.size w w'
/-- The document's own, with a box of the level ahead. -/
theorem r5nums (K k n : Int) (f : Fo) (a : Option Addr) (cap B : Nat) (w : World) (hz : f.size ≤ 900) (hsl : SlIn w (· < B) f a cap) (hB : B ≤ w.heap.size) (o : Obj) :
    Calls Try.prog 55 #[.agg #[.int .i64 k, .int .i64 n, .slice a f.len cap], .int .i64 K, .slice none 0 0] (w.alloc o) (NuPost (nm1 K k n f []) w) := by
  have hb1 : Below w.heap.size w (w.alloc o) := (Below.refl _ _).alloc (Nat.le_refl _) _
  refine (named_any K (f.size + 1) f (Nat.lt_succ_self _) k n a none cap 0 w.heap.size B [] (w.alloc o) (hsl.below (hb1.mono hB)) hB hb1.size (IOwn.nil _ _) (by simpa using hz)).mono ?_
  rintro e w' ⟨x, c, rfl, h1, h2⟩
  exact ⟨x, c, rfl, h1, hb1.trans (h2.low hb1.size (fun b h => by cases h))⟩
set_option maxHeartbeats 1000000 in
theorem r5Metas_any (k n : Int) (f : Fo) (a : Option Addr) (cap B : Nat) (w : World) (hr : rightB 5 10 k n f = true) (hsl : SlIn w (· < B) f a cap) (hB : B ≤ w.heap.size) :
    Calls Try.prog 37 #[.agg #[.int .i64 k, .int .i64 n, .slice a f.len cap]] w (NuPost (nm1 6 k n f []) w) := by
  have H1 := Lib.hid (r5nums 6 k n f a cap B w (by have := right_parts hr; omega) hsl hB (.cells #[.int .i64 k, .int .i64 n, .slice a f.len cap] 38))
  go_enter Try.func37, Try.ntmps37
  go_wp2_with fail
  refine H1.out.mono ?_
  rintro e w2 ⟨x, c, rfl, q1, q2⟩
  have HE : Hid (NuPost (nm1 6 k n f []) w (.returned (.slice x (nm1 6 k n f []).length c)) w2) := Lib.hid ⟨x, c, rfl, q1, q2⟩
  clear q1 q2
  go_wp2_with fail
  go_ret
  exact HE.out
/-- A row of numbers, as a slice in memory. -/
theorem IOwn.sl {w : World} {base : Nat} {v : Value} {zs : List Int} (h : IOwn w base v zs) : ∃ x c, v = .slice x zs.length c ∧ ∀ i, i < zs.length → ∃ g, x = some ⟨g, 0, none⟩ ∧ g < w.heap.size ∧ w.cell? ⟨g, i, none⟩ = some (.int .i64 (zs.getD i 0)) := by
  obtain ⟨x, c, rfl⟩ := h.form
  refine ⟨x, c, rfl, fun i hi => ?_⟩
  obtain ⟨g, c', hv, _, hg, hc⟩ := h.at hi
  injection hv with h1 _ _
  exact ⟨g, h1, hg, hc⟩
end Go.Proofs.Ytcnhfoppfihhiaa
/- A row of numbers of the call's own that grows while another row is looked through: what lies in memory. No condition. -/
namespace Go.Proofs.Ytcnhfoppfihhiaa
open Go.RowKit

theorem mem_take {X : Int} {zs : List Int} {q : Nat} (h : q < zs.length) : decide (X ∈ zs.take (q + 1)) = (decide (X ∈ zs.take q) || (zs.getD q 0 == X)) := by
  rw [List.take_add_one, List.getElem?_eq_getElem h, List.getD_eq_getElem?_getD, List.getElem?_eq_getElem h, Bool.eq_iff_iff]
  simp only [Option.toList_some, List.mem_append, List.mem_singleton, Option.getD_some, decide_eq_true_eq, Bool.or_eq_true, beq_iff_eq]
  constructor
  · rintro (h | h)
    · exact .inl h
    · exact .inr h.symm
  · rintro (h | h)
    · exact .inl h
    · exact .inr h.symm
/-- The row v of the call's own holds zs; the row at xm holds ms, and is none of v's blocks. -/
def MdS (w0 : World) (M0 : Nat) (xm : Option Addr) (ms : List Int) (v : Value) (zs : List Int) (wr : World) : Prop :=
  IOwn wr M0 v zs ∧ (∀ i, i < ms.length → ∃ g, xm = some ⟨g, 0, none⟩ ∧ g < wr.heap.size ∧ ¬ OwnB v g ∧ wr.cell? ⟨g, i, none⟩ = some (.int .i64 (ms.getD i 0))) ∧ M0 ≤ wr.heap.size ∧ M0 ≤ w0.heap.size ∧ Below M0 w0 wr
theorem MdS.later {w0 : World} {M0 : Nat} {xm : Option Addr} {ms : List Int} {v : Value} {zs : List Int} {wr wr' : World} (h : MdS w0 M0 xm ms v zs wr) (hb : Below wr.heap.size wr wr') : MdS w0 M0 xm ms v zs wr' := by
  obtain ⟨h1, h2, h3, h4, h5⟩ := h
  refine ⟨h1.keep (fun g hg => hb.block g (h1.lt g hg).2), fun i hi => ?_, Nat.le_trans h3 hb.size, h4, h5.trans (hb.mono h3)⟩
  obtain ⟨g, e, q1, q2, q3⟩ := h2 i hi
  exact ⟨g, e, Nat.lt_of_lt_of_le q1 hb.size, q2, (bcell hb g i q1).trans q3⟩
theorem MdS.push {w0 : World} {M0 : Nat} {xm : Option Addr} {ms : List Int} {v : Value} {zs : List Int} {wr : World} (h : MdS w0 M0 xm ms v zs wr) (z : Int) (hz : zs.length ≤ 1000000) :
    ∃ g' cap' w3, (Builtin.append_ #[45, 45] 45 #[v, .slice (some ⟨wr.heap.size, 0, none⟩) 1 1]).run Try.prog (wr.alloc (.cells #[.int .i64 z] 3)) = .ok (.slice (some ⟨g', 0, none⟩) (zs.length + 1) cap') w3 ∧ MdS w0 M0 xm ms (.slice (some ⟨g', 0, none⟩) (zs.length + 1) cap') (zs ++ [z]) w3 := by
  obtain ⟨h1, h2, h3, h4, h5⟩ := h
  obtain ⟨g', cap', w3, hrun, ho, ht⟩ := h1.push 45 z hz h3
  refine ⟨g', cap', w3, hrun, ho, fun i hi => ?_, Nat.le_trans h3 ht.2.2.2.1, h4, h5.trans (ht.low h3 (fun b hO => (h1.lt b hO).1))⟩
  obtain ⟨g, e, q1, q2, q3⟩ := h2 i hi
  refine ⟨g, e, Nat.lt_of_lt_of_le q1 ht.2.2.2.1, fun hO => ?_, (World.cell?_of_block (a := ⟨g, i, none⟩) (ht.2.2.2.2.1 g q1 q2)).trans q3⟩
  rcases ht.2.2.2.2.2 g hO with h | h
  · exact q2 h
  · omega
theorem MdS.start {w0 : World} {M0 : Nat} {xm : Option Addr} {cm : Nat} {ms : List Int} {v : Value} {zs : List Int} {wr w2 : World} (h1 : IOwn wr M0 v zs) (h3 : M0 ≤ wr.heap.size) (h4 : M0 ≤ w0.heap.size) (h5 : Below M0 w0 wr) (hm : IOwn w2 wr.heap.size (.slice xm ms.length cm) ms) (hb : Below wr.heap.size wr w2) : MdS w0 M0 xm ms v zs w2 := by
  refine ⟨h1.keep (fun g hg => hb.block g (h1.lt g hg).2), fun i hi => ?_, Nat.le_trans h3 hb.size, h4, h5.trans (hb.mono h3)⟩
  obtain ⟨g, c', e, q0, q1, q2⟩ := hm.at hi
  injection e with e1 e2 e3
  exact ⟨g, e1, q1, fun hO => by have := (h1.lt g hO).2; omega, q2⟩
end Go.Proofs.Ytcnhfoppfihhiaa
/- The contract of the document's own Metas of a term: the unknowns that its levels name, each once. Condition: the term is well-formed and lies in memory. -/
namespace Go.Proofs.Ytcnhfoppfihhiaa
open Go.RowKit

theorem lvB_app9 {p m : Int} : ∀ {F G : Fo}, lvB p m (F.app G) = true ↔ lvB p m F = true ∧ lvB p m G = true
  | .nil, G => by simp [Fo.app, lvB]
  | .cons k n ks r, G => by
    show (rightB p m k n ks && lvB p m (r.app G)) = true ↔ (rightB p m k n ks && lvB p m r) = true ∧ _
    rw [Bool.and_eq_true, Bool.and_eq_true, lvB_app9 (F := r), and_assoc]

set_option maxRecDepth 100000 in
set_option maxHeartbeats 16000000 in
theorem r15Metas_any (T : Tm) (hT : T.sh = true) (la ka : Option Addr) (lc kc B : Nat) (w : World) (hls : SlIn w (· < B) T.ls la lc) (hsl : TlIn w (· < B) T.ks ka kc) (hB : B ≤ w.heap.size) :
    Calls Try.prog 20 #[.agg #[.int .i64 T.k, .int .i64 T.n, .slice la T.ls.len lc, .slice ka T.ks.len kc]] w (NuPost T.mets w) := by
  have hlv := sh_lv hT
  have HRT := Lib.hid (sh_lvB hT)
  have hb0 : Below w.heap.size w (w.alloc (.cells #[.int .i64 T.k, .int .i64 T.n, .slice la T.ls.len lc, .slice ka T.ks.len kc] 29)) := (Below.refl _ _).alloc (Nat.le_refl _) _
  have HC := Lib.hid (r15levels_any (T.ks.size + 1) T.ks (Nat.lt_succ_self _) T.k T.n T.ls la ka lc kc B (w.alloc (.cells #[.int .i64 T.k, .int .i64 T.n, .slice la T.ls.len lc, .slice ka T.ks.len kc] 29)) (by have h1 := sh_len hT; exact h1) (hls.below (hb0.mono hB)) (hsl.below (hb0.mono hB)) (Nat.le_trans hB hb0.size))
  have HB0 := Lib.hid hb0
  clear hb0 hls hsl
  show Calls Try.prog 20 _ w (NuPost (onceL (numF 6 T.lv) []) w)
  obtain ⟨F, hF⟩ : ∃ F, F = T.lv := ⟨_, rfl⟩
  rw [show T.ls.app (lvF T.ks) = T.lv from rfl, ← hF] at HC
  rw [← hF] at HRT hlv ⊢
  have HFZ := Lib.hid hlv
  clear hF hlv
  obtain ⟨c0, c1, c2, c3⟩ := cells4 (heap_new w (.cells #[.int .i64 T.k, .int .i64 T.n, .slice la T.ls.len lc, .slice ka T.ks.len kc] 29))
  go_enter Try.func20, Try.ntmps20
  go_wp2_with fail
  refine HC.out.mono ?_
  rintro e W1 ⟨x, c, rfl, t1, t2⟩
  obtain ⟨M0, hM0⟩ : ∃ M0, M0 = W1.heap.size := ⟨_, rfl⟩
  have HSL : Hid (SlIn W1 (· < M0) F x c) := Lib.hid (t1.weak (fun b hb => by rw [hM0]; exact hb.2))
  have hflen := HSL.out.len
  have HB1 : Hid (Below w.heap.size w W1) := Lib.hid (Below.step HB0.out t2 (Nat.le_refl _))
  have HW1Z : Hid (M0 ≤ W1.heap.size) := Lib.hid (Nat.le_of_eq hM0)
  have HWM : Hid (w.heap.size ≤ M0) := Lib.hid (by rw [hM0]; exact HB1.out.size)
  have HS : Hid (IOwn W1 M0 (.slice none 0 0) (onceL (numF 6 .nil) []) ∧ M0 ≤ W1.heap.size ∧ Below M0 W1 W1) := Lib.hid ⟨IOwn.nil _ _, Nat.le_of_eq hM0, Below.refl _ _⟩
  have hwm := HWM.out
  clear t1 t2 HC HB0 hM0 c0 c1 c2 c3
  go_wp2_with fail
  go_loopw [4, 5] (fun ov jv wr => ∃ (j : Nat) (G rest : Fo) (v : Value), v = ov ∧ jv = .int .i64 j ∧ Hid (F = G.app rest) ∧ Hid (G.len = j) ∧ Hid (IOwn wr M0 v (onceL (numF 6 G) []) ∧ M0 ≤ wr.heap.size ∧ Below M0 W1 wr)) (fun _ jv _ => F.len - (intOf jv).toNat)
  case atStart => exact ⟨0, .nil, F, _, rfl, rfl, Lib.hid rfl, Lib.hid rfl, HS⟩
  case round =>
    clear HS
    obtain ⟨j, G, rest, v, rfl, rfl, hf, hj, hR⟩ := hrel
    obtain ⟨hown, hzr, hwr1⟩ := hR.out
    cases rest with
    | nil =>
      have hjl : ¬ (j : Int) < (F.len : Int) := by rw [hf.out, foNil3, hj.out]; omega
      have dj : decide ((j : Int) < (F.len : Int)) = false := by simpa using hjl
      obtain ⟨x, c, rfl⟩ := hown.form
      have HE : Hid (NuPost (onceL (numF 6 F) []) w (.returned (.slice x (onceL (numF 6 G) []).length c)) wr) := Lib.hid (by
        have e : F = G := by rw [hf.out, foNil3]
        rw [e]
        exact ⟨x, c, rfl, hown.low HWM.out, HB1.out.trans (hwr1.mono HWM.out)⟩)
      clear hR hf hown
      go_wp2_with fail
      go_ret
      exact HE.out
    | cons k' n' ks r' =>
      have hjn : j < F.len := by rw [hf.out, Fo.app_len, hj.out]; simp [Fo.len]
      have hjl : (j : Int) < (F.len : Int) := by omega
      obtain ⟨bq, o, rfl, hbB, hf0⟩ := HSL.out.some (by omega)
      have hfa : FoIn W1 (· < M0) (.cons k' n' ks r') bq (o + j * 3) := by
        have h1 := hf0
        rw [hf.out] at h1
        rw [← hj.out]
        exact FoIn.behind3 G _ bq o h1
      obtain ⟨e0, e1, ⟨a', cap', e2, hsl'⟩, _⟩ := (hfa.below hwr1 _ _ _ hbB).first
      have hfs : F.size = G.size + (ks.size + r'.size + 1) := by rw [hf.out, Fo.app_size]; rfl
      have hrt : rightB 5 10 k' n' ks = true := by
        have h1 := HRT.out
        rw [hf.out, lvB_app9] at h1
        have h2 := h1.2
        simp only [lvB, Bool.and_eq_true] at h2
        exact h2.1
      have HC : Hid (Calls Try.prog 37 #[.agg #[.int .i64 k', .int .i64 n', .slice a' ks.len cap']] wr (NuPost (nm1 6 k' n' ks []) wr)) :=
        Lib.hid (r5Metas_any k' n' ks a' cap' M0 wr hrt hsl' hzr)
      rw [nm1_once] at HC
      have HNX : Hid (onceL (numF 6 (G.app (.cons k' n' ks .nil))) [] = onceL (onceL (num1 6 k' n' ks) []) (onceL (numF 6 G) [])) := Lib.hid (by
        rw [once_idem, numF_app, show numF 6 (.cons k' n' ks .nil) = num1 6 k' n' ks ++ [] from rfl, List.append_nil, onceL_app])
      have HSZ : Hid ((onceL (numF 6 G) []).length + (onceL (num1 6 k' n' ks) []).length ≤ 800000) := Lib.hid (by
        have h1 := once_len (numF 6 G) []
        have h2 := once_len (num1 6 k' n' ks) []
        have h3 := numF_len9 6 (.cons k' n' ks .nil)
        have h4 := numF_len9 6 G
        have h5 := HFZ.out
        rw [show numF 6 (.cons k' n' ks .nil) = num1 6 k' n' ks ++ [] from rfl, List.append_nil] at h3
        simp only [Fo.size] at h3
        simp only [List.length_nil] at h1 h2
        omega)
      have HSN : Hid (F = (G.app (.cons k' n' ks .nil)).app r') := Lib.hid (by rw [hf.out, foAss3]; rfl)
      have HJ := Lib.hid hj.out
      have HRR := Lib.hid (And.intro hown (And.intro hzr hwr1))
      generalize onceL (numF 6 G) [] = zs at HNX HSZ HRR
      generalize onceL (num1 6 k' n' ks) [] = ms at HC HNX HSZ
      have hbl : bq < wr.heap.size := by omega
      clear hf hR hfa hf0 hsl' hfs hown hwr1 hrt
      go_wp2_with fail
      refine HC.out.mono ?_
      rintro e w2 ⟨xm, cm, rfl, t1, t2⟩
      have HM0 : Hid (MdS W1 M0 xm ms v (onceL (ms.take 0) zs) w2) := Lib.hid (MdS.start HRR.out.1 HRR.out.2.1 HW1Z.out HRR.out.2.2 t1 t2)
      clear t1 t2 HRR HC e0 e1 e2
      go_wp2_with fail
      have hml : ms.length ≤ 800000 := by have := HSZ.out; omega
      go_loopw [4, 7] (fun ov kv wr => ∃ (k2 : Nat) (v2 : Value), v2 = ov ∧ kv = .int .i64 k2 ∧ k2 ≤ ms.length ∧ Hid (MdS W1 M0 xm ms v2 (onceL (ms.take k2) zs) wr)) (fun _ kv _ => ms.length - (intOf kv).toNat)
      case atStart => exact ⟨0, _, rfl, rfl, Nat.zero_le _, HM0⟩
      case round =>
        obtain ⟨k2, v2, rfl, rfl, hk2, hM⟩ := hrel
        have hk20 : (0 : Int) ≤ (k2 : Int) := by omega
        by_cases hkl : k2 < ms.length
        · have hkl' : (k2 : Int) < (ms.length : Int) := by omega
          have HTK := Lib.hid (once_take (zs := zs) hkl)
          have hzl : (onceL (ms.take k2) zs).length ≤ 800000 := by
            have h1 := once_len (ms.take k2) zs
            rw [List.length_take] at h1
            have := HSZ.out
            omega
          obtain ⟨gm, rfl, hgm, _, _⟩ := hM.out.2.1 k2 hkl
          have HX : Hid (∀ wr', MdS W1 M0 (some ⟨gm, 0, none⟩) ms v2 (onceL (ms.take k2) zs) wr' → wr'.cell? ⟨gm, k2, none⟩ = some (.int .i64 (ms.getD k2 0)) ∧ gm < wr'.heap.size) := Lib.hid (fun wr' h => by
            obtain ⟨g, e, q1, _, q2⟩ := h.2.1 k2 hkl
            cases e
            exact ⟨q2, q1⟩)
          generalize ms.getD k2 0 = X at HTK HX
          generalize hzs : onceL (ms.take k2) zs = zs2 at HTK HX hzl hM
          clear hzs
          obtain ⟨x2, c2, rfl⟩ := hM.out.1.form
          go_wp2_with fail
          go_loopw [8, 9] (fun hv jv wr => ∃ (q : Nat) (b : Bool), hv = .bool b ∧ jv = .int .i64 q ∧ q ≤ zs2.length ∧ Hid (b = decide (X ∈ zs2.take q)) ∧ Hid (MdS W1 M0 (some ⟨gm, 0, none⟩) ms (.slice x2 zs2.length c2) zs2 wr)) (fun _ jv _ => zs2.length - (intOf jv).toNat)
          case atStart => exact ⟨0, false, rfl, rfl, Nat.zero_le _, Lib.hid (by simp), hM⟩
          case round =>
            clear hM hgm
            obtain ⟨q, b, rfl, rfl, hq, hb, hM⟩ := hrel
            have hq0 : (0 : Int) ≤ (q : Int) := by omega
            obtain ⟨cx, cxl⟩ := HX.out _ hM.out
            by_cases hql : q < zs2.length
            · have hql' : (q : Int) < (zs2.length : Int) := by omega
              obtain ⟨g2, c2', hv, hg1, hg2, hcell⟩ := hM.out.1.at hql
              obtain ⟨rfl, rfl⟩ : x2 = some ⟨g2, 0, none⟩ ∧ c2 = c2' := by injection hv with h1 h2 h3; exact ⟨h1, h3⟩
              clear hv
              have HMT := Lib.hid (mem_take (X := X) hql)
              generalize hz : zs2.getD q 0 = z at hcell HMT
              clear hz
              have HMD : Hid (∀ m, MdS W1 M0 (some ⟨gm, 0, none⟩) ms (.slice (some ⟨g2, 0, none⟩) zs2.length c2) zs2 (wr.drewN m)) := Lib.hid (fun m => hM.out.later (Below.draws (Below.refl _ _) m))
              cases hbv : b with
              | true =>
                have HN : Hid (true = decide (X ∈ zs2.take (q + 1))) := Lib.hid (by rw [HMT.out, ← hb.out, hbv]; rfl)
                clear hbv
                go_wp2_with fail
                go_quiet (fail)
                go_wp2_with fail
                go_roundw
                case rel => exact ⟨q + 1, true, rfl, by go_num, by omega, HN, HMD.out _⟩
                case measure => simp [intOf]; omega
              | false =>
                cases hzx : (z == X) with
                | true =>
                  have HN : Hid (true = decide (X ∈ zs2.take (q + 1))) := Lib.hid (by rw [HMT.out, hzx, Bool.or_true])
                  clear hbv
                  go_wp2_with fail
                  go_quiet (fail)
                  go_wp2_with fail
                  go_roundw
                  case rel => exact ⟨q + 1, true, rfl, by go_num, by omega, HN, Lib.hid (HMD.out _)⟩
                  case measure => simp [intOf]; omega
                | false =>
                  have HN : Hid (false = decide (X ∈ zs2.take (q + 1))) := Lib.hid (by rw [HMT.out, hzx, ← hb.out, hbv]; rfl)
                  clear hbv
                  go_wp2_with fail
                  go_quiet (fail)
                  go_wp2_with fail
                  go_roundw
                  case rel => exact ⟨q + 1, false, rfl, by go_num, by omega, HN, Lib.hid (HMD.out _)⟩
                  case measure => simp [intOf]; omega
            · have hql' : ¬ (q : Int) < (zs2.length : Int) := by omega
              have dq : decide ((q : Int) < (zs2.length : Int)) = false := by simpa using hql'
              have HBX : Hid (b = decide (X ∈ zs2)) := Lib.hid (by have h := hb.out; rwa [List.take_of_length_le (by omega)] at h)
              cases hbv : b with
              | true =>
                have HI : Hid (onceL (ms.take (k2 + 1)) zs = zs2) := Lib.hid (by rw [HTK.out]; exact ins_old (of_decide_eq_true (HBX.out.symm.trans hbv)))
                clear hbv
                go_wp2_with fail
                go_roundw
                case rel => exact ⟨k2 + 1, _, rfl, by go_num, by omega, Lib.hid (by rw [HI.out]; exact hM.out)⟩
                case measure => simp [intOf]; omega
              | false =>
                have HI : Hid (onceL (ms.take (k2 + 1)) zs = zs2 ++ [X]) := Lib.hid (by rw [HTK.out]; exact ins_new (of_decide_eq_false (HBX.out.symm.trans hbv)))
                obtain ⟨g3, c3, w3, hrun, hN⟩ := hM.out.push X (by omega)
                have HRUN := Lib.hid hrun
                have HN := Lib.hid hN
                clear hbv hrun hN
                go_wp2_with (at_builtin; refine wpList_append_run (by rfl) _ _ _ (by rfl) (by rfl) (by rfl) HRUN.out ?_)
                go_roundw
                case rel => exact ⟨k2 + 1, _, rfl, by go_num, by omega, Lib.hid (by rw [HI.out]; exact HN.out)⟩
                case measure => simp [intOf]; omega
        · have hkl' : ¬ (k2 : Int) < (ms.length : Int) := by omega
          have dk : decide ((k2 : Int) < (ms.length : Int)) = false := by simpa using hkl'
          have HEN : Hid (MdS W1 M0 xm ms v2 (onceL ms zs) wr) := Lib.hid (by have h := hM.out; rwa [List.take_of_length_le (by omega)] at h)
          clear hM
          go_wp2_with fail
          go_roundw
          case rel => exact ⟨j + 1, _, r', _, rfl, by go_num, HSN, Lib.hid (by rw [Fo.app_len, HJ.out]; rfl), Lib.hid (by rw [HNX.out]; exact ⟨HEN.out.1, HEN.out.2.2.1, HEN.out.2.2.2.2⟩)⟩
          case measure => simp [intOf]; omega
end Go.Proofs.Ytcnhfoppfihhiaa
/- The contract of the document's own Consts of a term: each once, from left to right. Condition: the term lies in memory and has at most a thousand parts. -/
namespace Go.Proofs.Ytcnhfoppfihhiaa
open Go.RowKit

set_option maxRecDepth 100000 in
set_option maxHeartbeats 16000000 in
theorem r15Consts_any (s : Nat) : ∀ (f : Ft), f.size < s → f.size ≤ 1000 → ∀ (k n : Int) (ls : Fo) (la ka : Option Addr) (lc kc B : Nat) (w : World), SlIn w (· < B) ls la lc → TlIn w (· < B) f ka kc → B ≤ w.heap.size →
    Calls Try.prog 21 #[.agg #[.int .i64 k, .int .i64 n, .slice la ls.len lc, .slice ka f.len kc]] w (NuPost (onceL (cs1 k n f) []) w) := by
  induction s with
  | zero => intro f hs; omega
  | succ s ih =>
    intro f hs hsz k n ls la ka lc kc B w hls hsl hB
    have IH := Lib.hid ih
    clear ih
    have hlen := hsl.len
    have hlen2 := hls.len
    have HSL := Lib.hid hsl
    obtain ⟨W0, hW0⟩ : ∃ W0, W0 = w.alloc (.cells #[.int .i64 k, .int .i64 n, .slice la ls.len lc, .slice ka f.len kc] 29) := ⟨_, rfl⟩
    have HB0 : Hid (Below w.heap.size w W0) := Lib.hid (by rw [hW0]; exact (Below.refl _ _).alloc (Nat.le_refl _) _)
    have HZ0 : Hid (W0.heap.size = w.heap.size + 1) := Lib.hid (by rw [hW0]; simp)
    have HBX0 : Hid (W0.heap[w.heap.size]? = some (.cells #[.int .i64 k, .int .i64 n, .slice la ls.len lc, .slice ka f.len kc] 29 (0, 0))) := Lib.hid (by rw [hW0]; exact heap_new _ _)
    clear hsl hls
    by_cases hk : k = 3
    · subst hk
      have HPRE : Hid (∀ h : Ft, cs1 3 n h = [n] ++ csF h) := Lib.hid (fun h => by unfold cs1; rw [if_pos rfl])
      have HPL : Hid ([n].length ≤ 1) := Lib.hid (by simp)
      have HF0 : Hid (∃ g' cap' w3, (Builtin.append_ #[45, 45] 45 #[.slice none 0 0, .slice (some ⟨w.heap.size + 1, 0, none⟩) 1 1]).run Try.prog (W0.alloc (.cells #[.int .i64 n] 3)) = .ok (.slice (some ⟨g', 0, none⟩) 1 cap') w3 ∧ IOwn w3 (w.heap.size + 1) (.slice (some ⟨g', 0, none⟩) 1 cap') [n] ∧ Below (w.heap.size + 1) W0 w3) := Lib.hid (by
        obtain ⟨g', cap', w3, r1, r2, r3⟩ := (IOwn.nil W0 (w.heap.size + 1)).push 45 n (by simp) (Nat.le_of_eq HZ0.out.symm)
        rw [HZ0.out] at r1
        exact ⟨g', cap', w3, r1, r2, r3.low (Nat.le_of_eq HZ0.out.symm) (fun b h => by cases h)⟩)
      obtain ⟨g', cap', w3, hrun, ho3, hb3⟩ := HF0.out
      have HRUN0 := Lib.hid hrun
      obtain ⟨c0, c1, _, _⟩ := cells4 HBX0.out
      have hz0 := HZ0.out
      have HS : Hid (IOwn w3 (w.heap.size + 1) (.slice (some ⟨g', 0, none⟩) 1 cap') (onceL ([n] ++ csF .nil) []) ∧ w.heap.size + 1 ≤ w3.heap.size ∧ Below (w.heap.size + 1) W0 w3) := Lib.hid ⟨ho3, by have := hb3.size; omega, hb3⟩
      obtain ⟨W1, hW1⟩ : ∃ W1, W1 = W0 := ⟨_, rfl⟩
      have HB1 : Hid (Below w.heap.size w W1) := Lib.hid (by rw [hW1]; exact HB0.out)
      have HZ1 : Hid (W1.heap.size = w.heap.size + 1) := Lib.hid (by rw [hW1]; exact HZ0.out)
      have HBX : Hid (W1.heap[w.heap.size]? = some (.cells #[.int .i64 3, .int .i64 n, .slice la ls.len lc, .slice ka f.len kc] 29 (0, 0))) := Lib.hid (by rw [hW1]; exact HBX0.out)
      rw [← hW1] at HS
      have HW0 := Lib.hid hW0
      clear hrun ho3 hb3 HF0 hW1 hW0 HBX0
      generalize hpre : [n] = pre at HPRE HPL HS
      have dk3 : ((3 : Int) == 3) = true := rfl
      go_enter Try.func21, Try.ntmps21
      go_upto_region 3 with fail
      rw [← HW0.out]
      clear HW0 HB0 hpre
      go_wp2_with (at_builtin; refine wpList_append_run (by rfl) _ _ _ (by rfl) (by rfl) (by rfl) HRUN0.out ?_)
      clear HRUN0 HZ0 hz0 c0 c1 dk3
      go_loopw [3, 4] (fun ov jv wr => ∃ (j : Nat) (H rest : Ft) (v : Value), v = ov ∧ jv = .int .i64 j ∧ Hid (f = H.app rest) ∧ Hid (H.len = j) ∧ Hid (IOwn wr (w.heap.size + 1) v (onceL (pre ++ csF H) []) ∧ w.heap.size + 1 ≤ wr.heap.size ∧ Below (w.heap.size + 1) W1 wr)) (fun _ jv _ => f.len - (intOf jv).toNat)
      case atStart => exact ⟨0, .nil, f, _, rfl, rfl, Lib.hid rfl, Lib.hid rfl, HS⟩
      case round =>
        clear HS
        obtain ⟨j, H, rest, v, rfl, rfl, hf, hj, hR⟩ := hrel
        obtain ⟨hown, hzr, hwr1⟩ := hR.out
        have hbox := (hwr1.block w.heap.size (by omega)).trans HBX.out
        have hwr := HB1.out.trans (hwr1.mono (Nat.le_succ _))
        obtain ⟨c0, c1, c2, c3⟩ := cells4 hbox
        have hzl0 : w.heap.size < wr.heap.size := by omega
        cases rest with
        | nil =>
          have hjl : ¬ (j : Int) < (f.len : Int) := by rw [hf.out, Ft.app_nil, hj.out]; omega
          have dj : decide ((j : Int) < (f.len : Int)) = false := by simpa using hjl
          obtain ⟨x, c, rfl⟩ := hown.form
          have HE : Hid (NuPost (onceL (cs1 3 n f) []) w (.returned (.slice x (onceL (pre ++ csF H) []).length c)) wr) := Lib.hid (by
            have e : cs1 3 n f = pre ++ csF H := by rw [HPRE.out, show f = H by rw [hf.out, Ft.app_nil]]
            rw [e]
            exact ⟨x, c, rfl, hown.low (Nat.le_succ _), hwr⟩)
          clear hR hf hbox hown c0 c1 c2
          go_wp2_with fail
          go_ret
          exact HE.out
        | cons k' n' ls' ks r' =>
          have hjn : j < f.len := by rw [hf.out, Ft.app_len, hj.out]; simp [Ft.len]
          have hjl : (j : Int) < (f.len : Int) := by omega
          obtain ⟨bq, o, rfl, hbB, hf0⟩ := HSL.out.some (by omega)
          have hfa : FtIn w (· < B) (.cons k' n' ls' ks r') bq (o + j * 4) := by
            have h1 := hf0
            rw [hf.out] at h1
            rw [← hj.out]
            exact FtIn.behind H _ bq o h1
          obtain ⟨e0, e1, ⟨la', lc', e2, hls'⟩, ⟨ka', kc', e3, hsl'⟩, _⟩ := (hfa.below (hwr.mono hB) _ _ _ hbB).first
          have hfs : f.size = H.size + (ks.size + r'.size + 1) := by rw [hf.out, Ft.app_size]; rfl
          have hks : ks.size < s := by omega
          have hBr : B ≤ wr.heap.size := Nat.le_trans hB hwr.size
          have HC : Hid (Calls Try.prog 21 #[.agg #[.int .i64 k', .int .i64 n', .slice la' ls'.len lc', .slice ka' ks.len kc']] wr (NuPost (onceL (cs1 k' n' ks) []) wr)) :=
            Lib.hid (IH.out ks hks (by omega) k' n' ls' la' ka' lc' kc' B wr hls' hsl' hBr)
          have HNX : Hid (onceL (pre ++ csF (H.app (.cons k' n' ls' ks .nil))) [] = onceL (onceL (cs1 k' n' ks) []) (onceL (pre ++ csF H) [])) := Lib.hid (by
            rw [once_idem, csF_app, show csF (.cons k' n' ls' ks .nil) = cs1 k' n' ks ++ [] from rfl, List.append_nil, ← List.append_assoc, onceL_app])
          have HSZ : Hid ((onceL (pre ++ csF H) []).length + (onceL (cs1 k' n' ks) []).length ≤ 800000) := Lib.hid (by
            have h1 := once_len (pre ++ csF H) []
            have h2 := once_len (cs1 k' n' ks) []
            have h3 := cs1_len k' n' ks
            have h4 := csF_len H
            have h5 := HPL.out
            rw [List.length_append] at h1
            simp only [List.length_nil] at h1 h2
            omega)
          have HSN : Hid (f = (H.app (.cons k' n' ls' ks .nil)).app r') := Lib.hid (by rw [hf.out, Ft.app_assoc]; rfl)
          have HJ := Lib.hid hj.out
          have HRR := Lib.hid (And.intro hown (And.intro hzr hwr1))
          generalize onceL (pre ++ csF H) [] = zs at HNX HSZ HRR
          generalize onceL (cs1 k' n' ks) [] = ms at HC HNX HSZ
          clear hf hR hfa hf0 hls' hsl' hfs hbox hown hwr1 c0 c1 c2
          go_wp2_with fail
          refine HC.out.mono ?_
          rintro e w2 ⟨xm, cm, rfl, t1, t2⟩
          obtain ⟨M0, hM0⟩ : ∃ M0, M0 = w.heap.size + 1 := ⟨_, rfl⟩
          have HM0 : Hid (MdS W1 M0 xm ms v (onceL (ms.take 0) zs) w2) := Lib.hid (by rw [hM0]; exact MdS.start HRR.out.1 HRR.out.2.1 (Nat.le_of_eq HZ1.out.symm) HRR.out.2.2 t1 t2)
          have HM0E := Lib.hid hM0
          clear t1 t2 hM0 HRR HC e0 e1 e2 e3 c3
          go_wp2_with fail
          have hml : ms.length ≤ 800000 := by have := HSZ.out; omega
          go_loopw [3, 6] (fun ov kv wr => ∃ (k2 : Nat) (v2 : Value), v2 = ov ∧ kv = .int .i64 k2 ∧ k2 ≤ ms.length ∧ Hid (MdS W1 M0 xm ms v2 (onceL (ms.take k2) zs) wr)) (fun _ kv _ => ms.length - (intOf kv).toNat)
          case atStart => exact ⟨0, _, rfl, rfl, Nat.zero_le _, HM0⟩
          case round =>
            obtain ⟨k2, v2, rfl, rfl, hk2, hM⟩ := hrel
            have hk20 : (0 : Int) ≤ (k2 : Int) := by omega
            by_cases hkl : k2 < ms.length
            · have hkl' : (k2 : Int) < (ms.length : Int) := by omega
              have HTK := Lib.hid (once_take (zs := zs) hkl)
              have hzl : (onceL (ms.take k2) zs).length ≤ 800000 := by
                have h1 := once_len (ms.take k2) zs
                rw [List.length_take] at h1
                have := HSZ.out
                omega
              obtain ⟨gm, rfl, hgm, _, _⟩ := hM.out.2.1 k2 hkl
              have HX : Hid (∀ wr', MdS W1 M0 (some ⟨gm, 0, none⟩) ms v2 (onceL (ms.take k2) zs) wr' → wr'.cell? ⟨gm, k2, none⟩ = some (.int .i64 (ms.getD k2 0)) ∧ gm < wr'.heap.size) := Lib.hid (fun wr' h => by
                obtain ⟨g, e, q1, _, q2⟩ := h.2.1 k2 hkl
                cases e
                exact ⟨q2, q1⟩)
              generalize ms.getD k2 0 = X at HTK HX
              generalize hzs : onceL (ms.take k2) zs = zs2 at HTK HX hzl hM
              clear hzs
              obtain ⟨x2, c2, rfl⟩ := hM.out.1.form
              go_wp2_with fail
              go_loopw [7, 8] (fun hv jv wr => ∃ (q : Nat) (b : Bool), hv = .bool b ∧ jv = .int .i64 q ∧ q ≤ zs2.length ∧ Hid (b = decide (X ∈ zs2.take q)) ∧ Hid (MdS W1 M0 (some ⟨gm, 0, none⟩) ms (.slice x2 zs2.length c2) zs2 wr)) (fun _ jv _ => zs2.length - (intOf jv).toNat)
              case atStart => exact ⟨0, false, rfl, rfl, Nat.zero_le _, Lib.hid (by simp), hM⟩
              case round =>
                clear hM hgm
                obtain ⟨q, b, rfl, rfl, hq, hb, hM⟩ := hrel
                have hq0 : (0 : Int) ≤ (q : Int) := by omega
                obtain ⟨cx, cxl⟩ := HX.out _ hM.out
                by_cases hql : q < zs2.length
                · have hql' : (q : Int) < (zs2.length : Int) := by omega
                  obtain ⟨g2, c2', hv, hg1, hg2, hcell⟩ := hM.out.1.at hql
                  obtain ⟨rfl, rfl⟩ : x2 = some ⟨g2, 0, none⟩ ∧ c2 = c2' := by injection hv with h1 h2 h3; exact ⟨h1, h3⟩
                  clear hv
                  have HMT := Lib.hid (mem_take (X := X) hql)
                  generalize hz : zs2.getD q 0 = z at hcell HMT
                  clear hz
                  have HMD : Hid (∀ m, MdS W1 M0 (some ⟨gm, 0, none⟩) ms (.slice (some ⟨g2, 0, none⟩) zs2.length c2) zs2 (wr.drewN m)) := Lib.hid (fun m => hM.out.later (Below.draws (Below.refl _ _) m))
                  cases hbv : b with
                  | true =>
                    have HN : Hid (true = decide (X ∈ zs2.take (q + 1))) := Lib.hid (by rw [HMT.out, ← hb.out, hbv]; rfl)
                    clear hbv
                    go_wp2_with fail
                    go_quiet (fail)
                    go_wp2_with fail
                    go_roundw
                    case rel => exact ⟨q + 1, true, rfl, by go_num, by omega, HN, HMD.out _⟩
                    case measure => simp [intOf]; omega
                  | false =>
                    cases hzx : (z == X) with
                    | true =>
                      have HN : Hid (true = decide (X ∈ zs2.take (q + 1))) := Lib.hid (by rw [HMT.out, hzx, Bool.or_true])
                      clear hbv
                      go_wp2_with fail
                      go_quiet (fail)
                      go_wp2_with fail
                      go_roundw
                      case rel => exact ⟨q + 1, true, rfl, by go_num, by omega, HN, Lib.hid (HMD.out _)⟩
                      case measure => simp [intOf]; omega
                    | false =>
                      have HN : Hid (false = decide (X ∈ zs2.take (q + 1))) := Lib.hid (by rw [HMT.out, hzx, ← hb.out, hbv]; rfl)
                      clear hbv
                      go_wp2_with fail
                      go_quiet (fail)
                      go_wp2_with fail
                      go_roundw
                      case rel => exact ⟨q + 1, false, rfl, by go_num, by omega, HN, Lib.hid (HMD.out _)⟩
                      case measure => simp [intOf]; omega
                · have hql' : ¬ (q : Int) < (zs2.length : Int) := by omega
                  have dq : decide ((q : Int) < (zs2.length : Int)) = false := by simpa using hql'
                  have HBX : Hid (b = decide (X ∈ zs2)) := Lib.hid (by have h := hb.out; rwa [List.take_of_length_le (by omega)] at h)
                  cases hbv : b with
                  | true =>
                    have HI : Hid (onceL (ms.take (k2 + 1)) zs = zs2) := Lib.hid (by rw [HTK.out]; exact ins_old (of_decide_eq_true (HBX.out.symm.trans hbv)))
                    clear hbv
                    go_wp2_with fail
                    go_roundw
                    case rel => exact ⟨k2 + 1, _, rfl, by go_num, by omega, Lib.hid (by rw [HI.out]; exact hM.out)⟩
                    case measure => simp [intOf]; omega
                  | false =>
                    have HI : Hid (onceL (ms.take (k2 + 1)) zs = zs2 ++ [X]) := Lib.hid (by rw [HTK.out]; exact ins_new (of_decide_eq_false (HBX.out.symm.trans hbv)))
                    obtain ⟨g3, c3, w3, hrun, hN⟩ := hM.out.push X (by omega)
                    have HRUN := Lib.hid hrun
                    have HN := Lib.hid hN
                    clear hbv hrun hN
                    go_wp2_with (at_builtin; refine wpList_append_run (by rfl) _ _ _ (by rfl) (by rfl) (by rfl) HRUN.out ?_)
                    go_roundw
                    case rel => exact ⟨k2 + 1, _, rfl, by go_num, by omega, Lib.hid (by rw [HI.out]; exact HN.out)⟩
                    case measure => simp [intOf]; omega
            · have hkl' : ¬ (k2 : Int) < (ms.length : Int) := by omega
              have dk : decide ((k2 : Int) < (ms.length : Int)) = false := by simpa using hkl'
              have HEN : Hid (MdS W1 M0 xm ms v2 (onceL ms zs) wr) := Lib.hid (by have h := hM.out; rwa [List.take_of_length_le (by omega)] at h)
              clear hM
              go_wp2_with fail
              go_roundw
              case rel => exact ⟨j + 1, _, r', _, rfl, by go_num, HSN, Lib.hid (by rw [Ft.app_len, HJ.out]; rfl), Lib.hid (by rw [HNX.out, ← HM0E.out]; exact ⟨HEN.out.1, HEN.out.2.2.1, HEN.out.2.2.2.2⟩)⟩
              case measure => simp [intOf]; omega
    · have dk3 : (k == 3) = false := beq_eq_false_iff_ne.2 hk
      obtain ⟨pre, hpre⟩ : ∃ pre : List Int, pre = [] := ⟨_, rfl⟩
      have HPRE : Hid (∀ h : Ft, cs1 k n h = pre ++ csF h) := Lib.hid (fun h => by unfold cs1; rw [if_neg hk, hpre])
      have HPL : Hid (pre.length ≤ 1) := Lib.hid (by rw [hpre]; simp)
      have HS0 : Hid (IOwn W0 (w.heap.size + 1) (.slice none 0 0) (onceL (pre ++ csF .nil) []) ∧ w.heap.size + 1 ≤ W0.heap.size ∧ Below (w.heap.size + 1) W0 W0) := Lib.hid (by
        rw [hpre]; exact ⟨IOwn.nil _ _, by rw [HZ0.out]; exact Nat.le_refl _, Below.refl _ _⟩)
      obtain ⟨W1, hW1⟩ : ∃ W1, W1 = W0 := ⟨_, rfl⟩
      have HB1 : Hid (Below w.heap.size w W1) := Lib.hid (by rw [hW1]; exact HB0.out)
      have HZ1 : Hid (W1.heap.size = w.heap.size + 1) := Lib.hid (by rw [hW1]; exact HZ0.out)
      have HBX : Hid (W1.heap[w.heap.size]? = some (.cells #[.int .i64 k, .int .i64 n, .slice la ls.len lc, .slice ka f.len kc] 29 (0, 0))) := Lib.hid (by rw [hW1]; exact HBX0.out)
      rw [← hW1] at HS0
      have HS := HS0
      have HW0 : Hid (W1 = w.alloc (.cells #[.int .i64 k, .int .i64 n, .slice la ls.len lc, .slice ka f.len kc] 29)) := Lib.hid (hW1.trans hW0)
      clear hW1 hW0 HBX0 HB0 HZ0 hpre HS0
      go_enter Try.func21, Try.ntmps21
      go_wp2_with fail
      rw [← HW0.out]
      clear HW0 dk3
      go_loopw [3, 4] (fun ov jv wr => ∃ (j : Nat) (H rest : Ft) (v : Value), v = ov ∧ jv = .int .i64 j ∧ Hid (f = H.app rest) ∧ Hid (H.len = j) ∧ Hid (IOwn wr (w.heap.size + 1) v (onceL (pre ++ csF H) []) ∧ w.heap.size + 1 ≤ wr.heap.size ∧ Below (w.heap.size + 1) W1 wr)) (fun _ jv _ => f.len - (intOf jv).toNat)
      case atStart => exact ⟨0, .nil, f, _, rfl, rfl, Lib.hid rfl, Lib.hid rfl, HS⟩
      case round =>
        clear HS
        obtain ⟨j, H, rest, v, rfl, rfl, hf, hj, hR⟩ := hrel
        obtain ⟨hown, hzr, hwr1⟩ := hR.out
        have hbox := (hwr1.block w.heap.size (by omega)).trans HBX.out
        have hwr := HB1.out.trans (hwr1.mono (Nat.le_succ _))
        obtain ⟨c0, c1, c2, c3⟩ := cells4 hbox
        have hzl0 : w.heap.size < wr.heap.size := by omega
        cases rest with
        | nil =>
          have hjl : ¬ (j : Int) < (f.len : Int) := by rw [hf.out, Ft.app_nil, hj.out]; omega
          have dj : decide ((j : Int) < (f.len : Int)) = false := by simpa using hjl
          obtain ⟨x, c, rfl⟩ := hown.form
          have HE : Hid (NuPost (onceL (cs1 k n f) []) w (.returned (.slice x (onceL (pre ++ csF H) []).length c)) wr) := Lib.hid (by
            have e : cs1 k n f = pre ++ csF H := by rw [HPRE.out, show f = H by rw [hf.out, Ft.app_nil]]
            rw [e]
            exact ⟨x, c, rfl, hown.low (Nat.le_succ _), hwr⟩)
          clear hR hf hbox hown c0 c1 c2
          go_wp2_with fail
          go_ret
          exact HE.out
        | cons k' n' ls' ks r' =>
          have hjn : j < f.len := by rw [hf.out, Ft.app_len, hj.out]; simp [Ft.len]
          have hjl : (j : Int) < (f.len : Int) := by omega
          obtain ⟨bq, o, rfl, hbB, hf0⟩ := HSL.out.some (by omega)
          have hfa : FtIn w (· < B) (.cons k' n' ls' ks r') bq (o + j * 4) := by
            have h1 := hf0
            rw [hf.out] at h1
            rw [← hj.out]
            exact FtIn.behind H _ bq o h1
          obtain ⟨e0, e1, ⟨la', lc', e2, hls'⟩, ⟨ka', kc', e3, hsl'⟩, _⟩ := (hfa.below (hwr.mono hB) _ _ _ hbB).first
          have hfs : f.size = H.size + (ks.size + r'.size + 1) := by rw [hf.out, Ft.app_size]; rfl
          have hks : ks.size < s := by omega
          have hBr : B ≤ wr.heap.size := Nat.le_trans hB hwr.size
          have HC : Hid (Calls Try.prog 21 #[.agg #[.int .i64 k', .int .i64 n', .slice la' ls'.len lc', .slice ka' ks.len kc']] wr (NuPost (onceL (cs1 k' n' ks) []) wr)) :=
            Lib.hid (IH.out ks hks (by omega) k' n' ls' la' ka' lc' kc' B wr hls' hsl' hBr)
          have HNX : Hid (onceL (pre ++ csF (H.app (.cons k' n' ls' ks .nil))) [] = onceL (onceL (cs1 k' n' ks) []) (onceL (pre ++ csF H) [])) := Lib.hid (by
            rw [once_idem, csF_app, show csF (.cons k' n' ls' ks .nil) = cs1 k' n' ks ++ [] from rfl, List.append_nil, ← List.append_assoc, onceL_app])
          have HSZ : Hid ((onceL (pre ++ csF H) []).length + (onceL (cs1 k' n' ks) []).length ≤ 800000) := Lib.hid (by
            have h1 := once_len (pre ++ csF H) []
            have h2 := once_len (cs1 k' n' ks) []
            have h3 := cs1_len k' n' ks
            have h4 := csF_len H
            have h5 := HPL.out
            rw [List.length_append] at h1
            simp only [List.length_nil] at h1 h2
            omega)
          have HSN : Hid (f = (H.app (.cons k' n' ls' ks .nil)).app r') := Lib.hid (by rw [hf.out, Ft.app_assoc]; rfl)
          have HJ := Lib.hid hj.out
          have HRR := Lib.hid (And.intro hown (And.intro hzr hwr1))
          generalize onceL (pre ++ csF H) [] = zs at HNX HSZ HRR
          generalize onceL (cs1 k' n' ks) [] = ms at HC HNX HSZ
          clear hf hR hfa hf0 hls' hsl' hfs hbox hown hwr1 c0 c1 c2
          go_wp2_with fail
          refine HC.out.mono ?_
          rintro e w2 ⟨xm, cm, rfl, t1, t2⟩
          obtain ⟨M0, hM0⟩ : ∃ M0, M0 = w.heap.size + 1 := ⟨_, rfl⟩
          have HM0 : Hid (MdS W1 M0 xm ms v (onceL (ms.take 0) zs) w2) := Lib.hid (by rw [hM0]; exact MdS.start HRR.out.1 HRR.out.2.1 (Nat.le_of_eq HZ1.out.symm) HRR.out.2.2 t1 t2)
          have HM0E := Lib.hid hM0
          clear t1 t2 hM0 HRR HC e0 e1 e2 e3 c3
          go_wp2_with fail
          have hml : ms.length ≤ 800000 := by have := HSZ.out; omega
          go_loopw [3, 6] (fun ov kv wr => ∃ (k2 : Nat) (v2 : Value), v2 = ov ∧ kv = .int .i64 k2 ∧ k2 ≤ ms.length ∧ Hid (MdS W1 M0 xm ms v2 (onceL (ms.take k2) zs) wr)) (fun _ kv _ => ms.length - (intOf kv).toNat)
          case atStart => exact ⟨0, _, rfl, rfl, Nat.zero_le _, HM0⟩
          case round =>
            obtain ⟨k2, v2, rfl, rfl, hk2, hM⟩ := hrel
            have hk20 : (0 : Int) ≤ (k2 : Int) := by omega
            by_cases hkl : k2 < ms.length
            · have hkl' : (k2 : Int) < (ms.length : Int) := by omega
              have HTK := Lib.hid (once_take (zs := zs) hkl)
              have hzl : (onceL (ms.take k2) zs).length ≤ 800000 := by
                have h1 := once_len (ms.take k2) zs
                rw [List.length_take] at h1
                have := HSZ.out
                omega
              obtain ⟨gm, rfl, hgm, _, _⟩ := hM.out.2.1 k2 hkl
              have HX : Hid (∀ wr', MdS W1 M0 (some ⟨gm, 0, none⟩) ms v2 (onceL (ms.take k2) zs) wr' → wr'.cell? ⟨gm, k2, none⟩ = some (.int .i64 (ms.getD k2 0)) ∧ gm < wr'.heap.size) := Lib.hid (fun wr' h => by
                obtain ⟨g, e, q1, _, q2⟩ := h.2.1 k2 hkl
                cases e
                exact ⟨q2, q1⟩)
              generalize ms.getD k2 0 = X at HTK HX
              generalize hzs : onceL (ms.take k2) zs = zs2 at HTK HX hzl hM
              clear hzs
              obtain ⟨x2, c2, rfl⟩ := hM.out.1.form
              go_wp2_with fail
              go_loopw [7, 8] (fun hv jv wr => ∃ (q : Nat) (b : Bool), hv = .bool b ∧ jv = .int .i64 q ∧ q ≤ zs2.length ∧ Hid (b = decide (X ∈ zs2.take q)) ∧ Hid (MdS W1 M0 (some ⟨gm, 0, none⟩) ms (.slice x2 zs2.length c2) zs2 wr)) (fun _ jv _ => zs2.length - (intOf jv).toNat)
              case atStart => exact ⟨0, false, rfl, rfl, Nat.zero_le _, Lib.hid (by simp), hM⟩
              case round =>
                clear hM hgm
                obtain ⟨q, b, rfl, rfl, hq, hb, hM⟩ := hrel
                have hq0 : (0 : Int) ≤ (q : Int) := by omega
                obtain ⟨cx, cxl⟩ := HX.out _ hM.out
                by_cases hql : q < zs2.length
                · have hql' : (q : Int) < (zs2.length : Int) := by omega
                  obtain ⟨g2, c2', hv, hg1, hg2, hcell⟩ := hM.out.1.at hql
                  obtain ⟨rfl, rfl⟩ : x2 = some ⟨g2, 0, none⟩ ∧ c2 = c2' := by injection hv with h1 h2 h3; exact ⟨h1, h3⟩
                  clear hv
                  have HMT := Lib.hid (mem_take (X := X) hql)
                  generalize hz : zs2.getD q 0 = z at hcell HMT
                  clear hz
                  have HMD : Hid (∀ m, MdS W1 M0 (some ⟨gm, 0, none⟩) ms (.slice (some ⟨g2, 0, none⟩) zs2.length c2) zs2 (wr.drewN m)) := Lib.hid (fun m => hM.out.later (Below.draws (Below.refl _ _) m))
                  cases hbv : b with
                  | true =>
                    have HN : Hid (true = decide (X ∈ zs2.take (q + 1))) := Lib.hid (by rw [HMT.out, ← hb.out, hbv]; rfl)
                    clear hbv
                    go_wp2_with fail
                    go_quiet (fail)
                    go_wp2_with fail
                    go_roundw
                    case rel => exact ⟨q + 1, true, rfl, by go_num, by omega, HN, HMD.out _⟩
                    case measure => simp [intOf]; omega
                  | false =>
                    cases hzx : (z == X) with
                    | true =>
                      have HN : Hid (true = decide (X ∈ zs2.take (q + 1))) := Lib.hid (by rw [HMT.out, hzx, Bool.or_true])
                      clear hbv
                      go_wp2_with fail
                      go_quiet (fail)
                      go_wp2_with fail
                      go_roundw
                      case rel => exact ⟨q + 1, true, rfl, by go_num, by omega, HN, Lib.hid (HMD.out _)⟩
                      case measure => simp [intOf]; omega
                    | false =>
                      have HN : Hid (false = decide (X ∈ zs2.take (q + 1))) := Lib.hid (by rw [HMT.out, hzx, ← hb.out, hbv]; rfl)
                      clear hbv
                      go_wp2_with fail
                      go_quiet (fail)
                      go_wp2_with fail
                      go_roundw
                      case rel => exact ⟨q + 1, false, rfl, by go_num, by omega, HN, Lib.hid (HMD.out _)⟩
                      case measure => simp [intOf]; omega
                · have hql' : ¬ (q : Int) < (zs2.length : Int) := by omega
                  have dq : decide ((q : Int) < (zs2.length : Int)) = false := by simpa using hql'
                  have HBX : Hid (b = decide (X ∈ zs2)) := Lib.hid (by have h := hb.out; rwa [List.take_of_length_le (by omega)] at h)
                  cases hbv : b with
                  | true =>
                    have HI : Hid (onceL (ms.take (k2 + 1)) zs = zs2) := Lib.hid (by rw [HTK.out]; exact ins_old (of_decide_eq_true (HBX.out.symm.trans hbv)))
                    clear hbv
                    go_wp2_with fail
                    go_roundw
                    case rel => exact ⟨k2 + 1, _, rfl, by go_num, by omega, Lib.hid (by rw [HI.out]; exact hM.out)⟩
                    case measure => simp [intOf]; omega
                  | false =>
                    have HI : Hid (onceL (ms.take (k2 + 1)) zs = zs2 ++ [X]) := Lib.hid (by rw [HTK.out]; exact ins_new (of_decide_eq_false (HBX.out.symm.trans hbv)))
                    obtain ⟨g3, c3, w3, hrun, hN⟩ := hM.out.push X (by omega)
                    have HRUN := Lib.hid hrun
                    have HN := Lib.hid hN
                    clear hbv hrun hN
                    go_wp2_with (at_builtin; refine wpList_append_run (by rfl) _ _ _ (by rfl) (by rfl) (by rfl) HRUN.out ?_)
                    go_roundw
                    case rel => exact ⟨k2 + 1, _, rfl, by go_num, by omega, Lib.hid (by rw [HI.out]; exact HN.out)⟩
                    case measure => simp [intOf]; omega
            · have hkl' : ¬ (k2 : Int) < (ms.length : Int) := by omega
              have dk : decide ((k2 : Int) < (ms.length : Int)) = false := by simpa using hkl'
              have HEN : Hid (MdS W1 M0 xm ms v2 (onceL ms zs) wr) := Lib.hid (by have h := hM.out; rwa [List.take_of_length_le (by omega)] at h)
              clear hM
              go_wp2_with fail
              go_roundw
              case rel => exact ⟨j + 1, _, r', _, rfl, by go_num, HSN, Lib.hid (by rw [Ft.app_len, HJ.out]; rfl), Lib.hid (by rw [HNX.out, ← HM0E.out]; exact ⟨HEN.out.1, HEN.out.2.2.1, HEN.out.2.2.2.2⟩)⟩
              case measure => simp [intOf]; omega
end Go.Proofs.Ytcnhfoppfihhiaa
/- Lists of numbers in memory, and whether all are from 0 to 2^40. No condition but those that stand in each statement. -/
namespace Go.Proofs.Ytcnhfoppfihhiaa
open Go.RowKit

/-- The slice (a, cap) holds the numbers. -/
def IntsIn (w : World) (P : Nat → Prop) (l : List Int) (a : Option Addr) (cap : Nat) : Prop :=
  l.length ≤ cap ∧ cap ≤ maxLen ∧ (a = none → cap = 0) ∧ (0 < l.length → ∃ b o, a = some ⟨b, o, none⟩ ∧ P b ∧ ∀ i, i < l.length → w.cell? ⟨b, o + i, none⟩ = some (.int .i64 (l.getD i 0)))
theorem IntsIn.some {w : World} {P : Nat → Prop} {l : List Int} {a : Option Addr} {cap : Nat} (h : IntsIn w P l a cap) (hl : 0 < l.length) :
    ∃ b o, a = .some ⟨b, o, none⟩ ∧ P b ∧ ∀ i, i < l.length → w.cell? ⟨b, o + i, none⟩ = .some (.int .i64 (l.getD i 0)) := h.2.2.2 hl
theorem IntsIn.len {w : World} {P : Nat → Prop} {l : List Int} {a : Option Addr} {cap : Nat} (h : IntsIn w P l a cap) : l.length ≤ 9223372036854775807 := by
  have h1 := h.1
  have h2 := h.2.1
  unfold maxLen at h2
  omega
theorem IntsIn.keep {w w' : World} {P : Nat → Prop} (hP : ∀ b, P b → w'.heap[b]? = w.heap[b]?) {l : List Int} {a : Option Addr} {cap : Nat} (h : IntsIn w P l a cap) : IntsIn w' P l a cap := by
  obtain ⟨h1, h2, h3, h4⟩ := h
  refine ⟨h1, h2, h3, fun hx => ?_⟩
  obtain ⟨b, o, e, hb, hf⟩ := h4 hx
  exact ⟨b, o, e, hb, fun i hi => (World.cell?_of_block (w := w) (hP b hb)).trans (hf i hi)⟩
theorem IntsIn.weak {w : World} {P Q : Nat → Prop} (hB : ∀ b, P b → Q b) {l : List Int} {a : Option Addr} {cap : Nat} (h : IntsIn w P l a cap) : IntsIn w Q l a cap := by
  obtain ⟨h1, h2, h3, h4⟩ := h
  refine ⟨h1, h2, h3, fun hx => ?_⟩
  obtain ⟨b, o, e, hb, hf⟩ := h4 hx
  exact ⟨b, o, e, hB _ hb, hf⟩
theorem IntsIn.below {w w' : World} {B : Nat} {l : List Int} {a : Option Addr} {cap : Nat} (hb : Below B w w') (h : IntsIn w (· < B) l a cap) : IntsIn w' (· < B) l a cap := h.keep (fun b h => hb.block b h)
theorem IntsIn.none (w : World) (P : Nat → Prop) : IntsIn w P [] .none 0 := ⟨Nat.le_refl _, Nat.zero_le _, fun _ => rfl, fun hx => by simp at hx⟩
theorem IntsIn.mk {w : World} {P : Nat → Prop} {l : List Int} {b o cap : Nat} (h1 : l.length ≤ cap) (h2 : cap ≤ 1000000) (hP : P b) (hf : ∀ i, i < l.length → w.cell? ⟨b, o + i, .none⟩ = .some (.int .i64 (l.getD i 0))) : IntsIn w P l (.some ⟨b, o, .none⟩) cap :=
  ⟨h1, (by unfold maxLen; omega), (fun h => by cases h), (fun _ => ⟨b, o, rfl, hP, hf⟩)⟩

/-- All are from 0 to 2^40. -/
def natsB (l : List Int) : Bool := l.all fun x => decide (0 ≤ x) && decide (x ≤ 1099511627776)
theorem natsB_drop {l : List Int} {k : Nat} (h : k < l.length) : natsB (l.drop k) = ((decide (0 ≤ l.getD k 0) && decide (l.getD k 0 ≤ 1099511627776)) && natsB (l.drop (k + 1))) := by
  rw [List.drop_eq_getElem_cons h]
  have : l.getD k 0 = l[k] := by simp [List.getD_eq_getElem?_getD, h]
  rw [this]
  rfl
theorem natsB_end {l : List Int} {k : Nat} (h : ¬ k < l.length) : natsB (l.drop k) = true := by
  rw [List.drop_eq_nil_of_le (by omega)]; rfl
theorem natsB_low {l : List Int} {k : Nat} (h : k < l.length) (h1 : l.getD k 0 < 0) : natsB (l.drop k) = false := by
  rw [natsB_drop h, decide_eq_false (by omega)]; rfl
theorem natsB_high {l : List Int} {k : Nat} (h : k < l.length) (h1 : 1099511627776 < l.getD k 0) : natsB (l.drop k) = false := by
  rw [natsB_drop h, decide_eq_false (p := l.getD k 0 ≤ 1099511627776) (by omega)]; simp
theorem natsB_next {l : List Int} {k : Nat} (h : k < l.length) (h1 : ¬ l.getD k 0 < 0) (h2 : ¬ 1099511627776 < l.getD k 0) : natsB (l.drop k) = natsB (l.drop (k + 1)) := by
  rw [natsB_drop h, decide_eq_true (by omega), decide_eq_true (p := l.getD k 0 ≤ 1099511627776) (by omega)]; rfl
end Go.Proofs.Ytcnhfoppfihhiaa
/- The contract of the document's own question whether two rows of numbers are the same. No condition but that they lie in memory. -/
namespace Go.Proofs.Ytcnhfoppfihhiaa
open Go.RowKit

theorem up_to {p : Nat → Prop} {q : Nat} (h : ∀ k, k < q → p k) (hq : p q) : ∀ k, k < q + 1 → p k := fun k hk => by
  rcases Nat.lt_or_ge k q with h1 | h1
  · exact h k h1
  · obtain rfl : k = q := by omega
    exact hq
/-- Two rows of numbers: are they the same? -/
def eqI (a b : List Int) : Bool := decide (a = b)
theorem eqI_len {a b : List Int} (h : a.length ≠ b.length) : eqI a b = false := decide_eq_false (fun e => h (by rw [e]))
theorem eqI_ne {a b : List Int} {k : Nat} (h : a.getD k 0 ≠ b.getD k 0) : eqI a b = false := decide_eq_false (fun e => h (by rw [e]))
theorem eqI_all {a b : List Int} (hl : a.length = b.length) (h : ∀ k, k < a.length → a.getD k 0 = b.getD k 0) : eqI a b = true := by
  refine decide_eq_true (List.ext_getElem hl fun i h1 h2 => ?_)
  have := h i h1
  simpa [List.getD_eq_getElem?_getD, h1, h2] using this
set_option maxRecDepth 100000 in
set_option maxHeartbeats 1000000 in
theorem ints8_any (l m : List Int) (a b : Option Addr) (ca cb B : Nat) (w : World) (h1 : IntsIn w (· < B) l a ca) (h2 : IntsIn w (· < B) m b cb) (hB : B ≤ w.heap.size) :
    Calls Try.prog 16 #[.slice a l.length ca, .slice b m.length cb] w fun e w' => e = .returned (.bool (eqI l m)) ∧ Below w.heap.size w w' := by
  have hlen := h1.len
  have hlen2 := h2.len
  have H1 := Lib.hid h1
  have H2 := Lib.hid h2
  clear h1 h2
  by_cases hl : l.length = m.length
  · have HL := Lib.hid hl
    have HA := Lib.hid (fun h => eqI_all hl h)
    have HN := Lib.hid (fun k (h : l.getD k 0 ≠ m.getD k 0) => eqI_ne h)
    generalize eqI l m = V at HA HN ⊢
    have d0 : ((m.length : Int) != (m.length : Int)) = false := by simp
    rw [hl]
    clear hl hlen
    go_enter Try.func16, Try.ntmps16
    go_wp2_with fail
    go_loopw [5] (fun qv wr => ∃ q : Nat, qv = .int .i64 q ∧ q ≤ m.length ∧ Hid (∀ k, k < q → l.getD k 0 = m.getD k 0) ∧ Below w.heap.size w wr) (fun qv _ => m.length - (intOf qv).toNat)
    case atStart => exact ⟨0, rfl, Nat.zero_le _, Lib.hid (fun k h => absurd h (by omega)), Below.refl _ _⟩
    case round =>
      obtain ⟨q, rfl, hq, hp, hb⟩ := hrel
      by_cases hql : q < m.length
      · have hq0 : (0 : Int) ≤ (q : Int) := by omega
        have hql' : (q : Int) < (m.length : Int) := by omega
        obtain ⟨g, o, rfl, hg, hc⟩ := H1.out.some (by have := HL.out; omega)
        obtain ⟨g2, o2, rfl, hg2, hc2⟩ := H2.out.some (by omega)
        have e0 := (bcell hb g (o + q) (by omega)).trans (hc q (by have := HL.out; omega))
        have e1 := (bcell hb g2 (o2 + q) (by omega)).trans (hc2 q hql)
        have HBN : Hid (∀ n, Below w.heap.size w (wr.drewN n)) := Lib.hid (fun n => Below.draws hb n)
        clear hc hc2
        by_cases he : l.getD q 0 = m.getD q 0
        · have HE := Lib.hid he
          rw [he] at e0
          clear he
          generalize m.getD q 0 = z at e0 e1
          have dz : (z != z) = false := by simp
          go_wp2_with fail
          go_quiet (fail)
          go_wp2_with fail
          go_roundw
          case rel => exact ⟨q + 1, by go_num, by omega, Lib.hid (up_to (p := fun k => l.getD k 0 = m.getD k 0) hp.out HE.out), HBN.out _⟩
          case measure => simp [intOf]; omega
        · have HE := Lib.hid (HN.out q he)
          have dz : (l.getD q 0 != m.getD q 0) = true := by simpa using he
          generalize m.getD q 0 = z at e0 e1 dz
          generalize l.getD q 0 = z2 at e0 e1 dz
          clear he
          go_wp2_with fail
          go_quiet (fail)
          go_wp2_with fail
          go_ret
          exact ⟨by rw [HE.out]; rfl, HBN.out _⟩
      · have HE := Lib.hid (HA.out (fun k hk => hp.out k (by have := HL.out; omega)))
        go_wp2_with fail
        go_ret
        exact ⟨by rw [HE.out]; rfl, hb⟩
  · have HE := Lib.hid (eqI_len hl)
    have d0 : ((l.length : Int) != (m.length : Int)) = true := by simp; omega
    generalize eqI l m = V at HE ⊢
    clear hl
    go_enter Try.func16, Try.ntmps16
    go_wp2_with fail
    go_ret
    exact ⟨by rw [HE.out]; rfl, Below.refl _ _⟩
end Go.Proofs.Ytcnhfoppfihhiaa
/- A row of numbers of the call's own, read as a list of numbers, in its world and in all later ones. No condition but those that stand in each statement. -/
namespace Go.Proofs.Ytcnhfoppfihhiaa
open Go.RowKit

theorem IOwn.ints {w : World} {base : Nat} {x : Option Addr} {c : Nat} {zs : List Int} (h : IOwn w base (.slice x zs.length c) zs) : IntsIn w (· < w.heap.size) zs x c := by
  rcases h.2 with ⟨e, h0⟩ | ⟨g, cap, cur, e, hb, hh, hle, hm, _⟩
  · injection e with e1 _ e3
    subst e1 e3
    exact ⟨by omega, Nat.zero_le _, fun _ => rfl, fun hx => by omega⟩
  · injection e with e1 _ e3
    subst e1 e3
    refine ⟨hle, hm, (fun e => by cases e), fun _ => ⟨g, 0, rfl, lt_of_block hh, fun i hi => ?_⟩⟩
    obtain ⟨g', c', hv, _, _, hc⟩ := h.at hi
    injection hv with h1 _ _
    injection h1 with h1
    injection h1 with h1 _ _
    subst h1
    rw [Nat.zero_add]
    exact hc
/-- A row of numbers that lies in a world, and in all later ones. -/
def RowL (zs : List Int) (x : Option Addr) (c : Nat) (w : World) : Prop := ∀ W, Below w.heap.size w W → IntsIn W (· < w.heap.size) zs x c ∧ w.heap.size ≤ W.heap.size
theorem RowL.of {zs : List Int} {x : Option Addr} {c base : Nat} {w : World} (h : IOwn w base (.slice x zs.length c) zs) : RowL zs x c w := fun _ hb => ⟨h.ints.below hb, hb.size⟩
end Go.Proofs.Ytcnhfoppfihhiaa
/- Terms in memory, and in variables: what the texts of the laws speak of. No condition. -/
namespace Go.Proofs.Ytcnhfoppfihhiaa
open Go.RowKit

def smT (T : Tm) : Prop := T.ks.size ≤ 1000000 ∧ T.ks.lvsz 1000000 ∧ T.ls.size ≤ 1000000
/-- A term in memory: its two slices. -/
def TmIn (W : World) (B : Nat) (T : Tm) (la : Option Addr) (lc : Nat) (ka : Option Addr) (kc : Nat) : Prop := SlIn W (· < B) T.ls la lc ∧ TlIn W (· < B) T.ks ka kc ∧ B ≤ W.heap.size
theorem TmIn.later {W W' : World} {B : Nat} {T : Tm} {la : Option Addr} {lc : Nat} {ka : Option Addr} {kc : Nat} (h : TmIn W B T la lc ka kc) (hb : Below W.heap.size W W') : TmIn W' B T la lc ka kc :=
  ⟨h.1.below (hb.mono h.2.2), h.2.1.below (hb.mono h.2.2), Nat.le_trans h.2.2 hb.size⟩
/-- A term in a variable: the box at the block N. -/
def TmBox (W : World) (N : Nat) (T : Tm) (la : Option Addr) (lc : Nat) (ka : Option Addr) (kc : Nat) : Prop := W.heap[N]? = some (.cells #[.int .i64 T.k, .int .i64 T.n, .slice la T.ls.len lc, .slice ka T.ks.len kc] 29 (0, 0)) ∧ TmIn W N T la lc ka kc
theorem TmBox.later {W W' : World} {N : Nat} {T : Tm} {la : Option Addr} {lc : Nat} {ka : Option Addr} {kc : Nat} (h : TmBox W N T la lc ka kc) (hb : Below W.heap.size W W') : TmBox W' N T la lc ka kc :=
  ⟨(hb.block _ (lt_of_block h.1)).trans h.1, h.2.later hb⟩
theorem TmBox.new {W : World} {T : Tm} {la : Option Addr} {lc : Nat} {ka : Option Addr} {kc : Nat} (h : TmIn W W.heap.size T la lc ka kc) : TmBox (W.alloc (.cells #[.int .i64 T.k, .int .i64 T.n, .slice la T.ls.len lc, .slice ka T.ks.len kc] 29)) W.heap.size T la lc ka kc :=
  ⟨heap_new _ _, h.later ((Below.refl _ _).alloc (Nat.le_refl _) _)⟩
theorem TmBox.cells {W : World} {N : Nat} {T : Tm} {la : Option Addr} {lc : Nat} {ka : Option Addr} {kc : Nat} (h : TmBox W N T la lc ka kc) : W.cell? ⟨N, 0, none⟩ = some (.int .i64 T.k) ∧ W.cell? ⟨N, 1, none⟩ = some (.int .i64 T.n) ∧ W.cell? ⟨N, 2, none⟩ = some (.slice la T.ls.len lc) ∧ W.cell? ⟨N, 3, none⟩ = some (.slice ka T.ks.len kc) := cells4 h.1
theorem TmBox.lt {W : World} {N : Nat} {T : Tm} {la : Option Addr} {lc : Nat} {ka : Option Addr} {kc : Nat} (h : TmBox W N T la lc ka kc) : N < W.heap.size := lt_of_block h.1
theorem one_refl (A : Tm) : decide (Ft.cons A.k A.n A.ls A.ks .nil = Ft.cons A.k A.n A.ls A.ks .nil) = true := decide_eq_true rfl
end Go.Proofs.Ytcnhfoppfihhiaa
/- The contract of the document's own Same: whether two levels are the same. -/
namespace Go.Proofs.Ytcnhfoppfihhiaa
open Go.RowKit

/-- What the region of the call holds on to, in a world that is only more. -/
theorem heldT {wr w' : World} {x y b b' o o' j cap cap' cap1 cap2 L : Nat} {k1 n1 k2 n2 : Int} {a1 a2 : Option Addr} {l l' : Nat} (hb : Below wr.heap.size wr w') (hx : x < wr.heap.size) (hy : y < wr.heap.size) (h1 : b < wr.heap.size) (h2 : b' < wr.heap.size)
    (c2 : wr.cell? ⟨x, 2, none⟩ = some (.slice (some ⟨b, o, none⟩) L cap)) (c5 : wr.cell? ⟨y, 2, none⟩ = some (.slice (some ⟨b', o', none⟩) L cap'))
    (e0 : wr.cell? ⟨b, o + j * 3, none⟩ = some (.int .i64 k1)) (e1 : wr.cell? ⟨b, o + j * 3 + 1, none⟩ = some (.int .i64 n1)) (e2 : wr.cell? ⟨b, o + j * 3 + 2, none⟩ = some (.slice a1 l cap1))
    (e3 : wr.cell? ⟨b', o' + j * 3, none⟩ = some (.int .i64 k2)) (e4 : wr.cell? ⟨b', o' + j * 3 + 1, none⟩ = some (.int .i64 n2)) (e5 : wr.cell? ⟨b', o' + j * 3 + 2, none⟩ = some (.slice a2 l' cap2)) :
    Hid (Below wr.heap.size wr w') ∧ w'.cell? ⟨x, 2, none⟩ = some (.slice (some ⟨b, o, none⟩) L cap) ∧ w'.cell? ⟨y, 2, none⟩ = some (.slice (some ⟨b', o', none⟩) L cap') ∧
      w'.cell? ⟨b, o + j * 3, none⟩ = some (.int .i64 k1) ∧ w'.cell? ⟨b, o + j * 3 + 1, none⟩ = some (.int .i64 n1) ∧ w'.cell? ⟨b, o + j * 3 + 2, none⟩ = some (.slice a1 l cap1) ∧
      w'.cell? ⟨b', o' + j * 3, none⟩ = some (.int .i64 k2) ∧ w'.cell? ⟨b', o' + j * 3 + 1, none⟩ = some (.int .i64 n2) ∧ w'.cell? ⟨b', o' + j * 3 + 2, none⟩ = some (.slice a2 l' cap2) :=
  ⟨Lib.hid hb, (bcell hb _ _ hx).trans c2, (bcell hb _ _ hy).trans c5, (bcell hb _ _ h1).trans e0, (bcell hb _ _ h1).trans e1, (bcell hb _ _ h1).trans e2, (bcell hb _ _ h2).trans e3, (bcell hb _ _ h2).trans e4, (bcell hb _ _ h2).trans e5⟩

set_option maxRecDepth 100000 in
set_option maxHeartbeats 2000000 in
theorem rSame_any (s : Nat) : ∀ (f g : Fo), f.size < s → ∀ (k n k' n' : Int) (a a' : Option Addr) (cap cap' B : Nat) (w : World), SlIn w (· < B) f a cap → SlIn w (· < B) g a' cap' → B ≤ w.heap.size →
    Calls Try.prog 27 #[.agg #[.int .i64 k, .int .i64 n, .slice a f.len cap], .agg #[.int .i64 k', .int .i64 n', .slice a' g.len cap']] w fun e w' => e = .returned (.bool (decide (k = k' ∧ n = n' ∧ f = g))) ∧ Below w.heap.size w w' := by
  induction s with
  | zero => intro f g hs; omega
  | succ s ih =>
    intro f g hs k n k' n' a a' cap cap' B w hsl hsl' hB
    have IH := Lib.hid ih
    clear ih
    have hlen := hsl.len
    have hlen' := hsl'.len
    have hbx : Below w.heap.size w ((w.alloc (.cells #[.int .i64 k, .int .i64 n, .slice a f.len cap] 38)).alloc (.cells #[.int .i64 k', .int .i64 n', .slice a' g.len cap'] 38)) := ((Below.refl _ _).alloc (Nat.le_refl _) _).alloc (by simp) _
    by_cases h1 : k = k'
    · by_cases h2 : n = n'
      · by_cases h3 : f.len = g.len
        · subst h1 h2
          have HP : Hid (decide (k = k ∧ n = n ∧ f = g) = decide (f = g)) := Lib.hid (by simp)
          rw [HP.out]
          obtain ⟨L, hLf, hLg⟩ : ∃ L, f.len = L ∧ g.len = L := ⟨_, h3, rfl⟩
          have H3 := Lib.hid hLf
          have HL := Lib.hid hLg
          rw [hLf] at hlen
          rw [hLf, hLg] at hbx
          rw [hLf, hLg]
          clear h3 hLf hLg HP hlen'
          go_enter Try.func27, Try.ntmps27
          go_wp2_with fail
          go_loopw [5] (fun i wr => ∃ (j : Nat) (r r' : Fo), i = .int .i64 j ∧ Hid (j + r.len = L) ∧ Hid (r.len = r'.len) ∧ Hid (r.size ≤ f.size) ∧
              Hid (∀ b o, a = some ⟨b, o, none⟩ → FoIn w (· < B) r b (o + j * 3)) ∧ Hid (∀ b o, a' = some ⟨b, o, none⟩ → FoIn w (· < B) r' b (o + j * 3)) ∧ Hid (decide (f = g) = decide (r = r')) ∧
              Below (w.heap.size + 2) ((w.alloc (.cells #[.int .i64 k, .int .i64 n, .slice a L cap] 38)).alloc (.cells #[.int .i64 k, .int .i64 n, .slice a' L cap'] 38)) wr)
            (fun i _ => L - (intOf i).toNat)
          case atStart => exact ⟨0, f, g, rfl, Lib.hid (by rw [H3.out]; omega), Lib.hid (by rw [H3.out, HL.out]), Lib.hid (Nat.le_refl _), Lib.hid (by rintro b o rfl; simpa using hsl.foIn), Lib.hid (by rintro b o rfl; simpa using hsl'.foIn), Lib.hid rfl, Below.refl _ _⟩
          case round =>
            obtain ⟨j, r, r', rfl, hj, hjj, hrs, hin, hin', heq, hb⟩ := hrel
            have c2 := bcell hb w.heap.size 2 (by omega)
            have c5 := bcell hb (w.heap.size + 1) 2 (by omega)
            simp at c2 c5
            have hwB : Below B w wr := (hbx.mono hB).trans (hb.mono (by omega))
            have hwW : Below w.heap.size w wr := hbx.trans (hb.mono (by omega))
            have HSZ : Hid (w.heap.size + 2 ≤ wr.heap.size) := Lib.hid (by have := hb.size; simpa using this)
            match r, r' with
            | .nil, .cons .. => have := hjj.out; simp [Fo.len] at this
            | .cons .., .nil => have := hjj.out; simp [Fo.len] at this
            | .nil, .nil =>
              have hlt : ¬ (j : Int) < (L : Int) := by have := hj.out; simp [Fo.len] at this; omega
              have d' : decide ((j : Int) < (L : Int)) = false := by simpa using hlt
              go_wp2_with fail
              go_ret
              exact ⟨by rw [heq.out]; rfl, hwW⟩
            | .cons k1 n1 ks r1, .cons k2 n2 ks' r2 =>
              have hlt : j < L := by have := hj.out; simp [Fo.len] at this; omega
              obtain ⟨b, o, rfl, hbB, _⟩ := hsl.some (by rw [H3.out]; omega)
              obtain ⟨b', o', rfl, hbB', _⟩ := hsl'.some (by rw [HL.out]; omega)
              obtain ⟨e0, e1, ⟨a1, cap1, e2, hsl1⟩, _⟩ := (hin.out b o rfl).below hwB _ _ _ hbB |>.first
              obtain ⟨e3, e4, ⟨a2, cap2, e5, hsl2⟩, _⟩ := (hin'.out b' o' rfl).below hwB _ _ _ hbB' |>.first
              have hks : ks.size < s := by have := hrs.out; simp [Fo.size] at this; omega
              have HC : Hid (∀ v, decide (k1 = k2 ∧ n1 = n2 ∧ ks = ks') = v → decide (Fo.cons k1 n1 ks r1 = Fo.cons k2 n2 ks' r2) = (v && decide (r1 = r2))) := Lib.hid (by
                rintro v rfl
                rw [Bool.eq_iff_iff]
                simp [and_assoc])
              have C1 := Lib.hid (fun W h1 h2 h3 => IH.out ks ks' hks k1 n1 k2 n2 a1 a2 cap1 cap2 B W h1 h2 h3)
              generalize hv : decide (k1 = k2 ∧ n1 = n2 ∧ ks = ks') = v at C1
              have HC' := Lib.hid (HC.out v hv)
              clear HC hv
              have hlt' : (j : Int) < (L : Int) := by omega
              go_wp2_with fail
              go_region_held3 (fun w' => Hid (Below wr.heap.size wr w') ∧ w'.cell? ⟨w.heap.size, 2, none⟩ = some (.slice (some ⟨b, o, none⟩) L cap) ∧ w'.cell? ⟨w.heap.size + 1, 2, none⟩ = some (.slice (some ⟨b', o', none⟩) L cap') ∧
                  w'.cell? ⟨b, o + j * 3, none⟩ = some (.int .i64 k1) ∧ w'.cell? ⟨b, o + j * 3 + 1, none⟩ = some (.int .i64 n1) ∧ w'.cell? ⟨b, o + j * 3 + 2, none⟩ = some (.slice a1 ks.len cap1) ∧
                  w'.cell? ⟨b', o' + j * 3, none⟩ = some (.int .i64 k2) ∧ w'.cell? ⟨b', o' + j * 3 + 1, none⟩ = some (.int .i64 n2) ∧ w'.cell? ⟨b', o' + j * 3 + 2, none⟩ = some (.slice a2 ks'.len cap2))
                (first | exact ⟨Lib.hid (Below.refl _ _).drew, c2, c5, e0, e1, e2, e3, e4, e5⟩ | exact heldT (Below.step (Below.refl _ _).drew hbN (Nat.le_refl _)) (by have := HSZ.out; omega) (by have := HSZ.out; omega) (by have := HSZ.out; omega) (by have := HSZ.out; omega) c2 c5 e0 e1 e2 e3 e4 e5)
                (first | (go_at_call 27; refine (C1.out _ (by exact hsl1.below (Below.refl _ _).drew) (by exact hsl2.below (Below.refl _ _).drew) (by exact Nat.le_trans hB hwB.size)).mono ?_; rintro e wN ⟨rfl, hbN⟩))
              have hbE := Lib.hid (Below.step hb (Below.step (Below.refl _ _).drew hbN (Nat.le_refl _)) (by simp))
              have hwE := Lib.hid (Below.step hwW (Below.step (Below.refl _ _).drew hbN (Nat.le_refl _)) (Nat.le_refl _))
              clear c2 c5 e0 e1 e2 e3 e4 e5
              cases v with
              | true =>
                go_wp2_with fail
                go_roundw
                case rel => exact ⟨j + 1, r1, r2, by go_num, Lib.hid (by have := hj.out; simp [Fo.len] at this; omega), Lib.hid (by have := hjj.out; simpa [Fo.len] using this), Lib.hid (by have := hrs.out; simp [Fo.size] at this; omega), Lib.hid (by rintro b' o' h; cases h; have := (hin.out b o rfl).2.2.2; rwa [show o + (j + 1) * 3 = o + j * 3 + 3 by omega]), Lib.hid (by rintro b1 o1 h; cases h; have := (hin'.out b' o' rfl).2.2.2; rwa [show o' + (j + 1) * 3 = o' + j * 3 + 3 by omega]), Lib.hid (by rw [heq.out, HC'.out]; rfl), hbE.out⟩
                case measure => simp [intOf]; omega
              | false =>
                go_wp2_with fail
                go_ret
                exact ⟨by rw [heq.out, HC'.out]; rfl, hwE.out⟩
        · have d3 : ((f.len : Int) != (g.len : Int)) = true := by rw [bne_iff_ne]; omega
          have e : decide (k = k' ∧ n = n' ∧ f = g) = false := decide_eq_false (fun h => h3 (by rw [h.2.2]))
          rw [e]
          subst h1 h2
          clear e h3
          go_enter Try.func27, Try.ntmps27
          go_wp2_with fail
          go_ret
          exact ⟨rfl, hbx⟩
      · have d2 : (n != n') = true := by rw [bne_iff_ne]; exact h2
        have e : decide (k = k' ∧ n = n' ∧ f = g) = false := decide_eq_false (fun h => h2 h.2.1)
        rw [e]
        subst h1
        clear e h2
        go_enter Try.func27, Try.ntmps27
        go_wp2_with fail
        go_ret
        exact ⟨rfl, hbx⟩
    · have d1 : (k != k') = true := by rw [bne_iff_ne]; exact h1
      have e : decide (k = k' ∧ n = n' ∧ f = g) = false := decide_eq_false (fun h => h1 h.1)
      rw [e]
      clear e h1
      go_enter Try.func27, Try.ntmps27
      go_wp2_with fail
      go_ret
      exact ⟨rfl, hbx⟩
end Go.Proofs.Ytcnhfoppfihhiaa
