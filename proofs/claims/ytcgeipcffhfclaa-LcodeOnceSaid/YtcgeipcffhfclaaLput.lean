/- The contracts of appendNumber, appendLevel and Put: a level's bytes behind those that are there already; a right level's bytes, or the refusal. -/
import Derived.Test.YtcgeipcffhfclaaLspec
import Derived.Test.YtcgeipcffhfclaaPut
import Derived.Test.YtcgeipcffhfclaaRight
import Derived.Test.YtcgeipcffhfclaaCell
import Derived.Lib.AppendStr
namespace Go.Proofs.Ytcgeipcffhfclaa
open Go.RowKit

/-- The cells of bytes. -/
def u8s (l : List Int) : List Value := l.map (Value.int .u8)
def InU8 (l : List Int) : Prop := ∀ x ∈ l, 0 ≤ x ∧ x < 256
theorem strCells_nums {l : List Int} (h : InU8 l) : Lib.strCells (strOfNums l) = u8s l := by
  rw [strOfNums_eq]
  unfold Lib.strCells u8s bys
  simp only [List.map_map]
  apply List.map_congr_left
  intro x hx
  have := h x hx
  have e : (UInt8.ofNat x.toNat).toNat = x.toNat := ofNat_toNat (by omega)
  simp only [Function.comp, e]
  rw [show ((x.toNat : Nat) : Int) = x by omega]
theorem enc_in : ∀ n : Nat, InU8 (enc n) := by
  intro n
  induction n using Nat.strongRecOn with
  | _ n ih =>
    intro x hx
    by_cases h : n < 128
    · rw [enc_small h] at hx
      simp at hx; omega
    · rw [enc_more h] at hx
      rcases List.mem_cons.1 hx with rfl | hx
      · omega
      · exact ih (n / 128) (by omega) x hx
theorem u8s_len (l : List Int) : (u8s l).length = l.length := by simp [u8s]
theorem u8s_append (a b : List Int) : u8s (a ++ b) = u8s a ++ u8s b := by simp [u8s]

/-- The new slice lies where the old one did, or in a new block. -/
def Near (w : World) (v v' : Value) : Prop := v'.ownBlock = v.ownBlock ∨ ∀ k, v'.ownBlock = some k → w.heap.size ≤ k
theorem Near.trans {w w1 : World} {v v1 v2 : Value} (h : Near w v v1) (hz : w.heap.size ≤ w1.heap.size) (k : Near w1 v1 v2) : Near w v v2 := by
  rcases k with k | k
  · rcases h with h | h
    · exact .inl (k.trans h)
    · exact .inr (fun x hx => h x (k ▸ hx))
  · exact .inr (fun x hx => Nat.le_trans hz (k x hx))
theorem grown_trans {w w1 w2 : World} {v v1 : Value} (h : w.grownBy w1 v.ownBlock) (hn : Near w v v1) (k : w1.grownBy w2 v1.ownBlock) : w.grownBy w2 v.ownBlock :=
  ⟨k.os.trans h.os, k.tape.trans h.tape, k.output.trans h.output, Nat.le_trans h.size k.size, fun i hi hne => (k.block i (Nat.lt_of_lt_of_le hi h.size) (by
    rcases hn with hn | hn
    · rw [hn]; exact hne
    · intro e
      have := hn i e.symm
      omega)).trans (h.block i hi hne)⟩
theorem grown_below {w w1 : World} {row : Option Nat} (h : Below w.heap.size w w1) : w.grownBy w1 row := ⟨h.os, h.tape, h.output, h.size, fun i hi _ => h.block i hi⟩
theorem grown_after {w w1 w2 : World} {row : Option Nat} (h : w.grownBy w1 row) (k : w1.grownBy w2 row) : w.grownBy w2 row :=
  ⟨k.os.trans h.os, k.tape.trans h.tape, k.output.trans h.output, Nat.le_trans h.size k.size, fun i hi hne => (k.block i (Nat.lt_of_lt_of_le hi h.size) hne).trans (h.block i hi hne)⟩

/-- THE APPEND of a string behind a row of the call's own: it runs, and where the new row lies. -/
theorem append_str {w : World} {base n : Nat} {v : Value} {xs : List Value} (ty : TypeId) (hown : w.ownsRow base 5 1 v n xs) (s : ByteArray) (hz : n + s.size ≤ 10000000) (hbase : base ≤ w.heap.size) :
    ∃ v' w', (Builtin.append_ #[24, 9] ty #[v, .string s]).run Try.prog w = .ok v' w' ∧ w'.ownsRow base 5 1 v' (n + s.size) (xs ++ Lib.strCells s) ∧ w.grownBy w' v.ownBlock ∧ Near w v v' := by
  obtain ⟨i0, hi, hz0, hz1, hz2⟩ := info_parts infoU8
  obtain ⟨v', w', h1, h2, h3, _⟩ := Lib.run_append_own_string (P := Try.prog) w base 24 9 ty 5 i0 Try.underlying24 Try.underlying9 hi hz0 hz1 hz2 v n xs hown s (by unfold maxLen; omega) (by omega) hbase
  refine ⟨v', w', h1, h2, h3, ?_⟩
  rcases hown.2 with ⟨rfl, rfl⟩ | ⟨g, cap, cur, rfl, hbg, hg, hnc, hcm, hcs, htake⟩
  · have hxs : xs = [] := List.eq_nil_of_length_eq_zero (by simpa using hown.1)
    subst hxs
    obtain ⟨v2, w2, k1, k2, _, _⟩ := Lib.run_append_own_string (P := Try.prog) w w.heap.size 24 9 ty 5 i0 Try.underlying24 Try.underlying9 hi hz0 hz1 hz2 _ 0 [] (World.ownsRow_nil w _ _ _) s (by unfold maxLen; omega) (by omega) (Nat.le_refl _)
    rw [k1] at h1
    injection h1 with h1 _
    subst h1
    exact .inr (fun k hk => (k2.lt k hk).1)
  · by_cases hroom : n + s.size ≤ cap
    · have hcs' : cur.size = cap := by simpa using hcs
      have hr := Lib.run_append_room_string (P := Try.prog) w 24 9 ty 5 i0 Try.underlying24 Try.underlying9 hi hz1 g n cap cur hg s hroom (by omega)
      rw [hr] at h1
      injection h1 with h1 _
      subst h1
      exact .inl rfl
    · have hxl : xs.length = n := by simpa using hown.1
      have holds : ∀ j u, xs[j]? = some u → w.cell? ((⟨g, 0, none⟩ : Addr).add j) = some u := hown.cells (g := g) rfl
      have hr := Lib.run_append_grow_string (P := Try.prog) w 24 9 ty 5 i0 (.int .u8 0) Try.underlying24 Try.underlying9 hi hz0 ⟨g, 0, none⟩ n cap xs (by rw [hz1]; simpa using hxl) holds s (by omega) (by omega) (by rw [hz2]; exact growslice_fits (by omega) (by omega))
      rw [hr] at h1
      injection h1 with h1 _
      subst h1
      exact .inr (fun k hk => by simp [Value.ownBlock] at hk; omega)

/-- An append of a string in a plain region, by what it comes to. -/
theorem wpList_append2_run {P : Program} {ops : Array Oper} {rest : List Oper} {o : Oper} {a : Act} {w w' : World} {Q : Exit → Act → World → Prop} {v y v' : Value} (hgd : o.guard = none) (s x : Operand) (t u : TypeId)
    (ho : o.op = .call { callee := .builtin .append, args := #[s, x], argTypes := #[t, u] }) (hs : a.eval s = v) (hx : a.eval x = y) (hrun : (Builtin.append_ #[t, u] o.type #[v, y]).run P w = .ok v' w') (h : wpList P ops Q rest (a.put o.dst v') w') :
    wpList P ops Q (o :: rest) a w := by
  refine wpList_plain hgd fun K hK => ?_
  unfold Oper.wp execOp
  simp only [ho, resolve, invoke, builtin, Sem.run_bind, Sem.run_pure, Result.andThen_ok, List.map_toArray, List.map_cons, List.map_nil, hs, hx, hrun]
  exact hK _ _ h

/-- What an append of bytes answers. -/
def ApOk (w : World) (base : Nat) (v : Value) (pre l : List Int) (e : Ending) (w' : World) : Prop :=
  ∃ v', e = .returned v' ∧ w'.ownsRow base 5 1 v' (pre ++ l).length (u8s (pre ++ l)) ∧ w.grownBy w' v.ownBlock ∧ Near w v v'
theorem owns_kept {w w' : World} {base : Nat} {v : Value} {pre : List Int} (h : w.ownsRow base 5 1 v pre.length (u8s pre)) (hb : Below w.heap.size w w') : w'.ownsRow base 5 1 v pre.length (u8s pre) := by
  cases hv : v.ownBlock with
  | none => exact h.kept (row := none) (grown_below hb) (.inl hv)
  | some k => exact h.kept (row := none) (grown_below hb) (.inr (by rw [hv]; simp))

set_option maxRecDepth 100000 in
set_option maxHeartbeats 1000000 in
theorem appNum_any (N : Nat) (hN : N ≤ 1099511627776) (base : Nat) (v : Value) (pre : List Int) (w : World) (hown : w.ownsRow base 5 1 v pre.length (u8s pre)) (hbase : base ≤ w.heap.size) (hl : pre.length ≤ 1000000) :
    Calls Try.prog 30 #[v, .int .i64 N] w (ApOk w base v pre (enc N)) := by
  go_enter Try.func30, Try.ntmps30
  go_wp2_with fail
  refine (put_any N hN _).mono ?_
  rintro e w1 ⟨rfl, hb1⟩
  have hsz := enc_len6 hN
  obtain ⟨v', w2, hr, h2, h3, h4⟩ := append_str 24 (owns_kept hown hb1) (strOfNums (enc N)) (by rw [strOfNums_size]; omega) (Nat.le_trans hbase hb1.size)
  have HR := Lib.hid hr
  rw [strOfNums_size, strCells_nums (enc_in N), ← u8s_append, ← List.length_append] at h2
  have HE : Hid (ApOk w base v pre (enc N) (.returned v') w2) := Lib.hid ⟨v', rfl, h2, grown_after (grown_below hb1) h3, by
    rcases h4 with h4 | h4
    · exact .inl h4
    · exact .inr (fun k hk => Nat.le_trans hb1.size (h4 k hk))⟩
  clear hr h2 h3 h4
  go_wp2_with (at_builtin; refine wpList_append2_run (by rfl) _ _ _ _ (by rfl) (by rfl) (by rfl) HR.out ?_)
  go_ret
  exact HE.out
end Go.Proofs.Ytcgeipcffhfclaa
