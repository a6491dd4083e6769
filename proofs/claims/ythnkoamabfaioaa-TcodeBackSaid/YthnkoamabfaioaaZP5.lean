/- The program's own table of readings and its reader's block: what lies there, what is found in the table, and what fail, follow, number and numberBelow answer. No condition but those that stand in each statement. -/
import Derived.Test.YthnkoamabfaioaaZP4
import Derived.Test.YthnkoamabfaioaaLspec
import Derived.Test.YthnkoamabfaioaaGet
import Derived.Test.YthnkoamabfaioaaCell
import Derived.Deep.QuietTactic
import Derived.BigQuiet
import Derived.Test.YthnkoamabfaioaaUrl
import Derived.Test.YthnkoamabfaioaaLget3
import Derived.Test.YthnkoamabfaioaaUspec
import Derived.Test.YthnkoamabfaioaaLerr
import Derived.Test.YthnkoamabfaioaaUlie
import Derived.Test.YthnkoamabfaioaaTmix
namespace Go.Proofs.Ythnkoamabfaioaa
open Go.RowKit

/-- The table. -/
def xTab : Array MapEntry := #[⟨.int .i64 1, .func (.func 42) #[] #[], 0⟩, ⟨.int .i64 2, .func (.func 43) #[] #[], 1⟩, ⟨.int .i64 3, .func (.func 44) #[] #[], 2⟩, ⟨.int .i64 4, .func (.func 45) #[] #[], 3⟩,
  ⟨.int .i64 5, .func (.func 46) #[] #[], 4⟩, ⟨.int .i64 6, .func (.func 46) #[] #[], 5⟩, ⟨.int .i64 7, .func (.func 47) #[] #[], 6⟩]
theorem run_xins (W : World) (r : Nat) (es : Array MapEntry) (clock : Nat) (k : Int) (val : Value) (hb : W.heap[r]? = some (.map es clock)) (hf : Instr.findNow (.int .i64) (.int .i64 k) es.toList 0 = some none) :
    (Instr.mapUpdate 58 (.map (some r)) (.int .i64 k) val).run Try.prog W = .ok () (mset W r (.map (es.push { key := .int .i64 k, val := val, born := clock }) (clock + 1))) := by
  have hc : (Instr.checkKey false 10000 3 (.int .i64 k)).run Try.prog W = .ok () W := MapKept.run_checkKey (k := .int .i64 k) Try.underlying3 (by simp [MapKept.IsKey]) false 9999
  simp only [Instr.mapUpdate, Sem.run_bind, run_underlying Try.underlying58, MapKept.run_getObj_map hb, hc, MapKept.run_findKey Try.underlying3 hf, MapKept.run_setObj_map _ hb, Result.andThen]
  rfl
set_option maxRecDepth 100000 in
set_option maxHeartbeats 4000000 in
theorem xReads_any (w : World) : Calls Try.prog 28 #[] w fun e w' => e = .returned (.map (some w.heap.size)) ∧ w' = w.alloc (.map xTab 7) := by
  have hmm := @run_makeMap Try.prog
  have i0 : ∀ (es : Array MapEntry) (c : Nat) (k : Int) (v : Value), Instr.findNow (.int .i64) (.int .i64 k) es.toList 0 = some none → (Instr.mapUpdate 58 (.map (some w.heap.size)) (.int .i64 k) v).run Try.prog (w.alloc (.map es c)) = .ok () (w.alloc (.map (es.push { key := .int .i64 k, val := v, born := c }) (c + 1))) := fun es c k v hf => by
    rw [run_xins _ _ es c k v (map_new w es c) hf, mset_new]
  have h1 := fun v => i0 #[] 0 1 v rfl
  have h2 := fun v1 v => i0 #[⟨.int .i64 1, v1, 0⟩] 1 2 v rfl
  have h3 := fun v1 v2 v => i0 #[⟨.int .i64 1, v1, 0⟩, ⟨.int .i64 2, v2, 1⟩] 2 3 v rfl
  have h4 := fun v1 v2 v3 v => i0 #[⟨.int .i64 1, v1, 0⟩, ⟨.int .i64 2, v2, 1⟩, ⟨.int .i64 3, v3, 2⟩] 3 4 v rfl
  have h5 := fun v1 v2 v3 v4 v => i0 #[⟨.int .i64 1, v1, 0⟩, ⟨.int .i64 2, v2, 1⟩, ⟨.int .i64 3, v3, 2⟩, ⟨.int .i64 4, v4, 3⟩] 4 5 v rfl
  have h6 := fun v1 v2 v3 v4 v5 v => i0 #[⟨.int .i64 1, v1, 0⟩, ⟨.int .i64 2, v2, 1⟩, ⟨.int .i64 3, v3, 2⟩, ⟨.int .i64 4, v4, 3⟩, ⟨.int .i64 5, v5, 4⟩] 5 6 v rfl
  have h7 := fun v1 v2 v3 v4 v5 v6 v => i0 #[⟨.int .i64 1, v1, 0⟩, ⟨.int .i64 2, v2, 1⟩, ⟨.int .i64 3, v3, 2⟩, ⟨.int .i64 4, v4, 3⟩, ⟨.int .i64 5, v5, 4⟩, ⟨.int .i64 6, v6, 5⟩] 6 7 v rfl
  clear i0
  go_enter Try.func28, Try.ntmps28
  go_wp2_with fail
  go_ret
  exact ⟨rfl, rfl⟩
/-- What is found in the table at a kind. -/
def xFn (k : Nat) : Nat := if k = 1 then 42 else if k = 2 then 43 else if k = 3 then 44 else if k = 4 then 45 else if k = 7 then 47 else 46
theorem run_xlook (W : World) (r : Nat) (hb : W.heap[r]? = some (.map xTab 7)) (k : Nat) (h1 : 1 ≤ k) (h7 : k ≤ 7) :
    (Instr.lookup 58 (.map (some r)) (.int .i64 k) true).run Try.prog W = .ok (.tuple #[.func (.func (xFn k)) #[] #[], .bool true]) W := by
  have hc : (Instr.checkKey xTab.isEmpty 10000 3 (.int .i64 k)).run Try.prog W = .ok () W := MapKept.run_checkKey (k := .int .i64 k) Try.underlying3 (by simp [MapKept.IsKey]) _ 9999
  have hf : ∃ i, Instr.findNow (.int .i64) (.int .i64 k) xTab.toList 0 = some (some (i, .func (.func (xFn k)) #[] #[])) := by
    have hc : k = 1 ∨ k = 2 ∨ k = 3 ∨ k = 4 ∨ k = 5 ∨ k = 6 ∨ k = 7 := by omega
    rcases hc with rfl | rfl | rfl | rfl | rfl | rfl | rfl
    · exact ⟨0, rfl⟩
    · exact ⟨1, rfl⟩
    · exact ⟨2, rfl⟩
    · exact ⟨3, rfl⟩
    · exact ⟨4, rfl⟩
    · exact ⟨5, rfl⟩
    · exact ⟨6, rfl⟩
  obtain ⟨i, hf⟩ := hf
  simp [Instr.lookup, run_underlying Try.underlying58, MapKept.run_getObj_map hb, hc, MapKept.run_findKey Try.underlying3 hf, Result.andThen]
theorem run_xlook_no (W : World) (r : Nat) (hb : W.heap[r]? = some (.map xTab 7)) (k : Nat) (hk : k = 0 ∨ 7 < k) :
    (Instr.lookup 58 (.map (some r)) (.int .i64 k) true).run Try.prog W = .ok (.tuple #[.nilFunc, .bool false]) W := by
  have hc : (Instr.checkKey xTab.isEmpty 10000 3 (.int .i64 k)).run Try.prog W = .ok () W := MapKept.run_checkKey (k := .int .i64 k) Try.underlying3 (by simp [MapKept.IsKey]) _ 9999
  have hf : Instr.findNow (.int .i64) (.int .i64 k) xTab.toList 0 = some none := by
    have n1 : ((k : Int) == 1) = false := beq_eq_false_iff_ne.2 (by omega)
    have n2 : ((k : Int) == 2) = false := beq_eq_false_iff_ne.2 (by omega)
    have n3 : ((k : Int) == 3) = false := beq_eq_false_iff_ne.2 (by omega)
    have n4 : ((k : Int) == 4) = false := beq_eq_false_iff_ne.2 (by omega)
    have n5 : ((k : Int) == 5) = false := beq_eq_false_iff_ne.2 (by omega)
    have n6 : ((k : Int) == 6) = false := beq_eq_false_iff_ne.2 (by omega)
    have n7 : ((k : Int) == 7) = false := beq_eq_false_iff_ne.2 (by omega)
    simp [xTab, Instr.findNow, Instr.sameNow, n1, n2, n3, n4, n5, n6, n7]
  simp [Instr.lookup, run_underlying Try.underlying58, MapKept.run_getObj_map hb, hc, MapKept.run_findKey Try.underlying3 hf, Result.andThen]

/-- The reader's block, whole, and the table that it points to. -/
def XrAt (w : World) (R rm : Nat) (s : ByteArray) (p : Nat) (l : Int) (e : Nat) : Prop := w.heap[R]? = some (.cells #[.map (some rm), .string s, .int .i64 p, .int .i64 l, .int .i64 e] 61 (0, 0)) ∧ w.heap[rm]? = some (.map xTab 7) ∧ rm ≠ R
theorem XrAt.facts {w : World} {R rm : Nat} {s : ByteArray} {p e : Nat} {l : Int} (h : XrAt w R rm s p l e) : w.cell? ⟨R, 0, none⟩ = some (.map (some rm)) ∧ w.cell? ⟨R, 1, none⟩ = some (.string s) ∧ w.cell? ⟨R, 2, none⟩ = some (.int .i64 p) ∧ w.cell? ⟨R, 3, none⟩ = some (.int .i64 l) ∧ w.cell? ⟨R, 4, none⟩ = some (.int .i64 e) ∧ (∀ o, w.frozen? ⟨R, o, none⟩ = false) ∧ R < w.heap.size :=
  ⟨cell_at h.1 0, cell_at h.1 1, cell_at h.1 2, cell_at h.1 3, cell_at h.1 4, free_of h.1, lt_of_block h.1⟩
theorem XrAt.turn {w w' : World} {R rm : Nat} {s : ByteArray} {p e : Nat} {l : Int} (h : XrAt w R rm s p l e) (h1 : w'.heap[R]? = w.heap[R]?) (h2 : w'.heap[rm]? = w.heap[rm]?) : XrAt w' R rm s p l e := ⟨h1.trans h.1, h2.trans h.2.1, h.2.2⟩
theorem XrAt.later {w w' : World} {R rm : Nat} {s : ByteArray} {p e : Nat} {l : Int} (h : XrAt w R rm s p l e) (hb : Below w.heap.size w w') : XrAt w' R rm s p l e := h.turn (hb.block _ (lt_of_block h.1)) (hb.block _ (lt_of_block h.2.1))
theorem XrAt.only {w w' : World} {R rm C : Nat} {s : ByteArray} {p e : Nat} {l : Int} (h : XrAt w R rm s p l e) (hb : w.grownBy w' (some C)) (h1 : R ≠ C) (h2 : rm ≠ C) : XrAt w' R rm s p l e := h.turn (Only.block hb (lt_of_block h.1) h1) (Only.block hb (lt_of_block h.2.1) h2)
theorem XrAt.draws {w : World} {R rm : Nat} {s : ByteArray} {p e : Nat} {l : Int} (h : XrAt w R rm s p l e) (n : Nat) : XrAt (w.drewN n) R rm s p l e := h
theorem XrAt.alloc {w : World} {R rm : Nat} {s : ByteArray} {p e : Nat} {l : Int} (h : XrAt w R rm s p l e) (o : Obj) : XrAt (w.alloc o) R rm s p l e := h.later ((Below.refl _ _).alloc (Nat.le_refl _) o)
theorem set_here {w : World} {b : Nat} {cs : Array Value} {t : TypeId} (h : w.heap[b]? = some (.cells cs t (0, 0))) (o : Nat) (v : Value) : (w.setCell ⟨b, o, none⟩ v).heap[b]? = some (.cells (cs.setIfInBounds o v) t (0, 0)) := heap_setCell_same w b o cs t v h
theorem XrAt.at {w : World} {R rm : Nat} {s : ByteArray} {p e : Nat} {l : Int} (h : XrAt w R rm s p l e) (q : Nat) : XrAt (w.setCell ⟨R, 2, none⟩ (.int .i64 q)) R rm s q l e := ⟨set_here h.1 2 _, (Below.heap_setCell _ _ _ _ h.2.2).trans h.2.1, h.2.2⟩
theorem XrAt.left {w : World} {R rm : Nat} {s : ByteArray} {p e : Nat} {l : Int} (h : XrAt w R rm s p l e) (q : Int) : XrAt (w.setCell ⟨R, 3, none⟩ (.int .i64 q)) R rm s p q e := ⟨set_here h.1 3 _, (Below.heap_setCell _ _ _ _ h.2.2).trans h.2.1, h.2.2⟩
theorem XrAt.err {w : World} {R rm : Nat} {s : ByteArray} {p e : Nat} {l : Int} (h : XrAt w R rm s p l e) (q : Nat) : XrAt (w.setCell ⟨R, 4, none⟩ (.int .i64 q)) R rm s p l q := ⟨set_here h.1 4 _, (Below.heap_setCell _ _ _ _ h.2.2).trans h.2.1, h.2.2⟩

set_option maxRecDepth 100000 in
set_option maxHeartbeats 1000000 in
/-- The first error is kept. -/
theorem xfail_any (R rm : Nat) (s : ByteArray) (p e er : Nat) (l : Int) (w : World) (hat : XrAt w R rm s p l e) : Calls Try.prog 48 #[.pointer (some ⟨R, 0, none⟩), .int .i64 er] w fun en w' => en = .returned (.tuple #[]) ∧ (e ≠ 0 → w' = w) ∧ (e = 0 → XrAt w' R rm s p l er) ∧ w.grownBy w' (some R) := by
  obtain ⟨c0, c1, c2, c3, c4, fz, hR⟩ := hat.facts
  have HA := Lib.hid hat
  clear hat
  by_cases he : e = 0
  · subst he
    have d : ((((0 : Nat) : Int)) == 0) = true := rfl
    go_enter Try.func48, Try.ntmps48
    go_wp2_with fail
    go_end0
    exact ⟨rfl, fun h => absurd rfl h, fun _ => HA.out.err er, Only.set _ _ _ _⟩
  · have d : ((e : Int) == 0) = false := beq_eq_false_iff_ne.2 (by omega)
    go_enter Try.func48, Try.ntmps48
    go_wp2_with fail
    go_end0
    exact ⟨rfl, fun _ => rfl, fun h => absurd h he, Only.refl _ _⟩
set_option maxRecDepth 100000 in
set_option maxHeartbeats 1000000 in
theorem xfollow_any (R rm : Nat) (s : ByteArray) (p q er : Nat) (l : Int) (w : World) (hat : XrAt w R rm s p l 0) : Calls Try.prog 67 #[.pointer (some ⟨R, 0, none⟩), .int .i64 q, .int .i64 er] w fun en w' => en = .returned (.tuple #[]) ∧ XrAt w' R rm s q l er ∧ w.grownBy w' (some R) := by
  obtain ⟨c0, c1, c2, c3, c4, fz, hR⟩ := hat.facts
  have HF := Lib.hid (xfail_any R rm s q 0 er l _ (hat.at q))
  clear hat
  go_enter Try.func67, Try.ntmps67
  go_wp2_with fail
  refine HF.out.mono ?_
  rintro e w1 ⟨rfl, _, h2, hg⟩
  have H2 := Lib.hid (And.intro (h2 (by trivial)) hg)
  clear h2 hg
  go_wp2_with fail
  go_end0
  exact ⟨rfl, H2.out.1, Only.after (Only.set _ _ _ _) H2.out.2⟩
set_option maxRecDepth 100000 in
set_option maxHeartbeats 1000000 in
/-- Behind an error nothing is read. -/
theorem xnum_err (R rm : Nat) (s : ByteArray) (p er : Nat) (l : Int) (w : World) (hat : XrAt w R rm s p l er) (he : er ≠ 0) : Calls Try.prog 49 #[.pointer (some ⟨R, 0, none⟩)] w fun en w' => en = .returned (.int .i64 0) ∧ w' = w := by
  obtain ⟨c0, c1, c2, c3, c4, fz, hR⟩ := hat.facts
  have hne : ((er : Int) != 0) = true := by rw [bne_iff_ne]; omega
  clear hat he
  go_enter Try.func49, Try.ntmps49
  go_wp2_with fail
  go_ret
  exact ⟨rfl, rfl⟩
/-- What number answers where there is no error yet: the number and the place behind it, or a number that is of no use and the error. -/
def XnP (R rm : Nat) (s : ByteArray) (n1 n2 n3 : Nat) (l : Int) (w : World) (en : Ending) (w' : World) : Prop := en = .returned (.int .i64 n1) ∧ XrAt w' R rm s n2 l n3 ∧ w.grownBy w' (some R)
def XnPost (R rm : Nat) (s : ByteArray) (p : Nat) (l : Int) (w : World) : Ending → World → Prop := XnP R rm s (num s p).1 (num s p).2.1 (num s p).2.2 l w
set_option maxRecDepth 100000 in
set_option maxHeartbeats 1000000 in
theorem xnum_any (R rm : Nat) (s : ByteArray) (p : Nat) (l : Int) (w : World) (hat : XrAt w R rm s p l 0) (hs : s.size ≤ maxLen) (hp : p ≤ s.size) : Calls Try.prog 49 #[.pointer (some ⟨R, 0, none⟩)] w (XnPost R rm s p l w) := by
  obtain ⟨c0, c1, c2, c3, c4, fz, hR⟩ := hat.facts
  unfold XnPost
  have HG : Hid (∀ W : World, Calls Try.prog 66 #[.string s, .int .i64 p] W fun e w' => e = .returned (.tuple #[.int .i64 (num s p).1, .int .i64 (num s p).2.1, .int .i64 (num s p).2.2]) ∧ w' = W) := Lib.hid (fun W => (get_any s p W hs hp).mono (by
    rintro e w' ⟨rfl, rfl⟩
    exact ⟨rfl, rfl⟩))
  have HF := Lib.hid (fun (W : World) (h : XrAt W R rm s p l 0) => xfollow_any R rm s p (num s p).2.1 (num s p).2.2 l W h)
  generalize (num s p).1 = n1 at HG ⊢
  generalize (num s p).2.1 = n2 at HG HF ⊢
  generalize (num s p).2.2 = n3 at HG HF ⊢
  have HA := Lib.hid hat
  have d0 : (((0 : Nat) : Int) != 0) = false := rfl
  clear hat
  go_enter Try.func49, Try.ntmps49
  go_wp2_with fail
  go_quiet ((go_at_call 66; exact Calls.quiet_of_same (HG.out _)))
  go_wp2_with fail
  refine (HF.out _ (HA.out.draws _)).mono ?_
  rintro e w1 ⟨rfl, h1, hg⟩
  have H1 := Lib.hid (And.intro h1 hg)
  clear h1 hg
  go_wp2_with fail
  go_ret
  exact ⟨rfl, H1.out.1, Only.after (Only.draws (Only.refl _ _) _) H1.out.2⟩
/-- A number below a bound, or an error. -/
def XbP (R rm : Nat) (s : ByteArray) (n1 n2 n3 lim : Nat) (l : Int) (w : World) (en : Ending) (w' : World) : Prop := w.grownBy w' (some R) ∧
  ((n3 = 0 ∧ n1 < lim ∧ en = .returned (.int .i64 n1) ∧ XrAt w' R rm s n2 l 0) ∨
   (∃ (v er q : Nat), v < lim ∧ er ≠ 0 ∧ er = (if n3 ≠ 0 then n3 else 20) ∧ (n3 ≠ 0 ∨ lim ≤ n1) ∧ en = .returned (.int .i64 v) ∧ XrAt w' R rm s q l er))
def XbPost (R rm : Nat) (s : ByteArray) (p lim : Nat) (l : Int) (w : World) : Ending → World → Prop := XbP R rm s (num s p).1 (num s p).2.1 (num s p).2.2 lim l w
set_option maxRecDepth 100000 in
set_option maxHeartbeats 1000000 in
theorem xbelow_any (R rm : Nat) (s : ByteArray) (p lim : Nat) (l : Int) (w : World) (hat : XrAt w R rm s p l 0) (hs : s.size ≤ maxLen) (hp : p ≤ s.size) (hl : 1 ≤ lim) : Calls Try.prog 62 #[.pointer (some ⟨R, 0, none⟩), .int .i64 lim] w (XbPost R rm s p lim l w) := by
  have HN := Lib.hid (xnum_any R rm s p l w hat hs hp)
  unfold XnPost at HN
  unfold XbPost
  generalize (num s p).1 = n1 at HN ⊢
  generalize (num s p).2.1 = n2 at HN ⊢
  generalize (num s p).2.2 = n3 at HN ⊢
  clear hat
  by_cases hn : lim ≤ n1
  · have d : decide (lim ≤ n1) = true := by simpa using hn
    go_enter Try.func62, Try.ntmps62
    go_wp2_with fail
    refine HN.out.mono ?_
    rintro e w1 ⟨rfl, hat1, hg1⟩
    have HF := Lib.hid (xfail_any R rm s n2 n3 20 l w1 hat1)
    have H1 := Lib.hid (And.intro hat1 hg1)
    clear hat1 hg1
    go_wp2_with fail
    refine HF.out.mono ?_
    rintro e w2 ⟨rfl, f1, f2, hg2⟩
    have H2 := Lib.hid (And.intro f1 (And.intro f2 hg2))
    clear f1 f2 hg2
    go_wp2_with fail
    go_ret
    refine ⟨Only.after H1.out.2 H2.out.2.2, .inr ?_⟩
    by_cases h3 : n3 = 0
    · exact ⟨0, 20, n2, by omega, by decide, by rw [if_neg (by omega)], .inr hn, rfl, H2.out.2.1 h3⟩
    · exact ⟨0, n3, n2, by omega, h3, by rw [if_pos h3], .inl h3, rfl, by rw [H2.out.1 h3]; exact H1.out.1⟩
  · have d : decide (lim ≤ n1) = false := by simpa using hn
    go_enter Try.func62, Try.ntmps62
    go_wp2_with fail
    refine HN.out.mono ?_
    rintro e w1 ⟨rfl, hat1, hg1⟩
    have H1 := Lib.hid (And.intro hat1 hg1)
    clear hat1 hg1
    go_wp2_with fail
    go_ret
    refine ⟨H1.out.2, ?_⟩
    by_cases h3 : n3 = 0
    · exact .inl ⟨h3, by omega, rfl, by have := H1.out.1; rwa [h3] at this⟩
    · exact .inr ⟨n1, n3, n2, by omega, h3, by rw [if_pos h3], .inl h3, rfl, H1.out.1⟩
set_option maxRecDepth 100000 in
set_option maxHeartbeats 1000000 in
theorem xbelow_err (R rm : Nat) (s : ByteArray) (p lim er : Nat) (l : Int) (w : World) (hat : XrAt w R rm s p l er) (he : er ≠ 0) (hl : 1 ≤ lim) : Calls Try.prog 62 #[.pointer (some ⟨R, 0, none⟩), .int .i64 lim] w fun en w' => en = .returned (.int .i64 0) ∧ w' = w := by
  have HN := Lib.hid (xnum_err R rm s p er l w hat he)
  have d : decide ((lim : Int) ≤ 0) = false := by simp; omega
  clear hat
  go_enter Try.func62, Try.ntmps62
  go_wp2_with fail
  refine HN.out.mono ?_
  rintro e w1 ⟨rfl, rfl⟩
  go_wp2_with fail
  go_ret
  exact ⟨rfl, rfl⟩
end Go.Proofs.Ythnkoamabfaioaa
/- The contracts of the program's own reader's level and levels, for terms: what the recursive reader of bytes tells, or its error; nothing that was there changes but the reader's own block. No condition but those that stand in each statement. -/
namespace Go.Proofs.Ythnkoamabfaioaa
open Go.RowKit

/-- What the reader's level answers where there is no error yet: as it is told, in new memory. -/
def XlPost (R rm : Nat) (s : ByteArray) (l : Int) (r : Rl) (w : World) (e : Ending) (w' : World) : Prop :=
  ∃ (k n q E : Nat) (F : Fo) (x : Option Addr) (c : Nat), e = .returned (.agg #[.int .i64 k, .int .i64 n, .slice x F.len c]) ∧ LvIs r k n F q E ∧ SlIn w' (fun b => w.heap.size ≤ b ∧ b < w'.heap.size) F x c ∧ w.grownBy w' (some R) ∧ XrAt w' R rm s q l E
theorem xl_fin {R rm : Nat} {s : ByteArray} {k n q E M lo : Nat} {l : Int} {r : Rl} {w W : World} {F : Fo} {x : Option Addr} {c : Nat} (hA : XrAt W R rm s q l E) (hS : OffL W M lo F x c) (hlo : w.heap.size < lo) (hG : w.grownBy W (some R)) (hR : R < w.heap.size) (hrm : rm < w.heap.size) (hL : LvIs r k n F q E) :
    XlPost R rm s l r w (.returned (.agg #[.int .i64 k, .int .i64 n, .slice x F.len c])) (((W.setCell ⟨w.heap.size, 0, none⟩ (.int .i64 k)).setCell ⟨w.heap.size, 1, none⟩ (.int .i64 n)).setCell ⟨w.heap.size, 2, none⟩ (.slice x F.len c)) := by
  have u0 := set3_only (w := W) w.heap.size (.int .i64 k) (.int .i64 n) (.slice x F.len c)
  exact ⟨k, n, q, E, F, x, c, rfl, hL, (hS.keep (fun b hb => Only.block u0 hb.2.2 (by omega))).weak (fun b hb => ⟨by omega, Nat.lt_of_lt_of_le hb.2.2 u0.size⟩), Only.past hG u0 (Nat.le_refl _), hA.only u0 (by omega) (by omega)⟩

set_option maxRecDepth 100000 in
set_option maxHeartbeats 1000000 in
theorem xlevel_err (R rm : Nat) (s : ByteArray) (p er : Nat) (l : Int) (w : World) (hat : XrAt w R rm s p l er) (he : er ≠ 0) : Calls Try.prog 78 #[.pointer (some ⟨R, 0, none⟩)] w fun en w' => en = .returned (.agg #[.int .i64 0, .int .i64 0, .slice none 0 0]) ∧ Below w.heap.size w w' := by
  obtain ⟨c0, c1, c2, c3, c4, fz, hR⟩ := hat.facts
  have hne : ((er : Int) != 0) = true := by rw [bne_iff_ne]; omega
  have HB : Hid (Below w.heap.size w (w.alloc (.cells #[.int .i64 0, .int .i64 0, .slice none 0 0] 33))) := Lib.hid ((Below.refl _ _).alloc (Nat.le_refl _) _)
  clear hat he
  go_enter Try.func78, Try.ntmps78
  go_wp2_with fail
  refine bodyPost_ret (v := .agg #[.int .i64 0, .int .i64 0, .slice none 0 0]) (by simp [results, Try.results78, go_sem]) rfl ?_
  exact ⟨rfl, HB.out⟩

set_option maxRecDepth 100000 in
set_option maxHeartbeats 8000000 in
theorem xlevel_any (R rm : Nat) (s : ByteArray) (p : Nat) (l : Int) (w : World) (hat : XrAt w R rm s p l 0) (hs : s.size ≤ maxLen) (hp : p ≤ s.size) :
    Calls Try.prog 78 #[.pointer (some ⟨R, 0, none⟩)] w (XlPost R rm s l (rdL s 12 p 100) w) := by
  have hRw := lt_of_block hat.1
  have hrmw := lt_of_block hat.2.1
  have HA := Lib.hid (hat.alloc (.cells #[.int .i64 0, .int .i64 0, .slice none 0 0] 33))
  have HZ0 := Lib.hid (heap_new w (.cells #[.int .i64 0, .int .i64 0, .slice none 0 0] 33))
  have HB0 : Hid (Below w.heap.size w (w.alloc (.cells #[.int .i64 0, .int .i64 0, .slice none 0 0] 33))) := Lib.hid ((Below.refl _ _).alloc (Nat.le_refl _) _)
  have HG : Hid (∀ W : World, Calls Try.prog 86 #[.string s, .int .i64 p] W fun e w' => ∃ (k n q E : Nat) (F : Fo) (x : Option Addr) (c : Nat), e = .returned (.tuple #[.agg #[.int .i64 k, .int .i64 n, .slice x F.len c], .int .i64 q, .int .i64 E]) ∧ LvIs (rdL s 12 p 100) k n F q E ∧ SlIn w' (fun b => W.heap.size ≤ b ∧ b < w'.heap.size) F x c ∧ Below W.heap.size W w') := Lib.hid (fun W => (lGet_any s p W hs hp).mono (fun _ _ h => get_laid h))
  generalize rdL s 12 p 100 = r at HG
  obtain ⟨c0, c1, c2, c3, c4, fz, hR⟩ := HA.out.facts
  have d0 : (((0 : Nat) : Int) != 0) = false := rfl
  clear hat
  have HRW := Lib.hid (And.intro hRw hrmw)
  clear hRw hrmw
  go_enter Try.func78, Try.ntmps78
  go_upto_region 3 with fail
  generalize hW0 : w.alloc (.cells #[.int .i64 0, .int .i64 0, .slice none 0 0] 33) = W0 at HA HZ0 HB0 ⊢
  clear hW0 c0 c1 c2 c3 c4 fz hR
  have HNX : Hid (∀ wN : World, Below W0.heap.size W0 wN → wN.cell? ⟨R, 1, none⟩ = some (.string s) ∧ wN.cell? ⟨R, 2, none⟩ = some (.int .i64 p)) := Lib.hid (fun wN hX => ⟨(HA.out.later hX).facts.2.1, (HA.out.later hX).facts.2.2.1⟩)
  go_cut [3, 4, 5] from 6 to 30 (fun s3 s4 s5 wx => ∃ (M k n q E : Nat) (F : Fo) (x : Option Addr) (c : Nat), s3 = .pointer (some ⟨M, 0, none⟩) ∧ s4 = .int .i64 q ∧ s5 = .int .i64 E ∧ Hid (BoxL wx M k n F x c ∧ OffL wx M W0.heap.size F x c ∧ W0.heap.size ≤ M) ∧ Hid (LvIs r k n F q E) ∧ Hid (Below W0.heap.size W0 wx))
  case first =>
    refine wp_region_held_drew (S := fun w' => Hid (Below W0.heap.size W0 w') ∧ w'.cell? ⟨R, 1, none⟩ = some (.string s) ∧ w'.cell? ⟨R, 2, none⟩ = some (.int .i64 p)) (by kernel_rfl) (⟨Lib.hid (Below.refl _ _).drew, HNX.out _ (Below.refl _ _).drew⟩) (fun hH => ?_)
    try simp only [Act.put, List.setIfInBounds_toArray, List.set_cons_zero, List.set_cons_succ]
    refine wpAnyH_take (i := 0) (v := ?_) (by simp only [List.getElem?_toArray, List.getElem?_cons_zero]; rfl) (by kernel_rfl) (by kernel_rfl) (by kernel_rfl) (by intro _ _ _ h; exact h) (Or.inl ⟨by rfl, ?_⟩) hH ?_
    rotate_left
    · intro w' hSw
      obtain ⟨s0, s1, s2⟩ := hSw
      go_simp
      try with_reducible rfl
    try simp only [Act.put, List.setIfInBounds_toArray, List.set_cons_zero, List.set_cons_succ]
    refine wpAnyH_take (i := 1) (v := ?_) (by simp only [List.getElem?_toArray, List.getElem?_cons_succ, List.getElem?_cons_zero]; rfl) (by kernel_rfl) (by kernel_rfl) (by kernel_rfl) (by intro _ _ _ h; exact h) (Or.inl ⟨by rfl, ?_⟩) hH ?_
    rotate_left
    · intro w' hSw
      obtain ⟨s0, s1, s2⟩ := hSw
      go_simp
      try with_reducible rfl
    try simp only [Act.put, List.setIfInBounds_toArray, List.set_cons_zero, List.set_cons_succ]
    refine wpAnyH_take (i := 2) (v := ?_) (by simp only [List.getElem?_toArray, List.getElem?_cons_succ, List.getElem?_cons_zero]; rfl) (by kernel_rfl) (by kernel_rfl) (by kernel_rfl) (by intro _ _ _ h; exact h) (Or.inl ⟨by rfl, ?_⟩) hH ?_
    rotate_left
    · intro w' hSw
      obtain ⟨s0, s1, s2⟩ := hSw
      go_simp
      try with_reducible rfl
    try simp only [Act.put, List.setIfInBounds_toArray, List.set_cons_zero, List.set_cons_succ]
    refine wpAnyH_take (i := 3) (v := ?_) (by simp only [List.getElem?_toArray, List.getElem?_cons_succ, List.getElem?_cons_zero]; rfl) (by kernel_rfl) (by kernel_rfl) (by kernel_rfl) (by intro _ _ _ h; exact h) (Or.inl ⟨by rfl, ?_⟩) hH ?_
    rotate_left
    · intro w' hSw
      obtain ⟨s0, s1, s2⟩ := hSw
      go_simp
      try with_reducible rfl
    try simp only [Act.put, List.setIfInBounds_toArray, List.set_cons_zero, List.set_cons_succ]
    refine wpAnyH_take (i := 4) (v := ?_) (by simp only [List.getElem?_toArray, List.getElem?_cons_succ, List.getElem?_cons_zero]; rfl) (by kernel_rfl) (by kernel_rfl) (by kernel_rfl) (by intro _ _ _ h; exact h) (Or.inl ⟨by rfl, ?_⟩) hH ?_
    rotate_left
    · intro w' hSw
      obtain ⟨s0, s1, s2⟩ := hSw
      go_simp
      try with_reducible rfl
    try simp only [Act.put, List.setIfInBounds_toArray, List.set_cons_zero, List.set_cons_succ]
    refine wpAnyH_take (i := 5) (v := ?_) (by simp only [List.getElem?_toArray, List.getElem?_cons_succ, List.getElem?_cons_zero]; rfl) (by kernel_rfl) (by kernel_rfl) (by kernel_rfl) (by intro _ _ _ h; exact h) (Or.inl ⟨by rfl, ?_⟩) hH ?_
    rotate_left
    · intro w' hSw
      obtain ⟨s0, s1, s2⟩ := hSw
      go_simp
      try with_reducible rfl
    try simp only [Act.put, List.setIfInBounds_toArray, List.set_cons_zero, List.set_cons_succ]
    refine wpAnyH_take (i := 6) (v := ?_) (by simp only [List.getElem?_toArray, List.getElem?_cons_succ, List.getElem?_cons_zero]; rfl) (by kernel_rfl) (by kernel_rfl) (by kernel_rfl) (by intro _ _ _ h; exact h) (Or.inl ⟨by rfl, ?_⟩) hH ?_
    rotate_left
    · intro w' hSw
      obtain ⟨s0, s1, s2⟩ := hSw
      go_simp
      try with_reducible rfl
    try simp only [Act.put, List.setIfInBounds_toArray, List.set_cons_zero, List.set_cons_succ]
    refine wpAnyH_take (i := 7) (v := ?_) (by simp only [List.getElem?_toArray, List.getElem?_cons_succ, List.getElem?_cons_zero]; rfl) (by kernel_rfl) (by kernel_rfl) (by kernel_rfl) (by intro _ _ _ h; exact h) (Or.inl ⟨by rfl, ?_⟩) hH ?_
    rotate_left
    · intro w' hSw
      obtain ⟨s0, s1, s2⟩ := hSw
      go_simp
      try with_reducible rfl
    try simp only [Act.put, List.setIfInBounds_toArray, List.set_cons_zero, List.set_cons_succ]
    refine wpAnyH_ready (rs := [8, 13]) (by kernel_rfl) (by simp) ?_
    refine AllReadyH.cons (o := _) (by simp only [List.getElem?_toArray, List.getElem?_cons_succ, List.getElem?_cons_zero]; rfl) (fun K hK => ?_) ?_
    · go_simp
      go_at_call 86
      refine (HG.out _).mono ?_
      rintro e wA ⟨k, n, q, E, F, x, c, rfl, hlv, hsl, hb7⟩
      have hX := Below.step hH.1.out hb7 (Nat.le_refl _)
      have HLV := Lib.hid hlv
      have HR := Lib.hid (show SlIn wA (fun b => W0.heap.size ≤ b ∧ b < wA.heap.size) F x c from hsl.weak (fun b h => ⟨Nat.le_trans hH.1.out.size h.1, h.2⟩))
      clear hH hb7 hlv hsl
      refine hK.out _ _ ⟨Lib.hid hX, HNX.out _ hX⟩ (fun hH => ?_)
      clear hK K hX
      try simp only [Act.put, List.setIfInBounds_toArray, List.set_cons_zero, List.set_cons_succ]
      refine wpAnyH_take (i := 9) (v := ?_) (by simp only [List.getElem?_toArray, List.getElem?_cons_succ, List.getElem?_cons_zero]; rfl) (by kernel_rfl) (by kernel_rfl) (by kernel_rfl) (by intro _ _ _ h; exact h) (Or.inl ⟨by rfl, ?_⟩) hH ?_
      rotate_left
      · intro w' hSw
        obtain ⟨s0, s1, s2⟩ := hSw
        go_simp
        try with_reducible rfl
      try simp only [Act.put, List.setIfInBounds_toArray, List.set_cons_zero, List.set_cons_succ]
      refine wpAnyH_take (i := 10) (v := ?_) (by simp only [List.getElem?_toArray, List.getElem?_cons_succ, List.getElem?_cons_zero]; rfl) (by kernel_rfl) (by kernel_rfl) (by kernel_rfl) (by intro _ _ _ h; exact h) (Or.inl ⟨by rfl, ?_⟩) hH ?_
      rotate_left
      · intro w' hSw
        obtain ⟨s0, s1, s2⟩ := hSw
        go_simp
        try with_reducible rfl
      try simp only [Act.put, List.setIfInBounds_toArray, List.set_cons_zero, List.set_cons_succ]
      refine wpAnyH_take (i := 11) (v := ?_) (by simp only [List.getElem?_toArray, List.getElem?_cons_succ, List.getElem?_cons_zero]; rfl) (by kernel_rfl) (by kernel_rfl) (by kernel_rfl) (by intro _ _ _ h; exact h) (Or.inl ⟨by rfl, ?_⟩) hH ?_
      rotate_left
      · intro w' hSw
        obtain ⟨s0, s1, s2⟩ := hSw
        go_simp
        try with_reducible rfl
      try simp only [Act.put, List.setIfInBounds_toArray, List.set_cons_zero, List.set_cons_succ]
      refine wpAnyH_take (i := 12) (v := ?_) (by simp only [List.getElem?_toArray, List.getElem?_cons_succ, List.getElem?_cons_zero]; rfl) (by kernel_rfl) (by kernel_rfl) (by kernel_rfl) (by intro _ _ _ h; exact h) (Or.inl ⟨by rfl, ?_⟩) hH ?_
      rotate_left
      · intro w' hSw
        obtain ⟨s0, s1, s2⟩ := hSw
        go_simp
        try with_reducible rfl
      try simp only [Act.put, List.setIfInBounds_toArray, List.set_cons_zero, List.set_cons_succ]
      refine wpAnyH_ready (rs := [13]) (by kernel_rfl) (by simp) ?_
      refine AllReadyH.cons (o := _) (by simp only [List.getElem?_toArray, List.getElem?_cons_succ, List.getElem?_cons_zero]; rfl) (fun K hK => ?_) AllReadyH.nil
      go_simp
      have hz := ZLAt.new hH.1.out.size
      have HZ := Lib.hid hz
      have hb7 : Below (wA).heap.size wA (wA.alloc (.cells #[.int .i64 0, .int .i64 0, .slice none 0 0] 33)) := (Below.refl _ _).alloc (Nat.le_refl _) _
      have hX := Below.step hH.1.out hb7 (Nat.le_refl _)
      have HW := hH.1
      have HRO := HR
      replace HR := Lib.hid (OffL.new HR.out (.cells #[.int .i64 0, .int .i64 0, .slice none 0 0] 33))
      clear hH hb7 hz
      refine hK.out _ _ ⟨Lib.hid hX, HNX.out _ hX⟩ (fun hH => ?_)
      clear hK K hX
      try simp only [Act.put, List.setIfInBounds_toArray, List.set_cons_zero, List.set_cons_succ]
      refine wpAnyH_ready (rs := [14]) (by kernel_rfl) (by simp) ?_
      refine AllReadyH.cons (o := _) (by simp only [List.getElem?_toArray, List.getElem?_cons_succ, List.getElem?_cons_zero]; rfl) (fun K hK => ?_) AllReadyH.nil
      obtain ⟨m0, m1, m2⟩ := cells3 HZ.out.2
      have m4 := free_of HZ.out.2
      go_simp
      have hX := Below.step HW.out ((Below.refl _ _).alloc (Nat.le_refl _) (.cells #[.int .i64 k, .int .i64 n, .slice x F.len c] 33)) (Nat.le_refl _)
      have HBX := Lib.hid (show BoxL (wA.alloc (.cells #[.int .i64 k, .int .i64 n, .slice x F.len c] 33)) wA.heap.size k n F x c ∧ OffL (wA.alloc (.cells #[.int .i64 k, .int .i64 n, .slice x F.len c] 33)) wA.heap.size W0.heap.size F x c ∧ W0.heap.size ≤ wA.heap.size from ⟨heap_new _ _, OffL.new HRO.out _, HZ.out.1⟩)
      clear hH m0 m1 m2 m4 HRO HW
      refine hK.out _ _ ⟨Lib.hid hX, HNX.out _ hX⟩ (fun hH => ?_)
      clear hK K hX
      try simp only [Act.put, List.setIfInBounds_toArray, List.set_cons_zero, List.set_cons_succ]
      refine wpAnyH_take (i := 15) (v := ?_) (by simp only [List.getElem?_toArray, List.getElem?_cons_succ, List.getElem?_cons_zero]; rfl) (by kernel_rfl) (by kernel_rfl) (by kernel_rfl) (by intro _ _ _ h; exact h) (Or.inl ⟨by rfl, ?_⟩) hH ?_
      rotate_left
      · intro w' hSw
        obtain ⟨s0, s1, s2⟩ := hSw
        go_simp
        try with_reducible rfl
      try simp only [Act.put, List.setIfInBounds_toArray, List.set_cons_zero, List.set_cons_succ]
      refine wpAnyH_take (i := 16) (v := ?_) (by simp only [List.getElem?_toArray, List.getElem?_cons_succ, List.getElem?_cons_zero]; rfl) (by kernel_rfl) (by kernel_rfl) (by kernel_rfl) (by intro _ _ _ h; exact h) (Or.inl ⟨by rfl, ?_⟩) hH ?_
      rotate_left
      · intro w' hSw
        obtain ⟨s0, s1, s2⟩ := hSw
        go_simp
        try with_reducible rfl
      try simp only [Act.put, List.setIfInBounds_toArray, List.set_cons_zero, List.set_cons_succ]
      refine wpAnyH_done (by kernel_rfl) ?_ _
      have HE := hH.1
      clear hH
      go_wp2_with fail
      go_meet
      exact ⟨_, k, n, q, E, F, x, c, rfl, rfl, rfl, HBX, HLV, HE⟩
    refine AllReadyH.cons (o := _) (by simp only [List.getElem?_toArray, List.getElem?_cons_succ, List.getElem?_cons_zero]; rfl) (fun K hK => ?_) AllReadyH.nil
    go_simp
    have hz : ZLAt (W0.drew.alloc (.cells #[.int .i64 0, .int .i64 0, .slice none 0 0] 33)) W0.heap.size W0.heap.size := ZLAt.new hH.1.out.size
    have HZ := Lib.hid hz
    have hb7 : Below (W0.drew).heap.size W0.drew (W0.drew.alloc (.cells #[.int .i64 0, .int .i64 0, .slice none 0 0] 33)) := (Below.refl _ _).alloc (Nat.le_refl _) _
    have hX := Below.step hH.1.out hb7 (Nat.le_refl _)
    clear hH hb7 hz
    refine hK.out _ _ ⟨Lib.hid hX, HNX.out _ hX⟩ (fun hH => ?_)
    clear hK K hX
    try simp only [Act.put, List.setIfInBounds_toArray, List.set_cons_zero, List.set_cons_succ]
    refine wpAnyH_ready (rs := [8]) (by kernel_rfl) (by simp) ?_
    refine AllReadyH.cons (o := _) (by simp only [List.getElem?_toArray, List.getElem?_cons_succ, List.getElem?_cons_zero]; rfl) (fun K hK => ?_) AllReadyH.nil
    go_simp
    go_at_call 86
    refine (HG.out _).mono ?_
    rintro e wA ⟨k, n, q, E, F, x, c, rfl, hlv, hsl, hb7⟩
    have hX := Below.step hH.1.out hb7 (Nat.le_refl _)
    have HLV := Lib.hid hlv
    have HR := Lib.hid (show OffL wA _ W0.heap.size F x c from hsl.weak (fun b h => ⟨Nat.ne_of_gt (Nat.lt_of_lt_of_le HZ.out.lt h.1), Nat.le_trans hH.1.out.size h.1, h.2⟩))
    replace HZ := Lib.hid (HZ.out.later hb7)
    clear hH hb7 hlv hsl
    refine hK.out _ _ ⟨Lib.hid hX, HNX.out _ hX⟩ (fun hH => ?_)
    clear hK K hX
    try simp only [Act.put, List.setIfInBounds_toArray, List.set_cons_zero, List.set_cons_succ]
    refine wpAnyH_take (i := 9) (v := ?_) (by simp only [List.getElem?_toArray, List.getElem?_cons_succ, List.getElem?_cons_zero]; rfl) (by kernel_rfl) (by kernel_rfl) (by kernel_rfl) (by intro _ _ _ h; exact h) (Or.inl ⟨by rfl, ?_⟩) hH ?_
    rotate_left
    · intro w' hSw
      obtain ⟨s0, s1, s2⟩ := hSw
      go_simp
      try with_reducible rfl
    try simp only [Act.put, List.setIfInBounds_toArray, List.set_cons_zero, List.set_cons_succ]
    refine wpAnyH_take (i := 10) (v := ?_) (by simp only [List.getElem?_toArray, List.getElem?_cons_succ, List.getElem?_cons_zero]; rfl) (by kernel_rfl) (by kernel_rfl) (by kernel_rfl) (by intro _ _ _ h; exact h) (Or.inl ⟨by rfl, ?_⟩) hH ?_
    rotate_left
    · intro w' hSw
      obtain ⟨s0, s1, s2⟩ := hSw
      go_simp
      try with_reducible rfl
    try simp only [Act.put, List.setIfInBounds_toArray, List.set_cons_zero, List.set_cons_succ]
    refine wpAnyH_take (i := 11) (v := ?_) (by simp only [List.getElem?_toArray, List.getElem?_cons_succ, List.getElem?_cons_zero]; rfl) (by kernel_rfl) (by kernel_rfl) (by kernel_rfl) (by intro _ _ _ h; exact h) (Or.inl ⟨by rfl, ?_⟩) hH ?_
    rotate_left
    · intro w' hSw
      obtain ⟨s0, s1, s2⟩ := hSw
      go_simp
      try with_reducible rfl
    try simp only [Act.put, List.setIfInBounds_toArray, List.set_cons_zero, List.set_cons_succ]
    refine wpAnyH_take (i := 12) (v := ?_) (by simp only [List.getElem?_toArray, List.getElem?_cons_succ, List.getElem?_cons_zero]; rfl) (by kernel_rfl) (by kernel_rfl) (by kernel_rfl) (by intro _ _ _ h; exact h) (Or.inl ⟨by rfl, ?_⟩) hH ?_
    rotate_left
    · intro w' hSw
      obtain ⟨s0, s1, s2⟩ := hSw
      go_simp
      try with_reducible rfl
    try simp only [Act.put, List.setIfInBounds_toArray, List.set_cons_zero, List.set_cons_succ]
    refine wpAnyH_ready (rs := [14]) (by kernel_rfl) (by simp) ?_
    refine AllReadyH.cons (o := _) (by simp only [List.getElem?_toArray, List.getElem?_cons_succ, List.getElem?_cons_zero]; rfl) (fun K hK => ?_) AllReadyH.nil
    obtain ⟨m0, m1, m2⟩ := cells3 HZ.out.2
    have m4 := free_of HZ.out.2
    go_simp
    have hX := boxl_below hH.1.out HZ.out.1 (.int .i64 (k : Int)) (.int .i64 (n : Int)) (.slice x F.len c)
    have hbx := boxl_set (k := k) (n := n) HZ.out.2 HR.out
    have HBX := Lib.hid (And.intro hbx.1 (And.intro hbx.2 HZ.out.1))
    clear hH m0 m1 m2 m4 hbx
    refine hK.out _ _ ⟨Lib.hid hX, HNX.out _ hX⟩ (fun hH => ?_)
    clear hK K hX
    try simp only [Act.put, List.setIfInBounds_toArray, List.set_cons_zero, List.set_cons_succ]
    refine wpAnyH_take (i := 15) (v := ?_) (by simp only [List.getElem?_toArray, List.getElem?_cons_succ, List.getElem?_cons_zero]; rfl) (by kernel_rfl) (by kernel_rfl) (by kernel_rfl) (by intro _ _ _ h; exact h) (Or.inl ⟨by rfl, ?_⟩) hH ?_
    rotate_left
    · intro w' hSw
      obtain ⟨s0, s1, s2⟩ := hSw
      go_simp
      try with_reducible rfl
    try simp only [Act.put, List.setIfInBounds_toArray, List.set_cons_zero, List.set_cons_succ]
    refine wpAnyH_take (i := 16) (v := ?_) (by simp only [List.getElem?_toArray, List.getElem?_cons_succ, List.getElem?_cons_zero]; rfl) (by kernel_rfl) (by kernel_rfl) (by kernel_rfl) (by intro _ _ _ h; exact h) (Or.inl ⟨by rfl, ?_⟩) hH ?_
    rotate_left
    · intro w' hSw
      obtain ⟨s0, s1, s2⟩ := hSw
      go_simp
      try with_reducible rfl
    try simp only [Act.put, List.setIfInBounds_toArray, List.set_cons_zero, List.set_cons_succ]
    refine wpAnyH_done (by kernel_rfl) ?_ _
    have HE := hH.1
    clear hH
    go_wp2_with fail
    go_meet
    exact ⟨_, k, n, q, E, F, x, c, rfl, rfl, rfl, HBX, HLV, HE⟩
  case rest =>
    obtain ⟨M, k, n, q, E, F, x, c, rfl, rfl, rfl, hbx, hlv, hbe⟩ := hcut
    have HF := Lib.hid (xfollow_any R rm s p q E l wc (HA.out.later hbe.out))
    go_wp2_with fail
    refine HF.out.mono ?_
    rintro e w1 ⟨rfl, A1, g1⟩
    have hw0 := HB0.out.size
    have hR0 := HRW.out.1
    have hrm0 := HRW.out.2
    have hz0 := lt_of_block HZ0.out
    have hM := hbx.out.2.2
    have hMl := lt_of_block hbx.out.1
    have Z1 := (Only.block g1 (Nat.lt_of_lt_of_le hz0 hbe.out.size) (by omega)).trans ((hbe.out.block _ hz0).trans HZ0.out)
    have B1 := (Only.block g1 hMl (by omega)).trans hbx.out.1
    have S1 : OffL w1 M W0.heap.size F x c := (hbx.out.2.1.keep (fun b hb => Only.block g1 hb.2.2 (by omega))).weak (fun b hb => ⟨hb.1, hb.2.1, Nat.lt_of_lt_of_le hb.2.2 g1.size⟩)
    have G1 := Only.after (Only.of_below (Below.step HB0.out hbe.out (Nat.le_refl _)) R) g1
    obtain ⟨z0, z1, z2⟩ := cells3 Z1
    have zf := free_of Z1
    obtain ⟨m0, m1, m2⟩ := cells3 B1
    have HF2 := Lib.hid (xl_fin A1 S1 hz0 G1 hR0 hrm0 hlv.out)
    clear A1 Z1 B1 S1 G1 g1 hbx hbe HF
    go_wp2_with fail
    refine bodyPost_ret (v := .agg #[.int .i64 k, .int .i64 n, .slice x F.len c]) (by simp [results, Try.results78, go_sem, z0, z1, z2]) rfl ?_
    exact HF2.out

/-- Levels one behind the other, where perhaps there is an error already. -/
def rowsX (s : ByteArray) (E c p : Nat) : Rs := if E ≠ 0 then .no E else rowsV s c p
def XsPost (R rm : Nat) (s : ByteArray) (l : Int) (c : Nat) (r : Rs) (w : World) (e : Ending) (w' : World) : Prop :=
  w.grownBy w' (some R) ∧ ∃ (x : Option Addr) (cc : Nat), e = .returned (.slice x c cc) ∧
  match r with
  | .no er => er ≠ 0 ∧ ∃ q, XrAt w' R rm s q l er
  | .ok F q _ => c = F.len ∧ SlIn w' (fun b => w.heap.size ≤ b ∧ b < w'.heap.size) F x cc ∧ XrAt w' R rm s q l 0 ∧ q ≤ s.size
/-- What stands while the levels are read. -/
def XsR (w : World) (R rm : Nat) (s : ByteArray) (l : Int) (r : Rs) (c A j : Nat) (wr : World) : Prop :=
  ∃ (E p' : Nat), XrAt wr R rm s p' l E ∧ w.grownBy wr (some R) ∧
  ((E ≠ 0 ∧ r = .no E ∧ RowAt wr A c .nil) ∨ (E = 0 ∧ p' ≤ s.size ∧ ∃ G : Fo, G.len = j ∧ r = (rows (lvStep s) (c - j) p' 0).prep G ∧ RowAt wr A c G))
theorem RowAt.bare {w : World} {A c : Nat} {G : Fo} (h : RowAt w A c G) : RowAt w A c .nil := by
  obtain ⟨cur, h1, h2, _⟩ := h
  exact ⟨cur, h1, h2, trivial⟩
theorem RowAt.poke {w : World} {A c : Nat} (h : RowAt w A c .nil) (i : Nat) (v : Value) : RowAt (w.setCell ⟨A, i, none⟩ v) A c .nil := by
  obtain ⟨cur, h1, h2, _⟩ := h
  exact ⟨_, heap_setCell_same w A i cur 33 v h1, by simpa using h2, trivial⟩
theorem lvStep_ok {s : ByteArray} {p l k n q l2 : Nat} {F : Fo} (h : rdL s 12 p 100 = .ok k n F q l2) : lvStep s p l = .ok k n F q l := by unfold lvStep; rw [h]
theorem lvStep_no {s : ByteArray} {p l e : Nat} (h : rdL s 12 p 100 = .no e) : lvStep s p l = .no e := by unfold lvStep; rw [h]

set_option maxRecDepth 100000 in
set_option maxHeartbeats 2000000 in
theorem xlevels_any (R rm : Nat) (s : ByteArray) (hs : s.size ≤ maxLen) (E c p : Nat) (l : Int) (w : World) (hc : c ≤ 100) (hat : XrAt w R rm s p l E) (hp : E = 0 → p ≤ s.size) :
    Calls Try.prog 63 #[.pointer (some ⟨R, 0, none⟩), .int .i64 c] w (XsPost R rm s l c (rowsX s E c p) w) := by
  obtain ⟨i0, hi, hz0, hz1, hz2⟩ := info_parts infoLevel
  have hRlt := lt_of_block hat.1
  have hrlt := lt_of_block hat.2.1
  have HA := Lib.hid hat
  have HI := Lib.hid hi
  have HZ := Lib.hid (And.intro hz0 (And.intro hz1 hz2))
  have HP := Lib.hid hp
  clear hat hi hz0 hz1 hz2 hp
  go_enter Try.func63, Try.ntmps63
  go_wp2_with (at_make; refine wpList_make_full _ rfl _ _ 26 rfl w.heap.size 33 i0 _ 3 Try.underlying26 HI.out HZ.out.1 HZ.out.2.1 _ _ _ _ c rfl rfl rfl rfl (by rw [HZ.out.2.2]; omega) (by unfold maxLen; omega) (Nat.le_refl _) ?_; intro w1 hown1 hgr1)
  have HS : Hid (XsR w R rm s l (rowsX s E c p) c w.heap.size 0 w1) := Lib.hid ⟨E, p, HA.out.turn (hgr1.block R hRlt (by simp)) (hgr1.block rm hrlt (by simp)), ⟨hgr1.os, hgr1.tape, hgr1.output, hgr1.size, fun i hi _ => hgr1.block i hi (by simp)⟩, by
    by_cases hE : E = 0
    · exact .inr ⟨hE, HP.out hE, .nil, rfl, by rw [Rs.prep_nil, Nat.sub_zero, rowsX, if_neg (by omega)]; rfl, RowAt.start hown1⟩
    · exact .inl ⟨hE, by rw [rowsX, if_pos hE], RowAt.start hown1⟩⟩
  clear hown1 hgr1
  go_wp2_with fail
  go_loopw [11] (fun i wr => ∃ j : Nat, i = .int .i64 j ∧ j ≤ c ∧ Hid (XsR w R rm s l (rowsX s E c p) c w.heap.size j wr)) (fun i _ => c - (intOf i).toNat)
  case atStart => exact ⟨0, rfl, Nat.zero_le _, HS⟩
  case round =>
    obtain ⟨j, rfl, hj, hR⟩ := hrel
    by_cases hlt : j < c
    · obtain ⟨E', p', r1, r2, r3⟩ := hR.out
      have R2 := Lib.hid r2
      have hcj : c - j = (c - (j + 1)) + 1 := by omega
      have hneR : R ≠ w.heap.size := by omega
      have hner : rm ≠ w.heap.size := by omega
      rcases r3 with ⟨hE, hr, hrow⟩ | ⟨hE, hp', G, hG, hr, hrow⟩
      · have HC := Lib.hid (xlevel_err R rm s p' E' l wr r1 hE)
        have HR := Lib.hid hr
        have HROW := Lib.hid hrow
        have HAT := Lib.hid r1
        clear r1 r2 hr hrow hR
        go_wp2_with fail
        refine HC.out.mono ?_
        rintro e w2 ⟨rfl, hb2⟩
        have R4 := HROW.out.keep hb2.size (fun b h1 h2 => hb2.block b h2)
        obtain ⟨⟨u0, s0⟩, ⟨u1, s1⟩, ⟨u2, s2⟩, fz⟩ := R4.cellsAt hlt
        have hwlt := R4.lt
        have HN : Hid (XsR w R rm s l (rowsX s E c p) c w.heap.size (j + 1) (((w2.setCell ⟨w.heap.size, j * 3, none⟩ (.int .i64 0)).setCell ⟨w.heap.size, j * 3 + 1, none⟩ (.int .i64 0)).setCell ⟨w.heap.size, j * 3 + 2, none⟩ (.slice none 0 0))) := Lib.hid (by
          refine ⟨E', p', (HAT.out.later hb2).only (set3_any w.heap.size _ _ _ _ _ _) hneR hner, Only.past (Only.after R2.out (Only.of_below hb2 R)) (set3_any _ _ _ _ _ _ _) (Nat.le_refl _), .inl ⟨hE, HR.out, ((R4.poke _ _).poke _ _).poke _ _⟩⟩)
        clear hb2 R4
        go_wp2_with fail
        go_roundw
        case rel => exact ⟨j + 1, by go_num, by omega, HN⟩
        case measure => simp [intOf]; omega
      · subst hE
        rw [hcj] at hr
        have HR := Lib.hid hr
        have HROW := Lib.hid hrow
        have HC := Lib.hid (xlevel_any R rm s p' l wr r1 hs hp')
        have RO := rdL_once s 12 p' 100 hp'
        have RE := Lib.hid (rdL_err s 12 p' 100)
        have HSTEP : Hid (∀ (k n q E2 : Nat) (F : Fo), LvIs (rdL s 12 p' 100) k n F q E2 → (E2 ≠ 0 ∧ rowsX s E c p = .no E2) ∨ (E2 = 0 ∧ q ≤ s.size ∧ rowsX s E c p = (rows (lvStep s) (c - (j + 1)) q 0).prep (G.app (.cons k n F .nil)))) := Lib.hid (by
          intro k n q E2 F hlv
          cases hrd : rdL s 12 p' 100 with
          | no er =>
            rw [hrd] at hlv
            obtain ⟨rfl, rfl, rfl, rfl, rfl⟩ := hlv
            exact .inl ⟨RE.out _ hrd, by rw [HR.out, rows_no (lvStep_no hrd)]; rfl⟩
          | ok k' n' F' q' l2 =>
            rw [hrd] at hlv RO
            obtain ⟨rfl, rfl, rfl, rfl, rfl⟩ := hlv
            exact .inr ⟨rfl, RO.2.2.1.2.1, by rw [HR.out, rows_ok (lvStep_ok hrd), Rs.prep_prep]⟩)
        clear r1 r2 hr hrow hR RO RE
        generalize rdL s 12 p' 100 = rr at HC HSTEP
        go_wp2_with fail
        refine HC.out.mono ?_
        rintro e w2 ⟨k, n, q, E2, F, x, cc, rfl, hlv, hs2, hg2, hat2⟩
        have hwlt := HROW.out.lt
        have R4 := HROW.out.keep hg2.size (fun b h1 h2 => Only.block hg2 h2 (by omega))
        obtain ⟨⟨u0, s0⟩, ⟨u1, s1⟩, ⟨u2, s2⟩, fz⟩ := R4.cellsAt hlt
        have HN : Hid (XsR w R rm s l (rowsX s E c p) c w.heap.size (j + 1) (((w2.setCell ⟨w.heap.size, j * 3, none⟩ (.int .i64 k)).setCell ⟨w.heap.size, j * 3 + 1, none⟩ (.int .i64 n)).setCell ⟨w.heap.size, j * 3 + 2, none⟩ (.slice x F.len cc))) := Lib.hid (by
          refine ⟨E2, q, hat2.only (set3_any w.heap.size _ _ _ _ _ _) hneR hner, Only.past (Only.after R2.out hg2) (set3_any _ _ _ _ _ _ _) (Nat.le_refl _), ?_⟩
          rcases HSTEP.out k n q E2 F hlv with ⟨h1, h2⟩ | ⟨h1, h2, h3⟩
          · exact .inl ⟨h1, h2, ((R4.bare.poke _ _).poke _ _).poke _ _⟩
          · exact .inr ⟨h1, h2, _, by rw [Fo.app_len, hG]; rfl, h3, R4.store hG hlt k n (hs2.weak (fun b hb => ⟨by omega, hb.2⟩))⟩)
        clear hlv hs2 hat2 hg2 R4
        go_wp2_with fail
        go_roundw
        case rel => exact ⟨j + 1, by go_num, by omega, HN⟩
        case measure => simp [intOf]; omega
    · have d' : decide (j < c) = false := by simp; omega
      have HE : Hid (XsPost R rm s l c (rowsX s E c p) w (.returned (.slice (some ⟨w.heap.size, 0, none⟩) c c)) wr) := Lib.hid (by
        obtain ⟨E', p', r1, r2, r3⟩ := hR.out
        rcases r3 with ⟨hE, hr, hrow⟩ | ⟨hE, hp', G, hG, hr, hrow⟩
        · rw [hr]
          exact ⟨r2, _, c, rfl, hE, p', r1⟩
        · subst hE
          have hjc : c - j = 0 := by omega
          rw [hjc] at hr
          simp only [rows, Rs.prep, Fo.app_nil] at hr
          rw [hr]
          have hG' : G.len = c := by omega
          exact ⟨r2, _, c, rfl, hG'.symm, hrow.full hG' (by omega) (Nat.le_refl _), r1, hp'⟩)
      go_wp2_with fail
      go_ret
      exact HE.out
end Go.Proofs.Ythnkoamabfaioaa
/- A row of terms that is filled from its head on: what lies in it, and what a term more does; the contract of the program's own reader's terms, out of that of its term. No condition but those that stand in each statement. -/
namespace Go.Proofs.Ythnkoamabfaioaa
open Go.RowKit

/-- A term behind a forest. -/
theorem FtIn.snoc {w : World} {P : Nat → Prop} {k n : Int} {L : Fo} {F : Ft} {la x : Option Addr} {lc c : Nat} : ∀ (G : Ft) (b o : Nat), FtIn w P G b o → w.cell? ⟨b, o + G.len * 4, none⟩ = some (.int .i64 k) → w.cell? ⟨b, o + G.len * 4 + 1, none⟩ = some (.int .i64 n) →
    w.cell? ⟨b, o + G.len * 4 + 2, none⟩ = some (.slice la L.len lc) → SlIn w P L la lc → w.cell? ⟨b, o + G.len * 4 + 3, none⟩ = some (.slice x F.len c) → TlIn w P F x c → FtIn w P (G.app (.cons k n L F .nil)) b o
  | .nil, b, o, _, h0, h1, h2, hl, h3, hs => by
    simp only [Ft.len, Nat.zero_mul, Nat.add_zero] at h0 h1 h2 h3
    exact FtIn.push h0 h1 h2 hl h3 hs trivial
  | .cons k' n' ls ks r, b, o, h, h0, h1, h2, hl, h3, hs => by
    obtain ⟨g1, g2, ⟨a, cap, g3, gl⟩, ⟨a', cap', g4, gs⟩, gr⟩ := h.first
    have e : o + (Ft.cons k' n' ls ks r).len * 4 = o + 4 + r.len * 4 := by simp only [Ft.len]; omega
    rw [e] at h0 h1 h2 h3
    exact FtIn.push g1 g2 g3 gl g4 gs (FtIn.snoc r b (o + 4) gr h0 h1 h2 hl h3 hs)
/-- The block A is a row of c terms; the first ones are those of the forest G, whose slices lie in later blocks. -/
def RowTAt (w : World) (A c : Nat) (G : Ft) : Prop := ∃ cur : Array Value, w.heap[A]? = some (.cells cur 29 (0, 0)) ∧ cur.size = c * 4 ∧ FtIn w (fun b => A < b ∧ b < w.heap.size) G A 0
theorem RowTAt.lt {w : World} {A c : Nat} {G : Ft} (h : RowTAt w A c G) : A < w.heap.size := by
  obtain ⟨cur, h1, _⟩ := h
  exact lt_of_block h1
theorem RowTAt.keep {w w' : World} {A c : Nat} {G : Ft} (h : RowTAt w A c G) (hs : w.heap.size ≤ w'.heap.size) (hk : ∀ b, A ≤ b → b < w.heap.size → w'.heap[b]? = w.heap[b]?) : RowTAt w' A c G := by
  have hlt := h.lt
  obtain ⟨cur, h1, h2, h3⟩ := h
  exact ⟨cur, (hk A (Nat.le_refl _) hlt).trans h1, h2, FtIn.cells (fun b hb => hk b (by omega) hb.2) (fun b hb => ⟨hb.1, by omega⟩) G A 0 (fun j _ => World.cell?_of_block (w := w) (hk A (Nat.le_refl _) hlt)) h3⟩
theorem RowTAt.bare {w : World} {A c : Nat} {G : Ft} (h : RowTAt w A c G) : RowTAt w A c .nil := by
  obtain ⟨cur, h1, h2, _⟩ := h
  exact ⟨cur, h1, h2, trivial⟩
theorem RowTAt.poke {w : World} {A c : Nat} (h : RowTAt w A c .nil) (i : Nat) (v : Value) : RowTAt (w.setCell ⟨A, i, none⟩ v) A c .nil := by
  obtain ⟨cur, h1, h2, _⟩ := h
  exact ⟨_, heap_setCell_same w A i cur 29 v h1, by simpa using h2, trivial⟩
theorem RowTAt.cellsAt {w : World} {A c : Nat} {G : Ft} (h : RowTAt w A c G) {j : Nat} (hj : j < c) : (∃ u0, w.cell? ⟨A, j * 4, none⟩ = some u0) ∧ (∃ u1, w.cell? ⟨A, j * 4 + 1, none⟩ = some u1) ∧ (∃ u2, w.cell? ⟨A, j * 4 + 2, none⟩ = some u2) ∧ (∃ u3, w.cell? ⟨A, j * 4 + 3, none⟩ = some u3) ∧ ∀ o, w.frozen? ⟨A, o, none⟩ = false := by
  obtain ⟨cur, h1, h2, _⟩ := h
  refine ⟨⟨cur[j * 4]'(by omega), ?_⟩, ⟨cur[j * 4 + 1]'(by omega), ?_⟩, ⟨cur[j * 4 + 2]'(by omega), ?_⟩, ⟨cur[j * 4 + 3]'(by omega), ?_⟩, free_of h1⟩
  all_goals rw [cell_at h1]; exact Array.getElem?_eq_getElem _
def set4w (w : World) (A i : Nat) (x y z u : Value) : World := (((w.setCell ⟨A, i, none⟩ x).setCell ⟨A, i + 1, none⟩ y).setCell ⟨A, i + 2, none⟩ z).setCell ⟨A, i + 3, none⟩ u
theorem set4w_only {w : World} (A i : Nat) (x y z u : Value) : w.grownBy (set4w w A i x y z u) (some A) := Only.after (Only.after (Only.after (Only.set _ _ _ _) (Only.set _ _ _ _)) (Only.set _ _ _ _)) (Only.set _ _ _ _)
/-- A term is stored behind those that are there. -/
theorem RowTAt.store {w : World} {A c : Nat} {G : Ft} (h : RowTAt w A c G) {j : Nat} (hG : G.len = j) (hj : j < c) (k n : Int) {L : Fo} {F : Ft} {la x : Option Addr} {lc cc : Nat} (hl : SlIn w (fun b => A < b ∧ b < w.heap.size) L la lc) (hs : TlIn w (fun b => A < b ∧ b < w.heap.size) F x cc) :
    RowTAt (set4w w A (j * 4) (.int .i64 k) (.int .i64 n) (.slice la L.len lc) (.slice x F.len cc)) A c (G.app (.cons k n L F .nil)) := by
  subst hG
  obtain ⟨cur, h1, h2, h3⟩ := h
  have e1 := heap_setCell_same w A (G.len * 4) cur 29 (.int .i64 k) h1
  have e2 := heap_setCell_same _ A (G.len * 4 + 1) _ 29 (.int .i64 n) e1
  have e3 := heap_setCell_same _ A (G.len * 4 + 2) _ 29 (.slice la L.len lc) e2
  have e4 := heap_setCell_same _ A (G.len * 4 + 3) _ 29 (.slice x F.len cc) e3
  have hg := set4w_only (w := w) A (G.len * 4) (.int .i64 k) (.int .i64 n) (.slice la L.len lc) (.slice x F.len cc)
  have hz : (set4w w A (G.len * 4) (.int .i64 k) (.int .i64 n) (.slice la L.len lc) (.slice x F.len cc)).heap.size = w.heap.size := by simp [set4w]
  change (set4w w A (G.len * 4) (.int .i64 k) (.int .i64 n) (.slice la L.len lc) (.slice x F.len cc)).heap[A]? = _ at e4
  generalize set4w w A (G.len * 4) (.int .i64 k) (.int .i64 n) (.slice la L.len lc) (.slice x F.len cc) = W at e4 hg hz ⊢
  have hP : ∀ b, (A < b ∧ b < w.heap.size) → W.heap[b]? = w.heap[b]? := fun b hb => Only.block hg hb.2 (by omega)
  refine ⟨_, e4, by simpa using h2, ?_⟩
  rw [hz]
  refine FtIn.snoc G A 0 (FtIn.cells hP (fun _ h => h) G A 0 (fun j hj => ?_) h3) ?_ ?_ ?_ (hl.keep hP) ?_ (hs.keep hP)
  · rw [cell_at e4, cell_at h1, Nat.zero_add]
    rw [Array.getElem?_setIfInBounds_ne (by omega), Array.getElem?_setIfInBounds_ne (by omega), Array.getElem?_setIfInBounds_ne (by omega), Array.getElem?_setIfInBounds_ne (by omega)]
  · rw [cell_at e4, Nat.zero_add, Array.getElem?_setIfInBounds_ne (by omega), Array.getElem?_setIfInBounds_ne (by omega), Array.getElem?_setIfInBounds_ne (by omega), Array.getElem?_setIfInBounds_self_of_lt (by omega)]
  · rw [cell_at e4, Nat.zero_add, Array.getElem?_setIfInBounds_ne (by omega), Array.getElem?_setIfInBounds_ne (by omega), Array.getElem?_setIfInBounds_self_of_lt (by simp; omega)]
  · rw [cell_at e4, Nat.zero_add, Array.getElem?_setIfInBounds_ne (by omega), Array.getElem?_setIfInBounds_self_of_lt (by simp; omega)]
  · rw [cell_at e4, Nat.zero_add, Array.getElem?_setIfInBounds_self_of_lt (by simp; omega)]
theorem RowTAt.start {w : World} {A c base : Nat} {xs : List Value} (h : w.ownsRow base 29 4 (.slice (some ⟨A, 0, none⟩) c c) c xs) : RowTAt w A c .nil := by
  rcases h.2 with ⟨he, _⟩ | ⟨g, cap, cur, hv, _, hh, _, _, hs, _⟩
  · cases he
  · injection hv with hv1 _ hv3
    injection hv1 with hv1
    injection hv1 with hv1
    subst hv1 hv3
    exact ⟨cur, hh, hs, trivial⟩
theorem RowTAt.full {w : World} {A c lo : Nat} {G : Ft} (h : RowTAt w A c G) (hG : G.len = c) (hc : c ≤ 1000000) (hlo : lo ≤ A) : TlIn w (fun b => lo ≤ b ∧ b < w.heap.size) G (some ⟨A, 0, none⟩) c := by
  have hlt := h.lt
  obtain ⟨cur, _, _, h3⟩ := h
  exact TlIn.mk (by omega) hc ⟨hlo, hlt⟩ (FtIn.weak (fun b hb => ⟨by omega, hb.2⟩) _ _ _ h3)

theorem Ts.prepP (G H : Ft) : ∀ r : Ts, (r.prep H).prep G = r.prep (G.app H)
  | .no _ => rfl
  | .ok .. => by simp only [Ts.prep, Ft.app_assoc]
theorem Ts.prepN : ∀ r : Ts, r.prep .nil = r
  | .no _ => rfl
  | .ok .. => rfl
/-- What was read: as the recursive reader says, in blocks from lo on, or the error lies in the reader's block. -/
def XtIs (R rm : Nat) (s : ByteArray) (r : Tl) (lo : Nat) (w' : World) (k' n' : Int) (la : Option Addr) (ln lc : Nat) (ka : Option Addr) (kn kc : Nat) : Prop :=
  match r with
  | .no er => er ≠ 0 ∧ ∃ p' l', XrAt w' R rm s p' l' er
  | .ok k n ls ks q m => k' = k ∧ n' = n ∧ ln = ls.len ∧ kn = ks.len ∧ SlIn w' (fun b => lo ≤ b ∧ b < w'.heap.size) ls la lc ∧ TlIn w' (fun b => lo ≤ b ∧ b < w'.heap.size) ks ka kc ∧ XrAt w' R rm s q (600 - (m : Int)) 0 ∧ q ≤ s.size ∧ m ≤ 600
def XtPost (R rm : Nat) (s : ByteArray) (r : Tl) (w : World) (e : Ending) (w' : World) : Prop :=
  ∃ (k' n' : Int) (la : Option Addr) (ln lc : Nat) (ka : Option Addr) (kn kc : Nat), e = .returned (.agg #[.int .i64 k', .int .i64 n', .slice la ln lc, .slice ka kn kc]) ∧ w.grownBy w' (some R) ∧ XtIs R rm s r w.heap.size w' k' n' la ln lc ka kn kc
theorem XtIs.turn {R rm : Nat} {s : ByteArray} {r : Tl} {lo lo' C : Nat} {w w' : World} {k' n' : Int} {la : Option Addr} {ln lc : Nat} {ka : Option Addr} {kn kc : Nat} (h : XtIs R rm s r lo w k' n' la ln lc ka kn kc) (hg : w.grownBy w' (some C)) (hC : C < lo) (hl : lo' ≤ lo) (h1 : R ≠ C) (h2 : rm ≠ C) : XtIs R rm s r lo' w' k' n' la ln lc ka kn kc := by
  cases r with
  | no er =>
    obtain ⟨h0, p', l', h3⟩ := h
    exact ⟨h0, p', l', h3.only hg h1 h2⟩
  | ok k n ls ks q m =>
    obtain ⟨g1, g2, g3, g4, g5, g6, g7, g8, g9⟩ := h
    have hz := hg.size
    exact ⟨g1, g2, g3, g4, (g5.keep (fun b hb => Only.block hg hb.2 (by omega))).weak (fun b hb => ⟨by omega, by omega⟩), g6.turn (fun b hb => Only.block hg hb.2 (by omega)) (fun b hb => ⟨by omega, by omega⟩), g7.only hg h1 h2, g8, g9⟩
/-- What is known of the reader's term, of so many terms nested in each other. -/
def XtAny (R rm : Nat) (s : ByteArray) (d : Nat) : Prop := ∀ (b p m : Nat) (w : World), XrAt w R rm s p (600 - (m : Int)) 0 → p ≤ s.size → m ≤ 600 → b + d ≤ 1000 →
  Calls Try.prog 30 #[.pointer (some ⟨R, 0, none⟩), .agg #[.int .i64 b, .int .i64 d]] w (XtPost R rm s (rdT s d b p m) w)
def XtErr (R rm : Nat) (s : ByteArray) : Prop := ∀ (b d : Int) (p er : Nat) (l : Int) (w : World), XrAt w R rm s p l er → er ≠ 0 →
  Calls Try.prog 30 #[.pointer (some ⟨R, 0, none⟩), .agg #[.int .i64 b, .int .i64 d]] w fun e w' => e = .returned (.agg #[.int .i64 0, .int .i64 0, .slice none 0 0, .slice none 0 0]) ∧ Below w.heap.size w w'
def XqPost (R rm : Nat) (s : ByteArray) (c : Nat) (r : Ts) (w : World) (e : Ending) (w' : World) : Prop :=
  w.grownBy w' (some R) ∧ ∃ (x : Option Addr) (cc : Nat), e = .returned (.slice x c cc) ∧
  match r with
  | .no er => er ≠ 0 ∧ ∃ p' l', XrAt w' R rm s p' l' er
  | .ok F q m => c = F.len ∧ TlIn w' (fun b => w.heap.size ≤ b ∧ b < w'.heap.size) F x cc ∧ XrAt w' R rm s q (600 - (m : Int)) 0 ∧ q ≤ s.size ∧ m ≤ 600
/-- What stands while the terms are read. -/
def XqR (w : World) (R rm : Nat) (s : ByteArray) (d : Nat) (k : Int) (b : Nat) (r : Ts) (c A j : Nat) (wr : World) : Prop :=
  ∃ (E p' : Nat) (l' : Int), XrAt wr R rm s p' l' E ∧ w.grownBy wr (some R) ∧
  ((E ≠ 0 ∧ r = .no E ∧ RowTAt wr A c .nil) ∨ (E = 0 ∧ p' ≤ s.size ∧ ∃ (G : Ft) (m' : Nat), l' = 600 - (m' : Int) ∧ m' ≤ 600 ∧ G.len = j ∧ r = (rowsT (rdT s d) k b (c - j) j p' m').prep G ∧ RowTAt wr A c G))

set_option maxRecDepth 100000 in
set_option maxHeartbeats 4000000 in
theorem xterms_any (R rm : Nat) (s : ByteArray) (d : Nat) (HT : Hid (XtAny R rm s d)) (HX : Hid (XtErr R rm s)) (k : Int) (b c p m PL : Nat) (w : World) (hc : c ≤ 10) (hat : XrAt w R rm s p (600 - (m : Int)) 0) (hp : p ≤ s.size) (hm : m ≤ 600) (hb : b + 1 + d ≤ 1000)
    (hpl : ∀ j : Nat, j < c → w.cell? ⟨PL, j * 2, none⟩ = some (.int .i64 ((b + (bindK k j).toNat : Nat) : Int)) ∧ w.cell? ⟨PL, j * 2 + 1, none⟩ = some (.int .i64 (d : Int))) (hPL : PL < w.heap.size) (hne : PL ≠ R) :
    Calls Try.prog 64 #[.pointer (some ⟨R, 0, none⟩), .slice (some ⟨PL, 0, none⟩) c c] w (XqPost R rm s c (rowsT (rdT s d) k b c 0 p m) w) := by
  obtain ⟨i0, hi, hz0, hz1, hz2⟩ := info_parts infoTerm
  have hRlt := lt_of_block hat.1
  have hrlt := lt_of_block hat.2.1
  have HA := Lib.hid hat
  have HI := Lib.hid hi
  have HZ := Lib.hid (And.intro hz0 (And.intro hz1 hz2))
  have HPL := Lib.hid hpl
  clear hat hi hz0 hz1 hz2 hpl
  obtain ⟨r, hr⟩ : ∃ r, rowsT (rdT s d) k b c 0 p m = r := ⟨_, rfl⟩
  rw [hr]
  have HRR := Lib.hid hr
  clear hr
  go_enter Try.func64, Try.ntmps64
  go_wp2_with (at_make; refine wpList_make_full _ rfl _ _ 27 rfl w.heap.size 29 i0 _ 4 Try.underlying27 HI.out HZ.out.1 HZ.out.2.1 _ _ _ _ c rfl rfl rfl rfl (by rw [HZ.out.2.2]; omega) (by unfold maxLen; omega) (Nat.le_refl _) ?_; intro w1 hown1 hgr1)
  have HS : Hid (XqR w R rm s d k b r c w.heap.size 0 w1) := Lib.hid ⟨0, p, _, HA.out.turn (hgr1.block R hRlt (by simp)) (hgr1.block rm hrlt (by simp)), ⟨hgr1.os, hgr1.tape, hgr1.output, hgr1.size, fun i hi _ => hgr1.block i hi (by simp)⟩,
    .inr ⟨rfl, hp, .nil, m, rfl, hm, rfl, by rw [Ts.prepN, Nat.sub_zero, HRR.out], RowTAt.start hown1⟩⟩
  clear hown1 hgr1
  go_wp2_with fail
  go_loopw [13] (fun i wr => ∃ j : Nat, i = .int .i64 j ∧ j ≤ c ∧ Hid (XqR w R rm s d k b r c w.heap.size j wr)) (fun i _ => c - (intOf i).toNat)
  case atStart => exact ⟨0, rfl, Nat.zero_le _, HS⟩
  case round =>
    obtain ⟨j, rfl, hj, hR⟩ := hrel
    by_cases hlt : j < c
    · obtain ⟨E', p', l', r1, r2, r3⟩ := hR.out
      have R2 := Lib.hid r2
      have hcj : c - j = (c - (j + 1)) + 1 := by omega
      have hneR : R ≠ w.heap.size := by omega
      have hner : rm ≠ w.heap.size := by omega
      have hPB := Only.block r2 hPL hne
      have y0 := (World.cell?_of_block (a := ⟨PL, j * 2, none⟩) hPB).trans (HPL.out j hlt).1
      have y1 := (World.cell?_of_block (a := ⟨PL, j * 2 + 1, none⟩) hPB).trans (HPL.out j hlt).2
      obtain ⟨B, hB⟩ : ∃ B, b + (bindK k j).toNat = B := ⟨_, rfl⟩
      have hBb : B + d ≤ 1000 := by have := bindK_nn k j; omega
      rw [hB] at y0
      have hal : Below wr.heap.size wr (wr.alloc (.cells #[.int .i64 (B : Int), .int .i64 (d : Int)] 64)) := (Below.refl _ _).alloc (Nat.le_refl _) _
      have HAL := Lib.hid hal
      rcases r3 with ⟨hE, hr, hrow⟩ | ⟨hE, hp', G, m', rfl, hm', hG, hr, hrow⟩
      · have HC := Lib.hid (HX.out B d p' E' l' _ (r1.later hal) hE)
        have HR := Lib.hid hr
        have HROW := Lib.hid hrow
        have HAT := Lib.hid (r1.later hal)
        clear r1 r2 hr hrow hR hal hPB
        go_wp2_with fail
        refine HC.out.mono ?_
        rintro e w2 ⟨rfl, hb2⟩
        have hb3 := Below.step HAL.out hb2 (Nat.le_refl _)
        have R4 := HROW.out.keep hb3.size (fun b h1 h2 => hb3.block b h2)
        obtain ⟨⟨u0, s0⟩, ⟨u1, s1⟩, ⟨u2, s2⟩, ⟨u3, s3⟩, fz⟩ := R4.cellsAt hlt
        have hwlt := R4.lt
        have HN : Hid (XqR w R rm s d k b r c w.heap.size (j + 1) ((((w2.setCell ⟨w.heap.size, j * 4, none⟩ (.int .i64 0)).setCell ⟨w.heap.size, j * 4 + 1, none⟩ (.int .i64 0)).setCell ⟨w.heap.size, j * 4 + 2, none⟩ (.slice none 0 0)).setCell ⟨w.heap.size, j * 4 + 3, none⟩ (.slice none 0 0))) := Lib.hid (by
          refine ⟨E', p', l', (HAT.out.later hb2).only (set4w_only w.heap.size (j * 4) _ _ _ _) hneR hner, Only.past (Only.after R2.out (Only.of_below hb3 R)) (set4w_only w.heap.size (j * 4) _ _ _ _) (Nat.le_refl _), .inl ⟨hE, HR.out, (((R4.poke _ _).poke _ _).poke _ _).poke _ _⟩⟩)
        clear hb2 hb3 R4
        go_wp2_with fail
        go_roundw
        case rel => exact ⟨j + 1, by go_num, by omega, HN⟩
        case measure => simp [intOf]; omega
      · subst hE
        rw [hcj] at hr
        have HR := Lib.hid hr
        have HROW := Lib.hid hrow
        have HC := Lib.hid (HT.out B p' m' _ (r1.later hal) hp' hm' hBb)
        have hst : rdT s d (b + (bindK k j).toNat) p' m' = rdT s d B p' m' := by rw [hB]
        have HSTEP : Hid (∀ (w2 : World) (k' n' : Int) (la : Option Addr) (ln lc : Nat) (ka : Option Addr) (kn kc : Nat), wr.grownBy w2 (some R) → w.heap.size < wr.heap.size → XtIs R rm s (rdT s d B p' m') wr.heap.size w2 k' n' la ln lc ka kn kc →
            XqR w R rm s d k b r c w.heap.size (j + 1) (set4w w2 w.heap.size (j * 4) (.int .i64 k') (.int .i64 n') (.slice la ln lc) (.slice ka kn kc))) := Lib.hid (by
          intro w2 k' n' la ln lc ka kn kc hg2 hwlt hx
          have R4 := HROW.out.keep hg2.size (fun b h1 h2 => Only.block hg2 h2 (by omega))
          have hg3 := set4w_only (w := w2) w.heap.size (j * 4) (.int .i64 k') (.int .i64 n') (.slice la ln lc) (.slice ka kn kc)
          have hx2 := hx.turn (lo' := wr.heap.size) hg3 (by omega) (Nat.le_refl _) hneR hner
          have hg4 := Only.past (Only.after R2.out hg2) hg3 (Nat.le_refl _)
          cases hrd : rdT s d B p' m' with
          | no er =>
            rw [hrd] at hx2
            obtain ⟨h0, p2, l2, h1⟩ := hx2
            exact ⟨er, p2, l2, h1, hg4, .inl ⟨h0, by rw [HR.out, rowsT_no (hst.trans hrd)]; rfl, (((R4.bare.poke _ _).poke _ _).poke _ _).poke _ _⟩⟩
          | ok k1 n1 L F q m2 =>
            rw [hrd] at hx hx2
            obtain ⟨rfl, rfl, rfl, rfl, h5, h6, h7, h8, h9⟩ := hx
            refine ⟨0, q, _, hx2.2.2.2.2.2.2.1, hg4, .inr ⟨rfl, h8, G.app (.cons k1 n1 L F .nil), m2, rfl, h9, by rw [Ft.app_len, hG]; rfl, by rw [HR.out, rowsT_ok (hst.trans hrd), Ts.prepP], R4.store hG hlt k1 n1 (h5.weak (fun b hb => ⟨by omega, hb.2⟩)) (h6.weak (fun b hb => ⟨by omega, hb.2⟩))⟩⟩)
        clear r1 r2 hr hrow hR hst hPB
        generalize rdT s d B p' m' = rr at HC HSTEP
        have hwlt := HROW.out.lt
        go_wp2_with fail
        refine HC.out.mono ?_
        rintro e w2 ⟨k', n', la, ln, lc, ka, kn, kc, rfl, hg2, hx⟩
        have hg3 := Only.after (Only.of_below HAL.out R) hg2
        have R4 := HROW.out.keep hg3.size (fun b h1 h2 => Only.block hg3 h2 (by omega))
        obtain ⟨⟨u0, s0⟩, ⟨u1, s1⟩, ⟨u2, s2⟩, ⟨u3, s3⟩, fz⟩ := R4.cellsAt hlt
        have hw2 := R4.lt
        have HN := Lib.hid (HSTEP.out w2 k' n' la ln lc ka kn kc hg3 hwlt (by
          have hx' := hx.turn (C := w.heap.size) (lo' := wr.heap.size) (Only.refl w2 _) (by simp; omega) (by simp) hneR hner
          exact hx'))
        unfold set4w at HN
        clear hx hg2 hg3 R4
        go_wp2_with fail
        go_roundw
        case rel => exact ⟨j + 1, by go_num, by omega, HN⟩
        case measure => simp [intOf]; omega
    · have d' : decide (j < c) = false := by simp; omega
      have HE : Hid (XqPost R rm s c r w (.returned (.slice (some ⟨w.heap.size, 0, none⟩) c c)) wr) := Lib.hid (by
        obtain ⟨E', p', l', r1, r2, r3⟩ := hR.out
        rcases r3 with ⟨hE, hr, hrow⟩ | ⟨hE, hp', G, m', rfl, hm', hG, hr, hrow⟩
        · rw [hr]
          exact ⟨r2, _, c, rfl, hE, p', l', r1⟩
        · subst hE
          have hjc : c - j = 0 := by omega
          rw [hjc] at hr
          simp only [rowsT, Ts.prep, Ft.app_nil] at hr
          rw [hr]
          have hG' : G.len = c := by omega
          exact ⟨r2, _, c, rfl, hG'.symm, hrow.full hG' (by omega) (Nat.le_refl _), r1, hp', hm'⟩)
      go_wp2_with fail
      go_ret
      exact HE.out
end Go.Proofs.Ythnkoamabfaioaa
