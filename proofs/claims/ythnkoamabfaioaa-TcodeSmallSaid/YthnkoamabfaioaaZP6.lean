/- The contracts of the program's own readings: what follows a term's Kind, read into the term's variable, or an error; nothing else that was there changes but the reader's own block. No condition but those that stand in each statement. -/
import Derived.Test.YthnkoamabfaioaaZP5
import Derived.Test.YthnkoamabfaioaaHeldM
namespace Go.Proofs.Ythnkoamabfaioaa
open Go.RowKit

theorem num_zero {s : ByteArray} {p : Nat} (h : (num s p).2.2 ≠ 0) : (num s p).1 = 0 := by
  unfold num at h ⊢
  rcases rd_cases p (s.data.toList.drop p) 0 0 with e | e | ⟨m, cnt, e, _⟩
  · rw [e]
  · rw [e]
  · rw [e] at h; simp at h
theorem num_fin {s : ByteArray} {p : Nat} (h : (num s p).2.2 = 0) : (num s p).2.1 ≤ s.size := by
  rcases num_cases s p with e | ⟨m, cnt, e, _, h2, _⟩
  · exact absurd h e
  · rw [e]; exact h2
/-- What numberBelow comes to, whether there is an error already or not. -/
def NbIs (s : ByteArray) (p lim E v E' q : Nat) : Prop :=
  (E ≠ 0 ∧ E' = E) ∨ (E = 0 ∧ (num s p).2.2 = 0 ∧ (num s p).1 < lim ∧ v = (num s p).1 ∧ q = (num s p).2.1 ∧ E' = 0) ∨
  (E = 0 ∧ E' ≠ 0 ∧ E' = (if (num s p).2.2 ≠ 0 then (num s p).2.2 else 20) ∧ ((num s p).2.2 ≠ 0 ∨ lim ≤ (num s p).1))
theorem xbelow_gen (R rm : Nat) (s : ByteArray) (p lim E : Nat) (l : Int) (w : World) (hat : XrAt w R rm s p l E) (hs : s.size ≤ maxLen) (hp : E = 0 → p ≤ s.size) (hl : 1 ≤ lim) :
    Calls Try.prog 62 #[.pointer (some ⟨R, 0, none⟩), .int .i64 lim] w fun e w' => ∃ v E' q : Nat, e = .returned (.int .i64 v) ∧ v < lim ∧ NbIs s p lim E v E' q ∧ XrAt w' R rm s q l E' ∧ w.grownBy w' (some R) := by
  by_cases hE : E = 0
  · subst hE
    refine (xbelow_any R rm s p lim l w hat hs (hp rfl) hl).mono ?_
    rintro e w' ⟨hg, ⟨h1, h2, rfl, h3⟩ | ⟨v, er, q, h1, h2, h3, h4, rfl, h5⟩⟩
    · exact ⟨_, 0, _, rfl, h2, .inr (.inl ⟨rfl, h1, h2, rfl, rfl, rfl⟩), h3, hg⟩
    · exact ⟨v, er, q, rfl, h1, .inr (.inr ⟨rfl, h2, h3, h4⟩), h5, hg⟩
  · refine (xbelow_err R rm s p lim E l w hat hE hl).mono ?_
    rintro e w' ⟨rfl, rfl⟩
    exact ⟨0, E, p, rfl, hl, .inl ⟨hE, rfl⟩, hat, Only.refl _ _⟩

set_option maxRecDepth 100000 in
set_option maxHeartbeats 1000000 in
theorem xplace_any (b t own : Int) (hb : 0 ≤ b ∧ b ≤ 2000) (ht : 0 ≤ t ∧ t ≤ 1000) (ho : 0 ≤ own ∧ own ≤ 1) (w : World) :
    Calls Try.prog 65 #[.agg #[.int .i64 b, .int .i64 t], .int .i64 own] w fun e w' => e = .returned (.agg #[.int .i64 (b + own), .int .i64 (t - 1)]) ∧ Below w.heap.size w w' := by
  have w1 : IntKind.i64.wrap (b + own) = b + own := IntWalk.i64_in _ (by omega)
  have w2 : IntKind.i64.wrap (t - 1) = t - 1 := IntWalk.i64_in _ (by omega)
  have HB : Hid (Below w.heap.size w ((w.alloc (.cells #[.int .i64 b, .int .i64 t] 64)).alloc (.cells #[.int .i64 (b + own), .int .i64 (t - 1)] 64))) := Lib.hid (((Below.refl _ _).alloc (Nat.le_refl _) _).alloc (by simp) _)
  go_enter Try.func65, Try.ntmps65
  go_wp2_with fail
  refine bodyPost_ret (v := .agg #[.int .i64 (b + own), .int .i64 (t - 1)]) (by simp [results, Try.results65, go_sem]) rfl ?_
  exact ⟨rfl, HB.out⟩

/-- Nothing that was there has changed but two blocks. -/
structure Two (R T : Nat) (w w' : World) : Prop where
  os : w'.os = w.os
  tape : w'.tape = w.tape
  output : w'.output = w.output
  size : w.heap.size ≤ w'.heap.size
  block : ∀ i, i < w.heap.size → i ≠ R → i ≠ T → w'.heap[i]? = w.heap[i]?
theorem Two.of {R T : Nat} {w w' : World} (h : w.grownBy w' (some R)) : Two R T w w' := ⟨h.os, h.tape, h.output, h.size, fun _ hi h1 _ => Only.block h hi h1⟩
theorem Two.set {R T : Nat} {w w' : World} (h : Two R T w w') (i : Nat) (v : Value) : Two R T w (w'.setCell ⟨T, i, none⟩ v) := by
  have hg := Only.set w' T i v
  exact ⟨hg.os.trans h.os, hg.tape.trans h.tape, hg.output.trans h.output, Nat.le_trans h.size hg.size, fun j hj h1 h2 => (Only.block hg (Nat.lt_of_lt_of_le hj h.size) h2).trans (h.block j hj h1 h2)⟩
theorem Two.more {R T : Nat} {w w' w2 : World} (h : Two R T w w') (hg : w'.grownBy w2 (some R)) : Two R T w w2 :=
  ⟨hg.os.trans h.os, hg.tape.trans h.tape, hg.output.trans h.output, Nat.le_trans h.size hg.size, fun j hj h1 h2 => (Only.block hg (Nat.lt_of_lt_of_le hj h.size) h1).trans (h.block j hj h1 h2)⟩
theorem Two.past {R T : Nat} {w0 w w' : World} (h0 : w0.grownBy w (some R)) (h : Two R T w w') (hT : w0.heap.size ≤ T) : w0.grownBy w' (some R) :=
  ⟨h.os.trans h0.os, h.tape.trans h0.tape, h.output.trans h0.output, Nat.le_trans h0.size h.size, fun i hi hne => (h.block i (Nat.lt_of_lt_of_le hi h0.size) (fun e => hne (by rw [e])) (by omega)).trans (h0.block i hi hne)⟩
/-- The term's variable. -/
def TvAt (w : World) (T : Nat) (k n : Int) (la : Option Addr) (ln lc : Nat) (ka : Option Addr) (kn kc : Nat) : Prop := w.heap[T]? = some (.cells #[.int .i64 k, .int .i64 n, .slice la ln lc, .slice ka kn kc] 29 (0, 0))
theorem TvAt.set1 {w : World} {T : Nat} {k n : Int} {la : Option Addr} {ln lc : Nat} {ka : Option Addr} {kn kc : Nat} (h : TvAt w T k n la ln lc ka kn kc) (v : Int) : TvAt (w.setCell ⟨T, 1, none⟩ (.int .i64 v)) T k v la ln lc ka kn kc := heap_setCell_same w T 1 _ _ _ h
theorem TvAt.set2 {w : World} {T : Nat} {k n : Int} {la : Option Addr} {ln lc : Nat} {ka : Option Addr} {kn kc : Nat} (h : TvAt w T k n la ln lc ka kn kc) (x : Option Addr) (xl xc : Nat) : TvAt (w.setCell ⟨T, 2, none⟩ (.slice x xl xc)) T k n x xl xc ka kn kc := heap_setCell_same w T 2 _ _ _ h
theorem TvAt.set3 {w : World} {T : Nat} {k n : Int} {la : Option Addr} {ln lc : Nat} {ka : Option Addr} {kn kc : Nat} (h : TvAt w T k n la ln lc ka kn kc) (x : Option Addr) (xl xc : Nat) : TvAt (w.setCell ⟨T, 3, none⟩ (.slice x xl xc)) T k n la ln lc x xl xc := heap_setCell_same w T 3 _ _ _ h
theorem TvAt.only {w w' : World} {T C : Nat} {k n : Int} {la : Option Addr} {ln lc : Nat} {ka : Option Addr} {kn kc : Nat} (h : TvAt w T k n la ln lc ka kn kc) (hg : w.grownBy w' (some C)) (hC : T ≠ C) : TvAt w' T k n la ln lc ka kn kc := (Only.block hg (lt_of_block h) hC).trans h
theorem TvAt.later {w w' : World} {T : Nat} {k n : Int} {la : Option Addr} {ln lc : Nat} {ka : Option Addr} {kn kc : Nat} (h : TvAt w T k n la ln lc ka kn kc) (hb : Below w.heap.size w w') : TvAt w' T k n la ln lc ka kn kc := (hb.block _ (lt_of_block h)).trans h
/-- What a reading answers. -/
def XvPost (R rm : Nat) (s : ByteArray) (T : Nat) (r : Tl) (w : World) (e : Ending) (w' : World) : Prop :=
  e = .returned (.tuple #[]) ∧ Two R T w w' ∧ ∃ (k n : Int) (la : Option Addr) (ln lc : Nat) (ka : Option Addr) (kn kc : Nat), TvAt w' T k n la ln lc ka kn kc ∧ XtIs R rm s r w.heap.size w' k n la ln lc ka kn kc
/-- Where the term's variable and the reader lie. -/
def XvIn (R rm : Nat) (s : ByteArray) (p : Nat) (m : Nat) (T k : Nat) (w : World) : Prop := XrAt w R rm s p (600 - (m : Int)) 0 ∧ TvAt w T k 0 none 0 0 none 0 0 ∧ T ≠ R ∧ T ≠ rm ∧ p ≤ s.size ∧ m ≤ 600
theorem XvIn.alloc {R rm p m T k : Nat} {s : ByteArray} {w : World} (h : XvIn R rm s p m T k w) (o : Obj) : XvIn R rm s p m T k (w.alloc o) := ⟨h.1.alloc o, h.2.1.later ((Below.refl _ _).alloc (Nat.le_refl _) o), h.2.2⟩

set_option maxRecDepth 100000 in
set_option maxHeartbeats 1000000 in
theorem xvar_any (R rm : Nat) (s : ByteArray) (hs : s.size ≤ maxLen) (st : Nat → Nat → Nat → Tl) (b p m T : Nat) (t : Int) (w : World) (h : XvIn R rm s p m T 1 w) (hb : b ≤ 1000) :
    Calls Try.prog 42 #[.pointer (some ⟨R, 0, none⟩), .pointer (some ⟨T, 0, none⟩), .agg #[.int .i64 b, .int .i64 t]] w (XvPost R rm s T (rdKt s st 1 b p m) w) := by
  have hal : Below w.heap.size w (w.alloc (.cells #[.int .i64 (b : Int), .int .i64 t] 64)) := (Below.refl _ _).alloc (Nat.le_refl _) _
  have HB := Lib.hid hal
  have H1 := Lib.hid (h.alloc (.cells #[.int .i64 (b : Int), .int .i64 t] 64))
  have HC := Lib.hid (xbelow_gen R rm s p (1000 + b) 0 (600 - (m : Int)) _ H1.out.1 hs (fun _ => h.2.2.2.2.1) (by omega))
  rw [show ((1000 + b : Nat) : Int) = 1000 + (b : Int) by omega] at HC
  have w1 : IntKind.i64.wrap (1000 + (b : Int)) = 1000 + (b : Int) := IntWalk.i64_in _ (by omega)
  clear hal
  go_enter Try.func42, Try.ntmps42
  go_wp2_with fail
  refine HC.out.mono ?_
  rintro e w2 ⟨v, E', q, rfl, hv, hn, hat2, hg2⟩
  have T2 := H1.out.2.1.only hg2 h.2.2.1
  have c1 := cell_at T2 1
  have fz := free_of T2
  simp only [List.getElem?_toArray, List.getElem?_cons_zero, List.getElem?_cons_succ] at c1
  have hgs := Only.set w2 T 1 (.int .i64 (v : Int))
  have HE : Hid (XvPost R rm s T (rdKt s st 1 b p m) w (.returned (.tuple #[])) (w2.setCell ⟨T, 1, none⟩ (.int .i64 (v : Int)))) := Lib.hid (by
    refine ⟨rfl, (Two.of (Only.after (Only.of_below HB.out R) hg2)).set 1 _, _, _, _, _, _, _, _, _, T2.set1 v, ?_⟩
    have hat3 := hat2.only hgs (Ne.symm h.2.2.1) (Ne.symm h.2.2.2.1)
    rcases hn with ⟨h0, _⟩ | ⟨_, n1, n2, rfl, rfl, rfl⟩ | ⟨_, n1, rfl, n2⟩
    · exact absurd rfl h0
    · rw [rdKt, if_pos rfl, if_neg (by omega), if_neg (by omega)]
      exact ⟨rfl, rfl, rfl, rfl, SlIn.none _ _, TlIn.none _ _, hat3, num_fin n1, h.2.2.2.2.2⟩
    · rw [rdKt, if_pos rfl]
      by_cases h3 : (num s p).2.2 ≠ 0
      · rw [if_pos h3] at hat3 ⊢
        exact ⟨h3, q, _, hat3⟩
      · rw [if_neg h3] at hat3 ⊢
        rw [if_pos (by omega)]
        exact ⟨by decide, q, _, hat3⟩)
  clear hn hat2 hg2 T2 hgs
  go_wp2_with fail
  go_end0
  exact HE.out

set_option maxRecDepth 100000 in
set_option maxHeartbeats 1000000 in
theorem xsort_any (R rm : Nat) (s : ByteArray) (hs : s.size ≤ maxLen) (st : Nat → Nat → Nat → Tl) (b p m T : Nat) (t : Int) (w : World) (h : XvIn R rm s p m T 2 w) :
    Calls Try.prog 43 #[.pointer (some ⟨R, 0, none⟩), .pointer (some ⟨T, 0, none⟩), .agg #[.int .i64 b, .int .i64 t]] w (XvPost R rm s T (rdKt s st 2 b p m) w) := by
  have hal : Below w.heap.size w (w.alloc (.cells #[.int .i64 (b : Int), .int .i64 t] 64)) := (Below.refl _ _).alloc (Nat.le_refl _) _
  have HB := Lib.hid hal
  have H1 := Lib.hid (h.alloc (.cells #[.int .i64 (b : Int), .int .i64 t] 64))
  have HC := Lib.hid (xlevels_any R rm s hs 0 1 p (600 - (m : Int)) _ (by omega) H1.out.1 (fun _ => h.2.2.2.2.1))
  clear hal
  go_enter Try.func43, Try.ntmps43
  go_wp2_with fail
  refine HC.out.mono ?_
  rintro e w2 ⟨hg2, x, cc, rfl, hr⟩
  have T2 := H1.out.2.1.only hg2 h.2.2.1
  have c2 := cell_at T2 2
  have fz := free_of T2
  simp only [List.getElem?_toArray, List.getElem?_cons_zero, List.getElem?_cons_succ] at c2
  have hgs := Only.set w2 T 2 (.slice x 1 cc)
  have HE : Hid (XvPost R rm s T (rdKt s st 2 b p m) w (.returned (.tuple #[])) (w2.setCell ⟨T, 2, none⟩ (.slice x 1 cc))) := Lib.hid (by
    refine ⟨rfl, (Two.of (Only.after (Only.of_below HB.out R) hg2)).set 2 _, _, _, _, _, _, _, _, _, T2.set2 x 1 cc, ?_⟩
    have e1 : rdKt s st 2 b p m = (rowsX s 0 1 p).term 2 0 m := rfl
    rw [e1]
    have hTw := lt_of_block h.2.1
    have hz2 := hg2.size
    rw [World.size_alloc] at hz2
    have hzs := hgs.size
    cases hrw : rowsX s 0 1 p with
    | no er =>
      rw [hrw] at hr
      obtain ⟨h0, q, h1⟩ := hr
      exact ⟨h0, q, _, h1.only hgs (Ne.symm h.2.2.1) (Ne.symm h.2.2.2.1)⟩
    | ok F q l2 =>
      rw [hrw] at hr
      obtain ⟨h0, h1, h2, h3⟩ := hr
      refine ⟨rfl, rfl, h0, rfl, (h1.keep (fun i hi => Only.block hgs hi.2 (by have := hi.1; rw [World.size_alloc] at this; omega))).weak (fun i hi => ⟨by have := hi.1; rw [World.size_alloc] at this; omega, by omega⟩), TlIn.none _ _, h2.only hgs (Ne.symm h.2.2.1) (Ne.symm h.2.2.2.1), h3, h.2.2.2.2.2⟩)
  clear hr hg2 T2 hgs
  go_wp2_with fail
  go_end0
  exact HE.out

set_option maxRecDepth 100000 in
set_option maxHeartbeats 2000000 in
theorem xconst_any (R rm : Nat) (s : ByteArray) (hs : s.size ≤ maxLen) (st : Nat → Nat → Nat → Tl) (b p m T : Nat) (t : Int) (w : World) (h : XvIn R rm s p m T 3 w) :
    Calls Try.prog 44 #[.pointer (some ⟨R, 0, none⟩), .pointer (some ⟨T, 0, none⟩), .agg #[.int .i64 b, .int .i64 t]] w (XvPost R rm s T (rdKt s st 3 b p m) w) := by
  have hal : Below w.heap.size w (w.alloc (.cells #[.int .i64 (b : Int), .int .i64 t] 64)) := (Below.refl _ _).alloc (Nat.le_refl _) _
  have HB := Lib.hid hal
  have H1 := Lib.hid (h.alloc (.cells #[.int .i64 (b : Int), .int .i64 t] 64))
  have HC := Lib.hid (xbelow_gen R rm s p 20 0 (600 - (m : Int)) _ H1.out.1 hs (fun _ => h.2.2.2.2.1) (by omega))
  have hne1 := h.2.2.1
  have hne2 := h.2.2.2.1
  clear hal
  go_enter Try.func44, Try.ntmps44
  go_wp2_with fail
  refine HC.out.mono ?_
  rintro e w2 ⟨v, E2, q2, rfl, hv, hn2, hat2, hg2⟩
  have T2 := H1.out.2.1.only hg2 hne1
  have c1 := cell_at T2 1
  have fz := free_of T2
  simp only [List.getElem?_toArray, List.getElem?_cons_zero, List.getElem?_cons_succ] at c1
  have hgs := Only.set w2 T 1 (.int .i64 (v : Int))
  have T3 := T2.set1 (v : Int)
  have hat3 := hat2.only hgs (Ne.symm hne1) (Ne.symm hne2)
  have H3 : Hid (TvAt (w2.setCell ⟨T, 1, none⟩ (.int .i64 (v : Int))) T 3 v none 0 0 none 0 0 ∧ XrAt (w2.setCell ⟨T, 1, none⟩ (.int .i64 (v : Int))) R rm s q2 (600 - (m : Int)) E2 ∧ Two R T w (w2.setCell ⟨T, 1, none⟩ (.int .i64 (v : Int)))) := Lib.hid ⟨T3, hat3, (Two.of (Only.after (Only.of_below HB.out R) hg2)).set 1 _⟩
  have HN2 := Lib.hid hn2
  have HC2 := Lib.hid (xbelow_gen R rm s q2 6 E2 (600 - (m : Int)) _ hat3 hs (fun hE => by
    rcases hn2 with ⟨h0, _⟩ | ⟨_, n1, _, _, rfl, _⟩ | ⟨_, n1, _⟩
    · exact absurd rfl h0
    · exact num_fin n1
    · exact absurd hE n1) (by omega))
  clear hn2 hat2 hg2 T2 hgs T3 hat3 HC
  go_wp2_with fail
  clear c1 fz
  generalize w2.setCell ⟨T, 1, none⟩ (.int .i64 (v : Int)) = w3 at H3 HC2 ⊢
  refine HC2.out.mono ?_
  rintro e w4 ⟨v4, E4, q4, rfl, hv4, hn4, hat4, hg4⟩
  have HC4 := Lib.hid (xlevels_any R rm s hs E4 v4 q4 (600 - (m : Int)) w4 (by omega) hat4 (fun hE => by
    rcases hn4 with ⟨h0, h1⟩ | ⟨_, n1, _, _, rfl, _⟩ | ⟨_, n1, _⟩
    · exact absurd (h1.symm.trans hE) h0
    · exact num_fin n1
    · exact absurd hE n1))
  have HN4 := Lib.hid hn4
  have H4 := Lib.hid (And.intro (H3.out.1.only hg4 hne1) (H3.out.2.2.more hg4))
  clear hn4 hat4 hg4 HC2
  go_wp2_with fail
  refine HC4.out.mono ?_
  rintro e w5 ⟨hg5, x, cc, rfl, hr⟩
  have T5 := H4.out.1.only hg5 hne1
  have c2 := cell_at T5 2
  have fz := free_of T5
  simp only [List.getElem?_toArray, List.getElem?_cons_zero, List.getElem?_cons_succ] at c2
  have hgs := Only.set w5 T 2 (.slice x v4 cc)
  have HE : Hid (XvPost R rm s T (rdKt s st 3 b p m) w (.returned (.tuple #[])) (w5.setCell ⟨T, 2, none⟩ (.slice x v4 cc))) := Lib.hid (by
    refine ⟨rfl, (H4.out.2.more hg5).set 2 _, _, _, _, _, _, _, _, _, T5.set2 x v4 cc, ?_⟩
    have e1 : rdKt s st 3 b p m = (if (num s p).2.2 ≠ 0 then .no (num s p).2.2 else if 20 ≤ (num s p).1 then .no 20 else rdC s (num s p).1 (num s p).2.1 m) := rfl
    rw [e1]
    have hTw := lt_of_block h.2.1
    have hz4 := H4.out.2.size
    have hz5 := hg5.size
    have hzs := hgs.size
    -- an error met by the way is the error that is told
    have herr : ∀ er : Nat, er ≠ 0 → rowsX s E4 v4 q4 = .no er → XtIs R rm s (.no er) w.heap.size (w5.setCell ⟨T, 2, none⟩ (.slice x v4 cc)) 3 v x v4 cc none 0 0 := fun er h0 hx => by
      rw [hx] at hr
      obtain ⟨_, q, h1⟩ := hr
      exact ⟨h0, q, _, h1.only hgs (Ne.symm hne1) (Ne.symm hne2)⟩
    have herr2 : E4 ≠ 0 → XtIs R rm s (.no E4) w.heap.size (w5.setCell ⟨T, 2, none⟩ (.slice x v4 cc)) 3 v x v4 cc none 0 0 := fun h0 => herr E4 h0 (by rw [rowsX, if_pos h0])
    rcases HN2.out with ⟨h0, _⟩ | ⟨_, n1, n2, rfl, rfl, rfl⟩ | ⟨_, n1, n2, n3⟩
    · exact absurd rfl h0
    · rw [if_neg (by omega), if_neg (by omega), rdC]
      rcases HN4.out with ⟨h0, _⟩ | ⟨_, k1, k2, rfl, rfl, rfl⟩ | ⟨_, k1, k2, k3⟩
      · exact absurd rfl h0
      · rw [if_neg (by omega), if_neg (by omega)]
        cases hrw : rowsV s (num s (num s p).2.1).1 (num s (num s p).2.1).2.1 with
        | no er =>
          have hx : rowsX s 0 (num s (num s p).2.1).1 (num s (num s p).2.1).2.1 = .no er := hrw
          refine herr er ?_ hx
          rw [hx] at hr
          exact hr.1
        | ok F q l2 =>
          have hx : rowsX s 0 (num s (num s p).2.1).1 (num s (num s p).2.1).2.1 = .ok F q l2 := hrw
          rw [hx] at hr
          obtain ⟨h0, h1, h2, h3⟩ := hr
          refine ⟨rfl, rfl, h0, rfl, (h1.keep (fun i hi => Only.block hgs hi.2 (by have := hi.1; omega))).weak (fun i hi => ⟨by have := hi.1; omega, by omega⟩), TlIn.none _ _, h2.only hgs (Ne.symm hne1) (Ne.symm hne2), h3, h.2.2.2.2.2⟩
      · have := herr2 k1
        by_cases k5 : (num s (num s p).2.1).2.2 ≠ 0
        · rw [if_pos k5] at k2 ⊢
          rwa [k2] at this
        · rw [if_neg k5] at k2 ⊢
          rw [if_pos (by omega)]
          rwa [k2] at this
    · have hE4 : E4 = E2 := by
        rcases HN4.out with ⟨_, h1⟩ | ⟨h0, _⟩ | ⟨h0, _⟩
        · exact h1
        · exact absurd h0 n1
        · exact absurd h0 n1
      have := herr2 (by rw [hE4]; exact n1)
      rw [hE4] at this
      by_cases k5 : (num s p).2.2 ≠ 0
      · rw [if_pos k5] at n2 ⊢
        rwa [n2] at this
      · rw [if_neg k5] at n2 ⊢
        rw [if_pos (by omega)]
        rwa [n2] at this)
  clear hr hg5 T5 hgs H4
  go_wp2_with fail
  go_end0
  exact HE.out

/-- The Kids have been read and are laid into the term's variable. -/
theorem xk_fin {R rm : Nat} {s : ByteArray} {T k p m c : Nat} {w w4 w5 : World} {r : Ts} {x : Option Addr} {cc : Nat} (h : XvIn R rm s p m T k w) (hb4 : Below w.heap.size w w4) (hq : XqPost R rm s c r w4 (.returned (.slice x c cc)) w5) :
    XvPost R rm s T (r.wrap k) w (.returned (.tuple #[])) (w5.setCell ⟨T, 3, none⟩ (.slice x c cc)) ∧ TvAt w5 T k 0 none 0 0 none 0 0 := by
  obtain ⟨hg5, x', cc', e, hr⟩ := hq
  injection e with e
  injection e with e1 e2 e3
  subst e1 e3
  have hne1 := h.2.2.1
  have hne2 := h.2.2.2.1
  have T5 := (h.2.1.later hb4).only hg5 hne1
  have hgs := Only.set w5 T 3 (.slice x c cc)
  have hTw := lt_of_block h.2.1
  have hz4 := hb4.size
  have hz5 := hg5.size
  have hzs := hgs.size
  refine ⟨⟨rfl, (Two.of (Only.after (Only.of_below hb4 R) hg5)).set 3 _, _, _, _, _, _, _, _, _, T5.set3 x c cc, ?_⟩, T5⟩
  cases r with
  | no er =>
    obtain ⟨h0, p', l', h1⟩ := hr
    exact ⟨h0, p', l', h1.only hgs (Ne.symm hne1) (Ne.symm hne2)⟩
  | ok F q m2 =>
    obtain ⟨h0, h1, h2, h3, h4⟩ := hr
    exact ⟨rfl, rfl, rfl, h0, SlIn.none _ _, h1.turn (fun i hi => Only.block hgs hi.2 (by have := hi.1; omega)) (fun i hi => ⟨by have := hi.1; omega, by have := hi.2; omega⟩), h2.only hgs (Ne.symm hne1) (Ne.symm hne2), h3, h4⟩

set_option maxRecDepth 100000 in
set_option maxHeartbeats 8000000 in
theorem xappl_any (R rm : Nat) (s : ByteArray) (d : Nat) (HT : Hid (XtAny R rm s d)) (HX : Hid (XtErr R rm s)) (b p m T : Nat) (w : World) (h : XvIn R rm s p m T 4 w) (hb : b + 1 + d ≤ 1000) :
    Calls Try.prog 45 #[.pointer (some ⟨R, 0, none⟩), .pointer (some ⟨T, 0, none⟩), .agg #[.int .i64 b, .int .i64 ((d : Int) + 1)]] w (XvPost R rm s T ((rowsT (rdT s d) (4 : Int) b 2 0 p m).wrap 4) w) := by
  obtain ⟨r, hr⟩ : ∃ r, rowsT (rdT s d) (4 : Int) b 2 0 p m = r := ⟨_, rfl⟩
  have hbx : Below w.heap.size w (w.alloc (.cells #[.int .i64 (b : Int), .int .i64 ((d : Int) + 1)] 64)) := (Below.refl _ _).alloc (Nat.le_refl _) _
  have HBX := Lib.hid hbx
  have HNEW := Lib.hid (heap_new w (.cells #[.int .i64 (b : Int), .int .i64 ((d : Int) + 1)] 64))
  have HV := Lib.hid h
  have hlt := lt_of_block h.1.1
  have hTlt := lt_of_block h.2.1
  have hTR := h.2.2.1
  have HQ : Hid (∀ (W : World) (PL : Nat), Below w.heap.size w W → W.heap[PL]? = some (.cells #[.int .i64 ((b : Int) + 0), .int .i64 (d : Int), .int .i64 ((b : Int) + 0), .int .i64 (d : Int)] 64 (0, 0)) → w.heap.size ≤ PL → Calls Try.prog 64 #[.pointer (some ⟨R, 0, none⟩), .slice (some ⟨PL, 0, none⟩) 2 2] W (XqPost R rm s 2 r W)) := Lib.hid (by
    intro W PL hW hPL hge
    rw [← hr]
    refine xterms_any R rm s d HT HX (4 : Int) b 2 p m PL W (by omega) (h.1.later hW) h.2.2.2.2.1 h.2.2.2.2.2 hb ?_ (lt_of_block hPL) (by omega)
    intro j hj
    have hj' : j = 0 ∨ j = 1 := by omega
    rcases hj' with rfl | rfl
    · exact ⟨by rw [cell_at hPL]; simp [bindK], by rw [cell_at hPL]; rfl⟩
    · exact ⟨by rw [cell_at hPL]; simp [bindK], by rw [cell_at hPL]; rfl⟩)
  rw [hr]
  clear hr hbx h
  go_enter Try.func45, Try.ntmps45
  go_upto_region 1 with fail
  generalize hW0 : w.alloc (.cells #[.int .i64 (b : Int), .int .i64 ((d : Int) + 1)] 64) = W0 at HBX HNEW ⊢
  clear hW0
  have HNX : Hid (∀ wN : World, Below W0.heap.size W0 wN → wN.cell? ⟨w.heap.size, 0, none⟩ = some (.int .i64 (b : Int)) ∧ wN.cell? ⟨w.heap.size, 1, none⟩ = some (.int .i64 ((d : Int) + 1))) := Lib.hid (fun wN hX => by
    have hc := (hX.block _ (lt_of_block HNEW.out)).trans HNEW.out
    exact ⟨cell_at hc 0, cell_at hc 1⟩)
  have HBW : Hid (Below W0.heap.size W0 W0.drew) := Lib.hid (Below.refl _ _).drew
  refine wp_region_L (fun (w' : World) => Hid True ∧ w'.cell? ⟨w.heap.size, 0, none⟩ = some (.int .i64 (b : Int)) ∧ w'.cell? ⟨w.heap.size, 1, none⟩ = some (.int .i64 ((d : Int) + 1))) 10 (by kernel_rfl) ?_
  have hH := (show (fun (w' : World) => Hid True ∧ w'.cell? ⟨w.heap.size, 0, none⟩ = some (.int .i64 (b : Int)) ∧ w'.cell? ⟨w.heap.size, 1, none⟩ = some (.int .i64 ((d : Int) + 1))) W0.drew from ⟨Lib.hid trivial, HNX.out _ (Below.refl _ _).drew⟩)
  try simp only [Act.put, List.setIfInBounds_toArray, List.set_cons_zero, List.set_cons_succ]
  refine wpAnyL_take (i := 0) (v := ?_) (by simp only [List.getElem?_toArray, List.getElem?_cons_zero]; rfl) (by kernel_rfl) (by kernel_rfl) (by kernel_rfl) (by kernel_rfl) (by intro _ _ _ h; exact h) (Or.inl ⟨by rfl, ?_⟩) hH ?_
  rotate_left
  · intro w' hSw
    obtain ⟨s0, s1, s2⟩ := hSw
    go_simp
    try with_reducible rfl
  try simp only [Act.put, List.setIfInBounds_toArray, List.set_cons_zero, List.set_cons_succ]
  refine wpAnyL_take (i := 1) (v := ?_) (by simp only [List.getElem?_toArray, List.getElem?_cons_succ, List.getElem?_cons_zero]; rfl) (by kernel_rfl) (by kernel_rfl) (by kernel_rfl) (by kernel_rfl) (by intro _ _ _ h; exact h) (Or.inl ⟨by rfl, ?_⟩) hH ?_
  rotate_left
  · intro w' hSw
    obtain ⟨s0, s1, s2⟩ := hSw
    go_simp
    try with_reducible rfl
  try simp only [Act.put, List.setIfInBounds_toArray, List.set_cons_zero, List.set_cons_succ]
  refine wpAnyL_take (i := 2) (v := ?_) (by simp only [List.getElem?_toArray, List.getElem?_cons_succ, List.getElem?_cons_zero]; rfl) (by kernel_rfl) (by kernel_rfl) (by kernel_rfl) (by kernel_rfl) (by intro _ _ _ h; exact h) (Or.inl ⟨by rfl, ?_⟩) hH ?_
  rotate_left
  · intro w' hSw
    obtain ⟨s0, s1, s2⟩ := hSw
    go_simp
    try with_reducible rfl
  try simp only [Act.put, List.setIfInBounds_toArray, List.set_cons_zero, List.set_cons_succ]
  refine wpAnyL_take (i := 4) (v := ?_) (by simp only [List.getElem?_toArray, List.getElem?_cons_succ, List.getElem?_cons_zero]; rfl) (by kernel_rfl) (by kernel_rfl) (by kernel_rfl) (by kernel_rfl) (by intro _ _ _ h; exact h) (Or.inl ⟨by rfl, ?_⟩) hH ?_
  rotate_left
  · intro w' hSw
    obtain ⟨s0, s1, s2⟩ := hSw
    go_simp
    try with_reducible rfl
  try simp only [Act.put, List.setIfInBounds_toArray, List.set_cons_zero, List.set_cons_succ]
  refine wpAnyL_ready (rs := [3]) (by kernel_rfl) (by simp) ?_
  refine AllReadyL.cons (o := _) (by simp only [List.getElem?_toArray, List.getElem?_cons_succ, List.getElem?_cons_zero]; rfl) (fun K hK => ?_) AllReadyL.nil
  go_simp
  go_at_call 65
  refine (xplace_any (b : Int) ((d : Int) + 1) 0 (by omega) (by omega) (by omega) _).mono ?_
  rintro e wq0 ⟨rfl, hb7⟩
  rw [show (d : Int) + 1 - 1 = (d : Int) by omega]
  have hX := Below.step HBW.out hb7 (Nat.le_refl _)
  clear hH hb7
  replace HBW := Lib.hid hX
  refine hK.out _ _ ⟨Lib.hid trivial, HNX.out _ hX⟩ (fun hH => ?_)
  clear hK K hX
  try simp only [Act.put, List.setIfInBounds_toArray, List.set_cons_zero, List.set_cons_succ]
  refine wpAnyL_ready (rs := [5]) (by kernel_rfl) (by simp) ?_
  refine AllReadyL.cons (o := _) (by simp only [List.getElem?_toArray, List.getElem?_cons_succ, List.getElem?_cons_zero]; rfl) (fun K hK => ?_) AllReadyL.nil
  go_simp
  go_at_call 65
  refine (xplace_any (b : Int) ((d : Int) + 1) 0 (by omega) (by omega) (by omega) _).mono ?_
  rintro e wq1 ⟨rfl, hb7⟩
  rw [show (d : Int) + 1 - 1 = (d : Int) by omega]
  have hX := Below.step HBW.out hb7 (Nat.le_refl _)
  clear hH hb7
  replace HBW := Lib.hid hX
  refine hK.out _ _ ⟨Lib.hid trivial, HNX.out _ hX⟩ (fun hH => ?_)
  clear hK K hX
  try simp only [Act.put, List.setIfInBounds_toArray, List.set_cons_zero, List.set_cons_succ]
  refine wpAnyL_ready (rs := [6]) (by kernel_rfl) (by simp) ?_
  refine AllReadyL.cons (o := _) (by simp only [List.getElem?_toArray, List.getElem?_cons_succ, List.getElem?_cons_zero]; rfl) (fun K hK => ?_) AllReadyL.nil
  go_simp
  have hb7 : Below (wq1).heap.size wq1 (wq1.alloc (.cells #[.int .i64 ((b : Int) + 0), .int .i64 (d : Int), .int .i64 ((b : Int) + 0), .int .i64 (d : Int)] 64)) := (Below.refl _ _).alloc (Nat.le_refl _) _
  have hX := Below.step HBW.out hb7 (Nat.le_refl _)
  have HPN := Lib.hid (heap_new wq1 (.cells #[.int .i64 ((b : Int) + 0), .int .i64 (d : Int), .int .i64 ((b : Int) + 0), .int .i64 (d : Int)] 64))
  have HPG := Lib.hid (Nat.le_trans HBX.out.size HBW.out.size)
  clear hH hb7
  replace HBW := Lib.hid hX
  refine hK.out _ _ ⟨Lib.hid trivial, HNX.out _ hX⟩ (fun hH => ?_)
  clear hK K hX
  try simp only [Act.put, List.setIfInBounds_toArray, List.set_cons_zero, List.set_cons_succ]
  refine wpAnyL_ready (rs := [7]) (by kernel_rfl) (by simp) ?_
  refine AllReadyL.cons (o := _) (by simp only [List.getElem?_toArray, List.getElem?_cons_succ, List.getElem?_cons_zero]; rfl) (fun K hK => ?_) AllReadyL.nil
  go_simp
  go_at_call 64
  have HB5 := Lib.hid (Below.step HBX.out HBW.out (Nat.le_refl _))
  have hs5 := HB5.out.size
  refine (HQ.out _ _ HB5.out HPN.out HPG.out).mono ?_
  rintro e w5 hq
  obtain ⟨hg5, x, cc, rfl, _⟩ := id hq
  obtain ⟨hfin, hT5⟩ := xk_fin HV.out HB5.out hq
  have HFIN := Lib.hid hfin
  have HT5 := Lib.hid hT5
  have hPB : Hid (w5.cell? ⟨w.heap.size, 0, none⟩ = some (.int .i64 (b : Int)) ∧ w5.cell? ⟨w.heap.size, 1, none⟩ = some (.int .i64 ((d : Int) + 1))) := Lib.hid (by
    have hlt0 := lt_of_block HNEW.out
    have hc := (Only.block hg5 (Nat.lt_of_lt_of_le hlt0 HBW.out.size) (by omega)).trans ((HBW.out.block _ hlt0).trans HNEW.out)
    exact ⟨cell_at hc 0, cell_at hc 1⟩)
  clear hq hfin hT5 hg5 hs5 hH HPN HPG HB5
  refine hK.out _ _ ⟨Lib.hid trivial, hPB.out⟩ (fun hH => ?_)
  clear hK K hPB
  try simp only [Act.put, List.setIfInBounds_toArray, List.set_cons_zero, List.set_cons_succ]
  refine wpAnyL_ready (rs := [8]) (by kernel_rfl) (by simp) ?_
  refine AllReadyL.cons (o := _) (by simp only [List.getElem?_toArray, List.getElem?_cons_succ, List.getElem?_cons_zero]; rfl) (fun K hK => ?_) AllReadyL.nil
  go_simp
  refine hK.out _ _ hH (fun hH => ?_)
  clear hK K
  try simp only [Act.put, List.setIfInBounds_toArray, List.set_cons_zero, List.set_cons_succ]
  refine wpAnyL_take (i := 9) (v := ?_) (by simp only [List.getElem?_toArray, List.getElem?_cons_succ, List.getElem?_cons_zero]; rfl) (by kernel_rfl) (by kernel_rfl) (by kernel_rfl) (by kernel_rfl) (by intro _ _ _ h; exact h) (Or.inl ⟨by rfl, ?_⟩) hH ?_
  rotate_left
  · intro w' hSw
    obtain ⟨s0, s1, s2⟩ := hSw
    go_simp
    try with_reducible rfl
  try simp only [Act.put, List.setIfInBounds_toArray, List.set_cons_zero, List.set_cons_succ]
  refine wpAnyL_last (o := _) (by kernel_rfl) (by simp only [List.getElem?_toArray, List.getElem?_cons_succ, List.getElem?_cons_zero]; rfl) (fun K hK => ?_)
  have c3 := cell_at HT5.out 3
  have fz := free_of HT5.out
  simp only [List.getElem?_toArray, List.getElem?_cons_zero, List.getElem?_cons_succ] at c3
  go_simp
  clear hH c3 fz
  refine hK.out _ _ ?_
  clear hK K
  try simp only [Act.put, List.setIfInBounds_toArray, List.set_cons_zero, List.set_cons_succ]
  refine wpAnyL_done (by kernel_rfl) ?_ _
  go_wp2_with fail
  go_end0
  exact HFIN.out

set_option maxRecDepth 100000 in
set_option maxHeartbeats 8000000 in
theorem xbind_any (R rm : Nat) (s : ByteArray) (d : Nat) (HT : Hid (XtAny R rm s d)) (HX : Hid (XtErr R rm s)) (b p m T k : Nat) (w : World) (hk : k = 5 ∨ k = 6) (h : XvIn R rm s p m T k w) (hb : b + 1 + d ≤ 1000) :
    Calls Try.prog 46 #[.pointer (some ⟨R, 0, none⟩), .pointer (some ⟨T, 0, none⟩), .agg #[.int .i64 b, .int .i64 ((d : Int) + 1)]] w (XvPost R rm s T ((rowsT (rdT s d) ((k : Nat) : Int) b 2 0 p m).wrap k) w) := by
  obtain ⟨r, hr⟩ : ∃ r, rowsT (rdT s d) ((k : Nat) : Int) b 2 0 p m = r := ⟨_, rfl⟩
  have hbx : Below w.heap.size w (w.alloc (.cells #[.int .i64 (b : Int), .int .i64 ((d : Int) + 1)] 64)) := (Below.refl _ _).alloc (Nat.le_refl _) _
  have HBX := Lib.hid hbx
  have HNEW := Lib.hid (heap_new w (.cells #[.int .i64 (b : Int), .int .i64 ((d : Int) + 1)] 64))
  have HV := Lib.hid h
  have hlt := lt_of_block h.1.1
  have hTlt := lt_of_block h.2.1
  have hTR := h.2.2.1
  have HQ : Hid (∀ (W : World) (PL : Nat), Below w.heap.size w W → W.heap[PL]? = some (.cells #[.int .i64 ((b : Int) + 0), .int .i64 (d : Int), .int .i64 ((b : Int) + 1), .int .i64 (d : Int)] 64 (0, 0)) → w.heap.size ≤ PL → Calls Try.prog 64 #[.pointer (some ⟨R, 0, none⟩), .slice (some ⟨PL, 0, none⟩) 2 2] W (XqPost R rm s 2 r W)) := Lib.hid (by
    intro W PL hW hPL hge
    rw [← hr]
    refine xterms_any R rm s d HT HX ((k : Nat) : Int) b 2 p m PL W (by omega) (h.1.later hW) h.2.2.2.2.1 h.2.2.2.2.2 hb ?_ (lt_of_block hPL) (by omega)
    intro j hj
    have hj' : j = 0 ∨ j = 1 := by omega
    rcases hj' with rfl | rfl
    · exact ⟨by rw [cell_at hPL]; rcases hk with rfl | rfl <;> simp [bindK], by rw [cell_at hPL]; rfl⟩
    · exact ⟨by rw [cell_at hPL]; rcases hk with rfl | rfl <;> simp [bindK], by rw [cell_at hPL]; rfl⟩)
  rw [hr]
  clear hr hbx h
  go_enter Try.func46, Try.ntmps46
  go_upto_region 1 with fail
  generalize hW0 : w.alloc (.cells #[.int .i64 (b : Int), .int .i64 ((d : Int) + 1)] 64) = W0 at HBX HNEW ⊢
  clear hW0
  have HNX : Hid (∀ wN : World, Below W0.heap.size W0 wN → wN.cell? ⟨w.heap.size, 0, none⟩ = some (.int .i64 (b : Int)) ∧ wN.cell? ⟨w.heap.size, 1, none⟩ = some (.int .i64 ((d : Int) + 1))) := Lib.hid (fun wN hX => by
    have hc := (hX.block _ (lt_of_block HNEW.out)).trans HNEW.out
    exact ⟨cell_at hc 0, cell_at hc 1⟩)
  have HBW : Hid (Below W0.heap.size W0 W0.drew) := Lib.hid (Below.refl _ _).drew
  refine wp_region_L (fun (w' : World) => Hid True ∧ w'.cell? ⟨w.heap.size, 0, none⟩ = some (.int .i64 (b : Int)) ∧ w'.cell? ⟨w.heap.size, 1, none⟩ = some (.int .i64 ((d : Int) + 1))) 10 (by kernel_rfl) ?_
  have hH := (show (fun (w' : World) => Hid True ∧ w'.cell? ⟨w.heap.size, 0, none⟩ = some (.int .i64 (b : Int)) ∧ w'.cell? ⟨w.heap.size, 1, none⟩ = some (.int .i64 ((d : Int) + 1))) W0.drew from ⟨Lib.hid trivial, HNX.out _ (Below.refl _ _).drew⟩)
  try simp only [Act.put, List.setIfInBounds_toArray, List.set_cons_zero, List.set_cons_succ]
  refine wpAnyL_take (i := 0) (v := ?_) (by simp only [List.getElem?_toArray, List.getElem?_cons_zero]; rfl) (by kernel_rfl) (by kernel_rfl) (by kernel_rfl) (by kernel_rfl) (by intro _ _ _ h; exact h) (Or.inl ⟨by rfl, ?_⟩) hH ?_
  rotate_left
  · intro w' hSw
    obtain ⟨s0, s1, s2⟩ := hSw
    go_simp
    try with_reducible rfl
  try simp only [Act.put, List.setIfInBounds_toArray, List.set_cons_zero, List.set_cons_succ]
  refine wpAnyL_take (i := 1) (v := ?_) (by simp only [List.getElem?_toArray, List.getElem?_cons_succ, List.getElem?_cons_zero]; rfl) (by kernel_rfl) (by kernel_rfl) (by kernel_rfl) (by kernel_rfl) (by intro _ _ _ h; exact h) (Or.inl ⟨by rfl, ?_⟩) hH ?_
  rotate_left
  · intro w' hSw
    obtain ⟨s0, s1, s2⟩ := hSw
    go_simp
    try with_reducible rfl
  try simp only [Act.put, List.setIfInBounds_toArray, List.set_cons_zero, List.set_cons_succ]
  refine wpAnyL_take (i := 2) (v := ?_) (by simp only [List.getElem?_toArray, List.getElem?_cons_succ, List.getElem?_cons_zero]; rfl) (by kernel_rfl) (by kernel_rfl) (by kernel_rfl) (by kernel_rfl) (by intro _ _ _ h; exact h) (Or.inl ⟨by rfl, ?_⟩) hH ?_
  rotate_left
  · intro w' hSw
    obtain ⟨s0, s1, s2⟩ := hSw
    go_simp
    try with_reducible rfl
  try simp only [Act.put, List.setIfInBounds_toArray, List.set_cons_zero, List.set_cons_succ]
  refine wpAnyL_take (i := 4) (v := ?_) (by simp only [List.getElem?_toArray, List.getElem?_cons_succ, List.getElem?_cons_zero]; rfl) (by kernel_rfl) (by kernel_rfl) (by kernel_rfl) (by kernel_rfl) (by intro _ _ _ h; exact h) (Or.inl ⟨by rfl, ?_⟩) hH ?_
  rotate_left
  · intro w' hSw
    obtain ⟨s0, s1, s2⟩ := hSw
    go_simp
    try with_reducible rfl
  try simp only [Act.put, List.setIfInBounds_toArray, List.set_cons_zero, List.set_cons_succ]
  refine wpAnyL_ready (rs := [3]) (by kernel_rfl) (by simp) ?_
  refine AllReadyL.cons (o := _) (by simp only [List.getElem?_toArray, List.getElem?_cons_succ, List.getElem?_cons_zero]; rfl) (fun K hK => ?_) AllReadyL.nil
  go_simp
  go_at_call 65
  refine (xplace_any (b : Int) ((d : Int) + 1) 0 (by omega) (by omega) (by omega) _).mono ?_
  rintro e wq0 ⟨rfl, hb7⟩
  rw [show (d : Int) + 1 - 1 = (d : Int) by omega]
  have hX := Below.step HBW.out hb7 (Nat.le_refl _)
  clear hH hb7
  replace HBW := Lib.hid hX
  refine hK.out _ _ ⟨Lib.hid trivial, HNX.out _ hX⟩ (fun hH => ?_)
  clear hK K hX
  try simp only [Act.put, List.setIfInBounds_toArray, List.set_cons_zero, List.set_cons_succ]
  refine wpAnyL_ready (rs := [5]) (by kernel_rfl) (by simp) ?_
  refine AllReadyL.cons (o := _) (by simp only [List.getElem?_toArray, List.getElem?_cons_succ, List.getElem?_cons_zero]; rfl) (fun K hK => ?_) AllReadyL.nil
  go_simp
  go_at_call 65
  refine (xplace_any (b : Int) ((d : Int) + 1) 1 (by omega) (by omega) (by omega) _).mono ?_
  rintro e wq1 ⟨rfl, hb7⟩
  rw [show (d : Int) + 1 - 1 = (d : Int) by omega]
  have hX := Below.step HBW.out hb7 (Nat.le_refl _)
  clear hH hb7
  replace HBW := Lib.hid hX
  refine hK.out _ _ ⟨Lib.hid trivial, HNX.out _ hX⟩ (fun hH => ?_)
  clear hK K hX
  try simp only [Act.put, List.setIfInBounds_toArray, List.set_cons_zero, List.set_cons_succ]
  refine wpAnyL_ready (rs := [6]) (by kernel_rfl) (by simp) ?_
  refine AllReadyL.cons (o := _) (by simp only [List.getElem?_toArray, List.getElem?_cons_succ, List.getElem?_cons_zero]; rfl) (fun K hK => ?_) AllReadyL.nil
  go_simp
  have hb7 : Below (wq1).heap.size wq1 (wq1.alloc (.cells #[.int .i64 ((b : Int) + 0), .int .i64 (d : Int), .int .i64 ((b : Int) + 1), .int .i64 (d : Int)] 64)) := (Below.refl _ _).alloc (Nat.le_refl _) _
  have hX := Below.step HBW.out hb7 (Nat.le_refl _)
  have HPN := Lib.hid (heap_new wq1 (.cells #[.int .i64 ((b : Int) + 0), .int .i64 (d : Int), .int .i64 ((b : Int) + 1), .int .i64 (d : Int)] 64))
  have HPG := Lib.hid (Nat.le_trans HBX.out.size HBW.out.size)
  clear hH hb7
  replace HBW := Lib.hid hX
  refine hK.out _ _ ⟨Lib.hid trivial, HNX.out _ hX⟩ (fun hH => ?_)
  clear hK K hX
  try simp only [Act.put, List.setIfInBounds_toArray, List.set_cons_zero, List.set_cons_succ]
  refine wpAnyL_ready (rs := [7]) (by kernel_rfl) (by simp) ?_
  refine AllReadyL.cons (o := _) (by simp only [List.getElem?_toArray, List.getElem?_cons_succ, List.getElem?_cons_zero]; rfl) (fun K hK => ?_) AllReadyL.nil
  go_simp
  go_at_call 64
  have HB5 := Lib.hid (Below.step HBX.out HBW.out (Nat.le_refl _))
  have hs5 := HB5.out.size
  refine (HQ.out _ _ HB5.out HPN.out HPG.out).mono ?_
  rintro e w5 hq
  obtain ⟨hg5, x, cc, rfl, _⟩ := id hq
  obtain ⟨hfin, hT5⟩ := xk_fin HV.out HB5.out hq
  have HFIN := Lib.hid hfin
  have HT5 := Lib.hid hT5
  have hPB : Hid (w5.cell? ⟨w.heap.size, 0, none⟩ = some (.int .i64 (b : Int)) ∧ w5.cell? ⟨w.heap.size, 1, none⟩ = some (.int .i64 ((d : Int) + 1))) := Lib.hid (by
    have hlt0 := lt_of_block HNEW.out
    have hc := (Only.block hg5 (Nat.lt_of_lt_of_le hlt0 HBW.out.size) (by omega)).trans ((HBW.out.block _ hlt0).trans HNEW.out)
    exact ⟨cell_at hc 0, cell_at hc 1⟩)
  clear hq hfin hT5 hg5 hs5 hH HPN HPG HB5
  refine hK.out _ _ ⟨Lib.hid trivial, hPB.out⟩ (fun hH => ?_)
  clear hK K hPB
  try simp only [Act.put, List.setIfInBounds_toArray, List.set_cons_zero, List.set_cons_succ]
  refine wpAnyL_ready (rs := [8]) (by kernel_rfl) (by simp) ?_
  refine AllReadyL.cons (o := _) (by simp only [List.getElem?_toArray, List.getElem?_cons_succ, List.getElem?_cons_zero]; rfl) (fun K hK => ?_) AllReadyL.nil
  go_simp
  refine hK.out _ _ hH (fun hH => ?_)
  clear hK K
  try simp only [Act.put, List.setIfInBounds_toArray, List.set_cons_zero, List.set_cons_succ]
  refine wpAnyL_take (i := 9) (v := ?_) (by simp only [List.getElem?_toArray, List.getElem?_cons_succ, List.getElem?_cons_zero]; rfl) (by kernel_rfl) (by kernel_rfl) (by kernel_rfl) (by kernel_rfl) (by intro _ _ _ h; exact h) (Or.inl ⟨by rfl, ?_⟩) hH ?_
  rotate_left
  · intro w' hSw
    obtain ⟨s0, s1, s2⟩ := hSw
    go_simp
    try with_reducible rfl
  try simp only [Act.put, List.setIfInBounds_toArray, List.set_cons_zero, List.set_cons_succ]
  refine wpAnyL_last (o := _) (by kernel_rfl) (by simp only [List.getElem?_toArray, List.getElem?_cons_succ, List.getElem?_cons_zero]; rfl) (fun K hK => ?_)
  have c3 := cell_at HT5.out 3
  have fz := free_of HT5.out
  simp only [List.getElem?_toArray, List.getElem?_cons_zero, List.getElem?_cons_succ] at c3
  go_simp
  clear hH c3 fz
  refine hK.out _ _ ?_
  clear hK K
  try simp only [Act.put, List.setIfInBounds_toArray, List.set_cons_zero, List.set_cons_succ]
  refine wpAnyL_done (by kernel_rfl) ?_ _
  go_wp2_with fail
  go_end0
  exact HFIN.out

set_option maxRecDepth 100000 in
set_option maxHeartbeats 8000000 in
theorem xlet_any (R rm : Nat) (s : ByteArray) (d : Nat) (HT : Hid (XtAny R rm s d)) (HX : Hid (XtErr R rm s)) (b p m T : Nat) (w : World) (h : XvIn R rm s p m T 7 w) (hb : b + 1 + d ≤ 1000) :
    Calls Try.prog 47 #[.pointer (some ⟨R, 0, none⟩), .pointer (some ⟨T, 0, none⟩), .agg #[.int .i64 b, .int .i64 ((d : Int) + 1)]] w (XvPost R rm s T ((rowsT (rdT s d) (7 : Int) b 3 0 p m).wrap 7) w) := by
  obtain ⟨r, hr⟩ : ∃ r, rowsT (rdT s d) (7 : Int) b 3 0 p m = r := ⟨_, rfl⟩
  have hbx : Below w.heap.size w (w.alloc (.cells #[.int .i64 (b : Int), .int .i64 ((d : Int) + 1)] 64)) := (Below.refl _ _).alloc (Nat.le_refl _) _
  have HBX := Lib.hid hbx
  have HNEW := Lib.hid (heap_new w (.cells #[.int .i64 (b : Int), .int .i64 ((d : Int) + 1)] 64))
  have HV := Lib.hid h
  have hlt := lt_of_block h.1.1
  have hTlt := lt_of_block h.2.1
  have hTR := h.2.2.1
  have HQ : Hid (∀ (W : World) (PL : Nat), Below w.heap.size w W → W.heap[PL]? = some (.cells #[.int .i64 ((b : Int) + 0), .int .i64 (d : Int), .int .i64 ((b : Int) + 0), .int .i64 (d : Int), .int .i64 ((b : Int) + 1), .int .i64 (d : Int)] 64 (0, 0)) → w.heap.size ≤ PL → Calls Try.prog 64 #[.pointer (some ⟨R, 0, none⟩), .slice (some ⟨PL, 0, none⟩) 3 3] W (XqPost R rm s 3 r W)) := Lib.hid (by
    intro W PL hW hPL hge
    rw [← hr]
    refine xterms_any R rm s d HT HX (7 : Int) b 3 p m PL W (by omega) (h.1.later hW) h.2.2.2.2.1 h.2.2.2.2.2 hb ?_ (lt_of_block hPL) (by omega)
    intro j hj
    have hj' : j = 0 ∨ j = 1 ∨ j = 2 := by omega
    rcases hj' with rfl | rfl | rfl
    · exact ⟨by rw [cell_at hPL]; simp [bindK], by rw [cell_at hPL]; rfl⟩
    · exact ⟨by rw [cell_at hPL]; simp [bindK], by rw [cell_at hPL]; rfl⟩
    · exact ⟨by rw [cell_at hPL]; simp [bindK], by rw [cell_at hPL]; rfl⟩)
  rw [hr]
  clear hr hbx h
  go_enter Try.func47, Try.ntmps47
  go_upto_region 1 with fail
  generalize hW0 : w.alloc (.cells #[.int .i64 (b : Int), .int .i64 ((d : Int) + 1)] 64) = W0 at HBX HNEW ⊢
  clear hW0
  have HNX : Hid (∀ wN : World, Below W0.heap.size W0 wN → wN.cell? ⟨w.heap.size, 0, none⟩ = some (.int .i64 (b : Int)) ∧ wN.cell? ⟨w.heap.size, 1, none⟩ = some (.int .i64 ((d : Int) + 1))) := Lib.hid (fun wN hX => by
    have hc := (hX.block _ (lt_of_block HNEW.out)).trans HNEW.out
    exact ⟨cell_at hc 0, cell_at hc 1⟩)
  have HBW : Hid (Below W0.heap.size W0 W0.drew) := Lib.hid (Below.refl _ _).drew
  refine wp_region_L (fun (w' : World) => Hid True ∧ w'.cell? ⟨w.heap.size, 0, none⟩ = some (.int .i64 (b : Int)) ∧ w'.cell? ⟨w.heap.size, 1, none⟩ = some (.int .i64 ((d : Int) + 1))) 12 (by kernel_rfl) ?_
  have hH := (show (fun (w' : World) => Hid True ∧ w'.cell? ⟨w.heap.size, 0, none⟩ = some (.int .i64 (b : Int)) ∧ w'.cell? ⟨w.heap.size, 1, none⟩ = some (.int .i64 ((d : Int) + 1))) W0.drew from ⟨Lib.hid trivial, HNX.out _ (Below.refl _ _).drew⟩)
  try simp only [Act.put, List.setIfInBounds_toArray, List.set_cons_zero, List.set_cons_succ]
  refine wpAnyL_take (i := 0) (v := ?_) (by simp only [List.getElem?_toArray, List.getElem?_cons_zero]; rfl) (by kernel_rfl) (by kernel_rfl) (by kernel_rfl) (by kernel_rfl) (by intro _ _ _ h; exact h) (Or.inl ⟨by rfl, ?_⟩) hH ?_
  rotate_left
  · intro w' hSw
    obtain ⟨s0, s1, s2⟩ := hSw
    go_simp
    try with_reducible rfl
  try simp only [Act.put, List.setIfInBounds_toArray, List.set_cons_zero, List.set_cons_succ]
  refine wpAnyL_take (i := 1) (v := ?_) (by simp only [List.getElem?_toArray, List.getElem?_cons_succ, List.getElem?_cons_zero]; rfl) (by kernel_rfl) (by kernel_rfl) (by kernel_rfl) (by kernel_rfl) (by intro _ _ _ h; exact h) (Or.inl ⟨by rfl, ?_⟩) hH ?_
  rotate_left
  · intro w' hSw
    obtain ⟨s0, s1, s2⟩ := hSw
    go_simp
    try with_reducible rfl
  try simp only [Act.put, List.setIfInBounds_toArray, List.set_cons_zero, List.set_cons_succ]
  refine wpAnyL_take (i := 2) (v := ?_) (by simp only [List.getElem?_toArray, List.getElem?_cons_succ, List.getElem?_cons_zero]; rfl) (by kernel_rfl) (by kernel_rfl) (by kernel_rfl) (by kernel_rfl) (by intro _ _ _ h; exact h) (Or.inl ⟨by rfl, ?_⟩) hH ?_
  rotate_left
  · intro w' hSw
    obtain ⟨s0, s1, s2⟩ := hSw
    go_simp
    try with_reducible rfl
  try simp only [Act.put, List.setIfInBounds_toArray, List.set_cons_zero, List.set_cons_succ]
  refine wpAnyL_take (i := 4) (v := ?_) (by simp only [List.getElem?_toArray, List.getElem?_cons_succ, List.getElem?_cons_zero]; rfl) (by kernel_rfl) (by kernel_rfl) (by kernel_rfl) (by kernel_rfl) (by intro _ _ _ h; exact h) (Or.inl ⟨by rfl, ?_⟩) hH ?_
  rotate_left
  · intro w' hSw
    obtain ⟨s0, s1, s2⟩ := hSw
    go_simp
    try with_reducible rfl
  try simp only [Act.put, List.setIfInBounds_toArray, List.set_cons_zero, List.set_cons_succ]
  refine wpAnyL_take (i := 6) (v := ?_) (by simp only [List.getElem?_toArray, List.getElem?_cons_succ, List.getElem?_cons_zero]; rfl) (by kernel_rfl) (by kernel_rfl) (by kernel_rfl) (by kernel_rfl) (by intro _ _ _ h; exact h) (Or.inl ⟨by rfl, ?_⟩) hH ?_
  rotate_left
  · intro w' hSw
    obtain ⟨s0, s1, s2⟩ := hSw
    go_simp
    try with_reducible rfl
  try simp only [Act.put, List.setIfInBounds_toArray, List.set_cons_zero, List.set_cons_succ]
  refine wpAnyL_ready (rs := [3]) (by kernel_rfl) (by simp) ?_
  refine AllReadyL.cons (o := _) (by simp only [List.getElem?_toArray, List.getElem?_cons_succ, List.getElem?_cons_zero]; rfl) (fun K hK => ?_) AllReadyL.nil
  go_simp
  go_at_call 65
  refine (xplace_any (b : Int) ((d : Int) + 1) 0 (by omega) (by omega) (by omega) _).mono ?_
  rintro e wq0 ⟨rfl, hb7⟩
  rw [show (d : Int) + 1 - 1 = (d : Int) by omega]
  have hX := Below.step HBW.out hb7 (Nat.le_refl _)
  clear hH hb7
  replace HBW := Lib.hid hX
  refine hK.out _ _ ⟨Lib.hid trivial, HNX.out _ hX⟩ (fun hH => ?_)
  clear hK K hX
  try simp only [Act.put, List.setIfInBounds_toArray, List.set_cons_zero, List.set_cons_succ]
  refine wpAnyL_ready (rs := [5]) (by kernel_rfl) (by simp) ?_
  refine AllReadyL.cons (o := _) (by simp only [List.getElem?_toArray, List.getElem?_cons_succ, List.getElem?_cons_zero]; rfl) (fun K hK => ?_) AllReadyL.nil
  go_simp
  go_at_call 65
  refine (xplace_any (b : Int) ((d : Int) + 1) 0 (by omega) (by omega) (by omega) _).mono ?_
  rintro e wq1 ⟨rfl, hb7⟩
  rw [show (d : Int) + 1 - 1 = (d : Int) by omega]
  have hX := Below.step HBW.out hb7 (Nat.le_refl _)
  clear hH hb7
  replace HBW := Lib.hid hX
  refine hK.out _ _ ⟨Lib.hid trivial, HNX.out _ hX⟩ (fun hH => ?_)
  clear hK K hX
  try simp only [Act.put, List.setIfInBounds_toArray, List.set_cons_zero, List.set_cons_succ]
  refine wpAnyL_ready (rs := [7]) (by kernel_rfl) (by simp) ?_
  refine AllReadyL.cons (o := _) (by simp only [List.getElem?_toArray, List.getElem?_cons_succ, List.getElem?_cons_zero]; rfl) (fun K hK => ?_) AllReadyL.nil
  go_simp
  go_at_call 65
  refine (xplace_any (b : Int) ((d : Int) + 1) 1 (by omega) (by omega) (by omega) _).mono ?_
  rintro e wq2 ⟨rfl, hb7⟩
  rw [show (d : Int) + 1 - 1 = (d : Int) by omega]
  have hX := Below.step HBW.out hb7 (Nat.le_refl _)
  clear hH hb7
  replace HBW := Lib.hid hX
  refine hK.out _ _ ⟨Lib.hid trivial, HNX.out _ hX⟩ (fun hH => ?_)
  clear hK K hX
  try simp only [Act.put, List.setIfInBounds_toArray, List.set_cons_zero, List.set_cons_succ]
  refine wpAnyL_ready (rs := [8]) (by kernel_rfl) (by simp) ?_
  refine AllReadyL.cons (o := _) (by simp only [List.getElem?_toArray, List.getElem?_cons_succ, List.getElem?_cons_zero]; rfl) (fun K hK => ?_) AllReadyL.nil
  go_simp
  have hb7 : Below (wq2).heap.size wq2 (wq2.alloc (.cells #[.int .i64 ((b : Int) + 0), .int .i64 (d : Int), .int .i64 ((b : Int) + 0), .int .i64 (d : Int), .int .i64 ((b : Int) + 1), .int .i64 (d : Int)] 64)) := (Below.refl _ _).alloc (Nat.le_refl _) _
  have hX := Below.step HBW.out hb7 (Nat.le_refl _)
  have HPN := Lib.hid (heap_new wq2 (.cells #[.int .i64 ((b : Int) + 0), .int .i64 (d : Int), .int .i64 ((b : Int) + 0), .int .i64 (d : Int), .int .i64 ((b : Int) + 1), .int .i64 (d : Int)] 64))
  have HPG := Lib.hid (Nat.le_trans HBX.out.size HBW.out.size)
  clear hH hb7
  replace HBW := Lib.hid hX
  refine hK.out _ _ ⟨Lib.hid trivial, HNX.out _ hX⟩ (fun hH => ?_)
  clear hK K hX
  try simp only [Act.put, List.setIfInBounds_toArray, List.set_cons_zero, List.set_cons_succ]
  refine wpAnyL_ready (rs := [9]) (by kernel_rfl) (by simp) ?_
  refine AllReadyL.cons (o := _) (by simp only [List.getElem?_toArray, List.getElem?_cons_succ, List.getElem?_cons_zero]; rfl) (fun K hK => ?_) AllReadyL.nil
  go_simp
  go_at_call 64
  have HB5 := Lib.hid (Below.step HBX.out HBW.out (Nat.le_refl _))
  have hs5 := HB5.out.size
  refine (HQ.out _ _ HB5.out HPN.out HPG.out).mono ?_
  rintro e w5 hq
  obtain ⟨hg5, x, cc, rfl, _⟩ := id hq
  obtain ⟨hfin, hT5⟩ := xk_fin HV.out HB5.out hq
  have HFIN := Lib.hid hfin
  have HT5 := Lib.hid hT5
  have hPB : Hid (w5.cell? ⟨w.heap.size, 0, none⟩ = some (.int .i64 (b : Int)) ∧ w5.cell? ⟨w.heap.size, 1, none⟩ = some (.int .i64 ((d : Int) + 1))) := Lib.hid (by
    have hlt0 := lt_of_block HNEW.out
    have hc := (Only.block hg5 (Nat.lt_of_lt_of_le hlt0 HBW.out.size) (by omega)).trans ((HBW.out.block _ hlt0).trans HNEW.out)
    exact ⟨cell_at hc 0, cell_at hc 1⟩)
  clear hq hfin hT5 hg5 hs5 hH HPN HPG HB5
  refine hK.out _ _ ⟨Lib.hid trivial, hPB.out⟩ (fun hH => ?_)
  clear hK K hPB
  try simp only [Act.put, List.setIfInBounds_toArray, List.set_cons_zero, List.set_cons_succ]
  refine wpAnyL_ready (rs := [10]) (by kernel_rfl) (by simp) ?_
  refine AllReadyL.cons (o := _) (by simp only [List.getElem?_toArray, List.getElem?_cons_succ, List.getElem?_cons_zero]; rfl) (fun K hK => ?_) AllReadyL.nil
  go_simp
  refine hK.out _ _ hH (fun hH => ?_)
  clear hK K
  try simp only [Act.put, List.setIfInBounds_toArray, List.set_cons_zero, List.set_cons_succ]
  refine wpAnyL_take (i := 11) (v := ?_) (by simp only [List.getElem?_toArray, List.getElem?_cons_succ, List.getElem?_cons_zero]; rfl) (by kernel_rfl) (by kernel_rfl) (by kernel_rfl) (by kernel_rfl) (by intro _ _ _ h; exact h) (Or.inl ⟨by rfl, ?_⟩) hH ?_
  rotate_left
  · intro w' hSw
    obtain ⟨s0, s1, s2⟩ := hSw
    go_simp
    try with_reducible rfl
  try simp only [Act.put, List.setIfInBounds_toArray, List.set_cons_zero, List.set_cons_succ]
  refine wpAnyL_last (o := _) (by kernel_rfl) (by simp only [List.getElem?_toArray, List.getElem?_cons_succ, List.getElem?_cons_zero]; rfl) (fun K hK => ?_)
  have c3 := cell_at HT5.out 3
  have fz := free_of HT5.out
  simp only [List.getElem?_toArray, List.getElem?_cons_zero, List.getElem?_cons_succ] at c3
  go_simp
  clear hH c3 fz
  refine hK.out _ _ ?_
  clear hK K
  try simp only [Act.put, List.setIfInBounds_toArray, List.set_cons_zero, List.set_cons_succ]
  refine wpAnyL_done (by kernel_rfl) ?_ _
  go_wp2_with fail
  go_end0
  exact HFIN.out

/-- A reading, by the Kind. -/
theorem xread_any (R rm : Nat) (s : ByteArray) (hs : s.size ≤ maxLen) (d : Nat) (HT : Hid (XtAny R rm s d)) (HX : Hid (XtErr R rm s)) (b p m T k : Nat) (w : World) (hk1 : 1 ≤ k) (hk7 : k ≤ 7) (h : XvIn R rm s p m T k w) (hb : b + 1 + d ≤ 1000) :
    Calls Try.prog (xFn k) #[.pointer (some ⟨R, 0, none⟩), .pointer (some ⟨T, 0, none⟩), .agg #[.int .i64 b, .int .i64 ((d : Int) + 1)]] w (XvPost R rm s T (rdKt s (rdT s d) k b p m) w) := by
  have hc : k = 1 ∨ k = 2 ∨ k = 3 ∨ k = 4 ∨ (k = 5 ∨ k = 6) ∨ k = 7 := by omega
  rcases hc with rfl | rfl | rfl | rfl | hk | rfl
  · exact xvar_any R rm s hs _ b p m T _ w h (by omega)
  · exact xsort_any R rm s hs _ b p m T _ w h
  · exact xconst_any R rm s hs _ b p m T _ w h
  · exact xappl_any R rm s d HT HX b p m T w h hb
  · have e1 : xFn k = 46 := by rcases hk with rfl | rfl <;> rfl
    have e2 : rdKt s (rdT s d) k b p m = (rowsT (rdT s d) (k : Int) b 2 0 p m).wrap k := by rcases hk with rfl | rfl <;> rfl
    rw [e1, e2]
    exact xbind_any R rm s d HT HX b p m T k w hk h hb
  · exact xlet_any R rm s d HT HX b p m T w h hb
end Go.Proofs.Ythnkoamabfaioaa
/- The contract of the program's own reader's term: what the recursive reader of bytes tells, or its error; nothing that was there changes but the reader's own block. No condition but those that stand in each statement. -/
namespace Go.Proofs.Ythnkoamabfaioaa
open Go.RowKit

theorem run_xlook_int (W : World) (r : Nat) (hb : W.heap[r]? = some (.map xTab 7)) : (Instr.lookup 58 (.map (some r)) (.int .i64 0) true).run Try.prog W = .ok (.tuple #[.nilFunc, .bool false]) W := run_xlook_no W r hb 0 (.inl rfl)
/-- What term answers where nothing is read: an error is there, or is met. -/
def XwPost (R rm : Nat) (s : ByteArray) (l : Int) (E er : Nat) (w : World) (e : Ending) (w' : World) : Prop :=
  e = .returned (.agg #[.int .i64 0, .int .i64 0, .slice none 0 0, .slice none 0 0]) ∧ w.grownBy w' (some R) ∧ (∃ p2 : Nat, XrAt w' R rm s p2 l (if E ≠ 0 then E else er)) ∧ (E ≠ 0 → Below w.heap.size w w')
theorem XrAt.drw {w : World} {R rm : Nat} {s : ByteArray} {p e : Nat} {l : Int} (h : XrAt w R rm s p l e) : XrAt w.drew R rm s p l e := h
theorem four_below {a W : World} {B N : Nat} (h : Below B a W) (hN : B ≤ N) (x y z u : Value) : Below B a ((((W.setCell ⟨N, 0, none⟩ x).setCell ⟨N, 1, none⟩ y).setCell ⟨N, 2, none⟩ z).setCell ⟨N, 3, none⟩ u) := (((h.setCell hN x).setCell hN y).setCell hN z).setCell hN u

set_option maxRecDepth 100000 in
set_option maxHeartbeats 4000000 in
theorem xterm_no (R rm : Nat) (s : ByteArray) (hs : s.size ≤ maxLen) (b d l : Int) (p E er : Nat) (w : World) (hat : XrAt w R rm s p l E)
    (hway : ((d == 0) = true ∧ er = 2) ∨ ((d == 0) = false ∧ (l == 0) = true ∧ er = 2) ∨ ((d == 0) = false ∧ (l == 0) = false ∧ E ≠ 0) ∨
      ((d == 0) = false ∧ (l == 0) = false ∧ E = 0 ∧ p ≤ s.size ∧ ((num s p).1 = 0 ∨ 7 < (num s p).1) ∧ er = (if (num s p).2.2 ≠ 0 then (num s p).2.2 else 20))) :
    Calls Try.prog 30 #[.pointer (some ⟨R, 0, none⟩), .agg #[.int .i64 b, .int .i64 d]] w (XwPost R rm s l E er w) := by
  have hR0 := lt_of_block hat.1
  have hr0 := lt_of_block hat.2.1
  have hal : Below w.heap.size w ((w.alloc (.cells #[.int .i64 b, .int .i64 d] 64)).alloc (.cells #[.int .i64 0, .int .i64 0, .slice none 0 0, .slice none 0 0] 29)) := ((Below.refl _ _).alloc (Nat.le_refl _) _).alloc (by simp) _
  have HAL := Lib.hid hal
  have HA := Lib.hid (hat.later hal)
  have HP0 : Hid (((w.alloc (.cells #[.int .i64 b, .int .i64 d] 64)).alloc (.cells #[.int .i64 0, .int .i64 0, .slice none 0 0, .slice none 0 0] 29)).heap[w.heap.size]? = some (.cells #[.int .i64 b, .int .i64 d] 64 (0, 0))) := Lib.hid ((heap_old _ _ (by simp)).trans (heap_new _ _))
  have HZ0 : Hid (((w.alloc (.cells #[.int .i64 b, .int .i64 d] 64)).alloc (.cells #[.int .i64 0, .int .i64 0, .slice none 0 0, .slice none 0 0] 29)).heap[w.heap.size + 1]? = some (.cells #[.int .i64 0, .int .i64 0, .slice none 0 0, .slice none 0 0] 29 (0, 0))) := Lib.hid (heap_second _ _ _)
  clear hal hat
  go_enter Try.func30, Try.ntmps30
  go_upto_region 1 with fail
  generalize (w.alloc (.cells #[.int .i64 b, .int .i64 d] 64)).alloc (.cells #[.int .i64 0, .int .i64 0, .slice none 0 0, .slice none 0 0] 29) = W1 at HAL HA HP0 HZ0 ⊢
  have hz1 := lt_of_block HZ0.out
  have p1 := cell_at HP0.out 1
  simp only [List.getElem?_toArray, List.getElem?_cons_zero, List.getElem?_cons_succ] at p1
  obtain ⟨c0, c1, c2, c3, c4, fz, hR⟩ := HA.out.facts
  have HF := Lib.hid (xfail_any R rm s p E 2 l W1 HA.out)
  rcases hway with ⟨q1, he⟩ | ⟨q1, q2, he⟩ | ⟨q1, q2, hE⟩ | ⟨q1, q2, hE, hp, hk, he⟩
  case' inl =>
    go_wp2_with fail
  case' inr.inl =>
    go_wp2_with fail
  case' inl =>
    refine HF.out.mono ?_
    rintro e w2 ⟨rfl, f1, f2, hg2⟩
    obtain ⟨E2, hE2⟩ : ∃ E2, E2 = (if E ≠ 0 then E else er) := ⟨_, rfl⟩
    have hE0 : E2 ≠ 0 := by rw [hE2]; split <;> omega
    have hx2 : XrAt w2 R rm s p l E2 := by
      by_cases h0 : E = 0
      · rw [hE2, if_neg (by omega), he]; exact f2 h0
      · rw [hE2, if_pos h0, f1 h0]; exact HA.out
    have HX2 := Lib.hid hx2
    have HG2 := Lib.hid hg2
    have HBE : Hid (E ≠ 0 → w2 = W1 ∧ E2 ≠ 0) := Lib.hid (fun h => ⟨f1 h, hE0⟩)
    have HE3 : Hid ((if E2 = 0 then 20 else E2) = (if E ≠ 0 then E else er)) := Lib.hid (by rw [if_neg hE0, hE2])
    have HN := Lib.hid (xnum_err R rm s p E2 l w2 hx2 hE0)
    obtain ⟨p2, hp2⟩ : ∃ p2, p = p2 := ⟨_, rfl⟩
    rw [hp2] at HX2
    have HF0 := Lib.hid (xfail_any R rm s p2 E2 20 l (w2.alloc (.cells #[.int .i64 0, .int .i64 0, .slice none 0 0, .slice none 0 0] 29)).drew (HX2.out.alloc _).drw)
    have l1 := run_xlook_int (w2.alloc (.cells #[.int .i64 0, .int .i64 0, .slice none 0 0, .slice none 0 0] 29)).drew rm (hx2.alloc _).2.1
    clear c0 c1 c2 c3 c4 fz hR f1 f2 hg2 hx2 p1 HF
    go_wp2_with fail
    refine HN.out.mono ?_
    rintro e w3 ⟨rfl, h3⟩
    rw [h3]
    clear h3
  case' inr.inl =>
    refine HF.out.mono ?_
    rintro e w2 ⟨rfl, f1, f2, hg2⟩
    obtain ⟨E2, hE2⟩ : ∃ E2, E2 = (if E ≠ 0 then E else er) := ⟨_, rfl⟩
    have hE0 : E2 ≠ 0 := by rw [hE2]; split <;> omega
    have hx2 : XrAt w2 R rm s p l E2 := by
      by_cases h0 : E = 0
      · rw [hE2, if_neg (by omega), he]; exact f2 h0
      · rw [hE2, if_pos h0, f1 h0]; exact HA.out
    have HX2 := Lib.hid hx2
    have HG2 := Lib.hid hg2
    have HBE : Hid (E ≠ 0 → w2 = W1 ∧ E2 ≠ 0) := Lib.hid (fun h => ⟨f1 h, hE0⟩)
    have HE3 : Hid ((if E2 = 0 then 20 else E2) = (if E ≠ 0 then E else er)) := Lib.hid (by rw [if_neg hE0, hE2])
    have HN := Lib.hid (xnum_err R rm s p E2 l w2 hx2 hE0)
    obtain ⟨p2, hp2⟩ : ∃ p2, p = p2 := ⟨_, rfl⟩
    rw [hp2] at HX2
    have HF0 := Lib.hid (xfail_any R rm s p2 E2 20 l (w2.alloc (.cells #[.int .i64 0, .int .i64 0, .slice none 0 0, .slice none 0 0] 29)).drew (HX2.out.alloc _).drw)
    have l1 := run_xlook_int (w2.alloc (.cells #[.int .i64 0, .int .i64 0, .slice none 0 0, .slice none 0 0] 29)).drew rm (hx2.alloc _).2.1
    clear c0 c1 c2 c3 c4 fz hR f1 f2 hg2 hx2 p1 HF
    go_wp2_with fail
    refine HN.out.mono ?_
    rintro e w3 ⟨rfl, h3⟩
    rw [h3]
    clear h3
  case' inr.inr.inl =>
    obtain ⟨w2, hw2⟩ : ∃ w2, w2 = W1 := ⟨_, rfl⟩
    obtain ⟨E2, hE2⟩ : ∃ E2, E2 = E := ⟨_, rfl⟩
    have hE0 : E2 ≠ 0 := by omega
    have hx2 : XrAt w2 R rm s p l E2 := by rw [hw2, hE2]; exact HA.out
    have HX2 := Lib.hid hx2
    have HG2 : Hid (W1.grownBy w2 (some R)) := Lib.hid (by rw [hw2]; exact Only.refl _ _)
    have HBE : Hid (E ≠ 0 → w2 = W1 ∧ E2 ≠ 0) := Lib.hid (fun _ => ⟨hw2, hE0⟩)
    have HE3 : Hid ((if E2 = 0 then 20 else E2) = (if E ≠ 0 then E else er)) := Lib.hid (by rw [if_neg hE0, if_pos hE, hE2])
    have HN := Lib.hid (xnum_err R rm s p E2 l W1 (by rw [← hw2]; exact hx2) hE0)
    obtain ⟨p2, hp2⟩ : ∃ p2, p = p2 := ⟨_, rfl⟩
    rw [hp2] at HX2
    have HF0 := Lib.hid (xfail_any R rm s p2 E2 20 l (w2.alloc (.cells #[.int .i64 0, .int .i64 0, .slice none 0 0, .slice none 0 0] 29)).drew (HX2.out.alloc _).drw)
    have l1 := run_xlook_int (w2.alloc (.cells #[.int .i64 0, .int .i64 0, .slice none 0 0, .slice none 0 0] 29)).drew rm (hx2.alloc _).2.1
    have HW2 := Lib.hid hw2
    clear hx2 HF hw2
    go_wp2_with fail
    refine HN.out.mono ?_
    rintro e w3 ⟨rfl, h3⟩
    rw [h3, ← HW2.out]
    clear h3 c0 c1 c2 c3 c4 fz hR p1
  case' inr.inr.inr =>
    subst hE
    have HN := Lib.hid (xnum_any R rm s p l W1 HA.out hs hp)
    unfold XnPost at HN
    generalize (num s p).1 = n1 at HN hk
    generalize (num s p).2.1 = p2 at HN
    generalize (num s p).2.2 = E2 at HN he
    have HE3 : Hid ((if E2 = 0 then 20 else E2) = (if (0 : Nat) ≠ 0 then 0 else er)) := Lib.hid (by
      rw [if_neg (by decide : ¬ (0 : Nat) ≠ 0), he]
      by_cases h0 : E2 = 0
      · rw [if_pos h0, if_neg (by omega)]
      · rw [if_neg h0, if_pos h0])
    clear HF he
    go_wp2_with fail
    refine HN.out.mono ?_
    rintro e w2 ⟨rfl, hx2, hg2⟩
    have HX2 := Lib.hid hx2
    have HG2 := Lib.hid hg2
    have HBE : Hid ((0 : Nat) ≠ 0 → w2 = W1 ∧ E2 ≠ 0) := Lib.hid (fun h => absurd rfl h)
    have HF0 := Lib.hid (xfail_any R rm s p2 E2 20 l (w2.alloc (.cells #[.int .i64 n1, .int .i64 0, .slice none 0 0, .slice none 0 0] 29)).drew (HX2.out.alloc _).drw)
    have l1 := run_xlook_no (w2.alloc (.cells #[.int .i64 n1, .int .i64 0, .slice none 0 0, .slice none 0 0] 29)).drew rm (hx2.alloc _).2.1 n1 hk
    clear hx2 hg2 c0 c1 c2 c3 c4 fz hR p1
  all_goals
    obtain ⟨c0, c1, c2, c3, c4, fz, hR⟩ := HX2.out.facts
    go_wp2_with fail
    go_region
    go_wp2_with fail
    refine HF0.out.mono ?_
    rintro e w5 ⟨rfl, f1, f2, hg5⟩
    have hneR : w.heap.size + 1 ≠ R := by omega
    have hner : w.heap.size + 1 ≠ rm := by omega
    have Z2 := (Only.block HG2.out hz1 hneR).trans HZ0.out
    have Z5 := (Only.block hg5 (by simp; have := lt_of_block Z2; omega) hneR).trans ((heap_old w2 _ (lt_of_block Z2)).trans Z2)
    obtain ⟨z0, z1, z2, z3⟩ := cells4 Z5
    have zf := free_of Z5
    have hset := set4_only (w := w5) (w.heap.size + 1) (.int .i64 0) (.int .i64 0) (.slice none 0 0) (.slice none 0 0)
    have HE : Hid (XwPost R rm s l _ er w (.returned (.agg #[.int .i64 0, .int .i64 0, .slice none 0 0, .slice none 0 0])) _) := Lib.hid (⟨rfl, Only.past (Only.after (Only.after (Only.of_below HAL.out R) HG2.out) (Only.after (Only.draws (Only.alloc _ _ _) 1) hg5)) hset (Nat.le_succ _), ⟨p2, by
      refine XrAt.only ?_ hset (Ne.symm hneR) (Ne.symm hner)
      rw [← HE3.out]
      by_cases h0 : E2 = 0
      · rw [if_pos h0]; exact f2 h0
      · rw [if_neg h0, f1 h0]; exact (HX2.out.alloc _).drw⟩, fun hne => by
      obtain ⟨hw2, h0⟩ := HBE.out hne
      rw [f1 h0, hw2]
      exact four_below ((HAL.out.alloc HAL.out.size _).drew) (Nat.le_succ _) _ _ _ _⟩)
    clear hg5 f1 f2 Z2 Z5 hset
    go_wp2_with fail
    refine bodyPost_ret (v := .agg #[.int .i64 0, .int .i64 0, .slice none 0 0, .slice none 0 0]) (by simp [results, Try.results30, go_sem, z0, z1, z2, z3]) rfl ?_
    exact HE.out

set_option maxRecDepth 100000 in
set_option maxHeartbeats 4000000 in
theorem xterm_yes (R rm : Nat) (s : ByteArray) (hs : s.size ≤ maxLen) (d : Nat) (HT : Hid (XtAny R rm s d)) (HX : Hid (XtErr R rm s)) (b p m k q : Nat) (w : World) (hat : XrAt w R rm s p (600 - (m : Int)) 0) (hp : p ≤ s.size) (hm : m < 600)
    (hn : num s p = (k, q, 0)) (hk1 : 1 ≤ k) (hk7 : k ≤ 7) (hb : b + 1 + d ≤ 1000) :
    Calls Try.prog 30 #[.pointer (some ⟨R, 0, none⟩), .agg #[.int .i64 b, .int .i64 ((d : Int) + 1)]] w (XtPost R rm s (rdKt s (rdT s d) k b q (m + 1)) w) := by
  have hR0 := lt_of_block hat.1
  have hr0 := lt_of_block hat.2.1
  have hal : Below w.heap.size w ((w.alloc (.cells #[.int .i64 (b : Int), .int .i64 ((d : Int) + 1)] 64)).alloc (.cells #[.int .i64 0, .int .i64 0, .slice none 0 0, .slice none 0 0] 29)) := ((Below.refl _ _).alloc (Nat.le_refl _) _).alloc (by simp) _
  have HAL := Lib.hid hal
  have HA := Lib.hid (hat.later hal)
  have HP0 : Hid (((w.alloc (.cells #[.int .i64 (b : Int), .int .i64 ((d : Int) + 1)] 64)).alloc (.cells #[.int .i64 0, .int .i64 0, .slice none 0 0, .slice none 0 0] 29)).heap[w.heap.size]? = some (.cells #[.int .i64 (b : Int), .int .i64 ((d : Int) + 1)] 64 (0, 0))) := Lib.hid ((heap_old _ _ (by simp)).trans (heap_new _ _))
  have HZ0 : Hid (((w.alloc (.cells #[.int .i64 (b : Int), .int .i64 ((d : Int) + 1)] 64)).alloc (.cells #[.int .i64 0, .int .i64 0, .slice none 0 0, .slice none 0 0] 29)).heap[w.heap.size + 1]? = some (.cells #[.int .i64 0, .int .i64 0, .slice none 0 0, .slice none 0 0] 29 (0, 0))) := Lib.hid (heap_second _ _ _)
  have hq : q ≤ s.size := by have := num_fin (s := s) (p := p) (by rw [hn]); rwa [hn] at this
  clear hal hat
  go_enter Try.func30, Try.ntmps30
  go_upto_region 1 with fail
  generalize (w.alloc (.cells #[.int .i64 (b : Int), .int .i64 ((d : Int) + 1)] 64)).alloc (.cells #[.int .i64 0, .int .i64 0, .slice none 0 0, .slice none 0 0] 29) = W1 at HAL HA HP0 HZ0 ⊢
  have hz1 := lt_of_block HZ0.out
  have p1 := cell_at HP0.out 1
  simp only [List.getElem?_toArray, List.getElem?_cons_zero, List.getElem?_cons_succ] at p1
  obtain ⟨c0, c1, c2, c3, c4, fz, hR⟩ := HA.out.facts
  have q1 : (((d : Int) + 1) == 0) = false := beq_eq_false_iff_ne.2 (by omega)
  have q2 : ((600 - (m : Int)) == 0) = false := beq_eq_false_iff_ne.2 (by omega)
  have HN := Lib.hid (xnum_any R rm s p (600 - (m : Int)) W1 HA.out hs hp)
  unfold XnPost at HN
  rw [hn] at HN
  have hne1 : w.heap.size ≠ R := by omega
  have hne2 : w.heap.size + 1 ≠ R := by omega
  go_wp2_with fail
  refine HN.out.mono ?_
  rintro e w2 ⟨rfl, hx2, hg2⟩
  have HX2 := Lib.hid hx2
  have HG2 := Lib.hid hg2
  have HP2 := Lib.hid ((Only.block hg2 (by omega) hne1).trans HP0.out)
  have HZ2 := Lib.hid ((Only.block hg2 hz1 hne2).trans HZ0.out)
  clear hx2 hg2 c0 c1 c2 c3 c4 fz hR p1 HN
  have l1 := run_xlook (w2.alloc (.cells #[.int .i64 (k : Int), .int .i64 0, .slice none 0 0, .slice none 0 0] 29)).drew rm (HX2.out.alloc _).2.1 k hk1 hk7
  obtain ⟨c0, c1, c2, c3, c4, fz, hR⟩ := HX2.out.facts
  obtain ⟨g, hg⟩ : ∃ g, xFn k = g := ⟨_, rfl⟩
  rw [hg] at l1
  have HW3A := Lib.hid ((HX2.out.alloc (.cells #[.int .i64 (k : Int), .int .i64 0, .slice none 0 0, .slice none 0 0] 29)).drw)
  have HT3 : Hid (TvAt (w2.alloc (.cells #[.int .i64 (k : Int), .int .i64 0, .slice none 0 0, .slice none 0 0] 29)).drew w2.heap.size k 0 none 0 0 none 0 0) := Lib.hid (heap_new w2 (.cells #[.int .i64 (k : Int), .int .i64 0, .slice none 0 0, .slice none 0 0] 29))
  have hb3 : Below w2.heap.size w2 (w2.alloc (.cells #[.int .i64 (k : Int), .int .i64 0, .slice none 0 0, .slice none 0 0] 29)).drew := ((Below.refl _ _).alloc (Nat.le_refl _) _).drew
  have HB3 := Lib.hid hb3
  clear hb3
  have hT : w2.heap.size ≠ R := by omega
  have hr2 := lt_of_block HX2.out.2.1
  have hTr : w2.heap.size ≠ rm := by omega
  have hzw : w.heap.size + 1 < w2.heap.size := lt_of_block HZ2.out
  go_wp2_with fail
  go_region
  generalize (w2.alloc (.cells #[.int .i64 (k : Int), .int .i64 0, .slice none 0 0, .slice none 0 0] 29)).drew = W3 at HW3A HT3 HB3 ⊢
  clear c0 c1 c2 c3 c4 fz hR l1
  obtain ⟨c0, c1, c2, c3, c4, fz, hR⟩ := HW3A.out.facts
  have hgs := Only.set W3 R 3 (.int .i64 (600 - (m : Int) - 1))
  have hz3 := HB3.out.size
  have hT3 := lt_of_block HT3.out
  have P3 := (HB3.out.block w.heap.size (by omega)).trans HP2.out
  have P4 := (Only.block hgs (by omega) hne1).trans P3
  have p0 := cell_at P4 0
  have p1 := cell_at P4 1
  simp only [List.getElem?_toArray, List.getElem?_cons_zero, List.getElem?_cons_succ] at p0 p1
  have H4 : Hid (XvIn R rm s q (m + 1) w2.heap.size k (W3.setCell ⟨R, 3, none⟩ (.int .i64 (600 - (m : Int) - 1)))) := Lib.hid (by
    have h1 := HW3A.out.left (600 - (m : Int) - 1)
    rw [show 600 - (m : Int) - 1 = 600 - ((m + 1 : Nat) : Int) by omega] at h1 ⊢
    rw [show 600 - (m : Int) - 1 = 600 - ((m + 1 : Nat) : Int) by omega] at hgs
    exact ⟨h1, HT3.out.only hgs hT, hT, hTr, hq, by omega⟩)
  have HG4 : Hid (w.grownBy (W3.setCell ⟨R, 3, none⟩ (.int .i64 (600 - (m : Int) - 1))) (some R)) := Lib.hid (Only.after (Only.after (Only.of_below HAL.out R) (Only.after HG2.out (Only.of_below HB3.out R))) hgs)
  have HZ4 := Lib.hid ((Only.block hgs (by omega) hne2).trans ((HB3.out.block (w.heap.size + 1) (by omega)).trans HZ2.out))
  have HRD := Lib.hid (xread_any R rm s hs d HT HX b q (m + 1) w2.heap.size k _ hk1 hk7 H4.out hb)
  rw [hg] at HRD
  have hz4 : (W3.setCell ⟨R, 3, none⟩ (.int .i64 (600 - (m : Int) - 1))).heap.size = W3.heap.size := by simp
  clear hgs P3 P4
  go_upto_region 9 with fail
  have hgc : g = 42 ∨ g = 43 ∨ g = 44 ∨ g = 45 ∨ g = 46 ∨ g = 47 := by
    have hc : k = 1 ∨ k = 2 ∨ k = 3 ∨ k = 4 ∨ k = 5 ∨ k = 6 ∨ k = 7 := by omega
    rw [← hg]
    rcases hc with rfl | rfl | rfl | rfl | rfl | rfl | rfl <;> simp [xFn]
  clear hg
  rcases hgc with rfl | rfl | rfl | rfl | rfl | rfl
  all_goals
    go_wp2_with fail
    refine HRD.out.mono ?_
    rintro e w5 ⟨rfl, htw, k', n', la, ln, lc, ka, kn, kc, hT5, hx⟩
    have Z5 := (htw.block (w.heap.size + 1) (by omega) hne2 (by omega)).trans HZ4.out
    have hg5 := Two.past HG4.out htw (by omega)
    obtain ⟨z0, z1, z2, z3⟩ := cells4 Z5
    obtain ⟨t0, t1, t2, t3⟩ := cells4 hT5
    have zf := free_of Z5
    have hset := set4_only (w := w5) (w.heap.size + 1) (.int .i64 k') (.int .i64 n') (.slice la ln lc) (.slice ka kn kc)
    have HE : Hid (XtPost R rm s (rdKt s (rdT s d) k b q (m + 1)) w (.returned (.agg #[.int .i64 k', .int .i64 n', .slice la ln lc, .slice ka kn kc])) _) := Lib.hid ⟨k', n', la, ln, lc, ka, kn, kc, rfl, Only.past hg5 hset (Nat.le_succ _), hx.turn hset (by omega) (by omega) (Ne.symm hne2) (by omega)⟩
    clear htw hT5 hx hg5 hset HRD Z5
    go_wp2_with fail
    refine bodyPost_ret (v := .agg #[.int .i64 k', .int .i64 n', .slice la ln lc, .slice ka kn kc]) (by simp [results, Try.results30, go_sem, z0, z1, z2, z3]) rfl ?_
    exact HE.out
theorem xw_tell {R rm : Nat} {s : ByteArray} {l : Int} {er : Nat} {w w' : World} {e : Ending} (h : XwPost R rm s l 0 er w e w') (he : er ≠ 0) : XtPost R rm s (.no er) w e w' := by
  obtain ⟨rfl, hg, ⟨p2, hx⟩, _⟩ := h
  exact ⟨0, 0, none, 0, 0, none, 0, 0, rfl, hg, he, p2, l, hx⟩
theorem xterm_err (R rm : Nat) (s : ByteArray) (hs : s.size ≤ maxLen) : XtErr R rm s := by
  intro b d p er l w hat he
  have hw : ((d == 0) = true ∧ 2 = 2) ∨ ((d == 0) = false ∧ (l == 0) = true ∧ 2 = 2) ∨ ((d == 0) = false ∧ (l == 0) = false ∧ er ≠ 0) := by
    cases h1 : (d == 0) with
    | true => exact .inl ⟨rfl, rfl⟩
    | false =>
      cases h2 : (l == 0) with
      | true => exact .inr (.inl ⟨rfl, rfl, rfl⟩)
      | false => exact .inr (.inr ⟨rfl, rfl, he⟩)
  refine (xterm_no R rm s hs b d l p er 2 w hat (by
    rcases hw with h | h | h
    · exact .inl h
    · exact .inr (.inl h)
    · exact .inr (.inr (.inl h)))).mono ?_
  rintro e w' ⟨h1, _, _, h2⟩
  exact ⟨h1, h2 he⟩
theorem xterm_all (R rm : Nat) (s : ByteArray) (hs : s.size ≤ maxLen) : ∀ d : Nat, XtAny R rm s d
  | 0 => fun b p m w hat hp hm hb => (xterm_no R rm s hs b ((0 : Nat) : Int) (600 - (m : Int)) p 0 2 w hat (.inl ⟨rfl, rfl⟩)).mono (fun e w' h => by
    rw [rdT]
    exact xw_tell h (by decide))
  | d + 1 => fun b p m w hat hp hm hb => by
    have hd : (((d + 1 : Nat) : Int) == 0) = false := beq_eq_false_iff_ne.2 (by omega)
    by_cases hm6 : 600 ≤ m
    · refine (xterm_no R rm s hs b ((d + 1 : Nat) : Int) (600 - (m : Int)) p 0 2 w hat (.inr (.inl ⟨hd, beq_iff_eq.2 (by omega), rfl⟩))).mono (fun e w' h => ?_)
      rw [rdT, if_pos hm6]
      exact xw_tell h (by decide)
    · have hl : ((600 - (m : Int)) == 0) = false := beq_eq_false_iff_ne.2 (by omega)
      rcases num_two s p with hn | ⟨k, q, hn, hq⟩
      · refine (xterm_no R rm s hs b ((d + 1 : Nat) : Int) (600 - (m : Int)) p 0 (num s p).2.2 w hat (.inr (.inr (.inr ⟨hd, hl, rfl, hp, .inl (num_zero hn), by rw [if_pos hn]⟩)))).mono (fun e w' h => ?_)
        rw [rdT, if_neg hm6, if_pos hn]
        exact xw_tell h hn
      · rw [rdT_at (by omega) hn]
        by_cases hk : k = 0 ∨ 7 < k
        · refine (xterm_no R rm s hs b ((d + 1 : Nat) : Int) (600 - (m : Int)) p 0 20 w hat (.inr (.inr (.inr ⟨hd, hl, rfl, hp, by rw [hn]; exact hk, by rw [hn]; rfl⟩)))).mono (fun e w' h => ?_)
          rw [rdKt, if_neg (by omega), if_neg (by omega), if_neg (by omega), if_neg (by omega), if_neg (by omega), if_neg (by omega), if_neg (by omega)]
          exact xw_tell h (by decide)
        · have := xterm_yes R rm s hs d (Lib.hid (xterm_all R rm s hs d)) (Lib.hid (xterm_err R rm s hs)) b p m k q w hat hp (by omega) hn (by omega) (by omega) (by omega)
          rwa [show (d : Int) + 1 = ((d + 1 : Nat) : Int) by omega] at this
end Go.Proofs.Ythnkoamabfaioaa
