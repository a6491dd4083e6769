/- The contract of the program's clauses that deny a clause. Condition: the atoms lie in memory; at most 1000, with Offs from 0 to 1000. -/
import Derived.Test.YtglggigndhbpcaaZLrows
import Derived.Test.YtglggigndhbpcaaZJk
import Derived.Test.YtglggigndhbpcaaZWpl
import Derived.Test.YtglggigndhbpcaaZHro
import Derived.Test.YtglggigndhbpcaaZHvars
namespace Go.Proofs.Ytglggigndhbpcaa
open Go.RowKit

theorem dn_put {W : World} {base : Nat} {x : Option Addr} {c n : Nat} {l : List Cl} {av aw tv tw sw : Int} (h : GRow W (fun _ => True) base (.slice x n c) l) (hn : l.length = n) (hl : n ≤ 1000) (hbase : base ≤ W.heap.size) (ty : TypeId) :
    ∃ (g k : Nat) (W2 : World), Hid ((Builtin.append_ #[22, 22] ty #[.slice x n c, .slice (some ⟨W.heap.size + 1 + 1 + 1, 0, none⟩) 1 1]).run Try.prog ((((W.alloc (.cells #[.int .i64 tv, .int .i64 sw] 27)).alloc (.cells #[.int .i64 tv, .int .i64 tw] 27)).alloc (.cells #[.int .i64 av, .int .i64 aw] 27)).alloc (.cells #[.slice (some ⟨W.heap.size + 1 + 1, 0, none⟩) 1 1, .int .i64 tv, .int .i64 tw] 35)) = .ok (.slice (some ⟨g, 0, none⟩) (n + 1) k) W2) ∧
      Hid (GRow W2 (fun _ => True) base (.slice (some ⟨g, 0, none⟩) (n + 1) k) (l ++ [([(av, aw)], (tv, tw))])) ∧ Below base W W2 := by
  subst hn
  have hb : Below W.heap.size W (((W.alloc (.cells #[.int .i64 tv, .int .i64 sw] 27)).alloc (.cells #[.int .i64 tv, .int .i64 tw] 27)).alloc (.cells #[.int .i64 av, .int .i64 aw] 27)) := (((Below.refl _ _).alloc (Nat.le_refl _) _).alloc (by simp) _).alloc (by simp; omega) _
  have hnw := heap_new ((W.alloc (.cells #[.int .i64 tv, .int .i64 sw] 27)).alloc (.cells #[.int .i64 tv, .int .i64 tw] 27)) (.cells #[.int .i64 av, .int .i64 aw] 27)
  rw [World.size_alloc, World.size_alloc] at hnw
  have hlt := h.lt
  have hsz : (((W.alloc (.cells #[.int .i64 tv, .int .i64 sw] 27)).alloc (.cells #[.int .i64 tv, .int .i64 tw] 27)).alloc (.cells #[.int .i64 av, .int .i64 aw] 27)).heap.size = W.heap.size + 1 + 1 + 1 := by simp
  have hgb := h.below hb
  generalize ((W.alloc (.cells #[.int .i64 tv, .int .i64 sw] 27)).alloc (.cells #[.int .i64 tv, .int .i64 tw] 27)).alloc (.cells #[.int .i64 av, .int .i64 aw] 27) = V at hb hnw hsz hgb ⊢
  have hat : AtsIn V (fun b => True ∧ b < V.heap.size ∧ ¬ OwnB (.slice x l.length c) b) [(av, aw)] (some ⟨W.heap.size + 1 + 1, 0, none⟩) 1 := by
    refine ⟨Nat.le_refl _, by unfold maxLen; omega, (fun e => by cases e), fun _ => ⟨W.heap.size + 1 + 1, 0, rfl, ⟨trivial, lt_of_block hnw, fun hO => by have := (hlt _ hO).2; omega⟩, fun i hi => ?_⟩⟩
    have hi0 : i = 0 := by simp at hi; exact hi
    subst hi0
    exact ⟨cell_at hnw 0, cell_at hnw 1⟩
  obtain ⟨g, k, W2, r, h2, t⟩ := hgb.push ty ([(av, aw)], (tv, tw)) (a := some ⟨W.heap.size + 1 + 1, 0, none⟩) (cap := 1) trivial hat (by omega) (by omega)
  rw [hsz] at r
  exact ⟨g, k, W2, Lib.hid r, Lib.hid h2, (hb.mono hbase).trans (t.low (by omega) (fun b hO => (hlt b hO).1))⟩
/-- What denial answers. -/
def DnPost (q : List Cl) (n : Nat) (w : World) (e : Ending) (w' : World) : Prop := ∃ x c, e = .returned (.slice x n c) ∧ ClsIn w' (· < w'.heap.size) q x c ∧ Below w.heap.size w w'
set_option maxRecDepth 100000 in
set_option maxHeartbeats 4000000 in
theorem sdenial_any (av aw : Int) (b : List At) (ab : Option Addr) (cb B : Nat) (w : World) (hin : AtsIn w (· < B) b ab cb) (hB : B ≤ w.heap.size) (hl : b.length ≤ 1000) (hO : ∀ j, j < b.length → 0 ≤ (b.getD j at0).2 ∧ (b.getD j at0).2 ≤ 1000) :
    Calls Try.prog 35 #[.agg #[.int .i64 av, .int .i64 aw], .slice ab b.length cb] w (DnPost (notK (av, aw) b) b.length w) := by
  obtain ⟨W0, hW0⟩ : ∃ W, W = w.alloc (.cells #[.int .i64 av, .int .i64 aw] 27) := ⟨_, rfl⟩
  have B0 : Below w.heap.size w W0 := by rw [hW0]; exact (Below.refl _ _).alloc (Nat.le_refl _) _
  have HS0 : Hid (W0.heap.size = w.heap.size + 1) := Lib.hid (by rw [hW0]; simp)
  have Q0 : Hid (W0.heap[w.heap.size]? = some (.cells #[.int .i64 av, .int .i64 aw] 27 (0, 0))) := Lib.hid (by rw [hW0]; exact heap_new w _)
  have HIB := Lib.hid (fun (W : World) (hW : Below W0.heap.size W0 W) => hin.below ((B0.trans (hW.mono B0.size)).mono hB))
  have HB0 := Lib.hid B0
  have HBB : Hid (B ≤ W0.heap.size) := Lib.hid (Nat.le_trans hB B0.size)
  have HW := Lib.hid hW0
  have HOO := Lib.hid hO
  have hll := hl
  clear hin hB hO B0 hW0 hl
  go_enter Try.func35, Try.ntmps35
  go_wp2_with fail
  rw [← HW.out]
  go_loopw [5, 11] (fun uv iv wr => ∃ (i : Nat) (x : Option Addr) (c : Nat), uv = .slice x i c ∧ iv = .int .i64 i ∧ i ≤ b.length ∧ Hid (GRow wr (fun _ => True) W0.heap.size (.slice x i c) (notK (av, aw) (b.take i))) ∧ Hid (Below W0.heap.size W0 wr)) (fun _ iv _ => b.length - (intOf iv).toNat)
  case atStart => exact ⟨0, none, 0, rfl, rfl, Nat.zero_le _, Lib.hid (GRow.nil _ _ _), Lib.hid (Below.refl _ _)⟩
  case round =>
    obtain ⟨i, x, c, rfl, rfl, hi, hg, hb⟩ := hrel
    by_cases hlt : i < b.length
    · have hlt' : (i : Int) < (b.length : Int) := by omega
      have hi0 : (0 : Int) ≤ (i : Int) := by omega
      obtain ⟨g, o, rfl, hgB, hc⟩ := (HIB.out wr hb.out).some (by omega)
      have c0 := (hc i hlt).1
      have c1 := (hc i hlt).2
      have HT := notK_take (av, aw) hlt
      obtain ⟨hat0, hat1⟩ := HOO.out i hlt
      generalize (b.getD i at0).1 = tv at c0 HT
      generalize (b.getD i at0).2 = tw at c1 HT hat0 hat1
      have hs := HS0.out
      have q1 := (hb.out.block w.heap.size (by omega)).trans Q0.out
      have d0 := cell_at q1 0
      have d1 := cell_at q1 1
      simp at d0 d1
      have hz := hb.out.size
      have BZ : ∀ p q, Below wr.heap.size wr ((wr.alloc p).alloc q) := fun p q => ((Below.refl _ _).alloc (Nat.le_refl _) _).alloc (by simp) _
      have n2 := fun p q => (bcell (BZ p q) w.heap.size 0 (by omega)).trans d0
      have n3 := fun p q => (bcell (BZ p q) w.heap.size 1 (by omega)).trans d1
      have hw := IntWalk.i64_in (tw + 1) (by omega)
      obtain ⟨g2, k2, W2, HR, HG2, hb2⟩ := dn_put (av := av) (aw := aw) (tv := tv) (tw := tw + 1) (sw := tw) hg.out (by rw [notK_len, List.length_take]; omega) (by omega) hb.out.size 22
      have HB2 : Hid (Below W0.heap.size W0 W2) := Lib.hid (hb.out.trans hb2)
      have HG3 : Hid (GRow W2 (fun _ => True) W0.heap.size (.slice (some ⟨g2, 0, none⟩) (i + 1) k2) (notK (av, aw) (b.take (i + 1)))) := Lib.hid (by rw [HT]; exact HG2.out)
      clear hc HT BZ hs hz q1 HG2 hb2 d0 d1
      go_wp2_with (at_builtin; refine wpList_append_run (by rfl) _ _ _ (by rfl) (by rfl) (by rfl) HR.out ?_)
      go_roundw
      case rel => exact ⟨i + 1, _, _, rfl, by go_num, by omega, HG3, HB2⟩
      case measure => simp [intOf]; omega
    · obtain rfl : i = b.length := by omega
      rw [List.take_length] at hg
      have HE : Hid (DnPost (notK (av, aw) b) b.length w (.returned (.slice x b.length c)) wr) := Lib.hid ⟨x, c, rfl, GRow.cls (by rw [notK_len]; exact hg.out), Below.step HB0.out hb.out (Nat.le_refl _)⟩
      clear hg hb
      go_wp2_with fail
      go_ret
      exact HE.out
end Go.Proofs.Ytglggigndhbpcaa
/- The contracts of the makers of a new store, of the program and of the document. No condition. -/
namespace Go.Proofs.Ytglggigndhbpcaa
open Go.RowKit

/-- What New answers. -/
def NwPost (vars : Int) (w : World) (e : Ending) (w' : World) : Prop :=
  ∃ x c, e = .returned (.tuple #[.agg #[.int .i64 (newV vars), .slice none 0 0, .slice x (zerosJ (newV vars).toNat).length c], .int .i64 (newE vars)]) ∧ IOwn w' (w.heap.size + 1) (.slice x (zerosJ (newV vars).toNat).length c) (zerosJ (newV vars).toNat) ∧ Below w.heap.size w w'
theorem nw_no {vars : Int} {w : World} (h : ¬ (1 ≤ vars ∧ vars ≤ 16)) : NwPost vars w (.returned (.tuple #[.agg #[.int .i64 0, .slice none 0 0, .slice none 0 0], .int .i64 1])) (w.alloc (.cells #[.int .i64 0, .slice none 0 0, .slice none 0 0] 25)) := by
  unfold NwPost newV newE
  rw [if_neg h, if_neg h]
  exact ⟨none, 0, rfl, IOwn.nil _ _, (Below.refl _ _).alloc (Nat.le_refl _) _⟩
theorem nw_yes {V : Nat} {w W : World} (h1 : 1 ≤ (V : Int)) (h2 : (V : Int) ≤ 16) (hs : W.heap.size = w.heap.size + 1) (hb : Below w.heap.size w W) : NwPost (V : Int) w (.returned (.tuple #[.agg #[.int .i64 V, .slice none 0 0, .slice (some ⟨w.heap.size + 1, 0, none⟩) V V], .int .i64 0])) (W.alloc (.cells (Array.replicate V (.int .i64 0)) 3)) := by
  unfold NwPost newV newE
  rw [if_pos ⟨h1, h2⟩, if_pos ⟨h1, h2⟩]
  refine ⟨some ⟨w.heap.size + 1, 0, none⟩, V, by rw [zerosJ_len]; rfl, ?_, hb.alloc hb.size _⟩
  rw [← hs]
  have e : (zerosJ (V : Int).toNat).length = V := by rw [zerosJ_len]; rfl
  unfold IOwn
  rw [e]
  exact ⟨by simp [zerosJ], .inr ⟨W.heap.size, V, Array.replicate V (Value.int .i64 0), rfl, Nat.le_refl _, heap_new W _, Nat.le_refl _, by unfold maxLen; omega, by simp, by simp [zerosJ]⟩⟩
set_option maxRecDepth 100000 in
set_option maxHeartbeats 4000000 in
theorem sNew_any (vars : Int) (w : World) : Calls Try.prog 8 #[.int .i64 vars] w (NwPost vars w) := by
  have HNO := Lib.hid (@nw_no vars w)
  by_cases h1 : vars < 1
  · have HE := Lib.hid (HNO.out (by omega))
    clear HNO
    go_enter Try.func8, Try.ntmps8
    go_wp2_with fail
    refine bodyPost_ret (v := .tuple #[.agg #[.int .i64 0, .slice none 0 0, .slice none 0 0], .int .i64 1]) (by simp [results, Try.f8, go_sem]) rfl ?_
    exact HE.out
  · by_cases h2 : 16 < vars
    · have HE := Lib.hid (HNO.out (by omega))
      clear HNO
      go_enter Try.func8, Try.ntmps8
      go_wp2_with fail
      refine bodyPost_ret (v := .tuple #[.agg #[.int .i64 0, .slice none 0 0, .slice none 0 0], .int .i64 1]) (by simp [results, Try.f8, go_sem]) rfl ?_
      exact HE.out
    · obtain ⟨V, rfl⟩ : ∃ V : Nat, vars = (V : Int) := ⟨vars.toNat, by omega⟩
      have hmk := make_nums V (by omega) (w.alloc (.cells #[.int .i64 0, .slice none 0 0, .slice none 0 0] 25))
      simp only [World.size_alloc] at hmk
      have HE := Lib.hid (nw_yes (V := V) (w := w) (W := w.alloc (.cells #[.int .i64 V, .slice none 0 0, .slice (some ⟨w.heap.size + 1, 0, none⟩) V V] 25)) (by omega) (by omega) (by simp) ((Below.refl _ _).alloc (Nat.le_refl _) _))
      clear HNO
      go_enter Try.func8, Try.ntmps8
      go_wp2_with fail
      refine bodyPost_ret (v := .tuple #[.agg #[.int .i64 V, .slice none 0 0, .slice (some ⟨w.heap.size + 1, 0, none⟩) V V], .int .i64 0]) (by simp [results, Try.f8, go_sem]) rfl ?_
      exact HE.out
set_option maxRecDepth 100000 in
set_option maxHeartbeats 4000000 in
theorem r11New_any (vars : Int) (w : World) : Calls Try.prog 9 #[.int .i64 vars] w (NwPost vars w) := by
  have HNO := Lib.hid (@nw_no vars w)
  by_cases h1 : vars < 1
  · have HE := Lib.hid (HNO.out (by omega))
    clear HNO
    go_enter Try.func9, Try.ntmps9
    go_wp2_with fail
    refine bodyPost_ret (v := .tuple #[.agg #[.int .i64 0, .slice none 0 0, .slice none 0 0], .int .i64 1]) (by simp [results, Try.f9, go_sem]) rfl ?_
    exact HE.out
  · by_cases h2 : 16 < vars
    · have HE := Lib.hid (HNO.out (by omega))
      clear HNO
      go_enter Try.func9, Try.ntmps9
      go_wp2_with fail
      refine bodyPost_ret (v := .tuple #[.agg #[.int .i64 0, .slice none 0 0, .slice none 0 0], .int .i64 1]) (by simp [results, Try.f9, go_sem]) rfl ?_
      exact HE.out
    · obtain ⟨V, rfl⟩ : ∃ V : Nat, vars = (V : Int) := ⟨vars.toNat, by omega⟩
      have hmk := make_nums V (by omega) (w.alloc (.cells #[.int .i64 0, .slice none 0 0, .slice none 0 0] 25))
      simp only [World.size_alloc] at hmk
      have HE := Lib.hid (nw_yes (V := V) (w := w) (W := w.alloc (.cells #[.int .i64 V, .slice none 0 0, .slice (some ⟨w.heap.size + 1, 0, none⟩) V V] 25)) (by omega) (by omega) (by simp) ((Below.refl _ _).alloc (Nat.le_refl _) _))
      clear HNO
      go_enter Try.func9, Try.ntmps9
      go_wp2_with fail
      refine bodyPost_ret (v := .tuple #[.agg #[.int .i64 V, .slice none 0 0, .slice (some ⟨w.heap.size + 1, 0, none⟩) V V], .int .i64 0]) (by simp [results, Try.f9, go_sem]) rfl ?_
      exact HE.out
end Go.Proofs.Ytglggigndhbpcaa
