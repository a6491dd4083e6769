/- The contract of the program's Put: for every number from 0 to 2^40 it returns the base-128 bytes, for any other the refusal; nothing that lay in memory changes. -/
import Derived.Test.YthnkoamabfaioaaDigits
import Derived.Maps.AppendAt
import Derived.Below
import Derived.CallsIn
import Derived.Laws.OwnMore
import Derived.Test.YthnkoamabfaioaaFits
import Derived.Deep.RegionWith
import Derived.Deep.RegionHeld3
import Derived.Test.YthnkoamabfaioaaLspec
import Derived.Test.YthnkoamabfaioaaCell
import Derived.Lib.AppendStr
import Derived.Test.YthnkoamabfaioaaMath
import Derived.Test.YthnkoamabfaioaaRows
import Derived.WalkKit
import Derived.ProofKit
import Derived.OpenShut
import Derived.LoopTactic
import Derived.Lib.Hide
import Derived.Test.YthnkoamabfaioaaSpec
import Derived.Deep.QuietTactic
import Derived.BigQuiet
import Derived.Test.YthnkoamabfaioaaTlf
import Derived.Test.YthnkoamabfaioaaRow
namespace Go.Proofs.Ythnkoamabfaioaa
open Go.RowKit Go.Shelf
attribute [local go_sem] Oper.semAt_some

set_option maxHeartbeats 1000000 in
theorem digits_in (F : Fence) (n : Nat) (hf : F.fn 71) (hro : F.round = none) (N : Nat) (w : World) :
    CallsIn F n Try.prog 71 #[.int .u64 N] w fun e w' => e = .returned (.func (.func 81) #[] #[.pointer (some ⟨w.heap.size, 0, none⟩)]) ∧ w' = w.alloc (.cells #[.int .u64 N] 110) := by
  refine callsIn_of_wp Try.func71 rfl hf ?_ hro
  simp only [Try.ntmps71, List.size_toArray, List.length_cons, List.length_nil, Nat.reduceAdd, Nat.reduceSub, Array.replicate_succ, Array.replicate_zero, List.push_toArray, List.append_toArray, List.nil_append, List.cons_append]
  gi_wp2
  go_ret
  exact ⟨rfl, rfl⟩

theorem digits_stops (F : Fence) (n : Nat) (hf : F.fn 81) (hro : F.round = none) (hn : 1 ≤ n) (Bn n₀ N : Nat) (hN : N ≤ 1099511627776) (w : World) (hBn : Bn < w.heap.size)
    (hc : w.cell? ⟨Bn, 0, none⟩ = some (.int .u64 N)) :
    SeqStopsK F n Try.prog 81 #[.pointer (some ⟨Bn, 0, none⟩)] (fun x : Int => #[Value.int .u8 x]) (Below n₀) (fun ys => ys = enc N) (fun pre => pre <+: enc N) (enc N).length w := fun l J Jx W hW _ _ hY h0 =>
  digits1_in F n hf hro hn l Bn n₀ N hN J Jx hY W ((hW.cell (p := ⟨Bn, 0, none⟩) hBn).trans hc) h0

theorem infoU8 : (Try.prog.info? 5).map (fun i => (i.zero, i.size, i.bytes)) = some (some (.int .u8 0), 1, 1) := by kernel_rfl

set_option maxRecDepth 100000 in
set_option maxHeartbeats 2000000 in
theorem put_in (F : Fence) (n : Nat) (h3 : F.fn 56) (h4 : F.fn 71) (h5 : F.fn 81) (hro : F.round = none) (hn : 3 ≤ n) (N : Nat) (hN : N ≤ 1099511627776) (w : World) :
    CallsIn F n Try.prog 56 #[.int .i64 N] w fun e W' => e = .returned (.tuple #[.string (strOfNums (enc N)), .int .i64 0]) ∧ Below w.heap.size w W' := by
  have h1 : 1 ≤ n := by omega
  have hlen := enc_len6 hN
  obtain ⟨i0, hi, hz0, hz1, hz2⟩ := info_parts infoU8
  refine callsIn_of_wp_marks Try.func56 rfl h3 ?_ hro
  simp only [Try.ntmps56, List.size_toArray, List.length_cons, List.length_nil, Nat.reduceAdd, Nat.reduceSub, Array.replicate_succ, Array.replicate_zero, List.push_toArray, List.append_toArray, List.nil_append, List.cons_append]
  have d0 : decide ((N : Int) < 0) = false := by simp
  have d1 : decide (1099511627776 < (N : Int)) = false := by simp; omega
  gi_wp2_with (gi_at_call 71; refine (digits_in F (n - 1) h4 hro _ _).mono ?_; rintro e w' ⟨rfl, rfl⟩)
  have bO := Boxed.new w 24 (.slice none 0 0)
  have bN := Boxed.new (w.alloc (.cells #[.slice none 0 0] 24)) 110 (.int .u64 N)
  rw [World.size_alloc] at bN
  have hB0 : Below w.heap.size w ((w.alloc (.cells #[.slice none 0 0] 24)).alloc (.cells #[.int .u64 N] 110)) := ((Below.refl _ w).alloc (Nat.le_refl _) _).alloc (by simp) _
  refine wpIn_rangeFunc_ownG hro h1 (gf := 81) (lb := #[.pointer (some ⟨w.heap.size + 1, 0, none⟩)]) rfl h5 (enters_of Try.func81 (by kernel_rfl) rfl)
    (digits_stops F (n - 1) h5 hro (by omega) (w.heap.size + 1) w.heap.size N hN _ (by simp) bN.cell) belowK_t (belowK_b (by simp; omega)) (Below.refl _ _) (fun _ => rfl)
    (fun pre W => (∃ v, Boxed W w.heap.size 24 v ∧ W.ownsRow w.heap.size 5 1 v pre.length (pre.map (Value.int .u8)) ∧ True) ∧ Below w.heap.size w W)
    (fun _ _ _ => False)
    (OwnFrom.and (Own.from (holdsRow_own w.heap.size w.heap.size 24 5 1 (fun pre : List Int => pre.length) (fun pre : List Int => pre.map (Value.int .u8)) (fun _ _ => True)) _) (ownFrom_below (Nat.le_refl _) (by simp; omega)))
    (fun _ _ _ _ _ hs _ _ => hs)
    ⟨⟨_, bO.alloc _, World.ownsRow_nil _ _ _ _, trivial⟩, hB0⟩
    (fun x => { tmps := #[.int .i64 N, undef, .string ⟨#[]⟩, .int .i64 0, .pointer (some ⟨w.heap.size, 0, none⟩), .int .u8 x, .int .i64 N, .bool false, .bool false, .int .i64 N, .bool false, .bool false, .int .i64 N, .int .u64 N, .func (.func 81) #[] #[.pointer (some ⟨w.heap.size + 1, 0, none⟩)], .int .u8 x, undef, undef, undef, undef, undef, undef], defers := [] }) ?assign ?body ?done ?stop
  case assign =>
    intro l x W K hK
    gi_wp2
    exact hK
  case body =>
    rintro l pre x W ⟨⟨v, hv, hrow, _⟩, hB⟩ hlt
    have hc := hv.cell
    gi_wp2_with (gi_at_builtin; refine wpListIn_append_own _ rfl _ _ 24 rfl w.heap.size 5 i0 (.int .u8 0) 1 1 Try.underlying24 hi hz0 hz1 hz2 rfl (by decide) _ _ _ rfl (hrow.alloc _) ⟨W.heap.size, 0, none⟩ 1 1 [.int .u8 x] rfl rfl (cell_one_new _ _ _) (by simp [Value.oneCell']) (by unfold maxLen; omega) (by omega) (by have := hB.size; simp; omega) ?_; intro v' w1 hown' hgrow _; obtain ⟨g', cap', rfl⟩ := ownsRow_succ hown'; obtain ⟨hv1, hv2, hr2, hk2, hb2⟩ := hv.appended (by decide) hrow hB.size (Nat.le_refl _) hown' hgrow; have hc1 := hv1.cell; have hf1 := hv1.frozen)
    exact ⟨hk2.from _, hb2, ⟨_, hv2, by simpa using hr2, trivial⟩, hB.trans hb2⟩
  case done =>
    rintro D ys W hD rfl ⟨⟨v, hv, hrow, _⟩, hB⟩ hK
    have hc := hv.cell
    have hpos := enc_pos N
    obtain ⟨k, hk⟩ : ∃ k, (enc N).length = k + 1 := ⟨(enc N).length - 1, by omega⟩
    rw [hk] at hrow
    obtain ⟨g, cap, rfl⟩ := ownsRow_succ hrow
    have hcv := run_convert_bytes_arg (P := Try.prog) W 24 5 Try.underlying24 Try.underlying5 g 0 (k + 1) cap (enc N) hk (fun i hi => by
      have := hrow.cellAt i (by omega)
      simp only [Nat.zero_add]
      rw [this, List.getElem?_map, List.getD_eq_getElem?_getD, List.getElem?_eq_getElem (by omega)]; rfl) 9 Try.underlying9
    gi_wp2
    refine ⟨by simp, .inl ⟨_, _, rfl, run_takeDeferred hK, ?_⟩⟩
    exact ⟨.tuple #[.string (strOfNums (enc N)), .int .i64 0], by simp [results, Try.results56, go_sem], rfl, hB.trans (belowK_b (w := w) (Nat.le_refl _) W D _ _ (by simp at hD; omega) hK rfl rfl)⟩
  case stop =>
    rintro D c pre W _ _ h _
    exact h.elim
theorem put_any (N : Nat) (hN : N ≤ 1099511627776) (w : World) :
    Calls Try.prog 56 #[.int .i64 N] w fun e w' => e = .returned (.tuple #[.string (strOfNums (enc N)), .int .i64 0]) ∧ Below w.heap.size w w' :=
  (callsIn_wide (n := 3)).1 (put_in Fence.wide 3 trivial trivial trivial rfl (Nat.le_refl _) N hN w)

set_option maxHeartbeats 400000 in
theorem put_no (n : Int) (h : n < 0 ∨ 1099511627776 < n) (w : World) :
    Calls Try.prog 56 #[.int .i64 n] w fun e w' => e = .returned (.tuple #[.string (strOfNums []), .int .i64 1]) ∧ Below w.heap.size w w' := by
  rcases h with h | h
  · go_enter Try.func56, Try.ntmps56
    go_wp2
    go_ret2
    exact ⟨rfl, Below.refl _ _⟩
  · have h' : ¬ n < 0 := by omega
    go_enter Try.func56, Try.ntmps56
    go_wp2
    go_ret2
    exact ⟨rfl, Below.refl _ _⟩
end Go.Proofs.Ythnkoamabfaioaa
/- The contract of the checker's way through a level: it counts down, and tells whether every level may be. -/
namespace Go.Proofs.Ythnkoamabfaioaa
open Go.RowKit

/-- The checker's block, whole, and the table that it points to. -/
def ChkAt (w : World) (C r : Nat) (p m left : Int) : Prop :=
  w.heap[C]? = some (.cells #[.map (some r), .int .i64 p, .int .i64 m, .int .i64 left] 125 (0, 0)) ∧ w.heap[r]? = some (.map kTab 6) ∧ r < C
theorem ChkAt.facts {w : World} {C r : Nat} {p m left : Int} (h : ChkAt w C r p m left) :
    w.cell? ⟨C, 0, none⟩ = some (.map (some r)) ∧ w.cell? ⟨C, 1, none⟩ = some (.int .i64 p) ∧ w.cell? ⟨C, 2, none⟩ = some (.int .i64 m) ∧ w.cell? ⟨C, 3, none⟩ = some (.int .i64 left) ∧ w.frozen? ⟨C, 3, none⟩ = false ∧ C < w.heap.size := by
  obtain ⟨h1, _, _⟩ := h
  exact ⟨by simp [World.cell?, h1], by simp [World.cell?, h1], by simp [World.cell?, h1], by simp [World.cell?, h1], free_of h1 3, lt_of_block h1⟩
theorem ChkAt.below {w w' : World} {C r : Nat} {p m left : Int} (h : ChkAt w C r p m left) (hb : Below w.heap.size w w') : ChkAt w' C r p m left := by
  have hlt := lt_of_block h.1
  exact ⟨(hb.block C hlt).trans h.1, (hb.block r (Nat.lt_trans h.2.2 hlt)).trans h.2.1, h.2.2⟩
theorem ChkAt.alloc {w : World} {C r : Nat} {p m left : Int} (h : ChkAt w C r p m left) (o : Obj) : ChkAt (w.alloc o) C r p m left := h.below ((Below.refl _ _).alloc (Nat.le_refl _) o)
theorem ChkAt.set {w : World} {C r : Nat} {p m left : Int} (h : ChkAt w C r p m left) (l : Int) : ChkAt (w.setCell ⟨C, 3, none⟩ (.int .i64 l)) C r p m l := by
  obtain ⟨h1, h2, h3⟩ := h
  refine ⟨?_, ?_, h3⟩
  · simp only [World.setCell, Array.getElem?_modify, if_true, h1]; rfl
  · rw [Below.heap_setCell _ _ _ _ (Nat.ne_of_lt h3)]; exact h2

/-- What the checker's call answers: whether the level may be; and, if so, what is left stands in its block; nothing else that was there has changed. -/
def CrOk (C r : Nat) (p m : Int) (x : Option Nat) (w : World) (e : Ending) (w' : World) : Prop :=
  e = .returned (.bool x.isSome) ∧ (∃ l : Int, ChkAt w' C r p m l ∧ ∀ y : Nat, x = some y → l = y) ∧ w.grownBy w' (some C)
def cNode (p m k n : Int) (ks : Fo) (d left : Nat) : Option Nat := if d = 0 ∨ left = 0 ∨ fitsB p m k n ks.len = false then none else cAll p m ks (d - 1) (left - 1)
theorem cNode_no {p m k n : Int} {ks : Fo} {d left : Nat} (h : d = 0 ∨ left = 0 ∨ fitsB p m k n ks.len = false) : cNode p m k n ks d left = none := if_pos h
theorem cAll_cons (p m k n : Int) (ks r : Fo) (d left : Nat) : cAll p m (.cons k n ks r) d left = match cNode p m k n ks d left with | none => none | some l => cAll p m r d l := rfl
theorem cAll_le (p m : Int) (f : Fo) (d left l : Nat) (h : cAll p m f d left = some l) : l ≤ left := by
  rw [cAll_eq] at h
  split at h
  · injection h; omega
  · cases h

set_option maxRecDepth 100000 in
set_option maxHeartbeats 2000000 in
theorem cright_any (p m : Int) (s : Nat) : ∀ (f : Fo), f.size < s → ∀ (k n : Int) (d left : Nat) (a : Option Addr) (cap B C r : Nat) (w : World), SlIn w (· < B) f a cap → B ≤ C → d ≤ 12 → left ≤ 100 → ChkAt w C r p m left →
    Calls Try.prog 88 #[.pointer (some ⟨C, 0, none⟩), .agg #[.int .i64 k, .int .i64 n, .slice a f.len cap], .int .i64 d] w (CrOk C r p m (cNode p m k n f d left) w) := by
  induction s with
  | zero => intro f hs; omega
  | succ s ih =>
    intro f hs k n d left a cap B C r w hsl hB hd hleft hat
    have IH := Lib.hid ih
    clear ih
    have hlen := hsl.len
    obtain ⟨c0, c1, c2, c3, f3, hC⟩ := hat.facts
    by_cases h1 : d = 0
    · rw [cNode_no (.inl h1)]
      subst h1
      go_enter Try.func88, Try.ntmps88
      go_wp2_with fail
      go_ret
      exact ⟨rfl, ⟨_, hat.alloc _, fun y hy => by cases hy⟩, Only.alloc _ _ _⟩
    · have d1 : ((d : Int) == 0) = false := beq_eq_false_iff_ne.2 (by omega)
      by_cases h2 : left = 0
      · rw [cNode_no (.inr (.inl h2))]
        have d2 : ((left : Int) == 0) = true := beq_iff_eq.2 (by omega)
        go_enter Try.func88, Try.ntmps88
        go_wp2_with fail
        go_ret
        exact ⟨rfl, ⟨_, hat.alloc _, fun y hy => by cases hy⟩, Only.alloc _ _ _⟩
      · have d2 : ((left : Int) == 0) = false := beq_eq_false_iff_ne.2 (by omega)
        have HF := Lib.hid (fun (W : World) (h : ChkAt W C r p m left) => fits_any k n p m a f.len cap C r W h.facts.2.2.2.2.2 (Nat.lt_trans h.2.2 h.facts.2.2.2.2.2) h.2.1 h.facts.1 h.facts.2.1 h.facts.2.2.1)
        have HV : Hid (∀ v, fitsB p m k n f.len = v → cNode p m k n f d left = if v then cAll p m f (d - 1) (left - 1) else none) := Lib.hid (fun v hv => by
          unfold cNode; rw [hv]; cases v <;> simp [h1, h2])
        generalize fitsB p m k n f.len = v at HF HV
        have HV' := Lib.hid (HV.out v rfl)
        clear HV
        cases v with
        | false =>
          rw [HV'.out]
          go_enter Try.func88, Try.ntmps88
          go_wp2_with fail
          refine (HF.out _ (hat.alloc _)).mono ?_
          rintro e w1 ⟨rfl, hb1⟩
          go_wp2_with fail
          go_ret
          exact ⟨rfl, ⟨_, (hat.alloc _).below hb1, fun y hy => by cases hy⟩, Only.after (Only.alloc _ _ _) (Only.below _ hb1)⟩
        | true =>
          go_enter Try.func88, Try.ntmps88
          go_wp2_with fail
          refine (HF.out _ (hat.alloc _)).mono ?_
          rintro e w1 ⟨rfl, hb1⟩
          have hat1 := (hat.alloc _).below hb1
          obtain ⟨g0, g1, g2, g3, fz, gC⟩ := hat1.facts
          have hb1' : Below (w.heap.size + 1) (w.alloc (.cells #[.int .i64 k, .int .i64 n, .slice a f.len cap] 33)) w1 := by simpa using hb1
          have b0 := bcell hb1' w.heap.size 0 (by omega)
          have b1 := bcell hb1' w.heap.size 1 (by omega)
          have b2 := bcell hb1' w.heap.size 2 (by omega)
          simp at b0 b1 b2
          have hCn : C ≠ w.heap.size := by omega
          go_wp2_with fail
          go_loopw [34] (fun i wr => ∃ (j : Nat) (rr : Fo) (q : Nat), i = .int .i64 j ∧ q ≤ 100 ∧ Hid (j + rr.len = f.len) ∧ Hid (rr.size ≤ f.size) ∧
              Hid (∀ b o, a = some ⟨b, o, none⟩ → FoIn w (· < B) rr b (o + j * 3)) ∧ Hid (cAll p m rr (d - 1) q = cAll p m f (d - 1) (left - 1)) ∧ Hid (ChkAt wr C r p m q) ∧ Hid (w.grownBy wr (some C)))
            (fun i _ => f.len - (intOf i).toNat)
          case atStart => exact ⟨0, f, left - 1, rfl, by omega, Lib.hid (by omega), Lib.hid (Nat.le_refl _), Lib.hid (by rintro b o rfl; simpa using hsl.foIn), Lib.hid rfl, Lib.hid (by rw [show ((left - 1 : Nat) : Int) = (left : Int) - 1 by omega]; exact hat1.set _), Lib.hid (Only.after (Only.after (Only.alloc _ _ _) (Only.below _ hb1)) (Only.set _ _ _ _))⟩
          case round =>
            obtain ⟨j, rr, q, rfl, hq, hj, hrs, hin, hall, hatr, hgr⟩ := hrel
            cases rr with
            | nil =>
              have hlt : ¬ (j : Int) < (f.len : Int) := by have := hj.out; simp [Fo.len] at this; omega
              have d' : decide ((j : Int) < (f.len : Int)) = false := by simpa using hlt
              go_wp2_with fail
              go_ret
              have hx : cNode p m k n f d left = some q := by rw [HV'.out, if_pos trivial, ← hall.out]; rfl
              rw [hx]
              exact ⟨rfl, ⟨_, hatr.out, fun y hy => by cases hy; rfl⟩, hgr.out⟩
            | cons k' n' ks r' =>
              have hlt : j < f.len := by have := hj.out; simp [Fo.len] at this; omega
              obtain ⟨b, o, rfl, hbB, hf0⟩ := hsl.some (by omega)
              obtain ⟨e0, e1, ⟨a', cap', e2, hsl'⟩, hrest⟩ := ((hin.out b o rfl).only hgr.out hB (by omega) hbB).first
              have hks : ks.size < s := by have := hrs.out; simp [Fo.size] at this; omega
              have HC := Lib.hid (cAll_cons p m k' n' ks r' (d - 1) q)
              have hd1 : (d : Int) - 1 = ((d - 1 : Nat) : Int) := by omega
              have HD := Lib.hid hd1
              clear hd1
              have hcl := Lib.hid (cAll_le p m ks (d - 1 - 1) (q - 1))
              go_wp2_with fail
              rw [HD.out]
              refine (IH.out ks hks _ _ (d - 1) q _ _ B C r _ (hsl'.only (Only.alloc _ C _) hB (Nat.le_of_lt hatr.out.facts.2.2.2.2.2)) hB (by omega) hq (hatr.out.alloc _)).mono ?_
              rintro e w2 ⟨he, ⟨l, hat2, hl⟩, hg2⟩
              have hg' := Lib.hid (Only.after (Only.after hgr.out (Only.alloc _ _ _)) hg2)
              have HAT := Lib.hid hat2
              have HN : Hid (∀ x, cNode p m k' n' ks (d - 1) q = some x → x ≤ q) := Lib.hid (fun x hx => by
                unfold cNode at hx
                split at hx
                · cases hx
                · have := cAll_le _ _ _ _ _ _ hx; omega)
              clear hg2 hat2
              generalize cNode p m k' n' ks (d - 1) q = x at HC he hl HN
              cases x with
              | none =>
                have he' : e = .returned (.bool false) := he
                subst he'
                clear he
                go_wp2_with fail
                go_ret
                have hx : cNode p m k n f d left = none := by rw [HV'.out, if_pos trivial, ← hall.out, HC.out]
                rw [hx]
                exact ⟨rfl, ⟨_, HAT.out, fun y hy => by cases hy⟩, hg'.out⟩
              | some x =>
                have he' : e = .returned (.bool true) := he
                subst he'
                have hx := HN.out x rfl
                obtain rfl := hl x rfl
                clear he hl
                go_wp2_with fail
                go_roundw
                case rel => exact ⟨j + 1, r', x, by go_num, by omega, Lib.hid (by have := hj.out; simp [Fo.len] at this; omega), Lib.hid (by have := hrs.out; simp [Fo.size] at this; omega), Lib.hid (by rintro b' o' h; cases h; have := (hin.out b o rfl).2.2.2; rwa [show o + (j + 1) * 3 = o + j * 3 + 3 by omega]), Lib.hid (by rw [← hall.out, HC.out]), HAT, hg'⟩
                case measure => simp [intOf]; omega
end Go.Proofs.Ythnkoamabfaioaa
/- The contracts of right and Right: whether a level is right, for all numbers of parameters and unknowns. -/
namespace Go.Proofs.Ythnkoamabfaioaa
open Go.RowKit

theorem rightB_c {p m : Int} (k n : Int) (f : Fo) (h : 0 ≤ p ∧ p ≤ 5 ∧ 0 ≤ m ∧ m ≤ 10) : rightB p m k n f = (cNode p m k n f 12 100).isSome := by
  unfold rightB cNode
  rw [decide_eq_true h, rNode_fits p m k n f.len 12 _ (by omega) (fun h => rAll_nil_of p m f _ (by omega))]
  cases hf : fitsB p m k n f.len with
  | false => simp
  | true =>
    rw [if_neg (by simp), cAll_eq]
    by_cases h1 : rAll p m f 11 = true
    · by_cases h2 : f.size + 1 ≤ 100
      · rw [if_pos ⟨h1, by omega⟩, decide_eq_true h2, h1]; rfl
      · rw [if_neg (by rintro ⟨_, h3⟩; omega), decide_eq_false h2]; rfl
    · rw [if_neg (by rintro ⟨h3, _⟩; exact h1 h3)]
      simp [h1]
theorem rightB_out {p m : Int} (k n : Int) (ks : Fo) (h : ¬ (0 ≤ p ∧ p ≤ 5 ∧ 0 ≤ m ∧ m ≤ 10)) : rightB p m k n ks = false := by
  unfold rightB; rw [decide_eq_false h]; rfl
theorem Only.new {w w' : World} {C : Nat} (h : w.grownBy w' (some C)) (hC : w.heap.size ≤ C) : Below w.heap.size w w' :=
  ⟨h.os, h.tape, h.output, h.size, fun i hi => Only.block h hi (by omega)⟩

set_option maxRecDepth 100000 in
set_option maxHeartbeats 2000000 in
theorem right_any (p m k n : Int) (f : Fo) (a : Option Addr) (cap B r : Nat) (w : World) (hsl : SlIn w (· < B) f a cap) (hB : B ≤ w.heap.size) (hm : w.heap[r]? = some (.map kTab 6)) :
    Calls Try.prog 82 #[.map (some r), .agg #[.int .i64 k, .int .i64 n, .slice a f.len cap], .int .i64 p, .int .i64 m] w fun e w' => e = .returned (.bool (rightB p m k n f)) ∧ Below w.heap.size w w' := by
  have hr := lt_of_block hm
  have HM := Lib.hid hm
  clear hm
  by_cases h1 : p < 0
  · rw [rightB_out k n f (by omega)]
    go_enter Try.func82, Try.ntmps82
    go_wp2_with fail
    go_ret
    exact ⟨rfl, (Below.refl _ _).alloc (Nat.le_refl _) _⟩
  · by_cases h2 : 5 < p
    · rw [rightB_out k n f (by omega)]
      go_enter Try.func82, Try.ntmps82
      go_wp2_with fail
      go_ret
      exact ⟨rfl, (Below.refl _ _).alloc (Nat.le_refl _) _⟩
    · by_cases h3 : m < 0
      · rw [rightB_out k n f (by omega)]
        go_enter Try.func82, Try.ntmps82
        go_wp2_with fail
        go_ret
        exact ⟨rfl, (Below.refl _ _).alloc (Nat.le_refl _) _⟩
      · by_cases h4 : 10 < m
        · rw [rightB_out k n f (by omega)]
          go_enter Try.func82, Try.ntmps82
          go_wp2_with fail
          go_ret
          exact ⟨rfl, (Below.refl _ _).alloc (Nat.le_refl _) _⟩
        · rw [rightB_c k n f (by omega)]
          go_enter Try.func82, Try.ntmps82
          go_wp2_with fail
          have hb : Below w.heap.size w ((w.alloc (.cells #[.int .i64 k, .int .i64 n, .slice a f.len cap] 33)).alloc (.cells #[.map (some r), .int .i64 p, .int .i64 m, .int .i64 100] 125)) := ((Below.refl _ _).alloc (Nat.le_refl _) _).alloc (by simp) _
          have hat : ChkAt ((w.alloc (.cells #[.int .i64 k, .int .i64 n, .slice a f.len cap] 33)).alloc (.cells #[.map (some r), .int .i64 p, .int .i64 m, .int .i64 100] 125)) (w.heap.size + 1) r p m ((100 : Nat) : Int) :=
            ⟨by have := heap_new (w.alloc (.cells #[.int .i64 k, .int .i64 n, .slice a f.len cap] 33)) (.cells #[.map (some r), .int .i64 p, .int .i64 m, .int .i64 100] 125); simpa using this, (hb.block r hr).trans HM.out, by omega⟩
          refine (cright_any p m (f.size + 1) f (Nat.lt_succ_self _) k n 12 100 a cap B (w.heap.size + 1) r _ (hsl.below (hb.mono hB)) (by omega) (by omega) (by omega) hat).mono ?_
          rintro e w2 ⟨rfl, _, hg⟩
          have hg' := Lib.hid hg
          go_wp2_with fail
          go_ret
          exact ⟨rfl, ((hb.trans (Below.mk hg.os hg.tape hg.output hg.size (fun i hi => Only.block hg (by simp; omega) (by omega)))))⟩
set_option maxRecDepth 100000 in
set_option maxHeartbeats 2000000 in
theorem Right_any (p m k n : Int) (f : Fo) (a : Option Addr) (cap B : Nat) (w : World) (hsl : SlIn w (· < B) f a cap) (hB : B ≤ w.heap.size) :
    Calls Try.prog 72 #[.agg #[.int .i64 k, .int .i64 n, .slice a f.len cap], .int .i64 p, .int .i64 m] w fun e w' => e = .returned (.bool (rightB p m k n f)) ∧ Below w.heap.size w w' := by
  generalize hv : rightB p m k n f = v
  have HR : Hid (∀ (W : World) (r : Nat), SlIn W (· < B) f a cap → B ≤ W.heap.size → W.heap[r]? = some (.map kTab 6) → Calls Try.prog 82 #[.map (some r), .agg #[.int .i64 k, .int .i64 n, .slice a f.len cap], .int .i64 p, .int .i64 m] W fun e w' => e = .returned (.bool v) ∧ Below W.heap.size W w') := Lib.hid (fun W r h1 h2 h3 => by rw [← hv]; exact right_any p m k n f a cap B r W h1 h2 h3)
  clear hv
  go_enter Try.func72, Try.ntmps72
  go_wp2_with fail
  go_region_with (first | (go_at_call 83; refine (kinds_any _).mono ?_; rintro e w' ⟨rfl, rfl⟩) | (go_at_call 82; refine (HR.out _ _ (by exact hsl.below (((Below.refl _ _).alloc hB _).alloc (by simp; omega) _).drew) (by simp; omega) (by exact heap_second _ _ _)).mono ?_; rintro e w2 ⟨rfl, hb2⟩))
  all_goals go_wp2_with fail
  all_goals go_ret
  all_goals exact ⟨rfl, Below.step ((((Below.refl _ _).alloc (Nat.le_refl _) _).alloc (by simp) _).drew) hb2 (Nat.le_refl _)⟩
end Go.Proofs.Ythnkoamabfaioaa
/- The contracts of appendNumber, appendLevel and Put: a level's bytes behind those that are there already; a right level's bytes, or the refusal. -/
namespace Go.Proofs.Ythnkoamabfaioaa
open Go.RowKit

/-- The cells of bytes. -/
def u8s (l : List Int) : List Value := l.map (Value.int .u8)
def InU8 (l : List Int) : Prop := ∀ x ∈ l, 0 ≤ x ∧ x < 256
theorem strCells_nums {l : List Int} (h : InU8 l) : Lib.strCells (strOfNums l) = u8s l := by
  rw [strOfNums_eq]
  unfold Lib.strCells u8s bys
  simp only [List.map_map]
  apply List.map_congr_left
  intro x hx
  have := h x hx
  have e : (UInt8.ofNat x.toNat).toNat = x.toNat := ofNat_toNat (by omega)
  simp only [Function.comp, e]
  rw [show ((x.toNat : Nat) : Int) = x by omega]
theorem enc_in : ∀ n : Nat, InU8 (enc n) := by
  intro n
  induction n using Nat.strongRecOn with
  | _ n ih =>
    intro x hx
    by_cases h : n < 128
    · rw [enc_small h] at hx
      simp at hx; omega
    · rw [enc_more h] at hx
      rcases List.mem_cons.1 hx with rfl | hx
      · omega
      · exact ih (n / 128) (by omega) x hx
theorem u8s_len (l : List Int) : (u8s l).length = l.length := by simp [u8s]
theorem u8s_append (a b : List Int) : u8s (a ++ b) = u8s a ++ u8s b := by simp [u8s]

/-- The new slice lies where the old one did, or in a new block. -/
def Near (w : World) (v v' : Value) : Prop := v'.ownBlock = v.ownBlock ∨ ∀ k, v'.ownBlock = some k → w.heap.size ≤ k
theorem Near.trans {w w1 : World} {v v1 v2 : Value} (h : Near w v v1) (hz : w.heap.size ≤ w1.heap.size) (k : Near w1 v1 v2) : Near w v v2 := by
  rcases k with k | k
  · rcases h with h | h
    · exact .inl (k.trans h)
    · exact .inr (fun x hx => h x (k ▸ hx))
  · exact .inr (fun x hx => Nat.le_trans hz (k x hx))
theorem grown_trans {w w1 w2 : World} {v v1 : Value} (h : w.grownBy w1 v.ownBlock) (hn : Near w v v1) (k : w1.grownBy w2 v1.ownBlock) : w.grownBy w2 v.ownBlock :=
  ⟨k.os.trans h.os, k.tape.trans h.tape, k.output.trans h.output, Nat.le_trans h.size k.size, fun i hi hne => (k.block i (Nat.lt_of_lt_of_le hi h.size) (by
    rcases hn with hn | hn
    · rw [hn]; exact hne
    · intro e
      have := hn i e.symm
      omega)).trans (h.block i hi hne)⟩
theorem grown_below {w w1 : World} {row : Option Nat} (h : Below w.heap.size w w1) : w.grownBy w1 row := ⟨h.os, h.tape, h.output, h.size, fun i hi _ => h.block i hi⟩
theorem grown_after {w w1 w2 : World} {row : Option Nat} (h : w.grownBy w1 row) (k : w1.grownBy w2 row) : w.grownBy w2 row :=
  ⟨k.os.trans h.os, k.tape.trans h.tape, k.output.trans h.output, Nat.le_trans h.size k.size, fun i hi hne => (k.block i (Nat.lt_of_lt_of_le hi h.size) hne).trans (h.block i hi hne)⟩

/-- THE APPEND of a string behind a row of the call's own: it runs, and where the new row lies. -/
theorem append_str {w : World} {base n : Nat} {v : Value} {xs : List Value} (ty : TypeId) (hown : w.ownsRow base 5 1 v n xs) (s : ByteArray) (hz : n + s.size ≤ 10000000) (hbase : base ≤ w.heap.size) :
    ∃ v' w', (Builtin.append_ #[24, 9] ty #[v, .string s]).run Try.prog w = .ok v' w' ∧ w'.ownsRow base 5 1 v' (n + s.size) (xs ++ Lib.strCells s) ∧ w.grownBy w' v.ownBlock ∧ Near w v v' := by
  obtain ⟨i0, hi, hz0, hz1, hz2⟩ := info_parts infoU8
  obtain ⟨v', w', h1, h2, h3, _⟩ := Lib.run_append_own_string (P := Try.prog) w base 24 9 ty 5 i0 Try.underlying24 Try.underlying9 hi hz0 hz1 hz2 v n xs hown s (by unfold maxLen; omega) (by omega) hbase
  refine ⟨v', w', h1, h2, h3, ?_⟩
  rcases hown.2 with ⟨rfl, rfl⟩ | ⟨g, cap, cur, rfl, hbg, hg, hnc, hcm, hcs, htake⟩
  · have hxs : xs = [] := List.eq_nil_of_length_eq_zero (by simpa using hown.1)
    subst hxs
    obtain ⟨v2, w2, k1, k2, _, _⟩ := Lib.run_append_own_string (P := Try.prog) w w.heap.size 24 9 ty 5 i0 Try.underlying24 Try.underlying9 hi hz0 hz1 hz2 _ 0 [] (World.ownsRow_nil w _ _ _) s (by unfold maxLen; omega) (by omega) (Nat.le_refl _)
    rw [k1] at h1
    injection h1 with h1 _
    subst h1
    exact .inr (fun k hk => (k2.lt k hk).1)
  · by_cases hroom : n + s.size ≤ cap
    · have hcs' : cur.size = cap := by simpa using hcs
      have hr := Lib.run_append_room_string (P := Try.prog) w 24 9 ty 5 i0 Try.underlying24 Try.underlying9 hi hz1 g n cap cur hg s hroom (by omega)
      rw [hr] at h1
      injection h1 with h1 _
      subst h1
      exact .inl rfl
    · have hxl : xs.length = n := by simpa using hown.1
      have holds : ∀ j u, xs[j]? = some u → w.cell? ((⟨g, 0, none⟩ : Addr).add j) = some u := hown.cells (g := g) rfl
      have hr := Lib.run_append_grow_string (P := Try.prog) w 24 9 ty 5 i0 (.int .u8 0) Try.underlying24 Try.underlying9 hi hz0 ⟨g, 0, none⟩ n cap xs (by rw [hz1]; simpa using hxl) holds s (by omega) (by omega) (by rw [hz2]; exact growslice_fits (by omega) (by omega))
      rw [hr] at h1
      injection h1 with h1 _
      subst h1
      exact .inr (fun k hk => by simp [Value.ownBlock] at hk; omega)

/-- An append of a string in a plain region, by what it comes to. -/
theorem wpList_append2_run {P : Program} {ops : Array Oper} {rest : List Oper} {o : Oper} {a : Act} {w w' : World} {Q : Exit → Act → World → Prop} {v y v' : Value} (hgd : o.guard = none) (s x : Operand) (t u : TypeId)
    (ho : o.op = .call { callee := .builtin .append, args := #[s, x], argTypes := #[t, u] }) (hs : a.eval s = v) (hx : a.eval x = y) (hrun : (Builtin.append_ #[t, u] o.type #[v, y]).run P w = .ok v' w') (h : wpList P ops Q rest (a.put o.dst v') w') :
    wpList P ops Q (o :: rest) a w := by
  refine wpList_plain hgd fun K hK => ?_
  unfold Oper.wp execOp
  simp only [ho, resolve, invoke, builtin, Sem.run_bind, Sem.run_pure, Result.andThen_ok, List.map_toArray, List.map_cons, List.map_nil, hs, hx, hrun]
  exact hK _ _ h

/-- What an append of bytes answers. -/
def ApOk (w : World) (base : Nat) (v : Value) (pre l : List Int) (e : Ending) (w' : World) : Prop :=
  ∃ v', e = .returned v' ∧ w'.ownsRow base 5 1 v' (pre ++ l).length (u8s (pre ++ l)) ∧ w.grownBy w' v.ownBlock ∧ Near w v v'
theorem owns_kept {w w' : World} {base : Nat} {v : Value} {pre : List Int} (h : w.ownsRow base 5 1 v pre.length (u8s pre)) (hb : Below w.heap.size w w') : w'.ownsRow base 5 1 v pre.length (u8s pre) := by
  cases hv : v.ownBlock with
  | none => exact h.kept (row := none) (grown_below hb) (.inl hv)
  | some k => exact h.kept (row := none) (grown_below hb) (.inr (by rw [hv]; simp))

set_option maxRecDepth 100000 in
set_option maxHeartbeats 1000000 in
theorem appNum_any (N : Nat) (hN : N ≤ 1099511627776) (base : Nat) (v : Value) (pre : List Int) (w : World) (hown : w.ownsRow base 5 1 v pre.length (u8s pre)) (hbase : base ≤ w.heap.size) (hl : pre.length ≤ 1000000) :
    Calls Try.prog 84 #[v, .int .i64 N] w (ApOk w base v pre (enc N)) := by
  go_enter Try.func84, Try.ntmps84
  go_wp2_with fail
  refine (put_any N hN _).mono ?_
  rintro e w1 ⟨rfl, hb1⟩
  have hsz := enc_len6 hN
  obtain ⟨v', w2, hr, h2, h3, h4⟩ := append_str 24 (owns_kept hown hb1) (strOfNums (enc N)) (by rw [strOfNums_size]; omega) (Nat.le_trans hbase hb1.size)
  have HR := Lib.hid hr
  rw [strOfNums_size, strCells_nums (enc_in N), ← u8s_append, ← List.length_append] at h2
  have HE : Hid (ApOk w base v pre (enc N) (.returned v') w2) := Lib.hid ⟨v', rfl, h2, grown_after (grown_below hb1) h3, by
    rcases h4 with h4 | h4
    · exact .inl h4
    · exact .inr (fun k hk => Nat.le_trans hb1.size (h4 k hk))⟩
  clear hr h2 h3 h4
  go_wp2_with (at_builtin; refine wpList_append2_run (by rfl) _ _ _ _ (by rfl) (by rfl) (by rfl) HR.out ?_)
  go_ret
  exact HE.out
end Go.Proofs.Ythnkoamabfaioaa
/- The contracts of appendLevel and Put: a level's bytes behind those that are there already; a right level's bytes, or the refusal. -/
namespace Go.Proofs.Ythnkoamabfaioaa
open Go.RowKit

/-- All numbers of the levels are small. -/
def SmF : Fo → Prop
  | .nil => True
  | .cons k n ks r => (0 ≤ k ∧ k ≤ 6 ∧ 0 ≤ n ∧ n ≤ 9) ∧ SmF ks ∧ SmF r
theorem SmF.app : ∀ {f g : Fo}, SmF (f.app g) → SmF f ∧ SmF g
  | .nil, _, h => ⟨trivial, h⟩
  | .cons .., _, h => ⟨⟨h.1, h.2.1, (SmF.app h.2.2).1⟩, (SmF.app h.2.2).2⟩
theorem smF_of : ∀ (F : Fo) (d : Int), rAll 5 10 F d = true → SmF F
  | .nil, _, _ => trivial
  | .cons k n ks r, d, h => by
    simp only [rAll, Bool.and_eq_true] at h
    have hc := rNode_cases h.1
    have hks : SmF ks := by
      rcases hc.2 with ⟨_, _, hl⟩ | ⟨_, _, _, hs⟩ | ⟨_, _, _, hs⟩ | ⟨_, _, _, hl⟩ | ⟨_, _, _, hl⟩
      · rw [Fo.len_zero hl]; trivial
      · exact smF_of ks _ hs
      · exact smF_of ks _ hs
      · rw [Fo.len_zero hl]; trivial
      · rw [Fo.len_zero hl]; trivial
    exact ⟨by omega, hks, smF_of r d h.2⟩
theorem encH_len {k n : Int} (h : 0 ≤ k ∧ k ≤ 6 ∧ 0 ≤ n ∧ n ≤ 9) : (encH k n).length ≤ 2 ∧ 1 ≤ (encH k n).length := by
  unfold encH
  rw [enc_small (by omega)]
  split
  · rw [enc_small (by omega)]; simp
  · simp
theorem encF_len : ∀ (F : Fo), SmF F → (encF F).length ≤ 2 * F.size
  | .nil, _ => by simp [encF]
  | .cons k n ks r, h => by
    have h1 := encH_len h.1
    have h2 := encF_len ks h.2.1
    have h3 := encF_len r h.2.2
    simp only [encF, List.length_append, Fo.size]; omega
theorem row_low {w : World} {base n : Nat} {e : TypeId} {v : Value} {xs : List Value} (h : w.ownsRow base e 1 v n xs) {b : Nat} (hb : b < base) : some b ≠ v.ownBlock := fun e1 => by
  have := (h.lt b e1.symm).1
  omega
theorem row_new {w : World} {base n : Nat} {e : TypeId} {v : Value} {xs : List Value} (h : w.ownsRow base e 1 v n xs) : some w.heap.size ≠ v.ownBlock := fun e1 => by
  have := (h.lt w.heap.size e1.symm).2
  omega
theorem owns_alloc {w : World} {base : Nat} {v : Value} {pre : List Int} (h : w.ownsRow base 5 1 v pre.length (u8s pre)) (o : Obj) : (w.alloc o).ownsRow base 5 1 v pre.length (u8s pre) := h.alloc o
theorem grown_alloc {w w' : World} {row : Option Nat} {o : Obj} (h : (w.alloc o).grownBy w' row) : w.grownBy w' row := grown_after (grown_below ((Below.refl _ _).alloc (Nat.le_refl _) o)) h
theorem Near.alloc {w : World} {o : Obj} {v v' : Value} (h : Near (w.alloc o) v v') : Near w v v' := by
  rcases h with h | h
  · exact .inl h
  · exact .inr (fun k hk => by have := h k hk; simp at this; omega)
/-- What stands in slots while the Kids are gone through. -/
def ApR (w : World) (base : Nat) (v : Value) (pre : List Int) (B : Nat) (F : Fo) (x : Option Addr) (o : Value) (j : Nat) (rr : Fo) (wr : World) : Prop :=
  ∃ done : Fo, done.app rr = F ∧ done.len = j ∧ wr.ownsRow base 5 1 o (pre ++ encF done).length (u8s (pre ++ encF done)) ∧ w.grownBy wr v.ownBlock ∧ Near w v o ∧ (∀ b i, x = some ⟨b, i, none⟩ → FoIn w (· < B) rr b (i + j * 3))
theorem ApR.end {w : World} {base : Nat} {v : Value} {pre h : List Int} {B : Nat} {F : Fo} {x : Option Addr} {o : Value} {j : Nat} {wr : World} (hr : ApR w base v (pre ++ h) B F x o j .nil wr) : ApOk w base v pre (h ++ encF F) (.returned o) wr := by
  obtain ⟨done, h1, _, h3, h4, h5, _⟩ := hr
  rw [Fo.app_nil] at h1
  subst h1
  rw [List.append_assoc] at h3
  exact ⟨o, rfl, h3, h4, h5⟩
theorem ApR.next {w : World} {base : Nat} {v : Value} {pre : List Int} {B : Nat} {F : Fo} {x : Option Addr} {o : Value} {j : Nat} {k n : Int} {ks r : Fo} {wr w2 : World} {ob : Obj} {v' : Value} (hr : ApR w base v pre B F x o j (.cons k n ks r) wr) {p2 : List Int}
    (hp : ∀ done : Fo, done.app (.cons k n ks r) = F → p2 = pre ++ encF done) (h : ApOk (wr.alloc ob) base o p2 (encL k n ks) (.returned v') w2) : ApR w base v pre B F x v' (j + 1) r w2 := by
  obtain ⟨done, h1, h2, h3, h4, h5, h6⟩ := hr
  obtain ⟨v2, e, g1, g2, g3⟩ := h
  injection e with e
  subst e
  have hp' := hp done h1
  subst hp'
  refine ⟨done.app (.cons k n ks .nil), by rw [Fo.app_assoc]; exact h1, by rw [Fo.app_len, h2]; rfl, by rw [encF_app, encF_one, ← List.append_assoc]; exact g1, ?_, ?_, ?_⟩
  · exact grown_trans h4 h5 (grown_alloc g2)
  · exact Near.trans h5 h4.size g3.alloc
  · rintro b i rfl
    have := (h6 b i rfl).2.2.2
    rwa [show i + (j + 1) * 3 = i + j * 3 + 3 by omega]
theorem low_keep {w wr : World} {base n B : Nat} {e : TypeId} {v : Value} {xs : List Value} (h : w.ownsRow base e 1 v n xs) (hg : w.grownBy wr v.ownBlock) (hB : B ≤ base) (hbase : base ≤ w.heap.size) : ∀ b, b < B → wr.heap[b]? = w.heap[b]? :=
  fun b hb => hg.block b (by omega) (row_low h (by omega))

theorem appNum_int (k : Int) (h0 : 0 ≤ k) (h1 : k ≤ 1000) (base : Nat) (v : Value) (pre : List Int) (w : World) (hown : w.ownsRow base 5 1 v pre.length (u8s pre)) (hbase : base ≤ w.heap.size) (hl : pre.length ≤ 1000000) :
    Calls Try.prog 84 #[v, .int .i64 k] w (ApOk w base v pre (enc k.toNat)) := by
  have := appNum_any k.toNat (by omega) base v pre w hown hbase hl
  rwa [show ((k.toNat : Nat) : Int) = k by omega] at this

set_option maxRecDepth 100000 in
set_option maxHeartbeats 4000000 in
theorem appLevel_any (s : Nat) : ∀ (F : Fo), F.size < s → ∀ (k n : Int) (x : Option Addr) (c B base : Nat) (v : Value) (pre : List Int) (w : World), SlIn w (· < B) F x c → B ≤ base → base ≤ w.heap.size → w.ownsRow base 5 1 v pre.length (u8s pre) →
    SmF (.cons k n F .nil) → (pre ++ encL k n F).length ≤ 100000 →
    Calls Try.prog 73 #[v, .agg #[.int .i64 k, .int .i64 n, .slice x F.len c]] w (ApOk w base v pre (encL k n F)) := by
  induction s with
  | zero => intro f hs; omega
  | succ s ih =>
    intro F hs k n x c B base v pre w hsl hB hbase hown hsm hpl
    have IH := Lib.hid ih
    clear ih
    have hlen := hsl.len
    have HSM := Lib.hid hsm
    obtain ⟨⟨hk0, hk6, hn0, hn9⟩, _, _⟩ := hsm
    have HPL := Lib.hid hpl
    have hpre : pre.length ≤ 100000 := by simp only [List.length_append] at hpl; omega
    have hpre2 : (pre ++ enc k.toNat).length ≤ 100010 := by
      have := enc_len6 (n := k.toNat) (by omega)
      simp only [List.length_append]; omega
    have HOWN := Lib.hid hown
    have HNW := Lib.hid (row_new hown)
    -- the head: the Kind, and perhaps the N
    have hcase : (k = 5 ∨ k = 6) ∨ ((k == 5) = false ∧ (k == 6) = false) := by
      by_cases h : k = 5 ∨ k = 6
      · exact .inl h
      · exact .inr ⟨beq_eq_false_iff_ne.2 (by omega), beq_eq_false_iff_ne.2 (by omega)⟩
    clear hpl hown
    have HB0 := Lib.hid (heap_new w (.cells #[.int .i64 k, .int .i64 n, .slice x F.len c] 33))
    have HKEY : Hid (∀ (v1 : Value) (w1 : World), ApOk (w.alloc (.cells #[.int .i64 k, .int .i64 n, .slice x F.len c] 33)) base v pre (encH k n) (.returned v1) w1 →
        w1.cell? ⟨w.heap.size, 2, none⟩ = some (.slice x F.len c) ∧ ApR w base v (pre ++ encH k n) B F x v1 0 F w1) := Lib.hid (by
      rintro v1 w1 ⟨v', e, g1, g2, g3⟩
      injection e with e
      subst e
      refine ⟨?_, .nil, rfl, rfl, by simpa [encF] using g1, grown_alloc g2, g3.alloc, ?_⟩
      · have := (g2.block w.heap.size (by simp) HNW.out).trans HB0.out
        exact cell_at this 2
      · rintro b i rfl
        simpa using hsl.foIn)
    have L : Hid (∀ (v1 : Value) (w1 : World), ApOk (w.alloc (.cells #[.int .i64 k, .int .i64 n, .slice x F.len c] 33)) base v pre (enc k.toNat) (.returned v1) w1 →
        w1.cell? ⟨w.heap.size, 0, none⟩ = some (.int .i64 k) ∧ w1.cell? ⟨w.heap.size, 1, none⟩ = some (.int .i64 n) ∧ w1.cell? ⟨w.heap.size, 2, none⟩ = some (.slice x F.len c) ∧ w1.ownsRow base 5 1 v1 (pre ++ enc k.toNat).length (u8s (pre ++ enc k.toNat)) ∧ base ≤ w1.heap.size) := Lib.hid (by
      rintro v1 w1 ⟨v', e, g1, g2, g3⟩
      injection e with e
      subst e
      have hb := (g2.block w.heap.size (by simp) HNW.out).trans HB0.out
      exact ⟨cell_at hb 0, cell_at hb 1, cell_at hb 2, g1, by have := g2.size; simp at this; omega⟩)
    have hways : (Hid (encH k n = enc k.toNat ++ enc n.toNat) ∧ ((k == 5) = true ∨ (k == 5) = false ∧ (k == 6) = true)) ∨ (Hid (encH k n = enc k.toNat) ∧ (k == 5) = false ∧ (k == 6) = false) := by
      rcases hcase with hc | ⟨q5, q6⟩
      · refine .inl ⟨Lib.hid (by unfold encH; rw [if_pos hc]), ?_⟩
        rcases hc with h | h
        · exact .inl (beq_iff_eq.2 h)
        · exact .inr ⟨beq_eq_false_iff_ne.2 (by omega), beq_iff_eq.2 h⟩
      · have h5 := beq_eq_false_iff_ne.1 q5
        have h6 := beq_eq_false_iff_ne.1 q6
        exact .inr ⟨Lib.hid (by unfold encH; rw [if_neg (by omega), List.append_nil]), q5, q6⟩
    clear hcase
    go_enter Try.func73, Try.ntmps73
    go_wp2_with fail
    refine (appNum_int k hk0 (by omega) base v pre _ (owns_alloc HOWN.out _) (by simp; omega) (by omega)).mono ?_
    rintro e w1 h1
    obtain ⟨v1, rfl, _⟩ := id h1
    obtain ⟨c0, c1, c2, o1, z1⟩ := L.out v1 w1 h1
    have H1 := Lib.hid h1
    have O1 := Lib.hid o1
    clear h1 o1 L
    rcases hways with ⟨HH, q5 | ⟨q5, q6⟩⟩ | ⟨HH, q5, q6⟩
    case' inl.inl =>
      go_wp2_with fail
      refine (appNum_int n hn0 (by omega) base v1 _ _ O1.out z1 (by omega)).mono ?_
      rintro e wS ⟨vS, rfl, k1, k2, k3⟩
      have HS : Hid (wS.cell? ⟨w.heap.size, 2, none⟩ = some (.slice x F.len c) ∧ ApR w base v (pre ++ encH k n) B F x vS 0 F wS) := Lib.hid (HKEY.out vS wS (by
        obtain ⟨v', e, g1, g2, g3⟩ := H1.out
        injection e with e
        subst e
        rw [HH.out]
        exact ⟨vS, rfl, by rw [← List.append_assoc]; exact k1, grown_trans g2 g3 k2, Near.trans g3 g2.size k3⟩))
      clear k1 k2 k3 H1 O1 HKEY c0 c1 c2
      have b2 := HS.out.1
      go_wp2_with fail
    case' inl.inr =>
      go_wp2_with fail
      refine (appNum_int n hn0 (by omega) base v1 _ _ O1.out z1 (by omega)).mono ?_
      rintro e wS ⟨vS, rfl, k1, k2, k3⟩
      have HS : Hid (wS.cell? ⟨w.heap.size, 2, none⟩ = some (.slice x F.len c) ∧ ApR w base v (pre ++ encH k n) B F x vS 0 F wS) := Lib.hid (HKEY.out vS wS (by
        obtain ⟨v', e, g1, g2, g3⟩ := H1.out
        injection e with e
        subst e
        rw [HH.out]
        exact ⟨vS, rfl, by rw [← List.append_assoc]; exact k1, grown_trans g2 g3 k2, Near.trans g3 g2.size k3⟩))
      clear k1 k2 k3 H1 O1 HKEY c0 c1 c2
      have b2 := HS.out.1
      go_wp2_with fail
    case' inr =>
      have HS : Hid (w1.cell? ⟨w.heap.size, 2, none⟩ = some (.slice x F.len c) ∧ ApR w base v (pre ++ encH k n) B F x v1 0 F w1) := Lib.hid (HKEY.out v1 w1 (by rw [HH.out]; exact H1.out))
      clear H1 O1 HKEY
      obtain ⟨vS, rfl⟩ : ∃ u, u = v1 := ⟨v1, rfl⟩
      obtain ⟨wS, rfl⟩ : ∃ u, u = w1 := ⟨w1, rfl⟩
      go_wp2_with fail
    all_goals
      go_loopw [0, 26] (fun o i wr => ∃ (j : Nat) (rr : Fo) (u : Value), u = o ∧ i = .int .i64 j ∧ Hid (j + rr.len = F.len) ∧ Hid (ApR w base v (pre ++ encH k n) B F x u j rr wr)) (fun _ i _ => F.len - (intOf i).toNat)
      case atStart => exact ⟨0, F, _, rfl, rfl, Lib.hid (by omega), Lib.hid HS.out.2⟩
      case round =>
        obtain ⟨j, rr, u, hou, rfl, hj, hR⟩ := hrel
        subst hou
        cases rr with
        | nil =>
          have hlt : ¬ (j : Int) < (F.len : Int) := by have := hj.out; simp [Fo.len] at this; omega
          have d' : decide ((j : Int) < (F.len : Int)) = false := by simpa using hlt
          go_wp2_with fail
          go_ret
          exact hR.out.end
        | cons k' n' ks r' =>
          have hlt : j < F.len := by have := hj.out; simp [Fo.len] at this; omega
          obtain ⟨b, o, rfl, hbB, hf0⟩ := hsl.some (by omega)
          have hR0 := hR.out
          obtain ⟨done, r1, r2, r3, r4, r5, r6⟩ := hR0
          have hkeep := low_keep HOWN.out r4 hB hbase
          obtain ⟨e0, e1, ⟨a', cap', e2, hsl'⟩, _⟩ := (FoIn.keep hkeep _ _ _ hbB (r6 b o rfl)).first
          have hsmd : Hid (SmF (.cons k' n' ks .nil)) := Lib.hid (by
            have h := HSM.out.2.1
            rw [← r1] at h
            have := (SmF.app h).2
            exact ⟨this.1, this.2.1, trivial⟩)
          have hks : Hid (ks.size < s) := Lib.hid (by have := congrArg Fo.size r1; rw [Fo.app_size] at this; simp only [Fo.size] at this; omega)
          have hpl' : Hid (((pre ++ encH k n ++ encF done) ++ encL k' n' ks).length ≤ 100000) := Lib.hid (by
            have h := HPL.out
            rw [encL, ← r1, encF_app] at h
            simp only [encF, encL, List.length_append] at h ⊢
            omega)
          have O3 := Lib.hid r3
          have HZ : Hid (base ≤ wr.heap.size) := Lib.hid (Nat.le_trans hbase r4.size)
          have HUN : Hid (∀ done' : Fo, done'.app (.cons k' n' ks r') = F → pre ++ encH k n ++ encF done = pre ++ encH k n ++ encF done') := Lib.hid (fun done' h' => by
            have h1 : done'.len = done.len := by
              have a := congrArg Fo.len h'
              have b := congrArg Fo.len r1
              rw [Fo.app_len] at a b
              omega
            have := (Fo.app_eq (i := done') (j := done) (g := .cons k' n' ks r') (h := .cons k' n' ks r') h1).1 (h'.trans r1.symm)
            rw [this.1])
          have HSL : Hid (SlIn wr (· < B) ks a' cap') := Lib.hid hsl'
          clear r1 r2 r3 r4 r5 r6 hkeep hsl' hf0
          go_wp2_with fail
          refine (IH.out ks hks.out k' n' a' cap' B base u _ _ (by exact HSL.out.below ((Below.refl _ _).alloc (Nat.le_trans hB HZ.out) _)) hB (by have := HZ.out; simp; omega) (owns_alloc O3.out _) hsmd.out hpl'.out).mono ?_
          rintro e w2 h2
          obtain ⟨v2, rfl, _⟩ := id h2
          have HN := Lib.hid (hR.out.next HUN.out h2)
          clear h2 O3 HSL e0 e1 e2
          go_wp2_with fail
          go_roundw
          case rel => exact ⟨j + 1, r', v2, rfl, by go_num, Lib.hid (by have := hj.out; simp [Fo.len] at this; omega), HN⟩
          case measure => simp [intOf]; omega
end Go.Proofs.Ythnkoamabfaioaa
/- The contract of the document's own Put: for every number from 0 to 2^40 it returns the base-128 bytes, for any other the refusal; it only makes new memory. -/
namespace Go.Proofs.Ythnkoamabfaioaa
open Go.RowKit

/-- A slice of one byte that was just laid, turned into a string. -/
theorem conv1 (x : Int) (wr : World) : (convert 24 9 (.slice (some ⟨wr.heap.size, 0, none⟩) 1 1)).run Try.prog (wr.alloc (.cells #[.int .u8 x] 5)) = .ok (.string (strOfNums [x])) (wr.alloc (.cells #[.int .u8 x] 5)) :=
  run_convert_bytes_arg _ 24 5 Try.underlying24 Try.underlying5 wr.heap.size 0 1 1 [x] rfl (fun i hi => by
    obtain rfl : i = 0 := by omega
    simp) 9 Try.underlying9

theorem add_nums (a b : List Int) (ha : a.length ≤ 1000) (hb : b.length ≤ 1000) (W : World) : (Op.stringOp .add (strOfNums a) (strOfNums b)).run Try.prog W = .ok (.string (strOfNums (a ++ b))) W := by
  rw [run_string_add_sum W _ _ (by rw [strOfNums_size, strOfNums_size]; omega), strOfNums_append]

set_option maxHeartbeats 400000 in
theorem rput_any (n : Nat) (h : n ≤ 1099511627776) (w : World) :
    Calls Try.prog 59 #[.int .i64 n] w fun e w' => e = .returned (.tuple #[.string (strOfNums (enc n)), .int .i64 0]) ∧ Below w.heap.size w w' := by
  have hl := enc_len6 h
  go_enter Try.func59, Try.ntmps59
  go_wp2
  go_loopw [0, 4] (fun m o wr => ∃ (k : Nat) (pre : List Int), k ≤ 1099511627776 ∧ m = .int .i64 k ∧ o = .string (strOfNums pre) ∧ Hid (pre ++ enc k = enc n) ∧ Below w.heap.size w wr) (fun m _ _ => (intOf m).toNat)
  case atStart => exact ⟨n, [], h, rfl, rfl, Lib.hid (by simp), Below.refl _ _⟩
  case round =>
    obtain ⟨k, pre, hk, rfl, rfl, hpre, hb⟩ := hrel
    have hpl : pre.length ≤ 6 := by have := congrArg List.length hpre.out; simp at this; omega
    by_cases hlt : k < 128
    · have hge : ¬ (128 : Int) ≤ (k : Int) := by omega
      have hc := conv1 (k : Int) wr
      have ha := add_nums pre [(k : Int)] (by omega) (by simp)
      go_wp2
      go_ret2
      exact ⟨by rw [← hpre.out, enc_small hlt]; rfl, hb.alloc hb.size _⟩
    · have hge : (128 : Int) ≤ (k : Int) := by omega
      have hc := conv1 (128 + (k : Int) % 128) wr
      have ha := add_nums pre [128 + (k : Int) % 128] (by omega) (by simp)
      go_wp2
      go_roundw
      case rel => exact ⟨k / 128, pre ++ [128 + (k : Int) % 128], by omega, by go_num, rfl, Lib.hid (by rw [← hpre.out, enc_more hlt]; simp; omega), hb.alloc hb.size _⟩
      case measure => simp [intOf]; omega
set_option maxHeartbeats 400000 in
theorem rput_no (n : Int) (h : n < 0 ∨ 1099511627776 < n) (w : World) :
    Calls Try.prog 59 #[.int .i64 n] w fun e w' => e = .returned (.tuple #[.string (strOfNums []), .int .i64 1]) ∧ Below w.heap.size w w' := by
  rcases h with h | h
  · go_enter Try.func59, Try.ntmps59
    go_wp2
    go_ret2
    exact ⟨rfl, Below.refl _ _⟩
  · have h' : ¬ n < 0 := by omega
    go_enter Try.func59, Try.ntmps59
    go_wp2
    go_ret2
    exact ⟨rfl, Below.refl _ _⟩
end Go.Proofs.Ythnkoamabfaioaa
/- The contract of the document's own count of levels. No condition but that the level lies in memory. -/
namespace Go.Proofs.Ythnkoamabfaioaa
open Go.RowKit

set_option maxRecDepth 100000 in
set_option maxHeartbeats 1000000 in
theorem nodes_any (s : Nat) : ∀ (f : Fo), f.size < s → ∀ (k n m : Int) (a : Option Addr) (cap B : Nat) (w : World), SlIn w (· < B) f a cap → B ≤ w.heap.size → 1 ≤ m → m ≤ 2000 →
    Calls Try.prog 12 #[.agg #[.int .i64 k, .int .i64 n, .slice a f.len cap], .int .i64 m] w fun e w' => e = .returned (.int .i64 (nodesF f m 1)) ∧ Below w.heap.size w w' := by
  induction s with
  | zero => intro f hs; omega
  | succ s ih =>
    intro f hs k n m a cap B w hsl hB h1 h2
    have IH := Lib.hid ih
    clear ih
    have hlen := hsl.len
    go_enter Try.func12, Try.ntmps12
    go_wp2_with fail
    go_loopw [5, 6] (fun mm i wr => ∃ (j : Nat) (r : Fo) (q : Int), i = .int .i64 j ∧ mm = .int .i64 q ∧ 1 ≤ q ∧ q ≤ m ∧ Hid (j + r.len = f.len) ∧ Hid (r.size ≤ f.size) ∧
        Hid (∀ b o, a = some ⟨b, o, none⟩ → FoIn w (· < B) r b (o + j * 3)) ∧ Hid (nodesF r m q = nodesF f m 1) ∧ Below (w.heap.size + 1) (w.alloc (.cells #[.int .i64 k, .int .i64 n, .slice a f.len cap] 33)) wr)
      (fun _ i _ => f.len - (intOf i).toNat)
    case atStart => exact ⟨0, f, 1, rfl, rfl, by omega, by omega, Lib.hid (by omega), Lib.hid (Nat.le_refl _), Lib.hid (by rintro b o rfl; simpa using hsl.foIn), Lib.hid rfl, Below.refl _ _⟩
    case round =>
      obtain ⟨j, r, q, rfl, rfl, hq0, hq1, hj, hrs, hin, hfew, hb⟩ := hrel
      have c0 := bcell hb w.heap.size 0 (by omega)
      have c1 := bcell hb w.heap.size 1 (by omega)
      have c2 := bcell hb w.heap.size 2 (by omega)
      simp at c0 c1 c2
      have hwB : Below B w wr := ((Below.refl B w).alloc hB _).trans (hb.mono (by omega))
      cases r with
      | nil =>
        have hlt : ¬ (j : Int) < (f.len : Int) := by have := hj.out; simp [Fo.len] at this; omega
        have d : decide ((j : Int) < (f.len : Int)) = false := by simpa using hlt
        go_wp2_with fail
        go_ret
        exact ⟨by rw [← hfew.out]; rfl, Below.trans ((Below.refl _ _).alloc (Nat.le_refl _) _) (hb.mono (by omega))⟩
      | cons k' n' ks r' =>
        have hlt : j < f.len := by have := hj.out; simp [Fo.len] at this; omega
        by_cases hq : q < m
        · obtain ⟨b, o, rfl, hbB, hf0⟩ := hsl.some (by omega)
          obtain ⟨e0, e1, ⟨a', cap', e2, hsl'⟩, hrest⟩ := (hin.out b o rfl).below hwB _ _ _ hbB |>.first
          have hks : ks.size < s := by have := hrs.out; simp [Fo.size] at this; omega
          have HG := Lib.hid (nodesF_go k' n' ks r' hq)
          have hv := nodesF_eq ks (m - q) 1 (by omega) (by omega)
          have hv1 : 1 ≤ nodesF ks (m - q) 1 := by omega
          have hv2 : q + nodesF ks (m - q) 1 ≤ m := by omega
          clear hv
          go_wp2_with fail
          refine (IH.out ks hks _ _ _ _ _ B _ hsl' (Nat.le_trans hB hwB.size) (by omega) (by omega)).mono ?_
          rintro e w2 ⟨rfl, hb2⟩
          have hb' := Below.step hb hb2 (by simp)
          go_wp2_with fail
          go_roundw
          case rel => exact ⟨j + 1, r', _, by go_num, rfl, by omega, by omega, Lib.hid (by have := hj.out; simp [Fo.len] at this; omega), Lib.hid (by have := hrs.out; simp [Fo.size] at this; omega), Lib.hid (by rintro b' o' h; cases h; have := (hin.out b o rfl).2.2.2; rwa [show o + (j + 1) * 3 = o + j * 3 + 3 by omega]), Lib.hid (by rw [← hfew.out, HG.out]), hb'⟩
          case measure => simp [intOf]; omega
        · have HE := Lib.hid (nodesF_stop k' n' ks r' hq)
          have d : decide (q < m) = false := by simpa using hq
          have d' : decide ((j : Int) < (f.len : Int)) = true := by simp; omega
          go_wp2_with fail
          go_ret
          exact ⟨by rw [← hfew.out, HE.out]; rfl, Below.trans ((Below.refl _ _).alloc (Nat.le_refl _) _) (hb.mono (by omega))⟩
end Go.Proofs.Ythnkoamabfaioaa
/- The contracts of the document's own test whether a level may be. No condition but that the level lies in memory. -/
namespace Go.Proofs.Ythnkoamabfaioaa
open Go.RowKit

set_option maxHeartbeats 1000000 in
theorem rkids_any (k : Int) (w : World) : Calls Try.prog 85 #[.int .i64 k] w fun e w' => e = .returned (.int .i64 (kidsOf k)) ∧ w' = w := by
  by_cases hk : k < 1 ∨ 6 < k
  · have e : kidsOf k = -1 := by unfold kidsOf; rw [if_neg (by omega), if_neg (by omega), if_neg (by omega)]
    have HE := Lib.hid e
    clear e
    have n1 : (k == 1) = false := beq_eq_false_iff_ne.2 (by omega)
    have n2 : (k == 2) = false := beq_eq_false_iff_ne.2 (by omega)
    have n3 : (k == 3) = false := beq_eq_false_iff_ne.2 (by omega)
    have n4 : (k == 4) = false := beq_eq_false_iff_ne.2 (by omega)
    have n5 : (k == 5) = false := beq_eq_false_iff_ne.2 (by omega)
    have n6 : (k == 6) = false := beq_eq_false_iff_ne.2 (by omega)
    clear hk
    go_enter Try.func85, Try.ntmps85
    go_wp2
    go_ret
    exact ⟨by rw [HE.out]; rfl, rfl⟩
  · have h6 : k = 1 ∨ k = 2 ∨ k = 3 ∨ k = 4 ∨ k = 5 ∨ k = 6 := by omega
    clear hk
    rcases h6 with rfl | rfl | rfl | rfl | rfl | rfl
    all_goals
      go_enter Try.func85, Try.ntmps85
      go_wp2
      go_ret
      exact ⟨rfl, rfl⟩

theorem ret_beq (n : Int) : Ending.returned (.bool (n == 0)) = .returned (.bool (rAll 0 0 .nil 0 && decide (n = 0))) := by simp [rAll]; rfl
theorem rNode_low (p m k n : Int) (len : Nat) {d : Int} (sub : Bool) (h : d < 1) : rNode p m k n len d sub = false := if_pos h
theorem rNode_len (p m k n : Int) (len : Nat) {d : Int} (sub : Bool) (hl : (len : Int) ≠ kidsOf k) : rNode p m k n len d sub = false := by
  unfold rNode; rw [if_pos hl]; split <;> rfl
theorem rNode_5 (p m n : Int) (len : Nat) {d : Int} (sub : Bool) (h : ¬ d < 1) (hl : (len : Int) = kidsOf 5) : rNode p m 5 n len d sub = (decide (0 ≤ n) && decide (n < p)) := by
  unfold rNode; rw [if_neg h, if_neg (by simpa using hl), if_pos rfl]; simp
theorem rNode_6 (p m n : Int) (len : Nat) {d : Int} (sub : Bool) (h : ¬ d < 1) (hl : (len : Int) = kidsOf 6) : rNode p m 6 n len d sub = (decide (0 ≤ n) && decide (n < m)) := by
  unfold rNode; rw [if_neg h, if_neg (by simpa using hl), if_neg (by decide), if_pos rfl]; simp
theorem rNode_rest (p m k n : Int) (len : Nat) {d : Int} (sub : Bool) (h : ¬ d < 1) (hl : (len : Int) = kidsOf k) (h5 : k ≠ 5) (h6 : k ≠ 6) : rNode p m k n len d sub = (sub && decide (n = 0)) := by
  unfold rNode; rw [if_neg h, if_neg (by simpa using hl), if_neg h5, if_neg h6]

set_option maxRecDepth 100000 in
set_option maxHeartbeats 2000000 in
theorem rright_any (p m : Int) (s : Nat) : ∀ (f : Fo), f.size < s → ∀ (k n d : Int) (a : Option Addr) (cap B : Nat) (w : World), SlIn w (· < B) f a cap → B ≤ w.heap.size → 0 ≤ d → d ≤ 12 →
    Calls Try.prog 77 #[.agg #[.int .i64 k, .int .i64 n, .slice a f.len cap], .int .i64 p, .int .i64 m, .int .i64 d] w fun e w' => e = .returned (.bool (rNode p m k n f.len d (rAll p m f (d - 1)))) ∧ Below w.heap.size w w' := by
  induction s with
  | zero => intro f hs; omega
  | succ s ih =>
    intro f hs k n d a cap B w hsl hB h1 h2
    have IH := Lib.hid ih
    clear ih
    have hlen := hsl.len
    by_cases hd : d < 1
    · rw [rNode_low p m k n f.len _ hd]
      have dd : decide (d < 1) = true := by simpa using hd
      go_enter Try.func77, Try.ntmps77
      go_wp2_with fail
      go_quiet (fail)
      go_wp2_with fail
      go_ret
      exact ⟨rfl, Below.draws ((Below.refl _ _).alloc (Nat.le_refl _) _) _⟩
    · have dd : decide (d < 1) = false := by simpa using hd
      by_cases hl : (f.len : Int) = kidsOf k
      · have dl : ((f.len : Int) != kidsOf k) = false := by rw [hl]; simp
        by_cases h5 : k = 5
        · subst h5
          rw [rNode_5 p m n f.len _ hd hl]
          clear hl
          by_cases h0 : 0 ≤ n
          · have e0 : decide (0 ≤ n) = true := by simpa using h0
            rw [e0]
            go_enter Try.func77, Try.ntmps77
            go_wp2_with fail
            go_quiet ((go_at_call 85; exact Calls.quiet_of_same (rkids_any _ _)))
            go_wp2_with fail
            go_ret
            exact ⟨rfl, Below.draws ((Below.refl _ _).alloc (Nat.le_refl _) _) _⟩
          · have e0 : decide (0 ≤ n) = false := by simpa using h0
            rw [e0]
            go_enter Try.func77, Try.ntmps77
            go_wp2_with fail
            go_quiet ((go_at_call 85; exact Calls.quiet_of_same (rkids_any _ _)))
            go_wp2_with fail
            go_ret
            exact ⟨rfl, Below.draws ((Below.refl _ _).alloc (Nat.le_refl _) _) _⟩
        · by_cases h6 : k = 6
          · subst h6
            rw [rNode_6 p m n f.len _ hd hl]
            clear hl
            by_cases h0 : 0 ≤ n
            · have e0 : decide (0 ≤ n) = true := by simpa using h0
              rw [e0]
              go_enter Try.func77, Try.ntmps77
              go_wp2_with fail
              go_quiet ((go_at_call 85; exact Calls.quiet_of_same (rkids_any _ _)))
              go_wp2_with fail
              go_ret
              exact ⟨rfl, Below.draws ((Below.refl _ _).alloc (Nat.le_refl _) _) _⟩
            · have e0 : decide (0 ≤ n) = false := by simpa using h0
              rw [e0]
              go_enter Try.func77, Try.ntmps77
              go_wp2_with fail
              go_quiet ((go_at_call 85; exact Calls.quiet_of_same (rkids_any _ _)))
              go_wp2_with fail
              go_ret
              exact ⟨rfl, Below.draws ((Below.refl _ _).alloc (Nat.le_refl _) _) _⟩
          · have n5 : (k == 5) = false := beq_eq_false_iff_ne.2 h5
            have n6 : (k == 6) = false := beq_eq_false_iff_ne.2 h6
            rw [rNode_rest p m k n f.len _ hd hl h5 h6]
            clear hl h5 h6
            go_enter Try.func77, Try.ntmps77
            go_wp2_with fail
            go_quiet ((go_at_call 85; exact Calls.quiet_of_same (rkids_any _ _)))
            go_wp2_with fail
            go_loopw [9] (fun i wr => ∃ (j : Nat) (r : Fo), i = .int .i64 j ∧ Hid (j + r.len = f.len) ∧ Hid (r.size ≤ f.size) ∧
                Hid (∀ b o, a = some ⟨b, o, none⟩ → FoIn w (· < B) r b (o + j * 3)) ∧ Hid (rAll p m r (d - 1) = rAll p m f (d - 1)) ∧ Below (w.heap.size + 1) (w.alloc (.cells #[.int .i64 k, .int .i64 n, .slice a f.len cap] 33)) wr)
              (fun i _ => f.len - (intOf i).toNat)
            case atStart => exact ⟨0, f, rfl, Lib.hid (by omega), Lib.hid (Nat.le_refl _), Lib.hid (by rintro b o rfl; simpa using hsl.foIn), Lib.hid rfl, Below.draws (Below.refl _ _) _⟩
            case round =>
              obtain ⟨j, r, rfl, hj, hrs, hin, hfew, hb⟩ := hrel
              have c0 := bcell hb w.heap.size 0 (by omega)
              have c1 := bcell hb w.heap.size 1 (by omega)
              have c2 := bcell hb w.heap.size 2 (by omega)
              simp at c0 c1 c2
              have hwB : Below B w wr := ((Below.refl B w).alloc hB _).trans (hb.mono (by omega))
              cases r with
              | nil =>
                have hlt : ¬ (j : Int) < (f.len : Int) := by have := hj.out; simp [Fo.len] at this; omega
                have d' : decide ((j : Int) < (f.len : Int)) = false := by simpa using hlt
                go_wp2_with fail
                go_ret
                exact ⟨by rw [← hfew.out]; exact ret_beq n, Below.trans ((Below.refl _ _).alloc (Nat.le_refl _) _) (hb.mono (by omega))⟩
              | cons k' n' ks r' =>
                have hlt : j < f.len := by have := hj.out; simp [Fo.len] at this; omega
                obtain ⟨b, o, rfl, hbB, hf0⟩ := hsl.some (by omega)
                obtain ⟨e0, e1, ⟨a', cap', e2, hsl'⟩, hrest⟩ := (hin.out b o rfl).below hwB _ _ _ hbB |>.first
                have hks : ks.size < s := by have := hrs.out; simp [Fo.size] at this; omega
                have HC : Hid (rAll p m (.cons k' n' ks r') (d - 1) = (rNode p m k' n' ks.len (d - 1) (rAll p m ks (d - 1 - 1)) && rAll p m r' (d - 1))) := Lib.hid rfl
                go_wp2_with fail
                refine (IH.out ks hks _ _ _ _ _ B _ hsl' (Nat.le_trans hB hwB.size) (by omega) (by omega)).mono ?_
                rintro e w2 ⟨rfl, hb2⟩
                have hb' := Below.step hb hb2 (by simp)
                generalize rNode p m k' n' ks.len (d - 1) (rAll p m ks (d - 1 - 1)) = v at HC ⊢
                cases v with
                | true =>
                  go_wp2_with fail
                  go_roundw
                  case rel => exact ⟨j + 1, r', by go_num, Lib.hid (by have := hj.out; simp [Fo.len] at this; omega), Lib.hid (by have := hrs.out; simp [Fo.size] at this; omega), Lib.hid (by rintro b' o' h; cases h; have := (hin.out b o rfl).2.2.2; rwa [show o + (j + 1) * 3 = o + j * 3 + 3 by omega]), Lib.hid (by rw [← hfew.out, HC.out]; rfl), hb'⟩
                  case measure => simp [intOf]; omega
                | false =>
                  go_wp2_with fail
                  go_ret
                  exact ⟨by rw [← hfew.out, HC.out]; rfl, Below.trans ((Below.refl _ _).alloc (Nat.le_refl _) _) (hb'.mono (by omega))⟩
      · have dl : ((f.len : Int) != kidsOf k) = true := by rw [bne_iff_ne]; exact hl
        rw [rNode_len p m k n f.len _ hl]
        clear hl
        go_enter Try.func77, Try.ntmps77
        go_wp2_with fail
        go_quiet ((go_at_call 85; exact Calls.quiet_of_same (rkids_any _ _)))
        go_wp2_with fail
        go_ret
        exact ⟨rfl, Below.draws ((Below.refl _ _).alloc (Nat.le_refl _) _) _⟩
end Go.Proofs.Ythnkoamabfaioaa
/- The contract of the document's own Right, for all numbers of parameters and unknowns. -/
namespace Go.Proofs.Ythnkoamabfaioaa
open Go.RowKit

theorem rightB_no {p m : Int} (k n : Int) (ks : Fo) (h : ¬ (0 ≤ p ∧ p ≤ 5 ∧ 0 ≤ m ∧ m ≤ 10)) : rightB p m k n ks = false := by
  unfold rightB; rw [decide_eq_false h]; rfl
theorem rightB_big (p m k n : Int) {ks : Fo} (h : ¬ nodesF ks 101 1 ≤ 100) : rightB p m k n ks = false := by
  rw [nodesF_eq ks 101 1 (by omega) (by omega)] at h
  have : decide (ks.size + 1 ≤ 100) = false := decide_eq_false (by omega)
  unfold rightB; rw [this]; simp
theorem rightB_yes {p m : Int} (k n : Int) {ks : Fo} (h0 : 0 ≤ p ∧ p ≤ 5 ∧ 0 ≤ m ∧ m ≤ 10) (h : nodesF ks 101 1 ≤ 100) : rightB p m k n ks = rNode p m k n ks.len 12 (rAll p m ks (12 - 1)) := by
  rw [nodesF_eq ks 101 1 (by omega) (by omega)] at h
  have : decide (ks.size + 1 ≤ 100) = true := decide_eq_true (by omega)
  unfold rightB; rw [decide_eq_true h0, this]; rfl

set_option maxRecDepth 100000 in
set_option maxHeartbeats 2000000 in
theorem rRight_any (p m k n : Int) (f : Fo) (a : Option Addr) (cap B : Nat) (w : World) (hsl : SlIn w (· < B) f a cap) (hB : B ≤ w.heap.size) :
    Calls Try.prog 60 #[.agg #[.int .i64 k, .int .i64 n, .slice a f.len cap], .int .i64 p, .int .i64 m] w fun e w' => e = .returned (.bool (rightB p m k n f)) ∧ Below w.heap.size w w' := by
  by_cases h1 : 0 ≤ p
  · have d1 : decide (0 ≤ p) = true := decide_eq_true h1
    by_cases h2 : p ≤ 5
    · have d2 : decide (p ≤ 5) = true := decide_eq_true h2
      by_cases h3 : 0 ≤ m
      · have d3 : decide (0 ≤ m) = true := decide_eq_true h3
        by_cases h4 : m ≤ 10
        · have d4 : decide (m ≤ 10) = true := decide_eq_true h4
          by_cases h5 : nodesF f 101 1 ≤ 100
          · have d5 : decide (nodesF f 101 1 ≤ 100) = true := decide_eq_true h5
            rw [rightB_yes k n ⟨h1, h2, h3, h4⟩ h5]
            generalize hv : rNode p m k n f.len 12 (rAll p m f (12 - 1)) = v
            have HR := Lib.hid (fun W h0 hB' => rright_any p m (f.size + 1) f (Nat.lt_succ_self _) k n 12 a cap B W h0 hB' (by omega) (by omega))
            rw [hv] at HR
            clear hv
            go_enter Try.func60, Try.ntmps60
            go_wp2_with fail
            refine (nodes_any (f.size + 1) f (Nat.lt_succ_self _) _ _ _ _ _ B _ (hsl.below ((Below.refl _ _).alloc hB _)) (by simp; omega) (by omega) (by omega)).mono ?_
            rintro e w1 ⟨rfl, hb1⟩
            have hb1' : Below (w.heap.size + 1) (w.alloc (.cells #[.int .i64 k, .int .i64 n, .slice a f.len cap] 33)) w1 := by simpa using hb1
            have c0 := bcell hb1' w.heap.size 0 (by omega)
            have c1 := bcell hb1' w.heap.size 1 (by omega)
            have c2 := bcell hb1' w.heap.size 2 (by omega)
            simp at c0 c1 c2
            have hwB : Below B w w1 := ((Below.refl B w).alloc hB _).trans (hb1'.mono (by omega))
            clear hb1
            go_wp2_with fail
            refine (HR.out _ (hsl.below hwB) (Nat.le_trans hB hwB.size)).mono ?_
            rintro e w2 ⟨rfl, hb2⟩
            go_wp2_with fail
            go_ret
            exact ⟨rfl, Below.step (((Below.refl _ _).alloc (Nat.le_refl _) _).trans (hb1'.mono (by omega))) hb2 (Nat.le_refl _)⟩
          · have d5 : decide (nodesF f 101 1 ≤ 100) = false := decide_eq_false h5
            rw [rightB_big p m k n h5]
            go_enter Try.func60, Try.ntmps60
            go_wp2_with fail
            refine (nodes_any (f.size + 1) f (Nat.lt_succ_self _) _ _ _ _ _ B _ (hsl.below ((Below.refl _ _).alloc hB _)) (by simp; omega) (by omega) (by omega)).mono ?_
            rintro e w1 ⟨rfl, hb1⟩
            go_wp2_with fail
            go_ret
            exact ⟨rfl, Below.step ((Below.refl _ _).alloc (Nat.le_refl _) _) hb1 (Nat.le_refl _)⟩
        · have d4 : decide (m ≤ 10) = false := decide_eq_false h4
          rw [rightB_no k n f (fun h => h4 h.2.2.2)]
          go_enter Try.func60, Try.ntmps60
          go_wp2_with fail
          go_ret
          exact ⟨rfl, (Below.refl _ _).alloc (Nat.le_refl _) _⟩
      · have d3 : decide (0 ≤ m) = false := decide_eq_false h3
        rw [rightB_no k n f (fun h => h3 h.2.2.1)]
        go_enter Try.func60, Try.ntmps60
        go_wp2_with fail
        go_ret
        exact ⟨rfl, (Below.refl _ _).alloc (Nat.le_refl _) _⟩
    · have d2 : decide (p ≤ 5) = false := decide_eq_false h2
      rw [rightB_no k n f (fun h => h2 h.2.1)]
      go_enter Try.func60, Try.ntmps60
      go_wp2_with fail
      go_ret
      exact ⟨rfl, (Below.refl _ _).alloc (Nat.le_refl _) _⟩
  · have d1 : decide (0 ≤ p) = false := decide_eq_false h1
    rw [rightB_no k n f (fun h => h1 h.1)]
    go_enter Try.func60, Try.ntmps60
    go_wp2_with fail
    go_ret
    exact ⟨rfl, (Below.refl _ _).alloc (Nat.le_refl _) _⟩
end Go.Proofs.Ythnkoamabfaioaa
/- The contracts of Put, of the document's own text of a level and of its own Put: a right level's bytes, or the refusal; they only make new memory. -/
namespace Go.Proofs.Ythnkoamabfaioaa
open Go.RowKit

theorem rightB_parts {k n : Int} {F : Fo} (h : rightB 5 10 k n F = true) : F.size + 1 ≤ 100 ∧ rNode 5 10 k n F.len 12 (rAll 5 10 F 11) = true := by
  simp only [rightB, Bool.and_eq_true, decide_eq_true_eq] at h
  exact ⟨h.2.1, h.2.2⟩
theorem right_sm {k n : Int} {F : Fo} (h : rightB 5 10 k n F = true) : SmF (.cons k n F .nil) :=
  smF_of (.cons k n F .nil) 12 (by simp [rAll, (rightB_parts h).2])
theorem right_len {k n : Int} {F : Fo} (h : rightB 5 10 k n F = true) : (encL k n F).length ≤ 200 ∧ 1 ≤ (encL k n F).length := by
  have h1 := right_sm h
  have h2 := encH_len h1.1
  have h3 := encF_len F h1.2.1
  have h4 := (rightB_parts h).1
  simp only [encL, List.length_append]; omega
/-- What both Puts answer. -/
def lputV (k n : Int) (F : Fo) : Value := if rightB 5 10 k n F = true then .tuple #[.string (strOfNums (encL k n F)), .int .i64 0] else .tuple #[.string (strOfNums []), .int .i64 1]
theorem lputV_yes {k n : Int} {F : Fo} (h : rightB 5 10 k n F = true) : lputV k n F = .tuple #[.string (strOfNums (encL k n F)), .int .i64 0] := if_pos h
theorem lputV_no {k n : Int} {F : Fo} (h : rightB 5 10 k n F = false) : lputV k n F = .tuple #[.string (strOfNums []), .int .i64 1] := if_neg (by rw [h]; simp)

/-- A row of bytes that the call owns, turned into a string. -/
theorem conv_row {w : World} {base : Nat} {v : Value} {l : List Int} (h : w.ownsRow base 5 1 v l.length (u8s l)) (hl : 1 ≤ l.length) :
    (convert 24 9 v).run Try.prog w = .ok (.string (strOfNums l)) w := by
  obtain ⟨k, hk⟩ : ∃ k, l.length = k + 1 := ⟨l.length - 1, by omega⟩
  have h' := h
  rw [hk] at h'
  obtain ⟨g, cap, rfl⟩ := ownsRow_succ h'
  exact run_convert_bytes_arg (P := Try.prog) w 24 5 Try.underlying24 Try.underlying5 g 0 (k + 1) cap l hk (fun i hi => by
    have := h'.cellAt i (by omega)
    simp only [Nat.zero_add]
    rw [this, u8s, List.getElem?_map, List.getD_eq_getElem?_getD, List.getElem?_eq_getElem (by omega)]; rfl) 9 Try.underlying9
theorem boxed3 {w w1 : World} {x y z : Value} (hb : Below (w.alloc (.cells #[x, y, z] 33)).heap.size (w.alloc (.cells #[x, y, z] 33)) w1) :
    w1.cell? ⟨w.heap.size, 0, none⟩ = some x ∧ w1.cell? ⟨w.heap.size, 1, none⟩ = some y ∧ w1.cell? ⟨w.heap.size, 2, none⟩ = some z ∧ w.heap.size < w1.heap.size := by
  have h := (hb.block w.heap.size (by simp)).trans (heap_new w (.cells #[x, y, z] 33))
  exact ⟨cell_at h 0, cell_at h 1, cell_at h 2, lt_of_block h⟩

set_option maxRecDepth 100000 in
set_option maxHeartbeats 2000000 in
theorem lPut_any (k n : Int) (F : Fo) (x : Option Addr) (c B : Nat) (w : World) (hsl : SlIn w (· < B) F x c) (hB : B ≤ w.heap.size) :
    Calls Try.prog 57 #[.agg #[.int .i64 k, .int .i64 n, .slice x F.len c]] w fun e w' => e = .returned (lputV k n F) ∧ Below w.heap.size w w' := by
  have HR := Lib.hid (fun (W : World) (h1 : SlIn W (· < B) F x c) (h2 : B ≤ W.heap.size) => Right_any 5 10 k n F x c B W h1 h2)
  have hbx : Below w.heap.size w (w.alloc (.cells #[.int .i64 k, .int .i64 n, .slice x F.len c] 33)) := (Below.refl _ _).alloc (Nat.le_refl _) _
  have hs1 := hsl.below (hbx.mono hB)
  cases hv : rightB 5 10 k n F with
  | false =>
    rw [lputV_no hv]
    rw [hv] at HR
    clear hv
    go_enter Try.func57, Try.ntmps57
    go_wp2_with fail
    refine (HR.out _ hs1 (by simp; omega)).mono ?_
    rintro e w1 ⟨rfl, hb1⟩
    go_wp2_with fail
    go_ret2
    exact ⟨rfl, Below.step hbx hb1 (Nat.le_refl _)⟩
  | true =>
    rw [lputV_yes hv]
    have HSM := Lib.hid (right_sm hv)
    have HLN := Lib.hid (right_len hv)
    rw [hv] at HR
    clear hv
    go_enter Try.func57, Try.ntmps57
    go_wp2_with fail
    refine (HR.out _ hs1 (by simp; omega)).mono ?_
    rintro e w1 ⟨rfl, hb1⟩
    obtain ⟨c0, c1, c2, z1⟩ := boxed3 hb1
    have hw1 := Lib.hid (Below.step hbx hb1 (Nat.le_refl _))
    have hs2 := Lib.hid (hsl.below (hw1.out.mono hB))
    clear hb1 hs1
    go_wp2_with fail
    refine (appLevel_any (F.size + 1) F (Nat.lt_succ_self _) k n x c B w1.heap.size (.slice none 0 0) [] w1 hs2.out (by omega) (Nat.le_refl _) (World.ownsRow_nil _ _ _ _) HSM.out (by have := HLN.out; simp; omega)).mono ?_
    rintro e w2 ⟨v2, rfl, o2, g2, _⟩
    rw [List.nil_append] at o2
    have hcv := conv_row o2 HLN.out.2
    have HB2 : Hid (Below w.heap.size w w2) := Lib.hid (hw1.out.trans ⟨g2.os, g2.tape, g2.output, g2.size, fun i hi => g2.block i (by omega) (by simp [Value.ownBlock])⟩)
    clear o2 g2 c0 c1 c2
    go_wp2
    go_ret2
    exact ⟨rfl, HB2.out⟩

/-- What stands in slots while the document's own text goes through the Kids. -/
def TxR (w : World) (B : Nat) (F : Fo) (x : Option Addr) (pre : List Int) (t : ByteArray) (j : Nat) (rr : Fo) : Prop :=
  ∃ done : Fo, done.app rr = F ∧ done.len = j ∧ t = strOfNums (pre ++ encF done) ∧ (∀ b i, x = some ⟨b, i, none⟩ → FoIn w (· < B) rr b (i + j * 3))
theorem rput_int (k : Int) (h0 : 0 ≤ k) (h1 : k ≤ 1000) (w : World) : Calls Try.prog 59 #[.int .i64 k] w fun e w' => e = .returned (.tuple #[.string (strOfNums (enc k.toNat)), .int .i64 0]) ∧ Below w.heap.size w w' := by
  have := rput_any k.toNat (by omega) w
  rwa [show ((k.toNat : Nat) : Int) = k by omega] at this
set_option maxRecDepth 100000 in
set_option maxHeartbeats 4000000 in
theorem rtext_any (s : Nat) : ∀ (F : Fo), F.size < s → ∀ (k n : Int) (x : Option Addr) (c B : Nat) (w : World), SlIn w (· < B) F x c → B ≤ w.heap.size → SmF (.cons k n F .nil) → (encL k n F).length ≤ 1000 →
    Calls Try.prog 61 #[.agg #[.int .i64 k, .int .i64 n, .slice x F.len c]] w fun e w' => e = .returned (.string (strOfNums (encL k n F))) ∧ Below w.heap.size w w' := by
  induction s with
  | zero => intro f hs; omega
  | succ s ih =>
    intro F hs k n x c B w hsl hB hsm hpl
    have IH := Lib.hid ih
    clear ih
    have hlen := hsl.len
    have HSM := Lib.hid hsm
    obtain ⟨⟨hk0, hk6, hn0, hn9⟩, _, _⟩ := hsm
    have HPL := Lib.hid hpl
    have hek : (enc k.toNat).length ≤ 1000 := by have := enc_len6 (n := k.toNat) (by omega); omega
    have hen : (enc n.toNat).length ≤ 1000 := by have := enc_len6 (n := n.toNat) (by omega); omega
    have hbx : Below w.heap.size w (w.alloc (.cells #[.int .i64 k, .int .i64 n, .slice x F.len c] 33)) := (Below.refl _ _).alloc (Nat.le_refl _) _
    clear hpl
    have hways : (Hid (encH k n = enc k.toNat ++ enc n.toNat) ∧ ((k == 5) = true ∨ (k == 5) = false ∧ (k == 6) = true)) ∨ (Hid (encH k n = enc k.toNat) ∧ (k == 5) = false ∧ (k == 6) = false) := by
      by_cases hc : k = 5 ∨ k = 6
      · refine .inl ⟨Lib.hid (by unfold encH; rw [if_pos hc]), ?_⟩
        rcases hc with h | h
        · exact .inl (beq_iff_eq.2 h)
        · exact .inr ⟨beq_eq_false_iff_ne.2 (by omega), beq_iff_eq.2 h⟩
      · exact .inr ⟨Lib.hid (by unfold encH; rw [if_neg (by omega), List.append_nil]), beq_eq_false_iff_ne.2 (by omega), beq_eq_false_iff_ne.2 (by omega)⟩
    go_enter Try.func61, Try.ntmps61
    go_wp2_with fail
    refine (rput_int k hk0 (by omega) _).mono ?_
    rintro e w1 ⟨rfl, hb1⟩
    obtain ⟨c0, c1, c2, z1⟩ := boxed3 hb1
    rcases hways with ⟨HH, q5 | ⟨q5, q6⟩⟩ | ⟨HH, q5, q6⟩
    case' inl.inl =>
      go_wp2_with fail
      refine (rput_int n hn0 (by omega) _).mono ?_
      rintro e wS ⟨rfl, hb2⟩
      have HBS := Lib.hid (Below.step hb1 hb2 (Nat.le_refl _))
      have hadd := add_nums (enc k.toNat) (enc n.toNat) hek hen
      rw [← HH.out] at hadd
      clear hb1 hb2 c0 c1 c2
      go_wp2_with fail
    case' inl.inr =>
      go_wp2_with fail
      refine (rput_int n hn0 (by omega) _).mono ?_
      rintro e wS ⟨rfl, hb2⟩
      have HBS := Lib.hid (Below.step hb1 hb2 (Nat.le_refl _))
      have hadd := add_nums (enc k.toNat) (enc n.toNat) hek hen
      rw [← HH.out] at hadd
      clear hb1 hb2 c0 c1 c2
      go_wp2_with fail
    case' inr =>
      have HBS := Lib.hid hb1
      obtain ⟨wS, rfl⟩ : ∃ u, u = w1 := ⟨w1, rfl⟩
      have hadd := HH.out
      rw [← HH.out]
      clear hb1 hadd
      go_wp2_with fail

    all_goals
      go_loopw [3, 7] (fun o i wr => ∃ (j : Nat) (rr : Fo) (t : ByteArray), o = .string t ∧ i = .int .i64 j ∧ Hid (j + rr.len = F.len) ∧ Hid (TxR w B F x (encH k n) t j rr) ∧ Below (w.heap.size + 1) (w.alloc (.cells #[.int .i64 k, .int .i64 n, .slice x F.len c] 33)) wr) (fun _ i _ => F.len - (intOf i).toNat)
      case atStart => exact ⟨0, F, _, rfl, rfl, Lib.hid (by omega), Lib.hid ⟨.nil, rfl, rfl, by simp [encF], by rintro b i rfl; simpa using hsl.foIn⟩, by simpa using HBS.out⟩
      case round =>
        obtain ⟨j, rr, t, rfl, rfl, hj, hR, hb⟩ := hrel
        obtain ⟨d0, d1, d2, z2⟩ := boxed3 (w := w) (by simpa using hb)
        have hwr : Below w.heap.size w wr := hbx.trans (hb.mono (by omega))
        cases rr with
        | nil =>
          have hlt : ¬ (j : Int) < (F.len : Int) := by have := hj.out; simp [Fo.len] at this; omega
          have d' : decide ((j : Int) < (F.len : Int)) = false := by simpa using hlt
          obtain ⟨done, r1, _, rfl, _⟩ := hR.out
          rw [Fo.app_nil] at r1
          have R1 := Lib.hid r1
          clear r1
          go_wp2_with fail
          go_ret
          exact ⟨by rw [R1.out]; rfl, hwr⟩
        | cons k' n' ks r' =>
          have hlt : j < F.len := by have := hj.out; simp [Fo.len] at this; omega
          have hlt' : (j : Int) < (F.len : Int) := by omega
          obtain ⟨b, o, rfl, hbB, hf0⟩ := hsl.some (by omega)
          obtain ⟨done, r1, r2, rfl, r6⟩ := hR.out
          obtain ⟨e0, e1, ⟨a', cap', e2, hsl'⟩, _⟩ := ((r6 b o rfl).below (hwr.mono hB) _ _ _ hbB).first
          have hsmd : Hid (SmF (.cons k' n' ks .nil)) := Lib.hid (by
            have h := HSM.out.2.1
            rw [← r1] at h
            have := (SmF.app h).2
            exact ⟨this.1, this.2.1, trivial⟩)
          have hks : Hid (ks.size < s) := Lib.hid (by have := congrArg Fo.size r1; rw [Fo.app_size] at this; simp only [Fo.size] at this; omega)
          have hpl' : (encH k n ++ encF done).length ≤ 1000 ∧ (encL k' n' ks).length ≤ 1000 := by
            have h := HPL.out
            rw [encL, ← r1, encF_app] at h
            simp only [encF, encL, List.length_append] at h ⊢
            omega
          have hadd2 := add_nums (encH k n ++ encF done) (encL k' n' ks) hpl'.1 hpl'.2
          have HNX : Hid (TxR w B F (some ⟨b, o, none⟩) (encH k n) (strOfNums (encH k n ++ encF done ++ encL k' n' ks)) (j + 1) r') := Lib.hid ⟨done.app (.cons k' n' ks .nil), by rw [Fo.app_assoc]; exact r1, by rw [Fo.app_len, r2]; rfl, by rw [encF_app, encF_one, List.append_assoc], by
            rintro b1 i1 h
            cases h
            have := (r6 b o rfl).2.2.2
            rwa [show o + (j + 1) * 3 = o + j * 3 + 3 by omega]⟩
          have HSL : Hid (SlIn wr (· < B) ks a' cap') := Lib.hid hsl'
          have HPLK := Lib.hid hpl'
          clear r1 r2 r6 hsl' hf0 hpl'
          go_wp2_with fail
          refine (IH.out ks hks.out k' n' a' cap' B _ HSL.out (by have := hwr.size; omega) hsmd.out HPLK.out.2).mono ?_
          rintro e w2 ⟨rfl, hb2⟩
          have HB2 := Lib.hid (Below.step hb hb2 (by simp))
          clear hb2 HSL e0 e1 e2 d0 d1 d2
          go_wp2_with fail
          go_roundw
          case rel => exact ⟨j + 1, r', _, rfl, by go_num, Lib.hid (by have := hj.out; simp [Fo.len] at this; omega), Lib.hid (by first | exact HNX.out | (rw [← List.append_assoc]; exact HNX.out)), HB2.out⟩
          case measure => simp [intOf]; omega

set_option maxRecDepth 100000 in
set_option maxHeartbeats 2000000 in
theorem rlPut_any (k n : Int) (F : Fo) (x : Option Addr) (c B : Nat) (w : World) (hsl : SlIn w (· < B) F x c) (hB : B ≤ w.heap.size) :
    Calls Try.prog 41 #[.agg #[.int .i64 k, .int .i64 n, .slice x F.len c]] w fun e w' => e = .returned (lputV k n F) ∧ Below w.heap.size w w' := by
  have HR := Lib.hid (fun (W : World) (h1 : SlIn W (· < B) F x c) (h2 : B ≤ W.heap.size) => rRight_any 5 10 k n F x c B W h1 h2)
  have hbx : Below w.heap.size w (w.alloc (.cells #[.int .i64 k, .int .i64 n, .slice x F.len c] 33)) := (Below.refl _ _).alloc (Nat.le_refl _) _
  have hs1 := hsl.below (hbx.mono hB)
  cases hv : rightB 5 10 k n F with
  | false =>
    rw [lputV_no hv]
    rw [hv] at HR
    clear hv
    go_enter Try.func41, Try.ntmps41
    go_wp2_with fail
    refine (HR.out _ hs1 (by simp; omega)).mono ?_
    rintro e w1 ⟨rfl, hb1⟩
    go_wp2_with fail
    go_ret2
    exact ⟨rfl, Below.step hbx hb1 (Nat.le_refl _)⟩
  | true =>
    rw [lputV_yes hv]
    have HSM := Lib.hid (right_sm hv)
    have HLN := Lib.hid (right_len hv)
    rw [hv] at HR
    clear hv
    go_enter Try.func41, Try.ntmps41
    go_wp2_with fail
    refine (HR.out _ hs1 (by simp; omega)).mono ?_
    rintro e w1 ⟨rfl, hb1⟩
    obtain ⟨c0, c1, c2, z1⟩ := boxed3 hb1
    have hw1 := Lib.hid (Below.step hbx hb1 (Nat.le_refl _))
    have hs2 := Lib.hid (hsl.below (hw1.out.mono hB))
    clear hb1 hs1
    go_wp2_with fail
    refine (rtext_any (F.size + 1) F (Nat.lt_succ_self _) k n x c B w1 hs2.out (by omega) HSM.out (by have := HLN.out; omega)).mono ?_
    rintro e w2 ⟨rfl, hb2⟩
    go_wp2
    go_ret2
    exact ⟨rfl, Below.step hw1.out hb2 (Nat.le_refl _)⟩
end Go.Proofs.Ythnkoamabfaioaa
/- Terms in memory, and in variables: what the texts of the laws speak of. No condition. -/
namespace Go.Proofs.Ythnkoamabfaioaa
open Go.RowKit

def smT (T : Tm) : Prop := T.ks.size ≤ 1000000 ∧ T.ks.lvsz 1000000 ∧ T.ls.size ≤ 1000000
/-- A term in memory: its two slices. -/
def TmIn (W : World) (B : Nat) (T : Tm) (la : Option Addr) (lc : Nat) (ka : Option Addr) (kc : Nat) : Prop := SlIn W (· < B) T.ls la lc ∧ TlIn W (· < B) T.ks ka kc ∧ B ≤ W.heap.size
theorem TmIn.later {W W' : World} {B : Nat} {T : Tm} {la : Option Addr} {lc : Nat} {ka : Option Addr} {kc : Nat} (h : TmIn W B T la lc ka kc) (hb : Below W.heap.size W W') : TmIn W' B T la lc ka kc :=
  ⟨h.1.below (hb.mono h.2.2), h.2.1.below (hb.mono h.2.2), Nat.le_trans h.2.2 hb.size⟩
/-- A term in a variable: the box at the block N. -/
def TmBox (W : World) (N : Nat) (T : Tm) (la : Option Addr) (lc : Nat) (ka : Option Addr) (kc : Nat) : Prop := W.heap[N]? = some (.cells #[.int .i64 T.k, .int .i64 T.n, .slice la T.ls.len lc, .slice ka T.ks.len kc] 29 (0, 0)) ∧ TmIn W N T la lc ka kc
theorem TmBox.later {W W' : World} {N : Nat} {T : Tm} {la : Option Addr} {lc : Nat} {ka : Option Addr} {kc : Nat} (h : TmBox W N T la lc ka kc) (hb : Below W.heap.size W W') : TmBox W' N T la lc ka kc :=
  ⟨(hb.block _ (lt_of_block h.1)).trans h.1, h.2.later hb⟩
theorem TmBox.new {W : World} {T : Tm} {la : Option Addr} {lc : Nat} {ka : Option Addr} {kc : Nat} (h : TmIn W W.heap.size T la lc ka kc) : TmBox (W.alloc (.cells #[.int .i64 T.k, .int .i64 T.n, .slice la T.ls.len lc, .slice ka T.ks.len kc] 29)) W.heap.size T la lc ka kc :=
  ⟨heap_new _ _, h.later ((Below.refl _ _).alloc (Nat.le_refl _) _)⟩
theorem TmBox.cells {W : World} {N : Nat} {T : Tm} {la : Option Addr} {lc : Nat} {ka : Option Addr} {kc : Nat} (h : TmBox W N T la lc ka kc) : W.cell? ⟨N, 0, none⟩ = some (.int .i64 T.k) ∧ W.cell? ⟨N, 1, none⟩ = some (.int .i64 T.n) ∧ W.cell? ⟨N, 2, none⟩ = some (.slice la T.ls.len lc) ∧ W.cell? ⟨N, 3, none⟩ = some (.slice ka T.ks.len kc) := cells4 h.1
theorem TmBox.lt {W : World} {N : Nat} {T : Tm} {la : Option Addr} {lc : Nat} {ka : Option Addr} {kc : Nat} (h : TmBox W N T la lc ka kc) : N < W.heap.size := lt_of_block h.1
theorem one_refl (A : Tm) : decide (Ft.cons A.k A.n A.ls A.ks .nil = Ft.cons A.k A.n A.ls A.ks .nil) = true := decide_eq_true rfl
end Go.Proofs.Ythnkoamabfaioaa
