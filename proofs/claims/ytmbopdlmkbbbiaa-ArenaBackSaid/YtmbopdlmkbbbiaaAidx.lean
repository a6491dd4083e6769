/- The contract of indices: the places of nodes that may be, as a map, or none. No condition but that the nodes lie in memory. -/
import Derived.Test.YtmbopdlmkbbbiaaAkids
import Derived.Deep.RegionHeld3
namespace Go.Proofs.Ytmbopdlmkbbbiaa
open Go.RowKit

theorem run_makeMap_hint (n : Int) (w : World) : (Instr.makeMap 62 (some (.int .i64 n))).run Try.prog w = .ok (.map (some w.heap.size)) (w.alloc (.map #[] 0)) := by
  simp [Instr.makeMap, run_underlying Try.underlying62]; rfl
/-- What stands in memory while the nodes are gone through. -/
def IxR (w : World) (ns : List Nd) (done rest : List Nd) (wr : World) : Prop :=
  done ++ rest = ns ∧ goodN done rest = goodN [] ns ∧ wr.heap[w.heap.size]? = some (nTab done) ∧ Below w.heap.size w wr
def IdxPost (w : World) (ns : List Nd) (e : Ending) (w' : World) : Prop :=
  (rightN ns = true ∧ e = .returned (.tuple #[.map (some w.heap.size), .bool true]) ∧ w'.heap[w.heap.size]? = some (nTab ns) ∧ Below w.heap.size w w') ∨
  (rightN ns = false ∧ e = .returned (.tuple #[.map none, .bool false]) ∧ Below w.heap.size w w')
theorem look_yes (W : World) (r : Nat) (ns : List Nd) (hb : W.heap[r]? = some (nTab ns)) (k n a b : Int) (h : (⟨k, n, a, b⟩ : Nd) ∈ ns) :
    (Instr.lookup 62 (.map (some r)) (.agg #[.int .i64 k, .int .i64 n, .int .i64 a, .int .i64 b]) true).run Try.prog W = .ok (.tuple #[.int .i64 (ns.idxOf (⟨k, n, a, b⟩ : Nd) : Nat), .bool true]) W := by
  have := run_lookN W r ns hb ⟨k, n, a, b⟩
  rw [if_pos h, decide_eq_true h] at this
  exact this
theorem look_no (W : World) (r : Nat) (ns : List Nd) (hb : W.heap[r]? = some (nTab ns)) (k n a b : Int) (h : (⟨k, n, a, b⟩ : Nd) ∉ ns) :
    (Instr.lookup 62 (.map (some r)) (.agg #[.int .i64 k, .int .i64 n, .int .i64 a, .int .i64 b]) true).run Try.prog W = .ok (.tuple #[.int .i64 0, .bool false]) W := by
  have := run_lookN W r ns hb ⟨k, n, a, b⟩
  rw [if_neg h, decide_eq_false h] at this
  exact this

set_option maxRecDepth 100000 in
set_option maxHeartbeats 2000000 in
theorem aidx_any (ns : List Nd) (a : Option Addr) (cap B : Nat) (w : World) (hin : NsIn w (· < B) ns a cap) (hB : B ≤ w.heap.size) : Calls Try.prog 30 #[.slice a ns.length cap] w (IdxPost w ns) := by
  have hlen := hin.len
  by_cases h1 : 1000 < ns.length
  · have HE : Hid (IdxPost w ns (.returned (.tuple #[.map none, .bool false])) w) := Lib.hid (.inr ⟨by unfold rightN; rw [decide_eq_false (by omega)]; rfl, rfl, Below.refl _ _⟩)
    have h1' : (1000 : Int) < (ns.length : Int) := by omega
    go_enter Try.func30, Try.ntmps30
    go_wp2_with fail
    go_ret2
    exact HE.out
  · have h1' : ¬ (1000 : Int) < (ns.length : Int) := by omega
    have d1 : decide ((1000 : Int) < (ns.length : Int)) = false := by simpa using h1'
    have HG : Hid (rightN ns = goodN [] ns) := Lib.hid (by unfold rightN; rw [decide_eq_true (by omega)]; rfl)
    have hmk := run_makeMap_hint
    have HS : Hid (IxR w ns [] ns (w.alloc (.map #[] 0))) := Lib.hid ⟨rfl, rfl, heap_new _ _, (Below.refl _ _).alloc (Nat.le_refl _) _⟩
    go_enter Try.func30, Try.ntmps30
    go_wp2_with fail
    go_loopw [17] (fun i wr => ∃ (j : Nat) (done rest : List Nd), i = .int .i64 j ∧ Hid (j = done.length) ∧ Hid (IxR w ns done rest wr)) (fun i _ => ns.length - (intOf i).toNat)
    case atStart => exact ⟨0, [], ns, rfl, Lib.hid rfl, HS⟩
    case round =>
      obtain ⟨j, done, rest, rfl, hj, hR⟩ := hrel
      cases rest with
      | nil =>
        have hjn : ¬ (j : Int) < (ns.length : Int) := by
          have := hR.out.1
          have h2 := hj.out
          rw [List.append_nil] at this
          rw [← this]; omega
        have d' : decide (j < ns.length) = false := by simp; omega
        have HE : Hid (IdxPost w ns (.returned (.tuple #[.map (some w.heap.size), .bool true])) wr) := Lib.hid (by
          obtain ⟨r1, r2, r3, r4⟩ := hR.out
          rw [List.append_nil] at r1
          subst r1
          exact .inl ⟨by rw [HG.out, ← r2]; rfl, rfl, r3, r4⟩)
        go_wp2_with fail
        go_ret2
        exact HE.out
      | cons x rest =>
        have hlt : j < ns.length := by
          have := congrArg List.length hR.out.1
          have h2 := hj.out
          simp at this; omega
        obtain ⟨b, o, rfl, hbB, hat⟩ := hin.at hlt
        obtain ⟨k, n, xa, xb⟩ := x
        have hwB : Below B w wr := hR.out.2.2.2.mono hB
        obtain ⟨e0, e1, e2, e3⟩ := (hat.keep (hwB.block b hbB)) j ⟨k, n, xa, xb⟩ (by rw [← hR.out.1, hj.out]; simp)
        have hlt' : (j : Int) < (ns.length : Int) := by omega
        have HJ := Lib.hid hj.out
        have hb1 : (wr.alloc (.cells #[.int .i64 k, .int .i64 n, .int .i64 xa, .int .i64 xb] 41)).heap[w.heap.size]? = some (nTab done) := (heap_old _ _ (lt_of_block hR.out.2.2.1)).trans hR.out.2.2.1
        have HB1 := Lib.hid hb1
        have hbW : Below w.heap.size w (wr.alloc (.cells #[.int .i64 k, .int .i64 n, .int .i64 xa, .int .i64 xb] 41)) := hR.out.2.2.2.alloc hR.out.2.2.2.size _
        have HBW := Lib.hid hbW
        have HRW := Lib.hid (lt_of_block hR.out.2.2.1)
        clear hbW hat hwB
        by_cases hm : (⟨k, n, xa, xb⟩ : Nd) ∈ done
        · have l1 := look_yes _ w.heap.size done hb1 k n xa xb hm
          have HE : Hid (∀ W, Below w.heap.size w W → IdxPost w ns (.returned (.tuple #[.map none, .bool false])) W) := Lib.hid (fun W hW => .inr ⟨by
            rw [HG.out, ← hR.out.2.1, goodN_cons]
            simp [hm], rfl, hW⟩)
          clear hm hb1
          go_wp2_with fail
          go_ret2
          exact HE.out _ HBW.out
        · have l1 := look_no _ w.heap.size done hb1 k n xa xb hm
          have HF := Lib.hid (afits_any ⟨k, n, xa, xb⟩ j)
          have HNX : Hid (goodN done (⟨k, n, xa, xb⟩ :: rest) = (fitsN ⟨k, n, xa, xb⟩ j && goodN (done ++ [⟨k, n, xa, xb⟩]) rest)) := Lib.hid (by rw [goodN_cons, ← HJ.out]; simp [hm])
          have HU : Hid (∀ W : World, W.heap[w.heap.size]? = some (nTab done) → (Instr.mapUpdate 62 (.map (some w.heap.size)) (.agg #[.int .i64 k, .int .i64 n, .int .i64 xa, .int .i64 xb]) (.int .i64 j)).run Try.prog W = .ok () (setO W w.heap.size (nTab (done ++ [⟨k, n, xa, xb⟩])))) := Lib.hid (fun W hW => by
            have := run_updN W w.heap.size done hW ⟨k, n, xa, xb⟩ hm
            rw [← HJ.out] at this
            exact this)
          clear hm hb1
          cases hf : fitsN ⟨k, n, xa, xb⟩ j with
          | false =>
            rw [hf] at HF HNX
            have HE : Hid (∀ W, Below w.heap.size w W → IdxPost w ns (.returned (.tuple #[.map none, .bool false])) W) := Lib.hid (fun W hW => .inr ⟨by
              rw [HG.out, ← hR.out.2.1, HNX.out]; rfl, rfl, hW⟩)
            clear hf HNX
            go_wp2_with fail
            refine (HF.out _).mono ?_
            rintro e w2 ⟨rfl, hb2⟩
            have HE2 := Lib.hid (HE.out _ (Below.step HBW.out hb2 (Nat.le_refl _)))
            clear hb2
            go_wp2_with fail
            go_ret2
            exact HE2.out
          | true =>
            rw [hf] at HF HNX
            clear hf
            go_wp2_with fail
            refine (HF.out _).mono ?_
            rintro e w2 ⟨rfl, hb2⟩
            have c0 := bcell hb2 wr.heap.size 0 (by simp)
            have c1 := bcell hb2 wr.heap.size 1 (by simp)
            have c2 := bcell hb2 wr.heap.size 2 (by simp)
            have c3 := bcell hb2 wr.heap.size 3 (by simp)
            simp at c0 c1 c2 c3
            have hz2 : wr.heap.size < w2.heap.size := by have := hb2.size; simp at this; omega
            have hup := HU.out w2 ((hb2.block _ (by have := HRW.out; simp; omega)).trans HB1.out)
            have HN : Hid (IxR w ns (done ++ [⟨k, n, xa, xb⟩]) rest (setO w2 w.heap.size (nTab (done ++ [⟨k, n, xa, xb⟩])))) := Lib.hid (by
              obtain ⟨r1, r2, r3, r4⟩ := hR.out
              refine ⟨by rw [List.append_assoc]; exact r1, by rw [← r2, HNX.out]; rfl, setO_at ((hb2.block _ (by have := HRW.out; simp; omega)).trans HB1.out), ?_⟩
              have h1 := Below.step HBW.out hb2 (Nat.le_refl _)
              exact ⟨h1.os, h1.tape, h1.output, by simpa using h1.size, fun b hb => (setO_ne _ _ (by omega)).trans (h1.block b hb)⟩)
            clear hb2
            go_wp2_with fail
            go_roundw
            case rel => exact ⟨j + 1, done ++ [⟨k, n, xa, xb⟩], rest, by go_num, Lib.hid (by rw [HJ.out]; simp), HN⟩
            case measure => simp [intOf]; omega
theorem aidx_yes (ns : List Nd) (a : Option Addr) (cap B : Nat) (w : World) (hin : NsIn w (· < B) ns a cap) (hB : B ≤ w.heap.size) (h : rightN ns = true) :
    Calls Try.prog 30 #[.slice a ns.length cap] w fun e w' => e = .returned (.tuple #[.map (some w.heap.size), .bool true]) ∧ w'.heap[w.heap.size]? = some (nTab ns) ∧ Below w.heap.size w w' :=
  (aidx_any ns a cap B w hin hB).mono (by
    rintro e w' (⟨_, h1, h2, h3⟩ | ⟨h0, _⟩)
    · exact ⟨h1, h2, h3⟩
    · rw [h] at h0; cases h0)
theorem aidx_no (ns : List Nd) (a : Option Addr) (cap B : Nat) (w : World) (hin : NsIn w (· < B) ns a cap) (hB : B ≤ w.heap.size) (h : rightN ns = false) :
    Calls Try.prog 30 #[.slice a ns.length cap] w fun e w' => e = .returned (.tuple #[.map none, .bool false]) ∧ Below w.heap.size w w' :=
  (aidx_any ns a cap B w hin hB).mono (by
    rintro e w' (⟨h0, _⟩ | ⟨_, h1, h3⟩)
    · rw [h] at h0; cases h0
    · exact ⟨h1, h3⟩)
set_option maxHeartbeats 1000000 in
theorem aRight_any (ns : List Nd) (a : Option Addr) (cap B : Nat) (w : World) (hin : NsIn w (· < B) ns a cap) (hB : B ≤ w.heap.size) :
    Calls Try.prog 13 #[.agg #[.slice a ns.length cap]] w fun e w' => e = .returned (.bool (rightN ns)) ∧ Below w.heap.size w w' := by
  have hb0 : Below w.heap.size w (w.alloc (.cells #[.slice a ns.length cap] 26)) := (Below.refl _ _).alloc (Nat.le_refl _) _
  have HI : Hid (NsIn (w.alloc (.cells #[.slice a ns.length cap] 26)) (· < B) ns a cap) := Lib.hid (hin.below (hb0.mono hB))
  cases h : rightN ns with
  | true =>
    have HC := Lib.hid (aidx_yes ns a cap B _ HI.out (by simp; omega) h)
    clear h
    go_enter Try.func13, Try.ntmps13
    go_wp2_with fail
    refine HC.out.mono ?_
    rintro e w1 ⟨rfl, _, hb1⟩
    have HB := Lib.hid (Below.step hb0 hb1 (Nat.le_refl _))
    clear hb1
    go_wp2_with fail
    go_ret
    exact ⟨rfl, HB.out⟩
  | false =>
    have HC := Lib.hid (aidx_no ns a cap B _ HI.out (by simp; omega) h)
    clear h
    go_enter Try.func13, Try.ntmps13
    go_wp2_with fail
    refine HC.out.mono ?_
    rintro e w1 ⟨rfl, hb1⟩
    have HB := Lib.hid (Below.step hb0 hb1 (Nat.le_refl _))
    clear hb1
    go_wp2_with fail
    go_ret
    exact ⟨rfl, HB.out⟩
end Go.Proofs.Ytmbopdlmkbbbiaa
