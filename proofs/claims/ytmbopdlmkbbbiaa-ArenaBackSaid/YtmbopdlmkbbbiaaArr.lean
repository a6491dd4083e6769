/- The contracts of the document's own Right and Same of arenas. No condition but that the arenas lie in memory. -/
import Derived.Test.YtmbopdlmkbbbiaaAidx
namespace Go.Proofs.Ytmbopdlmkbbbiaa
open Go.RowKit

theorem run_binN (w : World) (x y : Nd) : (binOp .eql 41 (nv x) (nv y)).run Try.prog w = .ok (.bool (decide (x = y))) w := by
  have h := run_eqN w x y
  simp only [nv] at h
  simp only [binOp, nv]
  rw [Sem.run_bind, h]
  rfl
theorem bin_yes (k n a b k' n' a' b' : Int) (h : (⟨k, n, a, b⟩ : Nd) = ⟨k', n', a', b'⟩) (w : World) : (binOp .eql 41 (.agg #[.int .i64 k, .int .i64 n, .int .i64 a, .int .i64 b]) (.agg #[.int .i64 k', .int .i64 n', .int .i64 a', .int .i64 b'])).run Try.prog w = .ok (.bool true) w := by
  have := run_binN w ⟨k, n, a, b⟩ ⟨k', n', a', b'⟩
  rwa [decide_eq_true h] at this
theorem bin_no (k n a b k' n' a' b' : Int) (h : (⟨k, n, a, b⟩ : Nd) ≠ ⟨k', n', a', b'⟩) (w : World) : (binOp .eql 41 (.agg #[.int .i64 k, .int .i64 n, .int .i64 a, .int .i64 b]) (.agg #[.int .i64 k', .int .i64 n', .int .i64 a', .int .i64 b'])).run Try.prog w = .ok (.bool false) w := by
  have := run_binN w ⟨k, n, a, b⟩ ⟨k', n', a', b'⟩
  rwa [decide_eq_false h] at this

/-- What stands in memory while the nodes are gone through. -/
def RrR (w : World) (ns : List Nd) (a : Option Addr) (cap : Nat) (done rest : List Nd) (wr : World) : Prop :=
  done ++ rest = ns ∧ goodN done rest = goodN [] ns ∧ wr.heap[w.heap.size]? = some (.cells #[.slice a ns.length cap] 26 (0, 0)) ∧ Below w.heap.size w wr
theorem RrR.next {w : World} {ns : List Nd} {a : Option Addr} {cap : Nat} {done rest : List Nd} {wr w2 : World} (h : RrR w ns a cap done rest wr) (hb : Below wr.heap.size wr w2) : RrR w ns a cap done rest w2 :=
  ⟨h.1, h.2.1, (hb.block _ (lt_of_block h.2.2.1)).trans h.2.2.1, Below.step h.2.2.2 hb (Nat.le_refl _)⟩

set_option maxRecDepth 100000 in
set_option maxHeartbeats 4000000 in
theorem r4Right_any (ns : List Nd) (a : Option Addr) (cap B : Nat) (w : World) (hin : NsIn w (· < B) ns a cap) (hB : B ≤ w.heap.size) :
    Calls Try.prog 28 #[.agg #[.slice a ns.length cap]] w fun e w' => e = .returned (.bool (rightN ns)) ∧ Below w.heap.size w w' := by
  have hlen := hin.len
  have HIN := Lib.hid hin
  have HS : Hid (RrR w ns a cap [] ns (w.alloc (.cells #[.slice a ns.length cap] 26))) := Lib.hid ⟨rfl, rfl, heap_new _ _, (Below.refl _ _).alloc (Nat.le_refl _) _⟩
  have HG : Hid (rightN ns = (decide (ns.length ≤ 1000) && goodN [] ns)) := Lib.hid rfl
  go_enter Try.func28, Try.ntmps28
  go_wp2_with fail
  go_loopw [3] (fun i wr => ∃ (j : Nat) (done rest : List Nd), i = .int .i64 j ∧ Hid (j = done.length) ∧ Hid (RrR w ns a cap done rest wr)) (fun i _ => ns.length - (intOf i).toNat)
  case atStart => exact ⟨0, [], ns, rfl, Lib.hid rfl, HS⟩
  case round =>
    obtain ⟨j, done, rest, rfl, hj, hR⟩ := hrel
    have c0 := cell_at hR.out.2.2.1 0
    simp at c0
    cases rest with
    | nil =>
      have hjn : ¬ (j : Int) < (ns.length : Int) := by
        have := hR.out.1
        have h2 := hj.out
        rw [List.append_nil] at this
        rw [← this]; omega
      have d' : decide (j < ns.length) = false := by simp; omega
      have HE : Hid (rightN ns = decide ((ns.length : Int) ≤ 1000) ∧ Below w.heap.size w wr) := Lib.hid (by
        obtain ⟨r1, r2, r3, r4⟩ := hR.out
        refine ⟨?_, r4⟩
        rw [HG.out, ← r2]
        show (_ && true) = _
        rw [Bool.and_true]
        exact decide_eq_decide.2 (by omega))
      go_wp2_with fail
      go_ret
      exact ⟨ret_bool HE.out.1.symm, HE.out.2⟩
    | cons x rest =>
      have hlt : j < ns.length := by
        have := congrArg List.length hR.out.1
        have h2 := hj.out
        simp at this; omega
      obtain ⟨b, o, rfl, hbB, hat⟩ := HIN.out.at hlt
      obtain ⟨k, n, xa, xb⟩ := x
      have hwB : Below B w wr := hR.out.2.2.2.mono hB
      obtain ⟨e0, e1, e2, e3⟩ := (hat.keep (hwB.block b hbB)) j ⟨k, n, xa, xb⟩ (by rw [← hR.out.1, hj.out]; simp)
      have hlt' : (j : Int) < (ns.length : Int) := by omega
      have HF := Lib.hid (r4fits_any ⟨k, n, xa, xb⟩ j)
      have HNX : Hid (goodN done (⟨k, n, xa, xb⟩ :: rest) = (!done.contains ⟨k, n, xa, xb⟩ && fitsN ⟨k, n, xa, xb⟩ j && goodN (done ++ [⟨k, n, xa, xb⟩]) rest)) := Lib.hid (by rw [goodN_cons, ← hj.out])
      cases hf : fitsN ⟨k, n, xa, xb⟩ j with
      | false =>
        rw [hf] at HF HNX
        have HE : Hid (rightN ns = false) := Lib.hid (by rw [HG.out, ← hR.out.2.1, HNX.out]; simp)
        clear hf HNX
        go_wp2_with fail
        refine (HF.out _).mono ?_
        rintro e w2 ⟨rfl, hb2⟩
        have HR2 := Lib.hid (hR.out.next hb2)
        clear hb2
        go_wp2_with fail
        go_ret
        exact ⟨ret_bool HE.out.symm, HR2.out.2.2.2⟩
      | true =>
        rw [hf] at HF HNX
        clear hf
        have HAT := Lib.hid hat
        go_wp2_with fail
        refine (HF.out _).mono ?_
        rintro e w2 ⟨rfl, hb2⟩
        have HR2 := Lib.hid (hR.out.next hb2)
        clear hb2 hR e0 e1 e2 e3 c0
        go_wp2_with fail
        go_loopw [4] (fun i wr => ∃ (q : Nat), i = .int .i64 q ∧ q ≤ j ∧ Hid (∀ i, i < q → done[i]? ≠ some ⟨k, n, xa, xb⟩) ∧ Hid (RrR w ns (some ⟨b, o, none⟩) cap done (⟨k, n, xa, xb⟩ :: rest) wr)) (fun i _ => j - (intOf i).toNat)
        case atStart => exact ⟨0, rfl, Nat.zero_le _, Lib.hid (fun i hi => by omega), HR2⟩
        case round =>
          obtain ⟨q, rfl, hq, hno, hRq⟩ := hrel
          have c0 := cell_at hRq.out.2.2.1 0
          simp at c0
          have hwB : Below B w wr := hRq.out.2.2.2.mono hB
          obtain ⟨e0, e1, e2, e3⟩ := (HAT.out.keep (hwB.block b hbB)) j ⟨k, n, xa, xb⟩ (by rw [← hRq.out.1, hj.out]; simp)
          by_cases hqj : q < j
          · have hqj' : (q : Int) < (j : Int) := by omega
            have hq0 : (0 : Int) ≤ (q : Int) := by omega
            have hqn : (q : Int) < (ns.length : Int) := by omega
            have hdq : q < done.length := by have := hj.out; omega
            obtain ⟨⟨k', n', xa', xb'⟩, hy⟩ : ∃ y, done[q]? = some y := ⟨_, List.getElem?_eq_getElem hdq⟩
            obtain ⟨f0, f1, f2, f3⟩ := (HAT.out.keep (hwB.block b hbB)) q ⟨k', n', xa', xb'⟩ (by rw [← hRq.out.1, List.getElem?_append_left hdq]; exact hy)
            by_cases hxy : (⟨k', n', xa', xb'⟩ : Nd) = ⟨k, n, xa, xb⟩
            · have heq := bin_yes k' n' xa' xb' k n xa xb hxy
              have HE : Hid (rightN ns = false ∧ ∀ m, Below w.heap.size w (wr.drewN m)) := Lib.hid ⟨by
                rw [HG.out, ← hRq.out.2.1, HNX.out]
                have hm : (⟨k, n, xa, xb⟩ : Nd) ∈ done := by
                  rw [← hxy]; exact List.mem_of_getElem? hy
                simp [hm], fun m => Below.draws hRq.out.2.2.2 m⟩
              clear hxy hy
              go_wp2_with fail
              go_quiet (fail)
              go_wp2_with fail
              go_ret
              exact ⟨ret_bool HE.out.1.symm, HE.out.2 _⟩
            · have heq := bin_no k' n' xa' xb' k n xa xb hxy
              have HN : Hid (∀ i, i < q + 1 → done[i]? ≠ some ⟨k, n, xa, xb⟩) := Lib.hid (fun i hi => by
                rcases Nat.lt_succ_iff_lt_or_eq.1 hi with h | h
                · exact hno.out i h
                · rw [h, hy]; intro e; injection e with e; exact hxy e)
              have HRD : Hid (∀ m, RrR w ns (some ⟨b, o, none⟩) cap done (⟨k, n, xa, xb⟩ :: rest) (wr.drewN m)) := Lib.hid (fun m => hRq.out.next (Below.draws (Below.refl _ _) m))
              clear hxy hy
              go_wp2_with fail
              go_quiet (fail)
              go_wp2_with fail
              go_roundw
              case rel => exact ⟨q + 1, by go_num, by omega, HN, HRD.out _⟩
              case measure => simp [intOf]; omega
          · obtain rfl : q = j := by omega
            have hqj' : ¬ (q : Int) < (q : Int) := by omega
            have hdn : Hid (done.contains ⟨k, n, xa, xb⟩ = false) := Lib.hid (by
              rw [← Bool.not_eq_true, List.contains_iff_mem]
              intro hm
              obtain ⟨i, hi, he⟩ := List.mem_iff_getElem.1 hm
              exact hno.out i (by have := hj.out; omega) (by rw [List.getElem?_eq_getElem hi, he]))
            have HN : Hid (RrR w ns (some ⟨b, o, none⟩) cap (done ++ [⟨k, n, xa, xb⟩]) rest wr) := Lib.hid (by
              obtain ⟨r1, r2, r3, r4⟩ := hRq.out
              exact ⟨by rw [List.append_assoc]; exact r1, by rw [← r2, HNX.out, hdn.out]; rfl, r3, r4⟩)
            go_wp2_with fail
            go_roundw
            case rel => exact ⟨q + 1, done ++ [⟨k, n, xa, xb⟩], rest, by go_num, Lib.hid (by rw [List.length_append, ← hj.out]; rfl), HN⟩
            case measure => simp [intOf]; omega
theorem neq_same (k n a b : Int) (w : World) : (binOp .neq 41 (.agg #[.int .i64 k, .int .i64 n, .int .i64 a, .int .i64 b]) (.agg #[.int .i64 k, .int .i64 n, .int .i64 a, .int .i64 b])).run Try.prog w = .ok (.bool false) w := by
  have h := run_eqN w ⟨k, n, a, b⟩ ⟨k, n, a, b⟩
  simp only [nv, decide_true] at h
  simp only [binOp]
  rw [Sem.run_bind, h]
  rfl
/-- What stands in memory while two arenas are compared. -/
def SmR (w : World) (len : Nat) (a : Option Addr) (cap : Nat) (a' : Option Addr) (cap' : Nat) (wr : World) : Prop :=
  wr.heap[w.heap.size]? = some (.cells #[.slice a len cap] 26 (0, 0)) ∧ wr.heap[w.heap.size + 1]? = some (.cells #[.slice a' len cap'] 26 (0, 0)) ∧ Below w.heap.size w wr
set_option maxRecDepth 100000 in
set_option maxHeartbeats 2000000 in
theorem r4Same_yes (ns : List Nd) (a : Option Addr) (cap : Nat) (a' : Option Addr) (cap' : Nat) (B : Nat) (w : World) (hin : NsIn w (· < B) ns a cap) (hin' : NsIn w (· < B) ns a' cap') (hB : B ≤ w.heap.size) :
    Calls Try.prog 29 #[.agg #[.slice a ns.length cap], .agg #[.slice a' ns.length cap']] w fun e w' => e = .returned (.bool true) ∧ Below w.heap.size w w' := by
  have hlen := hin.len
  have HIN := Lib.hid hin
  have HIN' := Lib.hid hin'
  have HS : Hid (SmR w ns.length a cap a' cap' ((w.alloc (.cells #[.slice a ns.length cap] 26)).alloc (.cells #[.slice a' ns.length cap'] 26))) := Lib.hid ⟨(heap_old _ _ (by simp)).trans (heap_new _ _), heap_second _ _ _, ((Below.refl _ _).alloc (Nat.le_refl _) _).alloc (by simp) _⟩
  clear hin hin'
  go_enter Try.func29, Try.ntmps29
  go_wp2_with fail
  go_loopw [5] (fun i wr => ∃ j : Nat, i = .int .i64 j ∧ j ≤ ns.length ∧ Hid (SmR w ns.length a cap a' cap' wr)) (fun i _ => ns.length - (intOf i).toNat)
  case atStart => exact ⟨0, rfl, Nat.zero_le _, HS⟩
  case round =>
    obtain ⟨j, rfl, hj, hR⟩ := hrel
    have c0 := cell_at hR.out.1 0
    have c1 := cell_at hR.out.2.1 0
    simp at c0 c1
    by_cases hlt : j < ns.length
    · have hlt' : (j : Int) < (ns.length : Int) := by omega
      have hj0 : (0 : Int) ≤ (j : Int) := by omega
      obtain ⟨b, o, rfl, hbB, hat⟩ := HIN.out.at hlt
      obtain ⟨b', o', rfl, hbB', hat'⟩ := HIN'.out.at hlt
      have hwB : Below B w wr := hR.out.2.2.mono hB
      obtain ⟨⟨k, n, xa, xb⟩, hy⟩ : ∃ y, ns[j]? = some y := ⟨_, List.getElem?_eq_getElem hlt⟩
      obtain ⟨e0, e1, e2, e3⟩ := (hat.keep (hwB.block b hbB)) j ⟨k, n, xa, xb⟩ hy
      obtain ⟨f0, f1, f2, f3⟩ := (hat'.keep (hwB.block b' hbB')) j ⟨k, n, xa, xb⟩ hy
      have heq := neq_same k n xa xb
      have HN : Hid (∀ m, SmR w ns.length (some ⟨b, o, none⟩) cap (some ⟨b', o', none⟩) cap' (wr.drewN m)) := Lib.hid (fun m => ⟨hR.out.1, hR.out.2.1, Below.draws hR.out.2.2 m⟩)
      clear hy hat hat'
      go_wp2_with fail
      go_quiet (fail)
      go_wp2_with fail
      go_roundw
      case rel => exact ⟨j + 1, by go_num, by omega, HN.out _⟩
      case measure => simp [intOf]; omega
    · have hlt' : ¬ (j : Int) < (ns.length : Int) := by omega
      have HE := Lib.hid hR.out.2.2
      go_wp2_with fail
      go_ret
      exact ⟨rfl, HE.out⟩
end Go.Proofs.Ytmbopdlmkbbbiaa
