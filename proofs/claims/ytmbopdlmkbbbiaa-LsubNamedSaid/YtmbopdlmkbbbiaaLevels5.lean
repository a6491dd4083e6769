/- The contract of the law's own list of levels by numbers: right levels, no more than are asked for. -/
import Derived.Test.YtmbopdlmkbbbiaaRowsIn
import Derived.Test.YtmbopdlmkbbbiaaMade
import Derived.Test.YtmbopdlmkbbbiaaMono
import Derived.Test.YtmbopdlmkbbbiaaKids
import Derived.Test.YtmbopdlmkbbbiaaWpl
import Derived.Test.YtmbopdlmkbbbiaaSsub
namespace Go.Proofs.Ytmbopdlmkbbbiaa
open Go.RowKit

theorem lv_right {d : Nat} {k n : Int} {F : Fo} (hd : d ≤ 6) (h : LvOk 5 10 d k n F) : rightB 5 10 k n F = true := by
  have hs : F.size + 2 ≤ 64 := Nat.le_trans h.2 (Nat.pow_le_pow_right (by omega) hd : 2 ^ d ≤ 2 ^ 6)
  unfold rightB
  simp only [Bool.and_eq_true, decide_eq_true_eq]
  exact ⟨by omega, by omega, rNode_mono h.1 (by omega) (fun h => rAll_mono h (by omega))⟩
theorem allR_snoc {k n : Int} {F : Fo} : ∀ {G : Fo}, allR G = true → rightB 5 10 k n F = true → allR (G.app (.cons k n F .nil)) = true
  | .nil, _, h => by show (rightB 5 10 k n F && true) = true; rw [h]; rfl
  | .cons a b c r, hG, h => by
    simp only [allR, Bool.and_eq_true] at hG
    show (rightB 5 10 a b c && allR (r.app (.cons k n F .nil))) = true
    rw [hG.1, allR_snoc hG.2 h]; rfl
/-- What is answered: a list of right levels. -/
def LsPost (many : Nat) (w : World) (e : Ending) (w' : World) : Prop := ∃ (G : Fo) (x : Option Addr) (c : Nat), e = .returned (.slice x G.len c) ∧ G.len ≤ many ∧ allR G = true ∧ SlIn w' (· < w'.heap.size) G x c ∧ Below w.heap.size w w'
/-- What stands in memory between two rounds. -/
def LsR (w : World) (j : Nat) (v : Value) (wr : World) : Prop := ∃ G : Fo, G.len = j ∧ allR G = true ∧ KsOwn w.heap.size wr v G ∧ Below w.heap.size w wr
/-- A level more: the append behind the others, and what lies there then. -/
theorem LsR.next {w : World} {j : Nat} {v : Value} {wr : World} (h : LsR w j v wr) (h1w : 1 ≤ w.heap.size) (hj : j ≤ 900) {w1 w2 : World} {k n : Int} {F : Fo} {x : Option Addr} {c : Nat} (hb : Below wr.heap.size wr w2) (hok : LvOk 5 10 5 k n F) (h1 : wr.heap.size ≤ w1.heap.size) (hs : SlIn w2 (fun b => w1.heap.size ≤ b ∧ b < w2.heap.size) F x c) :
    ∃ g' cap' w3, (Builtin.append_ #[28, 28] 28 #[v, .slice (some ⟨w2.heap.size, 0, none⟩) 1 1]).run Try.prog (w2.alloc (.cells #[.int .i64 k, .int .i64 n, .slice x F.len c] 30)) = .ok (.slice (some ⟨g', 0, none⟩) (j + 1) cap') w3 ∧ LsR w (j + 1) (.slice (some ⟨g', 0, none⟩) (j + 1) cap') w3 := by
  obtain ⟨G, hG, hr, ho, hw⟩ := h
  have hz := hw.size
  subst hG
  have hz2 := hb.size
  have ho2 : KsOwn w.heap.size w2 v G := ho.grow hb.size (fun b _ h2 => hb.block b h2)
  have hs2 : SlIn w2 (fun b => w.heap.size ≤ b ∧ b < w2.heap.size ∧ some b ≠ v.ownBlock) F x c := ho.fresh hz (hs.weak (fun b hb => ⟨by omega, hb.2⟩))
  obtain ⟨g', cap', w3, hrun, k3, same, z3, o1, o2, o3⟩ := ho2.append k n hs2 28 (by omega) (by omega) (by omega)
  refine ⟨g', cap', w3, hrun, G.app (.cons k n F .nil), by rw [Fo.app_len]; rfl, allR_snoc hr (lv_right (by omega) hok), k3, ?_⟩
  refine ⟨(o1.trans hb.os).trans hw.os, (o2.trans hb.tape).trans hw.tape, (o3.trans hb.output).trans hw.output, by have := hw.size; omega, fun b hb' => ?_⟩
  have h3 := hw.size
  exact (same b (by omega) (fun e => by have := (ho2.lt b e.symm).1; omega)).trans ((hb.block b (by omega)).trans (hw.block b hb'))

set_option maxRecDepth 100000 in
set_option maxHeartbeats 4000000 in
theorem levels5_any (many len cap B : Nat) (hm : many ≤ 100) (a : Option Addr) (w : World) (hin : RowsIn w (· < B) len a cap) (hB : B ≤ w.heap.size) (hw : 1 ≤ w.heap.size) : Calls Try.prog 18 #[.slice a len cap, .int .i64 many] w (LsPost many w) := by
  have hlen := hin.len
  have HIN := Lib.hid hin
  have HS : Hid (LsR w 0 (.slice none 0 0) w) := Lib.hid ⟨.nil, rfl, rfl, KsOwn.nil _ _, Below.refl _ _⟩
  clear hin
  go_enter Try.func18, Try.ntmps18
  go_wp2_with fail
  go_loopw [5, 6] (fun ov iv wr => ∃ (j : Nat) (v : Value), ov = v ∧ iv = .int .i64 j ∧ j ≤ len ∧ j ≤ many ∧ Hid (LsR w j v wr)) (fun _ iv _ => many - (intOf iv).toNat)
  case atStart => exact ⟨0, _, rfl, rfl, Nat.zero_le _, Nat.zero_le _, HS⟩
  case round =>
    obtain ⟨j, v, rfl, rfl, hj, hjm, hR⟩ := hrel
    have hj0 : (0 : Int) ≤ (j : Int) := by omega
    by_cases hjl : j < len
    · have hjl' : (j : Int) < (len : Int) := by omega
      by_cases hjk : j < many
      · have hjk' : (j : Int) < (many : Int) := by omega
        obtain ⟨b, o, rfl, hbB, hc⟩ := HIN.out.2.2.2 (by omega)
        obtain ⟨a', l', c', hcell, hu⟩ := hc j hjl
        have hb : Below w.heap.size w wr := hR.out.choose_spec.2.2.2
        have hbB' := hb.mono hB
        have e0 := (bcell hbB' b (o + j) hbB).trans hcell
        have HM := Lib.hid (made_any 5 10 (by omega) (by omega) (by omega) (by omega) l' c' B a' wr (hu.keep' (fun b h => hbB'.block b h)) (Nat.le_trans hB hb.size))
        have HN := Lib.hid (fun (w2 : World) (k n : Int) (F : Fo) (x : Option Addr) (c : Nat) (q1 : LvOk 5 10 5 k n F) (q2 : SlIn w2 (fun b => wr.heap.size ≤ b ∧ b < w2.heap.size) F x c) (q3 : Below wr.heap.size wr w2) => hR.out.next hw (by omega) q3 q1 (Nat.le_refl _) q2)
        clear hc hcell hu hb hbB' hR
        go_wp2_with fail
        refine HM.out.mono ?_
        rintro e w2 ⟨k, n, F, x, c, rfl, q1, q2, q3⟩
        obtain ⟨g', cap', w3, hrun, hN⟩ := HN.out w2 k n F x c q1 q2 q3
        have HRUN := Lib.hid hrun
        have HL := Lib.hid hN
        clear hrun hN q1 q2 q3 HN HM
        go_wp2_with (at_builtin; refine wpList_append_run (by rfl) _ _ _ (by rfl) (by rfl) (by rfl) HRUN.out ?_)
        go_roundw
        case rel => exact ⟨j + 1, _, rfl, by go_num, by omega, by omega, HL⟩
        case measure => simp [intOf]; omega
      · have hjk' : ¬ (j : Int) < (many : Int) := by omega
        have dk : decide ((j : Int) < (many : Int)) = false := by simpa using hjk'
        obtain ⟨G, hG, hr, ho, hb⟩ := hR.out
        obtain ⟨x, c, rfl, hsl⟩ := ho.slice
        have HE : Hid (LsPost many w (.returned (.slice x G.len c)) wr) := Lib.hid ⟨G, x, c, rfl, by omega, hr, hsl.weak (fun b h => h.2), hb⟩
        clear ho hsl hR hr hG
        go_wp2_with fail
        go_ret
        exact HE.out
    · have hjl' : ¬ (j : Int) < (len : Int) := by omega
      have dl : decide ((j : Int) < (len : Int)) = false := by simpa using hjl'
      obtain ⟨G, hG, hr, ho, hb⟩ := hR.out
      obtain ⟨x, c, rfl, hsl⟩ := ho.slice
      have HE : Hid (LsPost many w (.returned (.slice x G.len c)) wr) := Lib.hid ⟨G, x, c, rfl, by omega, hr, hsl.weak (fun b h => h.2), hb⟩
      clear ho hsl hR hr hG
      go_wp2_with fail
      go_ret
      exact HE.out
end Go.Proofs.Ytmbopdlmkbbbiaa
