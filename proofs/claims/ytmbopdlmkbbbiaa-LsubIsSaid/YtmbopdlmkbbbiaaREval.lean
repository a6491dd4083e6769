/- The contract of the document's own Eval, for all levels and values. -/
import Derived.Test.YtmbopdlmkbbbiaaValue
import Derived.Test.YtmbopdlmkbbbiaaRRight
namespace Go.Proofs.Ytmbopdlmkbbbiaa
open Go.RowKit

/-- What both Evals answer. -/
def evOk (ps ms : List Int) (k n : Int) (f : Fo) : Bool := rightB ps.length ms.length k n f && (natsB ps && natsB ms)
def evV (ps ms : List Int) (k n : Int) (f : Fo) : Value := if evOk ps ms k n f = true then .tuple #[.int .i64 (vNode ps ms k n (vals ps ms f)), .int .i64 0] else .tuple #[.int .i64 0, .int .i64 1]
theorem evV_r {ps ms : List Int} {k n : Int} {f : Fo} (h : rightB ps.length ms.length k n f = false) : evV ps ms k n f = .tuple #[.int .i64 0, .int .i64 1] := by
  unfold evV evOk; rw [h]; rfl
theorem evV_p {ps ms : List Int} {k n : Int} {f : Fo} (h : natsB ps = false) : evV ps ms k n f = .tuple #[.int .i64 0, .int .i64 1] := by
  unfold evV evOk; rw [h]; simp
theorem evV_m {ps ms : List Int} {k n : Int} {f : Fo} (h : natsB ms = false) : evV ps ms k n f = .tuple #[.int .i64 0, .int .i64 1] := by
  unfold evV evOk; rw [h]; simp
theorem evV_y {ps ms : List Int} {k n : Int} {f : Fo} (h : rightB ps.length ms.length k n f = true) (h1 : natsB ps = true) (h2 : natsB ms = true) : evV ps ms k n f = .tuple #[.int .i64 (vNode ps ms k n (vals ps ms f)), .int .i64 0] := by
  unfold evV evOk; rw [h, h1, h2]; rfl
theorem right_node {p m k n : Int} {f : Fo} (h : rightB p m k n f = true) : rNode p m k n f.len 12 (rAll p m f (12 - 1)) = true := by
  unfold rightB at h
  simp only [Bool.and_eq_true] at h
  exact h.2.2

set_option maxRecDepth 100000 in
set_option maxHeartbeats 2000000 in
theorem rEval_any (ps ms : List Int) (k n : Int) (f : Fo) (a ap am : Option Addr) (cap cp cm B : Nat) (w : World) (hsl : SlIn w (· < B) f a cap) (hip : IntsIn w (· < B) ps ap cp) (him : IntsIn w (· < B) ms am cm) (hB : B ≤ w.heap.size) :
    Calls Try.prog 21 #[.agg #[.int .i64 k, .int .i64 n, .slice a f.len cap], .slice ap ps.length cp, .slice am ms.length cm] w fun e w' => e = .returned (evV ps ms k n f) ∧ Below w.heap.size w w' := by
  have hbox : Below B w (w.alloc (.cells #[.int .i64 k, .int .i64 n, .slice a f.len cap] 30)) := (Below.refl _ _).alloc hB _
  have CR := Lib.hid (fun W h1 h2 => rRight_any ps.length ms.length k n f a cap B W h1 h2)
  have HV := Lib.hid (value_any ps ms)
  have RN := Lib.hid (fun h : rightB ps.length ms.length k n f = true => right_node h)
  have Er := Lib.hid (evV_r (ps := ps) (ms := ms) (k := k) (n := n) (f := f))
  have Ep := Lib.hid (evV_p (ps := ps) (ms := ms) (k := k) (n := n) (f := f))
  have Em := Lib.hid (evV_m (ps := ps) (ms := ms) (k := k) (n := n) (f := f))
  have Ey := Lib.hid (evV_y (ps := ps) (ms := ms) (k := k) (n := n) (f := f))
  generalize rightB ps.length ms.length k n f = v at CR RN Er Ey
  cases v with
  | false =>
    rw [Er.out rfl]
    go_enter Try.func21, Try.ntmps21
    go_wp2_with fail
    refine (CR.out _ (hsl.below hbox) (Nat.le_trans hB hbox.size)).mono ?_
    rintro e w1 ⟨rfl, hb1⟩
    go_wp2_with fail
    go_ret2
    exact ⟨rfl, Below.step ((Below.refl _ _).alloc (Nat.le_refl _) _) hb1 (Nat.le_refl _)⟩
  | true =>
    have NP := Lib.hid (fun W h => naturals_any ps ap cp B W h)
    have NM := Lib.hid (fun W h => naturals_any ms am cm B W h)
    cases hp : natsB ps with
    | false =>
      rw [Ep.out hp]
      rw [hp] at NP
      go_enter Try.func21, Try.ntmps21
      go_wp2_with fail
      refine (CR.out _ (hsl.below hbox) (Nat.le_trans hB hbox.size)).mono ?_
      rintro e w1 ⟨rfl, hb1⟩
      have hb1' := Lib.hid (Below.step hbox hb1 hB)
      go_wp2_with fail
      refine (NP.out _ (hip.below hb1'.out)).mono ?_
      rintro e w2 ⟨rfl, rfl⟩
      go_wp2_with fail
      go_ret2
      exact ⟨rfl, Below.step ((Below.refl _ _).alloc (Nat.le_refl _) _) hb1 (Nat.le_refl _)⟩
    | true =>
      rw [hp] at NP
      cases hm : natsB ms with
      | false =>
        rw [Em.out hm]
        rw [hm] at NM
        clear hp hm
        go_enter Try.func21, Try.ntmps21
        go_wp2_with fail
        refine (CR.out _ (hsl.below hbox) (Nat.le_trans hB hbox.size)).mono ?_
        rintro e w1 ⟨rfl, hb1⟩
        have hb1' := Lib.hid (Below.step hbox hb1 hB)
        go_wp2_with fail
        refine (NP.out _ (hip.below hb1'.out)).mono ?_
        rintro e w2 ⟨rfl, rfl⟩
        go_wp2_with fail
        refine (NM.out _ (him.below hb1'.out)).mono ?_
        rintro e w2 ⟨rfl, rfl⟩
        go_wp2_with fail
        go_ret2
        exact ⟨rfl, Below.step ((Below.refl _ _).alloc (Nat.le_refl _) _) hb1 (Nat.le_refl _)⟩
      | true =>
        rw [Ey.out rfl hp hm]
        rw [hm] at NM
        have HV' := Lib.hid (fun W h1 h2 h3 h4 => HV.out hp hm (f.size + 1) f (Nat.lt_succ_self _) k n 12 a ap am cap cp cm B W h1 h2 h3 h4 (by omega) (RN.out rfl))
        clear HV hp hm
        go_enter Try.func21, Try.ntmps21
        go_wp2_with fail
        refine (CR.out _ (hsl.below hbox) (Nat.le_trans hB hbox.size)).mono ?_
        rintro e w1 ⟨rfl, hb1⟩
        have hb1' := Lib.hid (Below.step hbox hb1 hB)
        have hb1'' : Below (w.heap.size + 1) (w.alloc (.cells #[.int .i64 k, .int .i64 n, .slice a f.len cap] 30)) w1 := by simpa using hb1
        have c0 := bcell hb1'' w.heap.size 0 (by omega)
        have c1 := bcell hb1'' w.heap.size 1 (by omega)
        have c2 := bcell hb1'' w.heap.size 2 (by omega)
        simp at c0 c1 c2
        clear hb1
        go_wp2_with fail
        refine (NP.out _ (hip.below hb1'.out)).mono ?_
        rintro e w2 ⟨rfl, rfl⟩
        go_wp2_with fail
        refine (NM.out _ (him.below hb1'.out)).mono ?_
        rintro e w2 ⟨rfl, rfl⟩
        go_wp2_with fail
        refine (HV'.out _ (hsl.below hb1'.out) (hip.below hb1'.out) (him.below hb1'.out) (Nat.le_trans hB hb1'.out.size)).mono ?_
        rintro e w3 ⟨rfl, hb3⟩
        go_wp2_with fail
        go_ret2
        exact ⟨rfl, Below.step (((Below.refl _ _).alloc (Nat.le_refl _) _).trans (hb1''.mono (by omega))) hb3 (Nat.le_refl _)⟩
end Go.Proofs.Ytmbopdlmkbbbiaa
