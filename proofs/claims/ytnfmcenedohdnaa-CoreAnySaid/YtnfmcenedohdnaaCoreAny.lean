/- For every number of variables, all clauses and places the law CoreAny returns true: what the program tells of them is what the document's own answer tells. No condition. -/
import Derived.Test.YtnfmcenedohdnaaKaw
import Derived.Test.YtnfmcenedohdnaaKprov
import Derived.Test.YtnfmcenedohdnaaHopen
import Derived.Carry
namespace Go.Proofs.Ytnfmcenedohdnaa.coreAny
open Go.ChangeShapes Go.WideShapes Go.ChangeAt Go.RowKit

set_option maxRecDepth 100000 in
set_option maxHeartbeats 8000000 in
theorem walk (hC : CoreC) (hP : ProvC) (vars : Int) (l : List Cl) (m : List Int) (a am : Option Addr) (cap cm B : Nat) (w : World) (hin : ClsIn w (· < B) l a cap) (him : IntsIn w (· < B) m am cm) (hB : B ≤ w.heap.size) :
    Calls Try.prog 3 #[.int .i64 vars, .slice a l.length cap, .slice am m.length cm] w fun e w' => e = .returned (.bool true) ∧ Below w.heap.size w w' := by
  have hlen := hin.len
  have hlm := him.len
  have CT := Lib.hid (fun W (h : Below w.heap.size w W) (hl : m.length ≤ 1000) => same10_any hC hP vars l m a am cap cm B W (hin.below (h.mono hB)) (him.below (h.mono hB)) (Nat.le_trans hB h.size) hl)
  have CA := Lib.hid (fun W => awake10_any hC hP W)
  have HI := Lib.hid hin
  clear hin him hC hP
  go_enter Try.func3, Try.ntmps3
  go_wp2_with fail
  go_loop [7, 8] (fun nv iv => ∃ (n : Int) (i : Nat), nv = .int .i64 n ∧ iv = .int .i64 i ∧ i ≤ l.length) (fun _ iv => l.length - (intOf iv).toNat)
  case atStart => exact ⟨0, 0, rfl, rfl, Nat.zero_le _⟩
  case round =>
    obtain ⟨n, i, rfl, rfl, hi⟩ := hrel
    have hi0 : (0 : Int) ≤ (i : Int) := by omega
    by_cases hgo : i < l.length ∧ n ≤ 100
    · obtain ⟨hil, hn⟩ := hgo
      have d1 : decide (n ≤ 100) = true := decide_eq_true hn
      have hil' : (i : Int) < (l.length : Int) := by omega
      obtain ⟨b, o, fr, tv, to, a', c', rfl, hbB, hget, e0, hat, e1, e2⟩ := HI.out.at hil
      have hfl := hat.len
      clear hget hat e1
      by_cases hto : 20 < to ∧ to ≤ 1000
      · have d4 : decide (20 < to) = true := decide_eq_true hto.1
        have d5 : decide (to ≤ 1000) = true := decide_eq_true hto.2
        clear hto
        go_wp2_with (go_at_call 7; refine (CA.out _).mono ?_; rintro e w1 ⟨rfl, hb1⟩)
        go_ret
        exact ⟨rfl, hb1⟩
      · by_cases h20 : 20 < to
        · have d4 : decide (20 < to) = true := decide_eq_true h20
          have d5 : decide (to ≤ 1000) = false := decide_eq_false (fun h => hto ⟨h20, h⟩)
          clear hto
          go_wp2_with fail
          go_round
          case rel => exact ⟨_, i + 1, rfl, by go_num, by omega⟩
          case measure => simp [intOf]; omega
        · have d4 : decide (20 < to) = false := decide_eq_false h20
          clear hto
          go_wp2_with fail
          go_round
          case rel => exact ⟨_, i + 1, rfl, by go_num, by omega⟩
          case measure => simp [intOf]; omega
    · by_cases hil : i < l.length
      · have hil' : (i : Int) < (l.length : Int) := by omega
        have d1 : decide (n ≤ 100) = false := decide_eq_false (fun h => hgo ⟨hil, h⟩)
        have d2 : decide (100 < n) = true := decide_eq_true (by have : ¬ n ≤ 100 := fun h => hgo ⟨hil, h⟩; omega)
        clear hgo
        go_wp2_with (go_at_call 7; refine (CA.out _).mono ?_; rintro e w1 ⟨rfl, hb1⟩)
        go_ret
        exact ⟨rfl, hb1⟩
      · have hil' : decide ((i : Int) < (l.length : Int)) = false := by simp; omega
        clear hgo
        by_cases hn : 100 < n
        · have d2 : decide (100 < n) = true := decide_eq_true hn
          go_wp2_with (go_at_call 7; refine (CA.out _).mono ?_; rintro e w1 ⟨rfl, hb1⟩)
          go_ret
          exact ⟨rfl, hb1⟩
        · have d2 : decide (100 < n) = false := decide_eq_false hn
          by_cases hm : 100 < m.length
          · have d3 : decide ((100 : Int) < (m.length : Int)) = true := by simp; omega
            go_wp2_with (go_at_call 7; refine (CA.out _).mono ?_; rintro e w1 ⟨rfl, hb1⟩)
            go_ret
            exact ⟨rfl, hb1⟩
          · have d3 : decide ((100 : Int) < (m.length : Int)) = false := by simp; omega
            have hm' : m.length ≤ 1000 := by omega
            go_wp2_with (first | (go_at_call 7; refine (CA.out _).mono ?_; rintro e w1 ⟨rfl, hb1⟩) | (go_at_call 8; refine (CT.out _ hb1 hm').mono ?_; rintro e w2 ⟨rfl, hb2⟩))
            go_ret
            exact ⟨rfl, Below.step hb1 hb2 (Nat.le_refl _)⟩

theorem own : ownKnob Try.prog.godebug = none := by kernel_rfl

set_option maxRecDepth 100000 in
theorem lifted (hC : CoreC) (hP : ProvC) (os : Os) (started : os.Started) (H : Type) (enc : TypeId × Value → H) :
    ReturnsInHanded {} Try.checked os 3 .any (Rows.coreAnySpec.pre6 enc Try.prog Try.f3 Rows.coreAnyRow.domain false) (Rows.coreAnySpec.post enc Try.prog Try.f3 false true false false) := by
  refine returnsInHanded_of_change (C := Try.checked) own started (by kernel_rfl) Try.func3
    (ChangeSpec.witness6 (enc := enc) (C := Try.checked) false ⟨#[], #[.int .i64 0, .slice none 0 0, .slice none 0 0], []⟩ 8 (by kernel_rfl) (by kernel_rfl) (by kernel_rfl) (by kernel_rfl)) ?_
  intro W base args ds gs before hval0 hW hcnd _
  have hval : ∀ (j : Nat) t v, Try.f3.params[j]? = some t → args[j]? = some v → Value.okWide Try.prog W .any base t v := hval0
  have hW' := hW
  obtain ⟨p, q, hA0, hV, rfl, hfz, hnd⟩ := hW
  have hA : DataW.TrodAll enc Try.prog W 0 (fun _ => true) true Try.f3.params.toList args.toList ds p := hA0
  rw [Try.params3] at hA hval
  obtain ⟨v0, vs0, d0, ds0, p0, q0, hargs, rfl, rfl, h0, hr0⟩ := trodAll_cons hA
  obtain ⟨v1, vs1, d1, ds1, p1, q1, rfl, rfl, rfl, h1, hr1⟩ := trodAll_cons hr0
  obtain ⟨v2, vs2, d2, ds2, p2, q2, rfl, rfl, rfl, h2, hr2⟩ := trodAll_cons hr1
  obtain ⟨rfl, rfl, rfl⟩ := trodAll_nil hr2
  obtain rfl : args = #[v0, v1, v2] := by cases args; simp_all
  obtain ⟨rfl, rfl⟩ := trodVars_none hV
  obtain ⟨N, rfl, rfl, rfl, w0⟩ := open_int Try.underlying3 (hval 0 3 v0 rfl rfl) h0
  obtain ⟨l, a, cap, rfl, hs1⟩ := h_arg_clauses (hval 1 22 v1 rfl rfl) h1
  obtain ⟨m, am, cm, rfl, hs2⟩ := h_arg_ints (hval 2 23 v2 rfl rfl) h2
  have hlt := hW'.lt
  refine (walk hC hP N l m a am cap cm W.heap.size W hs1 hs2 (Nat.le_refl _)).mono fun e W' ⟨he, hb⟩ => ?_
  subst he
  have t1 := Below.trod h_laidOut (by kernel_rfl) (of_decide_eq_true (by kernel_rfl)) h1 hb (fun x hx => hlt x (by simp [hx]))
  have t2 := Below.trod h_laidOut (by kernel_rfl) (of_decide_eq_true (by kernel_rfl)) h2 hb (fun x hx => hlt x (by simp [hx]))
  exact ⟨_, rfl, ⟨_, _, _, [], _, [], hW', trodAll_mk1 (shut_bool Try.underlying4 _), ⟨_, _, shut_int Try.underlying3 w0, trodAll_mk2 t1 t2, rfl⟩, rfl, hb.frame _, fun h => by cases h⟩⟩

theorem over : Rows.coreAnyRow.holds Try.pinned (OpenSpec.ofChange Rows.coreAnySpec) :=
  OpenClaim.holds_of_wide 3 Try.f3 rfl rfl rfl rfl rfl rfl rfl ⟨rfl, rfl, rfl, rfl, rfl⟩ rfl rfl rfl rfl rfl (by kernel_rfl) Try.func3 (by kernel_rfl)
    (of_decide_eq_true (by kernel_rfl)) (by unfold Func.isWrapper; first | (rw [if_pos (by decide +kernel)]; kernel_rfl) | (rw [if_neg (by decide +kernel)]; exact ⟨rfl, rfl⟩))
    (fun os started H enc _ => lifted coreC provC os started H enc)

/-- THE STATEMENT -/
theorem proved : Rows.CoreAnySaid :=
  over
#print axioms proved
end Go.Proofs.Ytnfmcenedohdnaa.coreAny
