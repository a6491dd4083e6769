/- The contract of the law's maker of clauses by numbers: it makes right ones, at most 30, in a row of its own. Condition: the numbers lie in memory. -/
import Derived.Test.YtglggigndhbpcaaZHvars
import Derived.Test.YtglggigndhbpcaaZHmake
import Derived.Test.YtglggigndhbpcaaZHr
import Derived.Test.YtglggigndhbpcaaZWpl
import Derived.RegionTactic
import Derived.ChangeAlike
import Derived.Deep.QuietTactic
import Derived.BigQuiet
namespace Go.Proofs.Ytglggigndhbpcaa
open Go.RowKit

/-- What Made answers. -/
def McPost (V : Nat) (w : World) (e : Ending) (w' : World) : Prop :=
  ∃ (l : List Cl) (x : Option Addr) (c : Nat), e = .returned (.slice x l.length c) ∧ COwn w' w.heap.size (.slice x l.length c) l ∧ l.all (clB V) = true ∧ l.length ≤ 30 ∧ Below w.heap.size w w'
/-- The clause that is made, in its variable: so many atoms have come. -/
def McIn (X : Nat) (V : Nat) (M : Int) (q : Nat) (W0 wq : World) : Prop :=
  ∃ (v : Value) (fr : List At) (tv to : Int), wq.heap[X]? = some (.cells #[v, .int .i64 tv, .int .i64 to] 35 (0, 0)) ∧ AOwn wq (X + 1) v fr ∧ fr.all (atB V) = true ∧ atB V (tv, to) = true ∧ ((q : Int) ≤ M → fr.length = q) ∧ ((q : Int) = M + 1 → (fr.length : Int) = M) ∧ Below X W0 wq

/-- The clause with an atom From more. -/
theorem McIn.push {X V q : Nat} {M : Int} {W0 W1 : World} (h : McIn X V M q W0 W1) (x : At) (hx : atB V x = true) (hq : (q : Int) < M) (hM : M ≤ 3) :
    ∃ xv cv n g c w3, ((W1.alloc (.cells #[.int .i64 x.1, .int .i64 x.2] 27)).drew).cell? ⟨X, 0, none⟩ = some (.slice xv n cv) ∧
      Hid ((Builtin.append_ #[28, 28] 28 #[.slice xv n cv, .slice (some ⟨W1.heap.size + 1, 0, none⟩) 1 1]).run Try.prog ((W1.alloc (.cells #[.int .i64 x.1, .int .i64 x.2] 27)).drew.alloc (.cells #[.int .i64 x.1, .int .i64 x.2] 27)) = .ok (.slice (some ⟨g, 0, none⟩) (n + 1) c) w3) ∧
      w3.cell? ⟨X, 0, none⟩ = some (.slice xv n cv) ∧ w3.frozen? ⟨X, 0, none⟩ = false ∧ n ≤ 3 ∧ Hid (McIn X V M (q + 1) W0 (w3.setCell ⟨X, 0, none⟩ (.slice (some ⟨g, 0, none⟩) (n + 1) c))) := by
  obtain ⟨v, fr, tv, to, hX, hao, hfr, htv, hl1, hl2, hbq⟩ := h
  obtain ⟨xv, cv, rfl⟩ := hao.form
  have hXl := lt_of_block hX
  have hlen := hl1 (by omega)
  have hX2 : ((W1.alloc (.cells #[.int .i64 x.1, .int .i64 x.2] 27)).drew).heap[X]? = some (.cells #[.slice xv fr.length cv, .int .i64 tv, .int .i64 to] 35 (0, 0)) := (heap_old W1 _ hXl).trans hX
  have hz2 : ((W1.alloc (.cells #[.int .i64 x.1, .int .i64 x.2] 27)).drew).heap.size = W1.heap.size + 1 := by simp
  have hao2 : AOwn ((W1.alloc (.cells #[.int .i64 x.1, .int .i64 x.2] 27)).drew) (X + 1) (.slice xv fr.length cv) fr := hao.keep (fun g hg => heap_old W1 _ (hao.lt g hg).2)
  have hb2 : Below X W0 ((W1.alloc (.cells #[.int .i64 x.1, .int .i64 x.2] 27)).drew) := (hbq.alloc (by omega) _).drew
  generalize (W1.alloc (.cells #[.int .i64 x.1, .int .i64 x.2] 27)).drew = W2 at hX2 hz2 hao2 hb2 ⊢
  obtain ⟨g, c, w3, hrun, h3, ht⟩ := hao2.push 28 x (by omega) (by omega)
  rw [hz2] at hrun
  have hno : ∀ b, b ≤ X → ¬ OwnB (.slice xv fr.length cv) b := fun b hb hO => by have := (hao2.lt b hO).1; omega
  have hX3 := (ht.2.2.2.2.1 X (by omega) (hno X (Nat.le_refl _))).trans hX2
  have hb3 : Below X W0 w3 := hb2.trans (ht.low (by omega) (fun b hO => by have := (hao2.lt b hO).1; omega))
  have hg := h3.lt g rfl
  refine ⟨xv, cv, fr.length, g, c, w3, cell_at hX2 0, Lib.hid hrun, cell_at hX3 0, free_of hX3 0, by omega, Lib.hid ⟨.slice (some ⟨g, 0, none⟩) (fr.length + 1) c, fr ++ [x], tv, to, heap_setCell_same w3 X 0 _ _ _ hX3, ?_, by rw [List.all_append, hfr]; simpa using hx, htv, (fun _ => by rw [List.length_append]; simp; omega), (fun h => by omega), hb3.setCell (p := ⟨X, 0, none⟩) (Nat.le_refl _) _⟩⟩
  exact h3.keep (fun b hO => Below.heap_setCell _ _ _ _ (show b ≠ X by have := (h3.lt b hO).1; omega))
/-- The clause with its To. -/
theorem McIn.last {X V q : Nat} {M : Int} {W0 W1 : World} (h : McIn X V M q W0 W1) (x : At) (hx : atB V x = true) (hq : (q : Int) = M) :
    (W1.alloc (.cells #[.int .i64 x.1, .int .i64 x.2] 27)).frozen? ⟨X, 1, none⟩ = false ∧ (W1.alloc (.cells #[.int .i64 x.1, .int .i64 x.2] 27)).frozen? ⟨X, 2, none⟩ = false ∧
      (∃ u, (W1.alloc (.cells #[.int .i64 x.1, .int .i64 x.2] 27)).cell? ⟨X, 1, none⟩ = some u) ∧ (∃ u, (W1.alloc (.cells #[.int .i64 x.1, .int .i64 x.2] 27)).cell? ⟨X, 2, none⟩ = some u) ∧
      Hid (McIn X V M (q + 1) W0 ((((W1.alloc (.cells #[.int .i64 x.1, .int .i64 x.2] 27)).setCell ⟨X, 1, none⟩ (.int .i64 x.1)).setCell ⟨X, 2, none⟩ (.int .i64 x.2)).drew)) := by
  obtain ⟨v, fr, tv, to, hX, hao, hfr, htv, hl1, hl2, hbq⟩ := h
  have hXl := lt_of_block hX
  have hX2 : (W1.alloc (.cells #[.int .i64 x.1, .int .i64 x.2] 27)).heap[X]? = some (.cells #[v, .int .i64 tv, .int .i64 to] 35 (0, 0)) := (heap_old W1 _ hXl).trans hX
  have hao2 : AOwn (W1.alloc (.cells #[.int .i64 x.1, .int .i64 x.2] 27)) (X + 1) v fr := hao.keep (fun g hg => heap_old W1 _ (hao.lt g hg).2)
  have hb2 : Below X W0 (W1.alloc (.cells #[.int .i64 x.1, .int .i64 x.2] 27)) := hbq.alloc (by omega) _
  generalize W1.alloc (.cells #[.int .i64 x.1, .int .i64 x.2] 27) = W2 at hX2 hao2 hb2 ⊢
  have h3 := heap_setCell_same _ X 2 _ _ (.int .i64 x.2) (heap_setCell_same W2 X 1 _ _ (.int .i64 x.1) hX2)
  have hao3 : AOwn ((W2.setCell ⟨X, 1, none⟩ (.int .i64 x.1)).setCell ⟨X, 2, none⟩ (.int .i64 x.2)) (X + 1) v fr := hao2.keep (fun b hO => (Below.heap_setCell _ _ _ _ (show b ≠ X by have := (hao2.lt b hO).1; omega)).trans (Below.heap_setCell _ _ _ _ (show b ≠ X by have := (hao2.lt b hO).1; omega)))
  exact ⟨free_of hX2 1, free_of hX2 2, ⟨_, cell_at hX2 1⟩, ⟨_, cell_at hX2 2⟩, Lib.hid ⟨v, fr, x.1, x.2, h3, hao3, hfr, hx, (fun h => by omega), (fun h => by have := hl1 (by omega); omega), ((hb2.setCell (p := ⟨X, 1, none⟩) (Nat.le_refl _) _).setCell (p := ⟨X, 2, none⟩) (Nat.le_refl _) _).drew⟩⟩
/-- The clause, when it is made. -/
theorem McIn.fin {X V q : Nat} {M : Int} {W0 W1 : World} (h : McIn X V M q W0 W1) (h1 : 1 ≤ M) (h3 : M ≤ 3) (hq : 1 ≤ q) (hqM : (q : Int) ≤ M + 1) :
    ∃ xv cv fr tv to, W1.heap[X]? = some (.cells #[.slice xv fr.length cv, .int .i64 tv, .int .i64 to] 35 (0, 0)) ∧ AtsIn W1 (fun b => X + 1 ≤ b ∧ b < W1.heap.size) fr xv cv ∧ clB V (fr, (tv, to)) = true ∧ Below X W0 W1 := by
  obtain ⟨v, fr, tv, to, hX, hao, hfr, htv, hl1, hl2, hbq⟩ := h
  obtain ⟨xv, cv, rfl⟩ := hao.form
  have hlo : 1 ≤ fr.length ∧ fr.length ≤ 6 := by
    by_cases e : (q : Int) ≤ M
    · have := hl1 e; omega
    · have := hl2 (by omega); omega
  exact ⟨xv, cv, fr, tv, to, hX, hao.ats, by rw [clB_is, htv, hfr, decide_eq_true hlo.1, decide_eq_true hlo.2]; rfl, hbq⟩

set_option maxRecDepth 100000 in
set_option maxHeartbeats 8000000 in
theorem made8_any (n : Int) (h0 : 0 ≤ n) (h1 : n < 256) (len cap B : Nat) (a : Option Addr) (w : World) (hin : ByIn w (· < B) len a cap) (hB : B ≤ w.heap.size) :
    Calls Try.prog 15 #[.int .u8 n, .slice a len cap] w (McPost (varsN n) w) := by
  have hlen := hin.lenLe
  have CV := Lib.hid (vars8_any n h0 h1 w)
  obtain ⟨hV1, hV2⟩ := varsN_bd n
  generalize varsN n = V at CV hV1 hV2 ⊢
  have HI := Lib.hid hin
  clear hin
  go_enter Try.func15, Try.ntmps15
  go_wp2_with (go_at_call 18; refine CV.out.mono ?_; rintro e w' ⟨rfl, rfl⟩)
  go_loopw [6, 7] (fun uv iv wr => ∃ (i : Nat) (u : Value) (l : List Cl), uv = u ∧ iv = .int .i64 i ∧ i ≤ len ∧ Hid (COwn wr w.heap.size u l) ∧ Hid (l.all (clB V) = true) ∧ l.length ≤ 30 ∧ Below w.heap.size w wr) (fun _ iv _ => len - (intOf iv).toNat)
  case atStart => exact ⟨0, _, [], rfl, rfl, by omega, Lib.hid (COwn.nil _ _), Lib.hid rfl, by simp, Below.refl _ _⟩
  case round =>
    obtain ⟨i, u, l, rfl, rfl, hi, hown, hall, hl30, hb⟩ := hrel
    obtain ⟨x, c, rfl⟩ := hown.out.form
    have hi0 : (0 : Int) ≤ (i : Int) := by omega
    by_cases h2 : i < len
    · have d1 : decide ((i : Int) < (len : Int)) = true := by simp; omega
      by_cases h3 : l.length < 30
      · have d2 : decide ((l.length : Int) < 30) = true := by simp; omega
        obtain ⟨g, o, z, rfl, hgB, z0, z1, hz⟩ := (HI.out.below (hb.mono hB)).at h2
        obtain ⟨W0, rfl⟩ : ∃ W0, W0 = wr := ⟨_, rfl⟩
        have HB := Lib.hid hb
        have e0 := Int.emod_nonneg z (b := 3) (by omega)
        have e1 := Int.emod_lt_of_pos z (b := 3) (by omega)
        have HS : Hid (∀ M : Int, 1 ≤ M → McIn W0.heap.size V M 0 W0 (W0.alloc (.cells #[.slice none 0 0, .int .i64 0, .int .i64 0] 35))) := Lib.hid (fun M hM => ⟨_, [], 0, 0, heap_new _ _, AOwn.nil _ _, rfl, by simp [atB]; omega, (fun _ => rfl), (fun h => by omega), (Below.refl _ _).alloc (Nat.le_refl _) _⟩)
        have m1 : 1 ≤ 1 + z % 3 := by omega
        have m2 : 1 + z % 3 ≤ 3 := by omega
        go_wp2_with fail
        generalize 1 + z % 3 = M at *
        clear e0 e1 z0 z1 hz
        go_loopw [7, 10] (fun iv kv wq => ∃ (p q : Nat), iv = .int .i64 p ∧ kv = .int .i64 q ∧ Hid (p = i + q) ∧ p ≤ len ∧ (q : Int) ≤ M + 1 ∧ Hid (McIn W0.heap.size V M q W0 wq)) (fun iv _ _ => len - (intOf iv).toNat)
        case atStart => exact ⟨i, 0, rfl, rfl, Lib.hid rfl, hi, by omega, Lib.hid (HS.out _ m1)⟩
        case round =>
          obtain ⟨p, q, rfl, rfl, hp, hpl, hqM, hmc⟩ := hrel
          have hp0 : (0 : Int) ≤ (p : Int) := by omega
          by_cases hgo : (q : Int) ≤ M ∧ p < len
          · obtain ⟨hq, hplt⟩ := hgo
            have d3 : decide ((q : Int) ≤ M) = true := decide_eq_true hq
            have d4 : decide ((p : Int) < (len : Int)) = true := by simp; omega
            have hpl' : (p : Int) < (len : Int) := by omega
            obtain ⟨v, fr, tv, to, hX, hao, hfr, htv, hl1, hl2, hbq⟩ := id hmc.out
            have HBq := Lib.hid (Below.step HB.out hbq (Nat.le_refl _))
            obtain ⟨g', o', z2, hgo', hgB', z20, z21, hz2⟩ := (HI.out.below (HBq.out.mono hB)).at hplt
            cases hgo'
            obtain ⟨W1, rfl⟩ : ∃ W1, W1 = wr := ⟨_, rfl⟩
            have hgl : g < W1.heap.size := by have := HBq.out.size; omega
            have hz3 := heap_cell_old W1 (.cells #[.int .i64 0, .int .i64 0] 27) hgl hz2
            have q1 := Int.emod_nonneg (z2 / 4) (b := (V : Int)) (by omega)
            have q2 := Int.emod_lt_of_pos (z2 / 4) (b := (V : Int)) (by omega)
            have q3 := Int.emod_nonneg (z2 / 32) (b := 3) (by omega)
            have q4 := Int.emod_lt_of_pos (z2 / 32) (b := 3) (by omega)
            have hVn : (V : Int) ≠ 0 := by omega
            have hV0 : (0 : Int) < (V : Int) := by omega
            go_wp2_with fail
            have hx : atB V (z2 / 4 % (V : Int), z2 / 32 % 3) = true := by simp [atB]; omega
            have HX1 := Lib.hid (fun (h : (q : Int) < M) => hmc.out.push (z2 / 4 % (V : Int), z2 / 32 % 3) hx h m2)
            have HX2 := Lib.hid (fun (h : (q : Int) = M) => hmc.out.last (z2 / 4 % (V : Int), z2 / 32 % 3) hx h)
            clear hX hao hfr htv hl1 hl2 hbq hx
            go_region
            clear hz2 hz3
            generalize z2 / 4 % (V : Int) = av at *
            generalize z2 / 32 % 3 = ao at *
            by_cases hqm : (q : Int) < M
            · obtain ⟨xv, cv, nn, g3, c3, w3, cX, HRUN, cX3, fX3, hn3, HMC⟩ := HX1.out hqm
              have d5 : decide ((q : Int) < M) = true := decide_eq_true hqm
              clear HX1 HX2
              go_wp2_with (at_builtin; refine wpList_append_run (by rfl) _ _ _ (by rfl) (by rfl) (by rfl) HRUN.out ?_)
              go_roundw
              case rel => exact ⟨p + 1, q + 1, by go_num, by go_num, Lib.hid (by have := hp.out; omega), by omega, by omega, HMC⟩
              case measure => simp [intOf]; omega
            · obtain ⟨fX1, fX2, ⟨u1, cX1⟩, ⟨u2, cX2⟩, HMC⟩ := HX2.out (by omega)
              have d5 : decide ((q : Int) < M) = false := decide_eq_false hqm
              clear HX1 HX2
              go_wp2_with fail
              go_roundw
              case rel => exact ⟨p + 1, q + 1, by go_num, by go_num, Lib.hid (by have := hp.out; omega), by omega, by omega, HMC⟩
              case measure => simp [intOf]; omega
          · have hp1 := hp.out
            have hq1 : 1 ≤ q := by
              rcases Nat.eq_zero_or_pos q with h | h
              · exfalso; have := hp.out; exact hgo ⟨by omega, by omega⟩
              · exact h
            obtain ⟨xv, cv, fr, tv, to, hX, hat, hclb, hbq⟩ := hmc.out.fin m1 m2 hq1 hqM
            have c0 := cell_at hX 0
            have c1 := cell_at hX 1
            have c2 := cell_at hX 2
            simp at c0 c1 c2
            have HBq := Lib.hid (Below.step HB.out hbq (Nat.le_refl _))
            have hco : COwn wr w.heap.size (.slice x l.length c) l := hown.out.keep hbq.size (fun b _ hb2 => hbq.block b hb2)
            obtain ⟨g2, k2, w3, hrun, hco3, ht3⟩ := hco.push 22 (fr, (tv, to)) (hat.weak (fun b hb => ⟨by have := HB.out.size; omega, hb.2, fun hO => by have := (hown.out.lt b hO).2; omega⟩)) (by omega) HBq.out.size
            have HRUN := Lib.hid hrun
            have HCO := Lib.hid hco3
            have HB3 := Lib.hid (HBq.out.trans (ht3.low HBq.out.size (fun b hO => (hco.lt b hO).1)))
            have HALL : Hid ((l ++ [(fr, (tv, to))]).all (clB V) = true) := Lib.hid (by rw [List.all_append, hall.out]; simpa using hclb)
            have hpi : i < p := by have := hp.out; omega
            clear hX hat hclb hbq hco hrun hco3 ht3
            by_cases hq : (q : Int) ≤ M
            · have d3 : decide ((q : Int) ≤ M) = true := decide_eq_true hq
              have hpn : ¬ p < len := fun h => hgo ⟨hq, h⟩
              have d4 : decide ((p : Int) < (len : Int)) = false := by simp; omega
              clear hgo hp1
              go_wp2_with (at_builtin; refine wpList_append_run (by rfl) _ _ _ (by rfl) (by rfl) (by rfl) HRUN.out ?_)
              go_roundw
              case rel => exact ⟨p, _, l ++ [(fr, (tv, to))], rfl, rfl, hpl, HCO, HALL, by rw [List.length_append]; simp; omega, HB3.out⟩
              case measure => simp [intOf]; omega
            · have d3 : decide ((q : Int) ≤ M) = false := decide_eq_false hq
              clear hgo hp1
              go_wp2_with (at_builtin; refine wpList_append_run (by rfl) _ _ _ (by rfl) (by rfl) (by rfl) HRUN.out ?_)
              go_roundw
              case rel => exact ⟨p, _, l ++ [(fr, (tv, to))], rfl, rfl, hpl, HCO, HALL, by rw [List.length_append]; simp; omega, HB3.out⟩
              case measure => simp [intOf]; omega
      · have d2 : decide ((l.length : Int) < 30) = false := by simp; omega
        have HE : Hid (McPost V w (.returned (.slice x l.length c)) wr) := Lib.hid ⟨l, x, c, rfl, hown.out, hall.out, hl30, hb⟩
        clear hown hall
        go_wp2_with fail
        go_ret
        exact HE.out
    · have d1 : decide ((i : Int) < (len : Int)) = false := by simp; omega
      have HE : Hid (McPost V w (.returned (.slice x l.length c)) wr) := Lib.hid ⟨l, x, c, rfl, hown.out, hall.out, hl30, hb⟩
      clear hown hall
      go_wp2_with fail
      go_ret
      exact HE.out
end Go.Proofs.Ytglggigndhbpcaa
