/- The contract of the document's own measure of nodes: how deep each node's level is, and how many levels it has, but no more than 1000 are counted. No condition but that the nodes lie in memory and are an arena. -/
import Derived.Test.YtmbopdlmkbbbiaaAlv
import Derived.Test.YtmbopdlmkbbbiaaWpl
import Derived.Test.YtmbopdlmkbbbiaaIown
import Derived.Test.YtmbopdlmkbbbiaaCell
import Derived.Maps.AppendAt
import Derived.IntWalk
import Derived.Deep.DeepCutAuto
namespace Go.Proofs.Ytmbopdlmkbbbiaa
open Go.RowKit

/-- The numbers that measure tells. -/
def deeps (ns : List Nd) (j : Nat) : List Int := (List.range j).map fun i => (dF (tr ns i) : Int)
def sizes (ns : List Nd) (j : Nat) : List Int := (List.range j).map fun i => ((min (tr ns i).size 1000 : Nat) : Int)
theorem deeps_len (ns : List Nd) (j : Nat) : (deeps ns j).length = j := by simp [deeps]
theorem sizes_len (ns : List Nd) (j : Nat) : (sizes ns j).length = j := by simp [sizes]
theorem deeps_at (ns : List Nd) {i j : Nat} (h : i < j) : (deeps ns j).getD i 0 = dF (tr ns i) := by simp [deeps, List.getD_eq_getElem?_getD, h]
theorem sizes_at (ns : List Nd) {i j : Nat} (h : i < j) : (sizes ns j).getD i 0 = (min (tr ns i).size 1000 : Nat) := by simp [sizes, List.getD_eq_getElem?_getD, h]
theorem deeps_succ (ns : List Nd) (j : Nat) : deeps ns (j + 1) = deeps ns j ++ [(dF (tr ns j) : Int)] := by simp [deeps, List.range_succ]
theorem sizes_succ (ns : List Nd) (j : Nat) : sizes ns (j + 1) = sizes ns j ++ [((min (tr ns j).size 1000 : Nat) : Int)] := by simp [sizes, List.range_succ]
theorem dF_tr {ns : List Nd} (hr : rightN ns = true) : ∀ i : Nat, i < ns.length → dF (tr ns i) ≤ i + 1 := by
  intro i
  induction i using Nat.strongRecOn with
  | ind i ih =>
    intro hi
    obtain ⟨hT, hf⟩ := tr_at hr (List.getElem?_eq_getElem hi)
    rw [hT]
    rcases nK_cases ns[i].k with h0 | h0 | h0
    · rw [kd_0 h0]; simp [dF]
    · have ha := fits_a hf (by omega)
      have := ih ns[i].a.toNat (by omega) (by omega)
      rw [kd_1 h0]; simp only [dF]; omega
    · have ha := fits_a hf (by omega)
      have hb := fits_b hf (by omega)
      have h1 := ih ns[i].a.toNat (by omega) (by omega)
      have h2 := ih ns[i].b.toNat (by omega) (by omega)
      rw [kd_2 h0]; simp only [dF, dF_app]; omega
/-- What stands in memory while the nodes are measured. -/
def MsR (ns : List Nd) (w : World) (a : Option Addr) (cap j : Nat) (v1 v2 : Value) (wr : World) : Prop :=
  wr.heap[w.heap.size]? = some (.cells #[.slice a ns.length cap] 26 (0, 0)) ∧ IOwn wr (w.heap.size + 1) v1 (deeps ns j) ∧ IOwn wr (w.heap.size + 1) v2 (sizes ns j) ∧ (∀ g, v1.ownBlock = some g → v2.ownBlock ≠ some g) ∧ Below w.heap.size w wr
/-- A node more has been measured: both appends, and what lies there then. -/
theorem MsR.next {ns : List Nd} {w : World} {a : Option Addr} {cap j : Nat} {v1 v2 : Value} {wr : World} (h : MsR ns w a cap j v1 v2 wr) (hj : j ≤ 1000) (o : Obj) (z1 z2 : Int) :
    ∃ v1' w1 v2' w2, (Builtin.append_ #[35, 35] 35 #[v1, .slice (some ⟨wr.heap.size + 1, 0, none⟩) 1 1]).run Try.prog ((wr.alloc o).alloc (.cells #[.int .i64 z1] 3)) = .ok v1' w1 ∧
      (Builtin.append_ #[35, 35] 35 #[v2, .slice (some ⟨w1.heap.size, 0, none⟩) 1 1]).run Try.prog (w1.alloc (.cells #[.int .i64 z2] 3)) = .ok v2' w2 ∧
      (z1 = dF (tr ns j) → z2 = (min (tr ns j).size 1000 : Nat) → MsR ns w a cap (j + 1) v1' v2' w2) := by
  obtain ⟨h1, h2, h3, h4, h5⟩ := h
  have hlt := lt_of_block h1
  have e1 : IOwn (wr.alloc o) (w.heap.size + 1) v1 (deeps ns j) := World.ownsRow.alloc h2 o
  obtain ⟨v1', w1, r1, k1, g1, n1⟩ := e1.append 35 z1 (by rw [deeps_len]; omega) (by simp; omega)
  rw [World.size_alloc] at r1 n1
  have sz1 := g1.size
  rw [World.size_alloc, World.size_alloc] at sz1
  have e2 : IOwn w1 (w.heap.size + 1) v2 (sizes ns j) := IOwn.kept (World.ownsRow.alloc (World.ownsRow.alloc h3 o) _) g1 (by
    cases hv : v2.ownBlock with
    | none => exact .inl rfl
    | some g => exact .inr (fun e => h4 g e.symm hv))
  obtain ⟨v2', w2, r2, k2, g2, n2⟩ := e2.append 35 z2 (by rw [sizes_len]; omega) (by omega)
  have sz2 := g2.size
  rw [World.size_alloc] at sz2
  refine ⟨v1', w1, v2', w2, r1, r2, fun hz1 hz2 => ?_⟩
  have b1 : ∀ g, v1.ownBlock = some g → w.heap.size + 1 ≤ g ∧ g < wr.heap.size := fun g hg => h2.lt g hg
  have b2 : ∀ g, v2.ownBlock = some g → w.heap.size + 1 ≤ g ∧ g < wr.heap.size := fun g hg => h3.lt g hg
  have hold : ∀ q, q < wr.heap.size → some q ≠ v1.ownBlock → some q ≠ v2.ownBlock → w2.heap[q]? = wr.heap[q]? := fun q hq q1 q2 => by
    rw [g2.block q (by rw [World.size_alloc]; omega) q2, heap_old _ _ (by omega), g1.block q (by rw [World.size_alloc, World.size_alloc]; omega) q1, heap_old _ _ (by rw [World.size_alloc]; omega), heap_old _ _ hq]
  refine ⟨(hold _ hlt (fun e => by have := b1 _ e.symm; omega) (fun e => by have := b2 _ e.symm; omega)).trans h1, ?_, ?_, ?_, ?_⟩
  · rw [deeps_succ, ← hz1]
    refine IOwn.kept (World.ownsRow.alloc k1 _) g2 ?_
    rcases n1 with n1 | n1
    · rw [n1]
      cases hv : v1.ownBlock with
      | none => exact .inl rfl
      | some g => exact .inr (fun e => h4 g hv e.symm)
    · rw [n1]
      exact .inr (fun e => by have := b2 _ e.symm; omega)
  · rw [sizes_succ, ← hz2]; exact k2
  · intro g hg e
    rcases n1 with n1 | n1 <;> rcases n2 with n2 | n2
    · rw [n1] at hg; rw [n2] at e; exact h4 g hg e
    · rw [n1] at hg; rw [n2] at e; injection e with e; have := b1 g hg; omega
    · rw [n1] at hg; rw [n2] at e; injection hg with hg; have := b2 g e; omega
    · rw [n1] at hg; rw [n2] at e; injection hg with hg; injection e with e; omega
  · exact ⟨(g2.os.trans g1.os).trans h5.os, (g2.tape.trans g1.tape).trans h5.tape, (g2.output.trans g1.output).trans h5.output, by have := h5.size; omega, fun q hq => (hold q (by have := h5.size; omega) (fun e => by have := b1 _ e.symm; omega) (fun e => by have := b2 _ e.symm; omega)).trans (h5.block q hq)⟩
/-- What measure answers. -/
def MsPost (ns : List Nd) (w : World) (e : Ending) (w' : World) : Prop :=
  ∃ x1 c1 x2 c2, e = .returned (.tuple #[.slice x1 ns.length c1, .slice x2 ns.length c2]) ∧ IOwn w' w.heap.size (.slice x1 ns.length c1) (deeps ns ns.length) ∧ IOwn w' w.heap.size (.slice x2 ns.length c2) (sizes ns ns.length) ∧ Below w.heap.size w w'

set_option maxRecDepth 100000 in
set_option maxHeartbeats 8000000 in
theorem r4measure_any (ns : List Nd) (hr : rightN ns = true) (a : Option Addr) (cap B : Nat) (w : World) (hin : NsIn w (· < B) ns a cap) (hB : B ≤ w.heap.size) : Calls Try.prog 51 #[.agg #[.slice a ns.length cap]] w (MsPost ns w) := by
  have hlen := hin.len
  have hl1000 := (good_of hr).2
  have HIN := Lib.hid hin
  have HS : Hid (MsR ns w a cap 0 (.slice none 0 0) (.slice none 0 0) (w.alloc (.cells #[.slice a ns.length cap] 26))) := Lib.hid ⟨heap_new _ _, IOwn.nil _ _, IOwn.nil _ _, (fun g h => by simp [Value.ownBlock] at h), (Below.refl _ _).alloc (Nat.le_refl _) _⟩
  clear hin
  go_enter Try.func51, Try.ntmps51
  go_wp2_with fail
  go_loopw [4, 5, 6] (fun v1 v2 i wr => ∃ (j : Nat) (u1 u2 : Value), v1 = u1 ∧ v2 = u2 ∧ i = .int .i64 j ∧ j ≤ ns.length ∧ Hid (MsR ns w a cap j u1 u2 wr)) (fun _ _ i _ => ns.length - (intOf i).toNat)
  case atStart => exact ⟨0, _, _, rfl, rfl, rfl, Nat.zero_le _, HS⟩
  case round =>
    obtain ⟨j, u1, u2, rfl, rfl, rfl, hj, hR⟩ := hrel
    have c0 := cell_at hR.out.1 0
    simp at c0
    by_cases hlt : j < ns.length
    · have hlt' : (j : Int) < (ns.length : Int) := by omega
      obtain ⟨x, hx⟩ : ∃ x, ns[j]? = some x := ⟨_, List.getElem?_eq_getElem hlt⟩
      obtain ⟨hT, hf⟩ := tr_at hr hx
      obtain ⟨b, o, rfl, hbB, hatn⟩ := HIN.out.at hlt
      have hwB : Below B w wr := hR.out.2.2.2.2.mono hB
      obtain ⟨e0, e1, e2, e3⟩ := (hatn.keep (hwB.block b hbB)) j x hx
      have HK : Hid (∀ W : World, Calls Try.prog 67 #[.int .i64 x.k] W fun e w' => e = .returned (.int .i64 (nK x.k)) ∧ w' = W) := Lib.hid (fun W => by
        have := r4kids_any x.k W
        rwa [fits_kidsOf hf] at this)
      rcases nK_cases x.k with h0 | h0 | h0
      · rw [h0] at HK
        obtain ⟨v1', w1, v2', w2, r1, r2, hN⟩ := hR.out.next (by omega) (.cells #[.int .i64 x.k, .int .i64 x.n, .int .i64 x.a, .int .i64 x.b] 41) 1 1
        have HN := Lib.hid (hN (by rw [hT, kd_0 h0]; rfl) (by rw [hT, kd_0 h0]; rfl))
        have H1 := Lib.hid r1
        have H2 := Lib.hid r2
        clear r1 r2 hN h0 hx hT hf hatn hR
        go_upto_region 15 with (first | (go_at_call 67; refine (HK.out _).mono ?_; rintro e w' ⟨rfl, rfl⟩) | (at_builtin; refine wpList_append_run (by rfl) _ _ _ (by rfl) (by rfl) (by rfl) H1.out ?_))
        clear H1
        go_wp2_with (at_builtin; refine wpList_append_run (by rfl) _ _ _ (by rfl) (by rfl) (by rfl) H2.out ?_)
        go_roundw
        case rel => exact ⟨j + 1, _, _, rfl, rfl, by go_num, by omega, HN⟩
        case measure => simp [intOf]; omega
      · rw [h0] at HK
        have ha := fits_a hf (by omega)
        obtain ⟨c, hc⟩ : ∃ c : Nat, x.a = c := ⟨x.a.toNat, by omega⟩
        have hcj : c < j := by omega
        obtain ⟨g1, cc1, hv1, _, hg1, y1⟩ := hR.out.2.1.at (i := c) (by rw [deeps_len]; exact hcj)
        obtain ⟨g2, cc2, hv2, _, hg2, y2⟩ := hR.out.2.2.1.at (i := c) (by rw [sizes_len]; exact hcj)
        rw [deeps_at ns hcj] at y1
        rw [sizes_at ns hcj] at y2
        have hd := dF_tr hr c (by omega)
        have hsz : min (tr ns c).size 1000 ≤ 1000 := Nat.min_le_right _ _
        have hD : dF (tr ns j) = dF (tr ns c) + 1 := by rw [hT, kd_1 h0, hc, Int.toNat_natCast]; simp [dF]
        have hSz : (tr ns j).size = (tr ns c).size + 1 := by rw [hT, kd_1 h0, hc, Int.toNat_natCast]; simp [Fo.size]
        have hd1 : 1 ≤ dF (tr ns c) := by rw [(tr_at hr (List.getElem?_eq_getElem (show c < ns.length by omega))).1]; simp only [dF]; omega
        have hS1 : Hid (1 ≤ (tr ns c).size) := Lib.hid (by rw [(tr_at hr (List.getElem?_eq_getElem (show c < ns.length by omega))).1]; simp only [Fo.size]; exact Nat.succ_le_succ (Nat.zero_le _))
        rw [deeps_len] at hv1
        rw [sizes_len] at hv2
        subst hv1 hv2
        have NX := Lib.hid (fun z1 z2 => hR.out.next (by omega) (.cells #[.int .i64 x.k, .int .i64 x.n, .int .i64 c, .int .i64 x.b] 41) z1 z2)
        have HD := Lib.hid hD
        have HSz := Lib.hid hSz
        generalize dF (tr ns c) = dc at y1 hd HD hd1
        generalize (tr ns c).size = sc at y2 hsz HSz hS1
        have hdc : (1 : Int) < 1 + (dc : Int) := by omega
        obtain ⟨m, hm⟩ : ∃ m, min sc 1000 = m := ⟨_, rfl⟩
        rw [hm] at y2 hsz
        have HM := Lib.hid hm
        clear hm hD hSz h0 hx hT hf hatn hR
        by_cases h9 : m ≤ 999
        · have h9' : 1 + (m : Int) ≤ 1000 := by omega
          have h9'' : ¬ (1000 : Int) < 1 + (m : Int) := by omega
          obtain ⟨v1', w1, v2', w2, r1, r2, hN⟩ := NX.out (1 + (dc : Int)) (1 + (m : Int))
          have HN := Lib.hid (hN (by have := HD.out; omega) (by have := HSz.out; have := HM.out; omega))
          have H1 := Lib.hid r1
          have H2 := Lib.hid r2
          clear r1 r2 hN
          go_upto_region 15 with (first | (go_at_call 67; refine (HK.out _).mono ?_; rintro e w' ⟨rfl, rfl⟩) | (at_builtin; refine wpList_append_run (by rfl) _ _ _ (by rfl) (by rfl) (by rfl) H1.out ?_))
          clear H1
          go_wp2_with (at_builtin; refine wpList_append_run (by rfl) _ _ _ (by rfl) (by rfl) (by rfl) H2.out ?_)
          go_roundw
          case rel => exact ⟨j + 1, _, _, rfl, rfl, by go_num, by omega, HN⟩
          case measure => simp [intOf]; omega
        · have h9' : 1000 < 1 + (m : Int) := by omega
          obtain ⟨v1', w1, v2', w2, r1, r2, hN⟩ := NX.out (1 + (dc : Int)) (1000)
          have HN := Lib.hid (hN (by have := HD.out; omega) (by have := HSz.out; have := HM.out; omega))
          have H1 := Lib.hid r1
          have H2 := Lib.hid r2
          clear r1 r2 hN
          go_upto_region 15 with (first | (go_at_call 67; refine (HK.out _).mono ?_; rintro e w' ⟨rfl, rfl⟩) | (at_builtin; refine wpList_append_run (by rfl) _ _ _ (by rfl) (by rfl) (by rfl) H1.out ?_))
          clear H1
          go_wp2_with (at_builtin; refine wpList_append_run (by rfl) _ _ _ (by rfl) (by rfl) (by rfl) H2.out ?_)
          go_roundw
          case rel => exact ⟨j + 1, _, _, rfl, rfl, by go_num, by omega, HN⟩
          case measure => simp [intOf]; omega
      · rw [h0] at HK
        have ha := fits_a hf (by omega)
        have hb := fits_b hf (by omega)
        obtain ⟨c, hc⟩ : ∃ c : Nat, x.a = c := ⟨x.a.toNat, by omega⟩
        obtain ⟨f, hcf⟩ : ∃ f : Nat, x.b = f := ⟨x.b.toNat, by omega⟩
        have hcj : c < j := by omega
        have hfj : f < j := by omega
        obtain ⟨g1, cc1, hv1, _, hg1, y1⟩ := hR.out.2.1.at (i := c) (by rw [deeps_len]; exact hcj)
        obtain ⟨g2, cc2, hv2, _, hg2, y2⟩ := hR.out.2.2.1.at (i := c) (by rw [sizes_len]; exact hcj)
        obtain ⟨g1', cc1', hv1', _, _, y3⟩ := hR.out.2.1.at (i := f) (by rw [deeps_len]; exact hfj)
        obtain ⟨g2', cc2', hv2', _, _, y4⟩ := hR.out.2.2.1.at (i := f) (by rw [sizes_len]; exact hfj)
        rw [deeps_at ns hcj] at y1
        rw [sizes_at ns hcj] at y2
        rw [deeps_at ns hfj] at y3
        rw [sizes_at ns hfj] at y4
        have hd := dF_tr hr c (by omega)
        have he := dF_tr hr f (by omega)
        have hsz : min (tr ns c).size 1000 ≤ 1000 := Nat.min_le_right _ _
        have hsy : min (tr ns f).size 1000 ≤ 1000 := Nat.min_le_right _ _
        have hD : dF (tr ns j) = max (dF (tr ns c)) (dF (tr ns f)) + 1 := by rw [hT, kd_2 h0, hc, hcf, Int.toNat_natCast, Int.toNat_natCast]; simp [dF, dF_app]
        have hSz : (tr ns j).size = (tr ns c).size + (tr ns f).size + 1 := by rw [hT, kd_2 h0, hc, hcf, Int.toNat_natCast, Int.toNat_natCast]; simp [Fo.size, Fo.app_size]
        have hd1 : 1 ≤ dF (tr ns c) := by rw [(tr_at hr (List.getElem?_eq_getElem (show c < ns.length by omega))).1]; simp only [dF]; omega
        rw [deeps_len] at hv1 hv1'
        rw [sizes_len] at hv2 hv2'
        subst hv1 hv2
        injection hv1' with q1 q2 q3
        injection q1 with q1
        injection q1 with q1
        injection hv2' with q4 q5 q6
        injection q4 with q4
        injection q4 with q4
        subst q1 q3 q4 q6
        clear q2 q5
        have NX := Lib.hid (fun z1 z2 => hR.out.next (by omega) (.cells #[.int .i64 x.k, .int .i64 x.n, .int .i64 c, .int .i64 f] 41) z1 z2)
        have HD := Lib.hid hD
        have HSz := Lib.hid hSz
        generalize dF (tr ns c) = dc at y1 hd HD hd1
        generalize dF (tr ns f) = df at y3 he HD
        generalize (tr ns c).size = sc at y2 hsz HSz
        generalize (tr ns f).size = sf at y4 hsy HSz
        have hdc : (1 : Int) < 1 + (dc : Int) := by omega
        obtain ⟨m, hm⟩ : ∃ m, min sc 1000 = m := ⟨_, rfl⟩
        obtain ⟨m', hm'⟩ : ∃ m', min sf 1000 = m' := ⟨_, rfl⟩
        rw [hm] at y2 hsz
        rw [hm'] at y4 hsy
        have HM := Lib.hid hm
        have HM' := Lib.hid hm'
        clear hm hm' hD hSz h0 hx hT hf hatn hR
        by_cases h9 : 1 + m + m' ≤ 1000
        · have h9' : 1 + (m : Int) + (m' : Int) ≤ 1000 := by omega
          have h9'' : ¬ (1000 : Int) < 1 + (m : Int) + (m' : Int) := by omega
          by_cases h8 : dc < df
          · have h8' : 1 + (dc : Int) < 1 + (df : Int) := by omega
            have h8'' : (dc : Int) < (df : Int) := by omega
            obtain ⟨v1', w1, v2', w2, r1, r2, hN⟩ := NX.out (1 + (df : Int)) (1 + (m : Int) + (m' : Int))
            have HN := Lib.hid (hN (by have := HD.out; omega) (by have := HSz.out; have := HM.out; have := HM'.out; omega))
            have H1 := Lib.hid r1
            have H2 := Lib.hid r2
            clear r1 r2 hN
            go_upto_region 15 with (first | (go_at_call 67; refine (HK.out _).mono ?_; rintro e w' ⟨rfl, rfl⟩) | (at_builtin; refine wpList_append_run (by rfl) _ _ _ (by rfl) (by rfl) (by rfl) H1.out ?_))
            clear H1
            go_wp2_with (at_builtin; refine wpList_append_run (by rfl) _ _ _ (by rfl) (by rfl) (by rfl) H2.out ?_)
            go_roundw
            case rel => exact ⟨j + 1, _, _, rfl, rfl, by go_num, by omega, HN⟩
            case measure => simp [intOf]; omega
          · have h8' : ¬ 1 + (dc : Int) < 1 + (df : Int) := by omega
            have h8'' : ¬ (dc : Int) < (df : Int) := by omega
            obtain ⟨v1', w1, v2', w2, r1, r2, hN⟩ := NX.out (1 + (dc : Int)) (1 + (m : Int) + (m' : Int))
            have HN := Lib.hid (hN (by have := HD.out; omega) (by have := HSz.out; have := HM.out; have := HM'.out; omega))
            have H1 := Lib.hid r1
            have H2 := Lib.hid r2
            clear r1 r2 hN
            go_upto_region 15 with (first | (go_at_call 67; refine (HK.out _).mono ?_; rintro e w' ⟨rfl, rfl⟩) | (at_builtin; refine wpList_append_run (by rfl) _ _ _ (by rfl) (by rfl) (by rfl) H1.out ?_))
            clear H1
            go_wp2_with (at_builtin; refine wpList_append_run (by rfl) _ _ _ (by rfl) (by rfl) (by rfl) H2.out ?_)
            go_roundw
            case rel => exact ⟨j + 1, _, _, rfl, rfl, by go_num, by omega, HN⟩
            case measure => simp [intOf]; omega
        · have h9' : (1000 : Int) < 1 + (m : Int) + (m' : Int) := by omega
          by_cases h8 : dc < df
          · have h8' : 1 + (dc : Int) < 1 + (df : Int) := by omega
            have h8'' : (dc : Int) < (df : Int) := by omega
            obtain ⟨v1', w1, v2', w2, r1, r2, hN⟩ := NX.out (1 + (df : Int)) (1000)
            have HN := Lib.hid (hN (by have := HD.out; omega) (by have := HSz.out; have := HM.out; have := HM'.out; omega))
            have H1 := Lib.hid r1
            have H2 := Lib.hid r2
            clear r1 r2 hN
            go_upto_region 15 with (first | (go_at_call 67; refine (HK.out _).mono ?_; rintro e w' ⟨rfl, rfl⟩) | (at_builtin; refine wpList_append_run (by rfl) _ _ _ (by rfl) (by rfl) (by rfl) H1.out ?_))
            clear H1
            go_wp2_with (at_builtin; refine wpList_append_run (by rfl) _ _ _ (by rfl) (by rfl) (by rfl) H2.out ?_)
            go_roundw
            case rel => exact ⟨j + 1, _, _, rfl, rfl, by go_num, by omega, HN⟩
            case measure => simp [intOf]; omega
          · have h8' : ¬ 1 + (dc : Int) < 1 + (df : Int) := by omega
            have h8'' : ¬ (dc : Int) < (df : Int) := by omega
            obtain ⟨v1', w1, v2', w2, r1, r2, hN⟩ := NX.out (1 + (dc : Int)) (1000)
            have HN := Lib.hid (hN (by have := HD.out; omega) (by have := HSz.out; have := HM.out; have := HM'.out; omega))
            have H1 := Lib.hid r1
            have H2 := Lib.hid r2
            clear r1 r2 hN
            go_upto_region 15 with (first | (go_at_call 67; refine (HK.out _).mono ?_; rintro e w' ⟨rfl, rfl⟩) | (at_builtin; refine wpList_append_run (by rfl) _ _ _ (by rfl) (by rfl) (by rfl) H1.out ?_))
            clear H1
            go_wp2_with (at_builtin; refine wpList_append_run (by rfl) _ _ _ (by rfl) (by rfl) (by rfl) H2.out ?_)
            go_roundw
            case rel => exact ⟨j + 1, _, _, rfl, rfl, by go_num, by omega, HN⟩
            case measure => simp [intOf]; omega
    · have hlt' : ¬ (j : Int) < (ns.length : Int) := by omega
      obtain rfl : j = ns.length := by omega
      obtain ⟨x1, cc1, q1⟩ := hR.out.2.1.form
      obtain ⟨x2, cc2, q2⟩ := hR.out.2.2.1.form
      rw [deeps_len] at q1
      rw [sizes_len] at q2
      subst q1 q2
      have HE : Hid (MsPost ns w (.returned (.tuple #[.slice x1 ns.length cc1, .slice x2 ns.length cc2])) wr) := Lib.hid ⟨x1, cc1, x2, cc2, rfl, hR.out.2.1.low (Nat.le_succ _), hR.out.2.2.1.low (Nat.le_succ _), hR.out.2.2.2.2⟩
      clear hR
      go_wp2_with fail
      go_ret2
      exact HE.out
end Go.Proofs.Ytmbopdlmkbbbiaa
