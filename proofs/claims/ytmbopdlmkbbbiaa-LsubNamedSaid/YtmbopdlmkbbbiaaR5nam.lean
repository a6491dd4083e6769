/- The contract of the document's own 'named': the numbers of a kind, each once, behind those that are there. No condition but that the level lies in memory and that all are not very many. -/
import Derived.Test.YtmbopdlmkbbbiaaNspec
import Derived.Test.YtmbopdlmkbbbiaaIown
import Derived.Test.YtmbopdlmkbbbiaaCell
import Derived.Test.YtmbopdlmkbbbiaaWpl
import Derived.Deep.QuietTactic
import Derived.BigQuiet
import Derived.IntWalk
namespace Go.Proofs.Ytmbopdlmkbbbiaa
open Go.RowKit

/-- What is answered: the row. -/
def NmPost (base : Nat) (v : Value) (zs' : List Int) (w : World) (e : Ending) (w' : World) : Prop := ∃ x c, e = .returned (.slice x zs'.length c) ∧ IOwn w' base (.slice x zs'.length c) zs' ∧ Turn (OwnB v) w (OwnB (.slice x zs'.length c)) w'

/-- What stands in memory while the Kids are gone through. -/
def NrS (K : Int) (w : World) (base _B : Nat) (f : Fo) (x : Option Addr) (c : Nat) (zs : List Int) (j : Nat) (rest : Fo) (x' : Option Addr) (c' : Nat) (zs' : List Int) (wr : World) : Prop :=
  j + rest.len = f.len ∧ nmF K rest zs' = nmF K f zs ∧ (zs'.length + rest.size ≤ 900 ∧ rest.size ≤ f.size) ∧ IOwn wr base (.slice x' zs'.length c') zs' ∧ Turn (OwnB (.slice x zs.length c)) w (OwnB (.slice x' zs'.length c')) wr
theorem NrS.low {K : Int} {w : World} {base B : Nat} {f : Fo} {x : Option Addr} {c : Nat} {zs : List Int} {j : Nat} {rest : Fo} {x' : Option Addr} {c' : Nat} {zs' : List Int} {wr : World} (h : NrS K w base B f x c zs j rest x' c' zs' wr) (hB : B ≤ base) (hb : base ≤ w.heap.size)
    (hlt : ∀ g, (Value.slice x zs.length c).ownBlock = some g → base ≤ g ∧ g < w.heap.size) : Below B w wr := h.2.2.2.2.low (by omega) (fun b hO => by have := hlt b hO; omega)

set_option maxRecDepth 100000 in
set_option maxHeartbeats 4000000 in
theorem named_any (K : Int) (s : Nat) : ∀ (f : Fo), f.size < s → ∀ (k n : Int) (a x : Option Addr) (cap c base B : Nat) (zs : List Int) (w : World), SlIn w (· < B) f a cap → B ≤ base → base ≤ w.heap.size → IOwn w base (.slice x zs.length c) zs → zs.length + f.size ≤ 900 →
    Calls Try.prog 61 #[.agg #[.int .i64 k, .int .i64 n, .slice a f.len cap], .int .i64 K, .slice x zs.length c] w (NmPost base (.slice x zs.length c) (nm1 K k n f zs) w) := by
  induction s with
  | zero => intro f hs; omega
  | succ s ih =>
    intro f hs k n a x cap c base B zs w hsl hBb hbw hown hsz
    have IH := Lib.hid ih
    clear ih
    have hlen := hsl.len
    have HSL := Lib.hid hsl
    have hbox : Below w.heap.size w (w.alloc (.cells #[.int .i64 k, .int .i64 n, .slice a f.len cap] 30)) := (Below.refl _ _).alloc (Nat.le_refl _) _
    have HO : Hid (IOwn (w.alloc (.cells #[.int .i64 k, .int .i64 n, .slice a f.len cap] 30)) base (.slice x zs.length c) zs) := Lib.hid (hown.alloc _)
    have HT : Hid (Turn (OwnB (.slice x zs.length c)) w (OwnB (.slice x zs.length c)) (w.alloc (.cells #[.int .i64 k, .int .i64 n, .slice a f.len cap] 30))) := Lib.hid (Turn.alloc _ _ _)
    have hlt := hown.lt
    have HLT := Lib.hid hlt
    have HBX := Lib.hid hbox
    clear hsl hbox hown hlt
    by_cases hk : k = K
    · subst hk
      rw [nm1_y]
      have HI : Hid (∀ q, q < zs.length → zs.getD q 0 = n → ins n zs = zs) := Lib.hid (fun q hq h => by
        unfold ins; rw [if_pos]
        rw [← h, List.getD_eq_getElem?_getD, List.getElem?_eq_getElem hq]; exact List.getElem_mem hq)
      have HJ : Hid ((∀ q, q < zs.length → zs.getD q 0 ≠ n) → ins n zs = zs ++ [n]) := Lib.hid (fun h => by
        unfold ins; rw [if_neg]
        intro hm
        obtain ⟨i, hi, he⟩ := List.mem_iff_getElem.1 hm
        exact h i hi (by rw [List.getD_eq_getElem?_getD, List.getElem?_eq_getElem hi]; exact he))
      have dk : (k == k) = true := by simp
      go_enter Try.func61, Try.ntmps61
      go_wp2_with fail
      go_loopw [7] (fun qv wr => ∃ q : Nat, qv = .int .i64 q ∧ q ≤ zs.length ∧ Hid (∀ i, i < q → zs.getD i 0 ≠ n) ∧ Below (w.heap.size + 1) (w.alloc (.cells #[.int .i64 k, .int .i64 n, .slice a f.len cap] 30)) wr) (fun qv _ => zs.length - (intOf qv).toNat)
      case atStart => exact ⟨0, rfl, Nat.zero_le _, Lib.hid (fun i hi => by omega), Below.refl _ _⟩
      case round =>
        obtain ⟨q, rfl, hq, hno, hb⟩ := hrel
        have c1 := bcell hb w.heap.size 1 (by omega)
        simp at c1
        have HOr : Hid (IOwn wr base (.slice x zs.length c) zs) := Lib.hid (HO.out.keep (fun g hg => hb.block g (by have := HLT.out g hg; omega)))
        have HTr : Hid (∀ m, Turn (OwnB (.slice x zs.length c)) w (OwnB (.slice x zs.length c)) (wr.drewN m)) := Lib.hid (fun m => HT.out.trans (Turn.below (by have := Below.draws hb m; simpa using this)))
        by_cases hql : q < zs.length
        · have hql' : (q : Int) < (zs.length : Int) := by omega
          have hq0 : (0 : Int) ≤ (q : Int) := by omega
          obtain ⟨g, c', hv, hg1, hg2, hcell⟩ := HOr.out.at hql
          obtain ⟨rfl, rfl⟩ : x = some ⟨g, 0, none⟩ ∧ c = c' := by injection hv with h1 h2 h3; exact ⟨h1, h3⟩
          clear hv
          have HIq := Lib.hid (HI.out q hql)
          have HNq : Hid (zs.getD q 0 ≠ n → ∀ i, i < q + 1 → zs.getD i 0 ≠ n) := Lib.hid (fun h i hi => by
            rcases Nat.lt_succ_iff_lt_or_eq.1 hi with h1 | h1
            · exact hno.out i h1
            · rw [h1]; exact h)
          generalize hz : zs.getD q 0 = z at hcell HIq HNq
          clear hz
          by_cases hzn : z = n
          · have dz : (z == n) = true := beq_iff_eq.2 hzn
            have HE : Hid (∀ m, NmPost base (.slice (some ⟨g, 0, none⟩) zs.length c) (ins n zs) w (.returned (.slice (some ⟨g, 0, none⟩) zs.length c)) (wr.drewN m)) := Lib.hid (fun m => by
              rw [HIq.out hzn]
              exact ⟨_, _, rfl, HOr.out.drew m, HTr.out m⟩)
            clear hzn
            go_wp2_with fail
            go_quiet (fail)
            go_wp2_with fail
            go_ret
            exact HE.out _
          · have dz : (z == n) = false := beq_eq_false_iff_ne.2 hzn
            have HNN := Lib.hid (HNq.out hzn)
            have HBN : Hid (∀ m, Below (w.heap.size + 1) (w.alloc (.cells #[.int .i64 k, .int .i64 n, .slice a f.len cap] 30)) (wr.drewN m)) := Lib.hid (fun m => Below.draws hb m)
            clear hzn
            go_wp2_with fail
            go_quiet (fail)
            go_wp2_with fail
            go_roundw
            case rel => exact ⟨q + 1, by go_num, by omega, HNN, HBN.out _⟩
            case measure => simp [intOf]; omega
        · have hql' : ¬ (q : Int) < (zs.length : Int) := by omega
          have dq : decide ((q : Int) < (zs.length : Int)) = false := by simpa using hql'
          have hins := HJ.out (fun i hi => hno.out i (by omega))
          obtain ⟨g', cap', w3, hrun, ho3, ht3⟩ := HOr.out.push 35 n (by omega) (Nat.le_trans hbw (by have := hb.size; simp at this; omega))
          have HRUN := Lib.hid hrun
          have HE : Hid (NmPost base (.slice x zs.length c) (ins n zs) w (.returned (.slice (some ⟨g', 0, none⟩) (zs.length + 1) cap')) w3) := Lib.hid (by
            rw [hins]
            exact ⟨some ⟨g', 0, none⟩, cap', by rw [List.length_append]; rfl, by rw [List.length_append]; exact ho3, by rw [List.length_append]; exact (HTr.out 0).trans ht3⟩)
          clear hrun ho3 ht3 hins
          go_wp2_with (at_builtin; refine wpList_append_run (by rfl) _ _ _ (by rfl) (by rfl) (by rfl) HRUN.out ?_)
          go_ret
          exact HE.out
    · rw [nm1_n n f zs hk]
      have dk : (k == K) = false := beq_eq_false_iff_ne.2 hk
      obtain ⟨W1, hW1⟩ : ∃ W1, (w.alloc (.cells #[.int .i64 k, .int .i64 n, .slice a f.len cap] 30)) = W1 := ⟨_, rfl⟩
      have hz1 : W1.heap.size = w.heap.size + 1 := by rw [← hW1]; simp
      have hs1 : W1.heap[w.heap.size]? = some (.cells #[.int .i64 k, .int .i64 n, .slice a f.len cap] 30 (0, 0)) := by rw [← hW1]; exact heap_new _ _
      have HZ1 := Lib.hid hz1
      have HS1 := Lib.hid hs1
      rw [hW1] at HO HT HBX
      have HW1 := Lib.hid hW1
      have HS0 : Hid (NrS K W1 base B f x c zs 0 f x c zs W1) := Lib.hid ⟨by omega, rfl, ⟨by omega, Nat.le_refl _⟩, HO.out, Turn.refl _ _⟩
      clear hW1 hz1 hs1
      go_enter Try.func61, Try.ntmps61
      go_wp2_with fail
      rw [HW1.out]
      clear HW1
      go_loopw [2, 8] (fun ov iv wr => ∃ (j : Nat) (rest : Fo) (x' : Option Addr) (c' : Nat) (zs' : List Int), ov = .slice x' zs'.length c' ∧ iv = .int .i64 j ∧ Hid (NrS K W1 base B f x c zs j rest x' c' zs' wr) ∧ Hid (∀ b o, a = some ⟨b, o, none⟩ → FoIn w (· < B) rest b (o + j * 3)) ∧ Hid (wr.heap[w.heap.size]? = some (.cells #[.int .i64 k, .int .i64 n, .slice a f.len cap] 30 (0, 0)))) (fun _ iv _ => f.len - (intOf iv).toNat)
      case atStart => exact ⟨0, f, x, c, zs, rfl, rfl, HS0, Lib.hid (by rintro b o rfl; simpa using HSL.out.foIn), HS1⟩
      case round =>
        obtain ⟨j, rest, x', c', zs', rfl, rfl, hR, hin, hS⟩ := hrel
        have s2 := cell_at hS.out 2
        simp at s2
        cases rest with
        | nil =>
          have hjl : ¬ (j : Int) < (f.len : Int) := by have h1 := hR.out.1; simp only [Fo.len] at h1; omega
          have dj : decide ((j : Int) < (f.len : Int)) = false := by simpa using hjl
          have HE : Hid (NmPost base (.slice x zs.length c) (nmF K f zs) w (.returned (.slice x' zs'.length c')) wr) := Lib.hid (by
            obtain ⟨_, h2, _, h4, h5⟩ := hR.out
            rw [← h2]
            exact ⟨x', c', rfl, h4, HT.out.trans h5⟩)
          clear hR hS
          go_wp2_with fail
          go_ret
          exact HE.out
        | cons k' n' ks r' =>
          have hjn : j < f.len := by have h1 := hR.out.1; simp only [Fo.len] at h1; omega
          have hjl : (j : Int) < (f.len : Int) := by omega
          have hj0 : (0 : Int) ≤ (j : Int) := by omega
          obtain ⟨b, o, rfl, hbB, _⟩ := HSL.out.some (by omega)
          have hfa := hin.out b o rfl
          have hwB : Below B w wr := (HBX.out.mono (Nat.le_trans hBb hbw)).trans (hR.out.low hBb (by have := HZ1.out; omega) (fun g hg => by have := HLT.out g hg; have := HZ1.out; omega))
          obtain ⟨e0, e1, ⟨a', cap', e2, hsl'⟩, _⟩ := (hfa.below hwB _ _ _ hbB).first
          have hks : ks.size < s := by have h1 := hR.out.2.2.1; have h2 := Fo.len_le_size ks; simp only [Fo.size] at h1; omega
          have HC : Hid (Calls Try.prog 61 #[.agg #[.int .i64 k', .int .i64 n', .slice a' ks.len cap'], .int .i64 K, .slice x' zs'.length c'] wr (NmPost base (.slice x' zs'.length c') (nm1 K k' n' ks zs') wr)) := Lib.hid (IH.out ks hks k' n' a' x' cap' c' base B zs' wr hsl' hBb (by have h1 := hR.out.2.2.2.2.2.2.2.1; have h2 := HZ1.out; omega) hR.out.2.2.2.1 (by have h1 := hR.out.2.2.1; simp only [Fo.size] at h1; omega))
          have HN : Hid (∀ e w2, NmPost base (.slice x' zs'.length c') (nm1 K k' n' ks zs') wr e w2 → ∃ x2 c2, e = .returned (.slice x2 (nm1 K k' n' ks zs').length c2) ∧ Hid (NrS K W1 base B f x c zs (j + 1) r' x2 c2 (nm1 K k' n' ks zs') w2) ∧ Hid (w2.heap[w.heap.size]? = some (.cells #[.int .i64 k, .int .i64 n, .slice (some ⟨b, o, none⟩) f.len cap] 30 (0, 0)))) := Lib.hid (by
            rintro e w2 ⟨x2, c2, rfl, t1, t2⟩
            obtain ⟨h1, h2, h3, h4, h5⟩ := hR.out
            refine ⟨x2, c2, rfl, Lib.hid ⟨by simp only [Fo.len] at h1; omega, by rw [← h2]; rfl, ?_, t1, h5.trans t2⟩, Lib.hid ?_⟩
            · have h6 := nm1_len K k' n' ks zs'
              simp only [Fo.size] at h3
              omega
            · refine (t2.2.2.2.2.1 _ (lt_of_block hS.out) (fun h => ?_)).trans hS.out
              rcases h5.2.2.2.2.2 _ h with h | h
              · have := (HLT.out _ h).2; omega
              · have := HZ1.out; omega)
          clear hR hS
          generalize nm1 K k' n' ks zs' = zs2 at HC HN
          go_wp2_with fail
          refine HC.out.mono ?_
          intro e w2 hP
          obtain ⟨x2, c2, rfl, HN2, HS2⟩ := HN.out e w2 hP
          clear hP
          go_wp2_with fail
          go_roundw
          case rel => exact ⟨j + 1, r', x2, c2, zs2, rfl, by go_num, HN2, Lib.hid (by rintro b' o' h; cases h; have := hfa.2.2.2; rwa [show o + (j + 1) * 3 = o + j * 3 + 3 by omega]), HS2⟩
          case measure => simp [intOf]; omega
end Go.Proofs.Ytmbopdlmkbbbiaa
