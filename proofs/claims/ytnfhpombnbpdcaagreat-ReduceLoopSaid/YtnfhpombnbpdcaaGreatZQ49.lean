/- Whead2, Nup, Qrow, Qcon, Wright, Wdecl, Wenv, Wred, Wsame, Wany. No condition but those that stand in each statement. -/
import Derived.Test.YtnfhpombnbpdcaaGreatZQ47
import Derived.Test.YtnfhpombnbpdcaaGreatZQ30
import Derived.Test.YtnfhpombnbpdcaaGreatZQ48
import Derived.Deep.QuietTactic
import Derived.BigQuiet
import Derived.IntWalk
import Derived.Deep.CutBlock
import Derived.Test.YtnfhpombnbpdcaaGreatZQ29
import Derived.Test.YtnfhpombnbpdcaaGreatZQ46
import Derived.Test.YtnfhpombnbpdcaaGreatZQ45
import Derived.Deep.RegionHeld3
namespace Go.Proofs.YtnfhpombnbpdcaaGreat
open Go.RowKit
theorem r16Head_all (E : List Dc) (ea : Option Addr) (cap B M : Nat) : ∀ (N : Nat), N ≤ 100000 → ∀ (s n : Nat) (T : Tm), n ≤ N → (n = N → T.ks.size < s) → T.oka → HdC E ea cap B M n T := by
  intro N
  induction N using Nat.strongRecOn with
  | ind N IHN =>
    intro hN s
    induction s with
    | zero => exact fun n T hn hs ht => IHN n (by have := hs; omega) (by omega) (T.ks.size + 1) n T (Nat.le_refl _) (fun _ => Nat.lt_succ_self _) ht
    | succ s IHs =>
      intro n T hn hs ht
      refine r16Head_step E ea cap B M N s hN (fun m T' h ho => ?_) n T hn hs ht
      rcases h with h | ⟨h1, h⟩
      · exact IHN m h (by omega) (T'.ks.size + 1) m T' (Nat.le_refl _) (fun _ => Nat.lt_succ_self _) ho
      · exact IHs m T' (by omega) (fun _ => h) ho
theorem r16Head_any (E : List Dc) (ea : Option Addr) (cap B M n : Nat) (T : Tm) (hn : n ≤ 100000) (ht : T.oka) : HdC E ea cap B M n T := r16Head_all E ea cap B M n hn (T.ks.size + 1) n T (Nat.le_refl _) (fun _ => Nat.lt_succ_self _) ht
end Go.Proofs.YtnfhpombnbpdcaaGreat
namespace Go.Proofs.YtnfhpombnbpdcaaGreat
open Go.RowKit
def NuPost (zs : List Int) (w : World) (e : Ending) (w' : World) : Prop := ∃ x c, e = .returned (.slice x zs.length c) ∧ IOwn w' w.heap.size (.slice x zs.length c) zs ∧ Below w.heap.size w w'
end Go.Proofs.YtnfhpombnbpdcaaGreat
namespace Go.Proofs.YtnfhpombnbpdcaaGreat
open Go.RowKit
theorem mem_take {X : Int} {zs : List Int} {q : Nat} (h : q < zs.length) : decide (X ∈ zs.take (q + 1)) = (decide (X ∈ zs.take q) || (zs.getD q 0 == X)) := by
  rw [List.take_add_one, List.getElem?_eq_getElem h, List.getD_eq_getElem?_getD, List.getElem?_eq_getElem h, Bool.eq_iff_iff]
  simp only [Option.toList_some, List.mem_append, List.mem_singleton, Option.getD_some, decide_eq_true_eq, Bool.or_eq_true, beq_iff_eq]
  constructor
  · rintro (h | h)
    · exact .inl h
    · exact .inr h.symm
  · rintro (h | h)
    · exact .inl h
    · exact .inr h.symm
def MdS (w0 : World) (M0 : Nat) (xm : Option Addr) (ms : List Int) (v : Value) (zs : List Int) (wr : World) : Prop :=
  IOwn wr M0 v zs ∧ (∀ i, i < ms.length → ∃ g, xm = some ⟨g, 0, none⟩ ∧ g < wr.heap.size ∧ ¬ OwnB v g ∧ wr.cell? ⟨g, i, none⟩ = some (.int .i64 (ms.getD i 0))) ∧ M0 ≤ wr.heap.size ∧ M0 ≤ w0.heap.size ∧ Below M0 w0 wr
theorem MdS.later {w0 : World} {M0 : Nat} {xm : Option Addr} {ms : List Int} {v : Value} {zs : List Int} {wr wr' : World} (h : MdS w0 M0 xm ms v zs wr) (hb : Below wr.heap.size wr wr') : MdS w0 M0 xm ms v zs wr' := by
  obtain ⟨h1, h2, h3, h4, h5⟩ := h
  refine ⟨h1.keep (fun g hg => hb.block g (h1.lt g hg).2), fun i hi => ?_, Nat.le_trans h3 hb.size, h4, h5.trans (hb.mono h3)⟩
  obtain ⟨g, e, q1, q2, q3⟩ := h2 i hi
  exact ⟨g, e, Nat.lt_of_lt_of_le q1 hb.size, q2, (bcell hb g i q1).trans q3⟩
theorem MdS.push {w0 : World} {M0 : Nat} {xm : Option Addr} {ms : List Int} {v : Value} {zs : List Int} {wr : World} (h : MdS w0 M0 xm ms v zs wr) (z : Int) (hz : zs.length ≤ 1000000) :
    ∃ g' cap' w3, (Builtin.append_ #[98, 98] 98 #[v, .slice (some ⟨wr.heap.size, 0, none⟩) 1 1]).run Tryz.prog (wr.alloc (.cells #[.int .i64 z] 3)) = .ok (.slice (some ⟨g', 0, none⟩) (zs.length + 1) cap') w3 ∧ MdS w0 M0 xm ms (.slice (some ⟨g', 0, none⟩) (zs.length + 1) cap') (zs ++ [z]) w3 := by
  obtain ⟨h1, h2, h3, h4, h5⟩ := h
  obtain ⟨g', cap', w3, hrun, ho, ht⟩ := h1.push 98 z hz h3
  refine ⟨g', cap', w3, hrun, ho, fun i hi => ?_, Nat.le_trans h3 ht.2.2.2.1, h4, h5.trans (ht.low h3 (fun b hO => (h1.lt b hO).1))⟩
  obtain ⟨g, e, q1, q2, q3⟩ := h2 i hi
  refine ⟨g, e, Nat.lt_of_lt_of_le q1 ht.2.2.2.1, fun hO => ?_, (World.cell?_of_block (a := ⟨g, i, none⟩) (ht.2.2.2.2.1 g q1 q2)).trans q3⟩
  rcases ht.2.2.2.2.2 g hO with h | h
  · exact q2 h
  · omega
theorem MdS.start {w0 : World} {M0 : Nat} {xm : Option Addr} {cm : Nat} {ms : List Int} {v : Value} {zs : List Int} {wr w2 : World} (h1 : IOwn wr M0 v zs) (h3 : M0 ≤ wr.heap.size) (h4 : M0 ≤ w0.heap.size) (h5 : Below M0 w0 wr) (hm : IOwn w2 wr.heap.size (.slice xm ms.length cm) ms) (hb : Below wr.heap.size wr w2) : MdS w0 M0 xm ms v zs w2 := by
  refine ⟨h1.keep (fun g hg => hb.block g (h1.lt g hg).2), fun i hi => ?_, Nat.le_trans h3 hb.size, h4, h5.trans (hb.mono h3)⟩
  obtain ⟨g, c', e, q0, q1, q2⟩ := hm.at hi
  injection e with e1 e2 e3
  exact ⟨g, e1, q1, fun hO => by have := (h1.lt g hO).2; omega, q2⟩
end Go.Proofs.YtnfhpombnbpdcaaGreat
namespace Go.Proofs.YtnfhpombnbpdcaaGreat
open Go.RowKit
set_option maxRecDepth 100000 in
set_option maxHeartbeats 16000000 in
theorem r15Consts_any (s : Nat) : ∀ (f : Ft), f.size < s → f.size ≤ 1000 → ∀ (k n : Int) (ls : Fo) (la ka : Option Addr) (lc kc B : Nat) (w : World), SlIn w (· < B) ls la lc → TlIn w (· < B) f ka kc → B ≤ w.heap.size →
    Calls Tryz.prog 72 #[.agg #[.int .i64 k, .int .i64 n, .slice la ls.len lc, .slice ka f.len kc]] w (NuPost (onceL (cs1 k n f) []) w) := by
  induction s with
  | zero => intro f hs; omega
  | succ s ih =>
    intro f hs hsz k n ls la ka lc kc B w hls hsl hB
    have IH := Lib.hid ih
    clear ih
    have hlen := hsl.len
    have hlen2 := hls.len
    have HSL := Lib.hid hsl
    obtain ⟨W0, hW0⟩ : ∃ W0, W0 = w.alloc (.cells #[.int .i64 k, .int .i64 n, .slice la ls.len lc, .slice ka f.len kc] 30) := ⟨_, rfl⟩
    have HB0 : Hid (Below w.heap.size w W0) := Lib.hid (by rw [hW0]; exact (Below.refl _ _).alloc (Nat.le_refl _) _)
    have HZ0 : Hid (W0.heap.size = w.heap.size + 1) := Lib.hid (by rw [hW0]; simp)
    have HBX0 : Hid (W0.heap[w.heap.size]? = some (.cells #[.int .i64 k, .int .i64 n, .slice la ls.len lc, .slice ka f.len kc] 30 (0, 0))) := Lib.hid (by rw [hW0]; exact heap_new _ _)
    clear hsl hls
    by_cases hk : k = 3
    · subst hk
      have HPRE : Hid (∀ h : Ft, cs1 3 n h = [n] ++ csF h) := Lib.hid (fun h => by unfold cs1; rw [if_pos rfl])
      have HPL : Hid ([n].length ≤ 1) := Lib.hid (by simp)
      have HF0 : Hid (∃ g' cap' w3, (Builtin.append_ #[98, 98] 98 #[.slice none 0 0, .slice (some ⟨w.heap.size + 1, 0, none⟩) 1 1]).run Tryz.prog (W0.alloc (.cells #[.int .i64 n] 3)) = .ok (.slice (some ⟨g', 0, none⟩) 1 cap') w3 ∧ IOwn w3 (w.heap.size + 1) (.slice (some ⟨g', 0, none⟩) 1 cap') [n] ∧ Below (w.heap.size + 1) W0 w3) := Lib.hid (by
        obtain ⟨g', cap', w3, r1, r2, r3⟩ := (IOwn.nil W0 (w.heap.size + 1)).push 98 n (by simp) (Nat.le_of_eq HZ0.out.symm)
        rw [HZ0.out] at r1
        exact ⟨g', cap', w3, r1, r2, r3.low (Nat.le_of_eq HZ0.out.symm) (fun b h => by cases h)⟩)
      obtain ⟨g', cap', w3, hrun, ho3, hb3⟩ := HF0.out
      have HRUN0 := Lib.hid hrun
      obtain ⟨c0, c1, _, _⟩ := cells4 HBX0.out
      have hz0 := HZ0.out
      have HS : Hid (IOwn w3 (w.heap.size + 1) (.slice (some ⟨g', 0, none⟩) 1 cap') (onceL ([n] ++ csF .nil) []) ∧ w.heap.size + 1 ≤ w3.heap.size ∧ Below (w.heap.size + 1) W0 w3) := Lib.hid ⟨ho3, by have := hb3.size; omega, hb3⟩
      obtain ⟨W1, hW1⟩ : ∃ W1, W1 = W0 := ⟨_, rfl⟩
      have HB1 : Hid (Below w.heap.size w W1) := Lib.hid (by rw [hW1]; exact HB0.out)
      have HZ1 : Hid (W1.heap.size = w.heap.size + 1) := Lib.hid (by rw [hW1]; exact HZ0.out)
      have HBX : Hid (W1.heap[w.heap.size]? = some (.cells #[.int .i64 3, .int .i64 n, .slice la ls.len lc, .slice ka f.len kc] 30 (0, 0))) := Lib.hid (by rw [hW1]; exact HBX0.out)
      rw [← hW1] at HS
      have HW0 := Lib.hid hW0
      clear hrun ho3 hb3 HF0 hW1 hW0 HBX0
      generalize hpre : [n] = pre at HPRE HPL HS
      have dk3 : ((3 : Int) == 3) = true := rfl
      go_enter Tryz.func72, Tryz.ntmps72
      go_upto_region 3 with fail
      rw [← HW0.out]
      clear HW0 HB0 hpre
      go_wp2_with (at_builtin; refine wpList_append_run (by rfl) _ _ _ (by rfl) (by rfl) (by rfl) HRUN0.out ?_)
      clear HRUN0 HZ0 hz0 c0 c1 dk3
      go_loopw [3, 4] (fun ov jv wr => ∃ (j : Nat) (H rest : Ft) (v : Value), v = ov ∧ jv = .int .i64 j ∧ Hid (f = H.app rest) ∧ Hid (H.len = j) ∧ Hid (IOwn wr (w.heap.size + 1) v (onceL (pre ++ csF H) []) ∧ w.heap.size + 1 ≤ wr.heap.size ∧ Below (w.heap.size + 1) W1 wr)) (fun _ jv _ => f.len - (intOf jv).toNat)
      case atStart => exact ⟨0, .nil, f, _, rfl, rfl, Lib.hid rfl, Lib.hid rfl, HS⟩
      case round =>
        clear HS
        obtain ⟨j, H, rest, v, rfl, rfl, hf, hj, hR⟩ := hrel
        obtain ⟨hown, hzr, hwr1⟩ := hR.out
        have hbox := (hwr1.block w.heap.size (by omega)).trans HBX.out
        have hwr := HB1.out.trans (hwr1.mono (Nat.le_succ _))
        obtain ⟨c0, c1, c2, c3⟩ := cells4 hbox
        have hzl0 : w.heap.size < wr.heap.size := by omega
        cases rest with
        | nil =>
          have hjl : ¬ (j : Int) < (f.len : Int) := by rw [hf.out, Ft.app_nil, hj.out]; omega
          have dj : decide ((j : Int) < (f.len : Int)) = false := by simpa using hjl
          obtain ⟨x, c, rfl⟩ := hown.form
          have HE : Hid (NuPost (onceL (cs1 3 n f) []) w (.returned (.slice x (onceL (pre ++ csF H) []).length c)) wr) := Lib.hid (by
            have e : cs1 3 n f = pre ++ csF H := by rw [HPRE.out, show f = H by rw [hf.out, Ft.app_nil]]
            rw [e]
            exact ⟨x, c, rfl, hown.low (Nat.le_succ _), hwr⟩)
          clear hR hf hbox hown c0 c1 c2
          go_wp2_with fail
          go_ret
          exact HE.out
        | cons k' n' ls' ks r' =>
          have hjn : j < f.len := by rw [hf.out, Ft.app_len, hj.out]; simp [Ft.len]
          have hjl : (j : Int) < (f.len : Int) := by omega
          obtain ⟨bq, o, rfl, hbB, hf0⟩ := HSL.out.some (by omega)
          have hfa : FtIn w (· < B) (.cons k' n' ls' ks r') bq (o + j * 4) := by
            have h1 := hf0
            rw [hf.out] at h1
            rw [← hj.out]
            exact FtIn.behind H _ bq o h1
          obtain ⟨e0, e1, ⟨la', lc', e2, hls'⟩, ⟨ka', kc', e3, hsl'⟩, _⟩ := (hfa.below (hwr.mono hB) _ _ _ hbB).first
          have hfs : f.size = H.size + (ks.size + r'.size + 1) := by rw [hf.out, Ft.app_size]; rfl
          have hks : ks.size < s := by omega
          have hBr : B ≤ wr.heap.size := Nat.le_trans hB hwr.size
          have HC : Hid (Calls Tryz.prog 72 #[.agg #[.int .i64 k', .int .i64 n', .slice la' ls'.len lc', .slice ka' ks.len kc']] wr (NuPost (onceL (cs1 k' n' ks) []) wr)) :=
            Lib.hid (IH.out ks hks (by omega) k' n' ls' la' ka' lc' kc' B wr hls' hsl' hBr)
          have HNX : Hid (onceL (pre ++ csF (H.app (.cons k' n' ls' ks .nil))) [] = onceL (onceL (cs1 k' n' ks) []) (onceL (pre ++ csF H) [])) := Lib.hid (by
            rw [once_idem, csF_app, show csF (.cons k' n' ls' ks .nil) = cs1 k' n' ks ++ [] from rfl, List.append_nil, ← List.append_assoc, onceL_app])
          have HSZ : Hid ((onceL (pre ++ csF H) []).length + (onceL (cs1 k' n' ks) []).length ≤ 800000) := Lib.hid (by
            have h1 := once_len (pre ++ csF H) []
            have h2 := once_len (cs1 k' n' ks) []
            have h3 := cs1_len k' n' ks
            have h4 := csF_len H
            have h5 := HPL.out
            rw [List.length_append] at h1
            simp only [List.length_nil] at h1 h2
            omega)
          have HSN : Hid (f = (H.app (.cons k' n' ls' ks .nil)).app r') := Lib.hid (by rw [hf.out, Ft.app_assoc]; rfl)
          have HJ := Lib.hid hj.out
          have HRR := Lib.hid (And.intro hown (And.intro hzr hwr1))
          generalize onceL (pre ++ csF H) [] = zs at HNX HSZ HRR
          generalize onceL (cs1 k' n' ks) [] = ms at HC HNX HSZ
          clear hf hR hfa hf0 hls' hsl' hfs hbox hown hwr1 c0 c1 c2
          go_wp2_with fail
          refine HC.out.mono ?_
          rintro e w2 ⟨xm, cm, rfl, t1, t2⟩
          obtain ⟨M0, hM0⟩ : ∃ M0, M0 = w.heap.size + 1 := ⟨_, rfl⟩
          have HM0 : Hid (MdS W1 M0 xm ms v (onceL (ms.take 0) zs) w2) := Lib.hid (by rw [hM0]; exact MdS.start HRR.out.1 HRR.out.2.1 (Nat.le_of_eq HZ1.out.symm) HRR.out.2.2 t1 t2)
          have HM0E := Lib.hid hM0
          clear t1 t2 hM0 HRR HC e0 e1 e2 e3 c3
          go_wp2_with fail
          have hml : ms.length ≤ 800000 := by have := HSZ.out; omega
          go_loopw [3, 6] (fun ov kv wr => ∃ (k2 : Nat) (v2 : Value), v2 = ov ∧ kv = .int .i64 k2 ∧ k2 ≤ ms.length ∧ Hid (MdS W1 M0 xm ms v2 (onceL (ms.take k2) zs) wr)) (fun _ kv _ => ms.length - (intOf kv).toNat)
          case atStart => exact ⟨0, _, rfl, rfl, Nat.zero_le _, HM0⟩
          case round =>
            obtain ⟨k2, v2, rfl, rfl, hk2, hM⟩ := hrel
            have hk20 : (0 : Int) ≤ (k2 : Int) := by omega
            by_cases hkl : k2 < ms.length
            · have hkl' : (k2 : Int) < (ms.length : Int) := by omega
              have HTK := Lib.hid (once_take (zs := zs) hkl)
              have hzl : (onceL (ms.take k2) zs).length ≤ 800000 := by
                have h1 := once_len (ms.take k2) zs
                rw [List.length_take] at h1
                have := HSZ.out
                omega
              obtain ⟨gm, rfl, hgm, _, _⟩ := hM.out.2.1 k2 hkl
              have HX : Hid (∀ wr', MdS W1 M0 (some ⟨gm, 0, none⟩) ms v2 (onceL (ms.take k2) zs) wr' → wr'.cell? ⟨gm, k2, none⟩ = some (.int .i64 (ms.getD k2 0)) ∧ gm < wr'.heap.size) := Lib.hid (fun wr' h => by
                obtain ⟨g, e, q1, _, q2⟩ := h.2.1 k2 hkl
                cases e
                exact ⟨q2, q1⟩)
              generalize ms.getD k2 0 = X at HTK HX
              generalize hzs : onceL (ms.take k2) zs = zs2 at HTK HX hzl hM
              clear hzs
              obtain ⟨x2, c2, rfl⟩ := hM.out.1.form
              go_wp2_with fail
              go_loopw [7, 8] (fun hv jv wr => ∃ (q : Nat) (b : Bool), hv = .bool b ∧ jv = .int .i64 q ∧ q ≤ zs2.length ∧ Hid (b = decide (X ∈ zs2.take q)) ∧ Hid (MdS W1 M0 (some ⟨gm, 0, none⟩) ms (.slice x2 zs2.length c2) zs2 wr)) (fun _ jv _ => zs2.length - (intOf jv).toNat)
              case atStart => exact ⟨0, false, rfl, rfl, Nat.zero_le _, Lib.hid (by simp), hM⟩
              case round =>
                clear hM hgm
                obtain ⟨q, b, rfl, rfl, hq, hb, hM⟩ := hrel
                have hq0 : (0 : Int) ≤ (q : Int) := by omega
                obtain ⟨cx, cxl⟩ := HX.out _ hM.out
                by_cases hql : q < zs2.length
                · have hql' : (q : Int) < (zs2.length : Int) := by omega
                  obtain ⟨g2, c2', hv, hg1, hg2, hcell⟩ := hM.out.1.at hql
                  obtain ⟨rfl, rfl⟩ : x2 = some ⟨g2, 0, none⟩ ∧ c2 = c2' := by injection hv with h1 h2 h3; exact ⟨h1, h3⟩
                  clear hv
                  have HMT := Lib.hid (mem_take (X := X) hql)
                  generalize hz : zs2.getD q 0 = z at hcell HMT
                  clear hz
                  have HMD : Hid (∀ m, MdS W1 M0 (some ⟨gm, 0, none⟩) ms (.slice (some ⟨g2, 0, none⟩) zs2.length c2) zs2 (wr.drewN m)) := Lib.hid (fun m => hM.out.later (Below.draws (Below.refl _ _) m))
                  cases hbv : b with
                  | true =>
                    have HN : Hid (true = decide (X ∈ zs2.take (q + 1))) := Lib.hid (by rw [HMT.out, ← hb.out, hbv]; rfl)
                    clear hbv
                    go_wp2_with fail
                    go_quiet (fail)
                    go_wp2_with fail
                    go_roundw
                    case rel => exact ⟨q + 1, true, rfl, by go_num, by omega, HN, HMD.out _⟩
                    case measure => simp [intOf]; omega
                  | false =>
                    cases hzx : (z == X) with
                    | true =>
                      have HN : Hid (true = decide (X ∈ zs2.take (q + 1))) := Lib.hid (by rw [HMT.out, hzx, Bool.or_true])
                      clear hbv
                      go_wp2_with fail
                      go_quiet (fail)
                      go_wp2_with fail
                      go_roundw
                      case rel => exact ⟨q + 1, true, rfl, by go_num, by omega, HN, Lib.hid (HMD.out _)⟩
                      case measure => simp [intOf]; omega
                    | false =>
                      have HN : Hid (false = decide (X ∈ zs2.take (q + 1))) := Lib.hid (by rw [HMT.out, hzx, ← hb.out, hbv]; rfl)
                      clear hbv
                      go_wp2_with fail
                      go_quiet (fail)
                      go_wp2_with fail
                      go_roundw
                      case rel => exact ⟨q + 1, false, rfl, by go_num, by omega, HN, Lib.hid (HMD.out _)⟩
                      case measure => simp [intOf]; omega
                · have hql' : ¬ (q : Int) < (zs2.length : Int) := by omega
                  have dq : decide ((q : Int) < (zs2.length : Int)) = false := by simpa using hql'
                  have HBX : Hid (b = decide (X ∈ zs2)) := Lib.hid (by have h := hb.out; rwa [List.take_of_length_le (by omega)] at h)
                  cases hbv : b with
                  | true =>
                    have HI : Hid (onceL (ms.take (k2 + 1)) zs = zs2) := Lib.hid (by rw [HTK.out]; exact ins_old (of_decide_eq_true (HBX.out.symm.trans hbv)))
                    clear hbv
                    go_wp2_with fail
                    go_roundw
                    case rel => exact ⟨k2 + 1, _, rfl, by go_num, by omega, Lib.hid (by rw [HI.out]; exact hM.out)⟩
                    case measure => simp [intOf]; omega
                  | false =>
                    have HI : Hid (onceL (ms.take (k2 + 1)) zs = zs2 ++ [X]) := Lib.hid (by rw [HTK.out]; exact ins_new (of_decide_eq_false (HBX.out.symm.trans hbv)))
                    obtain ⟨g3, c3, w3, hrun, hN⟩ := hM.out.push X (by omega)
                    have HRUN := Lib.hid hrun
                    have HN := Lib.hid hN
                    clear hbv hrun hN
                    go_wp2_with (at_builtin; refine wpList_append_run (by rfl) _ _ _ (by rfl) (by rfl) (by rfl) HRUN.out ?_)
                    go_roundw
                    case rel => exact ⟨k2 + 1, _, rfl, by go_num, by omega, Lib.hid (by rw [HI.out]; exact HN.out)⟩
                    case measure => simp [intOf]; omega
            · have hkl' : ¬ (k2 : Int) < (ms.length : Int) := by omega
              have dk : decide ((k2 : Int) < (ms.length : Int)) = false := by simpa using hkl'
              have HEN : Hid (MdS W1 M0 xm ms v2 (onceL ms zs) wr) := Lib.hid (by have h := hM.out; rwa [List.take_of_length_le (by omega)] at h)
              clear hM
              go_wp2_with fail
              go_roundw
              case rel => exact ⟨j + 1, _, r', _, rfl, by go_num, HSN, Lib.hid (by rw [Ft.app_len, HJ.out]; rfl), Lib.hid (by rw [HNX.out, ← HM0E.out]; exact ⟨HEN.out.1, HEN.out.2.2.1, HEN.out.2.2.2.2⟩)⟩
              case measure => simp [intOf]; omega
    · have dk3 : (k == 3) = false := beq_eq_false_iff_ne.2 hk
      obtain ⟨pre, hpre⟩ : ∃ pre : List Int, pre = [] := ⟨_, rfl⟩
      have HPRE : Hid (∀ h : Ft, cs1 k n h = pre ++ csF h) := Lib.hid (fun h => by unfold cs1; rw [if_neg hk, hpre])
      have HPL : Hid (pre.length ≤ 1) := Lib.hid (by rw [hpre]; simp)
      have HS0 : Hid (IOwn W0 (w.heap.size + 1) (.slice none 0 0) (onceL (pre ++ csF .nil) []) ∧ w.heap.size + 1 ≤ W0.heap.size ∧ Below (w.heap.size + 1) W0 W0) := Lib.hid (by
        rw [hpre]; exact ⟨IOwn.nil _ _, by rw [HZ0.out]; exact Nat.le_refl _, Below.refl _ _⟩)
      obtain ⟨W1, hW1⟩ : ∃ W1, W1 = W0 := ⟨_, rfl⟩
      have HB1 : Hid (Below w.heap.size w W1) := Lib.hid (by rw [hW1]; exact HB0.out)
      have HZ1 : Hid (W1.heap.size = w.heap.size + 1) := Lib.hid (by rw [hW1]; exact HZ0.out)
      have HBX : Hid (W1.heap[w.heap.size]? = some (.cells #[.int .i64 k, .int .i64 n, .slice la ls.len lc, .slice ka f.len kc] 30 (0, 0))) := Lib.hid (by rw [hW1]; exact HBX0.out)
      rw [← hW1] at HS0
      have HS := HS0
      have HW0 : Hid (W1 = w.alloc (.cells #[.int .i64 k, .int .i64 n, .slice la ls.len lc, .slice ka f.len kc] 30)) := Lib.hid (hW1.trans hW0)
      clear hW1 hW0 HBX0 HB0 HZ0 hpre HS0
      go_enter Tryz.func72, Tryz.ntmps72
      go_wp2_with fail
      rw [← HW0.out]
      clear HW0 dk3
      go_loopw [3, 4] (fun ov jv wr => ∃ (j : Nat) (H rest : Ft) (v : Value), v = ov ∧ jv = .int .i64 j ∧ Hid (f = H.app rest) ∧ Hid (H.len = j) ∧ Hid (IOwn wr (w.heap.size + 1) v (onceL (pre ++ csF H) []) ∧ w.heap.size + 1 ≤ wr.heap.size ∧ Below (w.heap.size + 1) W1 wr)) (fun _ jv _ => f.len - (intOf jv).toNat)
      case atStart => exact ⟨0, .nil, f, _, rfl, rfl, Lib.hid rfl, Lib.hid rfl, HS⟩
      case round =>
        clear HS
        obtain ⟨j, H, rest, v, rfl, rfl, hf, hj, hR⟩ := hrel
        obtain ⟨hown, hzr, hwr1⟩ := hR.out
        have hbox := (hwr1.block w.heap.size (by omega)).trans HBX.out
        have hwr := HB1.out.trans (hwr1.mono (Nat.le_succ _))
        obtain ⟨c0, c1, c2, c3⟩ := cells4 hbox
        have hzl0 : w.heap.size < wr.heap.size := by omega
        cases rest with
        | nil =>
          have hjl : ¬ (j : Int) < (f.len : Int) := by rw [hf.out, Ft.app_nil, hj.out]; omega
          have dj : decide ((j : Int) < (f.len : Int)) = false := by simpa using hjl
          obtain ⟨x, c, rfl⟩ := hown.form
          have HE : Hid (NuPost (onceL (cs1 k n f) []) w (.returned (.slice x (onceL (pre ++ csF H) []).length c)) wr) := Lib.hid (by
            have e : cs1 k n f = pre ++ csF H := by rw [HPRE.out, show f = H by rw [hf.out, Ft.app_nil]]
            rw [e]
            exact ⟨x, c, rfl, hown.low (Nat.le_succ _), hwr⟩)
          clear hR hf hbox hown c0 c1 c2
          go_wp2_with fail
          go_ret
          exact HE.out
        | cons k' n' ls' ks r' =>
          have hjn : j < f.len := by rw [hf.out, Ft.app_len, hj.out]; simp [Ft.len]
          have hjl : (j : Int) < (f.len : Int) := by omega
          obtain ⟨bq, o, rfl, hbB, hf0⟩ := HSL.out.some (by omega)
          have hfa : FtIn w (· < B) (.cons k' n' ls' ks r') bq (o + j * 4) := by
            have h1 := hf0
            rw [hf.out] at h1
            rw [← hj.out]
            exact FtIn.behind H _ bq o h1
          obtain ⟨e0, e1, ⟨la', lc', e2, hls'⟩, ⟨ka', kc', e3, hsl'⟩, _⟩ := (hfa.below (hwr.mono hB) _ _ _ hbB).first
          have hfs : f.size = H.size + (ks.size + r'.size + 1) := by rw [hf.out, Ft.app_size]; rfl
          have hks : ks.size < s := by omega
          have hBr : B ≤ wr.heap.size := Nat.le_trans hB hwr.size
          have HC : Hid (Calls Tryz.prog 72 #[.agg #[.int .i64 k', .int .i64 n', .slice la' ls'.len lc', .slice ka' ks.len kc']] wr (NuPost (onceL (cs1 k' n' ks) []) wr)) :=
            Lib.hid (IH.out ks hks (by omega) k' n' ls' la' ka' lc' kc' B wr hls' hsl' hBr)
          have HNX : Hid (onceL (pre ++ csF (H.app (.cons k' n' ls' ks .nil))) [] = onceL (onceL (cs1 k' n' ks) []) (onceL (pre ++ csF H) [])) := Lib.hid (by
            rw [once_idem, csF_app, show csF (.cons k' n' ls' ks .nil) = cs1 k' n' ks ++ [] from rfl, List.append_nil, ← List.append_assoc, onceL_app])
          have HSZ : Hid ((onceL (pre ++ csF H) []).length + (onceL (cs1 k' n' ks) []).length ≤ 800000) := Lib.hid (by
            have h1 := once_len (pre ++ csF H) []
            have h2 := once_len (cs1 k' n' ks) []
            have h3 := cs1_len k' n' ks
            have h4 := csF_len H
            have h5 := HPL.out
            rw [List.length_append] at h1
            simp only [List.length_nil] at h1 h2
            omega)
          have HSN : Hid (f = (H.app (.cons k' n' ls' ks .nil)).app r') := Lib.hid (by rw [hf.out, Ft.app_assoc]; rfl)
          have HJ := Lib.hid hj.out
          have HRR := Lib.hid (And.intro hown (And.intro hzr hwr1))
          generalize onceL (pre ++ csF H) [] = zs at HNX HSZ HRR
          generalize onceL (cs1 k' n' ks) [] = ms at HC HNX HSZ
          clear hf hR hfa hf0 hls' hsl' hfs hbox hown hwr1 c0 c1 c2
          go_wp2_with fail
          refine HC.out.mono ?_
          rintro e w2 ⟨xm, cm, rfl, t1, t2⟩
          obtain ⟨M0, hM0⟩ : ∃ M0, M0 = w.heap.size + 1 := ⟨_, rfl⟩
          have HM0 : Hid (MdS W1 M0 xm ms v (onceL (ms.take 0) zs) w2) := Lib.hid (by rw [hM0]; exact MdS.start HRR.out.1 HRR.out.2.1 (Nat.le_of_eq HZ1.out.symm) HRR.out.2.2 t1 t2)
          have HM0E := Lib.hid hM0
          clear t1 t2 hM0 HRR HC e0 e1 e2 e3 c3
          go_wp2_with fail
          have hml : ms.length ≤ 800000 := by have := HSZ.out; omega
          go_loopw [3, 6] (fun ov kv wr => ∃ (k2 : Nat) (v2 : Value), v2 = ov ∧ kv = .int .i64 k2 ∧ k2 ≤ ms.length ∧ Hid (MdS W1 M0 xm ms v2 (onceL (ms.take k2) zs) wr)) (fun _ kv _ => ms.length - (intOf kv).toNat)
          case atStart => exact ⟨0, _, rfl, rfl, Nat.zero_le _, HM0⟩
          case round =>
            obtain ⟨k2, v2, rfl, rfl, hk2, hM⟩ := hrel
            have hk20 : (0 : Int) ≤ (k2 : Int) := by omega
            by_cases hkl : k2 < ms.length
            · have hkl' : (k2 : Int) < (ms.length : Int) := by omega
              have HTK := Lib.hid (once_take (zs := zs) hkl)
              have hzl : (onceL (ms.take k2) zs).length ≤ 800000 := by
                have h1 := once_len (ms.take k2) zs
                rw [List.length_take] at h1
                have := HSZ.out
                omega
              obtain ⟨gm, rfl, hgm, _, _⟩ := hM.out.2.1 k2 hkl
              have HX : Hid (∀ wr', MdS W1 M0 (some ⟨gm, 0, none⟩) ms v2 (onceL (ms.take k2) zs) wr' → wr'.cell? ⟨gm, k2, none⟩ = some (.int .i64 (ms.getD k2 0)) ∧ gm < wr'.heap.size) := Lib.hid (fun wr' h => by
                obtain ⟨g, e, q1, _, q2⟩ := h.2.1 k2 hkl
                cases e
                exact ⟨q2, q1⟩)
              generalize ms.getD k2 0 = X at HTK HX
              generalize hzs : onceL (ms.take k2) zs = zs2 at HTK HX hzl hM
              clear hzs
              obtain ⟨x2, c2, rfl⟩ := hM.out.1.form
              go_wp2_with fail
              go_loopw [7, 8] (fun hv jv wr => ∃ (q : Nat) (b : Bool), hv = .bool b ∧ jv = .int .i64 q ∧ q ≤ zs2.length ∧ Hid (b = decide (X ∈ zs2.take q)) ∧ Hid (MdS W1 M0 (some ⟨gm, 0, none⟩) ms (.slice x2 zs2.length c2) zs2 wr)) (fun _ jv _ => zs2.length - (intOf jv).toNat)
              case atStart => exact ⟨0, false, rfl, rfl, Nat.zero_le _, Lib.hid (by simp), hM⟩
              case round =>
                clear hM hgm
                obtain ⟨q, b, rfl, rfl, hq, hb, hM⟩ := hrel
                have hq0 : (0 : Int) ≤ (q : Int) := by omega
                obtain ⟨cx, cxl⟩ := HX.out _ hM.out
                by_cases hql : q < zs2.length
                · have hql' : (q : Int) < (zs2.length : Int) := by omega
                  obtain ⟨g2, c2', hv, hg1, hg2, hcell⟩ := hM.out.1.at hql
                  obtain ⟨rfl, rfl⟩ : x2 = some ⟨g2, 0, none⟩ ∧ c2 = c2' := by injection hv with h1 h2 h3; exact ⟨h1, h3⟩
                  clear hv
                  have HMT := Lib.hid (mem_take (X := X) hql)
                  generalize hz : zs2.getD q 0 = z at hcell HMT
                  clear hz
                  have HMD : Hid (∀ m, MdS W1 M0 (some ⟨gm, 0, none⟩) ms (.slice (some ⟨g2, 0, none⟩) zs2.length c2) zs2 (wr.drewN m)) := Lib.hid (fun m => hM.out.later (Below.draws (Below.refl _ _) m))
                  cases hbv : b with
                  | true =>
                    have HN : Hid (true = decide (X ∈ zs2.take (q + 1))) := Lib.hid (by rw [HMT.out, ← hb.out, hbv]; rfl)
                    clear hbv
                    go_wp2_with fail
                    go_quiet (fail)
                    go_wp2_with fail
                    go_roundw
                    case rel => exact ⟨q + 1, true, rfl, by go_num, by omega, HN, HMD.out _⟩
                    case measure => simp [intOf]; omega
                  | false =>
                    cases hzx : (z == X) with
                    | true =>
                      have HN : Hid (true = decide (X ∈ zs2.take (q + 1))) := Lib.hid (by rw [HMT.out, hzx, Bool.or_true])
                      clear hbv
                      go_wp2_with fail
                      go_quiet (fail)
                      go_wp2_with fail
                      go_roundw
                      case rel => exact ⟨q + 1, true, rfl, by go_num, by omega, HN, Lib.hid (HMD.out _)⟩
                      case measure => simp [intOf]; omega
                    | false =>
                      have HN : Hid (false = decide (X ∈ zs2.take (q + 1))) := Lib.hid (by rw [HMT.out, hzx, ← hb.out, hbv]; rfl)
                      clear hbv
                      go_wp2_with fail
                      go_quiet (fail)
                      go_wp2_with fail
                      go_roundw
                      case rel => exact ⟨q + 1, false, rfl, by go_num, by omega, HN, Lib.hid (HMD.out _)⟩
                      case measure => simp [intOf]; omega
                · have hql' : ¬ (q : Int) < (zs2.length : Int) := by omega
                  have dq : decide ((q : Int) < (zs2.length : Int)) = false := by simpa using hql'
                  have HBX : Hid (b = decide (X ∈ zs2)) := Lib.hid (by have h := hb.out; rwa [List.take_of_length_le (by omega)] at h)
                  cases hbv : b with
                  | true =>
                    have HI : Hid (onceL (ms.take (k2 + 1)) zs = zs2) := Lib.hid (by rw [HTK.out]; exact ins_old (of_decide_eq_true (HBX.out.symm.trans hbv)))
                    clear hbv
                    go_wp2_with fail
                    go_roundw
                    case rel => exact ⟨k2 + 1, _, rfl, by go_num, by omega, Lib.hid (by rw [HI.out]; exact hM.out)⟩
                    case measure => simp [intOf]; omega
                  | false =>
                    have HI : Hid (onceL (ms.take (k2 + 1)) zs = zs2 ++ [X]) := Lib.hid (by rw [HTK.out]; exact ins_new (of_decide_eq_false (HBX.out.symm.trans hbv)))
                    obtain ⟨g3, c3, w3, hrun, hN⟩ := hM.out.push X (by omega)
                    have HRUN := Lib.hid hrun
                    have HN := Lib.hid hN
                    clear hbv hrun hN
                    go_wp2_with (at_builtin; refine wpList_append_run (by rfl) _ _ _ (by rfl) (by rfl) (by rfl) HRUN.out ?_)
                    go_roundw
                    case rel => exact ⟨k2 + 1, _, rfl, by go_num, by omega, Lib.hid (by rw [HI.out]; exact HN.out)⟩
                    case measure => simp [intOf]; omega
            · have hkl' : ¬ (k2 : Int) < (ms.length : Int) := by omega
              have dk : decide ((k2 : Int) < (ms.length : Int)) = false := by simpa using hkl'
              have HEN : Hid (MdS W1 M0 xm ms v2 (onceL ms zs) wr) := Lib.hid (by have h := hM.out; rwa [List.take_of_length_le (by omega)] at h)
              clear hM
              go_wp2_with fail
              go_roundw
              case rel => exact ⟨j + 1, _, r', _, rfl, by go_num, HSN, Lib.hid (by rw [Ft.app_len, HJ.out]; rfl), Lib.hid (by rw [HNX.out, ← HM0E.out]; exact ⟨HEN.out.1, HEN.out.2.2.1, HEN.out.2.2.2.2⟩)⟩
              case measure => simp [intOf]; omega
end Go.Proofs.YtnfhpombnbpdcaaGreat
namespace Go.Proofs.YtnfhpombnbpdcaaGreat
open Go.RowKit
set_option maxRecDepth 100000 in
set_option maxHeartbeats 4000000 in
theorem r12Right_any (p : Int) (cs : Fo) (ca : Option Addr) (cl cc B : Nat) (w : World) (hc : ConIn w (· < B) cs ca cl cc) (hB : B ≤ w.heap.size) :
    Calls Tryz.prog 49 #[.slice ca cl cc, .int .i64 p] w fun e w' => e = .returned (.bool (conB p cs cl)) ∧ Below w.heap.size w w' := by
  obtain ⟨hl, hcc, hm, _, hget⟩ := hc
  have hcl : cl ≤ 9223372036854775807 := by unfold maxLen at hm; omega
  have HG := Lib.hid hget
  have HL := Lib.hid hl
  clear hget hl hm hcc
  go_enter Tryz.func49, Tryz.ntmps49
  go_wp2_with fail
  go_loopw [5] (fun iv wr => ∃ (j : Nat) (G rest : Fo), iv = .int .i64 j ∧ Hid (cs = G.app rest) ∧ Hid (G.len = 2 * j) ∧ Hid (lvB p 0 G = true) ∧ Hid (Below w.heap.size w wr)) (fun iv _ => cl - (intOf iv).toNat)
  case atStart => exact ⟨0, .nil, cs, rfl, Lib.hid rfl, Lib.hid rfl, Lib.hid rfl, Lib.hid (Below.refl _ _)⟩
  case round =>
    obtain ⟨j, G, rest, rfl, hf, hj, hok, hb⟩ := hrel
    match rest with
    | .nil =>
      have hjc : j = cl := by have h1 := HL.out; rw [hf.out, foNil3, hj.out] at h1; omega
      subst hjc
      have dj : decide ((j : Int) < (j : Int)) = false := by simp
      have HV : Hid (conB p cs j = (decide (0 ≤ p) && (decide (p ≤ 5) && decide (j ≤ 8)))) := Lib.hid (by unfold conB; rw [hf.out, foNil3, hok.out, Bool.true_and])
      by_cases h1 : 0 ≤ p
      · by_cases h2 : p ≤ 5
        · by_cases h3 : j ≤ 8
          · have d3 : ((j : Int) ≤ 8) := by omega
            clear hf hj hok
            go_wp2_with fail
            go_ret
            exact ⟨by rw [HV.out, decide_eq_true (p := 0 ≤ p) (by omega), decide_eq_true (p := p ≤ 5) (by omega), decide_eq_true (p := j ≤ 8) (by omega)]; rfl, hb.out⟩
          · have d3 : ¬ ((j : Int) ≤ 8) := by omega
            clear hf hj hok
            go_wp2_with fail
            go_ret
            exact ⟨by rw [HV.out, decide_eq_true (p := 0 ≤ p) (by omega), decide_eq_true (p := p ≤ 5) (by omega), decide_eq_false (p := j ≤ 8) (by omega)]; rfl, hb.out⟩
        · clear hf hj hok
          go_wp2_with fail
          go_ret
          exact ⟨by rw [HV.out, decide_eq_true (p := 0 ≤ p) (by omega), decide_eq_false (p := p ≤ 5) (by omega)]; rfl, hb.out⟩
      · clear hf hj hok
        go_wp2_with fail
        go_ret
        exact ⟨by rw [HV.out, decide_eq_false (p := 0 ≤ p) (by omega)]; rfl, hb.out⟩
    | .cons k n ks .nil =>
      exfalso
      have h1 := HL.out
      rw [hf.out, Fo.app_len, hj.out] at h1
      simp only [Fo.len] at h1
      omega
    | .cons k n ks (.cons k' n' ks' r') =>
      have hjl : j < cl := by
        have h1 := HL.out
        rw [hf.out, Fo.app_len, hj.out] at h1
        simp only [Fo.len] at h1
        omega
      have hjl2 : (j : Int) < (cl : Int) := by omega
      obtain ⟨b, o, rfl, hbB, hf0⟩ := HG.out (by omega)
      have hfa : FoIn wr (· < B) (.cons k n ks (.cons k' n' ks' r')) b (o + j * 6) := by
        have h1 := FoIn.below (hb.out.mono hB) _ _ _ hbB hf0
        rw [hf.out] at h1
        have h2 := FoIn.behind3 G _ b o h1
        rw [hj.out] at h2
        rw [show o + j * 6 = o + 2 * j * 3 by omega]
        exact h2
      obtain ⟨e0, e1, ⟨a1, c1, e2, s1⟩, hr⟩ := hfa.first
      obtain ⟨g0, g1, ⟨a2, c2, g2, s2⟩, _⟩ := hr.first
      have hBr : B ≤ wr.heap.size := Nat.le_trans hB hb.out.size
      have HC1 := Lib.hid (rRight_any p 0 k n ks a1 c1 B wr s1 hBr)
      have HC2 : Hid (∀ W, Below wr.heap.size wr W → Calls Tryz.prog 71 #[.agg #[.int .i64 k', .int .i64 n', .slice a2 ks'.len c2], .int .i64 p, .int .i64 0] W fun e w' => e = .returned (.bool (rightB p 0 k' n' ks')) ∧ Below W.heap.size W w') := Lib.hid (fun W hW => rRight_any p 0 k' n' ks' a2 c2 B W (s2.below (hW.mono hBr)) (Nat.le_trans hBr hW.size))
      have HNX : Hid (rightB p 0 k n ks = true → rightB p 0 k' n' ks' = true → lvB p 0 (G.app (.cons k n ks (.cons k' n' ks' .nil))) = true) := Lib.hid (fun h1 h2 => by rw [lvB_app9, hok.out]; simp [lvB, h1, h2])
      have HNO : Hid (rightB p 0 k n ks = false ∨ rightB p 0 k' n' ks' = false → conB p cs cl = false) := Lib.hid (fun h => by
        unfold conB
        rw [hf.out, lvB_app9]
        rcases h with h | h <;> simp [lvB, h])
      have HSN : Hid (cs = (G.app (.cons k n ks (.cons k' n' ks' .nil))).app r') := Lib.hid (by rw [hf.out, foAss3]; rfl)
      have HJ : Hid ((G.app (.cons k n ks (.cons k' n' ks' .nil))).len = 2 * (j + 1)) := Lib.hid (by rw [Fo.app_len, hj.out]; simp only [Fo.len]; omega)
      have HKW : Hid (∀ W, Below wr.heap.size wr W → ∀ i, W.cell? ⟨b, i, none⟩ = wr.cell? ⟨b, i, none⟩) := Lib.hid (fun W hW i => bcell hW _ _ (by have : b < B := hbB; omega))
      generalize rightB p 0 k n ks = v1 at HC1 HNX HNO
      generalize rightB p 0 k' n' ks' = v2 at HC2 HNX HNO
      clear hf hj hok hfa hr s1 s2 hf0 hjl
      go_wp2_with fail
      refine HC1.out.mono ?_
      rintro e w1 ⟨rfl, hb1⟩
      have HB1 := Lib.hid hb1
      have HBW := Lib.hid (Below.step hb.out hb1 (Nat.le_refl _))
      have g0' := (HKW.out w1 hb1 _).trans g0
      have g1' := (HKW.out w1 hb1 _).trans g1
      have g2' := (HKW.out w1 hb1 _).trans g2
      clear hb1
      cases v1 with
      | false =>
        have HF := Lib.hid (HNO.out (.inl rfl))
        go_wp2_with fail
        go_ret
        exact ⟨by rw [HF.out]; rfl, HBW.out⟩
      | true =>
        go_wp2_with fail
        refine (HC2.out _ HB1.out).mono ?_
        rintro e w2 ⟨rfl, hb2⟩
        have HB2 := Lib.hid (Below.step HBW.out hb2 (Nat.le_refl _))
        clear hb2
        cases v2 with
        | false =>
          have HF := Lib.hid (HNO.out (.inr rfl))
          go_wp2_with fail
          go_ret
          exact ⟨by rw [HF.out]; rfl, HB2.out⟩
        | true =>
          have HX : Hid (lvB p 0 (G.app (.cons k n ks (.cons k' n' ks' .nil))) = true) := Lib.hid (HNX.out (by first | rfl | trivial) (by first | rfl | trivial))
          go_wp2_with fail
          go_roundw
          case rel => exact ⟨j + 1, _, r', by go_num, HSN, HJ, HX, HB2⟩
          case measure => simp [intOf]; omega
set_option maxRecDepth 100000 in
set_option maxHeartbeats 2000000 in
theorem r16below_any (T : Tm) (at' : Int) (la ka : Option Addr) (lc kc B : Nat) (w : World) (hz : T.ks.size ≤ 1000) (hls : SlIn w (· < B) T.ls la lc) (hsl : TlIn w (· < B) T.ks ka kc) (hB : B ≤ w.heap.size) :
    Calls Tryz.prog 50 #[.agg #[.int .i64 T.k, .int .i64 T.n, .slice la T.ls.len lc, .slice ka T.ks.len kc], .int .i64 at'] w fun e w' => e = .returned (.bool (belowB T at')) ∧ Below w.heap.size w w' := by
  have hb0 : Below w.heap.size w (w.alloc (.cells #[.int .i64 T.k, .int .i64 T.n, .slice la T.ls.len lc, .slice ka T.ks.len kc] 30)) := (Below.refl _ _).alloc (Nat.le_refl _) _
  have HC := Lib.hid (r15Consts_any (T.ks.size + 1) T.ks (Nat.lt_succ_self _) hz T.k T.n T.ls la ka lc kc B _ (hls.below (hb0.mono hB)) (hsl.below (hb0.mono hB)) (Nat.le_trans hB hb0.size))
  have HV : Hid (belowB T at' = (onceL (cs1 T.k T.n T.ks) []).all fun x => decide (x < at')) := Lib.hid rfl
  have hlen := once_len (cs1 T.k T.n T.ks) []
  have hcl := cs1_len T.k T.n T.ks
  have HLEN : Hid ((onceL (cs1 T.k T.n T.ks) []).length ≤ 2000) := Lib.hid (by simp at hlen; omega)
  have HB0 := Lib.hid hb0
  generalize onceL (cs1 T.k T.n T.ks) [] = zs at HC HV HLEN
  clear hls hsl hb0 hlen hcl hz
  go_enter Tryz.func50, Tryz.ntmps50
  go_wp2_with fail
  refine HC.out.mono ?_
  rintro e w1 ⟨x, c, rfl, hi, hb1⟩
  have HB1 := Lib.hid (Below.step HB0.out hb1 (Nat.le_refl _))
  have HI := Lib.hid hi.ints
  have hzl : zs.length ≤ 9223372036854775807 := by have := HLEN.out; omega
  clear hi hb1
  go_wp2_with fail
  go_loopw [6] (fun iv wr => ∃ (j : Nat), iv = .int .i64 j ∧ j ≤ zs.length ∧ wr = w1 ∧ Hid ((zs.take j).all (fun x => decide (x < at')) = true)) (fun iv _ => zs.length - (intOf iv).toNat)
  case atStart => exact ⟨0, rfl, Nat.zero_le _, rfl, Lib.hid rfl⟩
  case round =>
    obtain ⟨j, rfl, hj, rfl, hall⟩ := hrel
    by_cases hlt : j < zs.length
    · have hjl : (j : Int) < (zs.length : Int) := by omega
      obtain ⟨b, o, rfl, hbl, hcs⟩ := HI.out.some (by omega)
      have e0 := hcs j hlt
      have htk : zs.take (j + 1) = zs.take j ++ [zs.getD j 0] := by rw [List.take_add_one, List.getElem?_eq_getElem hlt, List.getD_eq_getElem?_getD, List.getElem?_eq_getElem hlt]; rfl
      have HNX : Hid (zs.getD j 0 < at' → (zs.take (j + 1)).all (fun x => decide (x < at')) = true) := Lib.hid (fun h => by rw [htk, List.all_append, hall.out]; simpa using h)
      have HNO : Hid (¬ zs.getD j 0 < at' → belowB T at' = false) := Lib.hid (fun h => by
        rw [HV.out, List.all_eq_false]
        refine ⟨zs.getD j 0, ?_, by simpa using h⟩
        rw [List.getD_eq_getElem?_getD, List.getElem?_eq_getElem hlt]
        exact List.getElem_mem hlt)
      generalize zs.getD j 0 = z at e0 HNX HNO
      clear hcs htk hall hbl
      by_cases hz : z < at'
      · have dz : ¬ (at' ≤ z) := by omega
        have HX := Lib.hid (HNX.out hz)
        clear HNX HNO
        go_wp2_with fail
        go_roundw
        case rel => exact ⟨j + 1, by go_num, by omega, (by first | rfl | trivial), HX⟩
        case measure => simp [intOf]; omega
      · have dz : at' ≤ z := by omega
        have HX := Lib.hid (HNO.out hz)
        clear HNX HNO
        go_wp2_with fail
        go_ret
        exact ⟨by rw [HX.out]; rfl, HB1.out⟩
    · have hjl : ¬ (j : Int) < (zs.length : Int) := by omega
      have dj : decide ((j : Int) < (zs.length : Int)) = false := by simpa using hjl
      have HX : Hid (belowB T at' = true) := Lib.hid (by rw [HV.out]; have := hall.out; rwa [List.take_of_length_le (by omega)] at this)
      go_wp2_with fail
      go_ret
      exact ⟨by rw [HX.out]; rfl, HB1.out⟩
end Go.Proofs.YtnfhpombnbpdcaaGreat
namespace Go.Proofs.YtnfhpombnbpdcaaGreat
open Go.RowKit
set_option maxRecDepth 100000 in
set_option maxHeartbeats 4000000 in
theorem r16decl_any (d : Dc) (at' : Int) (ca : Option Addr) (cl cc : Nat) (la : Option Addr) (lc : Nat) (ka : Option Addr) (kc : Nat) (la' : Option Addr) (lc' : Nat) (ka' : Option Addr) (kc' B : Nat) (w : World) (hc : ConIn w (· < B) d.cs ca cl cc) (h1 : SlIn w (· < B) d.ty.ls la lc) (h2 : TlIn w (· < B) d.ty.ks ka kc) (h3 : SlIn w (· < B) d.va.ls la' lc') (h4 : TlIn w (· < B) d.va.ks ka' kc') (hB : B ≤ w.heap.size) :
    Calls Tryz.prog 32 #[.agg (dcV d ca cl cc la lc ka kc la' lc' ka' kc'), .int .i64 at'] w fun e w' => e = .returned (.bool (declB d at')) ∧ Below w.heap.size w w' := by
  have hcl : cl = d.cs.len / 2 := by have := hc.1; omega
  obtain ⟨W0, hW0⟩ : ∃ W0, w.alloc (.cells (dcV d ca cl cc la lc ka kc la' lc' ka' kc') 41) = W0 := ⟨_, rfl⟩
  have hb0 : Below w.heap.size w W0 := by rw [← hW0]; exact (Below.refl _ _).alloc (Nat.le_refl _) _
  have hx0 : W0.heap[w.heap.size]? = some (.cells (dcV d ca cl cc la lc ka kc la' lc' ka' kc') 41 (0, 0)) := by rw [← hW0]; exact heap_new _ _
  have HX0 := Lib.hid hx0
  have HB0 := Lib.hid hb0
  have HZ : Hid (w.heap.size < W0.heap.size) := Lib.hid (lt_of_block hx0)
  -- what is asked, in whatever world behind
  have C1 : Hid (∀ W, Below W0.heap.size W0 W → Calls Tryz.prog 49 #[.slice ca cl cc, .int .i64 d.p] W fun e w' => e = .returned (.bool (conB d.p d.cs (d.cs.len / 2))) ∧ Below W.heap.size W w') := Lib.hid (fun W h => by
    have hb := Below.step hb0 h (Nat.le_refl _)
    rw [← hcl]
    exact r12Right_any d.p d.cs ca cl cc B W (hc.keep (fun q hq => hb.block q (by have : q < B := hq; omega))) (Nat.le_trans hB hb.size))
  have C2 : Hid (∀ W, Below W0.heap.size W0 W → Calls Tryz.prog 43 #[.agg #[.int .i64 d.ty.k, .int .i64 d.ty.n, .slice la d.ty.ls.len lc, .slice ka d.ty.ks.len kc], .int .i64 0, .int .i64 d.p, .int .i64 0] W fun e w' => e = .returned (.bool (tRightB d.p 0 0 d.ty.k d.ty.n d.ty.ls d.ty.ks)) ∧ Below W.heap.size W w') := Lib.hid (fun W h => by
    have hb := Below.step hb0 h (Nat.le_refl _)
    exact r13Right_any d.p 0 0 d.ty.k d.ty.n d.ty.ls d.ty.ks la ka lc kc B W (h1.below (hb.mono hB)) (h2.below (hb.mono hB)) (Nat.le_trans hB hb.size))
  have C3 : Hid (tRightB d.p 0 0 d.ty.k d.ty.n d.ty.ls d.ty.ks = true → ∀ W, Below W0.heap.size W0 W → Calls Tryz.prog 50 #[.agg #[.int .i64 d.ty.k, .int .i64 d.ty.n, .slice la d.ty.ls.len lc, .slice ka d.ty.ks.len kc], .int .i64 at'] W fun e w' => e = .returned (.bool (belowB d.ty at')) ∧ Below W.heap.size W w') := Lib.hid (fun hr W h => by
    have hb := Below.step hb0 h (Nat.le_refl _)
    exact r16below_any d.ty at' la ka lc kc B W (rightB_size hr) (h1.below (hb.mono hB)) (h2.below (hb.mono hB)) (Nat.le_trans hB hb.size))
  have C4 : Hid (∀ W, Below W0.heap.size W0 W → Calls Tryz.prog 43 #[.agg #[.int .i64 d.va.k, .int .i64 d.va.n, .slice la' d.va.ls.len lc', .slice ka' d.va.ks.len kc'], .int .i64 0, .int .i64 d.p, .int .i64 0] W fun e w' => e = .returned (.bool (tRightB d.p 0 0 d.va.k d.va.n d.va.ls d.va.ks)) ∧ Below W.heap.size W w') := Lib.hid (fun W h => by
    have hb := Below.step hb0 h (Nat.le_refl _)
    exact r13Right_any d.p 0 0 d.va.k d.va.n d.va.ls d.va.ks la' ka' lc' kc' B W (h3.below (hb.mono hB)) (h4.below (hb.mono hB)) (Nat.le_trans hB hb.size))
  have C5 : Hid (tRightB d.p 0 0 d.va.k d.va.n d.va.ls d.va.ks = true → ∀ W, Below W0.heap.size W0 W → Calls Tryz.prog 50 #[.agg #[.int .i64 d.va.k, .int .i64 d.va.n, .slice la' d.va.ls.len lc', .slice ka' d.va.ks.len kc'], .int .i64 at'] W fun e w' => e = .returned (.bool (belowB d.va at')) ∧ Below W.heap.size W w') := Lib.hid (fun hr W h => by
    have hb := Below.step hb0 h (Nat.le_refl _)
    exact r16below_any d.va at' la' ka' lc' kc' B W (rightB_size hr) (h3.below (hb.mono hB)) (h4.below (hb.mono hB)) (Nat.le_trans hB hb.size))
  have C6 : Hid (∀ W, Below W0.heap.size W0 W → Calls Tryz.prog 20 #[.agg #[.int .i64 d.va.k, .int .i64 d.va.n, .slice la' d.va.ls.len lc', .slice ka' d.va.ks.len kc'], .agg #[.int .i64 0, .int .i64 0, .slice none 0 0, .slice none 0 0]] W fun e w' => e = .returned (.bool (decide (d.va = tZ))) ∧ Below W.heap.size W w') := Lib.hid (fun W h => by
    have hb := Below.step hb0 h (Nat.le_refl _)
    rw [← tm_zero]
    exact r13same_any (d.va.ks.size + 1) d.va.ks .nil (Nat.lt_succ_self _) d.va.k d.va.n 0 0 d.va.ls .nil la' none ka' none lc' 0 kc' 0 B W (h3.below (hb.mono hB)) (SlIn.none _ _) (h4.below (hb.mono hB)) (TlIn.none _ _) (Nat.le_trans hB hb.size))
  have HV : Hid (declB d at' = ((conB d.p d.cs (d.cs.len / 2) && (tRightB d.p 0 0 d.ty.k d.ty.n d.ty.ls d.ty.ks && belowB d.ty at')) && (if d.has = true then tRightB d.p 0 0 d.va.k d.va.n d.va.ls d.va.ks && belowB d.va at' else decide (d.va = tZ)))) := Lib.hid rfl
  have HCELL : Hid (∀ W, Below W0.heap.size W0 W → W.cell? ⟨w.heap.size, 0, none⟩ = some (.int .i64 d.p) ∧ W.cell? ⟨w.heap.size, 2, none⟩ = some (.int .i64 d.ty.k) ∧ W.cell? ⟨w.heap.size, 3, none⟩ = some (.int .i64 d.ty.n) ∧ W.cell? ⟨w.heap.size, 4, none⟩ = some (.slice la d.ty.ls.len lc) ∧ W.cell? ⟨w.heap.size, 5, none⟩ = some (.slice ka d.ty.ks.len kc) ∧ W.cell? ⟨w.heap.size, 6, none⟩ = some (.bool d.has) ∧
      W.cell? ⟨w.heap.size, 7, none⟩ = some (.int .i64 d.va.k) ∧ W.cell? ⟨w.heap.size, 8, none⟩ = some (.int .i64 d.va.n) ∧ W.cell? ⟨w.heap.size, 9, none⟩ = some (.slice la' d.va.ls.len lc') ∧ W.cell? ⟨w.heap.size, 10, none⟩ = some (.slice ka' d.va.ks.len kc')) := Lib.hid (fun W h => by
    have hx := (h.block _ HZ.out).trans HX0.out
    exact ⟨cell_at hx 0, cell_at hx 2, cell_at hx 3, cell_at hx 4, cell_at hx 5, cell_at hx 6, cell_at hx 7, cell_at hx 8, cell_at hx 9, cell_at hx 10⟩)
  generalize conB d.p d.cs (d.cs.len / 2) = v1 at C1 HV
  generalize tRightB d.p 0 0 d.ty.k d.ty.n d.ty.ls d.ty.ks = v2 at C2 C3 HV
  generalize belowB d.ty at' = v3 at C3 HV
  generalize tRightB d.p 0 0 d.va.k d.va.n d.va.ls d.va.ks = v4 at C4 C5 HV
  generalize belowB d.va at' = v5 at C5 HV
  generalize decide (d.va = tZ) = v6 at C6 HV
  have HR : Hid (∀ W (v : Bool), Below W0.heap.size W0 W → declB d at' = v → (.returned (.bool v) : Ending) = .returned (.bool (declB d at')) ∧ Below w.heap.size w W) := Lib.hid (fun W v h e => ⟨by rw [e], Below.step hb0 h (Nat.le_refl _)⟩)
  generalize hdh : d.has = hh at HV HCELL
  have hW0' := hW0
  unfold dcV at hW0'
  rw [hdh] at hW0'
  have HW0 := Lib.hid hW0'
  clear hc h1 h2 h3 h4 hB hb0 hx0 hW0 hW0' hcl
  unfold dcV
  rw [hdh]
  clear hdh
  go_enter Tryz.func32, Tryz.ntmps32
  go_wp2_with fail
  rw [HW0.out]
  refine (C1.out _ (Below.refl _ _)).mono ?_
  rintro e w1 ⟨rfl, hb1⟩
  have B1 := Lib.hid hb1
  obtain ⟨c0, c2, c3, c4, c5, c6, c7, c8, c9, c10⟩ := HCELL.out w1 hb1
  clear hb1
  cases v1 with
  | false =>
    go_wp2_with fail
    go_ret
    exact HR.out _ _ B1.out (by rw [HV.out]; rfl)
  | true =>
    go_wp2_with fail
    refine (C2.out _ B1.out).mono ?_
    rintro e w2 ⟨rfl, hb2⟩
    have B2 := Lib.hid (Below.step B1.out hb2 (Nat.le_refl _))
    clear hb2 c0 c2 c3 c4 c5 c6 c7 c8 c9 c10
    obtain ⟨c0, c2, c3, c4, c5, c6, c7, c8, c9, c10⟩ := HCELL.out w2 B2.out
    cases v2 with
    | false =>
      go_wp2_with fail
      go_ret
      exact HR.out _ _ B2.out (by rw [HV.out]; rfl)
    | true =>
      have C3' := Lib.hid (C3.out (by first | rfl | trivial))
      go_wp2_with fail
      refine (C3'.out _ B2.out).mono ?_
      rintro e w3 ⟨rfl, hb3⟩
      have B3 := Lib.hid (Below.step B2.out hb3 (Nat.le_refl _))
      clear hb3 c0 c2 c3 c4 c5 c6 c7 c8 c9 c10
      obtain ⟨c0, c2, c3, c4, c5, c6, c7, c8, c9, c10⟩ := HCELL.out w3 B3.out
      cases v3 with
      | false =>
        go_wp2_with fail
        go_ret
        exact HR.out _ _ B3.out (by rw [HV.out]; rfl)
      | true =>
        cases hh with
        | false =>
          go_wp2_with fail
          refine (C6.out _ B3.out).mono ?_
          rintro e w4 ⟨rfl, hb4⟩
          have B4 := Lib.hid (Below.step B3.out hb4 (Nat.le_refl _))
          clear hb4 c0 c2 c3 c4 c5 c6 c7 c8 c9 c10
          go_wp2_with fail
          go_ret
          exact HR.out _ _ B4.out (by rw [HV.out]; rfl)
        | true =>
          go_wp2_with fail
          refine (C4.out _ B3.out).mono ?_
          rintro e w4 ⟨rfl, hb4⟩
          have B4 := Lib.hid (Below.step B3.out hb4 (Nat.le_refl _))
          clear hb4 c0 c2 c3 c4 c5 c6 c7 c8 c9 c10
          obtain ⟨c0, c2, c3, c4, c5, c6, c7, c8, c9, c10⟩ := HCELL.out w4 B4.out
          cases v4 with
          | false =>
            go_wp2_with fail
            go_ret
            exact HR.out _ _ B4.out (by rw [HV.out]; rfl)
          | true =>
            have C5' := Lib.hid (C5.out (by first | rfl | trivial))
            go_wp2_with fail
            refine (C5'.out _ B4.out).mono ?_
            rintro e w5 ⟨rfl, hb5⟩
            have B5 := Lib.hid (Below.step B4.out hb5 (Nat.le_refl _))
            clear hb5 c0 c2 c3 c4 c5 c6 c7 c8 c9 c10
            go_wp2_with fail
            go_ret
            exact HR.out _ _ B5.out (by rw [HV.out]; rfl)
end Go.Proofs.YtnfhpombnbpdcaaGreat
namespace Go.Proofs.YtnfhpombnbpdcaaGreat
open Go.RowKit
set_option maxRecDepth 100000 in
set_option maxHeartbeats 4000000 in
theorem r16Right_any (E : List Dc) (ea : Option Addr) (cap B : Nat) (w : World) (hE : DsIn w (· < B) E ea cap) (hB : B ≤ w.heap.size) :
    Calls Tryz.prog 23 #[.slice ea E.length cap] w fun e w' => e = .returned (.bool (envB E)) ∧ Below w.heap.size w w' := by
  have hlen := hE.len
  have HE := Lib.hid hE
  clear hE
  go_enter Tryz.func23, Tryz.ntmps23
  go_wp2_with fail
  go_loopw [3] (fun iv wr => ∃ (j : Nat), iv = .int .i64 j ∧ j ≤ E.length ∧ Hid (∀ (i : Nat) (h : i < E.length), i < j → declB E[i] (i : Int) = true) ∧ Hid (Below w.heap.size w wr)) (fun iv _ => E.length - (intOf iv).toNat)
  case atStart => exact ⟨0, rfl, Nat.zero_le _, Lib.hid (fun i _ h => by omega), Lib.hid (Below.refl _ _)⟩
  case round =>
    obtain ⟨j, rfl, hj, hall, hb⟩ := hrel
    by_cases hlt : j < E.length
    · have hjl : (j : Int) < (E.length : Int) := by omega
      obtain ⟨eb, eo, rfl, heb, p0, ⟨ca, cl, cc, p1, hc⟩, ⟨p2, p3, la, lc, ka, kc, p4, p5, s1, s2⟩, p6, ⟨p7, p8, la', lc', ka', kc', p9, p10, s3, s4⟩⟩ := (HE.out.below (hb.out.mono hB)).get hlt
      change wr.cell? ⟨eb, eo + j * 11 + 3, none⟩ = _ at p3
      change wr.cell? ⟨eb, eo + j * 11 + 4, none⟩ = _ at p4
      change wr.cell? ⟨eb, eo + j * 11 + 5, none⟩ = _ at p5
      change wr.cell? ⟨eb, eo + j * 11 + 8, none⟩ = _ at p8
      change wr.cell? ⟨eb, eo + j * 11 + 9, none⟩ = _ at p9
      change wr.cell? ⟨eb, eo + j * 11 + 10, none⟩ = _ at p10
      have HC := Lib.hid (r16decl_any E[j] (j : Int) ca cl cc la lc ka kc la' lc' ka' kc' B wr hc s1 s2 s3 s4 (Nat.le_trans hB hb.out.size))
      have HY : Hid (declB E[j] (j : Int) = true → ∀ (i : Nat) (h : i < E.length), i < j + 1 → declB E[i] (i : Int) = true) := Lib.hid (fun hd i h hi => by
        rcases Nat.lt_or_ge i j with h1 | h1
        · exact hall.out i h h1
        · obtain rfl : i = j := by omega
          exact hd)
      have HN : Hid (declB E[j] (j : Int) = false → envB E = false) := Lib.hid (envB_no hlt)
      unfold dcV at HC
      generalize declB E[j] (j : Int) = v at HC HY HN
      generalize E[j] = d at p0 p2 p3 p4 p5 p6 p7 p8 p9 p10 HC
      clear hc s1 s2 s3 s4 hall heb
      go_wp2_with fail
      refine HC.out.mono ?_
      rintro e w1 ⟨rfl, hb1⟩
      have B1 := Lib.hid (Below.step hb.out hb1 (Nat.le_refl _))
      clear hb1 p0 p1 p2 p3 p4 p5 p6 p7 p8 p9 p10
      cases v with
      | false =>
        have HX := Lib.hid (HN.out (by first | rfl | trivial))
        go_wp2_with fail
        go_ret
        exact ⟨by rw [HX.out]; rfl, B1.out⟩
      | true =>
        have HX : Hid (∀ (i : Nat) (h : i < E.length), i < j + 1 → declB E[i] (i : Int) = true) := Lib.hid (HY.out (by first | rfl | trivial))
        clear HY HN
        go_wp2_with fail
        go_roundw
        case rel => exact ⟨j + 1, by go_num, by omega, HX, B1⟩
        case measure => simp [intOf]; omega
    · have hjl : ¬ (j : Int) < (E.length : Int) := by omega
      have dj : decide ((j : Int) < (E.length : Int)) = false := by simpa using hjl
      have HV : Hid (envB E = decide (E.length ≤ 20)) := Lib.hid (by
        unfold envB
        rw [declsB_all.2 (fun i h => by rw [Nat.zero_add]; exact hall.out i h (by omega)), Bool.true_and])
      clear hall
      by_cases h20 : E.length ≤ 20
      · have d20 : ((E.length : Int) ≤ 20) := by omega
        go_wp2_with fail
        go_ret
        exact ⟨by rw [HV.out, decide_eq_true h20]; rfl, hb.out⟩
      · have d20 : ¬ ((E.length : Int) ≤ 20) := by omega
        go_wp2_with fail
        go_ret
        exact ⟨by rw [HV.out, decide_eq_false h20]; rfl, hb.out⟩
end Go.Proofs.YtnfhpombnbpdcaaGreat
namespace Go.Proofs.YtnfhpombnbpdcaaGreat
open Go.RowKit
set_option maxRecDepth 100000 in
set_option maxHeartbeats 8000000 in
theorem r16Reduce_any (E : List Dc) (T : Tm) (fuel : Int) (ea la ka : Option Addr) (cap lc kc B : Nat) (w : World) (hE : DsIn w (· < B) E ea cap) (hls : SlIn w (· < B) T.ls la lc) (hsl : TlIn w (· < B) T.ks ka kc) (hB : B ≤ w.heap.size) :
    Calls Tryz.prog 22 #[.slice ea E.length cap, .agg #[.int .i64 T.k, .int .i64 T.n, .slice la T.ls.len lc, .slice ka T.ks.len kc], .int .i64 fuel] w (RdPost B (redA E T fuel) w) := by
  have hb0 : Below (w.heap.size + 1 + 1) (TuW w T.k T.n la ka T.ls.len lc T.ks.len kc) (TuW w T.k T.n la ka T.ls.len lc T.ks.len kc) := Below.refl _ _
  have HR : Hid (∀ W, Below (w.heap.size + 1 + 1) (TuW w T.k T.n la ka T.ls.len lc T.ks.len kc) W → Calls Tryz.prog 23 #[.slice ea E.length cap] W fun e w' => e = .returned (.bool (envB E)) ∧ Below W.heap.size W w') := Lib.hid (fun W h =>
    r16Right_any E ea cap B W (hE.below ((tuW_at h).2.2.1.mono hB)) (by have := (tuW_at h).2.2.2; omega))
  have HL : Hid (∀ W, Below (w.heap.size + 1 + 1) (TuW w T.k T.n la ka T.ls.len lc T.ks.len kc) W → Calls Tryz.prog 30 #[.agg #[.int .i64 T.k, .int .i64 T.n, .slice la T.ls.len lc, .slice ka T.ks.len kc]] W fun e w' => e = .returned (.bool T.sh) ∧ Below W.heap.size W w') := Lib.hid (fun W h =>
    r13Shape_any T.k T.n T.ls T.ks la ka lc kc B W (hls.below ((tuW_at h).2.2.1.mono hB)) (hsl.below ((tuW_at h).2.2.1.mono hB)) (by have := (tuW_at h).2.2.2; omega))
  have HNO : Hid (okRd E T fuel = false → ∀ W, Below (w.heap.size + 1 + 1) (TuW w T.k T.n la ka T.ls.len lc T.ks.len kc) W → RdPost B (redA E T fuel) w (.returned (.tuple #[.agg #[.int .i64 0, .int .i64 0, .slice none 0 0, .slice none 0 0], .int .i64 0, .int .i64 1])) ((((W.setCell ⟨w.heap.size + 1, 0, none⟩ (.int .i64 0)).setCell ⟨w.heap.size + 1, 1, none⟩ (.int .i64 0)).setCell ⟨w.heap.size + 1, 2, none⟩ (.slice none 0 0)).setCell ⟨w.heap.size + 1, 3, none⟩ (.slice none 0 0))) := Lib.hid (fun h W hb => by
    rw [redA_no h]
    exact ⟨tuW_low hb _ _ _ _, by decide, rfl⟩)
  have HHD : Hid (∀ (n : Nat) (W : World) (M : Nat), n ≤ 5000 → T.sh = true → Below (w.heap.size + 1 + 1) (TuW w T.k T.n la ka T.ls.len lc T.ks.len kc) W → McAt W M ea E.length cap n 0 → w.heap.size + 1 + 1 ≤ M → Calls Tryz.prog 31 #[.pointer (some ⟨M, 0, none⟩), .agg #[.int .i64 T.k, .int .i64 T.n, .slice la T.ls.len lc, .slice ka T.ks.len kc]] W (HdPost M ea E.length cap B (fun _ => 1) 0 (hd (E.map Dc.dl) n T) W)) := Lib.hid (fun n W M hn hs hb hm hM => by
    have hy := (tuW_at hb).2.2.1.mono hB
    have hz := lt_of_block hm
    exact r16Head_any E ea cap B M n T (by omega) (sh_oka hs) la ka lc kc (fun _ => 1) 0 W ⟨by omega, hz, Nat.zero_le _, fun h => by simp at h⟩ (hE.below hy) hm ((hls.below hy).weak (fun b hx => .inl hx)) ((hsl.below hy).weak (fun b hx => .inl hx)))
  have HOK : Hid (okRd E T fuel = (envB E && (T.sh && (decide (0 ≤ fuel) && decide (fuel ≤ 5000))))) := Lib.hid rfl
  generalize hv1 : envB E = v1 at HR HOK
  generalize hv2 : T.sh = v2 at HL HOK HHD
  clear hv1 hv2 hE hls hsl
  have HB0 := Lib.hid hb0
  have HB := Lib.hid hB
  clear hb0 hB
  go_enter Tryz.func22, Tryz.ntmps22
  go_wp2_with fail
  refine (HR.out _ HB0.out).mono ?_
  rintro e w1 ⟨rfl, hb1⟩
  have B1 := Lib.hid (tuW_step HB0.out hb1)
  clear hb1
  obtain ⟨⟨x1, x2, x3, x4⟩, ⟨z1, z2, z3, z4⟩, zf, zl⟩ := tuW_cells B1.out
  cases v1 with
  | false =>
    have HE := Lib.hid (HNO.out (by rw [HOK.out]; rfl) w1 B1.out)
    go_wp2_with fail
    refine bodyPost_ret (v := .tuple #[.agg #[.int .i64 0, .int .i64 0, .slice none 0 0, .slice none 0 0], .int .i64 0, .int .i64 1]) (by simp [results, Tryz.results22, go_sem, z1, z2, z3, z4]) rfl ?_
    exact HE.out
  | true =>
    go_wp2_with fail
    refine (HL.out _ B1.out).mono ?_
    rintro e w2 ⟨rfl, hb2⟩
    have B2 := Lib.hid (tuW_step B1.out hb2)
    clear hb2 x1 x2 x3 x4 z1 z2 z3 z4 zf zl
    obtain ⟨⟨x1, x2, x3, x4⟩, ⟨z1, z2, z3, z4⟩, zf, zl⟩ := tuW_cells B2.out
    cases v2 with
    | false =>
      have HE := Lib.hid (HNO.out (by rw [HOK.out]; rfl) w2 B2.out)
      go_wp2_with fail
      refine bodyPost_ret (v := .tuple #[.agg #[.int .i64 0, .int .i64 0, .slice none 0 0, .slice none 0 0], .int .i64 0, .int .i64 1]) (by simp [results, Tryz.results22, go_sem, z1, z2, z3, z4]) rfl ?_
      exact HE.out
    | true =>
      by_cases h0 : fuel < 0
      · have HE := Lib.hid (HNO.out (by rw [HOK.out, decide_eq_false (by omega : ¬ (0 ≤ fuel))]; rfl) w2 B2.out)
        go_wp2_with fail
        refine bodyPost_ret (v := .tuple #[.agg #[.int .i64 0, .int .i64 0, .slice none 0 0, .slice none 0 0], .int .i64 0, .int .i64 1]) (by simp [results, Tryz.results22, go_sem, z1, z2, z3, z4]) rfl ?_
        exact HE.out
      · by_cases h5 : 5000 < fuel
        · have HE := Lib.hid (HNO.out (by rw [HOK.out, decide_eq_false (by omega : ¬ (fuel ≤ 5000))]; simp) w2 B2.out)
          go_wp2_with fail
          refine bodyPost_ret (v := .tuple #[.agg #[.int .i64 0, .int .i64 0, .slice none 0 0, .slice none 0 0], .int .i64 0, .int .i64 1]) (by simp [results, Tryz.results22, go_sem, z1, z2, z3, z4]) rfl ?_
          exact HE.out
        · obtain ⟨n, rfl⟩ := Int.eq_ofNat_of_zero_le (show 0 ≤ fuel by omega)
          have HY := Lib.hid (redA_yes (E := E) (T := T) (n := n) (by rw [HOK.out, decide_eq_true (by omega : (0 : Int) ≤ n), decide_eq_true (by omega : (n : Int) ≤ 5000)]; rfl))
          have hn5 : n ≤ 5000 := by omega
          have HN5 := Lib.hid hn5
          clear HNO HOK hn5
          go_upto_region 4 with fail
          obtain ⟨w3, hw3⟩ : ∃ w3, w3 = w2.alloc (.cells #[.slice ea E.length cap, .int .i64 n, .int .i64 0] 74) := ⟨_, rfl⟩
          have hM : McAt w3 w2.heap.size ea E.length cap n 0 := by rw [hw3]; exact heap_new _ _
          have B3 : Hid (Below (w.heap.size + 1 + 1) (TuW w T.k T.n la ka T.ls.len lc T.ks.len kc) w3) := Lib.hid (by rw [hw3]; exact tuW_step B2.out ((Below.refl _ _).alloc (Nat.le_refl _) _))
          have hz2 := (tuW_at B2.out).2.2.2
          rw [← hw3]
          clear hw3 x1 x2 x3 x4 z1 z2 z3 z4 zf zl
          generalize w2.heap.size = M at hM hz2 ⊢
          have HZ := Lib.hid hz2
          have HH := Lib.hid (HHD.out n w3 M HN5.out trivial B3.out hM hz2)
          clear hz2 hM HHD
          obtain ⟨⟨x1, x2, x3, x4⟩, ⟨z1, z2, z3, z4⟩, zf, zl⟩ := tuW_cells B3.out
          generalize hd (E.map Dc.dl) n T = H at HH HY
          go_wp2_with fail
          refine HH.out.mono ?_
          intro e w4 hp
          clear HH x1 x2 x3 x4 z1 z2 z3 z4 zf zl
          cases H with
          | no er =>
            obtain ⟨hg, he, k', n', la', l', lc', ka', kl', kc', fu, rfl, hm4⟩ := hp
            go_upto_region 5 with fail
            obtain ⟨w5, hw5⟩ : ∃ w5, w5 = w4.alloc (.cells #[.int .i64 k', .int .i64 n', .slice la' l' lc', .slice ka' kl' kc'] 30) := ⟨_, rfl⟩
            have hb5 : Below w4.heap.size w4 w5 := by rw [hw5]; exact (Below.refl _ _).alloc (Nat.le_refl _) _
            have hn5 : w5.heap[w4.heap.size]? = some (.cells #[.int .i64 k', .int .i64 n', .slice la' l' lc', .slice ka' kl' kc'] 30 (0, 0)) := by rw [hw5]; exact heap_new _ _
            rw [← hw5]
            have B5 := Lib.hid (tuW_step (Below.only9 B3.out hg HZ.out (tuW_at B3.out).2.2.2) hb5)
            have m5 := hm4.later hb5
            clear hw5 hb5 hg hm4
            generalize w4.heap.size = O at hn5 ⊢
            obtain ⟨q0, q1, q2, qf, qM⟩ := m5.facts
            obtain ⟨o0, o1, o2, o3⟩ := cells4 hn5
            obtain ⟨⟨x1, x2, x3, x4⟩, ⟨z1, z2, z3, z4⟩, zf, zl⟩ := tuW_cells B5.out
            have d1 : ((er : Int) == 0) = false := beq_eq_false_iff_ne.2 (by omega)
            have HE : Hid (RdPost B (redA E T n) w (.returned (.tuple #[.agg #[.int .i64 0, .int .i64 0, .slice none 0 0, .slice none 0 0], .int .i64 0, .int .i64 er])) ((((w5.setCell ⟨w.heap.size + 1, 0, none⟩ (.int .i64 0)).setCell ⟨w.heap.size + 1, 1, none⟩ (.int .i64 0)).setCell ⟨w.heap.size + 1, 2, none⟩ (.slice none 0 0)).setCell ⟨w.heap.size + 1, 3, none⟩ (.slice none 0 0))) := Lib.hid (by
              rw [HY.out]
              exact ⟨tuW_low B5.out _ _ _ _, he, rfl⟩)
            clear hn5 m5
            go_upto_region 8 with fail
            have hz5 := (tuW_at B5.out).2.2.2
            have hMn : (M == w.heap.size + 1) = false := beq_eq_false_iff_ne.2 (by have := HZ.out; omega)
            have hMx : ¬ (w.heap.size + 1 = M) := by have := HZ.out; omega
            clear hz5
            go_region
            go_wp2_with fail
            refine bodyPost_ret (v := .tuple #[.agg #[.int .i64 0, .int .i64 0, .slice none 0 0, .slice none 0 0], .int .i64 0, .int .i64 er]) (by simp [results, Tryz.results22, go_sem, z1, z2, z3, z4]) rfl ?_
            exact HE.out.drew
          | ok A m =>
            obtain ⟨hg, la', lc', ka', kc', rfl, hm4, t1, t2⟩ := hp
            go_upto_region 5 with fail
            obtain ⟨w5, hw5⟩ : ∃ w5, w5 = w4.alloc (.cells #[.int .i64 A.k, .int .i64 A.n, .slice la' A.ls.len lc', .slice ka' A.ks.len kc'] 30) := ⟨_, rfl⟩
            have hb5 : Below w4.heap.size w4 w5 := by rw [hw5]; exact (Below.refl _ _).alloc (Nat.le_refl _) _
            have hn5 : w5.heap[w4.heap.size]? = some (.cells #[.int .i64 A.k, .int .i64 A.n, .slice la' A.ls.len lc', .slice ka' A.ks.len kc'] 30 (0, 0)) := by rw [hw5]; exact heap_new _ _
            rw [← hw5]
            have HZM : Hid (M < w4.heap.size) := Lib.hid (lt_of_block hm4)
            have HZ3 : Hid (w.heap.size + 1 + 1 ≤ w3.heap.size ∧ w3.heap.size ≤ w4.heap.size) := Lib.hid ⟨(tuW_at B3.out).2.2.2, hg.size⟩
            have B5 := Lib.hid (tuW_step (Below.only9 B3.out hg HZ.out (tuW_at B3.out).2.2.2) hb5)
            have m5 := hm4.later hb5
            have hq : ∀ b, (((b < B ∨ ((fun _ => 1) b = 0 ∧ b < 0)) ∨ w3.heap.size ≤ b) ∧ b < w4.heap.size) → (b < B ∨ w.heap.size + 1 + 1 ≤ b) ∧ b < w4.heap.size := fun b hb => by
              have := HZ3.out
              obtain ⟨(hb | hb) | hb, hb2⟩ := hb
              · exact ⟨.inl hb, hb2⟩
              · simp at hb
              · exact ⟨.inr (by omega), hb2⟩
            have T1 : Hid (SlIn w5 (fun b => (b < B ∨ w.heap.size + 1 + 1 ≤ b) ∧ b < w4.heap.size) A.ls la' lc') := Lib.hid ((t1.keep (fun b hb => hb5.block b hb.2)).weak hq)
            have T2 : Hid (TlIn w5 (fun b => (b < B ∨ w.heap.size + 1 + 1 ≤ b) ∧ b < w4.heap.size) A.ks ka' kc') := Lib.hid (t2.turn (fun b hb => hb5.block b hb.2) hq)
            have HZ5 : Hid (w4.heap.size < w5.heap.size) := Lib.hid (lt_of_block hn5)
            clear hw5 hb5 hg hm4 t1 t2 hq
            generalize hO : w4.heap.size = O at hn5 HZM T1 T2 HZ5 ⊢
            have HSh : Hid (Calls Tryz.prog 30 #[.agg #[.int .i64 A.k, .int .i64 A.n, .slice la' A.ls.len lc', .slice ka' A.ks.len kc']] w5 fun e w' => e = .returned (.bool A.sh) ∧ Below w5.heap.size w5 w') := Lib.hid
              (r13Shape_any A.k A.n A.ls A.ks la' ka' lc' kc' w5.heap.size w5 (T1.out.weak (fun b hb => by have := HZ5.out; omega)) (T2.out.turn (fun b hb => rfl) (fun b hb => by have := HZ5.out; omega)) (Nat.le_refl _))
            obtain ⟨q0, q1, q2, qf, qM⟩ := m5.facts
            obtain ⟨o0, o1, o2, o3⟩ := cells4 hn5
            have N5 := Lib.hid hn5
            have M5 := Lib.hid m5
            clear hn5 m5
            generalize hv : A.sh = v at HSh
            go_wp2_with fail
            refine HSh.out.mono ?_
            rintro e w6 ⟨rfl, hb6⟩
            have B6 := Lib.hid (tuW_step B5.out hb6)
            have m6 := M5.out.later hb6
            have n6 := (hb6.block _ (lt_of_block N5.out)).trans N5.out
            have T3 : Hid (SlIn w6 (fun b => (b < B ∨ w.heap.size + 1 + 1 ≤ b) ∧ b < w6.heap.size) A.ls la' lc') := Lib.hid ((T1.out.keep (fun b hb => hb6.block b (by have := HZ5.out; omega))).weak (fun b hb => ⟨hb.1, by have := HZ5.out; have := hb6.size; omega⟩))
            have T4 : Hid (TlIn w6 (fun b => (b < B ∨ w.heap.size + 1 + 1 ≤ b) ∧ b < w6.heap.size) A.ks ka' kc') := Lib.hid (T2.out.turn (fun b hb => hb6.block b (by have := HZ5.out; omega)) (fun b hb => ⟨hb.1, by have := HZ5.out; have := hb6.size; omega⟩))
            have hMx : ¬ (w.heap.size + 1 = M) := by have := HZ.out; omega
            have hMn : (M == w.heap.size + 1) = false := beq_eq_false_iff_ne.2 (fun h => hMx h.symm)
            have hOx : ¬ (w.heap.size + 1 = O) := by have := HZ.out; have := HZM.out; omega
            clear hb6 T1 T2 q0 q1 q2 qf qM o0 o1 o2 o3 N5 M5
            cases v with
            | false =>
              obtain ⟨q0, q1, q2, qf, qM⟩ := m6.facts
              go_upto_region 7 with fail
              obtain ⟨w7, hw7⟩ : ∃ w7, w7 = w6.setCell ⟨M, 2, none⟩ (.int .i64 2) := ⟨_, rfl⟩
              have m7 : McAt w7 M ea E.length cap m 2 := by rw [hw7]; exact m6.failed 2
              have B7 : Hid (Below (w.heap.size + 1 + 1) (TuW w T.k T.n la ka T.ls.len lc T.ks.len kc) w7) := Lib.hid (by rw [hw7]; exact Below.only9 B6.out (Only.set w6 M 2 _) HZ.out (tuW_at B6.out).2.2.2)
              rw [← hw7]
              clear hw7 q0 q1 q2 qf qM m6 n6 T3 T4
              obtain ⟨q0, q1, q2, qf, qM⟩ := m7.facts
              obtain ⟨⟨x1, x2, x3, x4⟩, ⟨z1, z2, z3, z4⟩, zf, zl⟩ := tuW_cells B7.out
              have HE : Hid (RdPost B (redA E T n) w (.returned (.tuple #[.agg #[.int .i64 0, .int .i64 0, .slice none 0 0, .slice none 0 0], .int .i64 0, .int .i64 2])) ((((w7.setCell ⟨w.heap.size + 1, 0, none⟩ (.int .i64 0)).setCell ⟨w.heap.size + 1, 1, none⟩ (.int .i64 0)).setCell ⟨w.heap.size + 1, 2, none⟩ (.slice none 0 0)).setCell ⟨w.heap.size + 1, 3, none⟩ (.slice none 0 0))) := Lib.hid (by
                rw [HY.out, redH, if_neg (by rw [hv]; decide)]
                exact ⟨tuW_low B7.out _ _ _ _, by decide, rfl⟩)
              clear m7 hv
              go_upto_region 8 with fail
              go_region
              go_wp2_with fail
              refine bodyPost_ret (v := .tuple #[.agg #[.int .i64 0, .int .i64 0, .slice none 0 0, .slice none 0 0], .int .i64 0, .int .i64 2]) (by simp [results, Tryz.results22, go_sem, z1, z2, z3, z4]) rfl ?_
              exact HE.out.drew
            | true =>
              obtain ⟨q0, q1, q2, qf, qM⟩ := m6.facts
              obtain ⟨o0, o1, o2, o3⟩ := cells4 n6
              obtain ⟨⟨x1, x2, x3, x4⟩, ⟨z1, z2, z3, z4⟩, zf, zl⟩ := tuW_cells B6.out
              have hg := set4_only (w := w6) (w.heap.size + 1) (.int .i64 A.k) (.int .i64 A.n) (.slice la' A.ls.len lc') (.slice ka' A.ks.len kc')
              have hgz := hg.size
              have HE : Hid (RdPost B (redA E T n) w (.returned (.tuple #[.agg #[.int .i64 A.k, .int .i64 A.n, .slice la' A.ls.len lc', .slice ka' A.ks.len kc'], .int .i64 m, .int .i64 0])) ((((w6.setCell ⟨w.heap.size + 1, 0, none⟩ (.int .i64 A.k)).setCell ⟨w.heap.size + 1, 1, none⟩ (.int .i64 A.n)).setCell ⟨w.heap.size + 1, 2, none⟩ (.slice la' A.ls.len lc')).setCell ⟨w.heap.size + 1, 3, none⟩ (.slice ka' A.ks.len kc'))) := Lib.hid (by
                rw [HY.out, redH, if_pos hv]
                have hBx := HB.out
                exact ⟨tuW_low B6.out _ _ _ _, la', lc', ka', kc', rfl, (T3.out.keep (fun b hb => Only.block hg hb.2 (by omega))).weak (fun b hb => ⟨by omega, by omega⟩), T4.out.turn (fun b hb => Only.block hg hb.2 (by omega)) (fun b hb => ⟨by omega, by omega⟩)⟩)
              clear hg hgz hv T3 T4 m6 n6
              go_upto_region 9 with fail
              go_region
              go_wp2_with fail
              refine bodyPost_ret (v := .tuple #[.agg #[.int .i64 A.k, .int .i64 A.n, .slice la' A.ls.len lc', .slice ka' A.ks.len kc'], .int .i64 m, .int .i64 0]) (by simp [results, Tryz.results22, go_sem, z1, z2, z3, z4]) rfl ?_
              exact HE.out.drew
end Go.Proofs.YtnfhpombnbpdcaaGreat
namespace Go.Proofs.YtnfhpombnbpdcaaGreat
open Go.RowKit
set_option maxRecDepth 100000 in
set_option maxHeartbeats 8000000 in
theorem same16_any (hR : RdC) (hr : RrC) (E : List Dc) (T : Tm) (fuel : Int) (ea la ka : Option Addr) (cap lc kc N : Nat) (w : World) (hE : DsIn w (· < N) E ea cap) (ht : TmIn w N T la lc ka kc) :
    Calls Tryz.prog 10 #[.slice ea E.length cap, .agg #[.int .i64 T.k, .int .i64 T.n, .slice la T.ls.len lc, .slice ka T.ks.len kc], .int .i64 fuel] w fun e w' => e = .returned (.bool true) ∧ Below w.heap.size w w' := by
  have hB := ht.2.2
  have CS := Lib.hid (fun W (h : Below w.heap.size w W) => hR E T fuel ea la ka cap lc kc N W (hE.below (h.mono hB)) (ht.1.below (h.mono hB)) (ht.2.1.below (h.mono hB)) (Nat.le_trans hB h.size))
  have CR := Lib.hid (fun W (h : Below w.heap.size w W) => (r16Reduce_any E T fuel ea la ka cap lc kc N W (hE.below (h.mono hB)) (ht.1.below (h.mono hB)) (ht.2.1.below (h.mono hB)) (Nat.le_trans hB h.size)).mono (fun _ _ h => RvPost.of h))
  have CM := Lib.hid (fun W (h : Below w.heap.size w W) => hr E ea cap N W (hE.below (h.mono hB)) (Nat.le_trans hB h.size))
  have CM' := Lib.hid (fun W (h : Below w.heap.size w W) => r16Right_any E ea cap N W (hE.below (h.mono hB)) (Nat.le_trans hB h.size))
  generalize redV (redA E T fuel) = A at CS CR
  generalize envB E = v at CM CM'
  obtain ⟨U, m, er⟩ := A
  have dv : (v == v) = true := by simp
  have dm : ((m : Int) == (m : Int)) = true := by simp
  have de : ((er : Int) == (er : Int)) = true := by simp
  have hb0 : Below w.heap.size w (w.alloc (.cells #[.int .i64 T.k, .int .i64 T.n, .slice la T.ls.len lc, .slice ka T.ks.len kc] 30)) := (Below.refl _ _).alloc (Nat.le_refl _) _
  have HB0 := Lib.hid hb0
  have HU0 := Lib.hid (heap_new w (.cells #[.int .i64 T.k, .int .i64 T.n, .slice la T.ls.len lc, .slice ka T.ks.len kc] 30))
  obtain ⟨c0, c1, c2, c3⟩ := cells4 HU0.out
  clear hb0 ht hE
  go_enter Tryz.func10, Tryz.ntmps10
  go_wp2_with fail
  refine (CS.out _ HB0.out).mono ?_
  rintro e w1 ⟨a1, d1, a2, d2, rfl, s1, s2, b1⟩
  have T1 : Hid (TmIn w1 w1.heap.size U a1 d1 a2 d2) := Lib.hid ⟨s1, s2, Nat.le_refl _⟩
  have HB1 := Lib.hid (Below.step HB0.out b1 (Nat.le_refl _))
  have HU1 := Lib.hid ((b1.block _ (lt_of_block HU0.out)).trans HU0.out)
  clear s1 s2 b1 c0 c1 c2 c3
  have hbx : Below w1.heap.size w1 (w1.alloc (.cells #[.int .i64 U.k, .int .i64 U.n, .slice a1 U.ls.len d1, .slice a2 U.ks.len d2] 30)) := (Below.refl _ _).alloc (Nat.le_refl _) _
  have l0 := lt_of_block HU1.out
  have X1 := Lib.hid (TmBox.new T1.out)
  have HB2 := Lib.hid (Below.step HB1.out hbx (Nat.le_refl _))
  have HU2 := Lib.hid ((hbx.block _ l0).trans HU1.out)
  obtain ⟨c0, c1, c2, c3⟩ := cells4 HU2.out
  clear hbx
  go_wp2_with fail
  refine (CR.out _ HB2.out).mono ?_
  rintro e w2 ⟨a3, d3, a4, d4, rfl, s3, s4, b2⟩
  have T2 : Hid (TmIn w2 w2.heap.size U a3 d3 a4 d4) := Lib.hid ⟨s3, s4, Nat.le_refl _⟩
  have hbx : Below w2.heap.size w2 (w2.alloc (.cells #[.int .i64 U.k, .int .i64 U.n, .slice a3 U.ls.len d3, .slice a4 U.ks.len d4] 30)) := (Below.refl _ _).alloc (Nat.le_refl _) _
  have b12 := Below.step b2 hbx (Nat.le_refl _)
  have X2 := Lib.hid (TmBox.new T2.out)
  have X1' := Lib.hid (X1.out.later b12)
  have HB3 := Lib.hid (Below.step HB2.out b12 (Nat.le_refl _))
  clear s3 s4 b2 hbx b12 c0 c1 c2 c3 X1 T1 T2 HU0 HU1 HU2 HB1 HB2 HB0 l0
  go_upto_region 3 with fail
  generalize w2.alloc (.cells #[.int .i64 U.k, .int .i64 U.n, .slice a3 U.ls.len d3, .slice a4 U.ks.len d4] 30) = W0 at X1' X2 HB3 ⊢
  generalize w1.heap.size = N1 at X1' ⊢
  generalize w2.heap.size = N2 at X2 ⊢
  obtain ⟨c0, c1, c2, c3⟩ := X1'.out.cells
  obtain ⟨e0, e1, e2, e3⟩ := X2.out.cells
  have HSM := Lib.hid (r13same_two6 X1'.out.2 X2.out.2)
  go_wp2_with fail
  refine HSM.out.mono ?_
  rintro e w3 ⟨rfl, hb3⟩
  have HB4 := Lib.hid (Below.step HB3.out hb3 (Nat.le_refl _))
  clear hb3 c0 c1 c2 c3 e0 e1 e2 e3 HSM
  go_wp2_with fail
  refine (CM.out _ HB4.out).mono ?_
  rintro e w4 ⟨rfl, hb4⟩
  have HB5 := Lib.hid (Below.step HB4.out hb4 (Nat.le_refl _))
  clear hb4
  go_wp2_with fail
  refine (CM'.out _ HB5.out).mono ?_
  rintro e w5 ⟨rfl, hb5⟩
  have HB6 := Lib.hid (Below.step HB5.out hb5 (Nat.le_refl _))
  clear hb5
  go_wp2_with fail
  go_ret
  exact ⟨rfl, HB6.out⟩
end Go.Proofs.YtnfhpombnbpdcaaGreat
namespace Go.Proofs.YtnfhpombnbpdcaaGreat
open Go.RowKit
def Aw16 : Prop := ∀ (w : World), Calls Tryz.prog 9 #[] w fun e w' => e = .returned (.bool true) ∧ Below w.heap.size w w'
theorem parts_le (f : Ft) : 1 ≤ partsF f 301 1 ∧ partsF f 301 1 ≤ 301 := by
  have := partsF_eq f 301 1 (by omega) (by omega)
  omega
set_option maxRecDepth 100000 in
set_option maxHeartbeats 8000000 in
theorem reduceAny_any (hR : RdC) (hr : RrC) (hA : Aw16) (E : List Dc) (T : Tm) (fuel : Int) (ea la ka : Option Addr) (cap lc kc : Nat) (w : World) (hE : DsIn w (· < w.heap.size) E ea cap) (ht : TmIn w w.heap.size T la lc ka kc) :
    Calls Tryz.prog 4 #[.slice ea E.length cap, .agg #[.int .i64 T.k, .int .i64 T.n, .slice la T.ls.len lc, .slice ka T.ks.len kc], .int .i64 fuel] w fun e w' => e = .returned (.bool true) ∧ Below w.heap.size w w' := by
  have hlen := hE.len
  have HSM : Hid (∀ (W : World) (f : Int), Below w.heap.size w W → Calls Tryz.prog 10 #[.slice ea E.length cap, .agg #[.int .i64 T.k, .int .i64 T.n, .slice la T.ls.len lc, .slice ka T.ks.len kc], .int .i64 f] W fun e w' => e = .returned (.bool true) ∧ Below W.heap.size W w') := Lib.hid (fun W f h =>
    same16_any hR hr E T f ea la ka cap lc kc w.heap.size W (hE.below h) ⟨ht.1.below h, ht.2.1.below h, h.size⟩)
  have HAW : Hid Aw16 := Lib.hid hA
  have hb0 : Below w.heap.size w (w.alloc (.cells #[.int .i64 T.k, .int .i64 T.n, .slice la T.ls.len lc, .slice ka T.ks.len kc] 30)) := (Below.refl _ _).alloc (Nat.le_refl _) _
  have HB0 := Lib.hid hb0
  have HU0 := Lib.hid (heap_new w (.cells #[.int .i64 T.k, .int .i64 T.n, .slice la T.ls.len lc, .slice ka T.ks.len kc] 30))
  have CP := Lib.hid (r13parts_any (T.ks.size + 1) T.ks (Nat.lt_succ_self _) T.k T.n 301 T.ls la ka lc kc w.heap.size _ (ht.2.1.below hb0) (by simp) (by omega) (by omega))
  have hp := parts_le T.ks
  obtain ⟨c0, c1, c2, c3⟩ := cells4 HU0.out
  have HE := Lib.hid hE
  clear hb0 ht hE hA hR hr
  generalize partsF T.ks 301 1 = p0 at CP hp
  go_enter Tryz.func4, Tryz.ntmps4
  go_wp2_with fail
  refine CP.out.mono ?_
  rintro e w1 ⟨rfl, hb1⟩
  have HB1 : Hid (Below (w.heap.size + 1) (w.alloc (.cells #[.int .i64 T.k, .int .i64 T.n, .slice la T.ls.len lc, .slice ka T.ks.len kc] 30)) w1) := Lib.hid (by have := hb1.mono (show w.heap.size + 1 ≤ _ by simp); exact this)
  clear hb1 CP HB0 HU0 c0 c1 c2 c3
  have HLO : Hid (∀ W, Below (w.heap.size + 1) (w.alloc (.cells #[.int .i64 T.k, .int .i64 T.n, .slice la T.ls.len lc, .slice ka T.ks.len kc] 30)) W → Below w.heap.size w W) := Lib.hid (fun W h => ((Below.refl w.heap.size w).alloc (Nat.le_refl _) _).trans (h.mono (by omega)))
  have HBX : Hid (∀ W, Below (w.heap.size + 1) (w.alloc (.cells #[.int .i64 T.k, .int .i64 T.n, .slice la T.ls.len lc, .slice ka T.ks.len kc] 30)) W → W.heap[w.heap.size]? = some (.cells #[.int .i64 T.k, .int .i64 T.n, .slice la T.ls.len lc, .slice ka T.ks.len kc] 30 (0, 0)) ∧ w.heap.size + 1 ≤ W.heap.size) := Lib.hid (fun W h => ⟨(h.block _ (by omega)).trans (heap_new _ _), by have := h.size; simpa using this⟩)
  go_wp2_with fail
  go_loopw [7, 8] (fun nv iv wr => ∃ (q : Int) (j : Nat), nv = .int .i64 q ∧ iv = .int .i64 j ∧ j ≤ E.length ∧ 1 ≤ q ∧ q ≤ 1000 ∧ Hid (Below (w.heap.size + 1) (w.alloc (.cells #[.int .i64 T.k, .int .i64 T.n, .slice la T.ls.len lc, .slice ka T.ks.len kc] 30)) wr)) (fun _ iv _ => E.length - (intOf iv).toNat)
  case atStart => exact ⟨p0, 0, rfl, rfl, Nat.zero_le _, by omega, by omega, HB1⟩
  case round =>
    obtain ⟨q, j, rfl, rfl, hj, hq1, hq2, hb⟩ := hrel
    by_cases hlt : j < E.length
    · have hjl : (j : Int) < (E.length : Int) := by omega
      by_cases hq : q ≤ 300
      · have hEw := HE.out.below (HLO.out _ hb.out)
        have hzw := (HBX.out _ hb.out).2
        obtain ⟨eb, eo, rfl, heb, _, _, ⟨t0, t1, lb, ld, kb, kd, t2, t3, s1, s2⟩, _, ⟨v0, v1, lb', ld', kb', kd', v2, v3, s3, s4⟩⟩ := hEw.get hlt
        generalize E[j] = dd at t0 t1 t2 t3 v0 v1 v2 v3 s1 s2 s3 s4
        have heb2 : eb < wr.heap.size := by omega
        have CT := Lib.hid (fun (W : World) (h : Below wr.heap.size wr W) => r13parts_any (dd.ty.ks.size + 1) dd.ty.ks (Nat.lt_succ_self _) dd.ty.k dd.ty.n 301 dd.ty.ls lb kb ld kd w.heap.size W (s2.below (h.mono (by omega))) (by have := h.size; omega) (by omega) (by omega))
        have CV := Lib.hid (fun (W : World) (h : Below wr.heap.size wr W) => r13parts_any (dd.va.ks.size + 1) dd.va.ks (Nat.lt_succ_self _) dd.va.k dd.va.n 301 dd.va.ls lb' kb' ld' kd' w.heap.size W (s4.below (h.mono (by omega))) (by have := h.size; omega) (by omega) (by omega))
        have h1 := parts_le dd.ty.ks
        have h2 := parts_le dd.va.ks
        generalize partsF dd.ty.ks 301 1 = p1 at CT h1
        generalize partsF dd.va.ks 301 1 = p2 at CV h2
        have HCL : Hid (∀ w', Below wr.heap.size wr w' → (w'.cell? ⟨eb, eo + j * 11 + 2, none⟩ = some (.int .i64 dd.ty.k) ∧ w'.cell? ⟨eb, eo + j * 11 + 2 + 1, none⟩ = some (.int .i64 dd.ty.n) ∧ w'.cell? ⟨eb, eo + j * 11 + 2 + 2, none⟩ = some (.slice lb dd.ty.ls.len ld) ∧ w'.cell? ⟨eb, eo + j * 11 + 2 + 3, none⟩ = some (.slice kb dd.ty.ks.len kd)) ∧ (w'.cell? ⟨eb, eo + j * 11 + 7, none⟩ = some (.int .i64 dd.va.k) ∧ w'.cell? ⟨eb, eo + j * 11 + 7 + 1, none⟩ = some (.int .i64 dd.va.n) ∧ w'.cell? ⟨eb, eo + j * 11 + 7 + 2, none⟩ = some (.slice lb' dd.va.ls.len ld') ∧ w'.cell? ⟨eb, eo + j * 11 + 7 + 3, none⟩ = some (.slice kb' dd.va.ks.len kd'))) := Lib.hid (fun w' hb => ⟨⟨(World.cell?_of_block (a := ⟨eb, _, none⟩) (hb.block _ heb2)).trans t0, (World.cell?_of_block (a := ⟨eb, _, none⟩) (hb.block _ heb2)).trans t1, (World.cell?_of_block (a := ⟨eb, _, none⟩) (hb.block _ heb2)).trans t2, (World.cell?_of_block (a := ⟨eb, _, none⟩) (hb.block _ heb2)).trans t3⟩, ⟨(World.cell?_of_block (a := ⟨eb, _, none⟩) (hb.block _ heb2)).trans v0, (World.cell?_of_block (a := ⟨eb, _, none⟩) (hb.block _ heb2)).trans v1, (World.cell?_of_block (a := ⟨eb, _, none⟩) (hb.block _ heb2)).trans v2, (World.cell?_of_block (a := ⟨eb, _, none⟩) (hb.block _ heb2)).trans v3⟩⟩)
        have hzj := Nat.le_refl j
        clear s1 s2 s3 s4 t0 t1 t2 t3 v0 v1 v2 v3 hEw heb heb2 hzw
        go_upto_region 5 with fail
        go_region_held3 (fun w' => Hid (Below wr.heap.size wr w') ∧ (w'.cell? ⟨eb, eo + j * 11 + 2, none⟩ = some (.int .i64 dd.ty.k) ∧ w'.cell? ⟨eb, eo + j * 11 + 2 + 1, none⟩ = some (.int .i64 dd.ty.n) ∧ w'.cell? ⟨eb, eo + j * 11 + 2 + 2, none⟩ = some (.slice lb dd.ty.ls.len ld) ∧ w'.cell? ⟨eb, eo + j * 11 + 2 + 3, none⟩ = some (.slice kb dd.ty.ks.len kd)) ∧ (w'.cell? ⟨eb, eo + j * 11 + 7, none⟩ = some (.int .i64 dd.va.k) ∧ w'.cell? ⟨eb, eo + j * 11 + 7 + 1, none⟩ = some (.int .i64 dd.va.n) ∧ w'.cell? ⟨eb, eo + j * 11 + 7 + 2, none⟩ = some (.slice lb' dd.va.ls.len ld') ∧ w'.cell? ⟨eb, eo + j * 11 + 7 + 3, none⟩ = some (.slice kb' dd.va.ks.len kd')))
          (first | exact ⟨Lib.hid (Below.refl _ _).drew, HCL.out _ (Below.refl _ _).drew⟩ | (go_split_ands; exact ⟨Lib.hid (Below.step (Hid.out (by assumption)) hbN (Nat.le_refl _)), HCL.out _ (Below.step (Hid.out (by assumption)) hbN (Nat.le_refl _))⟩))
          (first
            | (go_at_call_of 11 (Value.agg #[.int .i64 dd.ty.k, .int .i64 dd.ty.n, .slice lb dd.ty.ls.len ld, .slice kb dd.ty.ks.len kd]); go_split_ands; refine (CT.out _ (Hid.out (by assumption))).mono ?_; rintro e wN ⟨rfl, hbN⟩)
            | (go_at_call_of 11 (Value.agg #[.int .i64 dd.va.k, .int .i64 dd.va.n, .slice lb' dd.va.ls.len ld', .slice kb' dd.va.ks.len kd']); go_split_ands; refine (CV.out _ (Hid.out (by assumption))).mono ?_; rintro e wN ⟨rfl, hbN⟩))
        go_split_ands
        have HXb : Below wr.heap.size wr wN := Hid.out (by assumption)
        have HX := Lib.hid (Below.step hb.out HXb (by simp))
        clear HXb
        have hw : IntKind.i64.wrap (IntKind.i64.wrap (q + p1) + p2) = q + p1 + p2 := by rw [IntWalk.i64_in (q + p1) (by omega), IntWalk.i64_in _ (by omega)]
        rw [hw]
        go_wp2_with fail
        go_roundw
        case rel => exact ⟨q + p1 + p2, j + 1, rfl, by go_num, by omega, by omega, by omega, HX⟩
        case measure => simp [intOf]; omega
      · have hq3 : 300 < q := by omega
        by_cases f1 : 100 < fuel
        · by_cases f2 : fuel ≤ 5000
          · go_wp2_with fail
            refine (HAW.out _).mono ?_
            rintro e w2 ⟨rfl, hb2⟩
            have HB2 := Lib.hid (Below.step hb.out hb2 (by simp))
            clear hb2
            go_wp2_with fail
            go_ret
            exact ⟨rfl, HLO.out _ HB2.out⟩
          · go_wp2_with fail
            refine (HAW.out _).mono ?_
            rintro e w2 ⟨rfl, hb2⟩
            have HB2 := Lib.hid (Below.step hb.out hb2 (by simp))
            clear hb2
            go_wp2_with fail
            go_ret
            exact ⟨rfl, HLO.out _ HB2.out⟩
        · go_wp2_with fail
          refine (HAW.out _).mono ?_
          rintro e w2 ⟨rfl, hb2⟩
          have HB2 := Lib.hid (Below.step hb.out hb2 (by simp))
          clear hb2
          go_wp2_with fail
          go_ret
          exact ⟨rfl, HLO.out _ HB2.out⟩
    · have hjl : ¬ (j : Int) < (E.length : Int) := by omega
      by_cases hq3 : 300 < q
      · by_cases f1 : 100 < fuel
        · by_cases f2 : fuel ≤ 5000
          · go_wp2_with fail
            refine (HAW.out _).mono ?_
            rintro e w2 ⟨rfl, hb2⟩
            have HB2 := Lib.hid (Below.step hb.out hb2 (by simp))
            clear hb2
            go_wp2_with fail
            go_ret
            exact ⟨rfl, HLO.out _ HB2.out⟩
          · go_wp2_with fail
            refine (HAW.out _).mono ?_
            rintro e w2 ⟨rfl, hb2⟩
            have HB2 := Lib.hid (Below.step hb.out hb2 (by simp))
            clear hb2
            go_wp2_with fail
            go_ret
            exact ⟨rfl, HLO.out _ HB2.out⟩
        · go_wp2_with fail
          refine (HAW.out _).mono ?_
          rintro e w2 ⟨rfl, hb2⟩
          have HB2 := Lib.hid (Below.step hb.out hb2 (by simp))
          clear hb2
          go_wp2_with fail
          go_ret
          exact ⟨rfl, HLO.out _ HB2.out⟩
      · by_cases hl25 : 25 < (E.length : Int)
        · by_cases f1 : 100 < fuel
          · by_cases f2 : fuel ≤ 5000
            · go_wp2_with fail
              refine (HAW.out _).mono ?_
              rintro e w2 ⟨rfl, hb2⟩
              have HB2 := Lib.hid (Below.step hb.out hb2 (by simp))
              clear hb2
              go_wp2_with fail
              go_ret
              exact ⟨rfl, HLO.out _ HB2.out⟩
            · go_wp2_with fail
              refine (HAW.out _).mono ?_
              rintro e w2 ⟨rfl, hb2⟩
              have HB2 := Lib.hid (Below.step hb.out hb2 (by simp))
              clear hb2
              go_wp2_with fail
              go_ret
              exact ⟨rfl, HLO.out _ HB2.out⟩
          · go_wp2_with fail
            refine (HAW.out _).mono ?_
            rintro e w2 ⟨rfl, hb2⟩
            have HB2 := Lib.hid (Below.step hb.out hb2 (by simp))
            clear hb2
            go_wp2_with fail
            go_ret
            exact ⟨rfl, HLO.out _ HB2.out⟩
        · by_cases f1 : 100 < fuel
          · by_cases f2 : fuel ≤ 5000
            · go_wp2_with fail
              refine (HAW.out _).mono ?_
              rintro e w2 ⟨rfl, hb2⟩
              have HB2 := Lib.hid (Below.step hb.out hb2 (by simp))
              clear hb2
              obtain ⟨c0, c1, c2, c3⟩ := cells4 (HBX.out _ HB2.out).1
              go_wp2_with fail
              refine (HSM.out _ _ (HLO.out _ HB2.out)).mono ?_
              rintro e w3 ⟨rfl, hb3⟩
              have HB3 := Lib.hid (Below.step HB2.out hb3 (by simp))
              clear hb3 c0 c1 c2 c3
              go_wp2_with fail
              go_ret
              exact ⟨rfl, HLO.out _ HB3.out⟩
            · go_wp2_with fail
              refine (HAW.out _).mono ?_
              rintro e w2 ⟨rfl, hb2⟩
              have HB2 := Lib.hid (Below.step hb.out hb2 (by simp))
              clear hb2
              obtain ⟨c0, c1, c2, c3⟩ := cells4 (HBX.out _ HB2.out).1
              go_wp2_with fail
              refine (HSM.out _ _ (HLO.out _ HB2.out)).mono ?_
              rintro e w3 ⟨rfl, hb3⟩
              have HB3 := Lib.hid (Below.step HB2.out hb3 (by simp))
              clear hb3 c0 c1 c2 c3
              go_wp2_with fail
              go_ret
              exact ⟨rfl, HLO.out _ HB3.out⟩
          · go_wp2_with fail
            refine (HAW.out _).mono ?_
            rintro e w2 ⟨rfl, hb2⟩
            have HB2 := Lib.hid (Below.step hb.out hb2 (by simp))
            clear hb2
            obtain ⟨c0, c1, c2, c3⟩ := cells4 (HBX.out _ HB2.out).1
            go_wp2_with fail
            refine (HSM.out _ _ (HLO.out _ HB2.out)).mono ?_
            rintro e w3 ⟨rfl, hb3⟩
            have HB3 := Lib.hid (Below.step HB2.out hb3 (by simp))
            clear hb3 c0 c1 c2 c3
            go_wp2_with fail
            go_ret
            exact ⟨rfl, HLO.out _ HB3.out⟩
end Go.Proofs.YtnfhpombnbpdcaaGreat
