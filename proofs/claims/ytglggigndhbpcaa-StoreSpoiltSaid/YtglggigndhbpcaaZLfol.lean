/- The contract of the program's Follows. Condition: the store and the atoms lie in memory; at most 1000 clauses, values and atoms. -/
import Derived.Test.YtglggigndhbpcaaZJrk
import Derived.Test.YtglggigndhbpcaaZLconcat
import Derived.Test.YtglggigndhbpcaaZLn
import Derived.Test.YtglggigndhbpcaaZHr
import Derived.Test.YtglggigndhbpcaaZKsolv
import Derived.Deep.RegionHeld3
namespace Go.Proofs.Ytglggigndhbpcaa
open Go.RowKit

theorem hi_any {b : List At} (h : ∀ j, j < b.length → (b.getD j at0).2 ≤ 1000) : (b.any fun x => decide (x.2 = 1000)) = b.any (fun x => decide (1000 ≤ x.2)) := by
  cases hc : (b.any fun x => decide (1000 ≤ x.2)) with
  | true =>
    obtain ⟨x, hx, h2⟩ := List.any_eq_true.1 hc
    have h2 := of_decide_eq_true h2
    obtain ⟨j, hj, rfl⟩ := List.getElem_of_mem hx
    have h3 := h j hj
    rw [List.getD_eq_getElem?_getD, List.getElem?_eq_getElem hj] at h3
    exact List.any_eq_true.2 ⟨_, hx, decide_eq_true (Int.le_antisymm h3 h2)⟩
  | false =>
    rw [Bool.eq_false_iff] at hc ⊢
    intro hh
    obtain ⟨x, hx, h2⟩ := List.any_eq_true.1 hh
    exact hc (List.any_eq_true.2 ⟨x, hx, decide_eq_true (by have := of_decide_eq_true h2; omega)⟩)
theorem sone_cls {W : World} {b : List At} {av aw : Int} {ab : Option Addr} {cb : Nat} (h : AtsIn W (· < W.heap.size) b ab cb) : ClsIn (W.alloc (.cells #[.slice ab b.length cb, .int .i64 av, .int .i64 aw] 35)) (· < (W.alloc (.cells #[.slice ab b.length cb, .int .i64 av, .int .i64 aw] 35)).heap.size) [(b, (av, aw))] (some ⟨W.heap.size, 0, none⟩) 1 := by
  have hn := heap_new W (.cells #[.slice ab b.length cb, .int .i64 av, .int .i64 aw] 35)
  refine ⟨Nat.le_refl _, by unfold maxLen; omega, (fun e => by cases e), fun _ => ⟨W.heap.size, 0, rfl, lt_of_block hn, fun i hi => ?_⟩⟩
  have hi0 : i = 0 := by simp at hi; exact hi
  subst hi0
  exact ⟨⟨ab, cb, cell_at hn 0, (h.keep (fun b hb => heap_old _ _ hb)).weak (fun b hb => by simp; omega)⟩, cell_at hn 1, cell_at hn 2⟩
set_option maxRecDepth 100000 in
set_option maxHeartbeats 8000000 in
theorem sFollows_any (vars av aw : Int) (l : List Cl) (b : List At) (m : List Int) (a am ab : Option Addr) (cap cm cb B : Nat) (w : World) (hin : ClsIn w (· < B) l a cap) (him : IntsIn w (· < B) m am cm) (hib : AtsIn w (· < B) b ab cb) (hB : B ≤ w.heap.size) (hl : l.length ≤ 1000) (hk : b.length ≤ 1000) :
    Calls Try.prog 20 #[.agg #[.int .i64 vars, .slice a l.length cap, .slice am m.length cm], .agg #[.int .i64 av, .int .i64 aw], .slice ab b.length cb] w fun e w' => e = .returned (.tuple #[.bool (folB vars l m (av, aw) b), .int .i64 (folE vars l m (av, aw) b)]) ∧ Below w.heap.size w w' := by
  have HX1 := Lib.hid (@fol_wrong vars l m (av, aw) b)
  have HX2 := Lib.hid (@fol_long vars l m (av, aw) b)
  have HX3 := Lib.hid (@fol_yes vars l m (av, aw) b)
  have HOB : Hid (hrB vars [(b, (av, aw))] = true → ∀ j, j < b.length → 0 ≤ (b.getD j at0).2 ∧ (b.getD j at0).2 ≤ 1000) := Lib.hid (fun h j hj => by
    have h4 := (hrB_of h).2.2.2
    simp only [List.all_cons, List.all_nil, Bool.and_true] at h4
    exact (atB_of (all_getD (clB_of h4).2.2 at0 hj)).2.2)
  generalize folE vars l m (av, aw) b = E at HX1 HX2 HX3 ⊢
  generalize folB vars l m (av, aw) b = R at HX1 HX2 HX3 ⊢
  obtain ⟨W0, hW0⟩ : ∃ W, W = (w.alloc (.cells #[.int .i64 vars, .slice a l.length cap, .slice am m.length cm] 25)).alloc (.cells #[.int .i64 av, .int .i64 aw] 27) := ⟨_, rfl⟩
  have B0 : Below w.heap.size w W0 := by rw [hW0]; exact ((Below.refl _ _).alloc (Nat.le_refl _) _).alloc (by simp) _
  have HS0 : Hid (W0.heap.size = w.heap.size + 1 + 1) := Lib.hid (by rw [hW0]; simp)
  have HB0 := Lib.hid B0
  have Q0 : Hid (W0.heap[w.heap.size]? = some (.cells #[.int .i64 vars, .slice a l.length cap, .slice am m.length cm] 25 (0, 0))) := Lib.hid (by
    rw [hW0]; exact (heap_old _ _ (by simp)).trans (heap_new w _))
  have Q1 : Hid (W0.heap[w.heap.size + 1]? = some (.cells #[.int .i64 av, .int .i64 aw] 27 (0, 0))) := Lib.hid (by
    rw [hW0]
    have := heap_new (w.alloc (.cells #[.int .i64 vars, .slice a l.length cap, .slice am m.length cm] 25)) (.cells #[.int .i64 av, .int .i64 aw] 27)
    rwa [World.size_alloc] at this)
  have CR := Lib.hid (sRight_any vars l m a am cap cm B W0 (hin.below (B0.mono hB)) (him.below (B0.mono hB)) (Nat.le_trans hB B0.size))
  have HBW : ∀ {W : World}, Below W0.heap.size W0 W → B ≤ W.heap.size := fun hW => Nat.le_trans hB (Nat.le_trans B0.size hW.size)
  have HIB : ∀ {W : World}, Below W0.heap.size W0 W → AtsIn W (· < W.heap.size) b ab cb := fun hW => (hib.below ((B0.trans (hW.mono B0.size)).mono hB)).weak (fun c hc => Nat.lt_of_lt_of_le hc (HBW hW))
  have HIL : ∀ {W : World}, Below W0.heap.size W0 W → ClsIn W (· < W.heap.size) l a cap := fun hW => (hin.below ((B0.trans (hW.mono B0.size)).mono hB)).mono (HBW hW)
  have CH := Lib.hid (fun (W : World) (hW : Below W0.heap.size W0 W) => hRight_any vars [(b, (av, aw))] (some ⟨W.heap.size, 0, none⟩) 1 _ _ (sone_cls (av := av) (aw := aw) (HIB hW)) (Nat.le_refl _))
  have CX := Lib.hid (fun (W : World) (hW : Below W0.heap.size W0 W) => scontains_any b ab cb W.heap.size W (HIB hW) (Nat.le_refl _))
  have CD := Lib.hid (fun (W : World) (hW : Below W0.heap.size W0 W) hO => sdenial_any av aw b ab cb W.heap.size W (HIB hW) (Nat.le_refl _) hk hO)
  have CC := Lib.hid (fun (W : World) (x : Option Addr) (c : Nat) (hW : Below W0.heap.size W0 W) (hc : ClsIn W (· < W.heap.size) (notK (av, aw) b) x c) => sconcat_at (R := fun _ => True) (n := b.length) ((HIL hW).weak (fun _ h => ⟨h, trivial⟩)) (hc.weak (fun _ h => ⟨h, trivial⟩)) hl (by rw [notK_len]; exact hk) (notK_len _ _))
  have hll := hl
  have hkk := hk
  clear hin him hib hB B0 HBW HIB HIL
  rw [hW0] at CR
  go_enter Try.func20, Try.ntmps20
  go_wp2_with fail
  refine CR.out.mono ?_
  rintro e w1 ⟨rfl, b1⟩
  rw [← hW0] at b1
  have B1 := Lib.hid b1
  have hs := HS0.out
  have q0 := (b1.block w.heap.size (by omega)).trans Q0.out
  have q1 := (b1.block (w.heap.size + 1) (by omega)).trans Q1.out
  have p0 := cell_at q0 0
  have p1 := cell_at q0 1
  have p3 := cell_at q1 0
  have p4 := cell_at q1 1
  simp at p0 p1 p3 p4
  clear b1 CR hW0 q0 q1 hs hl hk
  cases hr : rgS vars l m with
  | false =>
    obtain ⟨rfl, rfl⟩ := HX1.out (.inl hr)
    clear HX1 HX2 HX3
    go_wp2_with fail
    refine bodyPost_ret (v := .tuple #[.bool false, .int .i64 1]) (by simp [results, Try.f20, go_sem]) rfl ?_
    exact ⟨rfl, Below.step HB0.out B1.out (Nat.le_refl _)⟩
  | true =>
    have CH1 := Lib.hid (CH.out w1 B1.out)
    go_wp2_with fail
    refine CH1.out.mono ?_
    rintro e w2 ⟨rfl, b2⟩
    have B2 : Hid (Below W0.heap.size W0 w2) := Lib.hid (B1.out.trans ((((Below.refl w1.heap.size w1).alloc (Nat.le_refl _) _).trans (b2.mono (by simp))).mono B1.out.size))
    have hs := HS0.out
    have q0 := (B2.out.block w.heap.size (by omega)).trans Q0.out
    have u0 := cell_at q0 0
    have u1 := cell_at q0 1
    simp at u0 u1
    clear b2 CH CH1 p0 p1 p3 p4 q0 hs
    cases hh : hrB vars [(b, (av, aw))] with
    | false =>
      obtain ⟨rfl, rfl⟩ := HX1.out (.inr hh)
      clear HX1 HX2 HX3
      go_wp2_with fail
      refine bodyPost_ret (v := .tuple #[.bool false, .int .i64 1]) (by simp [results, Try.f20, go_sem]) rfl ?_
      exact ⟨rfl, Below.step HB0.out B2.out (Nat.le_refl _)⟩
    | true =>
      have HOJ := Lib.hid (HOB.out hh)
      have HHI := Lib.hid (hi_any (fun j hj => (HOJ.out j hj).2))
      clear HOB
      by_cases hlong : 60 < l.length + b.length
      · obtain ⟨rfl, rfl⟩ := HX2.out hr hh (.inl hlong)
        have hlong' : (60 : Int) < (l.length : Int) + (b.length : Int) := by omega
        clear HX1 HX2 HX3
        go_wp2_with fail
        refine bodyPost_ret (v := .tuple #[.bool false, .int .i64 2]) (by simp [results, Try.f20, go_sem]) rfl ?_
        exact ⟨rfl, Below.step HB0.out B2.out (Nat.le_refl _)⟩
      · have hlong' : ¬ (60 : Int) < (l.length : Int) + (b.length : Int) := by omega
        have HLK : Hid (l.length + b.length ≤ 60) := Lib.hid (by omega)
        have HY2 := Lib.hid (fun h => HX2.out hr hh (.inr h))
        have HY3 := Lib.hid (fun h => HX3.out hr hh hlong h)
        have CX2 := Lib.hid (CX.out w2 B2.out)
        unfold hiV at CX2
        rw [HHI.out] at CX2
        clear HX1 HX2 HX3 CX
        go_wp2_with fail
        refine CX2.out.mono ?_
        rintro e w3 ⟨rfl, b3⟩
        have B3 := Lib.hid (B2.out.trans (b3.mono B2.out.size))
        clear b3 CX2 u0 u1
        cases hy : b.any (fun x => decide (1000 ≤ x.2)) with
        | true =>
          obtain ⟨rfl, rfl⟩ := HY2.out hy
          clear HY2 HY3
          go_wp2_with fail
          refine bodyPost_ret (v := .tuple #[.bool false, .int .i64 2]) (by simp [results, Try.f20, go_sem]) rfl ?_
          exact ⟨rfl, Below.step HB0.out B3.out (Nat.le_refl _)⟩
        | false =>
          obtain ⟨rfl, hR⟩ := HY3.out hy
          have HRR := Lib.hid hR
          have HSS : Hid (∀ W, Below W0.heap.size W0 W → Hid (Below W0.heap.size W0 W) ∧ W.cell? ⟨w.heap.size, 0, none⟩ = some (.int .i64 vars) ∧ W.cell? ⟨w.heap.size, 1, none⟩ = some (.slice a l.length cap) ∧ W.cell? ⟨w.heap.size + 1, 0, none⟩ = some (.int .i64 av) ∧ W.cell? ⟨w.heap.size + 1, 1, none⟩ = some (.int .i64 aw)) := Lib.hid (fun W hW => by
            have hs := HS0.out
            have q0 := (hW.block w.heap.size (by omega)).trans Q0.out
            have q1 := (hW.block (w.heap.size + 1) (by omega)).trans Q1.out
            exact ⟨Lib.hid hW, cell_at q0 0, cell_at q0 1, cell_at q1 0, cell_at q1 1⟩)
          have CD2 := Lib.hid (fun (W : World) (hW : Below W0.heap.size W0 W) => CD.out W hW HOJ.out)
          have HNK : Hid ((l ++ notK (av, aw) b).length = l.length + b.length) := Lib.hid (by rw [List.length_append, notK_len])
          obtain ⟨_, s0, s1, s2, s3⟩ := HSS.out w3 B3.out
          clear HY2 HY3 hR hy hh hr CD HHI HOJ
          have hB3 := B3
          go_wp2_with fail
          go_region_held3 (fun w' => Hid (Below W0.heap.size W0 w') ∧ w'.cell? ⟨w.heap.size, 0, none⟩ = some (.int .i64 vars) ∧ w'.cell? ⟨w.heap.size, 1, none⟩ = some (.slice a l.length cap) ∧ w'.cell? ⟨w.heap.size + 1, 0, none⟩ = some (.int .i64 av) ∧ w'.cell? ⟨w.heap.size + 1, 1, none⟩ = some (.int .i64 aw))
            (first | exact HSS.out _ B3.out.drew | (go_split_ands; exact HSS.out _ (Below.alloc (Hid.out (by assumption)) (Hid.out (by assumption : Hid (Below W0.heap.size W0 _))).size _)) | (go_split_ands; exact HSS.out _ (Below.trans (Hid.out (by assumption)) (hbN.mono (Hid.out (by assumption : Hid (Below W0.heap.size W0 _))).size))))
            (first
              | (go_at_call 35; go_split_ands; refine (CD2.out _ (Hid.out (by assumption))).mono ?_; rintro e wN ⟨xd, cd, rfl, hcd, hbN⟩; have HCD := Lib.hid hcd; clear hcd)
              | (go_at_call 34; go_split_ands; refine (CC.out _ xd cd (B3.out.drew.trans (hbN.mono B3.out.size)) HCD.out).mono ?_; rintro e wM ⟨xe, ce, rfl, hce, hbN⟩; have HCE := Lib.hid (hce.weak (fun _ h => h.1)); clear hce)
              | (go_at_call 33; go_split_ands; refine (jsolve_at HCE.out (Below.refl _ _) HNK.out).mono ?_; rintro e wL ⟨z, is, n5, er, xz, cz, rfl, hs5, _, hbN⟩; have HS5 := Lib.hid hs5; clear hs5))
          go_split_ands
          have HBE : Hid (Below W0.heap.size W0 wL) := by assumption
          obtain ⟨_, rfl, her⟩ := HS5.out.is
          clear her HSS CD2 CC
          generalize posB vars (l ++ notK (av, aw) b) = PB at HRR ⊢
          go_wp2_with fail
          refine bodyPost_ret (v := .tuple #[.bool (!PB), .int .i64 0]) (by simp [results, Try.f20, go_sem]) rfl ?_
          exact ⟨by rw [HRR.out], Below.step HB0.out HBE.out (Nat.le_refl _)⟩
end Go.Proofs.Ytglggigndhbpcaa
