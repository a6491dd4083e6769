/- The contracts of eval and Eval. -/
import Derived.Test.YtlbflfijihbmdaaEvalF
import Derived.Test.YtlbflfijihbmdaaREval
import Derived.Test.YtlbflfijihbmdaaRight
namespace Go.Proofs.Ytlbflfijihbmdaa
open Go.RowKit

/-- The local array of two values, whole, in its block. -/
def ArrAt (w : World) (A : Nat) (x y : Int) : Prop := w.heap[A]? = some (.cells #[.int .i64 x, .int .i64 y] 64 (0, 0))

theorem ArrAt.facts {w : World} {A : Nat} {x y : Int} (h : ArrAt w A x y) : w.cell? ⟨A, 0, none⟩ = some (.int .i64 x) ∧ w.cell? ⟨A, 1, none⟩ = some (.int .i64 y) ∧ w.frozen? ⟨A, 0, none⟩ = false ∧ w.frozen? ⟨A, 1, none⟩ = false ∧ A < w.heap.size :=
  ⟨by simp [World.cell?, show w.heap[A]? = _ from h], by simp [World.cell?, show w.heap[A]? = _ from h], free_of h 0, free_of h 1, lt_of_block h⟩
theorem ArrAt.below {w w' : World} {A : Nat} {x y : Int} (h : ArrAt w A x y) (hb : Below w.heap.size w w') : ArrAt w' A x y := (hb.block A (lt_of_block h)).trans h
theorem ArrAt.set0 {w : World} {A : Nat} {x y : Int} (h : ArrAt w A x y) (v : Int) : ArrAt (w.setCell ⟨A, 0, none⟩ (.int .i64 v)) A v y := by
  unfold ArrAt at *
  simp only [World.setCell, Array.getElem?_modify, if_true, h]; rfl
theorem ArrAt.set1 {w : World} {A : Nat} {x y : Int} (h : ArrAt w A x y) (v : Int) : ArrAt (w.setCell ⟨A, 1, none⟩ (.int .i64 v)) A x v := by
  unfold ArrAt at *
  simp only [World.setCell, Array.getElem?_modify, if_true, h]; rfl
theorem ArrAt.at {w : World} {A j : Nat} {x y : Int} (h : ArrAt w A x y) (hj : j < 2) : ∃ z, w.cell? ⟨A, j, none⟩ = some (.int .i64 z) ∧ w.frozen? ⟨A, j, none⟩ = false ∧ A < w.heap.size := by
  obtain ⟨h0, h1, h2, h3, h4⟩ := h.facts
  match j, hj with
  | 0, _ => exact ⟨x, h0, h2, h4⟩
  | 1, _ => exact ⟨y, h1, h3, h4⟩
theorem ArrAt.push {w : World} {A j : Nat} {pre : List Int} (h : ArrAt w A (pre.getD 0 0) (pre.getD 1 0)) (hl : pre.length = j) (hj : j < 2) (v : Int) : ArrAt (w.setCell ⟨A, j, none⟩ (.int .i64 v)) A ((pre ++ [v]).getD 0 0) ((pre ++ [v]).getD 1 0) := by
  match pre, hl with
  | [], hl => subst hl; exact h.set0 v
  | [x], hl => subst hl; exact h.set1 v
  | _ :: _ :: t, hl => simp at hl; omega
theorem look_plain (W : World) (r : Nat) (hb : W.heap[r]? = some (.map kTab 6)) (k : Int) (x : Nat × Value) (hf : Instr.findNow (.int .i64) (.int .i64 k) kTab.toList 0 = some (some x)) :
    (Instr.lookup 44 (.map (some r)) (.int .i64 k) false).run Try.prog W = .ok x.2 W := run_look W r hb k false x hf
theorem run_field2 (c : Int) (f g : Nat) (W : World) : (Instr.field 62 (.agg #[.int .i64 c, .func (.func f) #[] #[], .func (.func g) #[] #[]]) 2).run Try.prog W = .ok (.func (.func g) #[] #[]) W := by kernel_rfl
theorem vals_cons (ps ms : List Int) (k n : Int) (ks r : Fo) : vals ps ms (.cons k n ks r) = vNode ps ms k n (vals ps ms ks) :: vals ps ms r := rfl
theorem rAll_cons {p m k n : Int} {ks r : Fo} {d : Int} (h : rAll p m (.cons k n ks r) d = true) : rNode p m k n ks.len d (rAll p m ks (d - 1)) = true ∧ rAll p m r d = true := by
  unfold rAll at h; rwa [Bool.and_eq_true] at h

set_option maxRecDepth 100000 in
set_option maxHeartbeats 4000000 in
theorem eval_any (ps ms : List Int) (hp : natsB ps = true) (hm : natsB ms = true) (s : Nat) : ∀ (f : Fo), f.size < s → ∀ (k n d : Int) (a ap am : Option Addr) (cap cp cm B r : Nat) (w : World),
    SlIn w (· < B) f a cap → IntsIn w (· < B) ps ap cp → IntsIn w (· < B) ms am cm → B ≤ w.heap.size → d ≤ 12 → rNode ps.length ms.length k n f.len d (rAll ps.length ms.length f (d - 1)) = true → w.heap[r]? = some (.map kTab 6) →
    Calls Try.prog 26 #[.map (some r), .agg #[.int .i64 k, .int .i64 n, .slice a f.len cap], .slice ap ps.length cp, .slice am ms.length cm] w fun e w' => e = .returned (.int .i64 (vNode ps ms k n (vals ps ms f))) ∧ Below w.heap.size w w' := by
  induction s with
  | zero => intro f hs; omega
  | succ s ih =>
    intro f hs k n d a ap am cap cp cm B r w hsl hip him hB hd hval hmap
    have IH := Lib.hid ih
    clear ih
    obtain ⟨hd1, hkl, hn0, hn1, hall⟩ := node_parts hval
    have HP := Lib.hid hp
    have HM := Lib.hid hm
    have HMap := Lib.hid hmap
    have hr := lt_of_block hmap
    clear hp hm hmap hval
    have hlen := hsl.len
    have hk2 : f.len ≤ 2 := by
      have : kidsOf k ≤ 2 := by unfold kidsOf; split <;> (try split) <;> (try split) <;> omega
      omega
    have HKL := Lib.hid hkl
    have HALL := Lib.hid hall
    have HN1 := Lib.hid hn1
    clear hkl hall hn1
    go_enter Try.func26, Try.ntmps26
    go_wp2_with fail
    go_loopw [15] (fun i wr => ∃ (j : Nat) (rr : Fo) (pre : List Int), i = .int .i64 j ∧ Hid (j + rr.len = f.len) ∧ Hid (rr.size ≤ f.size) ∧
        Hid (∀ b o, a = some ⟨b, o, none⟩ → FoIn w (· < B) rr b (o + j * 3)) ∧ Hid (vals ps ms f = pre ++ vals ps ms rr) ∧ Hid (pre.length = j) ∧ Hid (rAll ps.length ms.length rr (d - 1) = true) ∧
        Hid (ArrAt wr (w.heap.size + 1) (pre.getD 0 0) (pre.getD 1 0)) ∧ Below (w.heap.size + 1) (w.alloc (.cells #[.int .i64 k, .int .i64 n, .slice a f.len cap] 24)) wr)
      (fun i _ => f.len - (intOf i).toNat)
    case atStart => exact ⟨0, f, [], rfl, Lib.hid (by omega), Lib.hid (Nat.le_refl _), Lib.hid (by rintro b o rfl; simpa using hsl.foIn), Lib.hid rfl, Lib.hid rfl, HALL, Lib.hid (heap_second _ _ _), (Below.refl _ _).alloc (by simp) _⟩
    case round =>
      obtain ⟨j, rr, pre, rfl, hj, hrs, hin, hvs, hpl, hra, harr, hb⟩ := hrel
      have c0 := bcell hb w.heap.size 0 (by omega)
      have c1 := bcell hb w.heap.size 1 (by omega)
      have c2 := bcell hb w.heap.size 2 (by omega)
      simp at c0 c1 c2
      have hwB : Below B w wr := ((Below.refl B w).alloc hB _).trans (hb.mono (by omega))
      have hwW : Below w.heap.size w wr := ((Below.refl _ w).alloc (Nat.le_refl _) _).trans (hb.mono (by omega))
      have HMr : Hid (wr.heap[r]? = some (.map kTab 6)) := Lib.hid ((hwW.block r hr).trans HMap.out)
      obtain ⟨x0, x1, fz0, fz1, hA⟩ := harr.out.facts
      cases rr with
      | nil =>
        have hlt : ¬ (j : Int) < (f.len : Int) := by have := hj.out; simp [Fo.len] at this; omega
        have d' : decide ((j : Int) < (f.len : Int)) = false := by simpa using hlt
        have hpre : vals ps ms f = pre := by have := hvs.out; simpa [vals] using this
        have HPre := Lib.hid hpre
        have hbd : ∀ v ∈ pre, 0 ≤ v ∧ v ≤ 1099511627776 + (d - 1) := hpre ▸ vals_bound HP.out HM.out f (d - 1) HALL.out (by omega)
        have hg0 : 0 ≤ pre.getD 0 0 ∧ pre.getD 0 0 ≤ 2199023255552 := by
          by_cases h : 0 < pre.length
          · have e : pre.getD 0 0 = pre[0] := by simp [List.getD_eq_getElem?_getD, h]
            rw [e]; have := hbd _ (List.getElem_mem h); omega
          · have e : pre.getD 0 0 = 0 := by simp [List.getD_eq_getElem?_getD, h]
            rw [e]; omega
        have hg1 := hg0.1
        have hg2 := hg0.2
        have HG2 : Hid (vNode ps ms 2 n pre = 1 + pre.getD 0 0) := Lib.hid (by show pre.getD 0 0 + 1 = _; omega)
        have HG3 : Hid (vNode ps ms 3 n pre = max (pre.getD 0 0) (pre.getD 1 0)) := Lib.hid rfl
        have HG4 : Hid (vNode ps ms 4 n pre = if pre.getD 1 0 = 0 then 0 else max (pre.getD 0 0) (pre.getD 1 0)) := Lib.hid rfl
        have HEnd := Lib.hid hwW
        clear hpre hbd hvs hpl hra hin hrs hg0 harr
        generalize pre.getD 0 0 = y0 at x0 hg1 hg2 HG2 HG3 HG4
        generalize pre.getD 1 0 = y1 at x1 HG3 HG4
        rcases kidsOf_range k (by have := HKL.out; omega) with rfl | rfl | rfl | rfl | rfl | rfl
        · have lk := look_plain wr r HMr.out 1 _ rfl
          simp only [kRow] at lk
          have fd := run_field2
          go_wp2_with fail
          refine (kf2_any _ _ _ _ _ _).mono ?_
          rintro e w3 ⟨rfl, hb3⟩
          go_wp2_with fail
          go_ret
          exact ⟨rfl, Below.step HEnd.out hb3 (Nat.le_refl _)⟩
        · have lk := look_plain wr r HMr.out 2 _ rfl
          simp only [kRow] at lk
          have fd := run_field2
          go_wp2_with fail
          refine (kf3_any _ _ _ _ _ _ hg1 hg2).mono ?_
          rintro e w3 ⟨rfl, hb3⟩
          go_wp2_with fail
          go_ret
          exact ⟨by rw [HPre.out, HG2.out]; rfl, Below.step HEnd.out hb3 (Nat.le_refl _)⟩
        · have lk := look_plain wr r HMr.out 3 _ rfl
          simp only [kRow] at lk
          have fd := run_field2
          go_wp2_with fail
          refine (kf4_any _ _ _ _ _ _).mono ?_
          rintro e w3 ⟨rfl, hb3⟩
          go_wp2_with fail
          go_ret
          exact ⟨by rw [HPre.out, HG3.out]; rfl, Below.step HEnd.out hb3 (Nat.le_refl _)⟩
        · have HI := Lib.hid (fun nn p m W => imax_any nn y0 y1 p m W)
          generalize (if y1 = 0 then (0 : Int) else max y0 y1) = z at HG4 HI
          have lk := look_plain wr r HMr.out 4 _ rfl
          simp only [kRow] at lk
          have fd := run_field2
          go_wp2_with fail
          refine (HI.out _ _ _ _).mono ?_
          rintro e w3 ⟨rfl, hb3⟩
          go_wp2_with fail
          go_ret
          exact ⟨by rw [HPre.out, HG4.out]; rfl, Below.step HEnd.out hb3 (Nat.le_refl _)⟩
        · have lk := look_plain wr r HMr.out 5 _ rfl
          simp only [kRow] at lk
          have fd := run_field2
          have hn2 : n < (ps.length : Int) := by simpa [limOf] using HN1.out
          obtain ⟨i0, rfl⟩ := Int.eq_ofNat_of_zero_le hn0
          have hi0 : i0 < ps.length := by omega
          have HG : Hid (vNode ps ms 5 (i0 : Int) pre = ps.getD i0 0) := Lib.hid (by rw [vNode_5, Int.toNat_natCast])
          have HI := Lib.hid (fun x y m W h1 h2 => kf6_any i0 x y ps ap cp B m W h1 h2 hi0)
          generalize ps.getD i0 0 = z at HG HI
          go_wp2_with fail
          refine (HI.out _ _ _ _ (hip.below hwB) (Nat.le_trans hB hwB.size)).mono ?_
          rintro e w3 ⟨rfl, hb3⟩
          go_wp2_with fail
          go_ret
          exact ⟨by rw [HPre.out, HG.out]; rfl, Below.step HEnd.out hb3 (Nat.le_refl _)⟩
        · have lk := look_plain wr r HMr.out 6 _ rfl
          simp only [kRow] at lk
          have fd := run_field2
          have hn2 : n < (ms.length : Int) := by simpa [limOf] using HN1.out
          obtain ⟨i0, rfl⟩ := Int.eq_ofNat_of_zero_le hn0
          have hi0 : i0 < ms.length := by omega
          have HG : Hid (vNode ps ms 6 (i0 : Int) pre = ms.getD i0 0) := Lib.hid (by rw [vNode_6, Int.toNat_natCast])
          have HI := Lib.hid (fun x y m W h1 h2 => kf8_any i0 x y ms am cm B m W h1 h2 hi0)
          generalize ms.getD i0 0 = z at HG HI
          go_wp2_with fail
          refine (HI.out _ _ _ _ (him.below hwB) (Nat.le_trans hB hwB.size)).mono ?_
          rintro e w3 ⟨rfl, hb3⟩
          go_wp2_with fail
          go_ret
          exact ⟨by rw [HPre.out, HG.out]; rfl, Below.step HEnd.out hb3 (Nat.le_refl _)⟩
      | cons k' n' ks r' =>
        have hlt : j < f.len := by have := hj.out; simp [Fo.len] at this; omega
        obtain ⟨b, o, rfl, hbB, hf0⟩ := hsl.some (by omega)
        obtain ⟨e0, e1, ⟨a', cap', e2, hsl'⟩, hrest⟩ := (hin.out b o rfl).below hwB _ _ _ hbB |>.first
        have hks : ks.size < s := by have := hrs.out; simp [Fo.size] at this; omega
        obtain ⟨hk, hra'⟩ := rAll_cons hra.out
        have HVC := Lib.hid (vals_cons ps ms k' n' ks r')
        have C1 := Lib.hid (fun W h1 h2 h3 h4 h5 => IH.out ks hks k' n' (d - 1) a' ap am cap' cp cm B r W h1 h2 h3 h4 (by omega) hk h5)
        have HRA := Lib.hid hra'
        clear hk hra' hrest hf0
        have hbk : ∀ o, Below B w (wr.alloc o) := fun o => hwB.alloc (Nat.le_trans hB hwB.size) _
        have HBK := Lib.hid hbk
        have HMr2 : Hid (∀ o, (wr.alloc o).heap[r]? = some (.map kTab 6)) := Lib.hid (fun o => (heap_old wr o (Nat.lt_of_lt_of_le hr hwW.size)).trans HMr.out)
        clear hbk
        generalize vNode ps ms k' n' (vals ps ms ks) = v at C1 HVC
        have hj2 : j < 2 := by omega
        have hj3 : (j : Int) < 2 := by omega
        go_wp2_with fail
        refine (C1.out _ (hsl'.below ((Below.refl _ _).alloc (Nat.le_trans hB hwB.size) _)) (hip.below (HBK.out _)) (him.below (HBK.out _)) (Nat.le_trans hB (HBK.out _).size) (HMr2.out _)).mono ?_
        rintro e w2 ⟨rfl, hb2⟩
        have harr2 := (harr.out.below ((Below.refl _ _).alloc (Nat.le_refl _) _)).below hb2
        have HARR := Lib.hid harr2
        obtain ⟨y, y1, y2, y3⟩ := harr2.at hj2
        clear harr2
        have hb3 := Lib.hid (Below.step (hb.alloc (by have := hb.size; simp at this; exact this) _) hb2 (by simp))
        go_wp2_with fail
        go_roundw
        case rel => exact ⟨j + 1, r', pre ++ [v], by go_num, Lib.hid (by have := hj.out; simp [Fo.len] at this; omega), Lib.hid (by have := hrs.out; simp [Fo.size] at this; omega), Lib.hid (by rintro b' o' h; cases h; have := (hin.out b o rfl).2.2.2; rwa [show o + (j + 1) * 3 = o + j * 3 + 3 by omega]), Lib.hid (by rw [hvs.out, HVC.out]; simp), Lib.hid (by simp [hpl.out]), HRA, Lib.hid (HARR.out.push hpl.out hj2 v), hb3.out.setCell (by simp) _⟩
        case measure => simp [intOf]; omega

set_option maxRecDepth 100000 in
set_option maxHeartbeats 2000000 in
theorem Eval_any (ps ms : List Int) (k n : Int) (f : Fo) (a ap am : Option Addr) (cap cp cm B : Nat) (w : World) (hsl : SlIn w (· < B) f a cap) (hip : IntsIn w (· < B) ps ap cp) (him : IntsIn w (· < B) ms am cm) (hB : B ≤ w.heap.size) :
    Calls Try.prog 17 #[.agg #[.int .i64 k, .int .i64 n, .slice a f.len cap], .slice ap ps.length cp, .slice am ms.length cm] w fun e w' => e = .returned (evV ps ms k n f) ∧ Below w.heap.size w w' := by
  have hbox0 : Below w.heap.size w ((w.alloc (.cells #[.int .i64 k, .int .i64 n, .slice a f.len cap] 24)).alloc (.map kTab 6)) := ((Below.refl _ _).alloc (Nat.le_refl _) _).alloc (by simp) _
  have hbox : Below B w ((w.alloc (.cells #[.int .i64 k, .int .i64 n, .slice a f.len cap] 24)).alloc (.map kTab 6)) := hbox0.mono hB
  have hM := heap_second w (.cells #[.int .i64 k, .int .i64 n, .slice a f.len cap] 24) (.map kTab 6)
  have HM0 := Lib.hid hM
  clear hM
  have CR := Lib.hid (fun W r h1 h2 h3 => right_any ps.length ms.length k n f a cap B r W h1 h2 h3)
  have HV := Lib.hid (eval_any ps ms)
  have RN := Lib.hid (fun h : rightB ps.length ms.length k n f = true => right_node h)
  have Er := Lib.hid (evV_r (ps := ps) (ms := ms) (k := k) (n := n) (f := f))
  have Ep := Lib.hid (evV_p (ps := ps) (ms := ms) (k := k) (n := n) (f := f))
  have Em := Lib.hid (evV_m (ps := ps) (ms := ms) (k := k) (n := n) (f := f))
  have Ey := Lib.hid (evV_y (ps := ps) (ms := ms) (k := k) (n := n) (f := f))
  generalize rightB ps.length ms.length k n f = v at CR RN Er Ey
  cases v with
  | false =>
    rw [Er.out rfl]
    go_enter Try.func17, Try.ntmps17
    go_wp2_with fail
    refine (kinds_any _).mono ?_
    rintro e w0 ⟨rfl, rfl⟩
    go_wp2_with fail
    refine (CR.out _ _ (hsl.below hbox) (Nat.le_trans hB hbox.size) HM0.out).mono ?_
    rintro e w1 ⟨rfl, hb1⟩
    go_wp2_with fail
    go_ret2
    exact ⟨rfl, Below.step hbox0 hb1 (Nat.le_refl _)⟩
  | true =>
    have NP := Lib.hid (fun W h => numbers_any ps ap cp B W h)
    have NM := Lib.hid (fun W h => numbers_any ms am cm B W h)
    cases hp : natsB ps with
    | false =>
      rw [Ep.out hp]
      rw [hp] at NP
      go_enter Try.func17, Try.ntmps17
      go_wp2_with fail
      refine (kinds_any _).mono ?_
      rintro e w0 ⟨rfl, rfl⟩
      go_wp2_with fail
      refine (CR.out _ _ (hsl.below hbox) (Nat.le_trans hB hbox.size) HM0.out).mono ?_
      rintro e w1 ⟨rfl, hb1⟩
      have hb1' := Lib.hid (Below.step hbox hb1 hB)
      go_wp2_with fail
      refine (NP.out _ (hip.below hb1'.out)).mono ?_
      rintro e w2 ⟨rfl, rfl⟩
      go_wp2_with fail
      go_ret2
      exact ⟨rfl, Below.step hbox0 hb1 (Nat.le_refl _)⟩
    | true =>
      rw [hp] at NP
      cases hm : natsB ms with
      | false =>
        rw [Em.out hm]
        rw [hm] at NM
        clear hp hm
        go_enter Try.func17, Try.ntmps17
        go_wp2_with fail
        refine (kinds_any _).mono ?_
        rintro e w0 ⟨rfl, rfl⟩
        go_wp2_with fail
        refine (CR.out _ _ (hsl.below hbox) (Nat.le_trans hB hbox.size) HM0.out).mono ?_
        rintro e w1 ⟨rfl, hb1⟩
        have hb1' := Lib.hid (Below.step hbox hb1 hB)
        go_wp2_with fail
        refine (NP.out _ (hip.below hb1'.out)).mono ?_
        rintro e w2 ⟨rfl, rfl⟩
        go_wp2_with fail
        refine (NM.out _ (him.below hb1'.out)).mono ?_
        rintro e w2 ⟨rfl, rfl⟩
        go_wp2_with fail
        go_ret2
        exact ⟨rfl, Below.step hbox0 hb1 (Nat.le_refl _)⟩
      | true =>
        rw [Ey.out rfl hp hm]
        rw [hm] at NM
        have HV' := Lib.hid (fun W r h1 h2 h3 h4 h5 => HV.out hp hm (f.size + 1) f (Nat.lt_succ_self _) k n 12 a ap am cap cp cm B r W h1 h2 h3 h4 (by omega) (RN.out rfl) h5)
        clear HV hp hm
        go_enter Try.func17, Try.ntmps17
        go_wp2_with fail
        refine (kinds_any _).mono ?_
        rintro e w0 ⟨rfl, rfl⟩
        go_wp2_with fail
        refine (CR.out _ _ (hsl.below hbox) (Nat.le_trans hB hbox.size) HM0.out).mono ?_
        rintro e w1 ⟨rfl, hb1⟩
        have hb1' := Lib.hid (Below.step hbox hb1 hB)
        have hb1'' : Below (w.heap.size + 2) ((w.alloc (.cells #[.int .i64 k, .int .i64 n, .slice a f.len cap] 24)).alloc (.map kTab 6)) w1 := by simpa using hb1
        have c0 := bcell hb1'' w.heap.size 0 (by omega)
        have c1 := bcell hb1'' w.heap.size 1 (by omega)
        have c2 := bcell hb1'' w.heap.size 2 (by omega)
        simp at c0 c1 c2
        have HM1 := Lib.hid ((hb1''.block (w.heap.size + 1) (by omega)).trans HM0.out)
        clear hb1
        go_wp2_with fail
        refine (NP.out _ (hip.below hb1'.out)).mono ?_
        rintro e w2 ⟨rfl, rfl⟩
        go_wp2_with fail
        refine (NM.out _ (him.below hb1'.out)).mono ?_
        rintro e w2 ⟨rfl, rfl⟩
        go_wp2_with fail
        refine (HV'.out _ _ (hsl.below hb1'.out) (hip.below hb1'.out) (him.below hb1'.out) (Nat.le_trans hB hb1'.out.size) HM1.out).mono ?_
        rintro e w3 ⟨rfl, hb3⟩
        go_wp2_with fail
        go_ret2
        exact ⟨rfl, Below.step (hbox0.trans (hb1''.mono (by omega))) hb3 (Nat.le_refl _)⟩
end Go.Proofs.Ytlbflfijihbmdaa
