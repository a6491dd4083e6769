/- For every list of lists of bytes the law ArenaBack returns true: Get undoes Put, the same levels have the same place, unlike ones unlike places, whatever is put between. No condition. -/
import Derived.Test.YtmbopdlmkbbbiaaBack4
import Derived.Test.YtmbopdlmkbbbiaaAwake4
import Derived.Test.YtmbopdlmkbbbiaaOpenRows
import Derived.Carry
namespace Go.Proofs.Ytmbopdlmkbbbiaa.arenaBack
open Go.ChangeShapes Go.WideShapes Go.ChangeAt Go.RowKit

theorem own : ownKnob Try.prog.godebug = none := by kernel_rfl
theorem lv_rt {k n : Int} {F : Fo} (h : LvOk 5 10 5 k n F) : rightB 5 10 k n F = true := by
  have hs : F.size + 2 ≤ 64 := Nat.le_trans h.2 (by decide : 2 ^ 5 ≤ 64)
  unfold rightB
  simp only [Bool.and_eq_true, decide_eq_true_eq]
  exact ⟨by omega, by omega, rNode_mono h.1 (by omega) (fun h => rAll_mono h (by omega))⟩

/-- A level in a variable of its own, its Kids, and all that lay there ahead. -/
def Bx (W0 : World) (X : Nat) (k n : Int) (F : Fo) (x : Option Addr) (c : Nat) (W : World) : Prop := W.heap[X]? = some (.cells #[.int .i64 k, .int .i64 n, .slice x F.len c] 30 (0, 0)) ∧ SlIn W (· < W.heap.size) F x c ∧ Below W0.heap.size W0 W
theorem bx_late {W0 wr w2 : World} {k n : Int} {F : Fo} {x : Option Addr} {c : Nat} (hQ : Below W0.heap.size W0 wr) (b2 : Below wr.heap.size wr w2) (s2 : SlIn w2 (fun b => wr.heap.size ≤ b ∧ b < w2.heap.size) F x c) : Bx W0 w2.heap.size k n F x c (w2.alloc (.cells #[.int .i64 k, .int .i64 n, .slice x F.len c] 30)) :=
  ⟨heap_new _ _, (SlIn.keep (fun b h => heap_old _ _ h.2) s2).weak (fun b h => by have := h.2; simp; omega), (Below.step hQ b2 (Nat.le_refl _)).alloc (Nat.le_trans hQ.size b2.size) _⟩
theorem bx_early {W0 wr w2 : World} {k n : Int} {F : Fo} {x : Option Addr} {c : Nat} (hQ : Below W0.heap.size W0 wr) (b2 : Below (wr.heap.size + 1) (wr.alloc (.cells #[.int .i64 0, .int .i64 0, .slice none 0 0] 30)) w2) (s2 : SlIn w2 (fun b => wr.heap.size + 1 ≤ b ∧ b < w2.heap.size) F x c) :
    Bx W0 wr.heap.size k n F x c (((w2.setCell ⟨wr.heap.size, 0, none⟩ (.int .i64 k)).setCell ⟨wr.heap.size, 1, none⟩ (.int .i64 n)).setCell ⟨wr.heap.size, 2, none⟩ (.slice x F.len c)) := by
  have xz := (b2.block wr.heap.size (by omega)).trans (heap_new wr (.cells #[.int .i64 0, .int .i64 0, .slice none 0 0] 30))
  have hg := set3_only (w := w2) wr.heap.size (.int .i64 k) (.int .i64 n) (.slice x F.len c)
  have hb : Below wr.heap.size wr w2 := ((Below.refl _ _).alloc (Nat.le_refl _) _).trans (b2.mono (by omega))
  refine ⟨set3 xz, (SlIn.keep (fun b h => Only.block hg h.2 (by omega)) s2).weak (fun b h => Nat.lt_of_lt_of_le h.2 hg.size), ?_⟩
  have h1 := Below.step hQ hb (Nat.le_refl _)
  exact ((h1.setCell hQ.size _).setCell hQ.size _).setCell hQ.size _

set_option maxRecDepth 100000 in
set_option maxHeartbeats 8000000 in
theorem walk (l1 c1 : Nat) (a1 : Option Addr) (w : World) (h1 : RowsIn w (· < w.heap.size) l1 a1 c1) :
    Calls Try.prog 4 #[.slice a1 l1 c1] w fun e w' => e = .returned (.bool true) ∧ Below w.heap.size w w' := by
  have hlen := h1.len
  have HIN := Lib.hid h1
  clear h1
  go_enter Try.func4, Try.ntmps4
  go_wp2_with fail
  refine (awake4_any _).mono ?_
  rintro e w1 ⟨rfl, b1⟩
  have HST := Lib.hid (BkR.start b1)
  have HLE := Lib.hid b1.size
  clear b1
  go_wp2_with fail
  go_loopw [5, 6, 7] (fun u5 u6 iv wr => ∃ (j : Nat) (v5 v6 : Value), v5 = u5 ∧ v6 = u6 ∧ iv = .int .i64 j ∧ j ≤ l1 ∧ j ≤ 8 ∧ Hid (BkR w w1.heap.size j v5 v6 wr)) (fun _ _ iv _ => 8 - (intOf iv).toNat)
  case atStart => exact ⟨0, _, _, rfl, rfl, rfl, Nat.zero_le _, Nat.zero_le _, HST⟩
  case round =>
    obtain ⟨j, v5, v6, rfl, rfl, rfl, hj, hj8, hR⟩ := hrel
    have hj0 : (0 : Int) ≤ (j : Int) := by omega
    by_cases hlt : j < l1 ∧ j < 8
    · obtain ⟨hl1, hl2⟩ := hlt
      have hl1' : (j : Int) < (l1 : Int) := by omega
      have hl2' : (j : Int) < 8 := by omega
      have d1 : decide (j < l1) = true := by simpa using hl1
      obtain ⟨ns, x, c, G, ps, h1, h2, h3, h4, h5, h6⟩ := hR.out
      obtain ⟨b, o, rfl, hbB, hc⟩ := HIN.out.2.2.2 (by omega)
      obtain ⟨a', l', c', hcell, hu⟩ := hc j hl1
      have e0 := (bcell h6 b (o + j) hbB).trans hcell
      have HM := Lib.hid (made_any 5 10 (by omega) (by omega) (by omega) (by omega) l' c' w.heap.size a' wr (hu.keep' (fun b h => h6.block b h)) h6.size)
      have H1 := Lib.hid h1
      have H2 := Lib.hid h2
      have H3 := Lib.hid h3
      have H4 := Lib.hid h4
      have H5 := Lib.hid h5
      have H6 := Lib.hid h6
      clear h1 h2 h3 h4 h5 h6 hc hcell hu hR HST
      go_wp2_with fail
      refine HM.out.mono ?_
      rintro e w2 ⟨k, n, F, y, d, rfl, hok, s2, b2⟩
      have hrt := lv_rt hok
      obtain ⟨ex, p, hpv, q1, q2, q3, q4⟩ := put_right H2.out (by have := H3.out; omega) hrt
      have hnl : ns.length ≤ (ns ++ ex).length := by rw [List.length_append]; omega
      have h3' := H3.out
      have HPRE : Hid (∀ i z, ns[i]? = some z → (ns ++ ex)[i]? = some z) := Lib.hid (fun i z h => by
        rw [List.getElem?_append_left (List.getElem?_eq_some_iff.1 h).1]; exact h)
      have b23 : Below w2.heap.size w2 (w2.alloc (.cells #[.int .i64 k, .int .i64 n, .slice y F.len d] 30)) := (Below.refl _ _).alloc (Nat.le_refl _) _
      have b13 : Below wr.heap.size wr (w2.alloc (.cells #[.int .i64 k, .int .i64 n, .slice y F.len d] 30)) := Below.step b2 b23 (Nat.le_refl _)
      have hR3 : rightN (ns ++ ex) = true := by unfold rightN; rw [q1, decide_eq_true (by omega)]; rfl
      have hP := aPut_any ns x c k n F y d (w2.alloc (.cells #[.int .i64 k, .int .i64 n, .slice y F.len d] 30)).heap.size (w2.alloc (.cells #[.int .i64 k, .int .i64 n, .slice y F.len d] 30))
        ((H1.out.2.1.keep (fun b h => b13.block b h.2.1)).weak (fun b h => Nat.lt_of_lt_of_le h.2.1 b13.size)) ((SlIn.keep (fun b h => b23.block b h.2) s2).weak (fun b h => Nat.lt_of_lt_of_le h.2 b23.size)) (Nat.le_refl _) (by omega)
      rw [hpv] at hP
      have HNEXT : Hid (∀ (x' : Option Addr) (c' : Nat) (w4 wq : World), NOwn w4 (w2.alloc (.cells #[.int .i64 k, .int .i64 n, .slice y F.len d] 30)).heap.size (.slice x' (ns ++ ex).length c') (ns ++ ex) → Below (w2.alloc (.cells #[.int .i64 k, .int .i64 n, .slice y F.len d] 30)).heap.size (w2.alloc (.cells #[.int .i64 k, .int .i64 n, .slice y F.len d] 30)) w4 → Below w4.heap.size w4 wq →
          ∃ g5 c5 w7 g6 c6 w8, (Builtin.append_ #[28, 28] 28 #[v5, .slice (some ⟨wq.heap.size, 0, none⟩) 1 1]).run Try.prog ((wq.setCell ⟨w1.heap.size, 0, none⟩ (.slice x' (ns ++ ex).length c')).alloc (.cells #[.int .i64 k, .int .i64 n, .slice y F.len d] 30)) = .ok (.slice (some ⟨g5, 0, none⟩) (j + 1) c5) w7 ∧
            (Builtin.append_ #[35, 35] 35 #[v6, .slice (some ⟨w7.heap.size, 0, none⟩) 1 1]).run Try.prog (w7.alloc (.cells #[.int .i64 (p : Nat)] 3)) = .ok (.slice (some ⟨g6, 0, none⟩) (j + 1) c6) w8 ∧
            BkR w w1.heap.size (j + 1) (.slice (some ⟨g5, 0, none⟩) (j + 1) c5) (.slice (some ⟨g6, 0, none⟩) (j + 1) c6) w8) := Lib.hid (fun x' c' w4 wq o4 k1 k2 => by
        have k3 := Below.step k1 k2 (Nat.le_refl _)
        have k4 : Below w2.heap.size w2 wq := Below.step b23 k3 (Nat.le_refl _)
        refine BkR.next H1.out H4.out hj8 H5.out H6.out HLE.out q1 (by omega) q3 q4 hrt (Below.step b13 k3 (Nat.le_refl _)) ?_ ((SlIn.keep (fun b h => k4.block b h.2) s2).weak (fun b h => ⟨h.1, Nat.lt_of_lt_of_le h.2 k4.size⟩))
        obtain ⟨a, cap, hv, hin⟩ := o4.cases
        injection hv with e1 _ e2
        subst e1 e2
        exact (hin.keep (fun b h => k2.block b h.2)).weak (fun b h => ⟨Nat.le_trans b13.size h.1, Nat.lt_of_lt_of_le h.2 k2.size⟩))
      have HP : Hid (Calls Try.prog 12 #[.agg #[.slice x ns.length c], .agg #[.int .i64 k, .int .i64 n, .slice y F.len d]] (w2.alloc (.cells #[.int .i64 k, .int .i64 n, .slice y F.len d] 30)) (fun e w' => ∃ x' c', e = .returned (.tuple #[.agg #[.slice x' (ns ++ ex).length c'], .int .i64 (p : Nat), .int .i64 0]) ∧ NOwn w' (w2.alloc (.cells #[.int .i64 k, .int .i64 n, .slice y F.len d] 30)).heap.size (.slice x' (ns ++ ex).length c') (ns ++ ex) ∧ Below (w2.alloc (.cells #[.int .i64 k, .int .i64 n, .slice y F.len d] 30)).heap.size (w2.alloc (.cells #[.int .i64 k, .int .i64 n, .slice y F.len d] 30)) w')) := Lib.hid hP
      have HUX := Lib.hid (heap_new w2 (.cells #[.int .i64 k, .int .i64 n, .slice y F.len d] 30))
      have ua := (b13.block _ (lt_of_block H1.out.1)).trans H1.out.1
      have HUA := Lib.hid ua
      have B13 := Lib.hid b13
      have qa := cell_at ua 0
      generalize ns ++ ex = M at HNEXT HP HPRE hnl hR3 q2
      have B12 := Lib.hid b2
      clear hpv q1 q3 q4 hP b13 b23 b2 s2 hok hrt ua
      simp at qa
      go_wp2_with fail
      refine HP.out.mono ?_
      rintro e w4 ⟨x', c', rfl, o4, b4⟩
      have O4 := Lib.hid o4
      have B4 := Lib.hid b4
      have b45 : Below w4.heap.size w4 (w4.alloc (.cells #[.slice x' M.length c'] 26)) := (Below.refl _ _).alloc (Nat.le_refl _) _
      have b35 := Below.step b4 b45 (Nat.le_refl _)
      have ua5 := (b35.block _ (lt_of_block HUA.out)).trans HUA.out
      have HUA5 := Lib.hid ua5
      have HUX5 := Lib.hid ((b35.block _ (lt_of_block HUX.out)).trans HUX.out)
      have HUB5 := Lib.hid (heap_new w4 (.cells #[.slice x' M.length c'] 26))
      have B45 := Lib.hid b45
      have HRG := Lib.hid (aRight_any M x' c' (w4.alloc (.cells #[.slice x' M.length c'] 26)).heap.size (w4.alloc (.cells #[.slice x' M.length c'] 26)) ((o4.later _ b45).mono b45.size) (Nat.le_refl _))
      rw [hR3] at HRG
      have qa5 := cell_at ua5 0
      have hnl' : ¬ (M.length : Int) < (ns.length : Int) := by omega
      have dnl : decide ((M.length : Int) < (ns.length : Int)) = false := decide_eq_false hnl'
      have dnn : decide (M.length < ns.length) = false := decide_eq_false (by omega)
      have HNL := Lib.hid hnl
      clear o4 b4 b45 b35 ua5 qa hnl q2
      simp at qa5
      go_wp2_with fail
      refine HRG.out.mono ?_
      rintro e w6 ⟨rfl, b6⟩
      have HUA6 := Lib.hid ((b6.block _ (lt_of_block HUA5.out)).trans HUA5.out)
      have HUX6 := Lib.hid ((b6.block _ (lt_of_block HUX5.out)).trans HUX5.out)
      have HUB6 := Lib.hid ((b6.block _ (lt_of_block HUB5.out)).trans HUB5.out)
      have B46 := Lib.hid (Below.step B45.out b6 (Nat.le_refl _))
      have HNS : Hid (NsIn w6 (· < w6.heap.size) ns x c) := Lib.hid (by
        have k1 : Below wr.heap.size wr w6 := Below.step B13.out (Below.step B4.out B46.out (Nat.le_refl _)) (Nat.le_refl _)
        exact (H1.out.2.1.keep (fun b h => k1.block b h.2.1)).weak (fun b h => Nat.lt_of_lt_of_le h.2.1 k1.size))
      have HMS : Hid (NsIn w6 (· < w6.heap.size) M x' c') := Lib.hid ((O4.out.later _ B46.out).mono B46.out.size)
      have HNE : Hid (w2.heap.size ≠ w1.heap.size) := Lib.hid (by
        have k1 := lt_of_block H1.out.1
        have k2 := B12.out.size
        omega)
      have HLN := Lib.hid HMS.out.len
      have hMl := HLN.out
      clear b6 qa5 dnl dnn hnl' HRG HUA5 HUX5 HUB5 B45 HP HUX HUA HM
      go_wp2_with fail
      go_loopw [12] (fun qv wq => ∃ q : Nat, qv = .int .i64 q ∧ q ≤ ns.length ∧ Hid (Below w6.heap.size w6 wq)) (fun qv _ => ns.length - (intOf qv).toNat)
      case atStart => exact ⟨0, rfl, Nat.zero_le _, Lib.hid (Below.refl _ _)⟩
      case round =>
        obtain ⟨q, rfl, hq, hQ⟩ := hrel
        have ua := (hQ.out.block _ (lt_of_block HUA6.out)).trans HUA6.out
        have ub := (hQ.out.block _ (lt_of_block HUB6.out)).trans HUB6.out
        by_cases hql : q < ns.length
        · have hql' : (q : Int) < (ns.length : Int) := by omega
          have hq0 : (0 : Int) ≤ (q : Int) := by omega
          have hqm : (q : Int) < (M.length : Int) := by have := HNL.out; omega
          have hqmn : q < M.length := by omega
          obtain ⟨bb, o, rfl, hbB, hat⟩ := HNS.out.at hql
          obtain ⟨b', o', rfl, hbB', hat'⟩ := HMS.out.at hqmn
          obtain ⟨⟨zk, zn, za, zb⟩, hy⟩ : ∃ z, ns[q]? = some z := ⟨_, List.getElem?_eq_getElem hql⟩
          obtain ⟨e0, e1, e2, e3⟩ := (hat.keep (hQ.out.block bb hbB)) q ⟨zk, zn, za, zb⟩ hy
          obtain ⟨f0, f1, f2, f3⟩ := (hat'.keep (hQ.out.block b' hbB')) q ⟨zk, zn, za, zb⟩ (HPRE.out q _ hy)
          have heq := neq_same zk zn za zb
          have c0 := cell_at ua 0
          have c1 := cell_at ub 0
          have HN : Hid (∀ m, Below w6.heap.size w6 (wr.drewN m)) := Lib.hid (fun m => Below.draws hQ.out m)
          clear hy hat hat' ua ub
          simp at c0 c1
          go_wp2_with fail
          go_quiet (fail)
          go_wp2_with fail
          go_roundw
          case rel => exact ⟨q + 1, by go_num, by omega, HN.out _⟩
          case measure => simp [intOf]; omega
        · have hql' : ¬ (q : Int) < (ns.length : Int) := by omega
          obtain ⟨g5, c5, w7, g6, c6, w8, r1, r2, hN⟩ := HNEXT.out x' c' w4 wr O4.out B4.out (Below.step B46.out hQ.out (Nat.le_refl _))
          have R1 := Lib.hid r1
          have R2 := Lib.hid r2
          have HN := Lib.hid hN
          have hne := HNE.out
          have ux := (hQ.out.block _ (lt_of_block HUX6.out)).trans HUX6.out
          have ux' := (Below.heap_setCell wr ⟨w1.heap.size, 0, none⟩ (.slice x' M.length c') _ hne).trans ux
          have c0 := cell_at ua 0
          have c1 := cell_at ub 0
          have cz := free_of ua
          have x0 := cell_at ux' 0
          have x1 := cell_at ux' 1
          have x2 := cell_at ux' 2
          simp at c0 c1 x0 x1 x2
          clear ua ub ux ux' hne r1 r2 hN HNEXT
          go_upto_region 21 with (at_builtin; refine wpList_append_run (by rfl) _ _ _ (by rfl) (by rfl) (by rfl) R1.out ?_)
          go_wp2_with (at_builtin; refine wpList_append_run (by rfl) _ _ _ (by rfl) (by rfl) (by rfl) R2.out ?_)
          go_roundw
          case rel => exact ⟨j + 1, _, _, rfl, rfl, by go_num, by omega, by omega, HN⟩
          case measure => simp [intOf]; omega
    · obtain ⟨x5, c5, x6, c6, rfl, rfl, hE⟩ := hR.out.fin hj8
      obtain ⟨W0, rfl⟩ : ∃ W0, W0 = wr := ⟨_, rfl⟩
      obtain ⟨ns, x, c, G, ps, h1, h2, h3, h4, h5, h6, h7, h8, h9⟩ := hE
      have H1 := Lib.hid h1
      have H2 := Lib.hid h2
      have H3 := Lib.hid h3
      have HPL := Lib.hid h4
      have H5 := Lib.hid h5
      have H6 := Lib.hid h6
      have H7 := Lib.hid h7
      have H8 := Lib.hid h8
      have HW0 := Lib.hid h9
      clear h1 h2 h3 h4 h5 h6 h7 h8 h9 hR HST
      have hcs : (j < l1 ∧ ¬ j < 8) ∨ ¬ j < l1 := by omega
      rcases hcs with ⟨k1, k2⟩ | k1
      · have k1' : (j : Int) < (l1 : Int) := by omega
        have k2' : ¬ (j : Int) < 8 := by omega
        have d2 : decide ((j : Int) < 8) = false := by simpa using k2'
        clear hlt
        go_wp2_with fail
        go_loopw [13] (fun iv wq => ∃ i : Nat, iv = .int .i64 i ∧ i ≤ j ∧ Hid (Below W0.heap.size W0 wq)) (fun iv _ => j - (intOf iv).toNat)
        case atStart => exact ⟨0, rfl, Nat.zero_le _, Lib.hid (Below.refl _ _)⟩
        case round =>
          obtain ⟨i, rfl, hi, hQ⟩ := hrel
          by_cases hij : i < j
          · have hij' : (i : Int) < (j : Int) := by omega
            have hi0 : (0 : Int) ≤ (i : Int) := by omega
            obtain ⟨H, k, n, F, r, hG, hH, p1, p2, p3⟩ := H8.out.at (i := i) (by rw [H7.out]; exact hij)
            obtain ⟨g6, rfl, hg6, hc6⟩ := HPL.out i hij
            have cp := (bcell hQ.out g6 i hg6).trans hc6
            have ua := (hQ.out.block _ (lt_of_block H1.out)).trans H1.out
            have ca := cell_at ua 0
            have cpA := (World.cell?_of_block (w := wr) (a := ⟨g6, i, none⟩) (heap_old wr (.cells #[.int .i64 0, .int .i64 0, .slice none 0 0] 30) (Nat.lt_of_lt_of_le hg6 hQ.out.size))).trans cp
            have caA := (World.cell?_of_block (w := wr) (a := ⟨w1.heap.size, 0, none⟩) (heap_old wr (.cells #[.int .i64 0, .int .i64 0, .slice none 0 0] 30) (lt_of_block ua))).trans ca
            have hGE := get_right H5.out H6.out p1 p2 p3
            have hTR := p2
            generalize ps.getD i 0 = p at hGE p1 p2 hTR cp cpA hc6
            have HGT : Hid (∀ W, Below W0.heap.size W0 W → Calls Try.prog 14 #[.agg #[.slice x ns.length c], .int .i64 (p : Nat)] W fun e w' => ∃ x' c', e = .returned (.tuple #[.agg #[.int .i64 k, .int .i64 n, .slice x' F.len c'], .int .i64 0]) ∧ SlIn w' (fun b => W.heap.size ≤ b ∧ b < w'.heap.size) F x' c' ∧ Below W.heap.size W w') := Lib.hid (fun W h => by
              refine (aGet_any ns x c (p : Nat) W0.heap.size W (H2.out.below h) h.size).mono ?_
              rintro e w' ⟨k', n', F', x', c', rfl, hT, s', b'⟩
              rw [hGE, Int.toNat_natCast, if_pos rfl, hTR] at hT
              injection hT with t1 t2 t3
              subst t1 t2 t3
              exact ⟨x', c', by rw [hGE], s', b'⟩)
            obtain ⟨b5, o5, rfl, hb5, hf⟩ := H3.out.some (by rw [H7.out]; omega)
            rw [hG] at hf
            have hf1 := FoIn.skip H hf
            rw [hH] at hf1
            obtain ⟨f0, f1, ⟨a5, d5, f2, s5⟩, _⟩ := hf1.first
            have F0 := Lib.hid f0
            have F1 := Lib.hid f1
            have F2 := Lib.hid f2
            have S5 := Lib.hid s5
            have HPI := Lib.hid hc6
            have HTR := Lib.hid hTR
            have HP1 := Lib.hid p1
            clear hf hf1 f0 f1 f2 s5 hG hH hGE p1 p2 p3 hc6 ua hTR
            simp at ca caA
            go_upto_region 25 with fail
            go_cut [14, 15] from 85 to 134 (fun s14 s15 wx => ∃ (X : Nat) (x' : Option Addr) (c' : Nat), s14 = .pointer (some ⟨X, 0, none⟩) ∧ s15 = .int .i64 0 ∧ Hid (Bx W0 X k n F x' c' wx))
            case first =>
              go_region_law (go_simp; go_at_call 14; refine (HGT.out _ (by first | exact hQ.out.drew | exact hQ.out.drew.alloc hQ.out.size _ | exact (hQ.out.alloc hQ.out.size _).drew)).mono ?_; rintro e w2 ⟨x', c', rfl, s2, b2⟩; try (have xz : w2.heap[wr.heap.size]? = some (.cells #[.int .i64 0, .int .i64 0, .slice none 0 0] 30 (0, 0)) := (b2.block wr.heap.size (by simp)).trans (heap_new wr _); have y0 := cell_at xz 0; have y1 := cell_at xz 1; have y2 := cell_at xz 2; have yz := free_of xz; simp at y0 y1 y2))
              all_goals go_wp2_with fail
              all_goals go_meet
              all_goals first
                | exact ⟨_, _, _, rfl, rfl, Lib.hid (bx_late hQ.out ((Below.refl _ _).drew.trans b2) s2)⟩
                | exact ⟨_, _, _, rfl, rfl, Lib.hid (bx_early hQ.out (by simpa using ((Below.refl _ _).drew.trans b2)) (by simpa using s2))⟩
            case rest =>
              obtain ⟨X, x', c', rfl, rfl, hX⟩ := hcut
              have HSS : Hid (∀ W, Below wc.heap.size wc W → Hid (Below wc.heap.size wc W) ∧ W.cell? ⟨X, 0, none⟩ = some (.int .i64 k) ∧ W.cell? ⟨X, 1, none⟩ = some (.int .i64 n) ∧ W.cell? ⟨X, 2, none⟩ = some (.slice x' F.len c') ∧ W.cell? ⟨b5, o5 + i * 3, none⟩ = some (.int .i64 k) ∧ W.cell? ⟨b5, o5 + i * 3 + 1, none⟩ = some (.int .i64 n) ∧ W.cell? ⟨b5, o5 + i * 3 + 2, none⟩ = some (.slice a5 F.len d5)) := Lib.hid (fun W h => by
                have hx := (h.block _ (lt_of_block hX.out.1)).trans hX.out.1
                have h0 : Below W0.heap.size W0 W := Below.step hX.out.2.2 h (Nat.le_refl _)
                exact ⟨Lib.hid h, cell_at hx 0, cell_at hx 1, cell_at hx 2, (bcell h0 _ _ hb5).trans F0.out, (bcell h0 _ _ hb5).trans F1.out, (bcell h0 _ _ hb5).trans F2.out⟩)
              have HCS : Hid (∀ W, Below wc.heap.size wc W → Calls Try.prog 15 #[.agg #[.int .i64 k, .int .i64 n, .slice x' F.len c'], .agg #[.int .i64 k, .int .i64 n, .slice a5 F.len d5]] W fun e w' => e = .returned (.bool true) ∧ Below W.heap.size W w') := Lib.hid (fun W h => by
                have h0 : Below W0.heap.size W0 W := Below.step hX.out.2.2 h (Nat.le_refl _)
                exact rSame_true F k n x' a5 c' d5 wc.heap.size W (hX.out.2.1.below h) ((S5.out.below h0).mono hX.out.2.2.size) h.size)
              have HWC := Lib.hid hX.out.2.2
              obtain ⟨_, z1, z2, z3, z4, z5, z6⟩ := HSS.out _ (Below.refl _ _)
              clear hX cp cpA ca caA HGT hQ
              go_wp2_with fail
              go_region_held3 (fun w' => Hid (Below wc.heap.size wc w') ∧ w'.cell? ⟨X, 0, none⟩ = some (.int .i64 k) ∧ w'.cell? ⟨X, 1, none⟩ = some (.int .i64 n) ∧ w'.cell? ⟨X, 2, none⟩ = some (.slice x' F.len c') ∧ w'.cell? ⟨b5, o5 + i * 3, none⟩ = some (.int .i64 k) ∧ w'.cell? ⟨b5, o5 + i * 3 + 1, none⟩ = some (.int .i64 n) ∧ w'.cell? ⟨b5, o5 + i * 3 + 2, none⟩ = some (.slice a5 F.len d5))
                (first | exact HSS.out _ (Below.refl _ _).drew | (go_split_ands; exact HSS.out _ (Below.step (Hid.out (by assumption)) hbN (Nat.le_refl _))))
                (first | (go_at_call 15; go_split_ands; refine (HCS.out _ (Hid.out (by assumption))).mono ?_; rintro e wN ⟨rfl, hbN⟩))
              all_goals go_split_ands
              have HBN : Hid (Below W0.heap.size W0 wN) := Lib.hid (Below.step HWC.out (Hid.out (by assumption : Hid (Below wc.heap.size wc wN))) (Nat.le_refl _))
              clear HSS HCS z1 z2 z3 z4 z5 z6
              go_wp2_with fail
              go_loopw [16] (fun qv wq => ∃ q : Nat, qv = .int .i64 q ∧ q ≤ i ∧ Hid (Below W0.heap.size W0 wq)) (fun qv _ => i - (intOf qv).toNat)
              case atStart => exact ⟨0, rfl, Nat.zero_le _, HBN⟩
              case round =>
                obtain ⟨q, rfl, hq, hQ4⟩ := hrel
                by_cases hqi : q < i
                · have hqi' : (q : Int) < (i : Int) := by omega
                  have hqj' : (q : Int) < (j : Int) := by omega
                  have hq0 : (0 : Int) ≤ (q : Int) := by omega
                  obtain ⟨H', k', n', F', r', hG', hH', p1', p2', _⟩ := H8.out.at (i := q) (by rw [H7.out]; omega)
                  obtain ⟨g6', e6, _, hc6'⟩ := HPL.out q (by omega)
                  have HF := Lib.hid (H3.out.foIn)
                  generalize ps.getD q 0 = p' at p1' p2' hc6'
                  have hf := HF.out
                  rw [hG'] at hf
                  have hf1 := FoIn.skip H' hf
                  rw [hH'] at hf1
                  obtain ⟨f0, f1, ⟨a4, d4, f2, s4⟩, _⟩ := hf1.first
                  have HIFF : Hid (decide (k' = k ∧ n' = n ∧ F' = F) = decide (p' = p)) := Lib.hid (by
                    rw [decide_eq_decide]
                    refine ⟨fun ⟨t1, t2, t3⟩ => ?_, fun t => ?_⟩
                    · subst t1 t2 t3
                      exact tr_inj H5.out (p' + 1) p' p (Nat.lt_succ_self _) p1' HP1.out (p2'.trans HTR.out.symm)
                    · rw [t, HTR.out] at p2'
                      injection p2' with t1 t2 t3
                      exact ⟨t1.symm, t2.symm, t3.symm⟩)
                  have hcs := fun (W : World) (h : Below W0.heap.size W0 W) => rSame_any (F'.size + 1) F' F (Nat.lt_succ_self _) k' n' k n a4 a5 d4 d5 W0.heap.size W (s4.below h) (S5.out.below h) h.size
                  rw [HIFF.out] at hcs
                  cases e6
                  have HSS : Hid (∀ W, Below W0.heap.size W0 W → Hid (Below W0.heap.size W0 W) ∧ W.cell? ⟨g6, q, none⟩ = some (.int .i64 (p' : Nat)) ∧ W.cell? ⟨g6, i, none⟩ = some (.int .i64 (p : Nat)) ∧ W.cell? ⟨b5, o5 + q * 3, none⟩ = some (.int .i64 k') ∧ W.cell? ⟨b5, o5 + q * 3 + 1, none⟩ = some (.int .i64 n') ∧ W.cell? ⟨b5, o5 + q * 3 + 2, none⟩ = some (.slice a4 F'.len d4) ∧ W.cell? ⟨b5, o5 + i * 3, none⟩ = some (.int .i64 k) ∧ W.cell? ⟨b5, o5 + i * 3 + 1, none⟩ = some (.int .i64 n) ∧ W.cell? ⟨b5, o5 + i * 3 + 2, none⟩ = some (.slice a5 F.len d5)) := Lib.hid (fun W h =>
                    ⟨Lib.hid h, (bcell h _ _ hg6).trans hc6', (bcell h _ _ hg6).trans HPI.out, (bcell h _ _ hb5).trans f0, (bcell h _ _ hb5).trans f1, (bcell h _ _ hb5).trans f2, (bcell h _ _ hb5).trans F0.out, (bcell h _ _ hb5).trans F1.out, (bcell h _ _ hb5).trans F2.out⟩)
                  obtain ⟨_, z1, z2, z3, z4, z5, z6, z7, z8⟩ := HSS.out _ hQ4.out
                  have HCS := Lib.hid hcs
                  clear hcs hf hf1 f0 f1 f2 s4 hG' hH' hc6' p2' HF
                  rcases (by omega : p' = p ∨ p' ≠ p) with hpp | hpp
                  · have dpp : decide (p' = p) = true := decide_eq_true hpp
                    have HC4 : Hid (∀ W, Below W0.heap.size W0 W → Calls Try.prog 15 #[.agg #[.int .i64 k', .int .i64 n', .slice a4 F'.len d4], .agg #[.int .i64 k, .int .i64 n, .slice a5 F.len d5]] W fun e w' => e = .returned (.bool true) ∧ Below W.heap.size W w') := Lib.hid (fun W h => by
                      have := HCS.out W h
                      rwa [dpp] at this)
                    subst hpp
                    clear HCS dpp p1'
                    go_wp2_with fail
                    go_region_held3 (fun w' => Hid (Below W0.heap.size W0 w') ∧ w'.cell? ⟨g6, q, none⟩ = some (.int .i64 (p' : Nat)) ∧ w'.cell? ⟨g6, i, none⟩ = some (.int .i64 (p' : Nat)) ∧ w'.cell? ⟨b5, o5 + q * 3, none⟩ = some (.int .i64 k') ∧ w'.cell? ⟨b5, o5 + q * 3 + 1, none⟩ = some (.int .i64 n') ∧ w'.cell? ⟨b5, o5 + q * 3 + 2, none⟩ = some (.slice a4 F'.len d4) ∧ w'.cell? ⟨b5, o5 + i * 3, none⟩ = some (.int .i64 k) ∧ w'.cell? ⟨b5, o5 + i * 3 + 1, none⟩ = some (.int .i64 n) ∧ w'.cell? ⟨b5, o5 + i * 3 + 2, none⟩ = some (.slice a5 F.len d5))
                      (first | exact HSS.out _ hQ4.out.drew | (go_split_ands; exact HSS.out _ (Below.step (Hid.out (by assumption)) hbN (Nat.le_refl _))))
                      (first | (go_at_call 15; go_split_ands; refine (HC4.out _ (Hid.out (by assumption))).mono ?_; rintro e wN ⟨rfl, hbN⟩))
                    all_goals go_split_ands
                    have HBQ : Hid (Below W0.heap.size W0 wN) := by assumption
                    clear HSS HC4 z1 z2 z3 z4 z5 z6 z7 z8
                    go_wp2_with fail
                    go_roundw
                    case rel => exact ⟨q + 1, by go_num, by omega, HBQ⟩
                    case measure => simp [intOf]; omega
                  · have dpp : decide (p' = p) = false := decide_eq_false hpp
                    have HC4 : Hid (∀ W, Below W0.heap.size W0 W → Calls Try.prog 15 #[.agg #[.int .i64 k', .int .i64 n', .slice a4 F'.len d4], .agg #[.int .i64 k, .int .i64 n, .slice a5 F.len d5]] W fun e w' => e = .returned (.bool false) ∧ Below W.heap.size W w') := Lib.hid (fun W h => by
                      have := HCS.out W h
                      rwa [dpp] at this)
                    have e1 : ((p' : Int) == (p : Int)) = false := by simp; omega
                    have e2 : decide ((p' : Int) = (p : Int)) = false := by simp; omega
                    clear HCS p1'
                    go_wp2_with fail
                    go_region_held3 (fun w' => Hid (Below W0.heap.size W0 w') ∧ w'.cell? ⟨g6, q, none⟩ = some (.int .i64 (p' : Nat)) ∧ w'.cell? ⟨g6, i, none⟩ = some (.int .i64 (p : Nat)) ∧ w'.cell? ⟨b5, o5 + q * 3, none⟩ = some (.int .i64 k') ∧ w'.cell? ⟨b5, o5 + q * 3 + 1, none⟩ = some (.int .i64 n') ∧ w'.cell? ⟨b5, o5 + q * 3 + 2, none⟩ = some (.slice a4 F'.len d4) ∧ w'.cell? ⟨b5, o5 + i * 3, none⟩ = some (.int .i64 k) ∧ w'.cell? ⟨b5, o5 + i * 3 + 1, none⟩ = some (.int .i64 n) ∧ w'.cell? ⟨b5, o5 + i * 3 + 2, none⟩ = some (.slice a5 F.len d5))
                      (first | exact HSS.out _ hQ4.out.drew | (go_split_ands; exact HSS.out _ (Below.step (Hid.out (by assumption)) hbN (Nat.le_refl _))))
                      (first | (go_at_call 15; go_split_ands; refine (HC4.out _ (Hid.out (by assumption))).mono ?_; rintro e wN ⟨rfl, hbN⟩))
                    all_goals go_split_ands
                    have HBQ : Hid (Below W0.heap.size W0 wN) := by assumption
                    clear HSS HC4 z1 z2 z3 z4 z5 z6 z7 z8
                    go_wp2_with fail
                    go_roundw
                    case rel => exact ⟨q + 1, by go_num, by omega, HBQ⟩
                    case measure => simp [intOf]; omega
                · have hqi' : ¬ (q : Int) < (i : Int) := by omega
                  go_wp2_with fail
                  go_roundw
                  case rel => exact ⟨i + 1, by go_num, by omega, hQ4⟩
                  case measure => simp [intOf]; omega
          · have hij' : ¬ (i : Int) < (j : Int) := by omega
            have HE := Lib.hid (Below.step HW0.out hQ.out (Nat.le_refl _))
            go_wp2_with fail
            go_ret
            exact ⟨rfl, HE.out⟩
      · have k1' : ¬ (j : Int) < (l1 : Int) := by omega
        have d2 : decide (j < l1) = false := by simpa using k1
        clear hlt
        go_wp2_with fail
        go_loopw [13] (fun iv wq => ∃ i : Nat, iv = .int .i64 i ∧ i ≤ j ∧ Hid (Below W0.heap.size W0 wq)) (fun iv _ => j - (intOf iv).toNat)
        case atStart => exact ⟨0, rfl, Nat.zero_le _, Lib.hid (Below.refl _ _)⟩
        case round =>
          obtain ⟨i, rfl, hi, hQ⟩ := hrel
          by_cases hij : i < j
          · have hij' : (i : Int) < (j : Int) := by omega
            have hi0 : (0 : Int) ≤ (i : Int) := by omega
            obtain ⟨H, k, n, F, r, hG, hH, p1, p2, p3⟩ := H8.out.at (i := i) (by rw [H7.out]; exact hij)
            obtain ⟨g6, rfl, hg6, hc6⟩ := HPL.out i hij
            have cp := (bcell hQ.out g6 i hg6).trans hc6
            have ua := (hQ.out.block _ (lt_of_block H1.out)).trans H1.out
            have ca := cell_at ua 0
            have cpA := (World.cell?_of_block (w := wr) (a := ⟨g6, i, none⟩) (heap_old wr (.cells #[.int .i64 0, .int .i64 0, .slice none 0 0] 30) (Nat.lt_of_lt_of_le hg6 hQ.out.size))).trans cp
            have caA := (World.cell?_of_block (w := wr) (a := ⟨w1.heap.size, 0, none⟩) (heap_old wr (.cells #[.int .i64 0, .int .i64 0, .slice none 0 0] 30) (lt_of_block ua))).trans ca
            have hGE := get_right H5.out H6.out p1 p2 p3
            have hTR := p2
            generalize ps.getD i 0 = p at hGE p1 p2 hTR cp cpA hc6
            have HGT : Hid (∀ W, Below W0.heap.size W0 W → Calls Try.prog 14 #[.agg #[.slice x ns.length c], .int .i64 (p : Nat)] W fun e w' => ∃ x' c', e = .returned (.tuple #[.agg #[.int .i64 k, .int .i64 n, .slice x' F.len c'], .int .i64 0]) ∧ SlIn w' (fun b => W.heap.size ≤ b ∧ b < w'.heap.size) F x' c' ∧ Below W.heap.size W w') := Lib.hid (fun W h => by
              refine (aGet_any ns x c (p : Nat) W0.heap.size W (H2.out.below h) h.size).mono ?_
              rintro e w' ⟨k', n', F', x', c', rfl, hT, s', b'⟩
              rw [hGE, Int.toNat_natCast, if_pos rfl, hTR] at hT
              injection hT with t1 t2 t3
              subst t1 t2 t3
              exact ⟨x', c', by rw [hGE], s', b'⟩)
            obtain ⟨b5, o5, rfl, hb5, hf⟩ := H3.out.some (by rw [H7.out]; omega)
            rw [hG] at hf
            have hf1 := FoIn.skip H hf
            rw [hH] at hf1
            obtain ⟨f0, f1, ⟨a5, d5, f2, s5⟩, _⟩ := hf1.first
            have F0 := Lib.hid f0
            have F1 := Lib.hid f1
            have F2 := Lib.hid f2
            have S5 := Lib.hid s5
            have HPI := Lib.hid hc6
            have HTR := Lib.hid hTR
            have HP1 := Lib.hid p1
            clear hf hf1 f0 f1 f2 s5 hG hH hGE p1 p2 p3 hc6 ua hTR
            simp at ca caA
            go_upto_region 25 with fail
            go_cut [14, 15] from 85 to 134 (fun s14 s15 wx => ∃ (X : Nat) (x' : Option Addr) (c' : Nat), s14 = .pointer (some ⟨X, 0, none⟩) ∧ s15 = .int .i64 0 ∧ Hid (Bx W0 X k n F x' c' wx))
            case first =>
              go_region_law (go_simp; go_at_call 14; refine (HGT.out _ (by first | exact hQ.out.drew | exact hQ.out.drew.alloc hQ.out.size _ | exact (hQ.out.alloc hQ.out.size _).drew)).mono ?_; rintro e w2 ⟨x', c', rfl, s2, b2⟩; try (have xz : w2.heap[wr.heap.size]? = some (.cells #[.int .i64 0, .int .i64 0, .slice none 0 0] 30 (0, 0)) := (b2.block wr.heap.size (by simp)).trans (heap_new wr _); have y0 := cell_at xz 0; have y1 := cell_at xz 1; have y2 := cell_at xz 2; have yz := free_of xz; simp at y0 y1 y2))
              all_goals go_wp2_with fail
              all_goals go_meet
              all_goals first
                | exact ⟨_, _, _, rfl, rfl, Lib.hid (bx_late hQ.out ((Below.refl _ _).drew.trans b2) s2)⟩
                | exact ⟨_, _, _, rfl, rfl, Lib.hid (bx_early hQ.out (by simpa using ((Below.refl _ _).drew.trans b2)) (by simpa using s2))⟩
            case rest =>
              obtain ⟨X, x', c', rfl, rfl, hX⟩ := hcut
              have HSS : Hid (∀ W, Below wc.heap.size wc W → Hid (Below wc.heap.size wc W) ∧ W.cell? ⟨X, 0, none⟩ = some (.int .i64 k) ∧ W.cell? ⟨X, 1, none⟩ = some (.int .i64 n) ∧ W.cell? ⟨X, 2, none⟩ = some (.slice x' F.len c') ∧ W.cell? ⟨b5, o5 + i * 3, none⟩ = some (.int .i64 k) ∧ W.cell? ⟨b5, o5 + i * 3 + 1, none⟩ = some (.int .i64 n) ∧ W.cell? ⟨b5, o5 + i * 3 + 2, none⟩ = some (.slice a5 F.len d5)) := Lib.hid (fun W h => by
                have hx := (h.block _ (lt_of_block hX.out.1)).trans hX.out.1
                have h0 : Below W0.heap.size W0 W := Below.step hX.out.2.2 h (Nat.le_refl _)
                exact ⟨Lib.hid h, cell_at hx 0, cell_at hx 1, cell_at hx 2, (bcell h0 _ _ hb5).trans F0.out, (bcell h0 _ _ hb5).trans F1.out, (bcell h0 _ _ hb5).trans F2.out⟩)
              have HCS : Hid (∀ W, Below wc.heap.size wc W → Calls Try.prog 15 #[.agg #[.int .i64 k, .int .i64 n, .slice x' F.len c'], .agg #[.int .i64 k, .int .i64 n, .slice a5 F.len d5]] W fun e w' => e = .returned (.bool true) ∧ Below W.heap.size W w') := Lib.hid (fun W h => by
                have h0 : Below W0.heap.size W0 W := Below.step hX.out.2.2 h (Nat.le_refl _)
                exact rSame_true F k n x' a5 c' d5 wc.heap.size W (hX.out.2.1.below h) ((S5.out.below h0).mono hX.out.2.2.size) h.size)
              have HWC := Lib.hid hX.out.2.2
              obtain ⟨_, z1, z2, z3, z4, z5, z6⟩ := HSS.out _ (Below.refl _ _)
              clear hX cp cpA ca caA HGT hQ
              go_wp2_with fail
              go_region_held3 (fun w' => Hid (Below wc.heap.size wc w') ∧ w'.cell? ⟨X, 0, none⟩ = some (.int .i64 k) ∧ w'.cell? ⟨X, 1, none⟩ = some (.int .i64 n) ∧ w'.cell? ⟨X, 2, none⟩ = some (.slice x' F.len c') ∧ w'.cell? ⟨b5, o5 + i * 3, none⟩ = some (.int .i64 k) ∧ w'.cell? ⟨b5, o5 + i * 3 + 1, none⟩ = some (.int .i64 n) ∧ w'.cell? ⟨b5, o5 + i * 3 + 2, none⟩ = some (.slice a5 F.len d5))
                (first | exact HSS.out _ (Below.refl _ _).drew | (go_split_ands; exact HSS.out _ (Below.step (Hid.out (by assumption)) hbN (Nat.le_refl _))))
                (first | (go_at_call 15; go_split_ands; refine (HCS.out _ (Hid.out (by assumption))).mono ?_; rintro e wN ⟨rfl, hbN⟩))
              all_goals go_split_ands
              have HBN : Hid (Below W0.heap.size W0 wN) := Lib.hid (Below.step HWC.out (Hid.out (by assumption : Hid (Below wc.heap.size wc wN))) (Nat.le_refl _))
              clear HSS HCS z1 z2 z3 z4 z5 z6
              go_wp2_with fail
              go_loopw [16] (fun qv wq => ∃ q : Nat, qv = .int .i64 q ∧ q ≤ i ∧ Hid (Below W0.heap.size W0 wq)) (fun qv _ => i - (intOf qv).toNat)
              case atStart => exact ⟨0, rfl, Nat.zero_le _, HBN⟩
              case round =>
                obtain ⟨q, rfl, hq, hQ4⟩ := hrel
                by_cases hqi : q < i
                · have hqi' : (q : Int) < (i : Int) := by omega
                  have hqj' : (q : Int) < (j : Int) := by omega
                  have hq0 : (0 : Int) ≤ (q : Int) := by omega
                  obtain ⟨H', k', n', F', r', hG', hH', p1', p2', _⟩ := H8.out.at (i := q) (by rw [H7.out]; omega)
                  obtain ⟨g6', e6, _, hc6'⟩ := HPL.out q (by omega)
                  have HF := Lib.hid (H3.out.foIn)
                  generalize ps.getD q 0 = p' at p1' p2' hc6'
                  have hf := HF.out
                  rw [hG'] at hf
                  have hf1 := FoIn.skip H' hf
                  rw [hH'] at hf1
                  obtain ⟨f0, f1, ⟨a4, d4, f2, s4⟩, _⟩ := hf1.first
                  have HIFF : Hid (decide (k' = k ∧ n' = n ∧ F' = F) = decide (p' = p)) := Lib.hid (by
                    rw [decide_eq_decide]
                    refine ⟨fun ⟨t1, t2, t3⟩ => ?_, fun t => ?_⟩
                    · subst t1 t2 t3
                      exact tr_inj H5.out (p' + 1) p' p (Nat.lt_succ_self _) p1' HP1.out (p2'.trans HTR.out.symm)
                    · rw [t, HTR.out] at p2'
                      injection p2' with t1 t2 t3
                      exact ⟨t1.symm, t2.symm, t3.symm⟩)
                  have hcs := fun (W : World) (h : Below W0.heap.size W0 W) => rSame_any (F'.size + 1) F' F (Nat.lt_succ_self _) k' n' k n a4 a5 d4 d5 W0.heap.size W (s4.below h) (S5.out.below h) h.size
                  rw [HIFF.out] at hcs
                  cases e6
                  have HSS : Hid (∀ W, Below W0.heap.size W0 W → Hid (Below W0.heap.size W0 W) ∧ W.cell? ⟨g6, q, none⟩ = some (.int .i64 (p' : Nat)) ∧ W.cell? ⟨g6, i, none⟩ = some (.int .i64 (p : Nat)) ∧ W.cell? ⟨b5, o5 + q * 3, none⟩ = some (.int .i64 k') ∧ W.cell? ⟨b5, o5 + q * 3 + 1, none⟩ = some (.int .i64 n') ∧ W.cell? ⟨b5, o5 + q * 3 + 2, none⟩ = some (.slice a4 F'.len d4) ∧ W.cell? ⟨b5, o5 + i * 3, none⟩ = some (.int .i64 k) ∧ W.cell? ⟨b5, o5 + i * 3 + 1, none⟩ = some (.int .i64 n) ∧ W.cell? ⟨b5, o5 + i * 3 + 2, none⟩ = some (.slice a5 F.len d5)) := Lib.hid (fun W h =>
                    ⟨Lib.hid h, (bcell h _ _ hg6).trans hc6', (bcell h _ _ hg6).trans HPI.out, (bcell h _ _ hb5).trans f0, (bcell h _ _ hb5).trans f1, (bcell h _ _ hb5).trans f2, (bcell h _ _ hb5).trans F0.out, (bcell h _ _ hb5).trans F1.out, (bcell h _ _ hb5).trans F2.out⟩)
                  obtain ⟨_, z1, z2, z3, z4, z5, z6, z7, z8⟩ := HSS.out _ hQ4.out
                  have HCS := Lib.hid hcs
                  clear hcs hf hf1 f0 f1 f2 s4 hG' hH' hc6' p2' HF
                  rcases (by omega : p' = p ∨ p' ≠ p) with hpp | hpp
                  · have dpp : decide (p' = p) = true := decide_eq_true hpp
                    have HC4 : Hid (∀ W, Below W0.heap.size W0 W → Calls Try.prog 15 #[.agg #[.int .i64 k', .int .i64 n', .slice a4 F'.len d4], .agg #[.int .i64 k, .int .i64 n, .slice a5 F.len d5]] W fun e w' => e = .returned (.bool true) ∧ Below W.heap.size W w') := Lib.hid (fun W h => by
                      have := HCS.out W h
                      rwa [dpp] at this)
                    subst hpp
                    clear HCS dpp p1'
                    go_wp2_with fail
                    go_region_held3 (fun w' => Hid (Below W0.heap.size W0 w') ∧ w'.cell? ⟨g6, q, none⟩ = some (.int .i64 (p' : Nat)) ∧ w'.cell? ⟨g6, i, none⟩ = some (.int .i64 (p' : Nat)) ∧ w'.cell? ⟨b5, o5 + q * 3, none⟩ = some (.int .i64 k') ∧ w'.cell? ⟨b5, o5 + q * 3 + 1, none⟩ = some (.int .i64 n') ∧ w'.cell? ⟨b5, o5 + q * 3 + 2, none⟩ = some (.slice a4 F'.len d4) ∧ w'.cell? ⟨b5, o5 + i * 3, none⟩ = some (.int .i64 k) ∧ w'.cell? ⟨b5, o5 + i * 3 + 1, none⟩ = some (.int .i64 n) ∧ w'.cell? ⟨b5, o5 + i * 3 + 2, none⟩ = some (.slice a5 F.len d5))
                      (first | exact HSS.out _ hQ4.out.drew | (go_split_ands; exact HSS.out _ (Below.step (Hid.out (by assumption)) hbN (Nat.le_refl _))))
                      (first | (go_at_call 15; go_split_ands; refine (HC4.out _ (Hid.out (by assumption))).mono ?_; rintro e wN ⟨rfl, hbN⟩))
                    all_goals go_split_ands
                    have HBQ : Hid (Below W0.heap.size W0 wN) := by assumption
                    clear HSS HC4 z1 z2 z3 z4 z5 z6 z7 z8
                    go_wp2_with fail
                    go_roundw
                    case rel => exact ⟨q + 1, by go_num, by omega, HBQ⟩
                    case measure => simp [intOf]; omega
                  · have dpp : decide (p' = p) = false := decide_eq_false hpp
                    have HC4 : Hid (∀ W, Below W0.heap.size W0 W → Calls Try.prog 15 #[.agg #[.int .i64 k', .int .i64 n', .slice a4 F'.len d4], .agg #[.int .i64 k, .int .i64 n, .slice a5 F.len d5]] W fun e w' => e = .returned (.bool false) ∧ Below W.heap.size W w') := Lib.hid (fun W h => by
                      have := HCS.out W h
                      rwa [dpp] at this)
                    have e1 : ((p' : Int) == (p : Int)) = false := by simp; omega
                    have e2 : decide ((p' : Int) = (p : Int)) = false := by simp; omega
                    clear HCS p1'
                    go_wp2_with fail
                    go_region_held3 (fun w' => Hid (Below W0.heap.size W0 w') ∧ w'.cell? ⟨g6, q, none⟩ = some (.int .i64 (p' : Nat)) ∧ w'.cell? ⟨g6, i, none⟩ = some (.int .i64 (p : Nat)) ∧ w'.cell? ⟨b5, o5 + q * 3, none⟩ = some (.int .i64 k') ∧ w'.cell? ⟨b5, o5 + q * 3 + 1, none⟩ = some (.int .i64 n') ∧ w'.cell? ⟨b5, o5 + q * 3 + 2, none⟩ = some (.slice a4 F'.len d4) ∧ w'.cell? ⟨b5, o5 + i * 3, none⟩ = some (.int .i64 k) ∧ w'.cell? ⟨b5, o5 + i * 3 + 1, none⟩ = some (.int .i64 n) ∧ w'.cell? ⟨b5, o5 + i * 3 + 2, none⟩ = some (.slice a5 F.len d5))
                      (first | exact HSS.out _ hQ4.out.drew | (go_split_ands; exact HSS.out _ (Below.step (Hid.out (by assumption)) hbN (Nat.le_refl _))))
                      (first | (go_at_call 15; go_split_ands; refine (HC4.out _ (Hid.out (by assumption))).mono ?_; rintro e wN ⟨rfl, hbN⟩))
                    all_goals go_split_ands
                    have HBQ : Hid (Below W0.heap.size W0 wN) := by assumption
                    clear HSS HC4 z1 z2 z3 z4 z5 z6 z7 z8
                    go_wp2_with fail
                    go_roundw
                    case rel => exact ⟨q + 1, by go_num, by omega, HBQ⟩
                    case measure => simp [intOf]; omega
                · have hqi' : ¬ (q : Int) < (i : Int) := by omega
                  go_wp2_with fail
                  go_roundw
                  case rel => exact ⟨i + 1, by go_num, by omega, hQ4⟩
                  case measure => simp [intOf]; omega
          · have hij' : ¬ (i : Int) < (j : Int) := by omega
            have HE := Lib.hid (Below.step HW0.out hQ.out (Nat.le_refl _))
            go_wp2_with fail
            go_ret
            exact ⟨rfl, HE.out⟩

set_option maxRecDepth 100000 in
theorem lifted (os : Os) (started : os.Started) (H : Type) (enc : TypeId × Value → H) :
    ReturnsInHanded {} Try.checked os 4 .any (Rows.arenaBackSpec.pre6 enc Try.prog Try.f4 Rows.arenaBackRow.domain false) (Rows.arenaBackSpec.post enc Try.prog Try.f4 false true false false) := by
  refine returnsInHanded_of_change (C := Try.checked) own started (by kernel_rfl) Try.func4
    (ChangeSpec.witness6 (enc := enc) (C := Try.checked) false ⟨#[], #[.slice none 0 0], []⟩ 8 (by kernel_rfl) (by kernel_rfl) (by kernel_rfl) (by kernel_rfl)) ?_
  intro W base args ds gs before hval0 hW hcnd _
  have hval : ∀ (j : Nat) t v, Try.f4.params[j]? = some t → args[j]? = some v → Value.okWide Try.prog W .any base t v := hval0
  have hW' := hW
  obtain ⟨p, q, hA0, hV, rfl, hfz, hnd⟩ := hW
  have hA : DataW.TrodAll enc Try.prog W 0 (fun _ => true) true Try.f4.params.toList args.toList ds p := hA0
  rw [Try.params4] at hA hval
  obtain ⟨v0, d0, rfl, rfl, h0⟩ := trodAll_one hA
  obtain ⟨rfl, rfl⟩ := trodVars_none hV
  obtain ⟨n0, a0, c0, rfl, hs0⟩ := arg_rows (hval 0 22 v0 rfl rfl) h0
  have hlt := hW'.lt
  refine (walk n0 c0 a0 W hs0).mono fun e W' ⟨he, hb⟩ => ?_
  subst he
  have t0 := Below.trod laidOut (by kernel_rfl) (of_decide_eq_true (by kernel_rfl)) h0 hb (fun x hx => hlt x (by simp [hx]))
  exact ⟨_, rfl, ⟨_, _, _, [], _, [], hW', trodAll_mk1 (shut_bool Try.underlying4 _), trodAll_mk1 t0, rfl, hb.frame _, fun h => by cases h⟩⟩

theorem over : Rows.arenaBackRow.holds Try.pinned (OpenSpec.ofChange Rows.arenaBackSpec) :=
  OpenClaim.holds_of_wide 4 Try.f4 rfl rfl rfl rfl rfl rfl rfl ⟨rfl, rfl, rfl, rfl, rfl⟩ rfl rfl rfl rfl rfl (by kernel_rfl) Try.func4 (by kernel_rfl)
    (of_decide_eq_true (by kernel_rfl)) (by unfold Func.isWrapper; first | (rw [if_pos (by decide +kernel)]; kernel_rfl) | (rw [if_neg (by decide +kernel)]; exact ⟨rfl, rfl⟩))
    (fun os started H enc _ => lifted os started H enc)

/-- THE STATEMENT -/
theorem proved : Rows.ArenaBackSaid :=
  over
#print axioms proved
end Go.Proofs.Ytmbopdlmkbbbiaa.arenaBack
