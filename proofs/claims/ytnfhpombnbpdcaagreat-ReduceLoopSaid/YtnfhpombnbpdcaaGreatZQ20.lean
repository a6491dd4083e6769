/- Tcright. No condition but those that stand in each statement. -/
import Derived.Deep.RegionWith
import Derived.Deep.RegionHeld3
import Derived.Test.YtnfhpombnbpdcaaGreatZQ19
namespace Go.Proofs.YtnfhpombnbpdcaaGreat
open Go.RowKit
def TkOk (C r : Nat) (p m : Int) (x : Option Nat) (w : World) (e : Ending) (w' : World) : Prop :=
  e = .returned (.bool x.isSome) ∧ (∃ l : Int, TkAt w' C r p m l ∧ ∀ y : Nat, x = some y → l = y) ∧ w.grownBy w' (some C)
theorem tkHeld {W w' : World} {N C b i : Nat} {x0 x1 x2 x3 y : Value} (h : Hid (W.grownBy w' (some C))) (hN : N < W.heap.size) (hb : b < W.heap.size) (hNC : N ≠ C) (hbC : b ≠ C) (q0 : W.cell? ⟨N, 0, none⟩ = some x0) (q1 : W.cell? ⟨N, 1, none⟩ = some x1) (q2 : W.cell? ⟨N, 2, none⟩ = some x2) (q3 : W.cell? ⟨N, 3, none⟩ = some x3) (m1 : W.cell? ⟨b, i, none⟩ = some y) :
    w'.cell? ⟨N, 0, none⟩ = some x0 ∧ w'.cell? ⟨N, 1, none⟩ = some x1 ∧ w'.cell? ⟨N, 2, none⟩ = some x2 ∧ w'.cell? ⟨N, 3, none⟩ = some x3 ∧ w'.cell? ⟨b, i, none⟩ = some y :=
  ⟨(World.cell?_of_block (a := ⟨N, 0, none⟩) (Only.block h.out hN hNC)).trans q0, (World.cell?_of_block (a := ⟨N, 1, none⟩) (Only.block h.out hN hNC)).trans q1, (World.cell?_of_block (a := ⟨N, 2, none⟩) (Only.block h.out hN hNC)).trans q2, (World.cell?_of_block (a := ⟨N, 3, none⟩) (Only.block h.out hN hNC)).trans q3, (World.cell?_of_block (a := ⟨b, i, none⟩) (Only.block h.out hb hbC)).trans m1⟩
set_option maxRecDepth 100000 in
set_option maxHeartbeats 4000000 in
theorem tcright_any (p m : Int) (s : Nat) : ∀ (f : Ft), f.size < s → ∀ (k n v : Int) (ls : Fo) (d left : Nat) (la ka : Option Addr) (lc kc B C r : Nat) (w : World), SlIn w (· < B) ls la lc → TlIn w (· < B) f ka kc → B ≤ C → d ≤ 30 → left ≤ 600 → 0 ≤ v → v + d ≤ 2000 → TkAt w C r p m left →
    Calls Tryz.prog 51 #[.pointer (some ⟨C, 0, none⟩), .agg #[.int .i64 k, .int .i64 n, .slice la ls.len lc, .slice ka f.len kc], .int .i64 v, .int .i64 d] w (TkOk C r p m (ctOne p m v k n ls f d left) w) := by
  induction s with
  | zero => intro f hs; omega
  | succ s ih =>
    intro f hs k n v ls d left la ka lc kc B C r w hls hsl hB hd hleft hv0 hvd hat
    have IH := Lib.hid ih
    clear ih
    have hlen := hsl.len
    obtain ⟨c0, c1, c2, c3, f3, hC⟩ := hat.facts
    by_cases h1 : d = 0
    · rw [ctOne_no (.inl h1)]
      subst h1
      go_enter Tryz.func51, Tryz.ntmps51
      go_wp2_with fail
      go_ret
      exact ⟨rfl, ⟨_, hat.alloc _, fun y hy => by cases hy⟩, Only.alloc _ _ _⟩
    · have d1 : ((d : Int) == 0) = false := beq_eq_false_iff_ne.2 (by omega)
      by_cases h2 : left = 0
      · rw [ctOne_no (.inr (.inl h2))]
        have d2 : ((left : Int) == 0) = true := beq_iff_eq.2 (by omega)
        go_enter Tryz.func51, Tryz.ntmps51
        go_wp2_with fail
        go_ret
        exact ⟨rfl, ⟨_, hat.alloc _, fun y hy => by cases hy⟩, Only.alloc _ _ _⟩
      · have d2 : ((left : Int) == 0) = false := beq_eq_false_iff_ne.2 (by omega)
        have hb0 : Below w.heap.size w (w.alloc (.cells #[.int .i64 k, .int .i64 n, .slice la ls.len lc, .slice ka f.len kc] 30)) := (Below.refl _ _).alloc (Nat.le_refl _) _
        have HF := Lib.hid (tcfits_any v p m left k n ls la lc ka f.len kc C r B (w.alloc (.cells #[.int .i64 k, .int .i64 n, .slice la ls.len lc, .slice ka f.len kc] 30)) (hat.alloc _) (by simp; omega) (hls.below (hb0.mono (by omega))))
        have HV : Hid (∀ x, tfitsB p m v k n ls f.len = x → ctOne p m v k n ls f d left = if x then ctAll p m f k 0 v (d - 1) (left - 1) else none) := Lib.hid (fun x hx => by
          unfold ctOne; rw [hx]; cases x <;> simp [h1, h2])
        have HT : Hid (tfitsB p m v k n ls f.len = true → (f.len : Int) = tkids k) := Lib.hid tfits_len
        generalize tfitsB p m v k n ls f.len = x at HF HV HT
        have HV' := Lib.hid (HV.out x rfl)
        clear HV hb0
        cases x with
        | false =>
          rw [HV'.out]
          go_enter Tryz.func51, Tryz.ntmps51
          go_wp2_with fail
          refine HF.out.mono ?_
          rintro e w1 ⟨rfl, hb1⟩
          go_wp2_with fail
          go_ret
          exact ⟨rfl, ⟨_, (hat.alloc _).below hb1, fun y hy => by cases hy⟩, Only.after (Only.alloc _ _ _) (Only.below _ hb1)⟩
        | true =>
          have hk : 1 ≤ k ∧ k ≤ 7 ∧ (tkids k).toNat = f.len := by have := tkids_cases k; have := HT.out rfl; omega
          obtain ⟨hk1, hk7, hkn⟩ := hk
          have hK := HT
          clear HT
          go_enter Tryz.func51, Tryz.ntmps51
          go_wp2_with fail
          refine HF.out.mono ?_
          rintro e w1 ⟨rfl, hb1⟩
          have hat1 := (hat.alloc (.cells #[.int .i64 k, .int .i64 n, .slice la ls.len lc, .slice ka f.len kc] 30)).below hb1
          obtain ⟨g0, g1, g2, g3, fz, gC⟩ := hat1.facts
          have hb1' : Below (w.heap.size + 1) (w.alloc (.cells #[.int .i64 k, .int .i64 n, .slice la ls.len lc, .slice ka f.len kc] 30)) w1 := by simpa using hb1
          have b0 := bcell hb1' w.heap.size 0 (by omega)
          have b3 := bcell hb1' w.heap.size 3 (by omega)
          simp at b0 b3
          have hCn : C ≠ w.heap.size := by omega
          have hat2 := hat1.set ((left : Int) - 1)
          have hlook := run_tlook (w1.setCell ⟨C, 3, none⟩ (.int .i64 ((left : Int) - 1))).drew r hat2.2.1.drew k false hk1 hk7
          simp only [tRow, tRw, hkn] at hlook
          have hlook' : (Instr.lookup 77 (.map (some r)) (.int .i64 k) false).run Tryz.prog (w1.setCell ⟨C, 3, none⟩ (.int .i64 ((left : Int) - 1))).drew = .ok (.agg #[.func (.func (tFn k)) #[] #[], .int .i64 (tlo k), .int .i64 (thi k), .slice (tAddr r k) f.len f.len]) (w1.setCell ⟨C, 3, none⟩ (.int .i64 ((left : Int) - 1))).drew := hlook
          clear hlook hkn
          have fd := run_tfield3
          have HG0 : Hid (w.grownBy (w1.setCell ⟨C, 3, none⟩ (.int .i64 ((left : Int) - 1))) (some C)) := Lib.hid (Only.after (Only.after (Only.alloc _ _ _) (Only.below _ hb1)) (Only.set _ _ _ _))
          have HA2 := Lib.hid hat2
          clear hat2 hat1 hb1 hb1'
          go_wp2_with fail
          go_region
          go_wp2_with fail
          go_loopw [46] (fun i wr => ∃ (j : Nat) (rr : Ft) (q : Nat), i = .int .i64 j ∧ q ≤ 600 ∧ Hid (j + rr.len = f.len) ∧ Hid (rr.size ≤ f.size) ∧
              Hid (∀ b o, ka = some ⟨b, o, none⟩ → FtIn w (· < B) rr b (o + j * 4)) ∧ Hid (ctAll p m rr k j v (d - 1) q = ctAll p m f k 0 v (d - 1) (left - 1)) ∧ Hid (TkAt wr C r p m q) ∧ Hid (w.grownBy wr (some C)))
            (fun i _ => f.len - (intOf i).toNat)
          case atStart => exact ⟨0, f, left - 1, rfl, by omega, Lib.hid (by omega), Lib.hid (Nat.le_refl _), Lib.hid (by rintro b o rfl; simpa using hsl.ftIn), Lib.hid rfl, Lib.hid (by rw [show ((left - 1 : Nat) : Int) = (left : Int) - 1 by omega]; exact HA2.out.below (Below.refl _ _).drew), Lib.hid (Only.draws HG0.out 1)⟩
          case round =>
            obtain ⟨j, rr, q, rfl, hq, hj, hrs, hin, hall, hatr, hgr⟩ := hrel
            cases rr with
            | nil =>
              have hlt : ¬ (j : Int) < (f.len : Int) := by have := hj.out; simp [Ft.len] at this; omega
              have d' : decide ((j : Int) < (f.len : Int)) = false := by simpa using hlt
              go_wp2_with fail
              go_ret
              have hx : ctOne p m v k n ls f d left = some q := by rw [HV'.out, if_pos trivial, ← hall.out]; rfl
              rw [hx]
              exact ⟨rfl, ⟨_, hatr.out, fun y hy => by cases hy; rfl⟩, hgr.out⟩
            | cons k' n' ls' ks r' =>
              have hlt : j < f.len := by have := hj.out; simp [Ft.len] at this; omega
              have hlt' : (j : Int) < (f.len : Int) := by omega
              obtain ⟨b, o, rfl, hbB, hf0⟩ := hsl.some (by omega)
              obtain ⟨e0, e1, ⟨la', lc', e2, hls'⟩, ⟨ka', kc', e3, hsl'⟩, hrest⟩ := ((hin.out b o rfl).only hgr.out hB (by omega) hbB).first
              have hks : ks.size < s := by have := hrs.out; simp [Ft.size] at this; omega
              have HC := Lib.hid (ctAll_cons p m k' n' ls' ks r' k j v (d - 1) q)
              obtain ⟨bb, hbb, hb1, hb2, hb3⟩ := hatr.out.2.1.own (k := k) (i := j) (by have := hK.out trivial; omega)
              have hrC := hatr.out.2.2
              obtain ⟨_, _, _, _, _, hCr⟩ := hatr.out.facts
              have hnew := heap_new wr (.cells #[.int .i64 k', .int .i64 n', .slice la' ls'.len lc', .slice ka' ks.len kc'] 30)
              obtain ⟨q0, q1, q2, q3⟩ := cells4 hnew
              have m1 := (World.cell?_of_block (a := ⟨bb, j, none⟩) (heap_old wr (.cells #[.int .i64 k', .int .i64 n', .slice la' ls'.len lc', .slice ka' ks.len kc'] 30) (by omega : bb < wr.heap.size))).trans hb3
              have hbind : 0 ≤ bindK k j ∧ bindK k j ≤ 1 := by unfold bindK; split <;> omega
              have hcl := Lib.hid (ctOne_le p m (v + bindK k j) k' n' ls' ks (d - 1) q)
              have HCL := Lib.hid (IH.out ks hks k' n' (v + bindK k j) ls' (d - 1) q la' ka' lc' kc' B C r (wr.alloc (.cells #[.int .i64 k', .int .i64 n', .slice la' ls'.len lc', .slice ka' ks.len kc'] 30)).drew ((hls'.only (Only.alloc _ C _) hB (by omega)).below (Below.refl _ _).drew) ((hsl'.only (Only.alloc _ C _) hB (by omega)).below (Below.refl _ _).drew) hB (by omega) hq (by omega) (by omega) ((hatr.out.alloc _).below (Below.refl _ _).drew))
              have HW1 : Hid (IntKind.i64.wrap (v + bindK k j) = v + bindK k j) := Lib.hid (IntWalk.i64_in _ (by omega))
              have HW2 : Hid (IntKind.i64.wrap ((d : Int) - 1) = ((d - 1 : Nat) : Int)) := Lib.hid (by rw [IntWalk.i64_in _ (by omega)]; omega)
              generalize ctOne p m (v + bindK k j) k' n' ls' ks (d - 1) q = x at HC HCL hcl
              have HGR := Lib.hid (Only.draws (Only.after hgr.out (Only.alloc wr C (.cells #[.int .i64 k', .int .i64 n', .slice la' ls'.len lc', .slice ka' ks.len kc'] 30))) 1)
              rw [hbb]
              have hsz : wr.heap.size ≠ C := by omega
              have hbC : bb ≠ C := by omega
              have hbw : bb < wr.heap.size + 1 := by omega
              clear hnew hb3 hls' hsl' hf0 hrest hatr hK c0 c1 c2 c3 f3 g0 g1 g2 g3 fz b0 hlook' fd HA2 hbind hb1 hb2 hrC
              go_wp2_with fail
              go_region_held3 (fun w' => w'.cell? ⟨wr.heap.size, 0, none⟩ = some (.int .i64 k') ∧ w'.cell? ⟨wr.heap.size, 1, none⟩ = some (.int .i64 n') ∧ w'.cell? ⟨wr.heap.size, 2, none⟩ = some (.slice la' ls'.len lc') ∧ w'.cell? ⟨wr.heap.size, 3, none⟩ = some (.slice ka' ks.len kc') ∧ w'.cell? ⟨bb, j, none⟩ = some (.int .i64 (bindK k j)))
                (first | exact ⟨q0, q1, q2, q3, m1⟩ | exact tkHeld (W := (wr.alloc (.cells #[.int .i64 k', .int .i64 n', .slice la' ls'.len lc', .slice ka' ks.len kc'] 30)).drew) HB2 (by simp) (by simpa using hbw) hsz hbC q0 q1 q2 q3 m1)
                (first | (go_at_call 51; rw [HW1.out, HW2.out]; refine HCL.out.mono ?_; rintro e wN ⟨he, ⟨l, hat2, hl⟩, hg2⟩; subst he; have HB2 := Lib.hid hg2; have HAT := Lib.hid hat2; have HL := Lib.hid hl; clear hat2 hl hg2))
              have hg' := Lib.hid (Only.after HGR.out HB2.out)
              clear q0 q1 q2 q3 m1 HCL HW1 HW2
              cases x with
              | none =>
                go_wp2_with fail
                go_ret
                have hx : ctOne p m v k n ls f d left = none := by rw [HV'.out, if_pos trivial, ← hall.out, HC.out]
                rw [hx]
                exact ⟨rfl, ⟨_, HAT.out, fun y hy => by cases hy⟩, hg'.out⟩
              | some x =>
                have hx := hcl.out x rfl
                have hlx := HL.out x rfl
                subst hlx
                clear HL
                go_wp2_with fail
                go_roundw
                case rel => exact ⟨j + 1, r', x, by go_num, by omega, Lib.hid (by have := hj.out; simp [Ft.len] at this; omega), Lib.hid (by have := hrs.out; simp [Ft.size] at this; omega), Lib.hid (by rintro b' o' h; cases h; have := (hin.out b o rfl).2.2.2.2; rwa [show o + (j + 1) * 4 = o + j * 4 + 4 by omega]), Lib.hid (by rw [← hall.out, HC.out]), HAT, hg'⟩
                case measure => simp [intOf]; omega
end Go.Proofs.YtnfhpombnbpdcaaGreat
