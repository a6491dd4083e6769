/- Wmem, Tmin, Wunf, Iown, IntsIn, RowL, RSame, Trsame, Wsm, Topenarg, Warg, Yact, Sloop, Qloop, Qpart0, Qparts, Seen, Numr, Tvars, Yaw0. No condition but those that stand in each statement. -/
import Derived.Test.YtnfhpombnbpdcaaGreatZQ29
import Derived.Test.YtnfhpombnbpdcaaGreatZQ24
import Derived.Test.YtnfhpombnbpdcaaGreatZQ9
import Derived.Deep.RegionHeld3
import Derived.Deep.DeepCutAuto
import Derived.Maps.AppendAt
import Derived.RangeFuncBox
import Derived.Test.YtnfhpombnbpdcaaGreatZQ1
import Derived.Test.YtnfhpombnbpdcaaGreatZQ16
import Derived.Lib.SmallJoins
import Derived.Deep.QuietTactic
import Derived.BigQuiet
import Derived.Test.YtnfhpombnbpdcaaGreatZQ18
import Derived.Test.YtnfhpombnbpdcaaGreatZQ8
import Derived.RangeFuncCalls
import Derived.RangeFuncFrom
import Derived.RangeFuncLeaves
import Derived.Shelf.Abstract
import Derived.Laws.OwnMore
import Derived.Shelf.RegionOpen
import Derived.WalkKit
import Derived.OwnWalkIn
import Derived.TacticsInMore
import Derived.LoopNIn
import Derived.LoopIn
import Derived.IntWalk
import Derived.BigRegionIn
import Derived.Stop.RegionWithIn
import Derived.MapKept
import Derived.Test.YtnfhpombnbpdcaaGreatZQ26
namespace Go.Proofs.YtnfhpombnbpdcaaGreat
open Go.RowKit
def McAt (w : World) (M : Nat) (a : Option Addr) (len cap : Nat) (fuel e : Int) : Prop := w.heap[M]? = some (.cells #[.slice a len cap, .int .i64 fuel, .int .i64 e] 74 (0, 0))
theorem McAt.facts {w : World} {M : Nat} {a : Option Addr} {len cap : Nat} {fuel e : Int} (h : McAt w M a len cap fuel e) : w.cell? ⟨M, 0, none⟩ = some (.slice a len cap) ∧ w.cell? ⟨M, 1, none⟩ = some (.int .i64 fuel) ∧ w.cell? ⟨M, 2, none⟩ = some (.int .i64 e) ∧ (∀ o, w.frozen? ⟨M, o, none⟩ = false) ∧ M < w.heap.size :=
  ⟨cell_at h 0, cell_at h 1, cell_at h 2, free_of h, lt_of_block h⟩
theorem McAt.later {w w' : World} {M : Nat} {a : Option Addr} {len cap : Nat} {fuel e : Int} (h : McAt w M a len cap fuel e) (hb : Below w.heap.size w w') : McAt w' M a len cap fuel e := (hb.block _ (lt_of_block h)).trans h
theorem McAt.only {w w' : World} {M C : Nat} {a : Option Addr} {len cap : Nat} {fuel e : Int} (h : McAt w M a len cap fuel e) (hg : w.grownBy w' (some C)) (hC : M ≠ C) : McAt w' M a len cap fuel e := (Only.block hg (lt_of_block h) hC).trans h
theorem McAt.burnt {w : World} {M : Nat} {a : Option Addr} {len cap : Nat} {fuel e : Int} (h : McAt w M a len cap fuel e) (f : Int) : McAt (w.setCell ⟨M, 1, none⟩ (.int .i64 f)) M a len cap f e := heap_setCell_same w M 1 _ _ _ h
theorem McAt.failed {w : World} {M : Nat} {a : Option Addr} {len cap : Nat} {fuel e : Int} (h : McAt w M a len cap fuel e) (f : Int) : McAt (w.setCell ⟨M, 2, none⟩ (.int .i64 f)) M a len cap fuel f := heap_setCell_same w M 2 _ _ _ h
set_option maxRecDepth 100000 in
set_option maxHeartbeats 1000000 in
theorem r16Fail_any (M : Nat) (a : Option Addr) (len cap : Nat) (fuel e er : Int) (w : World) (hat : McAt w M a len cap fuel e) : Calls Tryz.prog 67 #[.pointer (some ⟨M, 0, none⟩), .int .i64 er] w fun en w' => en = .returned (.tuple #[]) ∧ McAt w' M a len cap fuel (if e = 0 then er else e) ∧ w.grownBy w' (some M) := by
  obtain ⟨c0, c1, c2, fz, hM⟩ := hat.facts
  have HA := Lib.hid hat
  clear hat
  by_cases he : e = 0
  · rw [if_pos he]
    subst he
    go_enter Tryz.func67, Tryz.ntmps67
    go_wp2_with fail
    go_end0
    exact ⟨rfl, HA.out.failed er, Only.set _ _ _ _⟩
  · rw [if_neg he]
    have d : (e == 0) = false := beq_eq_false_iff_ne.2 he
    go_enter Tryz.func67, Tryz.ntmps67
    go_wp2_with fail
    go_end0
    exact ⟨rfl, HA.out, Only.refl _ _⟩
set_option maxRecDepth 100000 in
set_option maxHeartbeats 1000000 in
theorem r16Burn_any (M : Nat) (a : Option Addr) (len cap n : Nat) (w : World) (hn : n ≤ 100000) (hat : McAt w M a len cap n 0) : Calls Tryz.prog 44 #[.pointer (some ⟨M, 0, none⟩)] w fun en w' => w.grownBy w' (some M) ∧
    ((n = 0 ∧ en = .returned (.bool false) ∧ McAt w' M a len cap 0 40) ∨ (n ≠ 0 ∧ en = .returned (.bool true) ∧ McAt w' M a len cap ((n - 1 : Nat) : Int) 0)) := by
  obtain ⟨c0, c1, c2, fz, hM⟩ := hat.facts
  have HA := Lib.hid hat
  clear hat
  by_cases h : n = 0
  · have d : decide ((n : Int) < 1) = true := decide_eq_true (by omega)
    have HN := Lib.hid h
    have HQ : Hid (McAt (w.setCell ⟨M, 2, none⟩ (.int .i64 40)) M a len cap 0 40) := Lib.hid (by have := HA.out.failed 40; rwa [show (n : Int) = 0 by omega] at this)
    clear h
    go_enter Tryz.func44, Tryz.ntmps44
    go_wp2_with fail
    go_ret
    exact ⟨Only.set _ _ _ _, .inl ⟨HN.out, rfl, HQ.out⟩⟩
  · have d : decide ((n : Int) < 1) = false := decide_eq_false (by omega)
    have hw : IntKind.i64.wrap ((n : Int) - 1) = (n : Int) - 1 := IntWalk.i64_in _ (by omega)
    have e1 : ((n - 1 : Nat) : Int) = (n : Int) - 1 := by omega
    go_enter Tryz.func44, Tryz.ntmps44
    go_wp2_with fail
    go_ret
    exact ⟨Only.set _ _ _ _, .inr ⟨h, rfl, by rw [e1]; exact HA.out.burnt _⟩⟩
end Go.Proofs.YtnfhpombnbpdcaaGreat
namespace Go.Proofs.YtnfhpombnbpdcaaGreat
open Go.RowKit
def TmIn (W : World) (B : Nat) (T : Tm) (la : Option Addr) (lc : Nat) (ka : Option Addr) (kc : Nat) : Prop := SlIn W (· < B) T.ls la lc ∧ TlIn W (· < B) T.ks ka kc ∧ B ≤ W.heap.size
theorem TmIn.later {W W' : World} {B : Nat} {T : Tm} {la : Option Addr} {lc : Nat} {ka : Option Addr} {kc : Nat} (h : TmIn W B T la lc ka kc) (hb : Below W.heap.size W W') : TmIn W' B T la lc ka kc :=
  ⟨h.1.below (hb.mono h.2.2), h.2.1.below (hb.mono h.2.2), Nat.le_trans h.2.2 hb.size⟩
def TmBox (W : World) (N : Nat) (T : Tm) (la : Option Addr) (lc : Nat) (ka : Option Addr) (kc : Nat) : Prop := W.heap[N]? = some (.cells #[.int .i64 T.k, .int .i64 T.n, .slice la T.ls.len lc, .slice ka T.ks.len kc] 30 (0, 0)) ∧ TmIn W N T la lc ka kc
theorem TmBox.later {W W' : World} {N : Nat} {T : Tm} {la : Option Addr} {lc : Nat} {ka : Option Addr} {kc : Nat} (h : TmBox W N T la lc ka kc) (hb : Below W.heap.size W W') : TmBox W' N T la lc ka kc :=
  ⟨(hb.block _ (lt_of_block h.1)).trans h.1, h.2.later hb⟩
theorem TmBox.new {W : World} {T : Tm} {la : Option Addr} {lc : Nat} {ka : Option Addr} {kc : Nat} (h : TmIn W W.heap.size T la lc ka kc) : TmBox (W.alloc (.cells #[.int .i64 T.k, .int .i64 T.n, .slice la T.ls.len lc, .slice ka T.ks.len kc] 30)) W.heap.size T la lc ka kc :=
  ⟨heap_new _ _, h.later ((Below.refl _ _).alloc (Nat.le_refl _) _)⟩
theorem TmBox.cells {W : World} {N : Nat} {T : Tm} {la : Option Addr} {lc : Nat} {ka : Option Addr} {kc : Nat} (h : TmBox W N T la lc ka kc) : W.cell? ⟨N, 0, none⟩ = some (.int .i64 T.k) ∧ W.cell? ⟨N, 1, none⟩ = some (.int .i64 T.n) ∧ W.cell? ⟨N, 2, none⟩ = some (.slice la T.ls.len lc) ∧ W.cell? ⟨N, 3, none⟩ = some (.slice ka T.ks.len kc) := cells4 h.1
theorem one_refl (A : Tm) : decide (Ft.cons A.k A.n A.ls A.ks .nil = Ft.cons A.k A.n A.ls A.ks .nil) = true := decide_eq_true rfl
end Go.Proofs.YtnfhpombnbpdcaaGreat
namespace Go.Proofs.YtnfhpombnbpdcaaGreat
open Go.RowKit
set_option maxRecDepth 100000 in
set_option maxHeartbeats 1000000 in
theorem r16Put_any (M : Nat) (a : Option Addr) (len cap : Nat) (fuel e er : Int) (k n : Int) (la ka : Option Addr) (ll lc kl kc : Nat) (w : World) (hat : McAt w M a len cap fuel e) :
    Calls Tryz.prog 45 #[.pointer (some ⟨M, 0, none⟩), .agg #[.int .i64 k, .int .i64 n, .slice la ll lc, .slice ka kl kc], .int .i64 er] w fun en w' => en = .returned (.agg #[.int .i64 k, .int .i64 n, .slice la ll lc, .slice ka kl kc]) ∧ McAt w' M a len cap fuel (if er = 0 then e else if e = 0 then er else e) ∧ w.grownBy w' (some M) := by
  have hM := lt_of_block hat
  have HB : Hid (Below w.heap.size w ((w.alloc (.cells #[.int .i64 k, .int .i64 n, .slice la ll lc, .slice ka kl kc] 30)).alloc (.cells #[.int .i64 0, .int .i64 0, .slice none 0 0, .slice none 0 0] 30))) := Lib.hid (((Below.refl _ _).alloc (Nat.le_refl _) _).alloc (by simp) _)
  have HA := Lib.hid (hat.later HB.out)
  have X0 : Hid (((w.alloc (.cells #[.int .i64 k, .int .i64 n, .slice la ll lc, .slice ka kl kc] 30)).alloc (.cells #[.int .i64 0, .int .i64 0, .slice none 0 0, .slice none 0 0] 30)).heap[w.heap.size]? = some (.cells #[.int .i64 k, .int .i64 n, .slice la ll lc, .slice ka kl kc] 30 (0, 0))) := Lib.hid ((heap_old _ _ (by simp)).trans (heap_new _ _))
  have X1 : Hid (((w.alloc (.cells #[.int .i64 k, .int .i64 n, .slice la ll lc, .slice ka kl kc] 30)).alloc (.cells #[.int .i64 0, .int .i64 0, .slice none 0 0, .slice none 0 0] 30)).heap[w.heap.size + 1]? = some (.cells #[.int .i64 0, .int .i64 0, .slice none 0 0, .slice none 0 0] 30 (0, 0))) := Lib.hid (heap_second _ _ _)
  clear hat
  obtain ⟨E2, hE2⟩ : ∃ E2, E2 = (if er = 0 then e else if e = 0 then er else e) := ⟨_, rfl⟩
  rw [← hE2]
  have HE2 := Lib.hid hE2
  clear hE2
  go_enter Tryz.func45, Tryz.ntmps45
  go_upto_region 1 with fail
  generalize (w.alloc (.cells #[.int .i64 k, .int .i64 n, .slice la ll lc, .slice ka kl kc] 30)).alloc (.cells #[.int .i64 0, .int .i64 0, .slice none 0 0, .slice none 0 0] 30) = W1 at HB HA X0 X1 ⊢
  have h1 := lt_of_block X1.out
  by_cases he : er = 0
  · have e2 := HE2.out
    rw [if_pos he] at e2
    have d : (er != 0) = false := by rw [he]; rfl
    have hset := set4_only (w := W1) (w.heap.size + 1) (.int .i64 k) (.int .i64 n) (.slice la ll lc) (.slice ka kl kc)
    have HE : Hid (McAt _ M a len cap fuel E2 ∧ w.grownBy _ (some M)) := Lib.hid ⟨by rw [e2]; exact HA.out.only hset (by omega), Only.past (Only.of_below' HB.out M) hset (by omega)⟩
    obtain ⟨c0, c1, c2, c3⟩ := cells4 X0.out
    obtain ⟨z0, z1, z2, z3⟩ := cells4 X1.out
    have zf := free_of X1.out
    clear he hset e2
    go_wp2_with fail
    refine bodyPost_ret (v := .agg #[.int .i64 k, .int .i64 n, .slice la ll lc, .slice ka kl kc]) (by simp [results, Tryz.results45, go_sem, z0, z1, z2, z3]) rfl ?_
    exact ⟨rfl, HE.out.1, HE.out.2⟩
  · have e2 := HE2.out
    rw [if_neg he] at e2
    have d : (er != 0) = true := by rw [bne_iff_ne]; exact he
    have HF := Lib.hid (r16Fail_any M a len cap fuel e er W1 HA.out)
    go_wp2_with fail
    refine HF.out.mono ?_
    rintro en w2 ⟨rfl, hm, hg⟩
    have Y0 := (Only.block hg (by omega) (by omega)).trans X0.out
    have Y1 := (Only.block hg h1 (by omega)).trans X1.out
    have h2 := lt_of_block Y1
    have hset := set4_only (w := w2) (w.heap.size + 1) (.int .i64 k) (.int .i64 n) (.slice la ll lc) (.slice ka kl kc)
    have HE : Hid (McAt _ M a len cap fuel E2 ∧ w.grownBy _ (some M)) := Lib.hid ⟨by rw [e2]; exact hm.only hset (by omega), Only.past (Only.after (Only.of_below' HB.out M) hg) hset (by omega)⟩
    obtain ⟨c0, c1, c2, c3⟩ := cells4 Y0
    obtain ⟨z0, z1, z2, z3⟩ := cells4 Y1
    have zf := free_of Y1
    clear hset hm hg e2
    go_wp2_with fail
    refine bodyPost_ret (v := .agg #[.int .i64 k, .int .i64 n, .slice la ll lc, .slice ka kl kc]) (by simp [results, Tryz.results45, go_sem, z0, z1, z2, z3]) rfl ?_
    exact ⟨rfl, HE.out.1, HE.out.2⟩
set_option maxRecDepth 100000 in
set_option maxHeartbeats 2000000 in
theorem r16unf_any (E : List Dc) (M : Nat) (a : Option Addr) (cap B : Nat) (fuel e : Int) (k : Int) (i : Nat) (ls : Fo) (ks : Ft) (la ka : Option Addr) (lc kc : Nat) (w : World) (hat : McAt w M a E.length cap fuel e) (hE : DsIn w (· < B) E a cap) (hB : B ≤ w.heap.size) :
    Calls Tryz.prog 47 #[.pointer (some ⟨M, 0, none⟩), .agg #[.int .i64 k, .int .i64 i, .slice la ls.len lc, .slice ka ks.len kc]] w fun en w' => en = .returned (.bool (unfB E ⟨k, i, ls, ks⟩)) ∧ Below w.heap.size w w' := by
  have hal : Below w.heap.size w (w.alloc (.cells #[.int .i64 k, .int .i64 i, .slice la ls.len lc, .slice ka ks.len kc] 30)) := (Below.refl _ _).alloc (Nat.le_refl _) _
  have HB := Lib.hid hal
  obtain ⟨m0, m1, m2, mf, hM⟩ := (hat.later hal).facts
  have hlen := hE.len
  have hE1 := hE.below (hal.mono hB)
  have HE1 := Lib.hid hE1
  clear hat hE hal hE1
  by_cases h3 : k = 3
  · have d3 : (k == 3) = true := beq_iff_eq.2 h3
    by_cases hi : i < E.length
    · have di : ((i : Int) < (E.length : Int)) := by omega
      obtain ⟨b, o, rfl, hb, g0, ⟨ca, cl, cc, g1, _⟩, _, g6, _⟩ := HE1.out.get hi
      have HU := unf_get (E := E) (t := ⟨k, i, ls, ks⟩) h3 rfl hi
      cases hh : E[i].has with
      | false =>
        have hR : unfB E ⟨k, i, ls, ks⟩ = false := by unfold unfB; rw [HU, hh]; rfl
        rw [hR]
        rw [hh] at g6
        clear HU hR h3 hh
        go_enter Tryz.func47, Tryz.ntmps47
        go_wp2_with fail
        go_region
        go_wp2_with fail
        go_ret
        exact ⟨rfl, HB.out.drew⟩
      | true =>
        rw [hh] at g6
        by_cases hp : (ls.len : Int) = E[i].p
        · have hR : unfB E ⟨k, i, ls, ks⟩ = true := by unfold unfB; rw [HU, hh, if_pos ⟨rfl, hp⟩]; rfl
          rw [hR]
          have dp : ((ls.len : Int) == E[i].p) = true := beq_iff_eq.2 hp
          clear HU hR h3 hh hp
          go_enter Tryz.func47, Tryz.ntmps47
          go_wp2_with fail
          go_region
          go_wp2_with fail
          go_ret
          exact ⟨rfl, HB.out.drew⟩
        · have hR : unfB E ⟨k, i, ls, ks⟩ = false := by unfold unfB; rw [HU, hh, if_neg (fun h => hp h.2)]; rfl
          rw [hR]
          have dp : ((ls.len : Int) == E[i].p) = false := beq_eq_false_iff_ne.2 hp
          clear HU hR h3 hh hp
          go_enter Tryz.func47, Tryz.ntmps47
          go_wp2_with fail
          go_region
          go_wp2_with fail
          go_ret
          exact ⟨rfl, HB.out.drew⟩
    · have di : ¬ ((i : Int) < (E.length : Int)) := by omega
      have hR : unfB E ⟨k, i, ls, ks⟩ = false := by unfold unfB; rw [unf_out (i := i) rfl hi]; rfl
      rw [hR]
      clear hR h3
      go_enter Tryz.func47, Tryz.ntmps47
      go_wp2_with fail
      go_region
      go_wp2_with fail
      go_ret
      exact ⟨rfl, HB.out.drew⟩
  · have d3 : (k == 3) = false := beq_eq_false_iff_ne.2 h3
    have hR : unfB E ⟨k, i, ls, ks⟩ = false := by unfold unfB; rw [unf_no3 h3]; rfl
    rw [hR]
    clear hR h3
    go_enter Tryz.func47, Tryz.ntmps47
    go_wp2_with fail
    go_region
    go_wp2_with fail
    go_ret
    exact ⟨rfl, HB.out.drew⟩
end Go.Proofs.YtnfhpombnbpdcaaGreat
namespace Go.Proofs.YtnfhpombnbpdcaaGreat
open Go.RowKit
def IOwn (w : World) (base : Nat) (v : Value) (zs : List Int) : Prop := w.ownsRow base 3 1 v zs.length (zs.map (Value.int .i64))
theorem infoInt : (Tryz.prog.info? 3).map (fun i => (i.zero, i.size, i.bytes)) = some (some (.int .i64 0), 1, 8) := by kernel_rfl
theorem IOwn.nil (w : World) (base : Nat) : IOwn w base (.slice none 0 0) [] := World.ownsRow_nil w base _ _
theorem IOwn.form {w : World} {base : Nat} {v : Value} {zs : List Int} (h : IOwn w base v zs) : ∃ x c, v = .slice x zs.length c := by
  rcases h.2 with ⟨rfl, h0⟩ | ⟨g, cap, cur, rfl, _⟩
  · exact ⟨none, 0, by rw [h0]⟩
  · exact ⟨_, _, rfl⟩
theorem IOwn.at {w : World} {base : Nat} {v : Value} {zs : List Int} (h : IOwn w base v zs) {i : Nat} (hi : i < zs.length) : ∃ g c, v = .slice (some ⟨g, 0, none⟩) zs.length c ∧ base ≤ g ∧ g < w.heap.size ∧ w.cell? ⟨g, i, none⟩ = some (.int .i64 (zs.getD i 0)) := by
  rcases h.2 with ⟨rfl, h0⟩ | ⟨g, cap, cur, rfl, hb, hh, _⟩
  · omega
  · refine ⟨g, cap, rfl, hb, lt_of_block hh, ?_⟩
    rw [World.ownsRow.cellAt h i (by omega)]
    simp [List.getD_eq_getElem?_getD, hi]
theorem IOwn.low {w : World} {base base' : Nat} {v : Value} {zs : List Int} (h : IOwn w base v zs) (hb : base' ≤ base) : IOwn w base' v zs := by
  refine ⟨h.1, ?_⟩
  rcases h.2 with h | ⟨g, cap, cur, h1, h2, h3⟩
  · exact .inl h
  · exact .inr ⟨g, cap, cur, h1, by omega, h3⟩
theorem IOwn.append {w : World} {base : Nat} {v : Value} {zs : List Int} (h : IOwn w base v zs) (ty : TypeId) (z : Int) (hsz : zs.length ≤ 1000000) (hbase : base ≤ w.heap.size) :
    ∃ v' w', (Builtin.append_ #[98, 98] ty #[v, .slice (some ⟨w.heap.size, 0, none⟩) 1 1]).run Tryz.prog (w.alloc (.cells #[.int .i64 z] 3)) = .ok v' w' ∧ IOwn w' base v' (zs ++ [z]) ∧ (w.alloc (.cells #[.int .i64 z] 3)).grownBy w' v.ownBlock ∧ (v'.ownBlock = v.ownBlock ∨ v'.ownBlock = some (w.heap.size + 1)) := by
  obtain ⟨i0, hi, hz0, hz1, hz2⟩ := info_parts infoInt
  obtain ⟨v', w', hrun, h2, h3, _, h5⟩ := run_append_own_at (P := Tryz.prog) _ base 98 ty 3 i0 _ 1 8 Tryz.underlying98 hi hz0 hz1 hz2 rfl (by omega) v zs.length _ (World.ownsRow.alloc h _) ⟨w.heap.size, 0, none⟩ 1 1 [.int .i64 z] rfl (cell_one_new _ _ _) (by simp [Value.oneCell']) (by unfold maxLen; omega) (by omega) (by simp; omega)
  refine ⟨v', w', hrun, ?_, h3, by simpa using h5⟩
  unfold IOwn
  rw [List.length_append, List.map_append]
  exact h2
theorem IOwn.lt {w : World} {base : Nat} {v : Value} {zs : List Int} (h : IOwn w base v zs) : ∀ g, v.ownBlock = some g → base ≤ g ∧ g < w.heap.size := fun g hg => World.ownsRow.lt h g hg
theorem IOwn.keep {w w' : World} {base : Nat} {v : Value} {zs : List Int} (h : IOwn w base v zs) (hk : ∀ g, v.ownBlock = some g → w'.heap[g]? = w.heap[g]?) : IOwn w' base v zs := by
  refine ⟨h.1, ?_⟩
  rcases h.2 with hn | ⟨g, cap, cur, e, hb, hh, rest⟩
  · exact .inl hn
  · exact .inr ⟨g, cap, cur, e, hb, (hk g (by rw [e]; rfl)).trans hh, rest⟩
def Turn (O : Nat → Prop) (w : World) (O' : Nat → Prop) (w' : World) : Prop :=
  w'.os = w.os ∧ w'.tape = w.tape ∧ w'.output = w.output ∧ w.heap.size ≤ w'.heap.size ∧ (∀ b, b < w.heap.size → ¬ O b → w'.heap[b]? = w.heap[b]?) ∧ ∀ b, O' b → O b ∨ w.heap.size ≤ b
theorem Turn.refl (O : Nat → Prop) (w : World) : Turn O w O w := ⟨rfl, rfl, rfl, Nat.le_refl _, fun _ _ _ => rfl, fun _ h => .inl h⟩
theorem Turn.trans {O O' O'' : Nat → Prop} {w w' w'' : World} (h : Turn O w O' w') (k : Turn O' w' O'' w'') : Turn O w O'' w'' := by
  obtain ⟨h1, h2, h3, h4, h5, h6⟩ := h
  obtain ⟨k1, k2, k3, k4, k5, k6⟩ := k
  refine ⟨k1.trans h1, k2.trans h2, k3.trans h3, Nat.le_trans h4 k4, fun b hb hO => (k5 b (by omega) (fun h => ?_)).trans (h5 b hb hO), fun b hb => ?_⟩
  · rcases h6 b h with h | h
    · exact hO h
    · omega
  · rcases k6 b hb with h | h
    · exact h6 b h
    · exact .inr (by omega)
theorem Turn.below {O : Nat → Prop} {w w' : World} (h : Below w.heap.size w w') : Turn O w O w' := ⟨h.os, h.tape, h.output, h.size, fun b hb _ => h.block b hb, fun _ h => .inl h⟩
theorem Turn.alloc (O : Nat → Prop) (w : World) (o : Obj) : Turn O w O (w.alloc o) := Turn.below ((Below.refl _ _).alloc (Nat.le_refl _) o)
theorem Turn.low {O O' : Nat → Prop} {w w' : World} {B : Nat} (h : Turn O w O' w') (hB : B ≤ w.heap.size) (hO : ∀ b, O b → B ≤ b) : Below B w w' := ⟨h.1, h.2.1, h.2.2.1, h.2.2.2.1, fun b hb => h.2.2.2.2.1 b (by omega) (fun e => by have := hO b e; omega)⟩
def OwnB (v : Value) (b : Nat) : Prop := v.ownBlock = some b
theorem IOwn.push {w : World} {base : Nat} {v : Value} {zs : List Int} (h : IOwn w base v zs) (ty : TypeId) (z : Int) (hsz : zs.length ≤ 1000000) (hbase : base ≤ w.heap.size) :
    ∃ g' cap' w', (Builtin.append_ #[98, 98] ty #[v, .slice (some ⟨w.heap.size, 0, none⟩) 1 1]).run Tryz.prog (w.alloc (.cells #[.int .i64 z] 3)) = .ok (.slice (some ⟨g', 0, none⟩) (zs.length + 1) cap') w' ∧ IOwn w' base (.slice (some ⟨g', 0, none⟩) (zs.length + 1) cap') (zs ++ [z]) ∧ Turn (OwnB v) w (OwnB (.slice (some ⟨g', 0, none⟩) (zs.length + 1) cap')) w' := by
  obtain ⟨v', w', hrun, h2, h3, h5⟩ := h.append ty z hsz hbase
  have h2' := h2
  unfold IOwn at h2'
  rw [List.length_append, List.length_singleton] at h2'
  obtain ⟨g', cap', rfl⟩ := ownsRow_succ h2'
  have hz := h3.size
  rw [World.size_alloc] at hz
  refine ⟨g', cap', w', hrun, h2, h3.os, h3.tape, h3.output, by omega, fun b hb hn => ?_, fun b hb => ?_⟩
  · exact (h3.block b (by rw [World.size_alloc]; omega) (fun e => hn e.symm)).trans (heap_old _ _ hb)
  · rcases h5 with h5 | h5
    · exact .inl (by unfold OwnB at hb ⊢; rw [← h5]; exact hb)
    · unfold OwnB at hb
      rw [h5] at hb
      injection hb with hb
      exact .inr (by omega)
end Go.Proofs.YtnfhpombnbpdcaaGreat
namespace Go.Proofs.YtnfhpombnbpdcaaGreat
open Go.RowKit
def IntsIn (w : World) (P : Nat → Prop) (l : List Int) (a : Option Addr) (cap : Nat) : Prop :=
  l.length ≤ cap ∧ cap ≤ maxLen ∧ (a = none → cap = 0) ∧ (0 < l.length → ∃ b o, a = some ⟨b, o, none⟩ ∧ P b ∧ ∀ i, i < l.length → w.cell? ⟨b, o + i, none⟩ = some (.int .i64 (l.getD i 0)))
theorem IntsIn.some {w : World} {P : Nat → Prop} {l : List Int} {a : Option Addr} {cap : Nat} (h : IntsIn w P l a cap) (hl : 0 < l.length) :
    ∃ b o, a = .some ⟨b, o, none⟩ ∧ P b ∧ ∀ i, i < l.length → w.cell? ⟨b, o + i, none⟩ = .some (.int .i64 (l.getD i 0)) := h.2.2.2 hl
theorem IntsIn.len {w : World} {P : Nat → Prop} {l : List Int} {a : Option Addr} {cap : Nat} (h : IntsIn w P l a cap) : l.length ≤ 9223372036854775807 := by
  have h1 := h.1
  have h2 := h.2.1
  unfold maxLen at h2
  omega
theorem IntsIn.mk {w : World} {P : Nat → Prop} {l : List Int} {b o cap : Nat} (h1 : l.length ≤ cap) (h2 : cap ≤ 1000000) (hP : P b) (hf : ∀ i, i < l.length → w.cell? ⟨b, o + i, .none⟩ = .some (.int .i64 (l.getD i 0))) : IntsIn w P l (.some ⟨b, o, .none⟩) cap :=
  ⟨h1, (by unfold maxLen; omega), (fun h => by cases h), (fun _ => ⟨b, o, rfl, hP, hf⟩)⟩
end Go.Proofs.YtnfhpombnbpdcaaGreat
namespace Go.Proofs.YtnfhpombnbpdcaaGreat
open Go.RowKit
theorem IOwn.ints {w : World} {base : Nat} {x : Option Addr} {c : Nat} {zs : List Int} (h : IOwn w base (.slice x zs.length c) zs) : IntsIn w (· < w.heap.size) zs x c := by
  rcases h.2 with ⟨e, h0⟩ | ⟨g, cap, cur, e, hb, hh, hle, hm, _⟩
  · injection e with e1 _ e3
    subst e1 e3
    exact ⟨by omega, Nat.zero_le _, fun _ => rfl, fun hx => by omega⟩
  · injection e with e1 _ e3
    subst e1 e3
    refine ⟨hle, hm, (fun e => by cases e), fun _ => ⟨g, 0, rfl, lt_of_block hh, fun i hi => ?_⟩⟩
    obtain ⟨g', c', hv, _, _, hc⟩ := h.at hi
    injection hv with h1 _ _
    injection h1 with h1
    injection h1 with h1 _ _
    subst h1
    rw [Nat.zero_add]
    exact hc
end Go.Proofs.YtnfhpombnbpdcaaGreat
namespace Go.Proofs.YtnfhpombnbpdcaaGreat
open Go.RowKit
theorem heldT {wr w' : World} {x y b b' o o' j cap cap' cap1 cap2 L : Nat} {k1 n1 k2 n2 : Int} {a1 a2 : Option Addr} {l l' : Nat} (hb : Below wr.heap.size wr w') (hx : x < wr.heap.size) (hy : y < wr.heap.size) (h1 : b < wr.heap.size) (h2 : b' < wr.heap.size)
    (c2 : wr.cell? ⟨x, 2, none⟩ = some (.slice (some ⟨b, o, none⟩) L cap)) (c5 : wr.cell? ⟨y, 2, none⟩ = some (.slice (some ⟨b', o', none⟩) L cap'))
    (e0 : wr.cell? ⟨b, o + j * 3, none⟩ = some (.int .i64 k1)) (e1 : wr.cell? ⟨b, o + j * 3 + 1, none⟩ = some (.int .i64 n1)) (e2 : wr.cell? ⟨b, o + j * 3 + 2, none⟩ = some (.slice a1 l cap1))
    (e3 : wr.cell? ⟨b', o' + j * 3, none⟩ = some (.int .i64 k2)) (e4 : wr.cell? ⟨b', o' + j * 3 + 1, none⟩ = some (.int .i64 n2)) (e5 : wr.cell? ⟨b', o' + j * 3 + 2, none⟩ = some (.slice a2 l' cap2)) :
    Hid (Below wr.heap.size wr w') ∧ w'.cell? ⟨x, 2, none⟩ = some (.slice (some ⟨b, o, none⟩) L cap) ∧ w'.cell? ⟨y, 2, none⟩ = some (.slice (some ⟨b', o', none⟩) L cap') ∧
      w'.cell? ⟨b, o + j * 3, none⟩ = some (.int .i64 k1) ∧ w'.cell? ⟨b, o + j * 3 + 1, none⟩ = some (.int .i64 n1) ∧ w'.cell? ⟨b, o + j * 3 + 2, none⟩ = some (.slice a1 l cap1) ∧
      w'.cell? ⟨b', o' + j * 3, none⟩ = some (.int .i64 k2) ∧ w'.cell? ⟨b', o' + j * 3 + 1, none⟩ = some (.int .i64 n2) ∧ w'.cell? ⟨b', o' + j * 3 + 2, none⟩ = some (.slice a2 l' cap2) :=
  ⟨Lib.hid hb, (bcell hb _ _ hx).trans c2, (bcell hb _ _ hy).trans c5, (bcell hb _ _ h1).trans e0, (bcell hb _ _ h1).trans e1, (bcell hb _ _ h1).trans e2, (bcell hb _ _ h2).trans e3, (bcell hb _ _ h2).trans e4, (bcell hb _ _ h2).trans e5⟩
set_option maxRecDepth 100000 in
set_option maxHeartbeats 2000000 in
theorem rSame_any (s : Nat) : ∀ (f g : Fo), f.size < s → ∀ (k n k' n' : Int) (a a' : Option Addr) (cap cap' B : Nat) (w : World), SlIn w (· < B) f a cap → SlIn w (· < B) g a' cap' → B ≤ w.heap.size →
    Calls Tryz.prog 28 #[.agg #[.int .i64 k, .int .i64 n, .slice a f.len cap], .agg #[.int .i64 k', .int .i64 n', .slice a' g.len cap']] w fun e w' => e = .returned (.bool (decide (k = k' ∧ n = n' ∧ f = g))) ∧ Below w.heap.size w w' := by
  induction s with
  | zero => intro f g hs; omega
  | succ s ih =>
    intro f g hs k n k' n' a a' cap cap' B w hsl hsl' hB
    have IH := Lib.hid ih
    clear ih
    have hlen := hsl.len
    have hlen' := hsl'.len
    have hbx : Below w.heap.size w ((w.alloc (.cells #[.int .i64 k, .int .i64 n, .slice a f.len cap] 45)).alloc (.cells #[.int .i64 k', .int .i64 n', .slice a' g.len cap'] 45)) := ((Below.refl _ _).alloc (Nat.le_refl _) _).alloc (by simp) _
    by_cases h1 : k = k'
    · by_cases h2 : n = n'
      · by_cases h3 : f.len = g.len
        · subst h1 h2
          have HP : Hid (decide (k = k ∧ n = n ∧ f = g) = decide (f = g)) := Lib.hid (by simp)
          rw [HP.out]
          obtain ⟨L, hLf, hLg⟩ : ∃ L, f.len = L ∧ g.len = L := ⟨_, h3, rfl⟩
          have H3 := Lib.hid hLf
          have HL := Lib.hid hLg
          rw [hLf] at hlen
          rw [hLf, hLg] at hbx
          rw [hLf, hLg]
          clear h3 hLf hLg HP hlen'
          go_enter Tryz.func28, Tryz.ntmps28
          go_wp2_with fail
          go_loopw [5] (fun i wr => ∃ (j : Nat) (r r' : Fo), i = .int .i64 j ∧ Hid (j + r.len = L) ∧ Hid (r.len = r'.len) ∧ Hid (r.size ≤ f.size) ∧
              Hid (∀ b o, a = some ⟨b, o, none⟩ → FoIn w (· < B) r b (o + j * 3)) ∧ Hid (∀ b o, a' = some ⟨b, o, none⟩ → FoIn w (· < B) r' b (o + j * 3)) ∧ Hid (decide (f = g) = decide (r = r')) ∧
              Below (w.heap.size + 2) ((w.alloc (.cells #[.int .i64 k, .int .i64 n, .slice a L cap] 45)).alloc (.cells #[.int .i64 k, .int .i64 n, .slice a' L cap'] 45)) wr)
            (fun i _ => L - (intOf i).toNat)
          case atStart => exact ⟨0, f, g, rfl, Lib.hid (by rw [H3.out]; omega), Lib.hid (by rw [H3.out, HL.out]), Lib.hid (Nat.le_refl _), Lib.hid (by rintro b o rfl; simpa using hsl.foIn), Lib.hid (by rintro b o rfl; simpa using hsl'.foIn), Lib.hid rfl, Below.refl _ _⟩
          case round =>
            obtain ⟨j, r, r', rfl, hj, hjj, hrs, hin, hin', heq, hb⟩ := hrel
            have c2 := bcell hb w.heap.size 2 (by omega)
            have c5 := bcell hb (w.heap.size + 1) 2 (by omega)
            simp at c2 c5
            have hwB : Below B w wr := (hbx.mono hB).trans (hb.mono (by omega))
            have hwW : Below w.heap.size w wr := hbx.trans (hb.mono (by omega))
            have HSZ : Hid (w.heap.size + 2 ≤ wr.heap.size) := Lib.hid (by have := hb.size; simpa using this)
            match r, r' with
            | .nil, .cons .. => have := hjj.out; simp [Fo.len] at this
            | .cons .., .nil => have := hjj.out; simp [Fo.len] at this
            | .nil, .nil =>
              have hlt : ¬ (j : Int) < (L : Int) := by have := hj.out; simp [Fo.len] at this; omega
              have d' : decide ((j : Int) < (L : Int)) = false := by simpa using hlt
              go_wp2_with fail
              go_ret
              exact ⟨by rw [heq.out]; rfl, hwW⟩
            | .cons k1 n1 ks r1, .cons k2 n2 ks' r2 =>
              have hlt : j < L := by have := hj.out; simp [Fo.len] at this; omega
              obtain ⟨b, o, rfl, hbB, _⟩ := hsl.some (by rw [H3.out]; omega)
              obtain ⟨b', o', rfl, hbB', _⟩ := hsl'.some (by rw [HL.out]; omega)
              obtain ⟨e0, e1, ⟨a1, cap1, e2, hsl1⟩, _⟩ := (hin.out b o rfl).below hwB _ _ _ hbB |>.first
              obtain ⟨e3, e4, ⟨a2, cap2, e5, hsl2⟩, _⟩ := (hin'.out b' o' rfl).below hwB _ _ _ hbB' |>.first
              have hks : ks.size < s := by have := hrs.out; simp [Fo.size] at this; omega
              have HC : Hid (∀ v, decide (k1 = k2 ∧ n1 = n2 ∧ ks = ks') = v → decide (Fo.cons k1 n1 ks r1 = Fo.cons k2 n2 ks' r2) = (v && decide (r1 = r2))) := Lib.hid (by
                rintro v rfl
                rw [Bool.eq_iff_iff]
                simp [and_assoc])
              have C1 := Lib.hid (fun W h1 h2 h3 => IH.out ks ks' hks k1 n1 k2 n2 a1 a2 cap1 cap2 B W h1 h2 h3)
              generalize hv : decide (k1 = k2 ∧ n1 = n2 ∧ ks = ks') = v at C1
              have HC' := Lib.hid (HC.out v hv)
              clear HC hv
              have hlt' : (j : Int) < (L : Int) := by omega
              go_wp2_with fail
              go_region_held3 (fun w' => Hid (Below wr.heap.size wr w') ∧ w'.cell? ⟨w.heap.size, 2, none⟩ = some (.slice (some ⟨b, o, none⟩) L cap) ∧ w'.cell? ⟨w.heap.size + 1, 2, none⟩ = some (.slice (some ⟨b', o', none⟩) L cap') ∧
                  w'.cell? ⟨b, o + j * 3, none⟩ = some (.int .i64 k1) ∧ w'.cell? ⟨b, o + j * 3 + 1, none⟩ = some (.int .i64 n1) ∧ w'.cell? ⟨b, o + j * 3 + 2, none⟩ = some (.slice a1 ks.len cap1) ∧
                  w'.cell? ⟨b', o' + j * 3, none⟩ = some (.int .i64 k2) ∧ w'.cell? ⟨b', o' + j * 3 + 1, none⟩ = some (.int .i64 n2) ∧ w'.cell? ⟨b', o' + j * 3 + 2, none⟩ = some (.slice a2 ks'.len cap2))
                (first | exact ⟨Lib.hid (Below.refl _ _).drew, c2, c5, e0, e1, e2, e3, e4, e5⟩ | exact heldT (Below.step (Below.refl _ _).drew hbN (Nat.le_refl _)) (by have := HSZ.out; omega) (by have := HSZ.out; omega) (by have := HSZ.out; omega) (by have := HSZ.out; omega) c2 c5 e0 e1 e2 e3 e4 e5)
                (first | (go_at_call 28; refine (C1.out _ (by exact hsl1.below (Below.refl _ _).drew) (by exact hsl2.below (Below.refl _ _).drew) (by exact Nat.le_trans hB hwB.size)).mono ?_; rintro e wN ⟨rfl, hbN⟩))
              have hbE := Lib.hid (Below.step hb (Below.step (Below.refl _ _).drew hbN (Nat.le_refl _)) (by simp))
              have hwE := Lib.hid (Below.step hwW (Below.step (Below.refl _ _).drew hbN (Nat.le_refl _)) (Nat.le_refl _))
              clear c2 c5 e0 e1 e2 e3 e4 e5
              cases v with
              | true =>
                go_wp2_with fail
                go_roundw
                case rel => exact ⟨j + 1, r1, r2, by go_num, Lib.hid (by have := hj.out; simp [Fo.len] at this; omega), Lib.hid (by have := hjj.out; simpa [Fo.len] using this), Lib.hid (by have := hrs.out; simp [Fo.size] at this; omega), Lib.hid (by rintro b' o' h; cases h; have := (hin.out b o rfl).2.2.2; rwa [show o + (j + 1) * 3 = o + j * 3 + 3 by omega]), Lib.hid (by rintro b1 o1 h; cases h; have := (hin'.out b' o' rfl).2.2.2; rwa [show o' + (j + 1) * 3 = o' + j * 3 + 3 by omega]), Lib.hid (by rw [heq.out, HC'.out]; rfl), hbE.out⟩
                case measure => simp [intOf]; omega
              | false =>
                go_wp2_with fail
                go_ret
                exact ⟨by rw [heq.out, HC'.out]; rfl, hwE.out⟩
        · have d3 : ((f.len : Int) != (g.len : Int)) = true := by rw [bne_iff_ne]; omega
          have e : decide (k = k' ∧ n = n' ∧ f = g) = false := decide_eq_false (fun h => h3 (by rw [h.2.2]))
          rw [e]
          subst h1 h2
          clear e h3
          go_enter Tryz.func28, Tryz.ntmps28
          go_wp2_with fail
          go_ret
          exact ⟨rfl, hbx⟩
      · have d2 : (n != n') = true := by rw [bne_iff_ne]; exact h2
        have e : decide (k = k' ∧ n = n' ∧ f = g) = false := decide_eq_false (fun h => h2 h.2.1)
        rw [e]
        subst h1
        clear e h2
        go_enter Tryz.func28, Tryz.ntmps28
        go_wp2_with fail
        go_ret
        exact ⟨rfl, hbx⟩
    · have d1 : (k != k') = true := by rw [bne_iff_ne]; exact h1
      have e : decide (k = k' ∧ n = n' ∧ f = g) = false := decide_eq_false (fun h => h1 h.1)
      rw [e]
      clear e h1
      go_enter Tryz.func28, Tryz.ntmps28
      go_wp2_with fail
      go_ret
      exact ⟨rfl, hbx⟩
end Go.Proofs.YtnfhpombnbpdcaaGreat
namespace Go.Proofs.YtnfhpombnbpdcaaGreat
open Go.RowKit
theorem heldT3 {wr w' : World} {x y b b' i i' c : Nat} {s1 s2 k1 n1 a1 k2 n2 a2 : Value} (hb : Below wr.heap.size wr w') (hx : x < wr.heap.size) (hy : y < wr.heap.size) (h1 : b < wr.heap.size) (h2 : b' < wr.heap.size)
    (c2 : wr.cell? ⟨x, c, none⟩ = some s1) (c5 : wr.cell? ⟨y, c, none⟩ = some s2)
    (e0 : wr.cell? ⟨b, i, none⟩ = some k1) (e1 : wr.cell? ⟨b, i + 1, none⟩ = some n1) (e2 : wr.cell? ⟨b, i + 2, none⟩ = some a1)
    (e3 : wr.cell? ⟨b', i', none⟩ = some k2) (e4 : wr.cell? ⟨b', i' + 1, none⟩ = some n2) (e5 : wr.cell? ⟨b', i' + 2, none⟩ = some a2) :
    Hid (Below wr.heap.size wr w') ∧ w'.cell? ⟨x, c, none⟩ = some s1 ∧ w'.cell? ⟨y, c, none⟩ = some s2 ∧ w'.cell? ⟨b, i, none⟩ = some k1 ∧ w'.cell? ⟨b, i + 1, none⟩ = some n1 ∧ w'.cell? ⟨b, i + 2, none⟩ = some a1 ∧ w'.cell? ⟨b', i', none⟩ = some k2 ∧ w'.cell? ⟨b', i' + 1, none⟩ = some n2 ∧ w'.cell? ⟨b', i' + 2, none⟩ = some a2 :=
  ⟨Lib.hid hb, (bcell hb _ _ hx).trans c2, (bcell hb _ _ hy).trans c5, (bcell hb _ _ h1).trans e0, (bcell hb _ _ h1).trans e1, (bcell hb _ _ h1).trans e2, (bcell hb _ _ h2).trans e3, (bcell hb _ _ h2).trans e4, (bcell hb _ _ h2).trans e5⟩
theorem heldT4 {wr w' : World} {x y b b' i i' c : Nat} {s1 s2 k1 n1 a1 f1 k2 n2 a2 f2 : Value} (hb : Below wr.heap.size wr w') (hx : x < wr.heap.size) (hy : y < wr.heap.size) (h1 : b < wr.heap.size) (h2 : b' < wr.heap.size)
    (c2 : wr.cell? ⟨x, c, none⟩ = some s1) (c5 : wr.cell? ⟨y, c, none⟩ = some s2)
    (e0 : wr.cell? ⟨b, i, none⟩ = some k1) (e1 : wr.cell? ⟨b, i + 1, none⟩ = some n1) (e2 : wr.cell? ⟨b, i + 2, none⟩ = some a1) (e2' : wr.cell? ⟨b, i + 3, none⟩ = some f1)
    (e3 : wr.cell? ⟨b', i', none⟩ = some k2) (e4 : wr.cell? ⟨b', i' + 1, none⟩ = some n2) (e5 : wr.cell? ⟨b', i' + 2, none⟩ = some a2) (e5' : wr.cell? ⟨b', i' + 3, none⟩ = some f2) :
    Hid (Below wr.heap.size wr w') ∧ w'.cell? ⟨x, c, none⟩ = some s1 ∧ w'.cell? ⟨y, c, none⟩ = some s2 ∧ w'.cell? ⟨b, i, none⟩ = some k1 ∧ w'.cell? ⟨b, i + 1, none⟩ = some n1 ∧ w'.cell? ⟨b, i + 2, none⟩ = some a1 ∧ w'.cell? ⟨b, i + 3, none⟩ = some f1 ∧ w'.cell? ⟨b', i', none⟩ = some k2 ∧ w'.cell? ⟨b', i' + 1, none⟩ = some n2 ∧ w'.cell? ⟨b', i' + 2, none⟩ = some a2 ∧ w'.cell? ⟨b', i' + 3, none⟩ = some f2 :=
  ⟨Lib.hid hb, (bcell hb _ _ hx).trans c2, (bcell hb _ _ hy).trans c5, (bcell hb _ _ h1).trans e0, (bcell hb _ _ h1).trans e1, (bcell hb _ _ h1).trans e2, (bcell hb _ _ h1).trans e2', (bcell hb _ _ h2).trans e3, (bcell hb _ _ h2).trans e4, (bcell hb _ _ h2).trans e5, (bcell hb _ _ h2).trans e5'⟩
set_option maxRecDepth 100000 in
set_option maxHeartbeats 4000000 in
theorem r13same_any (s : Nat) : ∀ (f g : Ft), f.size < s → ∀ (k n k' n' : Int) (ls ls' : Fo) (la la' a a' : Option Addr) (lc lc' cap cap' B : Nat) (w : World), SlIn w (· < B) ls la lc → SlIn w (· < B) ls' la' lc' → TlIn w (· < B) f a cap → TlIn w (· < B) g a' cap' → B ≤ w.heap.size →
    Calls Tryz.prog 20 #[.agg #[.int .i64 k, .int .i64 n, .slice la ls.len lc, .slice a f.len cap], .agg #[.int .i64 k', .int .i64 n', .slice la' ls'.len lc', .slice a' g.len cap']] w fun e w' => e = .returned (.bool (decide (Ft.cons k n ls f .nil = Ft.cons k' n' ls' g .nil))) ∧ Below w.heap.size w w' := by
  induction s with
  | zero => intro f g hs; omega
  | succ s ih =>
    intro f g hs k n k' n' ls ls' la la' a a' lc lc' cap cap' B w hl hl' hsl hsl' hB
    have IH := Lib.hid ih
    clear ih
    have hlen := hsl.len
    have hlen2 := hl.len
    have hbx : Below w.heap.size w ((w.alloc (.cells #[.int .i64 k, .int .i64 n, .slice la ls.len lc, .slice a f.len cap] 30)).alloc (.cells #[.int .i64 k', .int .i64 n', .slice la' ls'.len lc', .slice a' g.len cap'] 30)) := ((Below.refl _ _).alloc (Nat.le_refl _) _).alloc (by simp) _
    by_cases h1 : k = k'
    · by_cases h2 : n = n'
      · by_cases h3 : ls.len = ls'.len
        · by_cases h4 : f.len = g.len
          · subst h1 h2
            have HP : Hid (decide (Ft.cons k n ls f .nil = Ft.cons k n ls' g .nil) = decide (ls = ls' ∧ f = g)) := Lib.hid (by simp)
            generalize decide (Ft.cons k n ls f .nil = Ft.cons k n ls' g .nil) = res at HP
            obtain ⟨M, hMf, hMg⟩ : ∃ M, ls.len = M ∧ ls'.len = M := ⟨_, h3, rfl⟩
            obtain ⟨L, hLf, hLg⟩ : ∃ L, f.len = L ∧ g.len = L := ⟨_, h4, rfl⟩
            have H3 := Lib.hid hLf
            have HL := Lib.hid hLg
            have M3 := Lib.hid hMf
            have ML := Lib.hid hMg
            rw [hLf] at hlen
            rw [hMf] at hlen2
            rw [hLf, hLg, hMf, hMg] at hbx
            rw [hLf, hLg, hMf, hMg]
            clear h3 h4 hLf hLg hMf hMg
            go_enter Tryz.func20, Tryz.ntmps20
            go_wp2_with fail
            go_loopw [5] (fun i wr => ∃ (j : Nat) (r r' : Fo), i = .int .i64 j ∧ Hid (j + r.len = M) ∧ Hid (r.len = r'.len) ∧
                Hid (∀ b o, la = some ⟨b, o, none⟩ → FoIn w (· < B) r b (o + j * 3)) ∧ Hid (∀ b o, la' = some ⟨b, o, none⟩ → FoIn w (· < B) r' b (o + j * 3)) ∧ Hid (res = decide (r = r' ∧ f = g)) ∧
                Hid (Below (w.heap.size + 2) ((w.alloc (.cells #[.int .i64 k, .int .i64 n, .slice la M lc, .slice a L cap] 30)).alloc (.cells #[.int .i64 k, .int .i64 n, .slice la' M lc', .slice a' L cap'] 30)) wr))
              (fun i _ => M - (intOf i).toNat)
            case atStart => exact ⟨0, ls, ls', rfl, Lib.hid (by rw [M3.out]; omega), Lib.hid (by rw [M3.out, ML.out]), Lib.hid (by rintro b o rfl; simpa using hl.foIn), Lib.hid (by rintro b o rfl; simpa using hl'.foIn), HP, Lib.hid (Below.refl _ _)⟩
            case round =>
              obtain ⟨j, r, r', rfl, hj, hjj, hin, hin', heq, hb⟩ := hrel
              have c2 := bcell hb.out w.heap.size 2 (by omega)
              have c3 := bcell hb.out w.heap.size 3 (by omega)
              have c5 := bcell hb.out (w.heap.size + 1) 2 (by omega)
              have c6 := bcell hb.out (w.heap.size + 1) 3 (by omega)
              simp at c2 c3 c5 c6
              have HSZ : Hid (w.heap.size + 2 ≤ wr.heap.size) := Lib.hid (by have := hb.out.size; simpa using this)
              have HWW : Hid (Below w.heap.size w wr) := Lib.hid (hbx.trans (hb.out.mono (by omega)))
              match r, r', hj, hjj, hin, hin', heq with
              | .nil, .cons .., _, hjj, _, _, _ => have := hjj.out; simp [Fo.len] at this
              | .cons .., .nil, _, hjj, _, _, _ => have := hjj.out; simp [Fo.len] at this
              | .nil, .nil, hj, _, _, _, heq =>
                have hlt : ¬ (j : Int) < (M : Int) := by have := hj.out; simp [Fo.len] at this; omega
                have d' : decide ((j : Int) < (M : Int)) = false := by simpa using hlt
                have HP2 : Hid (res = decide (f = g)) := Lib.hid (by rw [heq.out]; simp)
                have HB2 := hb
                clear heq hj
                have W1 : ∃ W, W = wr := ⟨_, rfl⟩
                obtain ⟨W, hW⟩ := W1
                rw [← hW] at c2 c3 c5 c6 HSZ HWW HB2 hb ⊢
                clear hb hW
                go_wp2_with fail
                go_loopw [6] (fun i wr => ∃ (j : Nat) (r r' : Ft), i = .int .i64 j ∧ Hid (j + r.len = L) ∧ Hid (r.len = r'.len) ∧ Hid (r.size ≤ f.size) ∧
                    Hid (∀ b o, a = some ⟨b, o, none⟩ → FtIn w (· < B) r b (o + j * 4)) ∧ Hid (∀ b o, a' = some ⟨b, o, none⟩ → FtIn w (· < B) r' b (o + j * 4)) ∧ Hid (res = decide (r = r')) ∧
                    Hid (Below (w.heap.size + 2) ((w.alloc (.cells #[.int .i64 k, .int .i64 n, .slice la M lc, .slice a L cap] 30)).alloc (.cells #[.int .i64 k, .int .i64 n, .slice la' M lc', .slice a' L cap'] 30)) wr))
                  (fun i _ => L - (intOf i).toNat)
                case atStart => exact ⟨0, f, g, rfl, Lib.hid (by rw [H3.out]; omega), Lib.hid (by rw [H3.out, HL.out]), Lib.hid (Nat.le_refl _), Lib.hid (by rintro b o rfl; simpa using hsl.ftIn), Lib.hid (by rintro b o rfl; simpa using hsl'.ftIn), HP2, HB2⟩
                case round =>
                  clear c2 c3 c5 c6 d' hlt
                  obtain ⟨j, r, r', rfl, hj, hjj, hrs, hin, hin', heq, hb⟩ := hrel
                  have c3 := bcell hb.out w.heap.size 3 (by omega)
                  have c6 := bcell hb.out (w.heap.size + 1) 3 (by omega)
                  simp at c3 c6
                  have HWr : Hid (Below w.heap.size w wr) := Lib.hid (hbx.trans (hb.out.mono (by omega)))
                  have hwB : Below B w wr := HWr.out.mono hB
                  have HSZ : Hid (w.heap.size + 2 ≤ wr.heap.size) := Lib.hid (by have := hb.out.size; simpa using this)
                  match r, r', hj, hjj, hrs, hin, hin', heq with
                  | .nil, .cons .., _, hjj, _, _, _, _ => have := hjj.out; simp [Ft.len] at this
                  | .cons .., .nil, _, hjj, _, _, _, _ => have := hjj.out; simp [Ft.len] at this
                  | .nil, .nil, hj, _, _, _, _, heq =>
                    have hlt : ¬ (j : Int) < (L : Int) := by have := hj.out; simp [Ft.len] at this; omega
                    have d' : decide ((j : Int) < (L : Int)) = false := by simpa using hlt
                    go_wp2_with fail
                    go_ret
                    exact ⟨by rw [heq.out]; rfl, HWr.out⟩
                  | .cons k1 n1 l1 ks r1, .cons k2 n2 l2 ks' r2, hj, hjj, hrs, hin, hin', heq =>
                    have hlt : j < L := by have := hj.out; simp [Ft.len] at this; omega
                    have hlt' : (j : Int) < (L : Int) := by omega
                    obtain ⟨b, o, rfl, hbB, _⟩ := hsl.some (by rw [H3.out]; omega)
                    obtain ⟨b', o', rfl, hbB', _⟩ := hsl'.some (by rw [HL.out]; omega)
                    obtain ⟨e0, e1, ⟨u1, v1, e2, hl1⟩, ⟨a1, cap1, e2', hsl1⟩, _⟩ := (hin.out b o rfl).below hwB _ _ _ hbB |>.first
                    obtain ⟨e3, e4, ⟨u2, v2, e5, hl2⟩, ⟨a2, cap2, e5', hsl2⟩, _⟩ := (hin'.out b' o' rfl).below hwB _ _ _ hbB' |>.first
                    have hks : ks.size < s := by have := hrs.out; simp [Ft.size] at this; omega
                    have HC : Hid (∀ v, decide (Ft.cons k1 n1 l1 ks .nil = Ft.cons k2 n2 l2 ks' .nil) = v → decide (Ft.cons k1 n1 l1 ks r1 = Ft.cons k2 n2 l2 ks' r2) = (v && decide (r1 = r2))) := Lib.hid (by
                      rintro v rfl
                      rw [Bool.eq_iff_iff]
                      simp [and_assoc])
                    have hbr : b < wr.heap.size := by have := HWr.out.size; omega
                    have hbr' : b' < wr.heap.size := by have := HWr.out.size; omega
                    have hz1 : w.heap.size < wr.heap.size := by have := HSZ.out; omega
                    have hz2 : w.heap.size + 1 < wr.heap.size := by have := HSZ.out; omega
                    have hBr : B ≤ wr.heap.size := Nat.le_trans hB HWr.out.size
                    have C1 := Lib.hid (IH.out ks ks' hks k1 n1 k2 n2 l1 l2 u1 u2 a1 a2 v1 v2 cap1 cap2 B wr.drew (hl1.below (Below.refl _ _).drew) (hl2.below (Below.refl _ _).drew) (hsl1.below (Below.refl _ _).drew) (hsl2.below (Below.refl _ _).drew) hBr)
                    generalize hv : decide (Ft.cons k1 n1 l1 ks .nil = Ft.cons k2 n2 l2 ks' .nil) = v at C1
                    have HC' := Lib.hid (HC.out v hv)
                    clear HC hv hl1 hl2 hsl1 hsl2
                    go_wp2_with fail
                    go_region_held3 (fun w' => Hid (Below wr.heap.size wr w') ∧ w'.cell? ⟨w.heap.size, 3, none⟩ = some (.slice (some ⟨b, o, none⟩) L cap) ∧ w'.cell? ⟨w.heap.size + 1, 3, none⟩ = some (.slice (some ⟨b', o', none⟩) L cap') ∧
                        w'.cell? ⟨b, o + j * 4, none⟩ = some (.int .i64 k1) ∧ w'.cell? ⟨b, o + j * 4 + 1, none⟩ = some (.int .i64 n1) ∧ w'.cell? ⟨b, o + j * 4 + 2, none⟩ = some (.slice u1 l1.len v1) ∧ w'.cell? ⟨b, o + j * 4 + 3, none⟩ = some (.slice a1 ks.len cap1) ∧
                        w'.cell? ⟨b', o' + j * 4, none⟩ = some (.int .i64 k2) ∧ w'.cell? ⟨b', o' + j * 4 + 1, none⟩ = some (.int .i64 n2) ∧ w'.cell? ⟨b', o' + j * 4 + 2, none⟩ = some (.slice u2 l2.len v2) ∧ w'.cell? ⟨b', o' + j * 4 + 3, none⟩ = some (.slice a2 ks'.len cap2))
                      (first | exact ⟨Lib.hid (Below.refl _ _).drew, c3, c6, e0, e1, e2, e2', e3, e4, e5, e5'⟩ | exact heldT4 (Below.step (Below.refl _ _).drew hbN (Nat.le_refl _)) hz1 hz2 hbr hbr' c3 c6 e0 e1 e2 e2' e3 e4 e5 e5')
                      (first | (go_at_call 20; refine C1.out.mono ?_; rintro e wN ⟨rfl, hbN⟩))
                    have hbE := Lib.hid (Below.step hb.out (Below.step (Below.refl _ _).drew hbN (Nat.le_refl _)) (by simp))
                    have hwE := Lib.hid (Below.step HWr.out (Below.step (Below.refl _ _).drew hbN (Nat.le_refl _)) (Nat.le_refl _))
                    clear c3 c6 e0 e1 e2 e2' e3 e4 e5 e5' hbN C1
                    cases v with
                    | true =>
                      go_wp2_with fail
                      go_roundw
                      case rel => exact ⟨j + 1, r1, r2, by go_num, Lib.hid (by have := hj.out; simp [Ft.len] at this; omega), Lib.hid (by have := hjj.out; simpa [Ft.len] using this), Lib.hid (by have := hrs.out; simp [Ft.size] at this; omega), Lib.hid (by rintro b' o' h; cases h; have := (hin.out b o rfl).2.2.2.2; rwa [show o + (j + 1) * 4 = o + j * 4 + 4 by omega]), Lib.hid (by rintro b1 o1 h; cases h; have := (hin'.out b' o' rfl).2.2.2.2; rwa [show o' + (j + 1) * 4 = o' + j * 4 + 4 by omega]), Lib.hid (by rw [heq.out, HC'.out]; rfl), hbE⟩
                      case measure => simp [intOf]; omega
                    | false =>
                      go_wp2_with fail
                      go_ret
                      exact ⟨by rw [heq.out, HC'.out]; rfl, hwE.out⟩
              | .cons k1 n1 ks r1, .cons k2 n2 ks' r2, hj, hjj, hin, hin', heq =>
                have hwB : Below B w wr := HWW.out.mono hB
                have hlt : j < M := by have := hj.out; simp [Fo.len] at this; omega
                have hlt' : (j : Int) < (M : Int) := by omega
                obtain ⟨b, o, rfl, hbB, _⟩ := hl.some (by rw [M3.out]; omega)
                obtain ⟨b', o', rfl, hbB', _⟩ := hl'.some (by rw [ML.out]; omega)
                obtain ⟨e0, e1, ⟨a1, cap1, e2, hsl1⟩, _⟩ := (hin.out b o rfl).below hwB _ _ _ hbB |>.first
                obtain ⟨e3, e4, ⟨a2, cap2, e5, hsl2⟩, _⟩ := (hin'.out b' o' rfl).below hwB _ _ _ hbB' |>.first
                have HC : Hid (∀ v, decide (k1 = k2 ∧ n1 = n2 ∧ ks = ks') = v → decide (Fo.cons k1 n1 ks r1 = Fo.cons k2 n2 ks' r2 ∧ f = g) = (v && decide (r1 = r2 ∧ f = g))) := Lib.hid (by
                  rintro v rfl
                  rw [Bool.eq_iff_iff]
                  simp [and_assoc])
                have hbr : b < wr.heap.size := by have := HWW.out.size; omega
                have hbr' : b' < wr.heap.size := by have := HWW.out.size; omega
                have hz1 : w.heap.size < wr.heap.size := by have := HSZ.out; omega
                have hz2 : w.heap.size + 1 < wr.heap.size := by have := HSZ.out; omega
                have C1 := Lib.hid (rSame_any (ks.size + 1) ks ks' (Nat.lt_succ_self _) k1 n1 k2 n2 a1 a2 cap1 cap2 B wr.drew (hsl1.below (Below.refl _ _).drew) (hsl2.below (Below.refl _ _).drew) (Nat.le_trans hB HWW.out.size))
                generalize hv : decide (k1 = k2 ∧ n1 = n2 ∧ ks = ks') = v at C1
                have HC' := Lib.hid (HC.out v hv)
                clear HC hv hsl1 hsl2
                go_wp2_with fail
                go_region_held3 (fun w' => Hid (Below wr.heap.size wr w') ∧ w'.cell? ⟨w.heap.size, 2, none⟩ = some (.slice (some ⟨b, o, none⟩) M lc) ∧ w'.cell? ⟨w.heap.size + 1, 2, none⟩ = some (.slice (some ⟨b', o', none⟩) M lc') ∧
                    w'.cell? ⟨b, o + j * 3, none⟩ = some (.int .i64 k1) ∧ w'.cell? ⟨b, o + j * 3 + 1, none⟩ = some (.int .i64 n1) ∧ w'.cell? ⟨b, o + j * 3 + 2, none⟩ = some (.slice a1 ks.len cap1) ∧
                    w'.cell? ⟨b', o' + j * 3, none⟩ = some (.int .i64 k2) ∧ w'.cell? ⟨b', o' + j * 3 + 1, none⟩ = some (.int .i64 n2) ∧ w'.cell? ⟨b', o' + j * 3 + 2, none⟩ = some (.slice a2 ks'.len cap2))
                  (first | exact ⟨Lib.hid (Below.refl _ _).drew, c2, c5, e0, e1, e2, e3, e4, e5⟩ | exact heldT3 (Below.step (Below.refl _ _).drew hbN (Nat.le_refl _)) hz1 hz2 hbr hbr' c2 c5 e0 e1 e2 e3 e4 e5)
                  (first | (go_at_call 28; refine C1.out.mono ?_; rintro e wN ⟨rfl, hbN⟩))
                have hbE := Lib.hid (Below.step hb.out (Below.step (Below.refl _ _).drew hbN (Nat.le_refl _)) (by simp))
                have hwE := Lib.hid (Below.step HWW.out (Below.step (Below.refl _ _).drew hbN (Nat.le_refl _)) (Nat.le_refl _))
                clear c2 c3 c5 c6 e0 e1 e2 e3 e4 e5 hbN C1
                cases v with
                | true =>
                  go_wp2_with fail
                  go_roundw
                  case rel => exact ⟨j + 1, r1, r2, by go_num, Lib.hid (by have := hj.out; simp [Fo.len] at this; omega), Lib.hid (by have := hjj.out; simpa [Fo.len] using this), Lib.hid (by rintro b' o' h; cases h; have := (hin.out b o rfl).2.2.2; rwa [show o + (j + 1) * 3 = o + j * 3 + 3 by omega]), Lib.hid (by rintro b1 o1 h; cases h; have := (hin'.out b' o' rfl).2.2.2; rwa [show o' + (j + 1) * 3 = o' + j * 3 + 3 by omega]), Lib.hid (by rw [heq.out, HC'.out]; rfl), hbE⟩
                  case measure => simp [intOf]; omega
                | false =>
                  go_wp2_with fail
                  go_ret
                  exact ⟨by rw [heq.out, HC'.out]; rfl, hwE.out⟩
          · have d4 : ((f.len : Int) != (g.len : Int)) = true := by rw [bne_iff_ne]; omega
            have d3 : ((ls.len : Int) != (ls'.len : Int)) = false := by rw [h3]; simp
            have e : decide (Ft.cons k n ls f .nil = Ft.cons k' n' ls' g .nil) = false := decide_eq_false (fun h => h4 (by injection h with _ _ _ h; rw [h]))
            rw [e]
            subst h1 h2
            clear e h3 h4
            go_enter Tryz.func20, Tryz.ntmps20
            go_wp2_with fail
            go_ret
            exact ⟨rfl, hbx⟩
        · have d3 : ((ls.len : Int) != (ls'.len : Int)) = true := by rw [bne_iff_ne]; omega
          have e : decide (Ft.cons k n ls f .nil = Ft.cons k' n' ls' g .nil) = false := decide_eq_false (fun h => h3 (by injection h with _ _ h; rw [h]))
          rw [e]
          subst h1 h2
          clear e h3
          go_enter Tryz.func20, Tryz.ntmps20
          go_wp2_with fail
          go_ret
          exact ⟨rfl, hbx⟩
      · have d2 : (n != n') = true := by rw [bne_iff_ne]; exact h2
        have e : decide (Ft.cons k n ls f .nil = Ft.cons k' n' ls' g .nil) = false := decide_eq_false (fun h => h2 (by injection h))
        rw [e]
        subst h1
        clear e h2
        go_enter Tryz.func20, Tryz.ntmps20
        go_wp2_with fail
        go_ret
        exact ⟨rfl, hbx⟩
    · have d1 : (k != k') = true := by rw [bne_iff_ne]; exact h1
      have e : decide (Ft.cons k n ls f .nil = Ft.cons k' n' ls' g .nil) = false := decide_eq_false (fun h => h1 (by injection h))
      rw [e]
      clear e h1
      go_enter Tryz.func20, Tryz.ntmps20
      go_wp2_with fail
      go_ret
      exact ⟨rfl, hbx⟩
end Go.Proofs.YtnfhpombnbpdcaaGreat
namespace Go.Proofs.YtnfhpombnbpdcaaGreat
open Go.RowKit
theorem r13same_two6 {T : Tm} {la : Option Addr} {lc : Nat} {ka : Option Addr} {kc : Nat} {ua : Option Addr} {uc : Nat} {va : Option Addr} {vc N M : Nat} {W : World} (p : TmIn W N T la lc ka kc) (q : TmIn W M T ua uc va vc) :
    Calls Tryz.prog 20 #[.agg #[.int .i64 T.k, .int .i64 T.n, .slice la T.ls.len lc, .slice ka T.ks.len kc], .agg #[.int .i64 T.k, .int .i64 T.n, .slice ua T.ls.len uc, .slice va T.ks.len vc]] W fun e w' => e = .returned (.bool true) ∧ Below W.heap.size W w' := by
  have r := r13same_any (T.ks.size + 1) T.ks T.ks (Nat.lt_succ_self _) T.k T.n T.k T.n T.ls T.ls la ua ka va lc uc kc vc W.heap.size W (p.1.mono p.2.2) (q.1.mono q.2.2) (p.2.1.mono p.2.2) (q.2.1.mono q.2.2) (Nat.le_refl _)
  rwa [one_refl T] at r
end Go.Proofs.YtnfhpombnbpdcaaGreat
namespace Go.Proofs.YtnfhpombnbpdcaaGreat
open Go.ChangeShapes Go.WideShapes Go.ChangeAt Go.RowKit
set_option maxRecDepth 100000 in
theorem cellsLevel : Tryz.prog.cellsOf 45 = 3 := by kernel_rfl
set_option maxRecDepth 100000 in
theorem cellsInt : Tryz.prog.cellsOf 3 = 1 := by kernel_rfl
set_option maxRecDepth 100000 in
theorem cellsLevels : Tryz.prog.cellsOf 27 = 1 := by kernel_rfl
section
variable {H : Type} {enc : TypeId × Value → H} {w : World} {base : Nat} {spare : Nat → Bool} {held : Bool}
set_option maxRecDepth 100000 in
theorem forest {w : World} {P : Nat → Prop} {b : Nat} : ∀ (m o : Nat), (∀ i, i < m → ∃ (k n : Int) (ks : Fo) (a : Option Addr) (cap : Nat), w.cell? ⟨b, o + i * 3, none⟩ = some (.int .i64 k) ∧ w.cell? ⟨b, o + i * 3 + 1, none⟩ = some (.int .i64 n) ∧ w.cell? ⟨b, o + i * 3 + 2, none⟩ = some (.slice a ks.len cap) ∧ SlIn w P ks a cap) →
    ∃ F : Fo, F.len = m ∧ FoIn w P F b o
  | 0, _, _ => ⟨.nil, rfl, trivial⟩
  | m + 1, o, h => by
    obtain ⟨F, hl, hF⟩ := forest m (o + 3) (fun i hi => by
      obtain ⟨k, n, ks, a, cap, h0, h1, h2, h3⟩ := h (i + 1) (by omega)
      exact ⟨k, n, ks, a, cap, by rw [show o + 3 + i * 3 = o + (i + 1) * 3 by omega]; exact h0, by rw [show o + 3 + i * 3 = o + (i + 1) * 3 by omega]; exact h1, by rw [show o + 3 + i * 3 = o + (i + 1) * 3 by omega]; exact h2, h3⟩)
    obtain ⟨k, n, ks, a, cap, h0, h1, h2, h3⟩ := h 0 (by omega)
    simp only [Nat.zero_mul, Nat.add_zero] at h0 h1 h2
    exact ⟨.cons k n ks F, by simp [Fo.len, hl], FoIn.push h0 h1 h2 h3 hF⟩
set_option maxRecDepth 100000 in
theorem open_level (fuel : Nat) : ∀ (cs : List Value) (x : DataW H × List MemPlace), DataW.trod enc Tryz.prog w base spare held fuel 45 cs = some x →
    ∃ (k n : Int) (F : Fo) (a : Option Addr) (cap : Nat), cs = [.int .i64 k, .int .i64 n, .slice a F.len cap] ∧ SlIn w (· < w.heap.size) F a cap := by
  induction fuel using Nat.strongRecOn with
  | ind fuel ih =>
    intro cs x h
    obtain ⟨xs, n0, hf, _, hl, hxl, hg⟩ := DataW.trod_struct Tryz.underlying45 h
    rw [cellsLevel] at hl
    match cs, hl with
    | [c0, c1, c2], _ =>
      have hxl' : xs.length = 3 := hxl
      match xs, hxl' with
      | [y0, y1, y2], _ =>
        have t0 : DataW.trod enc Tryz.prog w base spare held n0 3 [c0] = some y0 := by have := hg 0 _ rfl; simpa [cellsInt] using this
        have t1 : DataW.trod enc Tryz.prog w base spare held n0 3 [c1] = some y1 := by have := hg 1 _ rfl; simpa [cellsInt] using this
        have t2 : DataW.trod enc Tryz.prog w base spare held n0 27 [c2] = some y2 := by have := hg 2 _ rfl; simpa [cellsLevels] using this
        obtain ⟨k, e0, _⟩ := DataW.trod_int Tryz.underlying3 t0
        obtain ⟨n, e1, _⟩ := DataW.trod_int Tryz.underlying3 t1
        injection e0 with e0 _
        injection e1 with e1 _
        subst e0 e1
        rcases DataW.trod_slice Tryz.underlying27 t2 with ⟨e2, _⟩ | ⟨a, len, cap, elems, rest, n1, hn1, e2, _, hb, hle, hm, hlen, hel, _⟩
        · injection e2 with e2 _
          subst e2
          exact ⟨k, n, .nil, none, 0, rfl, SlIn.none _ _⟩
        · injection e2 with e2 _
          subst e2
          rw [cellsLevel] at hel
          have each : ∀ i, i < len → ∃ (k n : Int) (ks : Fo) (a' : Option Addr) (cap : Nat), w.cell? (a.add (i * 3)) = some (.int .i64 k) ∧ w.cell? ((a.add (i * 3)).add 1) = some (.int .i64 n) ∧ w.cell? ((a.add (i * 3)).add 2) = some (.slice a' ks.len cap) ∧ SlIn w (· < w.heap.size) ks a' cap := by
            intro i hi
            have h1 := hel i hi
            rw [List.getElem?_eq_getElem (by omega)] at h1
            obtain ⟨cs', hc, ht⟩ := Option.bind_eq_some_iff.1 h1
            obtain ⟨k, n, ks, a', cap, rfl, hs⟩ := ih n1 (by omega) cs' _ ht
            obtain ⟨_, hcl, hat⟩ := World.cells?_some hc
            have q0 := hat 0 (by omega)
            have q1 := hat 1 (by omega)
            have q2 := hat 2 (by omega)
            exact ⟨k, n, ks, a', cap, by simpa [Addr.add] using q0, by simpa using q1, by simpa using q2, hs⟩
          rcases Nat.eq_zero_or_pos len with h0 | h0
          · subst h0
            exact ⟨k, n, .nil, some a, cap, rfl, ⟨Nat.zero_le _, hm, (fun h => by cases h), (fun h => by simp [Fo.len] at h)⟩⟩
          · have hsp : a.spot = none := by
              obtain ⟨k, n, ks, a', cap, q0, _⟩ := each 0 h0
              cases hs : a.spot with
              | none => rfl
              | some y => exfalso; simp [Addr.add, World.cell?, hs] at q0; split at q0 <;> simp at q0
            obtain ⟨b, o, sp⟩ := a
            have hsp' : sp = none := hsp
            subst hsp'
            have hadd : ∀ m, (⟨b, o, none⟩ : Addr).add m = ⟨b, o + m, none⟩ := fun m => by unfold Addr.add; split <;> simp_all
            simp only [hadd] at each
            have hbl : b < w.heap.size := by
              obtain ⟨k, n, ks, a', cap, q0, _⟩ := each 0 h0
              exact World.block_lt_of_cell? _ _ q0
            obtain ⟨F, hl, hF⟩ := forest len o each
            subst hl
            exact ⟨k, n, F, some ⟨b, o, none⟩, cap, rfl, ⟨hle, hm, (fun h => by cases h), (fun _ => ⟨b, o, rfl, hbl, hF⟩)⟩⟩
end
set_option maxRecDepth 100000 in
theorem laidOut : laidOutB Tryz.prog = true := by kernel_rfl
set_option maxRecDepth 100000 in
theorem t_cellsTerm : Tryz.prog.cellsOf 30 = 4 := by kernel_rfl
set_option maxRecDepth 100000 in
theorem t_cellsTerms : Tryz.prog.cellsOf 28 = 1 := by kernel_rfl
section
variable {H : Type} {enc : TypeId × Value → H} {w : World} {base : Nat} {spare : Nat → Bool} {held : Bool}
set_option maxRecDepth 100000 in
theorem t_forest {w : World} {P : Nat → Prop} {b : Nat} : ∀ (m o : Nat), (∀ i, i < m → ∃ (T : Tm) (la : Option Addr) (lc : Nat) (a : Option Addr) (cap : Nat), w.cell? ⟨b, o + i * 4, none⟩ = some (.int .i64 T.k) ∧ w.cell? ⟨b, o + i * 4 + 1, none⟩ = some (.int .i64 T.n) ∧ w.cell? ⟨b, o + i * 4 + 2, none⟩ = some (.slice la T.ls.len lc) ∧ w.cell? ⟨b, o + i * 4 + 3, none⟩ = some (.slice a T.ks.len cap) ∧ SlIn w P T.ls la lc ∧ TlIn w P T.ks a cap) →
    ∃ F : Ft, F.len = m ∧ FtIn w P F b o
  | 0, _, _ => ⟨.nil, rfl, trivial⟩
  | m + 1, o, h => by
    obtain ⟨F, hl, hF⟩ := t_forest m (o + 4) (fun i hi => by
      have := h (i + 1) (by omega)
      rwa [show o + (i + 1) * 4 = o + 4 + i * 4 by omega] at this)
    obtain ⟨T, la, lc, a, cap, h0, h1, h2, h3, hs, ht⟩ := h 0 (by omega)
    simp only [Nat.zero_mul, Nat.add_zero] at h0 h1 h2 h3
    exact ⟨.cons T.k T.n T.ls T.ks F, by simp [Ft.len, hl], FtIn.push h0 h1 h2 hs h3 ht hF⟩
set_option maxRecDepth 100000 in
theorem open_levels {fuel : Nat} {c : Value} {x : DataW H × List MemPlace} (h : DataW.trod enc Tryz.prog w base spare held fuel 27 [c] = some x) :
    ∃ (F : Fo) (la : Option Addr) (lc : Nat), c = .slice la F.len lc ∧ SlIn w (· < w.heap.size) F la lc := by
  rcases DataW.trod_slice Tryz.underlying27 h with ⟨e2, _⟩ | ⟨a, len, cap, elems, rest, n1, hn1, e2, _, hb, hle, hm, hlen, hel, _⟩
  · injection e2 with e2 _
    subst e2
    exact ⟨.nil, none, 0, rfl, SlIn.none _ _⟩
  · injection e2 with e2 _
    subst e2
    rw [cellsLevel] at hel
    have each : ∀ i, i < len → ∃ (k n : Int) (ks : Fo) (a' : Option Addr) (cap : Nat), w.cell? (a.add (i * 3)) = some (.int .i64 k) ∧ w.cell? ((a.add (i * 3)).add 1) = some (.int .i64 n) ∧ w.cell? ((a.add (i * 3)).add 2) = some (.slice a' ks.len cap) ∧ SlIn w (· < w.heap.size) ks a' cap := by
      intro i hi
      have h1 := hel i hi
      rw [List.getElem?_eq_getElem (by omega)] at h1
      obtain ⟨cs', hc, ht⟩ := Option.bind_eq_some_iff.1 h1
      obtain ⟨k, n, ks, a', cap, rfl, hs⟩ := open_level n1 cs' _ ht
      obtain ⟨_, hcl, hat⟩ := World.cells?_some hc
      have q0 := hat 0 (by omega)
      have q1 := hat 1 (by omega)
      have q2 := hat 2 (by omega)
      exact ⟨k, n, ks, a', cap, by simpa [Addr.add] using q0, by simpa using q1, by simpa using q2, hs⟩
    rcases Nat.eq_zero_or_pos len with h0 | h0
    · subst h0
      exact ⟨.nil, some a, cap, rfl, ⟨Nat.zero_le _, hm, (fun h => by cases h), (fun h => by simp [Fo.len] at h)⟩⟩
    · have hsp : a.spot = none := by
        obtain ⟨k, n, ks, a', cap, q0, _⟩ := each 0 h0
        cases hs : a.spot with
        | none => rfl
        | some y => exfalso; simp [Addr.add, World.cell?, hs] at q0; split at q0 <;> simp at q0
      obtain ⟨b, o, sp⟩ := a
      have hsp' : sp = none := hsp
      subst hsp'
      have hadd : ∀ m, (⟨b, o, none⟩ : Addr).add m = ⟨b, o + m, none⟩ := fun m => by unfold Addr.add; split <;> simp_all
      simp only [hadd] at each
      have hbl : b < w.heap.size := by
        obtain ⟨k, n, ks, a', cap, q0, _⟩ := each 0 h0
        exact World.block_lt_of_cell? _ _ q0
      obtain ⟨F, hl, hF⟩ := forest len o each
      subst hl
      exact ⟨F, some ⟨b, o, none⟩, cap, rfl, ⟨hle, hm, (fun h => by cases h), (fun _ => ⟨b, o, rfl, hbl, hF⟩)⟩⟩
set_option maxRecDepth 100000 in
theorem open_term (fuel : Nat) : ∀ (cs : List Value) (x : DataW H × List MemPlace), DataW.trod enc Tryz.prog w base spare held fuel 30 cs = some x →
    ∃ (T : Tm) (la : Option Addr) (lc : Nat) (a : Option Addr) (cap : Nat), cs = [.int .i64 T.k, .int .i64 T.n, .slice la T.ls.len lc, .slice a T.ks.len cap] ∧ SlIn w (· < w.heap.size) T.ls la lc ∧ TlIn w (· < w.heap.size) T.ks a cap := by
  induction fuel using Nat.strongRecOn with
  | ind fuel ih =>
    intro cs x h
    obtain ⟨xs, n0, hf, _, hl, hxl, hg⟩ := DataW.trod_struct Tryz.underlying30 h
    rw [t_cellsTerm] at hl
    match cs, hl with
    | [c0, c1, c2, c3], _ =>
      have hxl' : xs.length = 4 := hxl
      match xs, hxl' with
      | [y0, y1, y2, y3], _ =>
        have t0 : DataW.trod enc Tryz.prog w base spare held n0 3 [c0] = some y0 := by have := hg 0 _ rfl; simpa [cellsInt] using this
        have t1 : DataW.trod enc Tryz.prog w base spare held n0 3 [c1] = some y1 := by have := hg 1 _ rfl; simpa [cellsInt] using this
        have t2 : DataW.trod enc Tryz.prog w base spare held n0 27 [c2] = some y2 := by have := hg 2 _ rfl; simpa [cellsLevels] using this
        have t3 : DataW.trod enc Tryz.prog w base spare held n0 28 [c3] = some y3 := by have := hg 3 _ rfl; simpa [t_cellsTerms] using this
        obtain ⟨k, e0, _⟩ := DataW.trod_int Tryz.underlying3 t0
        obtain ⟨n, e1, _⟩ := DataW.trod_int Tryz.underlying3 t1
        injection e0 with e0 _
        injection e1 with e1 _
        subst e0 e1
        obtain ⟨F, la, lc, e2, hs2⟩ := open_levels t2
        subst e2
        rcases DataW.trod_slice Tryz.underlying28 t3 with ⟨e3, _⟩ | ⟨a, len, cap, elems, rest, n1, hn1, e3, _, hb, hle, hm, hlen, hel, _⟩
        · injection e3 with e3 _
          subst e3
          exact ⟨⟨k, n, F, .nil⟩, la, lc, none, 0, rfl, hs2, TlIn.none _ _⟩
        · injection e3 with e3 _
          subst e3
          rw [t_cellsTerm] at hel
          have each : ∀ i, i < len → ∃ (T : Tm) (la : Option Addr) (lc : Nat) (a' : Option Addr) (cap : Nat), w.cell? (a.add (i * 4)) = some (.int .i64 T.k) ∧ w.cell? ((a.add (i * 4)).add 1) = some (.int .i64 T.n) ∧ w.cell? ((a.add (i * 4)).add 2) = some (.slice la T.ls.len lc) ∧ w.cell? ((a.add (i * 4)).add 3) = some (.slice a' T.ks.len cap) ∧ SlIn w (· < w.heap.size) T.ls la lc ∧ TlIn w (· < w.heap.size) T.ks a' cap := by
            intro i hi
            have h1 := hel i hi
            rw [List.getElem?_eq_getElem (by omega)] at h1
            obtain ⟨cs', hc, ht⟩ := Option.bind_eq_some_iff.1 h1
            obtain ⟨T, la, lc, a', cap, rfl, hs, hk⟩ := ih n1 (by omega) cs' _ ht
            obtain ⟨_, hcl, hat⟩ := World.cells?_some hc
            have q0 := hat 0 (by omega)
            have q1 := hat 1 (by omega)
            have q2 := hat 2 (by omega)
            have q3 := hat 3 (by omega)
            exact ⟨T, la, lc, a', cap, by simpa [Addr.add] using q0, by simpa using q1, by simpa using q2, by simpa using q3, hs, hk⟩
          rcases Nat.eq_zero_or_pos len with h0 | h0
          · subst h0
            exact ⟨⟨k, n, F, .nil⟩, la, lc, some a, cap, rfl, hs2, ⟨Nat.zero_le _, hm, (fun h => by cases h), (fun h => by simp [Ft.len] at h)⟩⟩
          · have hsp : a.spot = none := by
              obtain ⟨T, _, _, _, _, q0, _⟩ := each 0 h0
              cases hs : a.spot with
              | none => rfl
              | some y => exfalso; simp [Addr.add, World.cell?, hs] at q0; split at q0 <;> simp at q0
            obtain ⟨b, o, sp⟩ := a
            have hsp' : sp = none := hsp
            subst hsp'
            have hadd : ∀ m, (⟨b, o, none⟩ : Addr).add m = ⟨b, o + m, none⟩ := fun m => by unfold Addr.add; split <;> simp_all
            simp only [hadd] at each
            have hbl : b < w.heap.size := by
              obtain ⟨T, _, _, _, _, q0, _⟩ := each 0 h0
              exact World.block_lt_of_cell? _ _ q0
            obtain ⟨G, hl, hF⟩ := t_forest len o each
            subst hl
            exact ⟨⟨k, n, F, G⟩, la, lc, some ⟨b, o, none⟩, cap, rfl, hs2, ⟨hle, hm, (fun h => by cases h), (fun _ => ⟨b, o, rfl, hbl, hF⟩)⟩⟩
end
section
variable {H : Type} {enc : TypeId × Value → H} {W : World} {base : Nat} {spare : Nat → Bool} {held : Bool}
set_option maxRecDepth 100000 in
theorem arg_term {r : Reach} {b0 : Nat} {v : Value} {d : DataW H} {p : List MemPlace} (hv : Value.okWide Tryz.prog W r b0 30 v) (h : DataW.Trod enc Tryz.prog W base spare held 30 v d p) :
    ∃ (T : Tm) (la : Option Addr) (lc : Nat) (a : Option Addr) (cap : Nat), v = .agg #[.int .i64 T.k, .int .i64 T.n, .slice la T.ls.len lc, .slice a T.ks.len cap] ∧ TmIn W W.heap.size T la lc a cap := by
  obtain ⟨cs, rfl, hsz⟩ := okWide_struct Tryz.underlying30 hv
  obtain ⟨fuel, hf⟩ := h
  obtain ⟨T, la, lc, a, cap, hcs, hs, hk⟩ := open_term fuel _ _ hf
  refine ⟨T, la, lc, a, cap, ?_, hs, hk, Nat.le_refl _⟩
  have : cs.toList = [.int .i64 T.k, .int .i64 T.n, .slice la T.ls.len lc, .slice a T.ks.len cap] := by simpa [Value.cells] using hcs
  obtain ⟨l⟩ := cs
  simp only at this
  rw [this]
end
end Go.Proofs.YtnfhpombnbpdcaaGreat
namespace Go.Proofs.YtnfhpombnbpdcaaGreat
open Go.ChangeShapes Go.WideShapes Go.ChangeAt Go.RowKit
set_option maxRecDepth 100000 in
theorem w_cellsCon : Tryz.prog.cellsOf 47 = 6 := by kernel_rfl
set_option maxRecDepth 100000 in
theorem w_cellsCons : Tryz.prog.cellsOf 39 = 1 := by kernel_rfl
set_option maxRecDepth 100000 in
theorem w_cellsDecl : Tryz.prog.cellsOf 41 = 11 := by kernel_rfl
set_option maxRecDepth 100000 in
theorem w_cellsBool : Tryz.prog.cellsOf 4 = 1 := by kernel_rfl
theorem list16 {α : Type} {p : Nat → α → Prop} : ∀ n : Nat, (∀ i, i < n → ∃ x, p i x) → ∃ l : List α, l.length = n ∧ ∀ (i : Nat) (x : α), l[i]? = some x → p i x
  | 0, _ => ⟨[], rfl, fun i x h => by simp at h⟩
  | n + 1, h => by
    obtain ⟨l, hl, hp⟩ := list16 n (fun i hi => h i (by omega))
    obtain ⟨x, hx⟩ := h n (by omega)
    refine ⟨l ++ [x], by simp [hl], fun i y hy => ?_⟩
    rcases Nat.lt_trichotomy i n with h1 | h1 | h1
    · rw [List.getElem?_append_left (by omega)] at hy
      exact hp i y hy
    · subst h1
      rw [List.getElem?_append_right (by omega), hl, Nat.sub_self] at hy
      have : x = y := by simpa using hy
      rw [← this]
      exact hx
    · rw [List.getElem?_eq_none (by simp; omega)] at hy
      cases hy
theorem spot16 {w : World} {a : Addr} {v : Value} (h : w.cell? (a.add 0) = some v) : a.spot = none := by
  cases hs : a.spot with
  | none => rfl
  | some y => exfalso; simp [Addr.add, World.cell?, hs] at h; split at h <;> simp at h
section
variable {H : Type} {enc : TypeId × Value → H} {w : World} {base : Nat} {spare : Nat → Bool} {held : Bool}
set_option maxRecDepth 100000 in
theorem open_con {fuel : Nat} {cs : List Value} {x : DataW H × List MemPlace} (h : DataW.trod enc Tryz.prog w base spare held fuel 47 cs = some x) :
    ∃ (k n : Int) (F : Fo) (a : Option Addr) (cap : Nat) (k' n' : Int) (G : Fo) (a' : Option Addr) (cap' : Nat), cs = [.int .i64 k, .int .i64 n, .slice a F.len cap, .int .i64 k', .int .i64 n', .slice a' G.len cap'] ∧ SlIn w (· < w.heap.size) F a cap ∧ SlIn w (· < w.heap.size) G a' cap' := by
  obtain ⟨xs, n0, hf, _, hl, hxl, hg⟩ := DataW.trod_struct Tryz.underlying47 h
  rw [w_cellsCon] at hl
  match cs, hl with
  | [c0, c1, c2, c3, c4, c5], _ =>
    have hxl' : xs.length = 2 := hxl
    match xs, hxl' with
    | [y0, y1], _ =>
      have t0 : DataW.trod enc Tryz.prog w base spare held n0 45 [c0, c1, c2] = some y0 := by have := hg 0 _ rfl; simpa [cellsLevel] using this
      have t1 : DataW.trod enc Tryz.prog w base spare held n0 45 [c3, c4, c5] = some y1 := by have := hg 1 _ rfl; simpa [cellsLevel] using this
      obtain ⟨k, n, F, a, cap, e0, s0⟩ := open_level n0 _ _ t0
      obtain ⟨k', n', G, a', cap', e1, s1⟩ := open_level n0 _ _ t1
      simp only [List.cons.injEq, and_true] at e0 e1
      obtain ⟨rfl, rfl, rfl⟩ := e0
      obtain ⟨rfl, rfl, rfl⟩ := e1
      exact ⟨k, n, F, a, cap, k', n', G, a', cap', rfl, s0, s1⟩
set_option maxRecDepth 100000 in
theorem open_cons {fuel : Nat} {c : Value} {x : DataW H × List MemPlace} (h : DataW.trod enc Tryz.prog w base spare held fuel 39 [c] = some x) :
    ∃ (F : Fo) (a : Option Addr) (len cap : Nat), c = .slice a len cap ∧ ConIn w (· < w.heap.size) F a len cap := by
  rcases DataW.trod_slice Tryz.underlying39 h with ⟨e2, _⟩ | ⟨a, len, cap, elems, rest, n1, hn1, e2, _, hb, hle, hm, hlen, hel, _⟩
  · injection e2 with e2 _
    exact ⟨.nil, none, 0, 0, e2, rfl, Nat.zero_le _, Nat.zero_le _, fun _ => rfl, fun h => by omega⟩
  · injection e2 with e2 _
    subst e2
    rw [w_cellsCon] at hel
    have each : ∀ i, i < len → ∃ (k n : Int) (F : Fo) (p : Option Addr) (c : Nat) (k' n' : Int) (G : Fo) (p' : Option Addr) (c' : Nat), (w.cell? ((a.add (i * 6)).add 0) = some (.int .i64 k) ∧ w.cell? ((a.add (i * 6)).add 1) = some (.int .i64 n) ∧ w.cell? ((a.add (i * 6)).add 2) = some (.slice p F.len c) ∧ SlIn w (· < w.heap.size) F p c) ∧
        (w.cell? ((a.add (i * 6)).add 3) = some (.int .i64 k') ∧ w.cell? ((a.add (i * 6)).add 4) = some (.int .i64 n') ∧ w.cell? ((a.add (i * 6)).add 5) = some (.slice p' G.len c') ∧ SlIn w (· < w.heap.size) G p' c') := by
      intro i hi
      have h1 := hel i hi
      rw [List.getElem?_eq_getElem (by omega)] at h1
      obtain ⟨cs', hc, ht⟩ := Option.bind_eq_some_iff.1 h1
      obtain ⟨k, n, F, p, c, k', n', G, p', c', rfl, s0, s1⟩ := open_con ht
      obtain ⟨_, hcl, hat⟩ := World.cells?_some hc
      have q0 := hat 0 (by omega)
      have q1 := hat 1 (by omega)
      have q2 := hat 2 (by omega)
      have q3 := hat 3 (by omega)
      have q4 := hat 4 (by omega)
      have q5 := hat 5 (by omega)
      exact ⟨k, n, F, p, c, k', n', G, p', c', ⟨by simpa using q0, by simpa using q1, by simpa using q2, s0⟩, by simpa using q3, by simpa using q4, by simpa using q5, s1⟩
    rcases Nat.eq_zero_or_pos len with h0 | h0
    · subst h0
      exact ⟨.nil, some a, 0, cap, rfl, rfl, Nat.zero_le _, hm, (fun h => by cases h), fun h => by omega⟩
    · have hsp : a.spot = none := by
        obtain ⟨k, n, F, p, c, k', n', G, p', c', ⟨q0, _⟩, _⟩ := each 0 h0
        exact spot16 (by simpa [Addr.add] using q0)
      obtain ⟨b, o, sp⟩ := a
      have hsp' : sp = none := hsp
      subst hsp'
      have hadd : ∀ b o m, (⟨b, o, none⟩ : Addr).add m = ⟨b, o + m, none⟩ := fun b o m => by unfold Addr.add; split <;> simp_all
      simp only [hadd, Nat.add_zero] at each
      have hbl : b < w.heap.size := by
        obtain ⟨k, n, F, p, c, k', n', G, p', c', ⟨q0, _⟩, _⟩ := each 0 h0
        exact World.block_lt_of_cell? _ _ q0
      obtain ⟨F, hl, hF⟩ := forest (w := w) (P := (· < w.heap.size)) (b := b) (2 * len) o (fun i hi => by
        obtain ⟨k, n, F, p, c, k', n', G, p', c', ⟨q0, q1, q2, s0⟩, ⟨q3, q4, q5, s1⟩⟩ := each (i / 2) (by omega)
        rcases Nat.mod_two_eq_zero_or_one i with hm2 | hm2
        · have e : o + i * 3 = o + i / 2 * 6 := by omega
          exact ⟨k, n, F, p, c, by rw [e]; exact q0, by rw [e]; exact q1, by rw [e]; exact q2, s0⟩
        · have e : o + i * 3 = o + i / 2 * 6 + 3 := by omega
          exact ⟨k', n', G, p', c', by rw [e]; exact q3, by rw [e]; exact q4, by rw [e]; exact q5, s1⟩)
      exact ⟨F, some ⟨b, o, none⟩, len, cap, rfl, hl, hle, hm, (fun h => by cases h), fun _ => ⟨b, o, rfl, hbl, hF⟩⟩
set_option maxRecDepth 100000 in
theorem open_decl {fuel : Nat} {cs : List Value} {x : DataW H × List MemPlace} (h : DataW.trod enc Tryz.prog w base spare held fuel 41 cs = some x) :
    ∃ (d : Dc) (ca : Option Addr) (cl cc : Nat) (la : Option Addr) (lc : Nat) (ka : Option Addr) (kc : Nat) (la' : Option Addr) (lc' : Nat) (ka' : Option Addr) (kc' : Nat), cs = [.int .i64 d.p, .slice ca cl cc, .int .i64 d.ty.k, .int .i64 d.ty.n, .slice la d.ty.ls.len lc, .slice ka d.ty.ks.len kc, .bool d.has, .int .i64 d.va.k, .int .i64 d.va.n, .slice la' d.va.ls.len lc', .slice ka' d.va.ks.len kc'] ∧
      ConIn w (· < w.heap.size) d.cs ca cl cc ∧ SlIn w (· < w.heap.size) d.ty.ls la lc ∧ TlIn w (· < w.heap.size) d.ty.ks ka kc ∧ SlIn w (· < w.heap.size) d.va.ls la' lc' ∧ TlIn w (· < w.heap.size) d.va.ks ka' kc' := by
  obtain ⟨xs, n0, hf, _, hl, hxl, hg⟩ := DataW.trod_struct Tryz.underlying41 h
  rw [w_cellsDecl] at hl
  match cs, hl with
  | [c0, c1, c2, c3, c4, c5, c6, c7, c8, c9, c10], _ =>
    have hxl' : xs.length = 5 := hxl
    match xs, hxl' with
    | [y0, y1, y2, y3, y4], _ =>
      have t0 : DataW.trod enc Tryz.prog w base spare held n0 3 [c0] = some y0 := by have := hg 0 _ rfl; simpa [cellsInt] using this
      have t1 : DataW.trod enc Tryz.prog w base spare held n0 39 [c1] = some y1 := by have := hg 1 _ rfl; simpa [w_cellsCons] using this
      have t2 : DataW.trod enc Tryz.prog w base spare held n0 30 [c2, c3, c4, c5] = some y2 := by have := hg 2 _ rfl; simpa [t_cellsTerm] using this
      have t3 : DataW.trod enc Tryz.prog w base spare held n0 4 [c6] = some y3 := by have := hg 3 _ rfl; simpa [w_cellsBool] using this
      have t4 : DataW.trod enc Tryz.prog w base spare held n0 30 [c7, c8, c9, c10] = some y4 := by have := hg 4 _ rfl; simpa [t_cellsTerm] using this
      obtain ⟨p, e0, _⟩ := DataW.trod_int Tryz.underlying3 t0
      obtain ⟨F, ca, cl, cc, e1, hc⟩ := open_cons t1
      obtain ⟨T, la, lc, ka, kc, e2, s1, s2⟩ := open_term n0 _ _ t2
      obtain ⟨b, e3, _⟩ := DataW.trod_bool Tryz.underlying4 t3
      obtain ⟨V, la', lc', ka', kc', e4, s3, s4⟩ := open_term n0 _ _ t4
      simp only [List.cons.injEq, and_true] at e0 e2 e3 e4
      obtain ⟨rfl, rfl, rfl, rfl⟩ := e2
      obtain ⟨rfl, rfl, rfl, rfl⟩ := e4
      subst e0 e1 e3
      exact ⟨⟨p, F, T, b, V⟩, ca, cl, cc, la, lc, ka, kc, la', lc', ka', kc', rfl, hc, s1, s2, s3, s4⟩
set_option maxRecDepth 100000 in
theorem open_decls {fuel : Nat} {c : Value} {x : DataW H × List MemPlace} (h : DataW.trod enc Tryz.prog w base spare held fuel 25 [c] = some x) :
    ∃ (E : List Dc) (a : Option Addr) (cap : Nat), c = .slice a E.length cap ∧ DsIn w (· < w.heap.size) E a cap := by
  rcases DataW.trod_slice Tryz.underlying25 h with ⟨e2, _⟩ | ⟨a, len, cap, elems, rest, n1, hn1, e2, _, hb, hle, hm, hlen, hel, _⟩
  · injection e2 with e2 _
    exact ⟨[], none, 0, e2, Nat.zero_le _, Nat.zero_le _, fun _ => rfl, fun h => by simp at h⟩
  · injection e2 with e2 _
    subst e2
    rw [w_cellsDecl] at hel
    have each : ∀ i, i < len → ∃ d : Dc, w.cell? ((a.add (i * 11)).add 0) = some (.int .i64 d.p) ∧ (∃ ca cl cc, w.cell? ((a.add (i * 11)).add 1) = some (.slice ca cl cc) ∧ ConIn w (· < w.heap.size) d.cs ca cl cc) ∧
        (w.cell? ((a.add (i * 11)).add 2) = some (.int .i64 d.ty.k) ∧ w.cell? ((a.add (i * 11)).add 3) = some (.int .i64 d.ty.n) ∧ ∃ la lc ka kc, w.cell? ((a.add (i * 11)).add 4) = some (.slice la d.ty.ls.len lc) ∧ w.cell? ((a.add (i * 11)).add 5) = some (.slice ka d.ty.ks.len kc) ∧ SlIn w (· < w.heap.size) d.ty.ls la lc ∧ TlIn w (· < w.heap.size) d.ty.ks ka kc) ∧
        w.cell? ((a.add (i * 11)).add 6) = some (.bool d.has) ∧
        (w.cell? ((a.add (i * 11)).add 7) = some (.int .i64 d.va.k) ∧ w.cell? ((a.add (i * 11)).add 8) = some (.int .i64 d.va.n) ∧ ∃ la lc ka kc, w.cell? ((a.add (i * 11)).add 9) = some (.slice la d.va.ls.len lc) ∧ w.cell? ((a.add (i * 11)).add 10) = some (.slice ka d.va.ks.len kc) ∧ SlIn w (· < w.heap.size) d.va.ls la lc ∧ TlIn w (· < w.heap.size) d.va.ks ka kc) := by
      intro i hi
      have h1 := hel i hi
      rw [List.getElem?_eq_getElem (by omega)] at h1
      obtain ⟨cs', hc, ht⟩ := Option.bind_eq_some_iff.1 h1
      obtain ⟨d, ca, cl, cc, la, lc, ka, kc, la', lc', ka', kc', rfl, hcn, s1, s2, s3, s4⟩ := open_decl ht
      obtain ⟨_, hcl, hat⟩ := World.cells?_some hc
      have q0 := hat 0 (by omega)
      have q1 := hat 1 (by omega)
      have q2 := hat 2 (by omega)
      have q3 := hat 3 (by omega)
      have q4 := hat 4 (by omega)
      have q5 := hat 5 (by omega)
      have q6 := hat 6 (by omega)
      have q7 := hat 7 (by omega)
      have q8 := hat 8 (by omega)
      have q9 := hat 9 (by omega)
      have q10 := hat 10 (by omega)
      exact ⟨d, by simpa using q0, ⟨ca, cl, cc, by simpa using q1, hcn⟩, ⟨by simpa using q2, by simpa using q3, la, lc, ka, kc, by simpa using q4, by simpa using q5, s1, s2⟩, by simpa using q6, by simpa using q7, by simpa using q8, la', lc', ka', kc', by simpa using q9, by simpa using q10, s3, s4⟩
    obtain ⟨E, hl, hp⟩ := list16 len each
    subst hl
    rcases Nat.eq_zero_or_pos E.length with h0 | h0
    · exact ⟨E, some a, cap, rfl, hle, hm, (fun h => by cases h), fun h => by omega⟩
    · have hsp : a.spot = none := by
        have q0 := (hp 0 _ (List.getElem?_eq_getElem h0)).1
        exact spot16 (by simpa [Addr.add] using q0)
      obtain ⟨b, o, sp⟩ := a
      have hsp' : sp = none := hsp
      subst hsp'
      have hadd : ∀ b o m, (⟨b, o, none⟩ : Addr).add m = ⟨b, o + m, none⟩ := fun b o m => by unfold Addr.add; split <;> simp_all
      simp only [hadd, Nat.add_zero] at hp
      exact ⟨E, some ⟨b, o, none⟩, cap, rfl, hle, hm, (fun h => by cases h), fun _ => ⟨b, o, rfl, World.block_lt_of_cell? _ _ (hp 0 _ (List.getElem?_eq_getElem h0)).1, fun i d hi => hp i d hi⟩⟩
end
section
variable {H : Type} {enc : TypeId × Value → H} {W : World} {base : Nat} {spare : Nat → Bool} {held : Bool}
set_option maxRecDepth 100000 in
theorem arg_decls {r : Reach} {b0 : Nat} {v : Value} {d : DataW H} {p : List MemPlace} (hv : Value.okWide Tryz.prog W r b0 25 v) (h : DataW.Trod enc Tryz.prog W base spare held 25 v d p) :
    ∃ (E : List Dc) (a : Option Addr) (cap : Nat), v = .slice a E.length cap ∧ DsIn W (· < W.heap.size) E a cap := by
  obtain ⟨a, len, cap, rfl⟩ := okWide_slice Tryz.underlying25 hv
  obtain ⟨fuel, hf⟩ := h
  have hf' : DataW.trod enc Tryz.prog W base spare held fuel 25 [.slice a len cap] = some (d, p) := by simpa [Value.cells] using hf
  obtain ⟨E, a', cap', e, hin⟩ := open_decls hf'
  exact ⟨E, a', cap', e, hin⟩
end
end Go.Proofs.YtnfhpombnbpdcaaGreat
namespace Go.Proofs.YtnfhpombnbpdcaaGreat
open Go.RowKit
def yTab : Array MapEntry := #[⟨.int .i64 7, .func (.func 55) #[] #[], 0⟩, ⟨.int .i64 3, .func (.func 56) #[] #[], 1⟩, ⟨.int .i64 4, .func (.func 57) #[] #[], 2⟩, ⟨.int .i64 5, .func (.func 58) #[] #[], 3⟩]
theorem run_yins (W : World) (r : Nat) (es : Array MapEntry) (clock : Nat) (k : Int) (val : Value) (hb : W.heap[r]? = some (.map es clock)) (hf : Instr.findNow (.int .i64) (.int .i64 k) es.toList 0 = some none) :
    (Instr.mapUpdate 80 (.map (some r)) (.int .i64 k) val).run Tryz.prog W = .ok () (mset W r (.map (es.push { key := .int .i64 k, val := val, born := clock }) (clock + 1))) := by
  have hc : (Instr.checkKey false 10000 3 (.int .i64 k)).run Tryz.prog W = .ok () W := MapKept.run_checkKey (k := .int .i64 k) Tryz.underlying3 (by simp [MapKept.IsKey]) false 9999
  simp only [Instr.mapUpdate, Sem.run_bind, run_underlying Tryz.underlying80, MapKept.run_getObj_map hb, hc, MapKept.run_findKey Tryz.underlying3 hf, MapKept.run_setObj_map _ hb, Result.andThen]
  rfl
set_option maxRecDepth 100000 in
set_option maxHeartbeats 4000000 in
theorem yActs_any (w : World) : Calls Tryz.prog 35 #[] w fun e w' => e = .returned (.map (some w.heap.size)) ∧ w' = w.alloc (.map yTab 4) := by
  have hmm := @run_makeMap Tryz.prog
  have i0 : ∀ (es : Array MapEntry) (c : Nat) (k : Int) (v : Value), Instr.findNow (.int .i64) (.int .i64 k) es.toList 0 = some none → (Instr.mapUpdate 80 (.map (some w.heap.size)) (.int .i64 k) v).run Tryz.prog (w.alloc (.map es c)) = .ok () (w.alloc (.map (es.push { key := .int .i64 k, val := v, born := c }) (c + 1))) := fun es c k v hf => by
    rw [run_yins _ _ es c k v (map_new w es c) hf, mset_new]
  have h1 := fun v => i0 #[] 0 7 v rfl
  have h2 := fun v1 v => i0 #[⟨.int .i64 7, v1, 0⟩] 1 3 v rfl
  have h3 := fun v1 v2 v => i0 #[⟨.int .i64 7, v1, 0⟩, ⟨.int .i64 3, v2, 1⟩] 2 4 v rfl
  have h4 := fun v1 v2 v3 v => i0 #[⟨.int .i64 7, v1, 0⟩, ⟨.int .i64 3, v2, 1⟩, ⟨.int .i64 4, v3, 2⟩] 3 5 v rfl
  clear i0
  go_enter Tryz.func35, Tryz.ntmps35
  go_wp2_with fail
  go_ret
  exact ⟨rfl, rfl⟩
theorem run_ylook (W : World) (r : Nat) (hb : W.heap[r]? = some (.map yTab 4)) (k : Int) (f i : Nat) (hf : Instr.findNow (.int .i64) (.int .i64 k) yTab.toList 0 = some (some (i, .func (.func f) #[] #[]))) :
    (Instr.lookup 80 (.map (some r)) (.int .i64 k) true).run Tryz.prog W = .ok (.tuple #[.func (.func f) #[] #[], .bool true]) W := by
  have hc : (Instr.checkKey yTab.isEmpty 10000 3 (.int .i64 k)).run Tryz.prog W = .ok () W := MapKept.run_checkKey (k := .int .i64 k) Tryz.underlying3 (by simp [MapKept.IsKey]) _ 9999
  simp [Instr.lookup, run_underlying Tryz.underlying80, MapKept.run_getObj_map hb, hc, MapKept.run_findKey Tryz.underlying3 hf, Result.andThen]
theorem run_ylook7 (W : World) (r : Nat) (hb : W.heap[r]? = some (.map yTab 4)) : (Instr.lookup 80 (.map (some r)) (.int .i64 7) true).run Tryz.prog W = .ok (.tuple #[.func (.func 55) #[] #[], .bool true]) W := run_ylook W r hb 7 55 0 rfl
theorem run_ylook3 (W : World) (r : Nat) (hb : W.heap[r]? = some (.map yTab 4)) : (Instr.lookup 80 (.map (some r)) (.int .i64 3) true).run Tryz.prog W = .ok (.tuple #[.func (.func 56) #[] #[], .bool true]) W := run_ylook W r hb 3 56 1 rfl
theorem run_ylook4 (W : World) (r : Nat) (hb : W.heap[r]? = some (.map yTab 4)) : (Instr.lookup 80 (.map (some r)) (.int .i64 4) true).run Tryz.prog W = .ok (.tuple #[.func (.func 57) #[] #[], .bool true]) W := run_ylook W r hb 4 57 2 rfl
theorem run_ylook5 (W : World) (r : Nat) (hb : W.heap[r]? = some (.map yTab 4)) : (Instr.lookup 80 (.map (some r)) (.int .i64 5) true).run Tryz.prog W = .ok (.tuple #[.func (.func 58) #[] #[], .bool true]) W := run_ylook W r hb 5 58 3 rfl
theorem run_ylook_no (W : World) (r : Nat) (hb : W.heap[r]? = some (.map yTab 4)) (k : Int) (h7 : k ≠ 7) (h3 : k ≠ 3) (h4 : k ≠ 4) (h5 : k ≠ 5) :
    (Instr.lookup 80 (.map (some r)) (.int .i64 k) true).run Tryz.prog W = .ok (.tuple #[.nilFunc, .bool false]) W := by
  have hc : (Instr.checkKey yTab.isEmpty 10000 3 (.int .i64 k)).run Tryz.prog W = .ok () W := MapKept.run_checkKey (k := .int .i64 k) Tryz.underlying3 (by simp [MapKept.IsKey]) _ 9999
  have hf : Instr.findNow (.int .i64) (.int .i64 k) yTab.toList 0 = some none := by
    have n7 : (k == 7) = false := beq_eq_false_iff_ne.2 h7
    have n3 : (k == 3) = false := beq_eq_false_iff_ne.2 h3
    have n4 : (k == 4) = false := beq_eq_false_iff_ne.2 h4
    have n5 : (k == 5) = false := beq_eq_false_iff_ne.2 h5
    simp [yTab, Instr.findNow, Instr.sameNow, n7, n3, n4, n5]
  simp [Instr.lookup, run_underlying Tryz.underlying80, MapKept.run_getObj_map hb, hc, MapKept.run_findKey Tryz.underlying3 hf, Result.andThen]
end Go.Proofs.YtnfhpombnbpdcaaGreat
namespace Go.Proofs.YtnfhpombnbpdcaaGreat
open Go.RowKit Go.Shelf
theorem turn_put {O O' : Nat → Prop} {W W3 : World} {l : Nat} {o o1 o2 : Obj} (hl : W.heap[l]? = some o) (h : Turn O (W.putObj l o1) O' W3) (h3 : l < W3.heap.size) (he : o2 = o) : Turn O W O' (W3.putObj l o2) := by
  subst he
  obtain ⟨t1, t2, t3, t4, t5, t6⟩ := h
  refine ⟨t1, t2, t3, by simpa using t4, fun b hb hO => ?_, fun b hb => by simpa using t6 b hb⟩
  by_cases e : b = l
  · subst e
    rw [World.putObj_heap_same h3, hl]
  · rw [World.putObj_heap_other e, t5 b (by simpa using hb) hO, World.putObj_heap_other e]
end Go.Proofs.YtnfhpombnbpdcaaGreat
namespace Go.Proofs.YtnfhpombnbpdcaaGreat
open Go.RowKit Go.Shelf
def KeepV {α : Type} (V : World → α → Value → Prop) (B : Nat) : Prop := ∀ W W' x v, (∀ b, b < B → W'.heap[b]? = W.heap[b]?) → V W x v → V W' x v
def InvV {α : Type} (B : Nat) (J : (Nat → Prop) → List α → World → Prop) : Prop :=
  (∀ O s W W' row, J O s W → W.grownBy W' row → (∀ r, row = some r → B ≤ r ∧ ¬ O r) → J O s W') ∧ ∀ O s W, J O s W → ∀ b, O b → b < W.heap.size
def RoundsV {α : Type} (V : World → α → Value → Prop) (l : Nat) (xs : List α) (J : (Nat → Prop) → List α → World → Prop) : Prop :=
  ∀ (m : Nat) (O : Nat → Prop) (pre : List α) (x : α) (v : Value) (W : World), J O pre W → V W x v → pre ++ [x] <+: xs → YieldAt Fence.wide m Tryz.prog l #[v] W fun e W' => e = .returned (.bool true) ∧ ∃ O', J O' (pre ++ [x]) W' ∧ Turn O W O' W'
def TellsV {α : Type} (V : World → α → Value → Prop) (D : Nat → Prop) (g : Nat) (lb : Array Value) (xs : List α) (W : World) : Prop :=
  ∀ (l : Nat) (J : (Nat → Prop) → List α → World → Prop) (O : Nat → Prop), (∀ b, D b → ¬ O b) → InvV W.heap.size J → RoundsV V l xs J → J O [] W → ∀ n,
    CallsIn Fence.wide n Tryz.prog g (#[.func (.yield l) #[] #[]] ++ lb) W fun e W' => (∃ v, e = .returned v) ∧ ∃ O', J O' xs W' ∧ Turn O W O' W'
def GoesV {α : Type} (I : (Nat → Prop) → List α → World → Prop) (O : Nat → Prop) (xs : List α) (W : World) : Exit → Act → World → Prop
  | .normal, _, W' => ∃ O', I O' xs W' ∧ Turn O W O' W'
  | _, _, _ => False
theorem InvV.put {α : Type} {B : Nat} {J : (Nat → Prop) → List α → World → Prop} (h : InvV B J) {O : Nat → Prop} {s : List α} {W : World} {l : Nat} (o' : Obj) (hs : J O s W) (hB : B ≤ l) (hn : ¬ O l) : J O s (W.putObj l o') :=
  h.1 O s W _ (some l) hs (grownBy_putObj' W l o') (fun r e => by cases e; exact ⟨hB, hn⟩)
theorem InvV.alloc {α : Type} {B : Nat} {J : (Nat → Prop) → List α → World → Prop} (h : InvV B J) {O : Nat → Prop} {s : List α} {W : World} (o : Obj) (hs : J O s W) : J O s (W.alloc o) := h.1 O s W _ none hs (World.grownBy_alloc W o none) (fun r e => by cases e)
theorem loop_tellsV {α : Type} {V : World → α → Value → Prop} {B : Nat} (hV : KeepV V B) {g : Operand} {ps : Array Tmp} {assign body : Code} {Q : Exit → Act → World → Prop} {a : Act} {w : World} {n gf : Nat} {lb : Array Value} (hg : a.eval g = .func (.func gf) #[] lb) (eg : ∀ args w, (callFunc gf args).run Tryz.prog w = .ok (.enter gf args) w)
    (hps : ps.size = 1) {xs : List α} {D O : Nat → Prop} (hBw : B ≤ w.heap.size) (hD : ∀ b, D b → ¬ O b) (ht : ∀ o1 o2, TellsV V D gf lb xs ((w.alloc o1).alloc o2)) (I : (Nat → Prop) → List α → World → Prop) (hI : InvV w.heap.size I) (h0 : I O [] w)
    (hround : ∀ (l m : Nat) (O : Nat → Prop) (pre : List α) (x : α) (v : Value) (W : World), I O pre W → V W x v → pre ++ [x] <+: xs → assign.wpIn (Fence.wide.inRound l) m Tryz.prog (Exit.then (fun a' W' => ∃ o, W' = W.alloc o ∧ ∀ Wb, I O pre Wb → V Wb x v → Wb.heap.size = W.heap.size + 1 → Wb.heap[W.heap.size]? = some o → body.wpIn (Fence.wide.inRound l) m Tryz.prog (GoesV I O (pre ++ [x]) Wb) a' Wb) (fun _ _ _ => False)) { tmps := (ps.zip #[v]).foldl (fun t (p, v) => t.setIfInBounds p v) a.tmps, defers := [] } W)
    (hdone : ∀ (d : Nat) (O' : Nat → Prop) (W : World), w.heap.size ≤ d → I O' xs W → W.heap[d]? = some (.deferred (some [])) → ¬ O' d → Turn O w O' W → Q .normal { a with defers := { target := .collected d, args := #[] } :: a.defers } W) :
    (Code.rangeFunc g ps assign body).wpIn Fence.wide n Tryz.prog Q a w := by
  refine wpIn_rangeFunc ?_
  intro fn hfn
  obtain ⟨rec, hrec⟩ : ∃ rec : LoopState → Option Code → Loop, rec = fun st pe => { state := st, pending := pe, fn, tmps := a.tmps, params := ps, assign, body, defers := w.heap.size } := ⟨_, rfl⟩
  obtain ⟨Y, hY⟩ : ∃ Y, (w.alloc (.deferred (some []))).alloc (.loop (rec .ready none)) = Y := ⟨_, rfl⟩
  have zV : Y.heap.size = w.heap.size + 1 + 1 := by rw [← hY]; simp
  have lV : Y.heap[w.heap.size + 1]? = some (.loop (rec .ready none)) := by rw [← hY]; exact heap_second _ _ _
  have kV : Y.heap[w.heap.size]? = some (.deferred (some [])) := by rw [← hY]; exact (heap_old _ _ (by simp)).trans (heap_new _ _)
  have iV : I O [] Y := by rw [← hY]; exact hI.alloc _ (hI.alloc _ h0)
  have tV : Turn O w O Y := by rw [← hY]; exact (Turn.alloc _ _ _).trans (Turn.alloc _ _ _)
  have hlt := hI.2 _ _ _ h0
  refine ⟨w.heap.size + 1, [{ target := .collected w.heap.size, args := #[] }], Y, { target := .fn (.func gf) lb, args := #[.func (.yield (w.heap.size + 1)) #[] #[]] }, Y, gf, #[.func (.yield (w.heap.size + 1)) #[] #[]] ++ lb, Y, ?_, ?_, fun _ _ => trivial, ?_, (fun h => by cases h), ?_⟩
  · rw [← hY, hrec]; exact run_enterLoop_outer _ _ _ _ _
  · simp only [resolve, hg]
    simp [go_sem]
  · simp [invoke, go_sem, eg]
  obtain ⟨J, hJ⟩ : ∃ J : (Nat → Prop) → List α → World → Prop, J = fun O s W => I O s W ∧ W.heap[w.heap.size + 1]? = some (.loop (rec .ready none)) ∧ W.heap[w.heap.size]? = some (.deferred (some [])) ∧ ¬ O (w.heap.size + 1) ∧ ¬ O w.heap.size := ⟨_, rfl⟩
  have hInv : InvV Y.heap.size J := by
    rw [hJ]
    refine ⟨fun P s A A' row hs hgr hr => ?_, fun P s A hs => hI.2 _ _ _ hs.1⟩
    obtain ⟨s1, s2, s3, s4, s5⟩ := hs
    have keep : ∀ b o, b < Y.heap.size → A.heap[b]? = some o → A'.heap[b]? = some o := fun b o hb ho => (hgr.block b (Array.getElem?_eq_some_iff.1 ho).1 (fun e => by have := (hr b e.symm).1; omega)).trans ho
    exact ⟨hI.1 _ _ _ _ _ s1 hgr (fun r e => ⟨by have := (hr r e).1; omega, (hr r e).2⟩), keep _ _ (by omega) s2, keep _ _ (by omega) s3, s4, s5⟩
  have hR : RoundsV V (w.heap.size + 1) xs J := by
    rw [hJ]
    rintro m P pre x v W ⟨s1, s2, s3, s4, s5⟩ hv hpre
    have hy := run_yield (P := Tryz.prog) (args := #[v]) s2 (by rw [hrec]; exact hps.symm)
    rw [hrec] at hy
    have hlt2 := (Array.getElem?_eq_some_iff.1 s2).1
    refine ⟨fn, _, assign, body, hy, roundIn_of_wpIn hfn (wpIn_mono (hround _ m P pre x v W s1 hv hpre) ?_)⟩
    intro e0 a0 W0 h0'
    cases e0 with
    | normal => ?_
    | _ => exact h0'.elim
    obtain ⟨o, rfl, hb'⟩ := h0'
    have u1 := hI.alloc o s1
    have u2 := (heap_old W o hlt2).trans s2
    have u3 := (heap_old W o (Array.getElem?_eq_some_iff.1 s3).1).trans s3
    have hlt3 := (Array.getElem?_eq_some_iff.1 u2).1
    refine ⟨_, run_beginRound u2 (by rw [hrec]), ?_⟩
    refine wpIn_mono (hb' _ (hI.put _ u1 (by omega) s4) (hV _ _ _ _ (fun b hb => (World.putObj_heap_other (by omega)).trans (heap_old W o (by omega))) hv) (by simp) ((World.putObj_heap_other (by omega)).trans (heap_new W o))) ?_
    intro e a3 W3 hp
    cases e with
    | normal =>
      obtain ⟨O', i3, t3⟩ := hp
      have z3 := t3.2.2.2.1
      rw [World.putObj_size] at z3
      have l3 : W3.heap[w.heap.size + 1]? = some (.loop { rec .ready none with state := .busy }) := (t3.2.2.2.2.1 _ (by simpa using hlt3) s4).trans (World.putObj_heap_same hlt3)
      have k3 : W3.heap[w.heap.size]? = some (.deferred (some [])) := (t3.2.2.2.2.1 _ (by simp; omega) s5).trans ((World.putObj_heap_other (by omega)).trans u3)
      have n1 : ∀ b, b < W.heap.size → ¬ P b → ¬ O' b := fun b hb hn h => by
        rcases t3.2.2.2.2.2 b h with h | h
        · exact hn h
        · rw [World.putObj_size, World.size_alloc] at h; omega
      refine ⟨_, _, run_endRound none l3, rfl, O', ⟨hI.put _ i3 (by omega) (n1 _ hlt2 s4), ?_, (World.putObj_heap_other (by omega)).trans k3, n1 _ hlt2 s4, n1 _ (by omega) s5⟩, (Turn.alloc P W o).trans (turn_put u2 t3 (Array.getElem?_eq_some_iff.1 l3).1 (by rw [hrec]; rfl))⟩
      rw [World.putObj_heap_same (Array.getElem?_eq_some_iff.1 l3).1, hrec]; rfl
    | _ => exact hp.elim
  have h0J : J O [] Y := by rw [hJ]; exact ⟨iV, lV, kV, fun h => by have := hlt _ h; omega, fun h => by have := hlt _ h; omega⟩
  have htV : TellsV V D gf lb xs Y := by rw [← hY]; exact ht _ _
  refine (htV (w.heap.size + 1) J O hD hInv hR h0J (n - 1)).mono ?_
  rintro e W2 ⟨⟨v, rfl⟩, O', hJ2, t2⟩
  rw [hJ] at hJ2
  obtain ⟨s1, s2, s3, s4, s5⟩ := hJ2
  have t4 := tV.trans t2
  refine ⟨none, _, by have := run_endLoop (P := Tryz.prog) s2 (by rw [hrec]; simp); rw [hrec] at this; exact this, hdone _ O' _ (Nat.le_refl _) (hI.put _ s1 (by omega) s4) ((World.putObj_heap_other (by omega)).trans s3) s5 ?_⟩
  refine ⟨t4.1, t4.2.1, t4.2.2.1, by simpa using t4.2.2.2.1, fun b hb hn => (World.putObj_heap_other (by omega)).trans (t4.2.2.2.2.1 b hb hn), t4.2.2.2.2.2⟩
end Go.Proofs.YtnfhpombnbpdcaaGreat
namespace Go.Proofs.YtnfhpombnbpdcaaGreat
open Go.RowKit Go.Shelf
def SkAt (W : World) (base g cap : Nat) (vs : List Value) : Prop := W.ownsRow base 28 1 (.slice (some ⟨g, 0, none⟩) vs.length cap) vs.length vs
theorem infoTerms : (Tryz.prog.info? 28).map (fun i => (i.zero, i.size, i.bytes)) = some (some (.slice none 0 0), 1, 24) := by kernel_rfl
theorem SkAt.lt {W : World} {base g cap : Nat} {vs : List Value} (h : SkAt W base g cap vs) : base ≤ g ∧ g < W.heap.size ∧ vs.length ≤ cap := by
  have h1 := World.ownsRow.lt h g rfl
  rcases h.2 with ⟨e, _⟩ | ⟨_, _, _, e, _, _, hl, _⟩
  · cases e
  · injection e with _ _ e
    subst e
    exact ⟨h1.1, h1.2, hl⟩
theorem SkAt.keep {W W' : World} {base g cap : Nat} {vs : List Value} (h : SkAt W base g cap vs) (hk : W'.heap[g]? = W.heap[g]?) : SkAt W' base g cap vs := by
  refine ⟨h.1, ?_⟩
  rcases h.2 with ⟨e, _⟩ | ⟨g', c, cur, e, hb, hh, rest⟩
  · cases e
  · have eg : g' = g := by injection e with e _ _; injection e with e; injection e with e _ _; exact e.symm
    subst eg
    exact .inr ⟨g', c, cur, e, hb, hk.trans hh, rest⟩
theorem SkAt.drop {W : World} {base g cap : Nat} {vs : List Value} {v : Value} (h : SkAt W base g cap (vs ++ [v])) : SkAt W base g cap vs ∧ W.cell? ⟨g, vs.length, none⟩ = some v := by
  have hc := World.ownsRow.cellAt h vs.length (by simp)
  refine ⟨⟨by simp, ?_⟩, by simpa using hc⟩
  rcases h.2 with ⟨e, _⟩ | ⟨g', c, cur, e, hb, hh, hl, hm, hs, ht⟩
  · cases e
  · injection e with e1 _ e3
    refine .inr ⟨g', c, cur, by rw [e1, e3], hb, hh, by simp at hl; omega, hm, hs, ?_⟩
    have h2 := congrArg (List.take vs.length) ht
    rw [List.take_take] at h2
    simpa using h2
theorem SkAt.push {W : World} {base g cap : Nat} {vs : List Value} (h : SkAt W base g cap vs) (A : Option Addr) (L c : Nat) (hl : vs.length ≤ 100000) (hb : base ≤ W.heap.size) :
    ∃ g' cap' w', (Builtin.append_ #[135, 135] 135 #[.slice (some ⟨g, 0, none⟩) vs.length cap, .slice (some ⟨W.heap.size, 0, none⟩) 1 1]).run Tryz.prog (W.alloc (.cells #[.slice A L c] 28)) = .ok (.slice (some ⟨g', 0, none⟩) (vs.length + 1) cap') w' ∧ SkAt w' base g' cap' (vs ++ [.slice A L c]) ∧ Turn (· = g) W (· = g') w' := by
  obtain ⟨i0, hi, hz0, hz1, hz2⟩ := info_parts infoTerms
  obtain ⟨v', w', hrun, h2, h3, _, h5⟩ := run_append_own_at (P := Tryz.prog) _ base 135 135 28 i0 _ 1 24 Tryz.underlying135 hi hz0 hz1 hz2 rfl (by omega) _ vs.length _ (World.ownsRow.alloc h (.cells #[.slice A L c] 28)) ⟨W.heap.size, 0, none⟩ 1 1 [.slice A L c] rfl (cell_one_new _ _ _) (by simp [Value.oneCell']) (by unfold maxLen; omega) (by omega) (by simp; omega)
  obtain ⟨g', cap', rfl⟩ := ownsRow_succ h2
  have hz := h3.size
  rw [World.size_alloc] at hz
  refine ⟨g', cap', w', hrun, ?_, h3.os, h3.tape, h3.output, by omega, fun b hb hn => ?_, fun b hb => ?_⟩
  · unfold SkAt
    rw [List.length_append]
    exact h2
  · exact (h3.block b (by rw [World.size_alloc]; omega) (fun e => hn (by injection e))).trans (heap_old _ _ hb)
  · rcases h5 with h5 | h5
    · injection h5 with h5
      exact .inl (by rw [hb]; exact h5)
    · injection h5 with h5
      rw [World.size_alloc] at h5
      exact .inr (by rw [hb]; simp only at h5; omega)
def adV (vs : List Value) (A : Option Addr) (L c : Nat) : List Value := if L = 0 then vs else vs ++ [.slice A L c]
def AdvPost (base g : Nat) (us : List Value) (W : World) (e : Ending) (w' : World) : Prop := ∃ g' cap', e = .returned (.slice (some ⟨g', 0, none⟩) us.length cap') ∧ SkAt w' base g' cap' us ∧ Turn (· = g) W (· = g') w'
set_option maxHeartbeats 1000000 in
theorem qAdded_any (vs : List Value) (g cap base : Nat) (A : Option Addr) (L c : Nat) (W : World) (h : SkAt W base g cap vs) (hl : vs.length ≤ 100000) (hb : base ≤ W.heap.size) :
    Calls Tryz.prog 99 #[.slice (some ⟨g, 0, none⟩) vs.length cap, .slice A L c] W (AdvPost base g (adV vs A L c) W) := by
  by_cases h0 : L = 0
  · subst h0
    have HE : Hid (AdvPost base g (adV vs A 0 c) W (.returned (.slice (some ⟨g, 0, none⟩) vs.length cap)) W) := Lib.hid ⟨g, cap, rfl, h, Turn.refl _ _⟩
    clear h
    go_enter Tryz.func99, Tryz.ntmps99
    go_wp2_with fail
    go_ret
    exact HE.out
  · have d0 : ((L : Int) == 0) = false := beq_eq_false_iff_ne.2 (by omega)
    obtain ⟨g', cap', w', hrun, h1, h2⟩ := h.push A L c hl hb
    have HRUN := Lib.hid hrun
    have e : adV vs A L c = vs ++ [.slice A L c] := if_neg h0
    have HE : Hid (AdvPost base g (adV vs A L c) W (.returned (.slice (some ⟨g', 0, none⟩) (vs.length + 1) cap')) w') := Lib.hid (by rw [e]; exact ⟨g', cap', by simp, h1, h2⟩)
    clear h h1 h2 hrun e
    go_enter Tryz.func99, Tryz.ntmps99
    go_wp2_with (at_builtin; refine wpList_append_run (by rfl) _ _ _ (by rfl) (by rfl) (by rfl) HRUN.out ?_)
    go_ret
    exact HE.out
def prF : Ft → List Tm
  | .nil => []
  | .cons k n ls ks r => ⟨k, n, ls, ks⟩ :: (prF ks ++ prF r)
def prT (T : Tm) : List Tm := T :: prF T.ks
def TpV (B : Nat) (W : World) (x : Tm) (v : Value) : Prop := ∃ la lc ka kc, v = .agg #[.int .i64 x.k, .int .i64 x.n, .slice la x.ls.len lc, .slice ka x.ks.len kc] ∧ SlIn W (· < B) x.ls la lc ∧ TlIn W (· < B) x.ks ka kc
theorem TpV.keepV (B : Nat) : KeepV (TpV B) B := fun W W' x v h => by
  rintro ⟨la, lc, ka, kc, e, hs, ht⟩
  exact ⟨la, lc, ka, kc, e, hs.keep h, ht.turn h (fun _ h => h)⟩
def teV (e : Ft × Nat × Nat × Nat) : Value := .slice (some ⟨e.2.1, e.2.2.1, none⟩) e.1.len e.2.2.2
def TeIn (W : World) (B RB : Nat) (e : Ft × Nat × Nat × Nat) : Prop := 0 < e.1.len ∧ e.1.len ≤ e.2.2.2 ∧ e.2.2.2 ≤ maxLen ∧ (e.2.1 < B ∨ e.2.1 = RB) ∧ FtIn W (· < B) e.1 e.2.1 e.2.2.1
theorem TeIn.keep {W W' : World} {B RB : Nat} {e : Ft × Nat × Nat × Nat} (h : TeIn W B RB e) (hk : ∀ b, b < B ∨ b = RB → W'.heap[b]? = W.heap[b]?) : TeIn W' B RB e := by
  obtain ⟨h1, h2, h3, h4, h5⟩ := h
  exact ⟨h1, h2, h3, h4, FtIn.cells (fun b hb => hk b (.inl hb)) (fun _ h => h) e.1 _ _ (fun _ _ => World.cell?_of_block (w := W) (hk _ h4)) h5⟩
def skR : List (Ft × Nat × Nat × Nat) → List Tm
  | [] => []
  | e :: S => skR S ++ prF e.1
def skSz : List (Ft × Nat × Nat × Nat) → Nat
  | [] => 0
  | e :: S => skSz S + e.1.size
theorem skR_snoc (S : List (Ft × Nat × Nat × Nat)) (e : Ft × Nat × Nat × Nat) : skR (S ++ [e]) = prF e.1 ++ skR S := by
  induction S with
  | nil => simp [skR]
  | cons x S ih => show skR (S ++ [e]) ++ prF x.1 = prF e.1 ++ (skR S ++ prF x.1); rw [ih, List.append_assoc]
theorem skSz_snoc (S : List (Ft × Nat × Nat × Nat)) (e : Ft × Nat × Nat × Nat) : skSz (S ++ [e]) = skSz S + e.1.size := by
  induction S with
  | nil => simp [skSz]
  | cons x S ih => show skSz (S ++ [e]) + x.1.size = skSz S + x.1.size + e.1.size; rw [ih]; omega
theorem sk_len {W : World} {B RB : Nat} : ∀ {S : List (Ft × Nat × Nat × Nat)}, (∀ e ∈ S, TeIn W B RB e) → S.length ≤ skSz S
  | [], _ => Nat.le_refl _
  | x :: S, h => by
    have h1 := sk_len (S := S) (fun e he => h e (List.mem_cons_of_mem _ he))
    have h2 := (h x (List.mem_cons_self)).1
    have h3 := Ft.len_le_size x.1
    show S.length + 1 ≤ skSz S + x.1.size
    omega
def pushS (S : List (Ft × Nat × Nat × Nat)) (f : Ft) (A : Option Addr) (c : Nat) : List (Ft × Nat × Nat × Nat) := if f.len = 0 then S else S ++ [(f, (A.getD ⟨0, 0, none⟩).block, (A.getD ⟨0, 0, none⟩).off, c)]
theorem pushS_adV {S : List (Ft × Nat × Nat × Nat)} {f : Ft} {A : Option Addr} {c : Nat} (h : 0 < f.len → ∃ b o, A = some ⟨b, o, none⟩) : (pushS S f A c).map teV = adV (S.map teV) A f.len c := by
  unfold pushS adV
  by_cases h0 : f.len = 0
  · rw [if_pos h0, if_pos h0]
  · rw [if_neg h0, if_neg h0]
    obtain ⟨b, o, rfl⟩ := h (by omega)
    simp [teV]
theorem pushS_R (S : List (Ft × Nat × Nat × Nat)) (f : Ft) (A : Option Addr) (c : Nat) : skR (pushS S f A c) = prF f ++ skR S := by
  unfold pushS
  by_cases h0 : f.len = 0
  · rw [if_pos h0, Ft.len_zero h0]; rfl
  · rw [if_neg h0, skR_snoc]
theorem pushS_Sz (S : List (Ft × Nat × Nat × Nat)) (f : Ft) (A : Option Addr) (c : Nat) : skSz (pushS S f A c) = skSz S + f.size := by
  unfold pushS
  by_cases h0 : f.len = 0
  · rw [if_pos h0, Ft.len_zero h0]; rfl
  · rw [if_neg h0, skSz_snoc]
def PlAt (W0 : World) (B : Nat) (W : World) (g cap : Nat) (S : List (Ft × Nat × Nat × Nat)) : Prop := SkAt W W0.heap.size g cap (S.map teV) ∧ (∀ e ∈ S, TeIn W B W0.heap.size e) ∧ W0.heap.size < g ∧ B ≤ W0.heap.size ∧ skSz S ≤ 1001
def RtIn (W0 : World) (B : Nat) (W : World) (f : Ft) (A : Option Addr) (c : Nat) : Prop := f.len ≤ c ∧ c ≤ maxLen ∧ (0 < f.len → ∃ b o, A = some ⟨b, o, none⟩ ∧ (b < B ∨ b = W0.heap.size) ∧ FtIn W (· < B) f b o)
theorem RtIn.of {W0 : World} {B : Nat} {W : World} {f : Ft} {A : Option Addr} {c : Nat} (h : TlIn W (· < B) f A c) : RtIn W0 B W f A c := by
  obtain ⟨h1, h2, _, h3⟩ := h
  refine ⟨h1, h2, fun h0 => ?_⟩
  obtain ⟨b, o, e, hb, hf⟩ := h3 h0
  exact ⟨b, o, e, .inl hb, hf⟩
theorem PlAt.keep {W0 : World} {B : Nat} {W W' : World} {g cap : Nat} {S : List (Ft × Nat × Nat × Nat)} (h : PlAt W0 B W g cap S) (hk : ∀ b, b < B ∨ b = W0.heap.size ∨ b = g → W'.heap[b]? = W.heap[b]?) : PlAt W0 B W' g cap S :=
  ⟨h.1.keep (hk g (.inr (.inr rfl))), fun e he => (h.2.1 e he).keep (fun b hb => hk b (by rcases hb with hb | hb; exact .inl hb; exact .inr (.inl hb))), h.2.2⟩
theorem RtIn.keep {W0 : World} {B : Nat} {W W' : World} {f : Ft} {A : Option Addr} {c : Nat} (h : RtIn W0 B W f A c) (hk : ∀ b, b < B ∨ b = W0.heap.size → W'.heap[b]? = W.heap[b]?) : RtIn W0 B W' f A c := by
  obtain ⟨h1, h2, h3⟩ := h
  refine ⟨h1, h2, fun h0 => ?_⟩
  obtain ⟨b, o, e, hb, hf⟩ := h3 h0
  exact ⟨b, o, e, hb, FtIn.cells (fun q hq => hk q (.inl hq)) (fun _ h => h) f _ _ (fun _ _ => World.cell?_of_block (w := W) (hk _ hb)) hf⟩
theorem PlAt.len {W0 : World} {B : Nat} {W : World} {g cap : Nat} {S : List (Ft × Nat × Nat × Nat)} (h : PlAt W0 B W g cap S) : S.length ≤ 1001 := Nat.le_trans (sk_len h.2.1) h.2.2.2.2
theorem PlAt.push {W0 : World} {B : Nat} {W : World} {g cap : Nat} {S : List (Ft × Nat × Nat × Nat)} (h : PlAt W0 B W g cap S) {f : Ft} {A : Option Addr} {c : Nat} (hr : RtIn W0 B W f A c) (hz : skSz S + f.size ≤ 1001) (hW : W0.heap.size ≤ W.heap.size) :
    Calls Tryz.prog 99 #[.slice (some ⟨g, 0, none⟩) S.length cap, .slice A f.len c] W fun e w' => ∃ g' cap', e = .returned (.slice (some ⟨g', 0, none⟩) (pushS S f A c).length cap') ∧ PlAt W0 B w' g' cap' (pushS S f A c) ∧ Turn (· = g) W (· = g') w' := by
  have hl := h.len
  obtain ⟨h1, h2, h3, h4, h5⟩ := h
  have hC := qAdded_any (S.map teV) g cap W0.heap.size A f.len c W h1 (by rw [List.length_map]; omega) hW
  rw [List.length_map] at hC
  refine hC.mono ?_
  rintro e w' ⟨g', cap', rfl, k1, k2⟩
  rw [← pushS_adV (fun h0 => by obtain ⟨b, o, e, _⟩ := hr.2.2 h0; exact ⟨b, o, e⟩)] at k1 ⊢
  have hk : ∀ b, b < B ∨ b = W0.heap.size → w'.heap[b]? = W.heap[b]? := fun b hb => k2.2.2.2.2.1 b (by have := h1.lt.2.1; omega) (by omega)
  refine ⟨g', cap', by rw [List.length_map], ⟨k1, fun e he => ?_, ?_, h4, by rw [pushS_Sz]; exact hz⟩, k2⟩
  · unfold pushS at he
    by_cases h0 : f.len = 0
    · rw [if_pos h0] at he
      exact (h2 e he).keep hk
    · rw [if_neg h0] at he
      rcases List.mem_append.1 he with he | he
      · exact (h2 e he).keep hk
      · rcases List.mem_singleton.1 he with rfl
        obtain ⟨r1, r2, r3⟩ := hr
        have hpos : 0 < f.len := Nat.pos_of_ne_zero h0
        obtain ⟨b, o, rfl, hb, hf⟩ := r3 hpos
        exact TeIn.keep ⟨hpos, r1, r2, hb, hf⟩ hk
  · rcases k2.2.2.2.2.2 g' rfl with h6 | h6
    · rw [h6]; exact h3
    · have := h1.lt.2.1; omega
end Go.Proofs.YtnfhpombnbpdcaaGreat
namespace Go.Proofs.YtnfhpombnbpdcaaGreat
open Go.RowKit Go.Shelf
attribute [local go_sem] Oper.semAt_some
set_option maxHeartbeats 1000000 in
theorem parts_in (n' : Nat) (k n : Int) (la ka : Option Addr) (l lc m kc : Nat) (w : World) :
    CallsIn Fence.wide n' Tryz.prog 82 #[.agg #[.int .i64 k, .int .i64 n, .slice la l lc, .slice ka m kc]] w fun e w' =>
      e = .returned (.func (.func 98) #[] #[.pointer (some ⟨w.heap.size, 0, none⟩)]) ∧ w' = w.alloc (.cells #[.int .i64 k, .int .i64 n, .slice la l lc, .slice ka m kc] 30) := by
  refine callsIn_of_wp Tryz.func82 rfl trivial ?_ rfl
  simp only [Tryz.ntmps82, List.size_toArray, List.length_cons, List.length_nil, Nat.reduceAdd, Nat.reduceSub, Array.replicate_succ, Array.replicate_zero, List.push_toArray, List.append_toArray, List.nil_append, List.cons_append]
  gi_wp2
  go_ret
  exact ⟨rfl, rfl⟩
def PtD (s B : Nat) (b : Nat) : Prop := b < B ∨ b = s
def PtS (W : World) (B : Nat) (J : (Nat → Prop) → List Tm → World → Prop) (O : Nat → Prop) (T : Tm) (g cap : Nat) (S : List (Ft × Nat × Nat × Nat)) (wr : World) : Prop :=
  PlAt W B wr g cap S ∧ ∃ O' pre, (J O' pre wr ∧ Turn O W O' wr ∧ ¬ O' g ∧ ¬ O' W.heap.size) ∧ prT T = pre ++ skR S
theorem own_push {W w4 w5 : World} {J : (Nat → Prop) → List Tm → World → Prop} {O O2 : Nat → Prop} {pre : List Tm} {g g' : Nat} (hInv : InvV W.heap.size J) (hg : W.heap.size < g) (hgl : g < w4.heap.size) (h : J O2 pre w4 ∧ Turn O W O2 w4 ∧ ¬ O2 g ∧ ¬ O2 W.heap.size) (t : Turn (· = g) w4 (· = g') w5) : J O2 pre w5 ∧ Turn O W O2 w5 ∧ ¬ O2 g' ∧ ¬ O2 W.heap.size := by
  obtain ⟨h1, h2, h3, h4⟩ := h
  have hlt := hInv.2 _ _ _ h1
  have hz := h2.2.2.2.1
  refine ⟨hInv.1 _ _ _ w5 (some g) h1 ⟨t.1, t.2.1, t.2.2.1, t.2.2.2.1, fun b hb hn => t.2.2.2.2.1 b hb (fun e => hn (by rw [e]))⟩ (fun r e => by injection e with e; subst e; exact ⟨by omega, h3⟩), ?_, fun hO => ?_, h4⟩
  · refine ⟨t.1.trans h2.1, t.2.1.trans h2.2.1, t.2.2.1.trans h2.2.2.1, Nat.le_trans hz t.2.2.2.1, fun b hb hn => (t.2.2.2.2.1 b (by omega) (by omega)).trans (h2.2.2.2.2.1 b hb hn), h2.2.2.2.2.2⟩
  · rcases t.2.2.2.2.2 g' rfl with e | e
    · have e : g' = g := e
      exact h3 (by rw [← e]; exact hO)
    · have := hlt _ hO; omega
theorem own_same {W w4 w5 : World} {J : (Nat → Prop) → List Tm → World → Prop} {O O2 : Nat → Prop} {pre : List Tm} {g : Nat} (hInv : InvV W.heap.size J) (h : J O2 pre w4 ∧ Turn O W O2 w4 ∧ ¬ O2 g ∧ ¬ O2 W.heap.size) (t : Below w4.heap.size w4 w5) : J O2 pre w5 ∧ Turn O W O2 w5 ∧ ¬ O2 g ∧ ¬ O2 W.heap.size :=
  ⟨hInv.1 _ _ _ w5 none h.1 ⟨t.os, t.tape, t.output, t.size, fun b hb _ => t.block b hb⟩ (fun r e => by cases e), h.2.1.trans (Turn.below t), h.2.2⟩
theorem PtS.start {W : World} {B : Nat} {J : (Nat → Prop) → List Tm → World → Prop} {O : Nat → Prop} {T : Tm} {la ka : Option Addr} {lc kc : Nat} (hls : SlIn W (· < B) T.ls la lc) (hsl : TlIn W (· < B) T.ks ka kc) (hB : B ≤ W.heap.size) (hz : T.ks.size ≤ 1000) (hInv : InvV W.heap.size J) (h0 : J O [] W) :
    PtS W B J O T (W.heap.size + 1) 1 [(T.one, W.heap.size, 0, 1)] ((W.alloc (.cells #[.int .i64 T.k, .int .i64 T.n, .slice la T.ls.len lc, .slice ka T.ks.len kc] 30)).alloc (.cells #[.slice (some ⟨W.heap.size, 0, none⟩) 1 1] 28)) := by
  obtain ⟨V, hV⟩ : ∃ V, (W.alloc (.cells #[.int .i64 T.k, .int .i64 T.n, .slice la T.ls.len lc, .slice ka T.ks.len kc] 30)).alloc (.cells #[.slice (some ⟨W.heap.size, 0, none⟩) 1 1] 28) = V := ⟨_, rfl⟩
  have hb : Below W.heap.size W V := by rw [← hV]; exact ((Below.refl _ _).alloc (Nat.le_refl _) _).alloc (by simp) _
  have h1 : V.heap[W.heap.size]? = some (.cells #[.int .i64 T.k, .int .i64 T.n, .slice la T.ls.len lc, .slice ka T.ks.len kc] 30 (0, 0)) := by rw [← hV]; exact (heap_old _ _ (by simp)).trans (heap_new _ _)
  have hJ : J O [] V := by rw [← hV]; exact hInv.alloc _ (hInv.alloc _ h0)
  have hsk : SkAt V W.heap.size (W.heap.size + 1) 1 [.slice (some ⟨W.heap.size, 0, none⟩) 1 1] := by
    have h2 : V.heap[W.heap.size + 1]? = some (.cells #[.slice (some ⟨W.heap.size, 0, none⟩) 1 1] 28 (0, 0)) := by rw [← hV]; exact heap_second _ _ _
    exact ⟨rfl, .inr ⟨_, _, _, rfl, by omega, h2, Nat.le_refl _, by unfold maxLen; omega, rfl, rfl⟩⟩
  have hO := hInv.2 _ _ _ h0
  rw [hV]
  refine ⟨⟨hsk, ?_, by omega, hB, ?_⟩, O, [], ⟨hJ, Turn.below hb, fun h => by have := hO _ h; omega, fun h => by have := hO _ h; omega⟩, ?_⟩
  · intro e he
    rcases List.mem_singleton.1 he with rfl
    refine ⟨show 0 < 1 by omega, show 1 ≤ 1 by omega, show 1 ≤ maxLen by (unfold maxLen; omega), .inr rfl, ?_⟩
    obtain ⟨c0, c1, c2, c3⟩ := cells4 h1
    exact FtIn.push c0 c1 c2 (hls.below (hb.mono hB)) c3 (hsl.below (hb.mono hB)) trivial
  · show 0 + (T.ks.size + 0 + 1) ≤ 1001
    omega
  · show T :: prF T.ks = [] ++ ([] ++ (⟨T.k, T.n, T.ls, T.ks⟩ :: (prF T.ks ++ [])))
    simp
theorem list_snoc {α : Type} (S : List α) : S = [] ∨ ∃ S0 e, S = S0 ++ [e] := by
  rcases List.eq_nil_or_concat S with h | ⟨L, b, h⟩
  · exact .inl h
  · exact .inr ⟨L, b, by rw [h, List.concat_eq_append]⟩
theorem least_mu (Q : Nat → Value → World → Prop) : ∃ μ : Value → World → Nat, ∀ v w n, Q n v w → Q (μ v w) v w ∧ μ v w ≤ n := by
  have h : ∀ v w, ∃ m, ∀ n, Q n v w → Q m v w ∧ m ≤ n := fun v w => by
    by_cases hx : ∃ n, Q n v w
    · obtain ⟨n, hn⟩ := hx
      induction n using Nat.strongRecOn with
      | ind n ih =>
        by_cases hy : ∃ k, k < n ∧ Q k v w
        · obtain ⟨k, hk, hq⟩ := hy
          exact ih k hk hq
        · exact ⟨n, fun k hk => ⟨hn, Nat.le_of_not_lt (fun hlt => hy ⟨k, hlt, hk⟩)⟩⟩
    · exact ⟨0, fun n hn => absurd ⟨n, hn⟩ hx⟩
  exact ⟨fun v w => Classical.choose (h v w), fun v w => Classical.choose_spec (h v w)⟩
def PtQ (W : World) (B : Nat) (J : (Nat → Prop) → List Tm → World → Prop) (O : Nat → Prop) (T : Tm) (n : Nat) (tv : Value) (wr : World) : Prop :=
  ∃ (g cap M : Nat) (S : List (Ft × Nat × Nat × Nat)), tv = .slice (some ⟨g, 0, none⟩) M cap ∧ M = S.length ∧ PtS W B J O T g cap S wr ∧ skSz S = n
set_option maxRecDepth 100000 in
set_option maxHeartbeats 8000000 in
theorem parts1_tells (T : Tm) (la ka : Option Addr) (lc kc s B : Nat) (W : World) (hs : W.heap[s]? = some (.cells #[.int .i64 T.k, .int .i64 T.n, .slice la T.ls.len lc, .slice ka T.ks.len kc] 30 (0, 0))) (hls : SlIn W (· < B) T.ls la lc) (hsl : TlIn W (· < B) T.ks ka kc) (hB : B ≤ s) (hz : T.ks.size ≤ 1000) :
    TellsV (TpV B) (PtD s B) 98 #[.pointer (some ⟨s, 0, none⟩)] (prT T) W := by
  intro l J O hD hInv hR h0 m
  have hdd : ∀ k : Nat, (Fence.wide.depth.isSome = true → 1 ≤ k) := fun k h => by cases h
  have hsl0 := lt_of_block hs
  have HS := Lib.hid (PtS.start (B := B) hls hsl (by omega) hz hInv h0)
  obtain ⟨c0, c1, c2, c3⟩ := cells4 hs
  have HSB : Hid (B ≤ W.heap.size) := Lib.hid (by omega)
  have HDO : Hid (∀ b, b < B → ¬ O b) := Lib.hid (fun b hb => hD b (.inl hb))
  have HIV := Lib.hid hInv
  have HRR := Lib.hid hR
  clear hls hsl hz hInv h0 hR hs hD hB
  refine callsIn_of_wp Tryz.func98 rfl trivial ?_ rfl
  simp only [Tryz.ntmps98, List.size_toArray, List.length_cons, List.length_nil, Nat.reduceAdd, Nat.reduceSub, Array.replicate_succ, Array.replicate_zero, List.push_toArray, List.append_toArray, List.nil_append, List.cons_append]
  gi_wp2
  clear c0 c1 c2 c3 hsl0
  obtain ⟨μ, hμ⟩ := least_mu (PtQ W B J O T)
  have HMU := Lib.hid hμ
  clear hμ
  gi_loopw [3] (fun tv wr => ∃ n, Hid (PtQ W B J O T n tv wr)) (fun tv wr => μ tv wr)
  case atStart => exact ⟨_, Lib.hid ⟨W.heap.size + 1, 1, 1, [(T.one, W.heap.size, 0, 1)], rfl, rfl, HS.out, rfl⟩⟩
  case round =>
    clear HS
    obtain ⟨n0, hQ⟩ := hrel
    obtain ⟨g, cap, M, S, htv, hM, hS, hn⟩ := (HMU.out _ _ _ hQ.out).1
    have hHN := Lib.hid hn
    clear hQ n0 hn
    subst htv
    rcases list_snoc S with rfl | ⟨S0, e, rfl⟩
    · obtain rfl : M = 0 := hM
      obtain ⟨_, O1, pre, ⟨h1, h2, _⟩, h3⟩ := hS
      have HE : Hid (J O1 (prT T) wr ∧ Turn O W O1 wr) := Lib.hid (by rw [h3]; show J O1 (pre ++ []) wr ∧ _; rw [List.append_nil]; exact ⟨h1, h2⟩)
      clear h1 h2 h3
      gi_wp2
      go_end0
      exact ⟨⟨_, rfl⟩, O1, HE.out.1, HE.out.2⟩
    · obtain ⟨f, b, o, cap1⟩ := e
      obtain ⟨hpl, O1, pre, hown, hpr⟩ := hS
      have hlen := hpl.len
      obtain ⟨hsk, hte, hRg, hBW, hsz⟩ := hpl
      rw [List.map_append, List.map_singleton] at hsk
      obtain ⟨hsk0, hc0⟩ := hsk.drop
      have hskl := hsk0.lt
      rw [List.length_map] at hc0 hskl
      obtain ⟨N, hN⟩ : ∃ N : Nat, N = S0.length := ⟨_, rfl⟩
      rw [← hN] at hc0 hskl
      have hMN : M = N + 1 := by rw [hM, List.length_append, hN]; rfl
      have d0 : (0 : Int) < (M : Int) := by omega
      have hwr : IntKind.i64.wrap ((M : Int) - 1) = (N : Int) := by rw [show (M : Int) - 1 = (N : Int) by omega]; exact IntWalk.i64_in _ (by rw [List.length_append] at hlen; simp at hlen; omega)
      have hNM : (N : Int) < (M : Int) := by omega
      have hNM' : (N : Int) ≤ (cap : Int) := by have := hskl.2.2; omega
      have hel := hte _ (List.mem_append_right _ (List.mem_singleton.2 rfl))
      obtain ⟨hl0, hl1, hl2, hl3, hl4⟩ := hel
      dsimp only at hl0 hl1 hl2 hl3 hl4
      match f with
      | .nil => exact absurd hl0 (by simp [Ft.len])
      | .cons k n ls ks r =>
        obtain ⟨e0, e1, ⟨la', lc', e2, hls'⟩, ⟨ka', kc', e3, hks'⟩, hrest⟩ := hl4.first
        obtain ⟨L, hL⟩ : ∃ L : Nat, L = (Ft.cons k n ls ks r).len := ⟨_, rfl⟩
        have hLr : L - 1 = r.len := by rw [hL]; rfl
        have hzz : W.heap.size ≤ wr.heap.size := hown.2.1.2.2.2.1
        have hbl : b < wr.heap.size := by rcases hl3 with h | h <;> omega
        have c0 : wr.cell? ⟨g, N, none⟩ = some (.slice (some ⟨b, o, none⟩) L cap1) := by rw [hL]; exact hc0
        have c0' : ∀ cs, (wr.alloc (.cells cs 30)).cell? ⟨g, N, none⟩ = some (.slice (some ⟨b, o, none⟩) L cap1) := fun cs => (World.cell?_of_block (w := wr) (heap_old wr _ hskl.2.1)).trans c0
        have e0' : ∀ cs, (wr.alloc (.cells cs 30)).cell? ⟨b, o, none⟩ = some (.int .i64 k) := fun cs => (World.cell?_of_block (w := wr) (heap_old wr _ hbl)).trans e0
        have e1' : ∀ cs, (wr.alloc (.cells cs 30)).cell? ⟨b, o + 1, none⟩ = some (.int .i64 n) := fun cs => (World.cell?_of_block (w := wr) (heap_old wr _ hbl)).trans e1
        have e2' : ∀ cs, (wr.alloc (.cells cs 30)).cell? ⟨b, o + 2, none⟩ = some (.slice la' ls.len lc') := fun cs => (World.cell?_of_block (w := wr) (heap_old wr _ hbl)).trans e2
        have e3' : ∀ cs, (wr.alloc (.cells cs 30)).cell? ⟨b, o + 3, none⟩ = some (.slice ka' ks.len kc') := fun cs => (World.cell?_of_block (w := wr) (heap_old wr _ hbl)).trans e3
        have hL0 : (0 : Int) < (L : Int) := by rw [hL]; simp only [Ft.len]; omega
        have hL1 : (1 : Int) ≤ (L : Int) := by omega
        have hLc : (L : Int) ≤ (cap1 : Int) := by rw [hL]; omega
        -- the world behind the third region
        obtain ⟨W3, hW3⟩ : ∃ W3, (wr.alloc (.cells #[.int .i64 k, .int .i64 n, .slice la' ls.len lc', .slice ka' ks.len kc'] 30)).drew = W3 := ⟨_, rfl⟩
        have hb3 : Below wr.heap.size wr W3 := by rw [← hW3]; exact ((Below.refl _ _).alloc (Nat.le_refl _) _).drew
        have hn3 : W3.heap[wr.heap.size]? = some (.cells #[.int .i64 k, .int .i64 n, .slice la' ls.len lc', .slice ka' ks.len kc'] 30 (0, 0)) := by rw [← hW3]; exact heap_new wr _
        have hown3 := own_same HIV.out hown hb3
        have hBk : ∀ q, q < B ∨ q = W.heap.size ∨ q = g → q < wr.heap.size := fun q hq => by rcases hq with h | h | h <;> omega
        have hv3 : TpV B W3 ⟨k, n, ls, ks⟩ (.agg #[.int .i64 k, .int .i64 n, .slice la' ls.len lc', .slice ka' ks.len kc']) := ⟨la', lc', ka', kc', rfl, hls'.keep (fun q hq => hb3.block q (hBk q (.inl hq))), hks'.turn (fun q hq => hb3.block q (hBk q (.inl hq))) (fun _ h => h)⟩
        have hpre : pre ++ [(⟨k, n, ls, ks⟩ : Tm)] <+: prT T := by
          rw [hpr, skR_snoc]
          exact ⟨(prF ks ++ prF r) ++ skR S0, by simp [prF]⟩
        obtain ⟨fn, tmps, assign, body, hy, hRd⟩ := HRR.out (m - 1) O1 pre ⟨k, n, ls, ks⟩ _ W3 hown3.1 hv3 hpre
        obtain ⟨A, hA⟩ : ∃ A, A = (if cap1 = 1 then some (⟨b, o, none⟩ : Addr) else some ⟨b, o + 4, none⟩) := ⟨_, rfl⟩
        have hrt : RtIn W B wr r A (cap1 - 1) := by
          refine ⟨by simp only [Ft.len] at hl1; omega, by omega, fun h0 => ?_⟩
          refine ⟨b, o + 4, ?_, hl3, hrest⟩
          rw [hA, if_neg (by simp only [Ft.len] at hl1; omega)]
        have hkt : RtIn W B wr ks ka' kc' := RtIn.of hks'
        have hpl0 : PlAt W B wr g cap S0 := ⟨hsk0, fun e he => hte e (List.mem_append_left _ he), hRg, hBW, by rw [skSz_snoc] at hsz; omega⟩
        have hfs : skSz S0 + (ks.size + r.size + 1) ≤ 1001 := by rw [skSz_snoc] at hsz; exact hsz
        have hmu : skSz (S0 ++ [((Ft.cons k n ls ks r), b, o, cap1)]) = skSz S0 + (ks.size + r.size + 1) := by rw [skSz_snoc]; rfl
        -- behind the yield
        have HY : Hid (∀ O2 w4, J O2 (pre ++ [(⟨k, n, ls, ks⟩ : Tm)]) w4 → Turn O1 W3 O2 w4 → (∀ W4, W4 = w4.drew →
            W4.cell? ⟨wr.heap.size, 3, none⟩ = some (.slice ka' ks.len kc') ∧
            Calls Tryz.prog 99 #[.slice (some ⟨g, 0, none⟩) N cap, .slice A r.len (cap1 - 1)] W4 (fun e w5 => ∃ g5 cap5, e = .returned (.slice (some ⟨g5, 0, none⟩) (pushS S0 r A (cap1 - 1)).length cap5) ∧ w5.cell? ⟨wr.heap.size, 3, none⟩ = some (.slice ka' ks.len kc') ∧
              Calls Tryz.prog 99 #[.slice (some ⟨g5, 0, none⟩) (pushS S0 r A (cap1 - 1)).length cap5, .slice ka' ks.len kc'] w5 (fun e w6 => ∃ g6 cap6 S6, e = .returned (.slice (some ⟨g6, 0, none⟩) S6.length cap6) ∧ PtS W B J O T g6 cap6 S6 w6 ∧ skSz S6 < skSz (S0 ++ [((Ft.cons k n ls ks r), b, o, cap1)]))))) := Lib.hid (by
          rintro O2 w4 hJ4 hT4 W4 rfl
          have hlow : ∀ q, q < wr.heap.size → ¬ O1 q → w4.heap[q]? = wr.heap[q]? := fun q hq hn => (hT4.2.2.2.2.1 q (by have := hb3.size; omega) hn).trans (hb3.block q hq)
          have hno : ∀ q, q < B ∨ q = W.heap.size ∨ q = g → ¬ O1 q := fun q hq => by
            rcases hq with h | h | h
            · intro hO
              rcases hown.2.1.2.2.2.2.2 q hO with h2 | h2
              · exact HDO.out q h h2
              · omega
            · rw [h]; exact hown.2.2.2
            · rw [h]; exact hown.2.2.1
          have hk4 : ∀ q, q < B ∨ q = W.heap.size ∨ q = g → (w4.drew).heap[q]? = wr.heap[q]? := fun q hq => hlow q (hBk q hq) (hno q hq)
          have hO1 : ∀ q, O1 q → q < wr.heap.size := HIV.out.2 _ _ _ hown.1
          have hnb : ¬ O1 wr.heap.size := fun h => by have := hO1 _ h; omega
          have hz3 : wr.heap.size < W3.heap.size := (Array.getElem?_eq_some_iff.1 hn3).1
          have hz4 := hT4.2.2.2.1
          have hn4 : (w4.drew).heap[wr.heap.size]? = some (.cells #[.int .i64 k, .int .i64 n, .slice la' ls.len lc', .slice ka' ks.len kc'] 30 (0, 0)) := (hT4.2.2.2.2.1 _ hz3 hnb).trans hn3
          have hzd : (w4.drew).heap.size = w4.heap.size := rfl
          have hnn : ∀ q, q < W3.heap.size → ¬ O1 q → ¬ O2 q := fun q hq hn h => by
            rcases hT4.2.2.2.2.2 q h with h | h
            · exact hn h
            · omega
          have hown4 : J O2 (pre ++ [(⟨k, n, ls, ks⟩ : Tm)]) w4.drew ∧ Turn O W O2 w4.drew ∧ ¬ O2 g ∧ ¬ O2 W.heap.size := own_same HIV.out ⟨hJ4, hown3.2.1.trans hT4, hnn g (by omega) hown.2.2.1, hnn _ (by omega) hown.2.2.2⟩ ((Below.refl _ _).drew)
          have hp4 := hpl0.keep hk4
          have hr4 := hrt.keep (fun q hq => hk4 q (by rcases hq with h | h; exact .inl h; exact .inr (.inl h)))
          have hkt4 := hkt.keep (fun q hq => hk4 q (by rcases hq with h | h; exact .inl h; exact .inr (.inl h)))
          refine ⟨cell_at hn4 3, ?_⟩
          have hC1 := hp4.push hr4 (by omega) (by omega)
          rw [← hN] at hC1
          refine hC1.mono ?_
          rintro e w5 ⟨g5, cap5, rfl, hp5, ht5⟩
          have hgl4 : g < (w4.drew).heap.size := by omega
          have hown5 := own_push HIV.out hRg hgl4 hown4 ht5
          have hz5 := ht5.2.2.2.1
          have hn5 := (ht5.2.2.2.2.1 wr.heap.size (by omega) (by omega)).trans hn4
          refine ⟨g5, cap5, rfl, cell_at hn5 3, ?_⟩
          have hk5 : ∀ q, q < B ∨ q = W.heap.size → w5.heap[q]? = (w4.drew).heap[q]? := fun q hq => ht5.2.2.2.2.1 q (by omega) (by omega)
          have hC2 := hp5.push (hkt4.keep hk5) (by rw [pushS_Sz]; omega) (by omega)
          refine hC2.mono ?_
          rintro e w6 ⟨g6, cap6, rfl, hp6, ht6⟩
          have hown6 := own_push HIV.out hp5.2.2.1 hp5.1.lt.2.1 hown5 ht6
          refine ⟨g6, cap6, _, rfl, ⟨hp6, O2, _, hown6, ?_⟩, ?_⟩
          · rw [pushS_R, pushS_R, hpr, skR_snoc]
            simp [prF]
          · rw [pushS_Sz, pushS_Sz, hmu]; omega)
        have HW3 := Lib.hid hW3
        have HLR := Lib.hid hLr
        have HA := Lib.hid hA
        have hcy := cells4 hn3
        have HHM := Lib.hid hM
        have HN3 := Lib.hid hn3
        clear hcy hsk hte hsz hsk0 hc0 hskl hl0 hl1 hl2 hl3 hl4 hls' hks' hrest hL hLr hb3 hn3 hown3 hv3 hpre hA hrt hkt hpl0 hfs hmu hown hpr hM hMN hN hlen hRg hBW hzz hbl hBk hW3
        gi_wp2
        gi_region
        rw [HW3.out, HLR.out, ← HA.out]
        obtain ⟨y0, y1, y2, y3⟩ := cells4 HN3.out
        clear c0 c0' e0 e1 e2 e3 e0' e1' e2' e3'
        gi_wp2
        refine ⟨hdd _, ?_⟩
        refine hRd.mono ?_
        rintro e w4 ⟨rfl, O2, hJ4, hT4⟩
        have HY4 := Lib.hid (HY.out O2 w4 hJ4 hT4 _ rfl)
        clear hJ4 hT4 HY y0 y1 y2 y3
        obtain ⟨k4, hC1⟩ := HY4.out
        have HC1 := Lib.hid hC1
        clear hC1 HY4
        gi_wp2
        gi_region_with (first
          | (refine ⟨trivial, hdd _, ?_⟩; gi_at_call 99; with_reducible refine (callsIn_wide.2 HC1.out).mono ?_; rintro e w5 ⟨g5, cap5, rfl, k5, hC2⟩; have HC2 := Lib.hid hC2; clear hC2)
          | (refine ⟨trivial, hdd _, ?_⟩; gi_at_call 99; with_reducible refine (callsIn_wide.2 HC2.out).mono ?_; rintro e w6 ⟨g6, cap6, S6, rfl, hP6, hS6⟩; have HP6 := Lib.hid hP6; have HS6 := Lib.hid hS6; clear hP6 hS6))
        all_goals
          have hq6 : PtQ W B J O T (skSz S6) (.slice (some ⟨g6, 0, none⟩) S6.length cap6) w6 := ⟨g6, cap6, S6.length, S6, rfl, rfl, HP6.out, rfl⟩
          have HQ6 := Lib.hid hq6
          clear hq6
          go_simp
          go_roundw
          case rel => exact ⟨_, _, _, _, _, _, _, _, _, _, _, _, _, _, _, _, _, _, _, _, _, _, _, _, _, _, _, _, _, _, _, _, _, ⟨_, HQ6⟩, rfl⟩
          case measure =>
            have h1 := (HMU.out _ _ _ HQ6.out).2
            have h2 := HS6.out
            rw [hHN.out] at h2
            exact Nat.lt_of_le_of_lt h1 h2
end Go.Proofs.YtnfhpombnbpdcaaGreat
namespace Go.Proofs.YtnfhpombnbpdcaaGreat
open Go.RowKit
def entsI : Nat → List Int → List MapEntry
  | _, [] => []
  | i, x :: r => ⟨.int .i64 x, .agg #[], i⟩ :: entsI (i + 1) r
theorem entsI_app : ∀ (i : Nat) (a b : List Int), entsI i (a ++ b) = entsI i a ++ entsI (i + a.length) b
  | i, [], b => by simp [entsI]
  | i, x :: a, b => by simp [entsI, entsI_app (i + 1) a b]; congr 1; omega
def sTab (zs : List Int) : Obj := .map (entsI 0 zs).toArray zs.length
theorem findI (x : Int) : ∀ (zs : List Int) (i j : Nat), ∃ q, Instr.findNow (.int .i64) (.int .i64 x) (entsI j zs) i = some (if x ∈ zs then some (q, .agg #[]) else none)
  | [], i, j => ⟨0, by simp [entsI, Instr.findNow]⟩
  | y :: r, i, j => by
    by_cases h : x = y
    · exact ⟨i, by subst h; simp [entsI, Instr.findNow, Instr.sameNow]⟩
    · obtain ⟨q, hq⟩ := findI x r (i + 1) (j + 1)
      refine ⟨q, ?_⟩
      have hne : (x == y) = false := beq_eq_false_iff_ne.2 h
      simp only [entsI, Instr.findNow, Instr.sameNow, hne, List.mem_cons, h, false_or]
      exact hq
theorem run_checkI (e : Bool) (x : Int) (w : World) : (Instr.checkKey e 10000 3 (.int .i64 x)).run Tryz.prog w = .ok () w := MapKept.run_checkKey (k := .int .i64 x) Tryz.underlying3 (by simp [MapKept.IsKey]) e 9999
theorem run_findI (w : World) (x : Int) (zs : List Int) : ∃ q, (Instr.findKey 3 (.int .i64 x) (entsI 0 zs)).run Tryz.prog w = .ok (if x ∈ zs then some (q, .agg #[]) else none) w := by
  obtain ⟨q, hq⟩ := findI x zs 0 0
  refine ⟨q, ?_⟩
  simp only [Instr.findKey, Sem.run_bind, run_underlying Tryz.underlying3, Result.andThen_ok, hq, Sem.run_pure]
theorem run_lookI (W : World) (r : Nat) (zs : List Int) (hb : W.heap[r]? = some (sTab zs)) (x : Int) :
    (Instr.lookup 117 (.map (some r)) (.int .i64 x) true).run Tryz.prog W = .ok (.tuple #[.agg #[], .bool (decide (x ∈ zs))]) W := by
  have hz : (zeroValue 138).run Tryz.prog W = .ok (.agg #[]) W := by kernel_rfl
  obtain ⟨q, hq⟩ := run_findI W x zs
  simp only [Instr.lookup, Sem.run_bind, run_underlying Tryz.underlying117, Result.andThen_ok, sTab] at hb ⊢
  simp only [MapKept.run_getObj_map hb, Result.andThen_ok]
  by_cases h : x ∈ zs
  · simp [h, run_checkI, hq, Result.andThen]
  · simp [h, hz, run_checkI, hq, Result.andThen]
def putM (w : World) (r : Nat) (o : Obj) : World := { w with heap := w.heap.setIfInBounds r o }
@[simp] theorem putM_size (w : World) (r : Nat) (o : Obj) : (putM w r o).heap.size = w.heap.size := by simp [putM]
theorem putM_at {w : World} {r : Nat} {o o' : Obj} (h : w.heap[r]? = some o) : (putM w r o').heap[r]? = some o' := (MapKept.heap_set h).1
theorem putM_ne (w : World) {r b : Nat} (o : Obj) (h : b ≠ r) : (putM w r o).heap[b]? = w.heap[b]? := by
  show (w.heap.setIfInBounds r o)[b]? = _
  rw [Array.getElem?_setIfInBounds_ne (Ne.symm h)]
theorem run_updI (W : World) (r : Nat) (zs : List Int) (hb : W.heap[r]? = some (sTab zs)) (x : Int) (hx : x ∉ zs) :
    (Instr.mapUpdate 117 (.map (some r)) (.int .i64 x) (.agg #[])).run Tryz.prog W = .ok () (putM W r (sTab (zs ++ [x]))) := by
  have e : sTab (zs ++ [x]) = .map ((entsI 0 zs).toArray.push ⟨.int .i64 x, .agg #[], zs.length⟩) (zs.length + 1) := by
    simp [sTab, entsI_app, entsI]
  rw [e]
  obtain ⟨q, hq⟩ := run_findI W x zs
  unfold sTab at hb
  simp only [Instr.mapUpdate, Sem.run_bind, run_underlying Tryz.underlying117, Result.andThen_ok, MapKept.run_getObj_map hb, run_checkI, hq, hx, if_false, MapKept.run_setObj_map _ hb]
  rfl
end Go.Proofs.YtnfhpombnbpdcaaGreat
namespace Go.Proofs.YtnfhpombnbpdcaaGreat
open Go.RowKit
def nmlF : Nat → Fo
  | 0 => .nil
  | n + 1 => .cons (if n = 0 then 1 else 2) 0 (nmlF n) .nil
def nmlK (n : Nat) : Int := if n = 0 then 1 else 2
def NumAt (w wr : World) (j : Nat) (a : Option Addr) (cap : Nat) : Prop :=
  wr.heap[w.heap.size + 1]? = some (.cells #[.int .i64 (nmlK j), .int .i64 0, .slice a (nmlF j).len cap] 45 (0, 0)) ∧
    SlIn wr (fun b => w.heap.size + 1 < b ∧ b < wr.heap.size) (nmlF j) a cap ∧
    Below (w.heap.size + 1) (w.alloc (.cells #[.int .i64 0, .int .i64 0, .slice none 0 0] 45)) wr
theorem numAt_start (w : World) : NumAt w ((w.alloc (.cells #[.int .i64 0, .int .i64 0, .slice none 0 0] 45)).alloc (.cells #[.int .i64 1, .int .i64 0, .slice none 0 0] 45)) 0 none 0 :=
  ⟨heap_second _ _ _, SlIn.none _ _, (Below.refl _ _).alloc (by simp) _⟩
theorem numAt_step {w wr : World} {j : Nat} {a : Option Addr} {cap : Nat} (h : NumAt w wr j a cap) :
    NumAt w ((((wr.setCell ⟨w.heap.size + 1, 0, none⟩ (.int .i64 2)).setCell ⟨w.heap.size + 1, 1, none⟩ (.int .i64 0)).setCell ⟨w.heap.size + 1, 2, none⟩ (.slice (some ⟨wr.heap.size, 0, none⟩) 1 1)).alloc
      (.cells #[.int .i64 (nmlK j), .int .i64 0, .slice a (nmlF j).len cap] 45)) (j + 1) (some ⟨wr.heap.size, 0, none⟩) 1 := by
  obtain ⟨h1, h2, h3⟩ := h
  have hlt := lt_of_block h1
  generalize hW : (((wr.setCell ⟨w.heap.size + 1, 0, none⟩ (.int .i64 2)).setCell ⟨w.heap.size + 1, 1, none⟩ (.int .i64 0)).setCell ⟨w.heap.size + 1, 2, none⟩ (.slice (some ⟨wr.heap.size, 0, none⟩) 1 1)) = W
  have hs : W.heap.size = wr.heap.size := by rw [← hW]; simp
  have hk : ∀ b, b ≠ w.heap.size + 1 → W.heap[b]? = wr.heap[b]? := fun b hb => by
    rw [← hW, Below.heap_setCell _ _ _ _ hb, Below.heap_setCell _ _ _ _ hb, Below.heap_setCell _ _ _ _ hb]
  have hw : W.heap[w.heap.size + 1]? = some (.cells #[.int .i64 2, .int .i64 0, .slice (some ⟨wr.heap.size, 0, none⟩) 1 1] 45 (0, 0)) := by rw [← hW]; exact set3 h1
  have hn := heap_new W (.cells #[.int .i64 (nmlK j), .int .i64 0, .slice a (nmlF j).len cap] 45)
  rw [hs] at hn
  obtain ⟨d0, d1, d2⟩ := cells3 hn
  refine ⟨?_, ?_, ?_⟩
  · rw [heap_old W _ (by omega), hw]; simp [nmlK, nmlF, Fo.len]
  · refine SlIn.mk (by simp [nmlF, Fo.len]) (by omega) ⟨by omega, by simp [hs]⟩ ?_
    refine FoIn.push (k := nmlK j) d0 d1 d2 ?_ trivial
    refine SlIn.weak (P := fun b => w.heap.size + 1 < b ∧ b < wr.heap.size) (fun b hb => ⟨hb.1, by simp [hs]; omega⟩) (h2.keep ?_)
    intro b hb
    rw [heap_old W _ (by omega), hk b (by omega)]
  · refine h3.trans ⟨?_, ?_, ?_, by simp [hs], fun b hb => ?_⟩
    · rw [← hW]; rfl
    · rw [← hW]; rfl
    · rw [← hW]; rfl
    · rw [heap_old W _ (by omega), hk b (by omega)]
theorem numAt_facts {w wr : World} {j : Nat} {a : Option Addr} {cap : Nat} (h : NumAt w wr j a cap) :
    (wr.cell? ⟨w.heap.size + 1, 0, none⟩ = some (.int .i64 (nmlK j)) ∧ wr.cell? ⟨w.heap.size + 1, 1, none⟩ = some (.int .i64 0) ∧ wr.cell? ⟨w.heap.size + 1, 2, none⟩ = some (.slice a (nmlF j).len cap)) ∧
    (wr.cell? ⟨w.heap.size, 0, none⟩ = some (.int .i64 0) ∧ wr.cell? ⟨w.heap.size, 1, none⟩ = some (.int .i64 0) ∧ wr.cell? ⟨w.heap.size, 2, none⟩ = some (.slice none 0 0)) ∧
    (∀ o, wr.frozen? ⟨w.heap.size + 1, o, none⟩ = false) ∧ (∀ o, wr.frozen? ⟨w.heap.size, o, none⟩ = false) ∧ w.heap.size + 1 < wr.heap.size := by
  obtain ⟨h1, h2, h3⟩ := h
  have h4 : wr.heap[w.heap.size]? = some (.cells #[.int .i64 0, .int .i64 0, .slice none 0 0] 45 (0, 0)) := (h3.block _ (by omega)).trans (heap_new _ _)
  exact ⟨cells3 h1, cells3 h4, free_of h1, free_of h4, lt_of_block h1⟩
theorem numAt_end {w wr : World} {j : Nat} {a : Option Addr} {cap : Nat} (h : NumAt w wr j a cap) (x y z : Value) :
    SlIn (((wr.setCell ⟨w.heap.size, 0, none⟩ x).setCell ⟨w.heap.size, 1, none⟩ y).setCell ⟨w.heap.size, 2, none⟩ z) (· < (((wr.setCell ⟨w.heap.size, 0, none⟩ x).setCell ⟨w.heap.size, 1, none⟩ y).setCell ⟨w.heap.size, 2, none⟩ z).heap.size) (nmlF j) a cap ∧
    Below w.heap.size w (((wr.setCell ⟨w.heap.size, 0, none⟩ x).setCell ⟨w.heap.size, 1, none⟩ y).setCell ⟨w.heap.size, 2, none⟩ z) := by
  obtain ⟨h1, h2, h3⟩ := h
  refine ⟨?_, ?_⟩
  · refine SlIn.weak (P := fun b => w.heap.size + 1 < b ∧ b < wr.heap.size) (fun b hb => by simp; omega) (h2.keep ?_)
    intro b hb
    rw [Below.heap_setCell _ _ _ _ (by simp; omega), Below.heap_setCell _ _ _ _ (by simp; omega), Below.heap_setCell _ _ _ _ (by simp; omega)]
  · exact (((((Below.refl _ _).alloc (Nat.le_refl _) _).trans (h3.mono (by omega))).setCell (Nat.le_refl _) _).setCell (Nat.le_refl _) _).setCell (Nat.le_refl _) _
def NumOk (w : World) (n : Nat) (e : Ending) (w' : World) : Prop :=
  ∃ (a : Option Addr) (cap : Nat), e = .returned (.tuple #[.agg #[.int .i64 (nmlK n), .int .i64 0, .slice a (nmlF n).len cap], .int .i64 0]) ∧ SlIn w' (· < w'.heap.size) (nmlF n) a cap ∧ Below w.heap.size w w'
set_option maxRecDepth 100000 in
set_option maxHeartbeats 1000000 in
theorem rnum_any (w : World) (n : Nat) (h : n < 12) : Calls Tryz.prog 18 #[.int .i64 n] w (NumOk w n) := by
  have d0 : decide ((n : Int) < 0) = false := by simp
  have d1 : decide (12 ≤ (n : Int)) = false := by simp; omega
  go_enter Tryz.func18, Tryz.ntmps18
  go_wp2_with fail
  go_loopw [5] (fun i wr => ∃ (j : Nat) (a : Option Addr) (cap : Nat), i = .int .i64 j ∧ j ≤ n ∧ NumAt w wr j a cap) (fun i _ => n - (intOf i).toNat)
  case atStart => exact ⟨0, none, 0, rfl, by omega, numAt_start w⟩
  case round =>
    obtain ⟨j, a, cap, rfl, hj, hat⟩ := hrel
    obtain ⟨⟨c0, c1, c2⟩, ⟨c3, c4, c5⟩, f0, f1, hlt2⟩ := numAt_facts hat
    by_cases hlt : j < n
    · go_wp2_with fail
      go_roundw
      case rel => exact ⟨j + 1, _, _, by go_num, by omega, numAt_step hat⟩
      case measure => simp [intOf]; omega
    · obtain rfl : j = n := by omega
      have hE := Lib.hid (numAt_end hat)
      go_wp2_with fail
      refine bodyPost_ret (v := .tuple #[.agg #[.int .i64 (nmlK j), .int .i64 0, .slice a (nmlF j).len cap], .int .i64 0]) (by simp [results, Tryz.results18, go_sem, c3, c4, c5]) rfl ?_
      exact ⟨a, cap, rfl, hE.out _ _ _⟩
end Go.Proofs.YtnfhpombnbpdcaaGreat
namespace Go.Proofs.YtnfhpombnbpdcaaGreat
open Go.RowKit
set_option maxRecDepth 100000 in
set_option maxHeartbeats 1000000 in
theorem tVar_any (n : Int) (w : World) : Calls Tryz.prog 13 #[.int .i64 n] w fun e w' => e = .returned (.agg #[.int .i64 1, .int .i64 n, .slice none 0 0, .slice none 0 0]) ∧ Below w.heap.size w w' := by
  go_enter Tryz.func13, Tryz.ntmps13
  go_wp2_with fail
  refine bodyPost_ret (v := .agg #[.int .i64 1, .int .i64 n, .slice none 0 0, .slice none 0 0]) (by simp [results, Tryz.results13, go_sem]) rfl ?_
  exact ⟨rfl, (Below.refl _ _).alloc (Nat.le_refl _) _⟩
set_option maxRecDepth 100000 in
set_option maxHeartbeats 1000000 in
theorem tBind_any (k : Int) (a : Option Addr) (len cap : Nat) (w : World) : Calls Tryz.prog 15 #[.int .i64 k, .slice a len cap] w fun e w' => e = .returned (.agg #[.int .i64 k, .int .i64 0, .slice none 0 0, .slice a len cap]) ∧ Below w.heap.size w w' := by
  go_enter Tryz.func15, Tryz.ntmps15
  go_wp2_with fail
  refine bodyPost_ret (v := .agg #[.int .i64 k, .int .i64 0, .slice none 0 0, .slice a len cap]) (by simp [results, Tryz.results15, go_sem]) rfl ?_
  exact ⟨rfl, (Below.refl _ _).alloc (Nat.le_refl _) _⟩
end Go.Proofs.YtnfhpombnbpdcaaGreat
namespace Go.Proofs.YtnfhpombnbpdcaaGreat
open Go.RowKit
set_option maxRecDepth 100000 in
set_option maxHeartbeats 1000000 in
theorem tSort_off (k n : Int) (f : Fo) (a : Option Addr) (cap : Nat) (P : Nat → Prop) (w : World) (hs : SlIn w P f a cap) (hP : ∀ b, P b → b < w.heap.size) : Calls Tryz.prog 14 #[.agg #[.int .i64 k, .int .i64 n, .slice a f.len cap]] w fun e w' => ∃ x, e = .returned (.agg #[.int .i64 2, .int .i64 0, .slice x 1 1, .slice none 0 0]) ∧ SlIn w' (fun b => (P b ∨ w.heap.size ≤ b) ∧ b < w'.heap.size) (.cons k n f .nil) x 1 ∧ Below w.heap.size w w' := by
  have hb : Below w.heap.size w (((w.alloc (.cells #[.int .i64 k, .int .i64 n, .slice a f.len cap] 45)).alloc (.cells #[.int .i64 2, .int .i64 0, .slice (some ⟨w.heap.size + 1 + 1, 0, none⟩) 1 1, .slice none 0 0] 30)).alloc (.cells #[.int .i64 k, .int .i64 n, .slice a f.len cap] 45)) := (((Below.refl _ _).alloc (Nat.le_refl _) _).alloc (by simp) _).alloc (by simp; omega) _
  have hn := heap_second (w.alloc (.cells #[.int .i64 k, .int .i64 n, .slice a f.len cap] 45)) (.cells #[.int .i64 2, .int .i64 0, .slice (some ⟨w.heap.size + 1 + 1, 0, none⟩) 1 1, .slice none 0 0] 30) (.cells #[.int .i64 k, .int .i64 n, .slice a f.len cap] 45)
  have HB := Lib.hid hb
  have HN := Lib.hid hn
  have HS := Lib.hid hs
  have HP := Lib.hid hP
  clear hb hn hs hP
  go_enter Tryz.func14, Tryz.ntmps14
  go_wp2_with fail
  refine bodyPost_ret (v := .agg #[.int .i64 2, .int .i64 0, .slice (some ⟨w.heap.size + 1 + 1, 0, none⟩) 1 1, .slice none 0 0]) (by simp [results, Tryz.results14, go_sem]) rfl ?_
  have hn := HN.out
  simp only [World.size_alloc] at hn
  obtain ⟨c0, c1, c2⟩ := cells3 hn
  refine ⟨some ⟨w.heap.size + 1 + 1, 0, none⟩, rfl, ?_, HB.out⟩
  refine SlIn.mk (by simp [Fo.len]) (by omega) ⟨.inr (by omega), by simp⟩ (FoIn.push c0 c1 c2 ?_ trivial)
  exact (HS.out.keep (fun b hb => HB.out.block b (HP.out b hb))).weak (fun b hb => ⟨.inl hb, by have := HP.out b hb; simp; omega⟩)
def zOk (za : Option Addr) (zc : Nat) : Prop := zc ≤ maxLen ∧ (za = none → zc = 0)
theorem zOk.sl {za : Option Addr} {zc : Nat} (h : zOk za zc) (W : World) (P : Nat → Prop) : SlIn W P .nil za zc := ⟨Nat.zero_le _, h.1, h.2, fun hx => by simp [Fo.len] at hx⟩
def zFo : Fo := .cons 1 0 .nil .nil
def oFo : Fo := .cons 2 0 (.cons 1 0 .nil .nil) .nil
def z4 : Obj := .cells #[.int .i64 0, .int .i64 0, .slice none 0 0, .slice none 0 0] 30 (0, 0)
def l3 (za : Option Addr) (zc : Nat) : Obj := .cells #[.int .i64 1, .int .i64 0, .slice za 0 zc] 45 (0, 0)
structure Aw2 (W0 W : World) (za : Option Addr) (zc : Nat) (X Y N : Option Nat) (p q : Option (Option Addr)) : Prop where
  low : Below W0.heap.size W0 W
  x : ∀ b, X = some b → W.heap[b]? = some z4 ∧ W0.heap.size ≤ b
  y : ∀ b, Y = some b → W.heap[b]? = some z4 ∧ W0.heap.size ≤ b ∧ X ≠ some b
  n : ∀ b, N = some b → W.heap[b]? = some (l3 za zc) ∧ W0.heap.size ≤ b ∧ X ≠ some b ∧ Y ≠ some b
  p : ∀ a, p = some a → SlIn W (fun b => (X ≠ some b ∧ Y ≠ some b) ∧ b < W.heap.size) zFo a 1
  q : ∀ a, q = some a → SlIn W (fun b => (X ≠ some b ∧ Y ≠ some b) ∧ b < W.heap.size) oFo a 1
theorem Aw2.start (W0 : World) (za : Option Addr) (zc : Nat) : Aw2 W0 W0.drew za zc none none none none none :=
  ⟨(Below.refl _ _).drew, (fun _ h => by cases h), (fun _ h => by cases h), (fun _ h => by cases h), (fun _ h => by cases h), (fun _ h => by cases h)⟩
theorem Aw2.later {W0 W W' : World} {za : Option Addr} {zc : Nat} {X Y N : Option Nat} {p q : Option (Option Addr)} (h : Aw2 W0 W za zc X Y N p q) (hb : Below W.heap.size W W') : Aw2 W0 W' za zc X Y N p q :=
  ⟨Below.step h.low hb (Nat.le_refl _), fun b e => ⟨(hb.block _ (lt_of_block (h.x b e).1)).trans (h.x b e).1, (h.x b e).2⟩, fun b e => ⟨(hb.block _ (lt_of_block (h.y b e).1)).trans (h.y b e).1, (h.y b e).2⟩, fun b e => ⟨(hb.block _ (lt_of_block (h.n b e).1)).trans (h.n b e).1, (h.n b e).2⟩,
    fun a e => ((h.p a e).keep (fun b hx => hb.block b hx.2)).weak (fun _ hx => ⟨hx.1, Nat.lt_of_lt_of_le hx.2 hb.size⟩), fun a e => ((h.q a e).keep (fun b hx => hb.block b hx.2)).weak (fun _ hx => ⟨hx.1, Nat.lt_of_lt_of_le hx.2 hb.size⟩)⟩
theorem Aw2.ltX {W0 W : World} {za : Option Addr} {zc : Nat} {X Y N : Option Nat} {p q : Option (Option Addr)} (h : Aw2 W0 W za zc X Y N p q) : X ≠ some W.heap.size := fun e => by have := lt_of_block (h.x _ e).1; omega
theorem Aw2.ltY {W0 W : World} {za : Option Addr} {zc : Nat} {X Y N : Option Nat} {p q : Option (Option Addr)} (h : Aw2 W0 W za zc X Y N p q) : Y ≠ some W.heap.size := fun e => by have := lt_of_block (h.y _ e).1; omega
theorem Aw2.allocX {W0 W : World} {za : Option Addr} {zc : Nat} {Y N : Option Nat} {p q : Option (Option Addr)} (h : Aw2 W0 W za zc none Y N p q) : Aw2 W0 (W.alloc z4) za zc (some W.heap.size) Y N p q := by
  have k := h.later ((Below.refl W.heap.size W).alloc (Nat.le_refl _) z4)
  have hne : ∀ b, b < W.heap.size → some W.heap.size ≠ some b := fun b hb e => by injection e; omega
  exact ⟨k.low, fun b e => by injection e with e; rw [← e]; exact ⟨heap_new _ _, h.low.size⟩, fun b e => ⟨(k.y b e).1, (k.y b e).2.1, hne b (lt_of_block (h.y b e).1)⟩, fun b e => ⟨(k.n b e).1, (k.n b e).2.1, hne b (lt_of_block (h.n b e).1), (k.n b e).2.2.2⟩,
    fun a e => ((h.p a e).keep (fun b hx => heap_old W z4 hx.2)).weak (fun b hx => ⟨⟨hne b hx.2, hx.1.2⟩, by simp; omega⟩), fun a e => ((h.q a e).keep (fun b hx => heap_old W z4 hx.2)).weak (fun b hx => ⟨⟨hne b hx.2, hx.1.2⟩, by simp; omega⟩)⟩
theorem Aw2.allocY {W0 W : World} {za : Option Addr} {zc : Nat} {X N : Option Nat} {p q : Option (Option Addr)} (h : Aw2 W0 W za zc X none N p q) : Aw2 W0 (W.alloc z4) za zc X (some W.heap.size) N p q := by
  have k := h.later ((Below.refl W.heap.size W).alloc (Nat.le_refl _) z4)
  have hne : ∀ b, b < W.heap.size → some W.heap.size ≠ some b := fun b hb e => by injection e; omega
  exact ⟨k.low, k.x, fun b e => by injection e with e; rw [← e]; exact ⟨heap_new _ _, h.low.size, h.ltX⟩, fun b e => ⟨(k.n b e).1, (k.n b e).2.1, (k.n b e).2.2.1, hne b (lt_of_block (h.n b e).1)⟩,
    fun a e => ((h.p a e).keep (fun b hx => heap_old W z4 hx.2)).weak (fun b hx => ⟨⟨hx.1.1, hne b hx.2⟩, by simp; omega⟩), fun a e => ((h.q a e).keep (fun b hx => heap_old W z4 hx.2)).weak (fun b hx => ⟨⟨hx.1.1, hne b hx.2⟩, by simp; omega⟩)⟩
theorem Aw2.lit {W0 W : World} {za : Option Addr} {zc : Nat} {X Y : Option Nat} {p q : Option (Option Addr)} (h : Aw2 W0 W za zc X Y none p q) : Aw2 W0 (W.alloc (l3 za zc)) za zc X Y (some W.heap.size) p q := by
  have k := h.later ((Below.refl W.heap.size W).alloc (Nat.le_refl _) (l3 za zc))
  exact ⟨k.low, k.x, k.y, fun b e => by injection e with e; rw [← e]; exact ⟨heap_new _ _, h.low.size, h.ltX, h.ltY⟩, k.p, k.q⟩
theorem Aw2.call1 {W0 W W' : World} {za : Option Addr} {zc : Nat} {X Y N : Option Nat} {q : Option (Option Addr)} {a : Option Addr} (h : Aw2 W0 W za zc X Y N none q) (hb : Below W.heap.size W W') (hs : SlIn W' (fun b => (False ∨ W.heap.size ≤ b) ∧ b < W'.heap.size) zFo a 1) : Aw2 W0 W' za zc X Y N (some a) q := by
  have k := h.later hb
  refine ⟨k.low, k.x, k.y, k.n, fun a' e => ?_, k.q⟩
  injection e with e
  rw [← e]
  refine hs.weak (fun b hx => ⟨⟨fun e => ?_, fun e => ?_⟩, hx.2⟩)
  · have := lt_of_block (h.x b e).1; rcases hx.1 with hx | hx; exact hx; omega
  · have := lt_of_block (h.y b e).1; rcases hx.1 with hx | hx; exact hx; omega
theorem Aw2.call5 {W0 W W' : World} {za : Option Addr} {zc : Nat} {X Y : Option Nat} {N : Nat} {p : Option (Option Addr)} {a : Option Addr} (h : Aw2 W0 W za zc X Y (some N) p none) (hb : Below W.heap.size W W') (hs : SlIn W' (fun b => (b = N ∨ W.heap.size ≤ b) ∧ b < W'.heap.size) oFo a 1) : Aw2 W0 W' za zc X Y (some N) p (some a) := by
  have k := h.later hb
  refine ⟨k.low, k.x, k.y, k.n, k.p, fun a' e => ?_⟩
  injection e with e
  rw [← e]
  obtain ⟨_, _, n1, n2⟩ := h.n N rfl
  refine hs.weak (fun b hx => ⟨⟨fun e => ?_, fun e => ?_⟩, hx.2⟩)
  · have := lt_of_block (h.x b e).1
    rcases hx.1 with rfl | hx
    · exact n1 e
    · omega
  · have := lt_of_block (h.y b e).1
    rcases hx.1 with rfl | hx
    · exact n2 e
    · omega
theorem Aw2.ask5 {W0 W : World} {za : Option Addr} {zc : Nat} {X Y : Option Nat} {N : Nat} {p q : Option (Option Addr)} (h : Aw2 W0 W za zc X Y (some N) p q) (hz : zOk za zc) : Calls Tryz.prog 14 #[.agg #[.int .i64 2, .int .i64 0, .slice (some ⟨N, 0, none⟩) 1 1]] W fun e w' => ∃ x, e = .returned (.agg #[.int .i64 2, .int .i64 0, .slice x 1 1, .slice none 0 0]) ∧ SlIn w' (fun b => (b = N ∨ W.heap.size ≤ b) ∧ b < w'.heap.size) oFo x 1 ∧ Below W.heap.size W w' := by
  have hn := (h.n N rfl).1
  have hl := lt_of_block hn
  exact tSort_off 2 0 (.cons 1 0 .nil .nil) (some ⟨N, 0, none⟩) 1 (· = N) W (SlIn.mk (Nat.le_refl _) (by omega) rfl (FoIn.push (cell_at hn 0) (cell_at hn 1) (cell_at hn 2) (hz.sl _ _) trivial)) (fun b hb => by have : b = N := hb; omega)
theorem ask1 {za : Option Addr} {zc : Nat} (hz : zOk za zc) (W : World) : Calls Tryz.prog 14 #[.agg #[.int .i64 1, .int .i64 0, .slice za 0 zc]] W fun e w' => ∃ x, e = .returned (.agg #[.int .i64 2, .int .i64 0, .slice x 1 1, .slice none 0 0]) ∧ SlIn w' (fun b => (False ∨ W.heap.size ≤ b) ∧ b < w'.heap.size) zFo x 1 ∧ Below W.heap.size W w' :=
  tSort_off 1 0 .nil za zc (fun _ => False) W (hz.sl _ _) (fun _ h => h.elim)
def Aw3 (W0 W : World) (X Y : Nat) (p q : Option Addr) : Prop := Below W0.heap.size W0 W ∧ W.heap[X]? = some (.cells #[.int .i64 2, .int .i64 0, .slice p 1 1, .slice none 0 0] 30 (0, 0)) ∧ W.heap[Y]? = some z4 ∧ W0.heap.size ≤ Y ∧ X ≠ Y ∧ SlIn W (fun b => (b ≠ X ∧ b ≠ Y) ∧ b < W.heap.size) zFo p 1 ∧ SlIn W (fun b => (b ≠ X ∧ b ≠ Y) ∧ b < W.heap.size) oFo q 1
theorem Aw2.put {W0 W : World} {za : Option Addr} {zc X Y : Nat} {N : Option Nat} {p q : Option Addr} (h : Aw2 W0 W za zc (some X) (some Y) N (some p) (some q)) :
    Aw3 W0 ((((W.setCell ⟨X, 0, none⟩ (.int .i64 2)).setCell ⟨X, 1, none⟩ (.int .i64 0)).setCell ⟨X, 2, none⟩ (.slice p 1 1)).setCell ⟨X, 3, none⟩ (.slice none 0 0)) X Y p q := by
  have hg := set4_only (w := W) X (.int .i64 2) (.int .i64 0) (.slice p 1 1) (.slice none 0 0)
  obtain ⟨x1, x2⟩ := h.x X rfl
  obtain ⟨y1, y2, y3⟩ := h.y Y rfl
  have hne : X ≠ Y := fun e => y3 (by rw [e])
  have k1 := heap_setCell_same W X 0 _ _ (.int .i64 2) x1
  have k2 := heap_setCell_same _ X 1 _ _ (.int .i64 0) k1
  have k3 := heap_setCell_same _ X 2 _ _ (.slice p 1 1) k2
  have k4 := heap_setCell_same _ X 3 _ _ (.slice none 0 0) k3
  have hq : ∀ b, ((some X ≠ some b ∧ some Y ≠ some b) ∧ b < W.heap.size) → (b ≠ X ∧ b ≠ Y) ∧ b < ((((W.setCell ⟨X, 0, none⟩ (.int .i64 2)).setCell ⟨X, 1, none⟩ (.int .i64 0)).setCell ⟨X, 2, none⟩ (.slice p 1 1)).setCell ⟨X, 3, none⟩ (.slice none 0 0)).heap.size := fun b hx => ⟨⟨fun e => hx.1.1 (by rw [e]), fun e => hx.1.2 (by rw [e])⟩, Nat.lt_of_lt_of_le hx.2 hg.size⟩
  exact ⟨(((h.low.setCell x2 _).setCell x2 _).setCell x2 _).setCell x2 _, k4, (Only.block hg (lt_of_block y1) (Ne.symm hne)).trans y1, y2, hne, ((h.p p rfl).keep (fun b hx => Only.block hg hx.2 (hq b hx).1.1)).weak hq, ((h.q q rfl).keep (fun b hx => Only.block hg hx.2 (hq b hx).1.1)).weak hq⟩
def sZo : Tm := ⟨2, 0, zFo, .nil⟩
def sOn : Tm := ⟨2, 0, oFo, .nil⟩
def Aw4 (W0 W : World) (X Y : Nat) (p q : Option Addr) : Prop := Below W0.heap.size W0 W ∧ W.heap[X]? = some (.cells #[.int .i64 2, .int .i64 0, .slice p 1 1, .slice none 0 0] 30 (0, 0)) ∧ W.heap[Y]? = some (.cells #[.int .i64 2, .int .i64 0, .slice q 1 1, .slice none 0 0] 30 (0, 0)) ∧ TmIn W W.heap.size sZo p 1 none 0 ∧ TmIn W W.heap.size sOn q 1 none 0
theorem Aw3.put {W0 W : World} {X Y : Nat} {p q : Option Addr} (h : Aw3 W0 W X Y p q) : Aw4 W0 ((((W.setCell ⟨Y, 0, none⟩ (.int .i64 2)).setCell ⟨Y, 1, none⟩ (.int .i64 0)).setCell ⟨Y, 2, none⟩ (.slice q 1 1)).setCell ⟨Y, 3, none⟩ (.slice none 0 0)) X Y p q := by
  obtain ⟨hb, h1, h2, h3, h4, h5, h6⟩ := h
  have hg := set4_only (w := W) Y (.int .i64 2) (.int .i64 0) (.slice q 1 1) (.slice none 0 0)
  have k1 := heap_setCell_same W Y 0 _ _ (.int .i64 2) h2
  have k2 := heap_setCell_same _ Y 1 _ _ (.int .i64 0) k1
  have k3 := heap_setCell_same _ Y 2 _ _ (.slice q 1 1) k2
  have k4 := heap_setCell_same _ Y 3 _ _ (.slice none 0 0) k3
  exact ⟨(((hb.setCell h3 _).setCell h3 _).setCell h3 _).setCell h3 _, (Only.block hg (lt_of_block h1) h4).trans h1, k4,
    ⟨(h5.keep (fun b hx => Only.block hg hx.2 hx.1.2)).weak (fun b hx => Nat.lt_of_lt_of_le hx.2 hg.size), TlIn.none _ _, Nat.le_refl _⟩, ⟨(h6.keep (fun b hx => Only.block hg hx.2 hx.1.2)).weak (fun b hx => Nat.lt_of_lt_of_le hx.2 hg.size), TlIn.none _ _, Nat.le_refl _⟩⟩
def aId : Tm := ⟨5, 0, .nil, sZo.to ((tV 0).to .nil)⟩
def aT : Tm := ⟨4, 0, .nil, aId.to (sOn.to .nil)⟩
def l8 (p : Option Addr) : Obj := .cells #[.int .i64 2, .int .i64 0, .slice p 1 1, .slice none 0 0, .int .i64 1, .int .i64 0, .slice none 0 0, .slice none 0 0] 30 (0, 0)
structure Ai3 (W1 W : World) (p : Option Addr) (J M : Option Nat) : Prop where
  low : Below W1.heap.size W1 W
  j : ∀ b, J = some b → W.heap[b]? = some z4 ∧ W1.heap.size ≤ b
  m : ∀ b, M = some b → W.heap[b]? = some (l8 p) ∧ W1.heap.size ≤ b ∧ J ≠ some b
theorem Ai3.start (W1 : World) (p : Option Addr) : Ai3 W1 W1.drew p none none := ⟨(Below.refl _ _).drew, (fun _ h => by cases h), (fun _ h => by cases h)⟩
theorem Ai3.later {W1 W W' : World} {p : Option Addr} {J M : Option Nat} (h : Ai3 W1 W p J M) (hb : Below W.heap.size W W') : Ai3 W1 W' p J M :=
  ⟨Below.step h.low hb (Nat.le_refl _), fun b e => ⟨(hb.block _ (lt_of_block (h.j b e).1)).trans (h.j b e).1, (h.j b e).2⟩, fun b e => ⟨(hb.block _ (lt_of_block (h.m b e).1)).trans (h.m b e).1, (h.m b e).2⟩⟩
theorem Ai3.allocJ {W1 W : World} {p : Option Addr} {M : Option Nat} (h : Ai3 W1 W p none M) : Ai3 W1 (W.alloc z4) p (some W.heap.size) M := by
  have k := h.later ((Below.refl W.heap.size W).alloc (Nat.le_refl _) z4)
  exact ⟨k.low, fun b e => by injection e with e; rw [← e]; exact ⟨heap_new _ _, h.low.size⟩, fun b e => ⟨(k.m b e).1, (k.m b e).2.1, fun e2 => by injection e2 with e2; have := lt_of_block (h.m b e).1; omega⟩⟩
theorem Ai3.lit {W1 W : World} {p : Option Addr} {J : Option Nat} (h : Ai3 W1 W p J none) : Ai3 W1 (W.alloc (l8 p)) p J (some W.heap.size) := by
  have k := h.later ((Below.refl W.heap.size W).alloc (Nat.le_refl _) (l8 p))
  exact ⟨k.low, k.j, fun b e => by injection e with e; rw [← e]; exact ⟨heap_new _ _, h.low.size, fun e2 => by have := lt_of_block (h.j _ e2).1; omega⟩⟩
def Ai4 (W1 W : World) (p : Option Addr) (J M : Nat) : Prop := Below W1.heap.size W1 W ∧ W.heap[J]? = some (.cells #[.int .i64 5, .int .i64 0, .slice none 0 0, .slice (some ⟨M, 0, none⟩) 2 2] 30 (0, 0)) ∧ W.heap[M]? = some (l8 p)
theorem Ai3.put {W1 W : World} {p : Option Addr} {J M : Nat} (h : Ai3 W1 W p (some J) (some M)) : Ai4 W1 ((((W.setCell ⟨J, 0, none⟩ (.int .i64 5)).setCell ⟨J, 1, none⟩ (.int .i64 0)).setCell ⟨J, 2, none⟩ (.slice none 0 0)).setCell ⟨J, 3, none⟩ (.slice (some ⟨M, 0, none⟩) 2 2)) p J M := by
  have hg := set4_only (w := W) J (.int .i64 5) (.int .i64 0) (.slice none 0 0) (.slice (some ⟨M, 0, none⟩) 2 2)
  obtain ⟨j1, j2⟩ := h.j J rfl
  obtain ⟨m1, m2, m3⟩ := h.m M rfl
  have k1 := heap_setCell_same W J 0 _ _ (.int .i64 5) j1
  have k2 := heap_setCell_same _ J 1 _ _ (.int .i64 0) k1
  have k3 := heap_setCell_same _ J 2 _ _ (.slice none 0 0) k2
  have k4 := heap_setCell_same _ J 3 _ _ (.slice (some ⟨M, 0, none⟩) 2 2) k3
  exact ⟨(((h.low.setCell j2 _).setCell j2 _).setCell j2 _).setCell j2 _, k4, (Only.block hg (lt_of_block m1) (fun e => m3 (by rw [e]))).trans m1⟩
theorem Ai4.id_in {W0 W1 W : World} {X Y J M : Nat} {p q : Option Addr} (h : Ai4 W1 W p J M) (k : Aw4 W0 W1 X Y p q) : TmIn W W.heap.size aId none 0 (some ⟨M, 0, none⟩) 2 := by
  obtain ⟨h1, _, h3⟩ := h
  obtain ⟨_, _, _, s1, _⟩ := k
  have hl := lt_of_block h3
  exact ⟨SlIn.none _ _, TlIn.mk (Nat.le_refl _) (by omega) hl (FtIn.push (cell_at h3 0) (cell_at h3 1) (cell_at h3 2) ((s1.1.below h1).mono h1.size) (cell_at h3 3) (TlIn.none _ _) (FtIn.push (cell_at h3 4) (cell_at h3 5) (cell_at h3 6) (SlIn.none _ _) (cell_at h3 7) (TlIn.none _ _) trivial)), Nat.le_refl _⟩
structure AwT (w W : World) (X Y K : Nat) (p q ka : Option Addr) : Prop where
  low : Below w.heap.size w W
  x : W.heap[X]? = some (.cells #[.int .i64 2, .int .i64 0, .slice p 1 1, .slice none 0 0] 30 (0, 0))
  y : W.heap[Y]? = some (.cells #[.int .i64 2, .int .i64 0, .slice q 1 1, .slice none 0 0] 30 (0, 0))
  t : W.heap[K]? = some (.cells #[.int .i64 4, .int .i64 0, .slice none 0 0, .slice ka 2 2] 30 (0, 0))
  s : TmIn W W.heap.size sZo p 1 none 0
  o : TmIn W W.heap.size sOn q 1 none 0
  a : TmIn W W.heap.size aT none 0 ka 2
theorem AwT.later {w W W' : World} {X Y K : Nat} {p q ka : Option Addr} (h : AwT w W X Y K p q ka) (hb : Below W.heap.size W W') : AwT w W' X Y K p q ka :=
  ⟨Below.step h.low hb (Nat.le_refl _), (hb.block _ (lt_of_block h.x)).trans h.x, (hb.block _ (lt_of_block h.y)).trans h.y, (hb.block _ (lt_of_block h.t)).trans h.t, ⟨(h.s.later hb).1.mono hb.size, (h.s.later hb).2.1.mono hb.size, Nat.le_refl _⟩, ⟨(h.o.later hb).1.mono hb.size, (h.o.later hb).2.1.mono hb.size, Nat.le_refl _⟩, ⟨(h.a.later hb).1.mono hb.size, (h.a.later hb).2.1.mono hb.size, Nat.le_refl _⟩⟩
theorem AwT.mk4 {w W0 W1 W : World} {X Y J M : Nat} {p q : Option Addr} (k : Aw4 W0 W1 X Y p q) (h : Ai4 W1 W p J M) (hw : Below w.heap.size w W0) :
    ∀ W', Below (W.alloc (.cells #[.int .i64 5, .int .i64 0, .slice none 0 0, .slice (some ⟨M, 0, none⟩) 2 2, .int .i64 2, .int .i64 0, .slice q 1 1, .slice none 0 0] 30)).heap.size (W.alloc (.cells #[.int .i64 5, .int .i64 0, .slice none 0 0, .slice (some ⟨M, 0, none⟩) 2 2, .int .i64 2, .int .i64 0, .slice q 1 1, .slice none 0 0] 30)) W' →
      AwT w (W'.alloc (.cells #[.int .i64 4, .int .i64 0, .slice none 0 0, .slice (some ⟨W.heap.size, 0, none⟩) 2 2] 30)) X Y W'.heap.size p q (some ⟨W.heap.size, 0, none⟩) := fun W' hb => by
  have hid := h.id_in k
  obtain ⟨h1, h2, h3⟩ := h
  obtain ⟨k1, k2, k3, k4, k5⟩ := k
  have hal : Below W.heap.size W (W.alloc (.cells #[.int .i64 5, .int .i64 0, .slice none 0 0, .slice (some ⟨M, 0, none⟩) 2 2, .int .i64 2, .int .i64 0, .slice q 1 1, .slice none 0 0] 30)) := (Below.refl _ _).alloc (Nat.le_refl _) _
  have hal2 : Below W'.heap.size W' (W'.alloc (.cells #[.int .i64 4, .int .i64 0, .slice none 0 0, .slice (some ⟨W.heap.size, 0, none⟩) 2 2] 30)) := (Below.refl _ _).alloc (Nat.le_refl _) _
  have b1 := Below.step hal hb (Nat.le_refl _)
  have b2 := Below.step b1 hal2 (Nat.le_refl _)
  have b3 := Below.step h1 b2 (Nat.le_refl _)
  have b0 := Below.step hw k1 (Nat.le_refl _)
  have hL := (Below.step hb hal2 (Nat.le_refl _)).block _ (lt_of_block (heap_new W (.cells #[.int .i64 5, .int .i64 0, .slice none 0 0, .slice (some ⟨M, 0, none⟩) 2 2, .int .i64 2, .int .i64 0, .slice q 1 1, .slice none 0 0] 30)))
  have hL := hL.trans (heap_new W _)
  have s' : TmIn _ _ sZo p 1 none 0 := ⟨(k4.later b3).1.mono b3.size, (k4.later b3).2.1.mono b3.size, Nat.le_refl _⟩
  have o' : TmIn _ _ sOn q 1 none 0 := ⟨(k5.later b3).1.mono b3.size, (k5.later b3).2.1.mono b3.size, Nat.le_refl _⟩
  have i' := hid.later b2
  refine ⟨Below.step b0 b3 (Nat.le_refl _), (b3.block _ (lt_of_block k2)).trans k2, (b3.block _ (lt_of_block k3)).trans k3, heap_new _ _, s', o', SlIn.none _ _, ?_, Nat.le_refl _⟩
  exact TlIn.mk (Nat.le_refl _) (by omega) (lt_of_block hL) (FtIn.push (cell_at hL 0) (cell_at hL 1) (cell_at hL 2) (SlIn.none _ _) (cell_at hL 3) (i'.2.1.mono b2.size) (FtIn.push (cell_at hL 4) (cell_at hL 5) (cell_at hL 6) o'.1 (cell_at hL 7) (TlIn.none _ _) trivial))
end Go.Proofs.YtnfhpombnbpdcaaGreat
