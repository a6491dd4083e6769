/- The contract of the document's own get: the level of a node. No condition but that the nodes lie in memory and are an arena. -/
import Derived.Test.YtmbopdlmkbbbiaaAlv
import Derived.Test.YtmbopdlmkbbbiaaKids
import Derived.Test.YtmbopdlmkbbbiaaStep
import Derived.Deep.RegionLaw
import Derived.Deep.DeepCutAuto
namespace Go.Proofs.Ytmbopdlmkbbbiaa
open Go.RowKit

/-- What get answers. -/
def GgPost (T : Fo) (w : World) (e : Ending) (w' : World) : Prop :=
  ∃ (k n : Int) (F : Fo) (x : Option Addr) (c : Nat), e = .returned (.agg #[.int .i64 k, .int .i64 n, .slice x F.len c]) ∧ T = .cons k n F .nil ∧ SlIn w' (fun b => w.heap.size ≤ b ∧ b < w'.heap.size) F x c ∧ Below w.heap.size w w'
/-- get's variables: the arena, the result, the node, the level with its Kids so far. -/
structure GeAt (w : World) (len : Nat) (a : Option Addr) (cap : Nat) (x : Nd) (G : Fo) (v : Value) (W : World) : Prop where
  a : W.heap[w.heap.size]? = some (.cells #[.slice a len cap] 26 (0, 0))
  r : W.heap[w.heap.size + 1]? = some (.cells #[.int .i64 0, .int .i64 0, .slice none 0 0] 30 (0, 0))
  nd : W.heap[w.heap.size + 1 + 1]? = some (.cells #[.int .i64 x.k, .int .i64 x.n, .int .i64 x.a, .int .i64 x.b] 41 (0, 0))
  l : W.heap[w.heap.size + 1 + 1 + 1]? = some (.cells #[.int .i64 x.k, .int .i64 x.n, v] 30 (0, 0))
  ks : KsOwn (w.heap.size + 1 + 1 + 1 + 1) W v G
  hb : Below w.heap.size w W
section
variable {w : World} {len : Nat} {a : Option Addr} {cap : Nat} {x : Nd} {G : Fo} {v : Value} {W : World}
theorem GeAt.facts (h : GeAt w len a cap x G v W) : W.cell? ⟨w.heap.size, 0, none⟩ = some (.slice a len cap) ∧ W.cell? ⟨w.heap.size + 1, 0, none⟩ = some (.int .i64 0) ∧ W.cell? ⟨w.heap.size + 1, 1, none⟩ = some (.int .i64 0) ∧ W.cell? ⟨w.heap.size + 1, 2, none⟩ = some (.slice none 0 0) ∧ (∀ o, W.frozen? ⟨w.heap.size + 1, o, none⟩ = false) ∧
    W.cell? ⟨w.heap.size + 1 + 1, 0, none⟩ = some (.int .i64 x.k) ∧ W.cell? ⟨w.heap.size + 1 + 1, 2, none⟩ = some (.int .i64 x.a) ∧ W.cell? ⟨w.heap.size + 1 + 1, 3, none⟩ = some (.int .i64 x.b) ∧
    W.cell? ⟨w.heap.size + 1 + 1 + 1, 0, none⟩ = some (.int .i64 x.k) ∧ W.cell? ⟨w.heap.size + 1 + 1 + 1, 1, none⟩ = some (.int .i64 x.n) ∧ W.cell? ⟨w.heap.size + 1 + 1 + 1, 2, none⟩ = some v ∧ (∀ o, W.frozen? ⟨w.heap.size + 1 + 1 + 1, o, none⟩ = false) ∧ w.heap.size + 1 + 1 + 1 < W.heap.size :=
  ⟨cell_at h.a 0, cell_at h.r 0, cell_at h.r 1, cell_at h.r 2, free_of h.r, cell_at h.nd 0, cell_at h.nd 2, cell_at h.nd 3, cell_at h.l 0, cell_at h.l 1, cell_at h.l 2, free_of h.l, lt_of_block h.l⟩
/-- Behind the call for a kid: what is read then, the append, and what lies there behind the store. -/
theorem GeAt.next (h : GeAt w len a cap x G v W) (hG : G.len ≤ 2) {k' n' : Int} {F' : Fo} {x' : Option Addr} {c' : Nat} {w2 : World} (hs : SlIn w2 (fun b => W.heap.size ≤ b ∧ b < w2.heap.size) F' x' c') (hb2 : Below W.heap.size W w2) :
    w2.cell? ⟨w.heap.size + 1 + 1 + 1, 2, none⟩ = some v ∧ w.heap.size + 1 + 1 + 1 < w2.heap.size ∧
    ∃ g' cap' w3, (Builtin.append_ #[28, 28] 28 #[v, .slice (some ⟨w2.heap.size, 0, none⟩) 1 1]).run Try.prog (w2.alloc (.cells #[.int .i64 k', .int .i64 n', .slice x' F'.len c'] 30)) = .ok (.slice (some ⟨g', 0, none⟩) (G.len + 1) cap') w3 ∧
      w3.cell? ⟨w.heap.size + 1 + 1 + 1, 2, none⟩ = some v ∧ (∀ o, w3.frozen? ⟨w.heap.size + 1 + 1 + 1, o, none⟩ = false) ∧
      GeAt w len a cap x (G.app (.cons k' n' F' .nil)) (.slice (some ⟨g', 0, none⟩) (G.len + 1) cap') (w3.setCell ⟨w.heap.size + 1 + 1 + 1, 2, none⟩ (.slice (some ⟨g', 0, none⟩) (G.len + 1) cap')) := by
  have hlt := lt_of_block h.l
  have e0 := (hb2.block _ (lt_of_block h.a)).trans h.a
  have e1 := (hb2.block _ (lt_of_block h.r)).trans h.r
  have e2 := (hb2.block _ (lt_of_block h.nd)).trans h.nd
  have e3 := (hb2.block _ hlt).trans h.l
  have hz2 := hb2.size
  have hfr := h.ks.fresh (by omega) hs
  have hks : KsOwn (w.heap.size + 1 + 1 + 1 + 1) w2 v G := h.ks.grow hz2 (fun b _ h2 => hb2.block b h2)
  obtain ⟨g', cap', w3, hrun, k3, same, z3, o1, o2, o3⟩ := hks.append k' n' hfr 28 (by omega) (by omega) (by omega)
  have nv : ∀ b, b ≤ w.heap.size + 1 + 1 + 1 → some b ≠ v.ownBlock := fun b hb e => by have := (h.ks.lt b e.symm).1; omega
  have f0 := (same _ (lt_of_block e0) (nv _ (by omega))).trans e0
  have f1 := (same _ (lt_of_block e1) (nv _ (by omega))).trans e1
  have f2 := (same _ (lt_of_block e2) (nv _ (by omega))).trans e2
  have f3 := (same _ (lt_of_block e3) (nv _ (by omega))).trans e3
  have n0 : w.heap.size ≠ w.heap.size + 1 + 1 + 1 := by omega
  have n1 : w.heap.size + 1 ≠ w.heap.size + 1 + 1 + 1 := by omega
  have n2 : w.heap.size + 1 + 1 ≠ w.heap.size + 1 + 1 + 1 := by omega
  refine ⟨cell_at e3 2, lt_of_block e3, g', cap', w3, hrun, cell_at f3 2, free_of f3, ⟨(Below.heap_setCell _ _ _ _ n0).trans f0, (Below.heap_setCell _ _ _ _ n1).trans f1, (Below.heap_setCell _ _ _ _ n2).trans f2, heap_setCell_same w3 _ 2 _ _ _ f3, k3.setLow (by omega) 2 _, ?_⟩⟩
  refine Below.setCell (B := w.heap.size) ⟨(o1.trans hb2.os).trans h.hb.os, (o2.trans hb2.tape).trans h.hb.tape, (o3.trans hb2.output).trans h.hb.output, ?_, fun q hq => ?_⟩ (by simp; omega) _
  · have := h.hb.size; omega
  · have hz := h.hb.size
    rw [same q (by omega) (nv q (by omega)), hb2.block q (by omega)]
    exact h.hb.block q hq
/-- The level, when it is whole. -/
theorem GeAt.fin (h : GeAt w len a cap x G v W) {T : Fo} (hT : T = .cons x.k x.n G .nil) : ∃ xx cc, v = .slice xx G.len cc ∧
    GgPost T w (.returned (.agg #[.int .i64 x.k, .int .i64 x.n, .slice xx G.len cc])) (((W.setCell ⟨w.heap.size + 1, 0, none⟩ (.int .i64 x.k)).setCell ⟨w.heap.size + 1, 1, none⟩ (.int .i64 x.n)).setCell ⟨w.heap.size + 1, 2, none⟩ (.slice xx G.len cc)) := by
  obtain ⟨xx, cc, rfl, hsl⟩ := h.ks.slice
  exact ⟨xx, cc, rfl, x.k, x.n, G, xx, cc, rfl, hT, hsl.carry (set3_only _ _ _ _) (by omega) (by omega), ((h.hb.setCell (by simp) _).setCell (by simp) _).setCell (by simp) _⟩
end
theorem GeAt.start (w : World) (len : Nat) (a : Option Addr) (cap : Nat) (x : Nd) :
    GeAt w len a cap x .nil (.slice none 0 0) ((((w.alloc (.cells #[.slice a len cap] 26)).alloc (.cells #[.int .i64 0, .int .i64 0, .slice none 0 0] 30)).alloc (.cells #[.int .i64 x.k, .int .i64 x.n, .int .i64 x.a, .int .i64 x.b] 41)).alloc (.cells #[.int .i64 x.k, .int .i64 x.n, .slice none 0 0] 30)) := by
  refine ⟨?_, ?_, ?_, ?_, KsOwn.nil _ _, ((((Below.refl _ _).alloc (Nat.le_refl _) _).alloc (by simp) _).alloc (by simp; omega) _).alloc (by simp; omega) _⟩
  · exact (heap_old _ _ (by simp; omega)).trans ((heap_old _ _ (by simp; omega)).trans ((heap_old _ _ (by simp)).trans (heap_new _ _)))
  · exact (heap_old _ _ (by simp)).trans ((heap_old _ _ (by simp)).trans (heap_second _ _ _))
  · refine (heap_old _ _ (by simp)).trans ?_
    have := heap_new ((w.alloc (.cells #[.slice a len cap] 26)).alloc (.cells #[.int .i64 0, .int .i64 0, .slice none 0 0] 30)) (.cells #[.int .i64 x.k, .int .i64 x.n, .int .i64 x.a, .int .i64 x.b] 41)
    simpa using this
  · have := heap_new (((w.alloc (.cells #[.slice a len cap] 26)).alloc (.cells #[.int .i64 0, .int .i64 0, .slice none 0 0] 30)).alloc (.cells #[.int .i64 x.k, .int .i64 x.n, .int .i64 x.a, .int .i64 x.b] 41)) (.cells #[.int .i64 x.k, .int .i64 x.n, .slice none 0 0] 30)
    simpa using this

set_option maxRecDepth 100000 in
set_option maxHeartbeats 8000000 in
theorem r4get_any (ns : List Nd) (hr : rightN ns = true) (a : Option Addr) (cap B : Nat) : ∀ i : Nat, i < ns.length → ∀ w : World, NsIn w (· < B) ns a cap → B ≤ w.heap.size →
    Calls Try.prog 52 #[.agg #[.slice a ns.length cap], .int .i64 i] w (GgPost (tr ns i) w) := by
  intro i
  induction i using Nat.strongRecOn with
  | ind i ih =>
    intro hi w hin hB
    have IH := Lib.hid ih
    clear ih
    obtain ⟨x, hx⟩ : ∃ x, ns[i]? = some x := ⟨_, List.getElem?_eq_getElem hi⟩
    obtain ⟨hT, hf⟩ := tr_at hr hx
    obtain ⟨b, o, rfl, hbB, hatn⟩ := hin.at hi
    obtain ⟨e0, e1, e2, e3⟩ := hatn i x hx
    have hlen := hin.len
    have HIN := Lib.hid hin
    have HK : Hid (∀ W : World, Calls Try.prog 67 #[.int .i64 x.k] W fun e w' => e = .returned (.int .i64 (nK x.k)) ∧ w' = W) := Lib.hid (fun W => by
      have := r4kids_any x.k W
      rwa [fits_kidsOf hf] at this)
    have HTT : Hid (tr ns i = .cons x.k x.n (kd ns x) .nil) := Lib.hid hT
    have hS := GeAt.start w ns.length (some ⟨b, o, none⟩) cap x
    have HS := Lib.hid hS
    have hi' : (i : Int) < (ns.length : Int) := by omega
    have hi0 : (0 : Int) ≤ (i : Int) := by omega
    have hbw : b < w.heap.size := by omega
    rcases nK_cases x.k with h0 | h0 | h0
    · rw [h0] at HK
      have hk : kd ns x = .nil := kd_0 h0
      rw [hk] at HTT
      have HE : Hid (GgPost (tr ns i) w (.returned (.agg #[.int .i64 x.k, .int .i64 x.n, .slice none 0 0])) ((((w.alloc (.cells #[.slice (some ⟨b, o, none⟩) ns.length cap] 26)).alloc (.cells #[.int .i64 x.k, .int .i64 x.n, .slice none 0 0] 30)).alloc (.cells #[.int .i64 x.k, .int .i64 x.n, .int .i64 x.a, .int .i64 x.b] 41)).alloc (.cells #[.int .i64 x.k, .int .i64 x.n, .slice none 0 0] 30))) := Lib.hid
        ⟨x.k, x.n, .nil, none, 0, rfl, HTT.out, SlIn.none _ _, ((((Below.refl _ _).alloc (Nat.le_refl _) _).alloc (by simp) _).alloc (by simp; omega) _).alloc (by simp; omega) _⟩
      clear hS hk h0 hx hf hT hatn hin IH
      go_enter Try.func52, Try.ntmps52
      go_wp2_with fail
      refine (HK.out _).mono ?_
      rintro e w' ⟨rfl, rfl⟩
      go_wp2_with fail
      refine bodyPost_ret (v := .agg #[.int .i64 x.k, .int .i64 x.n, .slice none 0 0]) (by simp [results, Try.results52, go_sem]) rfl ?_
      exact HE.out
    · rw [h0] at HK
      have hk : kd ns x = tr ns x.a.toNat := kd_1 h0
      have ha := fits_a hf (by omega)
      obtain ⟨c, hc⟩ : ∃ c : Nat, x.a = c := ⟨x.a.toNat, by omega⟩
      rw [hc, Int.toNat_natCast] at hk
      have hci : c < i := by omega
      have HCL : Hid (∀ W : World, Below w.heap.size w W → Calls Try.prog 52 #[.agg #[.slice (some ⟨b, o, none⟩) ns.length cap], .int .i64 x.a] W (GgPost (tr ns c) W)) := Lib.hid (fun W h => by
        rw [hc]
        exact IH.out c hci (by omega) W (HIN.out.below (h.mono hB)) (Nat.le_trans hB h.size))
      have HT1 : Hid (∀ (k' n' : Int) (F' : Fo), tr ns c = .cons k' n' F' .nil → tr ns i = .cons x.k x.n (.cons k' n' F' .nil) .nil) := Lib.hid (fun k' n' F' h => by rw [HTT.out, hk, h])
      obtain ⟨c0, c1, c2, c3, c4, c5, c6, c7, c8, c9, c10, c11, c12⟩ := hS.facts
      clear hS hk h0 hx hf hT hatn hin IH ha hc HTT
      go_enter Try.func52, Try.ntmps52
      go_wp2_with fail
      refine (HK.out _).mono ?_
      rintro e w' ⟨rfl, rfl⟩
      go_wp2_with fail
      go_region_law (first
        | (refine step_append (by rfl) _ _ _ (by rfl) (by rfl) (by rfl) HRUN.out ?_)
        | (go_simp; go_at_call 52; refine (HCL.out _ (by exact HS.out.hb.drew)).mono ?_; rintro e w2 ⟨k', n', F', x', c', rfl, t1, t2, t3⟩
           obtain ⟨L2, hlb2, g', cap', w3, hrun, L3, Z3, hN⟩ := HS.out.next (k' := k') (n' := n') (by decide) t2 ((Below.draws (Below.refl _ _) 1).trans t3)
           have HRUN := Lib.hid hrun
           have HN := Lib.hid hN
           have HT2 := Lib.hid (HT1.out k' n' F' t1)
           have L2a := (World.cell?_of_block (w := w2) (w' := w2.alloc (.cells #[.int .i64 k', .int .i64 n', .slice x' F'.len c'] 30)) (a := ⟨w.heap.size + 1 + 1 + 1, 2, none⟩) (heap_old _ _ hlb2)).trans L2
           clear hrun hN t1 t2 t3))
      all_goals
        obtain ⟨xx, cc, hv, hE⟩ := HN.out.fin HT2.out
        have HE := Lib.hid hE
        obtain ⟨d0, d1, d2, d3, d4, d5, d6, d7, d8, d9, d10, d11, d12⟩ := HN.out.facts
        rw [hv] at d10 d0 d1 d2 d3 d4 d5 d6 d7 d8 d9 d11 d12 ⊢
        rw [hv] at HE
        clear hv hE
        go_wp2_with fail
        refine bodyPost_ret (v := .agg #[.int .i64 x.k, .int .i64 x.n, .slice xx (Fo.app .nil (.cons k' n' F' .nil)).len cc]) (by simp [results, Try.results52, go_sem, d1, d2, d3]) rfl ?_
        exact HE.out
    · rw [h0] at HK
      have hk : kd ns x = (tr ns x.a.toNat).app (tr ns x.b.toNat) := kd_2 h0
      have ha := fits_a hf (by omega)
      have hb := fits_b hf (by omega)
      obtain ⟨c, hc⟩ : ∃ c : Nat, x.a = c := ⟨x.a.toNat, by omega⟩
      obtain ⟨f, hcf⟩ : ∃ f : Nat, x.b = f := ⟨x.b.toNat, by omega⟩
      rw [hc, hcf, Int.toNat_natCast, Int.toNat_natCast] at hk
      have hci : c < i := by omega
      have hfi : f < i := by omega
      have HCL : Hid (∀ W : World, Below w.heap.size w W → Calls Try.prog 52 #[.agg #[.slice (some ⟨b, o, none⟩) ns.length cap], .int .i64 x.a] W (GgPost (tr ns c) W)) := Lib.hid (fun W h => by
        rw [hc]
        exact IH.out c hci (by omega) W (HIN.out.below (h.mono hB)) (Nat.le_trans hB h.size))
      have HCM : Hid (∀ W : World, Below w.heap.size w W → Calls Try.prog 52 #[.agg #[.slice (some ⟨b, o, none⟩) ns.length cap], .int .i64 x.b] W (GgPost (tr ns f) W)) := Lib.hid (fun W h => by
        rw [hcf]
        exact IH.out f hfi (by omega) W (HIN.out.below (h.mono hB)) (Nat.le_trans hB h.size))
      have HT1 : Hid (∀ (G : Fo) (k' n' : Int) (F' : Fo), G = tr ns c → tr ns f = .cons k' n' F' .nil → tr ns i = .cons x.k x.n (G.app (.cons k' n' F' .nil)) .nil) := Lib.hid (fun G k' n' F' h1 h2 => by rw [HTT.out, hk, h1, h2])
      have HGL : Hid ((tr ns c).len = 1) := Lib.hid (tr_len hr (by omega))
      obtain ⟨c0, c1, c2, c3, c4, c5, c6, c7, c8, c9, c10, c11, c12⟩ := hS.facts
      clear hS hk h0 hx hf hT hatn hin IH ha hb hc hcf HTT
      go_enter Try.func52, Try.ntmps52
      go_wp2_with fail
      refine (HK.out _).mono ?_
      rintro e w' ⟨rfl, rfl⟩
      go_upto_region 5 with fail
      go_cut [] (fun wx => ∃ (G : Fo) (v : Value), Hid (G = tr ns c) ∧ Hid (GeAt w ns.length (some ⟨b, o, none⟩) cap x G v wx))
      case first =>
        go_region_law (first
          | (refine step_append (by rfl) _ _ _ (by rfl) (by rfl) (by rfl) HRUN.out ?_)
          | (go_simp; go_at_call 52; refine (HCL.out _ (by exact HS.out.hb.drew)).mono ?_; rintro e w2 ⟨k', n', F', x', c', rfl, t1, t2, t3⟩
             obtain ⟨L2, hlb2, g', cap', w3, hrun, L3, Z3, hN⟩ := HS.out.next (k' := k') (n' := n') (by decide) t2 ((Below.draws (Below.refl _ _) 1).trans t3)
             have HRUN := Lib.hid hrun
             have HN := Lib.hid hN
             have HT2 := Lib.hid t1
             have L2a := (World.cell?_of_block (w := w2) (w' := w2.alloc (.cells #[.int .i64 k', .int .i64 n', .slice x' F'.len c'] 30)) (a := ⟨w.heap.size + 1 + 1 + 1, 2, none⟩) (heap_old _ _ hlb2)).trans L2
             clear hrun hN t1 t2 t3))
        all_goals go_wp2_with fail
        all_goals
          go_meet
          exact ⟨_, _, Lib.hid HT2.out.symm, HN⟩
      case rest =>
        obtain ⟨G, v, hG, hW⟩ := hcut
        clear c0 c1 c2 c3 c4 c5 c6 c7 c8 c9 c10 c11 c12 HS
        obtain ⟨c0, c1, c2, c3, c4, c5, c6, c7, c8, c9, c10, c11, c12⟩ := hW.out.facts
        have HG2 : Hid (G.len ≤ 2) := Lib.hid (by rw [hG.out, HGL.out]; omega)
        go_wp2_with fail
        go_region_law (first
          | (refine step_append (by rfl) _ _ _ (by rfl) (by rfl) (by rfl) HRUN.out ?_)
          | (go_simp; go_at_call 52; refine (HCM.out _ (by exact hW.out.hb.drew)).mono ?_; rintro e w2 ⟨k', n', F', x', c', rfl, t1, t2, t3⟩
             obtain ⟨L2, hlb2, g', cap', w3, hrun, L3, Z3, hN⟩ := hW.out.next (k' := k') (n' := n') HG2.out t2 ((Below.draws (Below.refl _ _) 1).trans t3)
             have HRUN := Lib.hid hrun
             have HN := Lib.hid hN
             have HT2 := Lib.hid (HT1.out G k' n' F' hG.out t1)
             have L2a := (World.cell?_of_block (w := w2) (w' := w2.alloc (.cells #[.int .i64 k', .int .i64 n', .slice x' F'.len c'] 30)) (a := ⟨w.heap.size + 1 + 1 + 1, 2, none⟩) (heap_old _ _ hlb2)).trans L2
             clear hrun hN t1 t2 t3))
        all_goals
          obtain ⟨xx, cc, hv, hE⟩ := HN.out.fin HT2.out
          have HE := Lib.hid hE
          obtain ⟨d0, d1, d2, d3, d4, d5, d6, d7, d8, d9, d10, d11, d12⟩ := HN.out.facts
          rw [hv] at d10 d0 d1 d2 d3 d4 d5 d6 d7 d8 d9 d11 d12 ⊢
          rw [hv] at HE
          clear hv hE
          go_wp2_with fail
          refine bodyPost_ret (v := .agg #[.int .i64 x.k, .int .i64 x.n, .slice xx (Fo.app G (.cons k' n' F' .nil)).len cc]) (by simp [results, Try.results52, go_sem, d1, d2, d3]) rfl ?_
          exact HE.out
end Go.Proofs.Ytmbopdlmkbbbiaa
