/- The contract of the program's reader of nodes: the level of a node, or none if it is too deep or too great. No condition but that the nodes lie in memory and are an arena. -/
import Derived.Test.YtmbopdlmkbbbiaaAlv
import Derived.Test.YtmbopdlmkbbbiaaKids
import Derived.Test.YtmbopdlmkbbbiaaWpl
import Derived.IntWalk
namespace Go.Proofs.Ytmbopdlmkbbbiaa
open Go.RowKit

/-- The reader's block. -/
def ArAt (w : World) (R : Nat) (a : Option Addr) (len cap l : Nat) : Prop := w.heap[R]? = some (.cells #[.slice a len cap, .int .i64 l] 72 (0, 0))
theorem ArAt.facts {w : World} {R : Nat} {a : Option Addr} {len cap l : Nat} (h : ArAt w R a len cap l) : w.cell? ⟨R, 0, none⟩ = some (.slice a len cap) ∧ w.cell? ⟨R, 1, none⟩ = some (.int .i64 l) ∧ (∀ o, w.frozen? ⟨R, o, none⟩ = false) ∧ R < w.heap.size := ⟨cell_at h 0, cell_at h 1, free_of h, lt_of_block h⟩
theorem ArAt.set {w : World} {R : Nat} {a : Option Addr} {len cap l : Nat} (h : ArAt w R a len cap l) (q : Nat) : ArAt (w.setCell ⟨R, 1, none⟩ (.int .i64 q)) R a len cap q := by
  unfold ArAt at *
  simp only [World.setCell, Array.getElem?_modify, if_true, h]; rfl
theorem ArAt.keep {w w' : World} {R : Nat} {a : Option Addr} {len cap l : Nat} (h : ArAt w R a len cap l) (hb : Below w.heap.size w w') : ArAt w' R a len cap l := (hb.block R (lt_of_block h)).trans h
/-- What reading a level answers. -/
def AlPost (R : Nat) (a : Option Addr) (len cap : Nat) (T : Fo) (r : Option Nat) (w : World) (e : Ending) (w' : World) : Prop := w.grownBy w' (some R) ∧
  match r with
  | none => e = .returned (.tuple #[.agg #[.int .i64 0, .int .i64 0, .slice none 0 0], .bool false])
  | some l => ∃ (k n : Int) (F : Fo) (x : Option Addr) (c : Nat), T = .cons k n F .nil ∧ e = .returned (.tuple #[.agg #[.int .i64 k, .int .i64 n, .slice x F.len c], .bool true]) ∧ SlIn w' (fun b => w.heap.size ≤ b ∧ b < w'.heap.size) F x c ∧ ArAt w' R a len cap l
theorem AlPost.no {R : Nat} {a : Option Addr} {len cap : Nat} {T : Fo} {w : World} {e : Ending} {w' : World} (h : AlPost R a len cap T none w e w') : e = .returned (.tuple #[.agg #[.int .i64 0, .int .i64 0, .slice none 0 0], .bool false]) ∧ w.grownBy w' (some R) := ⟨h.2, h.1⟩
theorem AlPost.ok {R : Nat} {a : Option Addr} {len cap l : Nat} {T : Fo} {w : World} {e : Ending} {w' : World} (h : AlPost R a len cap T (some l) w e w') :
    ∃ (k n : Int) (F : Fo) (x : Option Addr) (c : Nat), T = .cons k n F .nil ∧ e = .returned (.tuple #[.agg #[.int .i64 k, .int .i64 n, .slice x F.len c], .bool true]) ∧ SlIn w' (fun b => w.heap.size ≤ b ∧ b < w'.heap.size) F x c ∧ ArAt w' R a len cap l ∧ w.grownBy w' (some R) := by
  obtain ⟨h1, k, n, F, x, c, h2, h3, h4, h5⟩ := h
  exact ⟨k, n, F, x, c, h2, h3, h4, h5, h1⟩
/-- What is known of reading at a depth. -/
def AlAny (ns : List Nd) (R : Nat) (a : Option Addr) (cap d : Nat) : Prop := ∀ (i l : Nat) (w : World), ArAt w R a ns.length cap l → NsIn w (· < R) ns a cap → i < ns.length → l ≤ 100 →
  Calls Try.prog 35 #[.pointer (some ⟨R, 0, none⟩), .int .i64 i, .int .i64 d] w (AlPost R a ns.length cap (tr ns i) (cF (tr ns i) d l) w)
/-- What stands in memory while the kids are read: the level that is made in block LB, the numbers of the kids in block LB + 2. -/
def GtR (ns : List Nd) (w : World) (R : Nat) (a : Option Addr) (cap : Nat) (x : Nd) (d : Nat) (res : Option Nat) (j : Nat) (v : Value) (wr : World) : Prop :=
  ∃ (G rest : Fo) (l' : Nat), kd ns x = G.app rest ∧ G.len = j ∧ res = cF rest d l' ∧ l' ≤ 100 ∧
    wr.heap[w.heap.size]? = some (.cells #[.int .i64 0, .int .i64 0, .slice none 0 0] 30 (0, 0)) ∧
    wr.heap[w.heap.size + 1 + 1]? = some (.cells #[.int .i64 x.k, .int .i64 x.n, v] 30 (0, 0)) ∧
    wr.heap[w.heap.size + 1 + 1 + 1 + 1]? = some (.cells #[.int .i64 x.a, .int .i64 x.b] 3 (0, 0)) ∧
    KsOwn (w.heap.size + 1 + 1 + 1 + 1 + 1) wr v G ∧ ArAt wr R a ns.length cap l' ∧ w.grownBy wr (some R)
theorem foApp_eq {f g h i : Fo} (e : f.app g = h.app i) (hl : f.len = h.len) : f = h ∧ g = i := (Fo.app_eq hl).1 e
/-- What the next kid is. -/
theorem kd_split {ns : List Nd} (hr : rightN ns = true) {i : Nat} {x : Nd} (hx : ns[i]? = some x) {G rest : Fo} (h : kd ns x = G.app rest) (hj : G.len < nK x.k) :
    ∃ (c : Nat) (rest' : Fo), c < i ∧ rest = (tr ns c).app rest' ∧ ((G.len = 0 ∧ x.a = c) ∨ (G.len = 1 ∧ x.b = c)) := by
  have hf := (tr_at hr hx).2
  have hi := (List.getElem?_eq_some_iff.1 hx).1
  rcases nK_cases x.k with h0 | h0 | h0
  · omega
  · have ha := fits_a hf (by omega)
    have hG : G.len = 0 := by omega
    rw [kd_1 h0, Fo.len_zero hG] at h
    exact ⟨x.a.toNat, .nil, by omega, by rw [foApp_nil]; exact h.symm, .inl ⟨hG, by omega⟩⟩
  · have ha := fits_a hf (by omega)
    have hb := fits_b hf (by omega)
    rw [kd_2 h0] at h
    rcases Nat.eq_zero_or_pos G.len with hG | hG
    · rw [Fo.len_zero hG] at h
      exact ⟨x.a.toNat, tr ns x.b.toNat, by omega, h.symm, .inl ⟨hG, by omega⟩⟩
    · obtain ⟨_, e⟩ := foApp_eq h (by rw [tr_len hr (by omega)]; omega)
      exact ⟨x.b.toNat, .nil, by omega, by rw [foApp_nil]; exact e.symm, .inr ⟨by omega, by omega⟩⟩
theorem GtR.facts {ns : List Nd} {w : World} {R : Nat} {a : Option Addr} {cap : Nat} {x : Nd} {d : Nat} {res : Option Nat} {j : Nat} {v : Value} {wr : World} (h : GtR ns w R a cap x d res j v wr) :
    wr.cell? ⟨w.heap.size, 0, none⟩ = some (.int .i64 0) ∧ wr.cell? ⟨w.heap.size, 1, none⟩ = some (.int .i64 0) ∧ wr.cell? ⟨w.heap.size, 2, none⟩ = some (.slice none 0 0) ∧ (∀ o, wr.frozen? ⟨w.heap.size, o, none⟩ = false) ∧
    wr.cell? ⟨w.heap.size + 1 + 1, 0, none⟩ = some (.int .i64 x.k) ∧ wr.cell? ⟨w.heap.size + 1 + 1, 1, none⟩ = some (.int .i64 x.n) ∧ wr.cell? ⟨w.heap.size + 1 + 1, 2, none⟩ = some v ∧ (∀ o, wr.frozen? ⟨w.heap.size + 1 + 1, o, none⟩ = false) ∧
    wr.cell? ⟨w.heap.size + 1 + 1 + 1 + 1, 0, none⟩ = some (.int .i64 x.a) ∧ wr.cell? ⟨w.heap.size + 1 + 1 + 1 + 1, 1, none⟩ = some (.int .i64 x.b) ∧ w.heap.size + 1 + 1 + 1 + 1 < wr.heap.size := by
  obtain ⟨_, _, _, _, _, _, _, h1, h2, h3, _⟩ := h
  exact ⟨cell_at h1 0, cell_at h1 1, cell_at h1 2, free_of h1, cell_at h2 0, cell_at h2 1, cell_at h2 2, free_of h2, cell_at h3 0, cell_at h3 1, lt_of_block h3⟩
theorem res_no (w : World) (R : Nat) (a : Option Addr) (len cap : Nat) (T : Fo) {w' : World} (h : w.grownBy w' (some R)) : AlPost R a len cap T none w (.returned (.tuple #[.agg #[.int .i64 0, .int .i64 0, .slice none 0 0], .bool false])) w' := ⟨h, rfl⟩
theorem GtR.start {ns : List Nd} {w : World} {R : Nat} {a : Option Addr} {cap m d : Nat} {x : Nd} {res : Option Nat} (hat : ArAt w R a ns.length cap (m + 1)) (hm : m + 1 ≤ 100) (hres : cF (kd ns x) d m = res) :
    GtR ns w R a cap x d res 0 (.slice none 0 0) ((((((w.setCell ⟨R, 1, none⟩ (.int .i64 m)).alloc (.cells #[.int .i64 0, .int .i64 0, .slice none 0 0] 30)).alloc (.cells #[.int .i64 x.k, .int .i64 x.n, .int .i64 x.a, .int .i64 x.b] 41)).alloc (.cells #[.int .i64 x.k, .int .i64 x.n, .slice none 0 0] 30)).alloc (.cells #[.int .i64 x.k, .int .i64 x.n, .int .i64 x.a, .int .i64 x.b] 41)).alloc (.cells #[.int .i64 x.a, .int .i64 x.b] 3)) := by
  have hR := lt_of_block hat
  have h1 : ArAt (w.setCell ⟨R, 1, none⟩ (.int .i64 m)) R a ns.length cap m := hat.set m
  have hz : (w.setCell ⟨R, 1, none⟩ (.int .i64 m)).heap.size = w.heap.size := by simp
  have hg : w.grownBy (w.setCell ⟨R, 1, none⟩ (.int .i64 m)) (some R) := Only.set _ _ _ _
  generalize w.setCell ⟨R, 1, none⟩ (.int .i64 m) = W at h1 hz hg ⊢
  have hb : Below W.heap.size W (((((W.alloc (.cells #[.int .i64 0, .int .i64 0, .slice none 0 0] 30)).alloc (.cells #[.int .i64 x.k, .int .i64 x.n, .int .i64 x.a, .int .i64 x.b] 41)).alloc (.cells #[.int .i64 x.k, .int .i64 x.n, .slice none 0 0] 30)).alloc (.cells #[.int .i64 x.k, .int .i64 x.n, .int .i64 x.a, .int .i64 x.b] 41)).alloc (.cells #[.int .i64 x.a, .int .i64 x.b] 3)) :=
    (((((Below.refl _ _).alloc (Nat.le_refl _) _).alloc (by simp) _).alloc (by simp; omega) _).alloc (by simp; omega) _).alloc (by simp; omega) _
  refine ⟨.nil, kd ns x, m, rfl, rfl, hres.symm, by omega, ?_, ?_, ?_, KsOwn.nil _ _, h1.keep hb, Only.after hg (Only.below R hb)⟩
  · rw [← hz]
    exact (heap_old _ _ (by simp; omega)).trans ((heap_old _ _ (by simp; omega)).trans ((heap_old _ _ (by simp; omega)).trans ((heap_old _ _ (by simp)).trans (heap_new _ _))))
  · rw [← hz]
    refine (heap_old _ _ (by simp)).trans ((heap_old _ _ (by simp)).trans ?_)
    have := heap_new ((W.alloc (.cells #[.int .i64 0, .int .i64 0, .slice none 0 0] 30)).alloc (.cells #[.int .i64 x.k, .int .i64 x.n, .int .i64 x.a, .int .i64 x.b] 41)) (.cells #[.int .i64 x.k, .int .i64 x.n, .slice none 0 0] 30)
    simpa using this
  · rw [← hz]
    have := heap_new ((((W.alloc (.cells #[.int .i64 0, .int .i64 0, .slice none 0 0] 30)).alloc (.cells #[.int .i64 x.k, .int .i64 x.n, .int .i64 x.a, .int .i64 x.b] 41)).alloc (.cells #[.int .i64 x.k, .int .i64 x.n, .slice none 0 0] 30)).alloc (.cells #[.int .i64 x.k, .int .i64 x.n, .int .i64 x.a, .int .i64 x.b] 41)) (.cells #[.int .i64 x.a, .int .i64 x.b] 3)
    simpa using this
/-- A kid more has been read: the append behind the others, and what lies there then. -/
theorem GtR.next {ns : List Nd} {w : World} {R : Nat} {a : Option Addr} {cap : Nat} {x : Nd} {d : Nat} {res : Option Nat} {v : Value} {wr : World} {G rest' : Fo} {k' n' : Int} {F' : Fo} {l2 : Nat} (hR : R < w.heap.size) (hG : G.len ≤ 2) (h1 : kd ns x = G.app ((Fo.cons k' n' F' .nil).app rest'))
    (hres : res = cF rest' d l2) (hl2 : l2 ≤ 100)
    (b0 : wr.heap[w.heap.size]? = some (.cells #[.int .i64 0, .int .i64 0, .slice none 0 0] 30 (0, 0)))
    (b2 : wr.heap[w.heap.size + 1 + 1]? = some (.cells #[.int .i64 x.k, .int .i64 x.n, v] 30 (0, 0)))
    (b4 : wr.heap[w.heap.size + 1 + 1 + 1 + 1]? = some (.cells #[.int .i64 x.a, .int .i64 x.b] 3 (0, 0)))
    (ks : KsOwn (w.heap.size + 1 + 1 + 1 + 1 + 1) wr v G) (hg : w.grownBy wr (some R)) {w2 : World} {x' : Option Addr} {c' : Nat}
    (hs : SlIn w2 (fun b => wr.heap.size ≤ b ∧ b < w2.heap.size) F' x' c') (hat : ArAt w2 R a ns.length cap l2) (hg2 : wr.grownBy w2 (some R)) :
    w2.cell? ⟨w.heap.size + 1 + 1, 2, none⟩ = some v ∧ w.heap.size + 1 + 1 < w2.heap.size ∧
    ∃ g' cap' w3, (Builtin.append_ #[28, 28] 28 #[v, .slice (some ⟨w2.heap.size + 1, 0, none⟩) 1 1]).run Try.prog ((w2.alloc (.cells #[.int .i64 k', .int .i64 n', .slice x' F'.len c'] 30)).alloc (.cells #[.int .i64 k', .int .i64 n', .slice x' F'.len c'] 30)) = .ok (.slice (some ⟨g', 0, none⟩) (G.len + 1) cap') w3 ∧
      w3.cell? ⟨w.heap.size + 1 + 1, 2, none⟩ = some v ∧ (∀ o, w3.frozen? ⟨w.heap.size + 1 + 1, o, none⟩ = false) ∧
      GtR ns w R a cap x d res (G.len + 1) (.slice (some ⟨g', 0, none⟩) (G.len + 1) cap') (w3.setCell ⟨w.heap.size + 1 + 1, 2, none⟩ (.slice (some ⟨g', 0, none⟩) (G.len + 1) cap')) := by
  have hlt := lt_of_block b4
  have e0 := (Only.block hg2 (lt_of_block b0) (by omega)).trans b0
  have e2 := (Only.block hg2 (lt_of_block b2) (by omega)).trans b2
  have e4 := (Only.block hg2 (lt_of_block b4) (by omega)).trans b4
  have hz2 := hg2.size
  have hfr := (ks.fresh (by omega) hs)
  have hks : KsOwn (w.heap.size + 1 + 1 + 1 + 1 + 1) (w2.alloc (.cells #[.int .i64 k', .int .i64 n', .slice x' F'.len c'] 30)) v G := (ks.grown hg2 (by omega)).alloc _
  have hsl : SlIn (w2.alloc (.cells #[.int .i64 k', .int .i64 n', .slice x' F'.len c'] 30)) (fun b => w.heap.size + 1 + 1 + 1 + 1 + 1 ≤ b ∧ b < (w2.alloc (.cells #[.int .i64 k', .int .i64 n', .slice x' F'.len c'] 30)).heap.size ∧ some b ≠ v.ownBlock) F' x' c' :=
    (hfr.keep (fun b hb => heap_old _ _ hb.2.1)).weak (fun b hb => ⟨hb.1, by simp; omega, hb.2.2⟩)
  obtain ⟨g', cap', w3, hrun, k3, same, z3, o1, o2, o3⟩ := hks.append k' n' hsl 28 (by omega) (by omega) (by simp; omega)
  rw [World.size_alloc] at hrun same z3
  have nv : ∀ b, b ≤ w.heap.size + 1 + 1 + 1 + 1 → some b ≠ v.ownBlock := fun b hb e => by have := (ks.lt b e.symm).1; omega
  have old : ∀ b, b < w2.heap.size → some b ≠ v.ownBlock → w3.heap[b]? = w2.heap[b]? := fun b hb hn => (same b (by omega) hn).trans (heap_old _ _ hb)
  have f0 := (old _ (lt_of_block e0) (nv _ (by omega))).trans e0
  have f2 := (old _ (lt_of_block e2) (nv _ (by omega))).trans e2
  have f4 := (old _ (lt_of_block e4) (nv _ (by omega))).trans e4
  have n0 : w.heap.size ≠ w.heap.size + 1 + 1 := by omega
  have n4 : w.heap.size + 1 + 1 + 1 + 1 ≠ w.heap.size + 1 + 1 := by omega
  have nR : R ≠ w.heap.size + 1 + 1 := by omega
  refine ⟨cell_at e2 2, lt_of_block e2, g', cap', w3, hrun, cell_at f2 2, free_of f2, G.app (.cons k' n' F' .nil), rest', l2, by rw [foApp_assoc]; exact h1, by rw [Fo.app_len]; rfl, hres, hl2,
    (Below.heap_setCell _ _ _ _ n0).trans f0, heap_setCell_same w3 _ 2 _ _ _ f2, (Below.heap_setCell _ _ _ _ n4).trans f4, k3.setLow (by omega) 2 _, ?_, ?_⟩
  · exact (Below.heap_setCell _ _ _ _ nR).trans ((old R (by omega) (nv R (by omega))).trans hat)
  · refine ⟨(o1.trans hg2.os).trans hg.os, (o2.trans hg2.tape).trans hg.tape, (o3.trans hg2.output).trans hg.output, ?_, fun q hq hne => ?_⟩
    · have := hg.size; simp; omega
    · have hz := hg.size
      have nq : q ≠ w.heap.size + 1 + 1 := by omega
      rw [Below.heap_setCell _ _ _ _ nq, old q (by omega) (nv q (by omega)), hg2.block q (by omega) hne]
      exact hg.block q hq hne

set_option maxRecDepth 100000 in
set_option maxHeartbeats 4000000 in
theorem alevel_any (ns : List Nd) (hr : rightN ns = true) (R : Nat) (a : Option Addr) (cap : Nat) : ∀ d : Nat, d ≤ 12 → AlAny ns R a cap d := by
  intro d
  induction d with
  | zero =>
    intro _ i l w hat hin hi hl
    have hN : cF (tr ns i) 0 l = none := by rw [(tr_at hr (List.getElem?_eq_getElem hi)).1, cF_no (.inl rfl)]
    rw [hN]
    have HE := Lib.hid (res_no w R a ns.length cap (tr ns i) (Only.alloc w R (.cells #[.int .i64 0, .int .i64 0, .slice none 0 0] 30)))
    clear hN
    show Calls Try.prog 35 #[.pointer (some ⟨R, 0, none⟩), .int .i64 i, .int .i64 0] w _
    go_enter Try.func35, Try.ntmps35
    go_wp2_with fail
    refine bodyPost_ret (v := .tuple #[.agg #[.int .i64 0, .int .i64 0, .slice none 0 0], .bool false]) (by simp [results, Try.results35, go_sem]) rfl ?_
    exact HE.out
  | succ d ih =>
    intro hd i l w hat hin hi hl
    have HL : Hid (AlAny ns R a cap d) := Lib.hid (ih (by omega))
    clear ih
    obtain ⟨V, hV⟩ : ∃ V : Int, V = ((d + 1 : Nat) : Int) := ⟨_, rfl⟩
    rw [← hV]
    have hV1 : 1 ≤ V := by omega
    have hV2 : V ≤ 12 := by omega
    have HVV : Hid (V - 1 = (d : Int)) := Lib.hid (by omega)
    have dv : (V == 0) = false := beq_eq_false_iff_ne.2 (by omega)
    clear hV
    obtain ⟨c0, c1, fz, hR⟩ := hat.facts
    cases l with
    | zero =>
      have hN : cF (tr ns i) (d + 1) 0 = none := by rw [(tr_at hr (List.getElem?_eq_getElem hi)).1, cF_no (.inr rfl)]
      rw [hN]
      have HE := Lib.hid (res_no w R a ns.length cap (tr ns i) (Only.alloc w R (.cells #[.int .i64 0, .int .i64 0, .slice none 0 0] 30)))
      simp only [Int.ofNat_zero] at c1
      clear hN
      go_enter Try.func35, Try.ntmps35
      go_wp2_with fail
      refine bodyPost_ret (v := .tuple #[.agg #[.int .i64 0, .int .i64 0, .slice none 0 0], .bool false]) (by simp [results, Try.results35, go_sem]) rfl ?_
      exact HE.out
    | succ m =>
      have hm1 : ((m + 1 : Nat) : Int) = (m : Int) + 1 := by omega
      rw [hm1] at c1
      have dm : (((m : Int) + 1) == 0) = false := beq_eq_false_iff_ne.2 (by omega)
      obtain ⟨x, hx⟩ : ∃ x, ns[i]? = some x := ⟨_, List.getElem?_eq_getElem hi⟩
      obtain ⟨b, o, rfl, hbR, hatn⟩ := hin.at hi
      obtain ⟨e0, e1, e2, e3⟩ := hatn i x hx
      have hT : cF (tr ns i) (d + 1) (m + 1) = cF (kd ns x) d m := by rw [(tr_at hr hx).1, cF_tr (by omega)]; rfl
      obtain ⟨res, hres⟩ : ∃ res, cF (kd ns x) d m = res := ⟨_, rfl⟩
      rw [hT, hres]
      have HTR := Lib.hid (tr_at hr hx).1
      have HKL := Lib.hid (kd_len hr hx)
      have HIN := Lib.hid hin
      have hne : b ≠ R := by omega
      have hbw : b < w.heap.size := by omega
      have hi' : (i : Int) < (ns.length : Int) := by omega
      have hi0 : (0 : Int) ≤ (i : Int) := by omega
      have hlen := hin.len
      have HS := Lib.hid (GtR.start hat hl hres)
      have hK := nK_cases x.k
      have HX := Lib.hid hx
      have HAK := Lib.hid (akidsOf_any x)
      clear hres hx hT hat hatn hin
      go_enter Try.func35, Try.ntmps35
      go_wp2_with fail
      refine (HAK.out _).mono ?_
      rintro e w' ⟨rfl, rfl⟩
      go_wp2_with fail
      go_loopw [46] (fun jv wr => ∃ (j : Nat) (v : Value), jv = .int .i64 j ∧ Hid (j ≤ nK x.k) ∧ Hid (GtR ns w R (some ⟨b, o, none⟩) cap x d res j v wr)) (fun jv _ => 2 - (intOf jv).toNat)
      case atStart => exact ⟨0, _, rfl, Lib.hid (Nat.zero_le _), HS⟩
      case round =>
        obtain ⟨j, v, rfl, hj, hG⟩ := hrel
        obtain ⟨g0, g1, g2, g3, g4, g5, g6, g7, g8, g9, g10⟩ := hG.out.facts
        by_cases hjk : j < nK x.k
        · have hK1 : (j : Int) < (nK x.k : Int) := by omega
          obtain ⟨G, rest, l', q1, q2, q3, q4, q5, q6, q7, q8, q9, q10⟩ := hG.out
          obtain ⟨c, rest', hc, rfl, hcc⟩ := kd_split hr HX.out q1 (by rw [q2]; exact hjk)
          have hcl : c < ns.length := by omega
          have hwr : NsIn wr (· < R) ns (some ⟨b, o, none⟩) cap := HIN.out.keep (fun q hq => Only.block q10 (by omega) (by omega))
          have HCL := Lib.hid (HL.out c l' wr q9 hwr hcl q4)
          rw [cF_app] at q3
          have hrl : R < wr.heap.size := lt_of_block q9
          cases hcr : cF (tr ns c) d l' with
          | none =>
            rw [hcr] at q3 HCL
            have HE : Hid (res = none) := Lib.hid q3
            have HGR := Lib.hid q10
            clear q1 q3 q4 q5 q6 q7 q8 q9 q10 hcr hwr
            rcases hcc with ⟨hj0, hxc⟩ | ⟨hj0, hxc⟩
            · obtain rfl : j = 0 := q2.symm.trans hj0
              rw [hxc] at g8
              clear hxc
              rw [← HVV.out] at HCL
              clear q2
              go_wp2_with fail
              refine HCL.out.mono ?_
              rintro e w2 h2
              obtain ⟨rfl, hg2⟩ := h2.no
              have y0 := (Only.block hg2 (b := w.heap.size) (by omega) (by omega))
              have n0 := (World.cell?_of_block (w := wr) (a := ⟨w.heap.size, 0, none⟩) y0).trans g0
              have n1 := (World.cell?_of_block (w := wr) (a := ⟨w.heap.size, 1, none⟩) y0).trans g1
              have n2 := (World.cell?_of_block (w := wr) (a := ⟨w.heap.size, 2, none⟩) y0).trans g2
              have nz : ∀ o, w2.frozen? ⟨w.heap.size, o, none⟩ = false := fun o => (World.frozen?_of_block (w := wr) (a := ⟨w.heap.size, o, none⟩) y0).trans (g3 o)
              have hz2 : w.heap.size < w2.heap.size := by have := hg2.size; omega
              have HF : Hid (AlPost R (some ⟨b, o, none⟩) ns.length cap (tr ns i) res w (.returned (.tuple #[.agg #[.int .i64 0, .int .i64 0, .slice none 0 0], .bool false])) ((((w2.setCell ⟨w.heap.size, 0, none⟩ (.int .i64 0)).setCell ⟨w.heap.size, 1, none⟩ (.int .i64 0)).setCell ⟨w.heap.size, 2, none⟩ (.slice none 0 0)).alloc (.cells #[.int .i64 0, .int .i64 0, .slice none 0 0] 30))) := Lib.hid (by
                rw [HE.out]
                exact res_no w R _ _ _ _ (Only.after (Only.past (Only.after HGR.out hg2) (set3_only _ _ _ _) (Nat.le_refl _)) (Only.alloc _ _ _)))
              clear h2 hg2 y0 g0 g1 g2 g3 g4 g5 g6 g7 g8 g9
              go_wp2_with fail
              refine bodyPost_ret (v := .tuple #[.agg #[.int .i64 0, .int .i64 0, .slice none 0 0], .bool false]) (by simp [results, Try.results35, go_sem, n0, n1, n2, hz2]) rfl ?_
              exact HF.out
            · obtain rfl : j = 1 := q2.symm.trans hj0
              rw [hxc] at g9
              clear hxc
              rw [← HVV.out] at HCL
              clear q2
              go_wp2_with fail
              refine HCL.out.mono ?_
              rintro e w2 h2
              obtain ⟨rfl, hg2⟩ := h2.no
              have y0 := (Only.block hg2 (b := w.heap.size) (by omega) (by omega))
              have n0 := (World.cell?_of_block (w := wr) (a := ⟨w.heap.size, 0, none⟩) y0).trans g0
              have n1 := (World.cell?_of_block (w := wr) (a := ⟨w.heap.size, 1, none⟩) y0).trans g1
              have n2 := (World.cell?_of_block (w := wr) (a := ⟨w.heap.size, 2, none⟩) y0).trans g2
              have nz : ∀ o, w2.frozen? ⟨w.heap.size, o, none⟩ = false := fun o => (World.frozen?_of_block (w := wr) (a := ⟨w.heap.size, o, none⟩) y0).trans (g3 o)
              have hz2 : w.heap.size < w2.heap.size := by have := hg2.size; omega
              have HF : Hid (AlPost R (some ⟨b, o, none⟩) ns.length cap (tr ns i) res w (.returned (.tuple #[.agg #[.int .i64 0, .int .i64 0, .slice none 0 0], .bool false])) ((((w2.setCell ⟨w.heap.size, 0, none⟩ (.int .i64 0)).setCell ⟨w.heap.size, 1, none⟩ (.int .i64 0)).setCell ⟨w.heap.size, 2, none⟩ (.slice none 0 0)).alloc (.cells #[.int .i64 0, .int .i64 0, .slice none 0 0] 30))) := Lib.hid (by
                rw [HE.out]
                exact res_no w R _ _ _ _ (Only.after (Only.past (Only.after HGR.out hg2) (set3_only _ _ _ _) (Nat.le_refl _)) (Only.alloc _ _ _)))
              clear h2 hg2 y0 g0 g1 g2 g3 g4 g5 g6 g7 g8 g9
              go_wp2_with fail
              refine bodyPost_ret (v := .tuple #[.agg #[.int .i64 0, .int .i64 0, .slice none 0 0], .bool false]) (by simp [results, Try.results35, go_sem, n0, n1, n2, hz2]) rfl ?_
              exact HF.out
          | some l2 =>
            rw [hcr] at q3 HCL
            have hl2 : l2 ≤ 100 := by
              rw [cF_eq] at hcr
              split at hcr
              · injection hcr with hcr; omega
              · cases hcr
            rcases hcc with ⟨hj0, hxc⟩ | ⟨hj0, hxc⟩
            · obtain rfl : j = 0 := q2.symm.trans hj0
              rw [hxc] at g8
              clear hxc
              rw [← HVV.out] at HCL
              have HNX : Hid (∀ (k' n' : Int) (F' : Fo) (w2 : World) (x' : Option Addr) (c' : Nat), tr ns c = .cons k' n' F' .nil → SlIn w2 (fun b => wr.heap.size ≤ b ∧ b < w2.heap.size) F' x' c' → ArAt w2 R (some ⟨b, o, none⟩) ns.length cap l2 → wr.grownBy w2 (some R) → _) := Lib.hid (fun k' n' F' w2 x' c' t1 t2 t3 t4 => by
                rw [t1] at q1
                exact GtR.next hR (by rw [hj0]; omega) q1 q3 hl2 q5 q6 q7 q8 q10 t2 t3 t4)
              rw [hj0] at HNX
              clear q1 q2 q3 q4 q5 q6 q7 q8 q9 q10 hcr hwr
              go_wp2_with fail
              refine HCL.out.mono ?_
              rintro e w2 h2
              obtain ⟨k', n', F', x', c', t1, rfl, t2, t3, t4⟩ := h2.ok
              obtain ⟨n0, n1, g', cap', w3, hrun, n2, n3, hN⟩ := HNX.out k' n' F' w2 x' c' t1 t2 t3 t4
              have HRUN := Lib.hid hrun
              have HN := Lib.hid hN
              clear h2 t1 t2 t3 t4 hrun hN g0 g1 g2 g3 g4 g5 g6 g7 g8 g9 HNX
              go_wp2_with (at_builtin; refine wpList_append_run (by rfl) _ _ _ (by rfl) (by rfl) (by rfl) HRUN.out ?_)
              go_roundw
              case rel => first | exact ⟨0 + 1, _, by go_num, Lib.hid (by omega), HN⟩ | exact ⟨_, Lib.hid (by omega), HN⟩
              case measure => simp [intOf]
            · obtain rfl : j = 1 := q2.symm.trans hj0
              rw [hxc] at g9
              clear hxc
              rw [← HVV.out] at HCL
              have HNX : Hid (∀ (k' n' : Int) (F' : Fo) (w2 : World) (x' : Option Addr) (c' : Nat), tr ns c = .cons k' n' F' .nil → SlIn w2 (fun b => wr.heap.size ≤ b ∧ b < w2.heap.size) F' x' c' → ArAt w2 R (some ⟨b, o, none⟩) ns.length cap l2 → wr.grownBy w2 (some R) → _) := Lib.hid (fun k' n' F' w2 x' c' t1 t2 t3 t4 => by
                rw [t1] at q1
                exact GtR.next hR (by rw [hj0]; omega) q1 q3 hl2 q5 q6 q7 q8 q10 t2 t3 t4)
              rw [hj0] at HNX
              clear q1 q2 q3 q4 q5 q6 q7 q8 q9 q10 hcr hwr
              go_wp2_with fail
              refine HCL.out.mono ?_
              rintro e w2 h2
              obtain ⟨k', n', F', x', c', t1, rfl, t2, t3, t4⟩ := h2.ok
              obtain ⟨n0, n1, g', cap', w3, hrun, n2, n3, hN⟩ := HNX.out k' n' F' w2 x' c' t1 t2 t3 t4
              have HRUN := Lib.hid hrun
              have HN := Lib.hid hN
              clear h2 t1 t2 t3 t4 hrun hN g0 g1 g2 g3 g4 g5 g6 g7 g8 g9 HNX
              go_wp2_with (at_builtin; refine wpList_append_run (by rfl) _ _ _ (by rfl) (by rfl) (by rfl) HRUN.out ?_)
              go_roundw
              case rel => first | exact ⟨1 + 1, _, by go_num, Lib.hid (by omega), HN⟩ | exact ⟨_, Lib.hid (by omega), HN⟩
              case measure => simp [intOf]
        · have hK1 : ¬ (j : Int) < (nK x.k : Int) := by omega
          have dK : decide ((j : Int) < (nK x.k : Int)) = false := by simpa using hK1
          obtain ⟨G, rest, l', q1, q2, q3, q4, q5, q6, q7, q8, q9, q10⟩ := hG.out
          have hrest : rest = .nil := Fo.len_zero (by
            have h1 := HKL.out
            rw [q1, Fo.app_len] at h1
            have := hj.out
            omega)
          subst hrest
          rw [foApp_nil] at q1
          obtain ⟨xx, cc, rfl, hsl⟩ := q8.slice
          have HE : Hid (AlPost R (some ⟨b, o, none⟩) ns.length cap (tr ns i) res w (.returned (.tuple #[.agg #[.int .i64 x.k, .int .i64 x.n, .slice xx G.len cc], .bool true])) (((wr.setCell ⟨w.heap.size, 0, none⟩ (.int .i64 x.k)).setCell ⟨w.heap.size, 1, none⟩ (.int .i64 x.n)).setCell ⟨w.heap.size, 2, none⟩ (.slice xx G.len cc))) := Lib.hid (by
            rw [q3]
            have hRn : R ≠ w.heap.size := by omega
            refine ⟨Only.past q10 (set3_only _ _ _ _) (Nat.le_refl _), x.k, x.n, G, xx, cc, ?_, rfl, hsl.carry (set3_only _ _ _ _) (by omega) (by omega), ?_⟩
            · rw [HTR.out, q1]
            · exact (Only.block (set3_only (w := wr) w.heap.size _ _ _) (lt_of_block q9) hRn).trans q9)
          clear q1 q2 q3 q4 q5 q6 q7 q8 q9 q10 hsl
          go_wp2_with fail
          refine bodyPost_ret (v := .tuple #[.agg #[.int .i64 x.k, .int .i64 x.n, .slice xx G.len cc], .bool true]) (by simp [results, Try.results35, go_sem, g0, g1, g2]) rfl ?_
          exact HE.out
end Go.Proofs.Ytmbopdlmkbbbiaa
