/- The contract of copied: the term is made anew. No condition but that the term lies in memory, has no more than a thousand terms, and each no more than a thousand levels. -/
import Derived.Test.YtokckghedpdfiaaTcopl
import Derived.Test.YtokckghedpdfiaaTmix
namespace Go.Proofs.Ytokckghedpdfiaa
open Go.RowKit

/-- What stands in memory while the levels are made. -/
def TcR (w : World) (o : Obj) (OB B : Nat) (k n : Int) (G : Fo) (v : Value) (wr : World) : Prop :=
  wr.heap[w.heap.size]? = some o ∧ wr.heap[w.heap.size + 1]? = some (.cells #[.int .i64 0, .int .i64 0, .slice none 0 0, .slice none 0 0] 25 (0, 0)) ∧ wr.heap[OB]? = some (.cells #[.int .i64 k, .int .i64 n, v, .slice none 0 0] 25 (0, 0)) ∧ KsMix B (OB + 1) wr v G ∧ w.heap.size + 1 < OB ∧ B ≤ w.heap.size ∧ Below w.heap.size w wr
theorem TcR.facts {w : World} {ob : Obj} {OB B : Nat} {k n : Int} {G : Fo} {v : Value} {wr : World} (h : TcR w ob OB B k n G v wr) :
    wr.heap[w.heap.size]? = some ob ∧ wr.cell? ⟨OB, 2, none⟩ = some v ∧ (∀ o, wr.frozen? ⟨OB, o, none⟩ = false) ∧ OB < wr.heap.size ∧ Below w.heap.size w wr := by
  obtain ⟨h0, h1, h2, _, _, _, h6⟩ := h
  exact ⟨h0, cell_at h2 2, free_of h2, lt_of_block h2, h6⟩
theorem TcR.next {w : World} {ob : Obj} {OB B : Nat} {k n : Int} {G : Fo} {v : Value} {wr : World} (h : TcR w ob OB B k n G v wr) (hG : G.len ≤ 1000) {k' n' : Int} {F' : Fo} {w2 : World} {x' : Option Addr} {c' : Nat} (hs : SlIn w2 (fun b => (b < B ∨ wr.heap.size ≤ b) ∧ b < w2.heap.size) F' x' c') (hb : Below wr.heap.size wr w2) :
    w2.cell? ⟨OB, 2, none⟩ = some v ∧ OB < w2.heap.size ∧ ∃ g' cap' w3, (Builtin.append_ #[22, 22] 22 #[v, .slice (some ⟨w2.heap.size, 0, none⟩) 1 1]).run Try.prog (w2.alloc (.cells #[.int .i64 k', .int .i64 n', .slice x' F'.len c'] 33)) = .ok (.slice (some ⟨g', 0, none⟩) (G.len + 1) cap') w3 ∧
      w3.cell? ⟨OB, 2, none⟩ = some v ∧ (∀ o, w3.frozen? ⟨OB, o, none⟩ = false) ∧ TcR w ob OB B k n (G.app (.cons k' n' F' .nil)) (.slice (some ⟨g', 0, none⟩) (G.len + 1) cap') (w3.setCell ⟨OB, 2, none⟩ (.slice (some ⟨g', 0, none⟩) (G.len + 1) cap')) := by
  obtain ⟨h0, h1, h2, h3, h4, h5, h6⟩ := h
  have hlt := lt_of_block h2
  have e0 := (hb.block _ (lt_of_block h0)).trans h0
  have e1 := (hb.block _ (lt_of_block h1)).trans h1
  have e2 := (hb.block _ hlt).trans h2
  have hz := hb.size
  obtain ⟨g', cap', w3, hrun, k3, same, z3, o1, o2, o3⟩ := (h3.later hb).append k' n' (h3.fresh (by omega) (by omega) hs) 22 hG (by omega) (by omega)
  have nv : ∀ b, b ≤ OB → some b ≠ v.ownBlock := fun b hb e => by have := (h3.lt b e.symm).1; omega
  have f0 := (same _ (lt_of_block e0) (nv _ (by omega))).trans e0
  have f1 := (same _ (lt_of_block e1) (nv _ (by omega))).trans e1
  have f2 := (same _ (lt_of_block e2) (nv _ (by omega))).trans e2
  have n0 : w.heap.size ≠ OB := by omega
  have n1 : w.heap.size + 1 ≠ OB := by omega
  refine ⟨cell_at e2 2, lt_of_block e2, g', cap', w3, hrun, cell_at f2 2, free_of f2, (Below.heap_setCell _ _ _ _ n0).trans f0, (Below.heap_setCell _ _ _ _ n1).trans f1, heap_setCell_same w3 _ 2 _ _ _ f2, k3.setLow (by omega) (by omega) 2 _, h4, h5, ?_⟩
  refine ⟨(o1.trans hb.os).trans h6.os, (o2.trans hb.tape).trans h6.tape, (o3.trans hb.output).trans h6.output, ?_, fun q hq => ?_⟩
  · have := h6.size; simp; omega
  · have hq6 := h6.size
    have nq : q ≠ OB := by omega
    rw [Below.heap_setCell _ _ _ _ nq, same q (by omega) (nv q (by omega)), hb.block q (by omega)]
    exact h6.block q hq
theorem TcR.start {w : World} {k n : Int} {B : Nat} (o1 : Obj) (hB : B ≤ w.heap.size) :
    TcR w o1 (w.heap.size + 1 + 1) B k n .nil (.slice none 0 0) (((w.alloc o1).alloc (.cells #[.int .i64 0, .int .i64 0, .slice none 0 0, .slice none 0 0] 25)).alloc (.cells #[.int .i64 k, .int .i64 n, .slice none 0 0, .slice none 0 0] 25)) := by
  refine ⟨(heap_old _ _ (by simp; omega)).trans ((heap_old _ _ (by simp)).trans (heap_new _ _)), (heap_old _ _ (by simp)).trans (heap_second _ _ _), ?_, KsMix.nil _ _ _, by omega, hB, (((Below.refl _ _).alloc (Nat.le_refl _) _).alloc (by simp) _).alloc (by simp; omega) _⟩
  have := heap_second (w.alloc o1) (.cells #[.int .i64 0, .int .i64 0, .slice none 0 0, .slice none 0 0] 25) (.cells #[.int .i64 k, .int .i64 n, .slice none 0 0, .slice none 0 0] 25)
  simpa using this
/-- What stands in memory while the Kids are made: the levels lie ahead of lo. -/
def TcK (w : World) (o : Obj) (OB lo B : Nat) (k n : Int) (L : Fo) (x : Option Addr) (c : Nat) (G : Ft) (v : Value) (wr : World) : Prop :=
  wr.heap[w.heap.size]? = some o ∧ wr.heap[w.heap.size + 1]? = some (.cells #[.int .i64 0, .int .i64 0, .slice none 0 0, .slice none 0 0] 25 (0, 0)) ∧ wr.heap[OB]? = some (.cells #[.int .i64 k, .int .i64 n, .slice x L.len c, v] 25 (0, 0)) ∧ SlIn wr (fun b => (b < B ∨ OB < b) ∧ b < lo) L x c ∧ TsMix B lo wr v G ∧ (w.heap.size + 1 < OB ∧ OB < lo ∧ lo ≤ wr.heap.size) ∧ B ≤ w.heap.size ∧ Below w.heap.size w wr
theorem TcR.kids {w : World} {ob : Obj} {OB B : Nat} {k n : Int} {G : Fo} {v : Value} {wr : World} (h : TcR w ob OB B k n G v wr) : ∃ x c, v = .slice x G.len c ∧ TcK w ob OB wr.heap.size B k n G x c .nil (.slice none 0 0) wr := by
  obtain ⟨h0, h1, h2, h3, h4, h5, h6⟩ := h
  obtain ⟨x, c, rfl, hsl⟩ := h3.slice
  exact ⟨x, c, rfl, h0, h1, h2, hsl.weak (fun b hb => ⟨by omega, hb.2⟩), TsMix.nil _ _ _, ⟨h4, lt_of_block h2, Nat.le_refl _⟩, h5, h6⟩
theorem TcK.facts {w : World} {ob : Obj} {OB lo B : Nat} {k n : Int} {L : Fo} {x : Option Addr} {c : Nat} {G : Ft} {v : Value} {wr : World} (h : TcK w ob OB lo B k n L x c G v wr) :
    wr.heap[w.heap.size]? = some ob ∧ (wr.cell? ⟨w.heap.size + 1, 0, none⟩ = some (.int .i64 0) ∧ wr.cell? ⟨w.heap.size + 1, 1, none⟩ = some (.int .i64 0) ∧ wr.cell? ⟨w.heap.size + 1, 2, none⟩ = some (.slice none 0 0) ∧ wr.cell? ⟨w.heap.size + 1, 3, none⟩ = some (.slice none 0 0) ∧ (∀ o, wr.frozen? ⟨w.heap.size + 1, o, none⟩ = false)) ∧
    (wr.cell? ⟨OB, 0, none⟩ = some (.int .i64 k) ∧ wr.cell? ⟨OB, 1, none⟩ = some (.int .i64 n) ∧ wr.cell? ⟨OB, 2, none⟩ = some (.slice x L.len c) ∧ wr.cell? ⟨OB, 3, none⟩ = some v ∧ (∀ o, wr.frozen? ⟨OB, o, none⟩ = false)) ∧ OB < wr.heap.size ∧ Below w.heap.size w wr := by
  obtain ⟨h0, h1, h2, _, _, _, _, h6⟩ := h
  exact ⟨h0, ⟨cell_at h1 0, cell_at h1 1, cell_at h1 2, cell_at h1 3, free_of h1⟩, ⟨cell_at h2 0, cell_at h2 1, cell_at h2 2, cell_at h2 3, free_of h2⟩, lt_of_block h2, h6⟩
theorem TcK.next {w : World} {ob : Obj} {OB lo B : Nat} {k n : Int} {L : Fo} {x : Option Addr} {c : Nat} {G : Ft} {v : Value} {wr : World} (h : TcK w ob OB lo B k n L x c G v wr) (hG : G.len ≤ 1000) {T : Tm} {w2 : World} {x1 x2 : Option Addr} {c1 c2 : Nat}
    (hl : SlIn w2 (fun b => (b < B ∨ wr.heap.size ≤ b) ∧ b < w2.heap.size) T.ls x1 c1) (hs : TlIn w2 (fun b => (b < B ∨ wr.heap.size ≤ b) ∧ b < w2.heap.size) T.ks x2 c2) (hb : Below wr.heap.size wr w2) :
    w2.cell? ⟨OB, 3, none⟩ = some v ∧ OB < w2.heap.size ∧ ∃ g' cap' w3, (Builtin.append_ #[23, 23] 23 #[v, .slice (some ⟨w2.heap.size, 0, none⟩) 1 1]).run Try.prog (w2.alloc (.cells #[.int .i64 T.k, .int .i64 T.n, .slice x1 T.ls.len c1, .slice x2 T.ks.len c2] 25)) = .ok (.slice (some ⟨g', 0, none⟩) (G.len + 1) cap') w3 ∧
      w3.cell? ⟨OB, 3, none⟩ = some v ∧ (∀ o, w3.frozen? ⟨OB, o, none⟩ = false) ∧ TcK w ob OB lo B k n L x c (G.app T.one) (.slice (some ⟨g', 0, none⟩) (G.len + 1) cap') (w3.setCell ⟨OB, 3, none⟩ (.slice (some ⟨g', 0, none⟩) (G.len + 1) cap')) := by
  obtain ⟨h0, h1, h2, hL, h3, ⟨h4, h4', h4''⟩, h5, h6⟩ := h
  have hlt := lt_of_block h2
  have e0 := (hb.block _ (lt_of_block h0)).trans h0
  have e1 := (hb.block _ (lt_of_block h1)).trans h1
  have e2 := (hb.block _ hlt).trans h2
  have hz := hb.size
  have hM : ∀ b, (b < B ∨ wr.heap.size ≤ b) ∧ b < w2.heap.size → Mx B lo w2 v b := fun b hb' => h3.out (by omega) (by omega) hb'
  obtain ⟨g', cap', w3, hrun, k3, same, z3, o1, o2, o3⟩ := (h3.later hb).append T.k T.n (hl.weak hM) (hs.weak hM) 23 hG (by omega)
  have nv : ∀ b, b < lo → some b ≠ v.ownBlock := fun b hb e => by have := (h3.lt b e.symm).1; omega
  have f0 := (same _ (lt_of_block e0) (nv _ (by omega))).trans e0
  have f1 := (same _ (lt_of_block e1) (nv _ (by omega))).trans e1
  have f2 := (same _ (lt_of_block e2) (nv _ (by omega))).trans e2
  have n0 : w.heap.size ≠ OB := by omega
  have n1 : w.heap.size + 1 ≠ OB := by omega
  have hq6 := h6.size
  refine ⟨cell_at e2 3, lt_of_block e2, g', cap', w3, hrun, cell_at f2 3, free_of f2, (Below.heap_setCell _ _ _ _ n0).trans f0, (Below.heap_setCell _ _ _ _ n1).trans f1, heap_setCell_same w3 _ 3 _ _ _ f2, ?_, k3.setLow (by omega) (by omega) 3 _, ⟨h4, h4', by simp; omega⟩, h5, ?_⟩
  · refine hL.keep (fun b hb' => ?_)
    have nb : b ≠ OB := by omega
    rw [Below.heap_setCell _ _ _ _ nb, same b (by omega) (nv b hb'.2), hb.block b (by omega)]
  · refine ⟨(o1.trans hb.os).trans h6.os, (o2.trans hb.tape).trans h6.tape, (o3.trans hb.output).trans h6.output, by simp; omega, fun q hq => ?_⟩
    have nq : q ≠ OB := by omega
    rw [Below.heap_setCell _ _ _ _ nq, same q (by omega) (nv q (by omega)), hb.block q (by omega)]
    exact h6.block q hq
theorem TcK.done {w : World} {ob : Obj} {OB lo B : Nat} {k n : Int} {L : Fo} {x : Option Addr} {c : Nat} {G : Ft} {v : Value} {wr : World} (h : TcK w ob OB lo B k n L x c G v wr) : ∃ y d, v = .slice y G.len d ∧
    TmPost B ⟨k, n, L, G⟩ w (.returned (.agg #[.int .i64 k, .int .i64 n, .slice x L.len c, .slice y G.len d])) ((((wr.setCell ⟨w.heap.size + 1, 0, none⟩ (.int .i64 k)).setCell ⟨w.heap.size + 1, 1, none⟩ (.int .i64 n)).setCell ⟨w.heap.size + 1, 2, none⟩ (.slice x L.len c)).setCell ⟨w.heap.size + 1, 3, none⟩ (.slice y G.len d)) := by
  obtain ⟨h0, h1, h2, hL, h3, ⟨h4, h4', h4''⟩, h5, h6⟩ := h
  obtain ⟨y, d, rfl, hsl⟩ := h3.slice
  have hg := set4_only (w := wr) (w.heap.size + 1) (.int .i64 k) (.int .i64 n) (.slice x L.len c) (.slice y G.len d)
  have hz := h6.size
  have hgz := hg.size
  refine ⟨y, d, rfl, x, c, y, d, rfl, ?_, ?_, ?_⟩
  · exact (hL.keep (fun b hb => Only.block hg (by omega) (by omega))).weak (fun b hb => ⟨by omega, by omega⟩)
  · exact hsl.turn (fun b hb => Only.block hg hb.2 (by omega)) (fun b hb => ⟨by omega, by omega⟩)
  · exact ⟨hg.os.trans h6.os, hg.tape.trans h6.tape, hg.output.trans h6.output, Nat.le_trans h6.size hg.size, fun q hq => (Only.block hg (by omega) (by omega)).trans (h6.block q hq)⟩

set_option maxRecDepth 100000 in
set_option maxHeartbeats 8000000 in
theorem tcop_any (s : Nat) : ∀ (f : Ft), f.size < s → f.size ≤ 1000 → f.lvsz 1000 → ∀ (k n : Int) (ls : Fo) (la ka : Option Addr) (lc kc B : Nat) (w : World), ls.size ≤ 1000 → SlIn w (· < B) ls la lc → TlIn w (· < B) f ka kc → B ≤ w.heap.size →
    Calls Try.prog 50 #[.agg #[.int .i64 k, .int .i64 n, .slice la ls.len lc, .slice ka f.len kc]] w (TmPost 0 ⟨k, n, ls, f⟩ w) := by
  induction s with
  | zero => intro f hs; omega
  | succ s ih =>
    intro f hs hsz hlv k n ls la ka lc kc B w hlz hls hsl hB
    have IH := Lib.hid ih
    clear ih
    have hlen := hsl.len
    have hlen2 := hls.len
    have HSL := Lib.hid hsl
    have HLS := Lib.hid hls
    have HS := Lib.hid (TcR.start (w := w) (k := k) (n := n) (.cells #[.int .i64 k, .int .i64 n, .slice la ls.len lc, .slice ka f.len kc] 25) (Nat.zero_le _))
    clear hsl hls
    go_enter Try.func50, Try.ntmps50
    go_wp2_with fail
    go_loopw [16] (fun jv wr => ∃ (j : Nat) (G rest : Fo) (v : Value), jv = .int .i64 j ∧ Hid (ls = G.app rest) ∧ Hid (G.len = j) ∧ Hid (TcR w (.cells #[.int .i64 k, .int .i64 n, .slice la ls.len lc, .slice ka f.len kc] 25) (w.heap.size + 1 + 1) 0 k n G v wr)) (fun jv _ => ls.len - (intOf jv).toNat)
    case atStart => exact ⟨0, .nil, ls, _, rfl, Lib.hid rfl, Lib.hid rfl, HS⟩
    case round =>
      obtain ⟨j, G, rest, v, rfl, hf, hj, hR⟩ := hrel
      obtain ⟨hbox, q2, qz, hob, hwr⟩ := hR.out.facts
      cases rest with
      | nil =>
        have hjl : ¬ (j : Int) < (ls.len : Int) := by rw [hf.out, foApp_nil2, hj.out]; omega
        have dj : decide ((j : Int) < (ls.len : Int)) = false := by simpa using hjl
        obtain ⟨x, c, rfl, hK⟩ := hR.out.kids
        have HG : Hid (ls = G) := Lib.hid (by rw [hf.out, foApp_nil2])
        have HK := Lib.hid hK
        have c3 := (cells4 hbox).2.2.2
        have W1 : ∃ W, W = wr := ⟨_, rfl⟩
        obtain ⟨W, hW⟩ := W1
        rw [← hW] at c3 HK q2 qz hob hwr hbox ⊢
        clear hK hR hf hj hW hbox
        go_wp2_with fail
        go_loopw [31] (fun jv wr => ∃ (j : Nat) (H rest : Ft) (v : Value), jv = .int .i64 j ∧ Hid (f = H.app rest) ∧ Hid (H.len = j) ∧ Hid (TcK w (.cells #[.int .i64 k, .int .i64 n, .slice la ls.len lc, .slice ka f.len kc] 25) (w.heap.size + 1 + 1) W.heap.size 0 k n G x c H v wr)) (fun jv _ => f.len - (intOf jv).toNat)
        case atStart => exact ⟨0, .nil, f, _, rfl, Lib.hid rfl, Lib.hid rfl, HK⟩
        case round =>
          clear c3 q2 qz hob hwr
          obtain ⟨j, H, rest, v, rfl, hf, hj, hR⟩ := hrel
          obtain ⟨hbox, ⟨g0, g1, g2, g3, gz⟩, ⟨q0, q1, q2, q3, qz⟩, hob, hwr⟩ := hR.out.facts
          cases rest with
          | nil =>
            have hjl' : ¬ (j : Int) < (f.len : Int) := by rw [hf.out, Ft.app_nil, hj.out]; omega
            have dj' : decide ((j : Int) < (f.len : Int)) = false := by simpa using hjl'
            obtain ⟨y, d, rfl, hE⟩ := hR.out.done
            have HE := Lib.hid hE
            have HF : Hid (f = H) := Lib.hid (by rw [hf.out, Ft.app_nil])
            clear hE hR hf hbox
            go_wp2_with fail
            refine bodyPost_ret (v := .agg #[.int .i64 k, .int .i64 n, .slice x G.len c, .slice y H.len d]) (by simp [results, Try.results50, go_sem, g0, g1, g2, g3]) rfl ?_
            rw [HF.out, HG.out]
            exact HE.out
          | cons k' n' ls' ks r' =>
            have hjn : j < f.len := by rw [hf.out, Ft.app_len, hj.out]; simp [Ft.len]
            have hjl2 : (j : Int) < (f.len : Int) := by omega
            obtain ⟨bq, o, rfl, hbB, hf0⟩ := HSL.out.some (by omega)
            have hfa : FtIn w (· < B) (.cons k' n' ls' ks r') bq (o + j * 4) := by
              have h1 := hf0
              rw [hf.out] at h1
              rw [← hj.out]
              exact FtIn.behind H _ bq o h1
            obtain ⟨e0, e1, ⟨la', lc', e2, hls'⟩, ⟨ka', kc', e3, hsl'⟩, _⟩ := (hfa.below (hwr.mono hB) _ _ _ hbB).first
            have hfs : f.size = H.size + (ks.size + r'.size + 1) := by rw [hf.out, Ft.app_size]; rfl
            have hks : ks.size < s := by omega
            have hlv' : ls'.size ≤ 1000 ∧ ks.lvsz 1000 := by
              have h1 := hlv
              rw [hf.out, Ft.lvsz_app] at h1
              exact ⟨h1.2.1, h1.2.2.1⟩
            have hBr : B ≤ wr.heap.size := Nat.le_trans hB hwr.size
            have hbk : Below wr.heap.size wr (wr.alloc (.cells #[.int .i64 k', .int .i64 n', .slice la' ls'.len lc', .slice ka' ks.len kc'] 25)).drew := ((Below.refl _ _).alloc (Nat.le_refl _) _).drew
            have HC : Hid (Calls Try.prog 50 #[.agg #[.int .i64 k', .int .i64 n', .slice la' ls'.len lc', .slice ka' ks.len kc']] (wr.alloc (.cells #[.int .i64 k', .int .i64 n', .slice la' ls'.len lc', .slice ka' ks.len kc'] 25)).drew (TmPost 0 ⟨k', n', ls', ks⟩ (wr.alloc (.cells #[.int .i64 k', .int .i64 n', .slice la' ls'.len lc', .slice ka' ks.len kc'] 25)).drew)) :=
              Lib.hid (IH.out ks hks (by omega) hlv'.2 k' n' ls' la' ka' lc' kc' B _ hlv'.1 (hls'.below (hbk.mono hBr)) (hsl'.below (hbk.mono hBr)) (Nat.le_trans hBr hbk.size))
            have HAP : Hid (∀ (e : Ending) (w2 : World), TmPost 0 ⟨k', n', ls', ks⟩ (wr.alloc (.cells #[.int .i64 k', .int .i64 n', .slice la' ls'.len lc', .slice ka' ks.len kc'] 25)).drew e w2 → ∃ (x1 : Option Addr) (y1 : Nat) (x2 : Option Addr) (y2 : Nat), e = .returned (.agg #[.int .i64 k', .int .i64 n', .slice x1 ls'.len y1, .slice x2 ks.len y2]) ∧
                w2.cell? ⟨w.heap.size + 1 + 1, 3, none⟩ = some v ∧ w.heap.size + 1 + 1 < w2.heap.size ∧ (w2.alloc (.cells #[.int .i64 k', .int .i64 n', .slice x1 ls'.len y1, .slice x2 ks.len y2] 25)).cell? ⟨w.heap.size + 1 + 1, 3, none⟩ = some v ∧
                ∃ g' cap' w3, Hid ((Builtin.append_ #[23, 23] 23 #[v, .slice (some ⟨w2.heap.size, 0, none⟩) 1 1]).run Try.prog (w2.alloc (.cells #[.int .i64 k', .int .i64 n', .slice x1 ls'.len y1, .slice x2 ks.len y2] 25)) = .ok (.slice (some ⟨g', 0, none⟩) (j + 1) cap') w3) ∧
                  w3.cell? ⟨w.heap.size + 1 + 1, 3, none⟩ = some v ∧ (∀ o, w3.frozen? ⟨w.heap.size + 1 + 1, o, none⟩ = false) ∧ Hid (TcK w (.cells #[.int .i64 k, .int .i64 n, .slice la ls.len lc, .slice (some ⟨bq, o, none⟩) f.len kc] 25) (w.heap.size + 1 + 1) W.heap.size 0 k n G x c (H.app (.cons k' n' ls' ks .nil)) (.slice (some ⟨g', 0, none⟩) (j + 1) cap') (w3.setCell ⟨w.heap.size + 1 + 1, 3, none⟩ (.slice (some ⟨g', 0, none⟩) (j + 1) cap')))) := Lib.hid (by
              rintro e w2 ⟨x1, y1, x2, y2, rfl, t0, t1, t2⟩
              have hG1 : H.len ≤ 1000 := by have h1 := Ft.len_le_size H; omega
              have hP : ∀ q, (q < 0 ∨ (wr.alloc (.cells #[.int .i64 k', .int .i64 n', .slice la' ls'.len lc', .slice ka' ks.len kc'] 25)).drew.heap.size ≤ q) ∧ q < w2.heap.size → (q < 0 ∨ wr.heap.size ≤ q) ∧ q < w2.heap.size := fun q hq => ⟨by have h1 := hq.1; simp at h1; omega, hq.2⟩
              have t4 : Below wr.heap.size wr w2 := Below.trans (((Below.refl _ _).alloc (Nat.le_refl _) _).drew) (t2.mono (by simp))
              obtain ⟨L2, hlb2, g', cap', w3, hrun, L3, Z3, hN⟩ := TcK.next (T := ⟨k', n', ls', ks⟩) hR.out hG1 (t0.weak hP) (t1.weak hP) t4
              rw [hj.out] at hrun hN
              exact ⟨x1, y1, x2, y2, rfl, L2, hlb2, (World.cell?_of_block (w := w2) (a := ⟨w.heap.size + 1 + 1, 3, none⟩) (heap_old w2 _ hlb2)).trans L2, g', cap', w3, Lib.hid hrun, L3, Z3, Lib.hid hN⟩)
            have HSN : Hid (f = (H.app (.cons k' n' ls' ks .nil)).app r') := Lib.hid (by rw [hf.out, Ft.app_assoc]; rfl)
            have HJ := Lib.hid hj.out
            clear hf hR hfa hf0 g0 g1 g2 g3 gz q0 q1 q2 qz hbk hls' hsl' hlv' hfs hbox
            go_wp2_with fail
            go_region_law (first
              | (refine step_append (by rfl) _ _ _ (by rfl) (by rfl) (by rfl) HRUN.out ?_)
              | (go_simp; go_at_call 50; refine HC.out.mono ?_; intro e w2 hP; obtain ⟨x1, y1, x2, y2, rfl, L2, hlb2, L2a, g', cap', w3, HRUN, L3, Z3, HN⟩ := HAP.out e w2 hP; clear hP))
            all_goals
              go_wp2_with fail
              go_roundw
              case rel => exact ⟨j + 1, _, r', _, by go_num, HSN, Lib.hid (by rw [Ft.app_len, HJ.out]; rfl), HN⟩
              case measure => simp [intOf]; omega
      | cons k' n' ks r' =>
        have hjn : j < ls.len := by rw [hf.out, Fo.app_len, hj.out]; simp [Fo.len]
        have hjl : (j : Int) < (ls.len : Int) := by omega
        obtain ⟨b, o, rfl, hbB, hf0⟩ := HLS.out.some (by omega)
        have hfa : FoIn w (· < B) (.cons k' n' ks r') b (o + j * 3) := by
          have h1 := hf0
          rw [hf.out] at h1
          rw [← hj.out]
          exact FoIn.behind2 G _ b o h1
        obtain ⟨e0, e1, ⟨a', cap', e2, hsl'⟩, _⟩ := (hfa.below (hwr.mono hB) _ _ _ hbB).first
        have hfs : ls.size = G.size + (ks.size + r'.size + 1) := by rw [hf.out, Fo.app_size]; rfl
        have hBr : B ≤ wr.heap.size := Nat.le_trans hB hwr.size
        have hbk : Below wr.heap.size wr (wr.alloc (.cells #[.int .i64 k', .int .i64 n', .slice a' ks.len cap'] 33)).drew := ((Below.refl _ _).alloc (Nat.le_refl _) _).drew
        have HC : Hid (Calls Try.prog 57 #[.agg #[.int .i64 k', .int .i64 n', .slice a' ks.len cap']] (wr.alloc (.cells #[.int .i64 k', .int .i64 n', .slice a' ks.len cap'] 33)).drew (RpPost 0 (.cons k' n' ks .nil) (wr.alloc (.cells #[.int .i64 k', .int .i64 n', .slice a' ks.len cap'] 33)).drew)) :=
          Lib.hid (tcopl_any (ks.size + 1) ks (Nat.lt_succ_self _) (by omega) k' n' a' cap' B _ (hsl'.below (hbk.mono hBr)) (Nat.le_trans hBr hbk.size))
        have HAP : Hid (∀ (e : Ending) (w2 : World), RpPost 0 (.cons k' n' ks .nil) (wr.alloc (.cells #[.int .i64 k', .int .i64 n', .slice a' ks.len cap'] 33)).drew e w2 → ∃ (x2 : Option Addr) (c2 : Nat), e = .returned (.agg #[.int .i64 k', .int .i64 n', .slice x2 ks.len c2]) ∧
            w2.cell? ⟨w.heap.size + 1 + 1, 2, none⟩ = some v ∧ w.heap.size + 1 + 1 < w2.heap.size ∧ (w2.alloc (.cells #[.int .i64 k', .int .i64 n', .slice x2 ks.len c2] 33)).cell? ⟨w.heap.size + 1 + 1, 2, none⟩ = some v ∧
            ∃ g' cap' w3, Hid ((Builtin.append_ #[22, 22] 22 #[v, .slice (some ⟨w2.heap.size, 0, none⟩) 1 1]).run Try.prog (w2.alloc (.cells #[.int .i64 k', .int .i64 n', .slice x2 ks.len c2] 33)) = .ok (.slice (some ⟨g', 0, none⟩) (j + 1) cap') w3) ∧
              w3.cell? ⟨w.heap.size + 1 + 1, 2, none⟩ = some v ∧ (∀ o, w3.frozen? ⟨w.heap.size + 1 + 1, o, none⟩ = false) ∧ Hid (TcR w (.cells #[.int .i64 k, .int .i64 n, .slice (some ⟨b, o, none⟩) ls.len lc, .slice ka f.len kc] 25) (w.heap.size + 1 + 1) 0 k n (G.app (.cons k' n' ks .nil)) (.slice (some ⟨g', 0, none⟩) (j + 1) cap') (w3.setCell ⟨w.heap.size + 1 + 1, 2, none⟩ (.slice (some ⟨g', 0, none⟩) (j + 1) cap')))) := Lib.hid (by
          rintro e w2 ⟨k2, n2, F2, x2, c2, hT, rfl, t1, t2⟩
          obtain ⟨rfl, rfl, rfl⟩ := one_eq2 hT
          have hG1 : G.len ≤ 1000 := by have h1 := Fo.len_le_size G; omega
          have t3 : SlIn w2 (fun b => (b < 0 ∨ wr.heap.size ≤ b) ∧ b < w2.heap.size) ks x2 c2 := t1.weak (fun b hb => ⟨by have h1 := hb.1; simp at h1; omega, hb.2⟩)
          have t4 : Below wr.heap.size wr w2 := Below.trans (((Below.refl _ _).alloc (Nat.le_refl _) _).drew) (t2.mono (by simp))
          obtain ⟨L2, hlb2, g', cap', w3, hrun, L3, Z3, hN⟩ := TcR.next (k' := k') (n' := n') hR.out hG1 t3 t4
          rw [hj.out] at hrun hN
          exact ⟨x2, c2, rfl, L2, hlb2, (World.cell?_of_block (w := w2) (a := ⟨w.heap.size + 1 + 1, 2, none⟩) (heap_old w2 _ hlb2)).trans L2, g', cap', w3, Lib.hid hrun, L3, Z3, Lib.hid hN⟩)
        have HSN : Hid (ls = (G.app (.cons k' n' ks .nil)).app r') := Lib.hid (by rw [hf.out, foApp_assoc2]; rfl)
        have HJ := Lib.hid hj.out
        clear hf hR hfa hf0 qz hbk hsl' hfs hbox
        go_wp2_with fail
        go_region_law (first
          | (refine step_append (by rfl) _ _ _ (by rfl) (by rfl) (by rfl) HRUN.out ?_)
          | (go_simp; go_at_call 57; refine HC.out.mono ?_; intro e w2 hP; obtain ⟨x2, c2, rfl, L2, hlb2, L2a, g', cap', w3, HRUN, L3, Z3, HN⟩ := HAP.out e w2 hP; clear hP))
        all_goals
          go_wp2_with fail
          go_roundw
          case rel => exact ⟨j + 1, _, r', _, by go_num, HSN, Lib.hid (by rw [Fo.app_len, HJ.out]; rfl), HN⟩
          case measure => simp [intOf]; omega
end Go.Proofs.Ytokckghedpdfiaa
