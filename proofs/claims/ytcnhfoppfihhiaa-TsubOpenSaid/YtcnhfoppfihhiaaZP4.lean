/- The law's own first question: what any right program answers of its sample calls. The conditions: what the program's Sub, Metas and Consts answer (QSubC, QMetC, QConC). -/
import Derived.Test.YtcnhfoppfihhiaaZP3
import Derived.Test.YtcnhfoppfihhiaaZP1
import Derived.Test.YtcnhfoppfihhiaaSsub2
import Derived.Test.YtcnhfoppfihhiaaR5sub3
namespace Go.Proofs.Ytcnhfoppfihhiaa
open Go.RowKit

def mS (i : Int) : Tm := sortT 6 i .nil
def zS : Tm := sortT 1 0 .nil
def qT : Tm := ⟨6, 0, .nil, (mS 0).to ((mS 1).to .nil)⟩
def qR : Tm := ⟨6, 0, .nil, zS.to ((mS 1).to .nil)⟩
def qC : Tm := ⟨3, 2, .nil, .nil⟩
def qP : Tm := ⟨4, 0, .nil, qC.to (qC.to .nil)⟩
theorem qaw1 : qA .nil (.cons 1 0 .nil .nil) qT = (qR, 0) := by decide +kernel
theorem qaw2 : qA .nil .nil tZ = (tZ, 1) := by decide +kernel
theorem qaw3 : qT.mets = [0, 1] := by decide +kernel
theorem qaw4 : qP.cons = [2] := by decide +kernel
theorem qaw5 : qT.sh = true := by decide +kernel
theorem qaw6 : qP.sh = true := by decide +kernel
set_option maxRecDepth 100000 in
set_option maxHeartbeats 1000000 in
theorem meta15_any (n : Int) (w : World) : Calls Try.prog 15 #[.int .i64 n] w fun e w' => e = .returned (.agg #[.int .i64 6, .int .i64 n, .slice none 0 0]) ∧ Below w.heap.size w w' := by
  go_enter Try.func15, Try.ntmps15
  go_wp2_with fail
  refine bodyPost_ret (v := .agg #[.int .i64 6, .int .i64 n, .slice none 0 0]) (by simp [results, Try.results15, go_sem]) rfl ?_
  exact ⟨rfl, (Below.refl _ _).alloc (Nat.le_refl _) _⟩
/-- A Sort of a level without Kids, made by the law. -/
theorem sort_at (k n : Int) (s : Tm) (hs : sortT k n .nil = s) (W : World) : Calls Try.prog 11 #[.agg #[.int .i64 k, .int .i64 n, .slice none 0 0]] W fun e w' => ∃ la lc ka kc, e = .returned (.agg #[.int .i64 s.k, .int .i64 s.n, .slice la s.ls.len lc, .slice ka s.ks.len kc]) ∧ TmIn w' w'.heap.size s la lc ka kc ∧ Below W.heap.size W w' := by
  subst hs
  refine (tSort_any k n .nil none 0 0 W (SlIn.none _ _) (Nat.zero_le _)).mono ?_
  rintro e w' ⟨la, lc, ka, kc, rfl, h1, h2, hb⟩
  exact ⟨la, lc, ka, kc, rfl, ⟨h1.weak (fun _ h => h.2), h2.weak (fun _ h => h.2), Nat.le_refl _⟩, hb⟩
/-- Two terms that the law writes out itself, in the block N. -/
def Lt2 (W : World) (N : Nat) (F : Ft) : Prop := TlIn W (· < N + 1) F (some ⟨N, 0, none⟩) 2 ∧ N < W.heap.size
theorem Lt2.later {W W' : World} {N : Nat} {F : Ft} (h : Lt2 W N F) (hb : Below W.heap.size W W') : Lt2 W' N F := ⟨h.1.below (hb.mono h.2), Nat.lt_of_lt_of_le h.2 hb.size⟩
theorem Lt2.new {W : World} {N M : Nat} {s t : Tm} {la ka lb kb : Option Addr} {lc kc ld kd : Nat} (h : TmIn W N s la lc ka kc) (h' : TmIn W M t lb ld kb kd) :
    Lt2 (W.alloc (.cells #[.int .i64 s.k, .int .i64 s.n, .slice la s.ls.len lc, .slice ka s.ks.len kc, .int .i64 t.k, .int .i64 t.n, .slice lb t.ls.len ld, .slice kb t.ks.len kd] 29)) W.heap.size (s.to (t.to .nil)) := by
  have hb : Below W.heap.size W (W.alloc (.cells #[.int .i64 s.k, .int .i64 s.n, .slice la s.ls.len lc, .slice ka s.ks.len kc, .int .i64 t.k, .int .i64 t.n, .slice lb t.ls.len ld, .slice kb t.ks.len kd] 29)) := (Below.refl _ _).alloc (Nat.le_refl _) _
  have h2 := heap_new W (.cells #[.int .i64 s.k, .int .i64 s.n, .slice la s.ls.len lc, .slice ka s.ks.len kc, .int .i64 t.k, .int .i64 t.n, .slice lb t.ls.len ld, .slice kb t.ks.len kd] 29)
  have e : ∀ x, x ≤ W.heap.size → x ≤ W.heap.size + 1 := fun x h => by omega
  exact ⟨TlIn.mk (Nat.le_refl _) (by omega) (Nat.lt_succ_self _) (FtIn.push (cell_at h2 0) (cell_at h2 1) (cell_at h2 2) ((h.1.below (hb.mono h.2.2)).mono (e _ h.2.2)) (cell_at h2 3) ((h.2.1.below (hb.mono h.2.2)).mono (e _ h.2.2)) (FtIn.push (cell_at h2 4) (cell_at h2 5) (cell_at h2 6) ((h'.1.below (hb.mono h'.2.2)).mono (e _ h'.2.2)) (cell_at h2 7) ((h'.2.1.below (hb.mono h'.2.2)).mono (e _ h'.2.2)) trivial)), by simp⟩
theorem qC_in (W : World) : TmIn W W.heap.size qC none 0 none 0 := ⟨SlIn.none _ _, TlIn.none _ _, Nat.le_refl _⟩
/-- A row of numbers in memory. -/
def InI (W : World) (zs : List Int) (x : Option Addr) (c : Nat) : Prop := IntsIn W (· < W.heap.size) zs x c
theorem InI.later {W W' : World} {zs : List Int} {x : Option Addr} {c : Nat} (h : InI W zs x c) (hb : Below W.heap.size W W') : InI W' zs x c := (IntsIn.below hb h).weak (fun _ hx => Nat.lt_of_lt_of_le hx hb.size)
theorem InI.two (W : World) (i j : Int) : InI (W.alloc (.cells #[.int .i64 i, .int .i64 j] 3)) [i, j] (some ⟨W.heap.size, 0, none⟩) 2 := by
  have h := heap_new W (.cells #[.int .i64 i, .int .i64 j] 3)
  exact IntsIn.mk (Nat.le_refl _) (by omega) (by simp) (fun k hk => by
    have : k = 0 ∨ k = 1 := by simp at hk; omega
    rcases this with rfl | rfl
    · exact cell_at h 0
    · exact cell_at h 1)
theorem InI.one (W : World) (i : Int) : InI (W.alloc (.cells #[.int .i64 i] 3)) [i] (some ⟨W.heap.size, 0, none⟩) 1 := by
  have h := heap_new W (.cells #[.int .i64 i] 3)
  exact IntsIn.mk (Nat.le_refl _) (by omega) (by simp) (fun k hk => by
    have : k = 0 := by simp at hk; omega
    subst this
    exact cell_at h 0)
theorem InI.same {W : World} {zs : List Int} {x y : Option Addr} {c d : Nat} (h : InI W zs x c) (k : InI W zs y d) : Calls Try.prog 16 #[.slice x zs.length c, .slice y zs.length d] W fun e w' => e = .returned (.bool true) ∧ Below W.heap.size W w' := ints8_yes h (Nat.le_refl _) k (Nat.le_refl _)

set_option maxRecDepth 100000 in
set_option maxHeartbeats 16000000 in
theorem awake15_any (hS : QSubC) (hM : QMetC) (hC : QConC) (w : World) : Calls Try.prog 6 #[] w fun e w' => e = .returned (.bool true) ∧ Below w.heap.size w w' ∧ 1 ≤ w'.heap.size := by
  obtain ⟨s, hs⟩ : ∃ s, mS 0 = s := ⟨_, rfl⟩
  obtain ⟨t, ht⟩ : ∃ t, mS 1 = t := ⟨_, rfl⟩
  obtain ⟨z, hz⟩ : ∃ z, zS = z := ⟨_, rfl⟩
  obtain ⟨a, ha⟩ : ∃ a, qR = a := ⟨_, rfl⟩
  obtain ⟨o, ho⟩ : ∃ o, tZ = o := ⟨_, rfl⟩
  have HSS := Lib.hid (sort_at 6 0 s hs)
  have HST := Lib.hid (sort_at 6 1 t ht)
  have HSZ := Lib.hid (sort_at 1 0 z hz)
  have HEQ : Hid (qT = ⟨6, 0, .nil, s.to (t.to .nil)⟩ ∧ a = ⟨6, 0, .nil, z.to (t.to .nil)⟩) := Lib.hid (by rw [← hs, ← ht, ← hz, ← ha]; exact ⟨rfl, rfl⟩)
  have HA1 : Hid (qA .nil (.cons 1 0 .nil .nil) qT = (a, 0)) := Lib.hid (by rw [← ha]; exact qaw1)
  have HA2 : Hid (qA .nil .nil tZ = (o, 1)) := Lib.hid (by rw [← ho]; exact qaw2)
  clear hs ht hz ha ho
  go_enter Try.func6, Try.ntmps6
  go_wp2_with fail
  refine (meta15_any 0 _).mono ?_
  rintro e w1 ⟨rfl, b1⟩
  have HB1 := Lib.hid b1
  clear b1
  go_wp2_with fail
  refine (HSS.out _).mono ?_
  rintro e w2 ⟨la, lc, ka, kc, rfl, s2, b2⟩
  have HB2 := Lib.hid (Below.step HB1.out b2 (Nat.le_refl _))
  have S2 := Lib.hid s2
  clear b2 s2 HB1
  go_wp2_with fail
  refine (meta15_any 1 _).mono ?_
  rintro e w3 ⟨rfl, b3⟩
  have HB3 := Lib.hid (Below.step HB2.out b3 (Nat.le_refl _))
  have S3 := Lib.hid (S2.out.later b3)
  clear b3 HB2 S2
  go_wp2_with fail
  refine (HST.out _).mono ?_
  rintro e w4 ⟨lb, ld, kb, kd, rfl, t4, b4⟩
  have HB4 := Lib.hid (Below.step HB3.out b4 (Nat.le_refl _))
  have S4 := Lib.hid (S3.out.later b4)
  have T4 := Lib.hid t4
  have HL4 := Lib.hid (Lt2.new S4.out T4.out)
  have ba := (Below.refl w4.heap.size w4).alloc (Nat.le_refl _) (.cells #[.int .i64 s.k, .int .i64 s.n, .slice la s.ls.len lc, .slice ka s.ks.len kc, .int .i64 t.k, .int .i64 t.n, .slice lb t.ls.len ld, .slice kb t.ks.len kd] 29)
  have HB5 := Lib.hid (Below.step HB4.out ba (Nat.le_refl _))
  clear b4 HB3 S3 t4 ba HB4 S4 T4
  go_wp2_with fail
  refine (tBind_any 6 _ 2 2 _).mono ?_
  rintro e w5 ⟨rfl, b5⟩
  have HB6 := Lib.hid (Below.step HB5.out b5 (Nat.le_refl _))
  have HL5 := Lib.hid (HL4.out.later b5)
  generalize w4.heap.size = M1 at HL5 ⊢
  have HT5 : Hid (TmIn w5 w5.heap.size qT none 0 (some ⟨M1, 0, none⟩) 2) := Lib.hid (by rw [HEQ.out.1]; exact ⟨SlIn.none _ _, HL5.out.1.mono HL5.out.2, Nat.le_refl _⟩)
  clear b5 HB5 HL4 HL5
  -- the term's variable, the level's, and the literal of one level
  obtain ⟨N1, hN1⟩ : ∃ N, w5.heap.size = N := ⟨_, rfl⟩
  have ba : Below w5.heap.size w5 ((w5.alloc (.cells #[.int .i64 6, .int .i64 0, .slice none 0 0, .slice (some ⟨M1, 0, none⟩) 2 2] 29)).alloc (.cells #[.int .i64 1, .int .i64 0, .slice none 0 0] 38)) := ((Below.refl _ _).alloc (Nat.le_refl _) _).alloc (by simp) _
  have HT6 := Lib.hid (HT5.out.later ba)
  have X1 : Hid (((w5.alloc (.cells #[.int .i64 6, .int .i64 0, .slice none 0 0, .slice (some ⟨M1, 0, none⟩) 2 2] 29)).alloc (.cells #[.int .i64 1, .int .i64 0, .slice none 0 0] 38)).heap[w5.heap.size]? = some (.cells #[.int .i64 6, .int .i64 0, .slice none 0 0, .slice (some ⟨M1, 0, none⟩) 2 2] 29 (0, 0))) := Lib.hid ((heap_old _ _ (by simp)).trans (heap_new _ _))
  have X2 : Hid (((w5.alloc (.cells #[.int .i64 6, .int .i64 0, .slice none 0 0, .slice (some ⟨M1, 0, none⟩) 2 2] 29)).alloc (.cells #[.int .i64 1, .int .i64 0, .slice none 0 0] 38)).heap[w5.heap.size + 1]? = some (.cells #[.int .i64 1, .int .i64 0, .slice none 0 0] 38 (0, 0))) := Lib.hid (heap_second _ _ _)
  have HB7 := Lib.hid (Below.step HB6.out ba (Nat.le_refl _))
  clear ba HT5 HB6 hN1
  go_upto_region 3 with fail
  generalize (w5.alloc (.cells #[.int .i64 6, .int .i64 0, .slice none 0 0, .slice (some ⟨M1, 0, none⟩) 2 2] 29)).alloc (.cells #[.int .i64 1, .int .i64 0, .slice none 0 0] 38) = w6 at HT6 X1 X2 HB7 ⊢
  obtain ⟨N2, hN2⟩ : ∃ N, w5.heap.size + 1 = N := ⟨_, rfl⟩
  rw [hN2] at X2 ⊢
  clear hN2
  obtain ⟨N1, hN1⟩ : ∃ N, w5.heap.size = N := ⟨_, rfl⟩
  rw [hN1] at X1 HT6 ⊢
  clear hN1
  have bl : Below w6.heap.size w6 (w6.alloc (.cells #[.int .i64 1, .int .i64 0, .slice none 0 0] 38)) := (Below.refl _ _).alloc (Nat.le_refl _) _
  have HBL := Lib.hid bl
  have hql := heap_new w6 (.cells #[.int .i64 1, .int .i64 0, .slice none 0 0] 38)
  have HS1 := hS .nil (.cons 1 0 .nil .nil) qT none (some ⟨M1, 0, none⟩) none (some ⟨w6.heap.size, 0, none⟩) 0 2 0 1 (w6.heap.size + 1) (w6.alloc (.cells #[.int .i64 1, .int .i64 0, .slice none 0 0] 38)) (SlIn.none _ _) (((HT6.out.later bl).2.1.mono HT6.out.2.2).mono (by omega)) (SlIn.none _ _)
    (SlIn.mk (Nat.le_refl _) (by omega) (Nat.lt_succ_self _) (FoIn.push (cell_at hql 0) (cell_at hql 1) (cell_at hql 2) (SlIn.none _ _) trivial)) (by simp)
  rw [HA1.out] at HS1
  have HS1 : Hid (Calls Try.prog 10 #[.agg #[.int .i64 6, .int .i64 0, .slice none 0 0, .slice (some ⟨M1, 0, none⟩) 2 2], .slice none 0 0, .slice (some ⟨w6.heap.size, 0, none⟩) 1 1] (w6.alloc (.cells #[.int .i64 1, .int .i64 0, .slice none 0 0] 38)) (QaPost (a, 0) (w6.alloc (.cells #[.int .i64 1, .int .i64 0, .slice none 0 0] 38)))) := Lib.hid HS1
  have p1 := cells4 X1.out
  have p2 := cells3 X2.out
  obtain ⟨p10, p11, p12, p13⟩ := p1
  obtain ⟨p20, p21, p22⟩ := p2
  clear bl hql HA1
  go_wp2_with fail
  refine HS1.out.mono ?_
  rintro e w7 ⟨ala, alc, aka, akc, rfl, h1, h2, b7⟩
  have b67 := Below.step HBL.out b7 (Nat.le_refl _)
  have HB8 := Lib.hid (Below.step HB7.out b67 (Nat.le_refl _))
  have X1b := Lib.hid ((b67.block _ (lt_of_block X1.out)).trans X1.out)
  have X2b := Lib.hid ((b67.block _ (lt_of_block X2.out)).trans X2.out)
  have HT7 := Lib.hid (HT6.out.later b67)
  have A7 : Hid (TmIn w7 w7.heap.size a ala alc aka akc) := Lib.hid ⟨h1, h2, Nat.le_refl _⟩
  have A8 := Lib.hid (TmBox.new A7.out)
  have ba : Below w7.heap.size w7 (w7.alloc (.cells #[.int .i64 a.k, .int .i64 a.n, .slice ala a.ls.len alc, .slice aka a.ks.len akc] 29)) := (Below.refl _ _).alloc (Nat.le_refl _) _
  have HBA := Lib.hid ba
  clear h1 h2 b7 b67 p10 p11 p12 p13 p20 p21 p22 X1 X2 HT6 HB7 HS1 HBL A7 ba
  have HS2 : Hid (∀ W : World, Calls Try.prog 10 #[.agg #[.int .i64 0, .int .i64 0, .slice none 0 0, .slice none 0 0], .slice none 0 0, .slice none 0 0] W (QaPost (o, 1) W)) := Lib.hid (fun W => by
    have h := hS .nil .nil tZ none none none none 0 0 0 0 0 W (SlIn.none _ _) (TlIn.none _ _) (SlIn.none _ _) (SlIn.none _ _) (Nat.zero_le _)
    rw [HA2.out] at h
    exact h)
  go_wp2_with fail
  refine (HS2.out _).mono ?_
  rintro e w8 ⟨ola, olc, oka, okc, rfl, _, _, b8⟩
  have b78 := Below.step HBA.out b8 (Nat.le_refl _)
  have hbb : Below w8.heap.size w8 ((w8.alloc (.cells #[.int .i64 o.k, .int .i64 o.n, .slice ola o.ls.len olc, .slice oka o.ks.len okc] 29)).alloc (.cells #[.int .i64 3, .int .i64 2, .slice none 0 0, .slice none 0 0] 29)) := ((Below.refl _ _).alloc (Nat.le_refl _) _).alloc (by simp) _
  have b79 := Below.step b78 hbb (Nat.le_refl _)
  have HB0 := Lib.hid (Below.step HB8.out b79 (Nat.le_refl _))
  have X1 := Lib.hid ((b79.block _ (lt_of_block X1b.out)).trans X1b.out)
  have X2 := Lib.hid ((b79.block _ (lt_of_block X2b.out)).trans X2b.out)
  have HT0 := Lib.hid (HT7.out.later b79)
  have X3 := Lib.hid ((A8.out.later b8).later hbb)
  have X7 : Hid (((w8.alloc (.cells #[.int .i64 o.k, .int .i64 o.n, .slice ola o.ls.len olc, .slice oka o.ks.len okc] 29)).alloc (.cells #[.int .i64 3, .int .i64 2, .slice none 0 0, .slice none 0 0] 29)).heap[w8.heap.size + 1]? = some (.cells #[.int .i64 3, .int .i64 2, .slice none 0 0, .slice none 0 0] 29 (0, 0))) := Lib.hid (heap_second _ _ _)
  clear b8 b78 b79 hbb HBA A8 X1b X2b HT7 HB8 HS2
  go_upto_region 6 with fail
  generalize (w8.alloc (.cells #[.int .i64 o.k, .int .i64 o.n, .slice ola o.ls.len olc, .slice oka o.ks.len okc] 29)).alloc (.cells #[.int .i64 3, .int .i64 2, .slice none 0 0, .slice none 0 0] 29) = W0 at HB0 X1 X2 HT0 X3 X7 ⊢
  generalize w8.heap.size + 1 = N7 at X7 ⊢
  generalize w7.heap.size = N3 at X3 ⊢
  have HNX : Hid (∀ wN : World, Below W0.heap.size W0 wN → wN.cell? ⟨N1, 0, none⟩ = some (.int .i64 6) ∧ wN.cell? ⟨N1, 1, none⟩ = some (.int .i64 0) ∧ wN.cell? ⟨N1, 2, none⟩ = some (.slice none 0 0) ∧ wN.cell? ⟨N1, 3, none⟩ = some (.slice (some ⟨M1, 0, none⟩) 2 2) ∧ wN.cell? ⟨N2, 0, none⟩ = some (.int .i64 1) ∧ wN.cell? ⟨N2, 1, none⟩ = some (.int .i64 0) ∧ wN.cell? ⟨N2, 2, none⟩ = some (.slice none 0 0) ∧ wN.cell? ⟨N3, 0, none⟩ = some (.int .i64 a.k) ∧ wN.cell? ⟨N3, 1, none⟩ = some (.int .i64 a.n) ∧ wN.cell? ⟨N3, 2, none⟩ = some (.slice ala a.ls.len alc) ∧ wN.cell? ⟨N3, 3, none⟩ = some (.slice aka a.ks.len akc) ∧ wN.cell? ⟨N7, 0, none⟩ = some (.int .i64 3) ∧ wN.cell? ⟨N7, 1, none⟩ = some (.int .i64 2) ∧ wN.cell? ⟨N7, 2, none⟩ = some (.slice none 0 0) ∧ wN.cell? ⟨N7, 3, none⟩ = some (.slice none 0 0)) := Lib.hid (by
    intro wN hX
    obtain ⟨x0, x1, x2, x3⟩ := cells4 ((hX.block _ (lt_of_block X1.out)).trans X1.out)
    obtain ⟨y0, y1, y2⟩ := cells3 ((hX.block _ (lt_of_block X2.out)).trans X2.out)
    obtain ⟨z0, z1, z2, z3⟩ := (X3.out.later hX).cells
    obtain ⟨u0, u1, u2, u3⟩ := cells4 ((hX.block _ (lt_of_block X7.out)).trans X7.out)
    exact ⟨x0, x1, x2, x3, y0, y1, y2, z0, z1, z2, z3, u0, u1, u2, u3⟩)
  have HAS : Hid (∀ (W : World) (M : Nat), Below W0.heap.size W0 W → Lt2 W M (z.to (t.to .nil)) → Calls Try.prog 12 #[.agg #[.int .i64 a.k, .int .i64 a.n, .slice ala a.ls.len alc, .slice aka a.ks.len akc], .agg #[.int .i64 6, .int .i64 0, .slice none 0 0, .slice (some ⟨M, 0, none⟩) 2 2]] W fun e w' => e = .returned (.bool true) ∧ Below W.heap.size W w') := Lib.hid (by
    intro W M h hl
    have p := (X3.out.later h).2
    have r := r13same_any (a.ks.size + 1) a.ks (z.to (t.to .nil)) (Nat.lt_succ_self _) a.k a.n 6 0 a.ls .nil ala none aka (some ⟨M, 0, none⟩) alc 0 akc 2 W.heap.size W (p.1.mono p.2.2) (SlIn.none _ _) (p.2.1.mono p.2.2) (hl.1.mono hl.2) (Nat.le_refl _)
    rw [show decide (Ft.cons a.k a.n a.ls a.ks .nil = Ft.cons 6 0 .nil (z.to (t.to .nil)) .nil) = true from decide_eq_true (by rw [HEQ.out.2])] at r
    exact r)
  have HMT : Hid (∀ W : World, Below W0.heap.size W0 W → Calls Try.prog 17 #[.agg #[.int .i64 6, .int .i64 0, .slice none 0 0, .slice (some ⟨M1, 0, none⟩) 2 2]] W fun e w' => ∃ x c, e = .returned (.slice x 2 c) ∧ InI w' [0, 1] x c ∧ Below W.heap.size W w') := Lib.hid (by
    intro W h
    have p := HT0.out.later h
    have r := hM qT none (some ⟨M1, 0, none⟩) 0 2 W.heap.size W qaw5 (SlIn.none _ _) (p.2.1.mono p.2.2) (Nat.le_refl _)
    rw [qaw3] at r
    exact r)
  have HCN : Hid (∀ (W : World) (M : Nat), Lt2 W M (qC.to (qC.to .nil)) → Calls Try.prog 18 #[.agg #[.int .i64 4, .int .i64 0, .slice none 0 0, .slice (some ⟨M, 0, none⟩) 2 2]] W fun e w' => ∃ x c, e = .returned (.slice x 1 c) ∧ InI w' [2] x c ∧ Below W.heap.size W w') := Lib.hid (by
    intro W M hl
    have r := hC qP none (some ⟨M, 0, none⟩) 0 2 W.heap.size W qaw6 (SlIn.none _ _) (hl.1.mono hl.2) (Nat.le_refl _)
    rw [qaw4] at r
    exact r)
  have HN1 : Hid (1 ≤ W0.heap.size) := Lib.hid (by have := lt_of_block X1.out; omega)
  clear X1 X2 X3 X7 HT0
  refine wp_region_held_drew (S := fun w' => Hid (Below W0.heap.size W0 w') ∧ w'.cell? ⟨N1, 0, none⟩ = some (.int .i64 6) ∧ w'.cell? ⟨N1, 1, none⟩ = some (.int .i64 0) ∧ w'.cell? ⟨N1, 2, none⟩ = some (.slice none 0 0) ∧ w'.cell? ⟨N1, 3, none⟩ = some (.slice (some ⟨M1, 0, none⟩) 2 2) ∧ w'.cell? ⟨N2, 0, none⟩ = some (.int .i64 1) ∧ w'.cell? ⟨N2, 1, none⟩ = some (.int .i64 0) ∧ w'.cell? ⟨N2, 2, none⟩ = some (.slice none 0 0) ∧ w'.cell? ⟨N3, 0, none⟩ = some (.int .i64 a.k) ∧ w'.cell? ⟨N3, 1, none⟩ = some (.int .i64 a.n) ∧ w'.cell? ⟨N3, 2, none⟩ = some (.slice ala a.ls.len alc) ∧ w'.cell? ⟨N3, 3, none⟩ = some (.slice aka a.ks.len akc) ∧ w'.cell? ⟨N7, 0, none⟩ = some (.int .i64 3) ∧ w'.cell? ⟨N7, 1, none⟩ = some (.int .i64 2) ∧ w'.cell? ⟨N7, 2, none⟩ = some (.slice none 0 0) ∧ w'.cell? ⟨N7, 3, none⟩ = some (.slice none 0 0)) (by kernel_rfl) (⟨Lib.hid (Below.refl _ _).drew, HNX.out _ (Below.refl _ _).drew⟩) (fun hH => ?_)
  try simp only [Act.put, List.setIfInBounds_toArray, List.set_cons_zero, List.set_cons_succ]
  refine wpAnyH_take (i := 0) (v := ?_) (by simp only [List.getElem?_toArray, List.getElem?_cons_zero]; rfl) (by kernel_rfl) (by kernel_rfl) (by kernel_rfl) (by intro _ _ _ h; exact h) (Or.inl ⟨by rfl, ?_⟩) hH ?_
  rotate_left
  · intro w' hSw
    obtain ⟨s0, s1, s2, s3, s4, s5, s6, s7, s8, s9, s10, s11, s12, s13, s14, s15⟩ := hSw
    go_simp
    try with_reducible rfl
  try simp only [Act.put, List.setIfInBounds_toArray, List.set_cons_zero, List.set_cons_succ]
  refine wpAnyH_take (i := 1) (v := ?_) (by simp only [List.getElem?_toArray, List.getElem?_cons_succ, List.getElem?_cons_zero]; rfl) (by kernel_rfl) (by kernel_rfl) (by kernel_rfl) (by intro _ _ _ h; exact h) (Or.inl ⟨by rfl, ?_⟩) hH ?_
  rotate_left
  · intro w' hSw
    obtain ⟨s0, s1, s2, s3, s4, s5, s6, s7, s8, s9, s10, s11, s12, s13, s14, s15⟩ := hSw
    go_simp
    try with_reducible rfl
  try simp only [Act.put, List.setIfInBounds_toArray, List.set_cons_zero, List.set_cons_succ]
  refine wpAnyH_take (i := 2) (v := ?_) (by simp only [List.getElem?_toArray, List.getElem?_cons_succ, List.getElem?_cons_zero]; rfl) (by kernel_rfl) (by kernel_rfl) (by kernel_rfl) (by intro _ _ _ h; exact h) (Or.inl ⟨by rfl, ?_⟩) hH ?_
  rotate_left
  · intro w' hSw
    obtain ⟨s0, s1, s2, s3, s4, s5, s6, s7, s8, s9, s10, s11, s12, s13, s14, s15⟩ := hSw
    go_simp
    try with_reducible rfl
  try simp only [Act.put, List.setIfInBounds_toArray, List.set_cons_zero, List.set_cons_succ]
  refine wpAnyH_take (i := 3) (v := ?_) (by simp only [List.getElem?_toArray, List.getElem?_cons_succ, List.getElem?_cons_zero]; rfl) (by kernel_rfl) (by kernel_rfl) (by kernel_rfl) (by intro _ _ _ h; exact h) (Or.inl ⟨by rfl, ?_⟩) hH ?_
  rotate_left
  · intro w' hSw
    obtain ⟨s0, s1, s2, s3, s4, s5, s6, s7, s8, s9, s10, s11, s12, s13, s14, s15⟩ := hSw
    go_simp
    try with_reducible rfl
  try simp only [Act.put, List.setIfInBounds_toArray, List.set_cons_zero, List.set_cons_succ]
  refine wpAnyH_take (i := 4) (v := ?_) (by simp only [List.getElem?_toArray, List.getElem?_cons_succ, List.getElem?_cons_zero]; rfl) (by kernel_rfl) (by kernel_rfl) (by kernel_rfl) (by intro _ _ _ h; exact h) (Or.inl ⟨by rfl, ?_⟩) hH ?_
  rotate_left
  · intro w' hSw
    obtain ⟨s0, s1, s2, s3, s4, s5, s6, s7, s8, s9, s10, s11, s12, s13, s14, s15⟩ := hSw
    go_simp
    try with_reducible rfl
  try simp only [Act.put, List.setIfInBounds_toArray, List.set_cons_zero, List.set_cons_succ]
  refine wpAnyH_ready (rs := [5]) (by kernel_rfl) (by simp) ?_
  refine AllReadyH.cons (o := _) (by simp only [List.getElem?_toArray, List.getElem?_cons_succ, List.getElem?_cons_zero]; rfl) (fun K hK => ?_) AllReadyH.nil
  go_simp
  go_at_call 11
  refine (HSZ.out _).mono ?_
  rintro e wq0 ⟨xla, xlc, xka, xkc, rfl, hz, hb7⟩
  have hX := Below.step hH.1.out hb7 (Nat.le_refl _)
  have HX := Lib.hid hz
  clear hz
  clear hH hb7
  refine hK.out _ _ ⟨Lib.hid hX, HNX.out _ hX⟩ (fun hH => ?_)
  clear hK K hX
  try simp only [Act.put, List.setIfInBounds_toArray, List.set_cons_zero, List.set_cons_succ]
  refine wpAnyH_ready (rs := [6]) (by kernel_rfl) (by simp) ?_
  refine AllReadyH.cons (o := _) (by simp only [List.getElem?_toArray, List.getElem?_cons_succ, List.getElem?_cons_zero]; rfl) (fun K hK => ?_) AllReadyH.nil
  go_simp
  go_at_call 15
  refine (meta15_any 1 _).mono ?_
  rintro e wq1 ⟨rfl, hb7⟩
  have hX := Below.step hH.1.out hb7 (Nat.le_refl _)
  replace HX := Lib.hid (HX.out.later hb7)
  clear hH hb7
  refine hK.out _ _ ⟨Lib.hid hX, HNX.out _ hX⟩ (fun hH => ?_)
  clear hK K hX
  try simp only [Act.put, List.setIfInBounds_toArray, List.set_cons_zero, List.set_cons_succ]
  refine wpAnyH_ready (rs := [7]) (by kernel_rfl) (by simp) ?_
  refine AllReadyH.cons (o := _) (by simp only [List.getElem?_toArray, List.getElem?_cons_succ, List.getElem?_cons_zero]; rfl) (fun K hK => ?_) AllReadyH.nil
  go_simp
  go_at_call 11
  refine (HST.out _).mono ?_
  rintro e wq2 ⟨yla, ylc, yka, ykc, rfl, hy, hb7⟩
  have hX := Below.step hH.1.out hb7 (Nat.le_refl _)
  replace HX := Lib.hid (HX.out.later hb7)
  have HY := Lib.hid hy
  clear hy
  clear hH hb7
  refine hK.out _ _ ⟨Lib.hid hX, HNX.out _ hX⟩ (fun hH => ?_)
  clear hK K hX
  try simp only [Act.put, List.setIfInBounds_toArray, List.set_cons_zero, List.set_cons_succ]
  refine wpAnyH_ready (rs := [8]) (by kernel_rfl) (by simp) ?_
  refine AllReadyH.cons (o := _) (by simp only [List.getElem?_toArray, List.getElem?_cons_succ, List.getElem?_cons_zero]; rfl) (fun K hK => ?_) AllReadyH.nil
  go_simp
  have HL := Lib.hid (Lt2.new HX.out HY.out)
  have hb7 : Below (wq2).heap.size wq2 (wq2.alloc (.cells #[.int .i64 z.k, .int .i64 z.n, .slice xla z.ls.len xlc, .slice xka z.ks.len xkc, .int .i64 t.k, .int .i64 t.n, .slice yla t.ls.len ylc, .slice yka t.ks.len ykc] 29)) := (Below.refl _ _).alloc (Nat.le_refl _) _
  have hX := Below.step hH.1.out hb7 (Nat.le_refl _)
  clear hH hb7 HX HY
  refine hK.out _ _ ⟨Lib.hid hX, HNX.out _ hX⟩ (fun hH => ?_)
  clear hK K hX
  try simp only [Act.put, List.setIfInBounds_toArray, List.set_cons_zero, List.set_cons_succ]
  refine wpAnyH_ready (rs := [9]) (by kernel_rfl) (by simp) ?_
  refine AllReadyH.cons (o := _) (by simp only [List.getElem?_toArray, List.getElem?_cons_succ, List.getElem?_cons_zero]; rfl) (fun K hK => ?_) AllReadyH.nil
  go_simp
  go_at_call 14
  refine (tBind_any 6 _ 2 2 _).mono ?_
  rintro e wq4 ⟨rfl, hb7⟩
  have hX := Below.step hH.1.out hb7 (Nat.le_refl _)
  replace HL := Lib.hid (HL.out.later hb7)
  clear hH hb7
  refine hK.out _ _ ⟨Lib.hid hX, HNX.out _ hX⟩ (fun hH => ?_)
  clear hK K hX
  try simp only [Act.put, List.setIfInBounds_toArray, List.set_cons_zero, List.set_cons_succ]
  refine wpAnyH_ready (rs := [10]) (by kernel_rfl) (by simp) ?_
  refine AllReadyH.cons (o := _) (by simp only [List.getElem?_toArray, List.getElem?_cons_succ, List.getElem?_cons_zero]; rfl) (fun K hK => ?_) AllReadyH.nil
  go_simp
  go_at_call 12
  refine (HAS.out _ _ hH.1.out HL.out).mono ?_
  rintro e wq5 ⟨rfl, hb7⟩
  have hX := Below.step hH.1.out hb7 (Nat.le_refl _)
  clear hH hb7 HL
  refine hK.out _ _ ⟨Lib.hid hX, HNX.out _ hX⟩ (fun hH => ?_)
  clear hK K hX
  try simp only [Act.put, List.setIfInBounds_toArray, List.set_cons_zero, List.set_cons_succ]
  refine wpAnyH_take (i := 11) (v := ?_) (by simp only [List.getElem?_toArray, List.getElem?_cons_succ, List.getElem?_cons_zero]; rfl) (by kernel_rfl) (by kernel_rfl) (by kernel_rfl) (by intro _ _ _ h; exact h) (Or.inl ⟨by rfl, ?_⟩) hH ?_
  rotate_left
  · intro w' hSw
    obtain ⟨s0, s1, s2, s3, s4, s5, s6, s7, s8, s9, s10, s11, s12, s13, s14, s15⟩ := hSw
    go_simp
    try with_reducible rfl
  try simp only [Act.put, List.setIfInBounds_toArray, List.set_cons_zero, List.set_cons_succ]
  refine wpAnyH_take (i := 12) (v := ?_) (by simp only [List.getElem?_toArray, List.getElem?_cons_succ, List.getElem?_cons_zero]; rfl) (by kernel_rfl) (by kernel_rfl) (by kernel_rfl) (by intro _ _ _ h; exact h) (Or.inl ⟨by rfl, ?_⟩) hH ?_
  rotate_left
  · intro w' hSw
    obtain ⟨s0, s1, s2, s3, s4, s5, s6, s7, s8, s9, s10, s11, s12, s13, s14, s15⟩ := hSw
    go_simp
    try with_reducible rfl
  try simp only [Act.put, List.setIfInBounds_toArray, List.set_cons_zero, List.set_cons_succ]
  refine wpAnyH_take (i := 13) (v := ?_) (by simp only [List.getElem?_toArray, List.getElem?_cons_succ, List.getElem?_cons_zero]; rfl) (by kernel_rfl) (by kernel_rfl) (by kernel_rfl) (by intro _ _ _ h; exact h) (Or.inl ⟨by rfl, ?_⟩) hH ?_
  rotate_left
  · intro w' hSw
    obtain ⟨s0, s1, s2, s3, s4, s5, s6, s7, s8, s9, s10, s11, s12, s13, s14, s15⟩ := hSw
    go_simp
    try with_reducible rfl
  try simp only [Act.put, List.setIfInBounds_toArray, List.set_cons_zero, List.set_cons_succ]
  refine wpAnyH_take (i := 14) (v := ?_) (by simp only [List.getElem?_toArray, List.getElem?_cons_succ, List.getElem?_cons_zero]; rfl) (by kernel_rfl) (by kernel_rfl) (by kernel_rfl) (by intro _ _ _ h; exact h) (Or.inl ⟨by rfl, ?_⟩) hH ?_
  rotate_left
  · intro w' hSw
    obtain ⟨s0, s1, s2, s3, s4, s5, s6, s7, s8, s9, s10, s11, s12, s13, s14, s15⟩ := hSw
    go_simp
    try with_reducible rfl
  try simp only [Act.put, List.setIfInBounds_toArray, List.set_cons_zero, List.set_cons_succ]
  refine wpAnyH_take (i := 15) (v := ?_) (by simp only [List.getElem?_toArray, List.getElem?_cons_succ, List.getElem?_cons_zero]; rfl) (by kernel_rfl) (by kernel_rfl) (by kernel_rfl) (by intro _ _ _ h; exact h) (Or.inl ⟨by rfl, ?_⟩) hH ?_
  rotate_left
  · intro w' hSw
    obtain ⟨s0, s1, s2, s3, s4, s5, s6, s7, s8, s9, s10, s11, s12, s13, s14, s15⟩ := hSw
    go_simp
    try with_reducible rfl
  try simp only [Act.put, List.setIfInBounds_toArray, List.set_cons_zero, List.set_cons_succ]
  refine wpAnyH_take (i := 16) (v := ?_) (by simp only [List.getElem?_toArray, List.getElem?_cons_succ, List.getElem?_cons_zero]; rfl) (by kernel_rfl) (by kernel_rfl) (by kernel_rfl) (by intro _ _ _ h; exact h) (Or.inl ⟨by rfl, ?_⟩) hH ?_
  rotate_left
  · intro w' hSw
    obtain ⟨s0, s1, s2, s3, s4, s5, s6, s7, s8, s9, s10, s11, s12, s13, s14, s15⟩ := hSw
    go_simp
    try with_reducible rfl
  try simp only [Act.put, List.setIfInBounds_toArray, List.set_cons_zero, List.set_cons_succ]
  refine wpAnyH_take (i := 17) (v := ?_) (by simp only [List.getElem?_toArray, List.getElem?_cons_succ, List.getElem?_cons_zero]; rfl) (by kernel_rfl) (by kernel_rfl) (by kernel_rfl) (by intro _ _ _ h; exact h) (Or.inl ⟨by rfl, ?_⟩) hH ?_
  rotate_left
  · intro w' hSw
    obtain ⟨s0, s1, s2, s3, s4, s5, s6, s7, s8, s9, s10, s11, s12, s13, s14, s15⟩ := hSw
    go_simp
    try with_reducible rfl
  try simp only [Act.put, List.setIfInBounds_toArray, List.set_cons_zero, List.set_cons_succ]
  refine wpAnyH_ready (rs := [18, 19]) (by kernel_rfl) (by simp) ?_
  refine AllReadyH.cons (o := _) (by simp only [List.getElem?_toArray, List.getElem?_cons_succ, List.getElem?_cons_zero]; rfl) (fun K hK => ?_) ?_
  · go_simp
    go_at_call 17
    refine (HMT.out _ hH.1.out).mono ?_
    rintro e wq6 ⟨mx, mc, rfl, hm, hb7⟩
    have hX := Below.step hH.1.out hb7 (Nat.le_refl _)
    have HI := Lib.hid hm
    clear hm
    clear hH hb7
    refine hK.out _ _ ⟨Lib.hid hX, HNX.out _ hX⟩ (fun hH => ?_)
    clear hK K hX
    try simp only [Act.put, List.setIfInBounds_toArray, List.set_cons_zero, List.set_cons_succ]
    refine wpAnyH_ready (rs := [19]) (by kernel_rfl) (by simp) ?_
    refine AllReadyH.cons (o := _) (by simp only [List.getElem?_toArray, List.getElem?_cons_succ, List.getElem?_cons_zero]; rfl) (fun K hK => ?_) AllReadyH.nil
    go_simp
    have HJ := Lib.hid (InI.two (wq6) 0 1)
    have hb7 : Below (wq6).heap.size wq6 (wq6.alloc (.cells #[.int .i64 0, .int .i64 1] 3)) := (Below.refl _ _).alloc (Nat.le_refl _) _
    have hX := Below.step hH.1.out hb7 (Nat.le_refl _)
    replace HI := Lib.hid (HI.out.later hb7)
    clear hH hb7
    refine hK.out _ _ ⟨Lib.hid hX, HNX.out _ hX⟩ (fun hH => ?_)
    clear hK K hX
    try simp only [Act.put, List.setIfInBounds_toArray, List.set_cons_zero, List.set_cons_succ]
    refine wpAnyH_ready (rs := [20]) (by kernel_rfl) (by simp) ?_
    refine AllReadyH.cons (o := _) (by simp only [List.getElem?_toArray, List.getElem?_cons_succ, List.getElem?_cons_zero]; rfl) (fun K hK => ?_) AllReadyH.nil
    go_simp
    go_at_call 16
    refine (InI.same (zs := [0, 1]) HI.out HJ.out).mono ?_
    rintro e wq8 ⟨rfl, hb7⟩
    have hX := Below.step hH.1.out hb7 (Nat.le_refl _)
    clear hH hb7 HI HJ
    refine hK.out _ _ ⟨Lib.hid hX, HNX.out _ hX⟩ (fun hH => ?_)
    clear hK K hX
    try simp only [Act.put, List.setIfInBounds_toArray, List.set_cons_zero, List.set_cons_succ]
    refine wpAnyH_take (i := 21) (v := ?_) (by simp only [List.getElem?_toArray, List.getElem?_cons_succ, List.getElem?_cons_zero]; rfl) (by kernel_rfl) (by kernel_rfl) (by kernel_rfl) (by intro _ _ _ h; exact h) (Or.inl ⟨by rfl, ?_⟩) hH ?_
    rotate_left
    · intro w' hSw
      obtain ⟨s0, s1, s2, s3, s4, s5, s6, s7, s8, s9, s10, s11, s12, s13, s14, s15⟩ := hSw
      go_simp
      try with_reducible rfl
    try simp only [Act.put, List.setIfInBounds_toArray, List.set_cons_zero, List.set_cons_succ]
    refine wpAnyH_take (i := 22) (v := ?_) (by simp only [List.getElem?_toArray, List.getElem?_cons_succ, List.getElem?_cons_zero]; rfl) (by kernel_rfl) (by kernel_rfl) (by kernel_rfl) (by intro _ _ _ h; exact h) (Or.inl ⟨by rfl, ?_⟩) hH ?_
    rotate_left
    · intro w' hSw
      obtain ⟨s0, s1, s2, s3, s4, s5, s6, s7, s8, s9, s10, s11, s12, s13, s14, s15⟩ := hSw
      go_simp
      try with_reducible rfl
    try simp only [Act.put, List.setIfInBounds_toArray, List.set_cons_zero, List.set_cons_succ]
    refine wpAnyH_take (i := 23) (v := ?_) (by simp only [List.getElem?_toArray, List.getElem?_cons_succ, List.getElem?_cons_zero]; rfl) (by kernel_rfl) (by kernel_rfl) (by kernel_rfl) (by intro _ _ _ h; exact h) (Or.inl ⟨by rfl, ?_⟩) hH ?_
    rotate_left
    · intro w' hSw
      obtain ⟨s0, s1, s2, s3, s4, s5, s6, s7, s8, s9, s10, s11, s12, s13, s14, s15⟩ := hSw
      go_simp
      try with_reducible rfl
    try simp only [Act.put, List.setIfInBounds_toArray, List.set_cons_zero, List.set_cons_succ]
    refine wpAnyH_take (i := 24) (v := ?_) (by simp only [List.getElem?_toArray, List.getElem?_cons_succ, List.getElem?_cons_zero]; rfl) (by kernel_rfl) (by kernel_rfl) (by kernel_rfl) (by intro _ _ _ h; exact h) (Or.inl ⟨by rfl, ?_⟩) hH ?_
    rotate_left
    · intro w' hSw
      obtain ⟨s0, s1, s2, s3, s4, s5, s6, s7, s8, s9, s10, s11, s12, s13, s14, s15⟩ := hSw
      go_simp
      try with_reducible rfl
    try simp only [Act.put, List.setIfInBounds_toArray, List.set_cons_zero, List.set_cons_succ]
    refine wpAnyH_ready (rs := [25, 28]) (by kernel_rfl) (by simp) ?_
    refine AllReadyH.cons (o := _) (by simp only [List.getElem?_toArray, List.getElem?_cons_succ, List.getElem?_cons_zero]; rfl) (fun K hK => ?_) ?_
    · go_simp
      have HL := Lib.hid (Lt2.new (qC_in (wq8)) (qC_in (wq8)))
      have hb7 : Below (wq8).heap.size wq8 (wq8.alloc (.cells #[.int .i64 3, .int .i64 2, .slice none 0 0, .slice none 0 0, .int .i64 3, .int .i64 2, .slice none 0 0, .slice none 0 0] 29)) := (Below.refl _ _).alloc (Nat.le_refl _) _
      have hX := Below.step hH.1.out hb7 (Nat.le_refl _)
      clear hH hb7
      refine hK.out _ _ ⟨Lib.hid hX, HNX.out _ hX⟩ (fun hH => ?_)
      clear hK K hX
      try simp only [Act.put, List.setIfInBounds_toArray, List.set_cons_zero, List.set_cons_succ]
      refine wpAnyH_ready (rs := [26, 28]) (by kernel_rfl) (by simp) ?_
      refine AllReadyH.cons (o := _) (by simp only [List.getElem?_toArray, List.getElem?_cons_succ, List.getElem?_cons_zero]; rfl) (fun K hK => ?_) ?_
      · go_simp
        go_at_call 14
        refine (tBind_any 4 _ 2 2 _).mono ?_
        rintro e wq10 ⟨rfl, hb7⟩
        have hX := Below.step hH.1.out hb7 (Nat.le_refl _)
        replace HL := Lib.hid (HL.out.later hb7)
        clear hH hb7
        refine hK.out _ _ ⟨Lib.hid hX, HNX.out _ hX⟩ (fun hH => ?_)
        clear hK K hX
        try simp only [Act.put, List.setIfInBounds_toArray, List.set_cons_zero, List.set_cons_succ]
        refine wpAnyH_ready (rs := [27, 28]) (by kernel_rfl) (by simp) ?_
        refine AllReadyH.cons (o := _) (by simp only [List.getElem?_toArray, List.getElem?_cons_succ, List.getElem?_cons_zero]; rfl) (fun K hK => ?_) ?_
        · go_simp
          go_at_call 18
          refine (HCN.out _ _ HL.out).mono ?_
          rintro e wq11 ⟨cx, cc, rfl, hc, hb7⟩
          have hX := Below.step hH.1.out hb7 (Nat.le_refl _)
          have HI := Lib.hid hc
          clear hc
          clear hH hb7 HL
          refine hK.out _ _ ⟨Lib.hid hX, HNX.out _ hX⟩ (fun hH => ?_)
          clear hK K hX
          try simp only [Act.put, List.setIfInBounds_toArray, List.set_cons_zero, List.set_cons_succ]
          refine wpAnyH_ready (rs := [28]) (by kernel_rfl) (by simp) ?_
          refine AllReadyH.cons (o := _) (by simp only [List.getElem?_toArray, List.getElem?_cons_succ, List.getElem?_cons_zero]; rfl) (fun K hK => ?_) AllReadyH.nil
          go_simp
          have HJ := Lib.hid (InI.one (wq11) 2)
          have hb7 : Below (wq11).heap.size wq11 (wq11.alloc (.cells #[.int .i64 2] 3)) := (Below.refl _ _).alloc (Nat.le_refl _) _
          have hX := Below.step hH.1.out hb7 (Nat.le_refl _)
          replace HI := Lib.hid (HI.out.later hb7)
          clear hH hb7
          refine hK.out _ _ ⟨Lib.hid hX, HNX.out _ hX⟩ (fun hH => ?_)
          clear hK K hX
          try simp only [Act.put, List.setIfInBounds_toArray, List.set_cons_zero, List.set_cons_succ]
          refine wpAnyH_ready (rs := [29]) (by kernel_rfl) (by simp) ?_
          refine AllReadyH.cons (o := _) (by simp only [List.getElem?_toArray, List.getElem?_cons_succ, List.getElem?_cons_zero]; rfl) (fun K hK => ?_) AllReadyH.nil
          go_simp
          go_at_call 16
          refine (InI.same (zs := [2]) HI.out HJ.out).mono ?_
          rintro e wq13 ⟨rfl, hb7⟩
          have hX := Below.step hH.1.out hb7 (Nat.le_refl _)
          clear hH hb7 HI HJ
          refine hK.out _ _ ⟨Lib.hid hX, HNX.out _ hX⟩ (fun hH => ?_)
          clear hK K hX
          try simp only [Act.put, List.setIfInBounds_toArray, List.set_cons_zero, List.set_cons_succ]
          refine wpAnyH_take (i := 30) (v := ?_) (by simp only [List.getElem?_toArray, List.getElem?_cons_succ, List.getElem?_cons_zero]; rfl) (by kernel_rfl) (by kernel_rfl) (by kernel_rfl) (by intro _ _ _ h; exact h) (Or.inl ⟨by rfl, ?_⟩) hH ?_
          rotate_left
          · intro w' hSw
            obtain ⟨s0, s1, s2, s3, s4, s5, s6, s7, s8, s9, s10, s11, s12, s13, s14, s15⟩ := hSw
            go_simp
            try with_reducible rfl
          try simp only [Act.put, List.setIfInBounds_toArray, List.set_cons_zero, List.set_cons_succ]
          refine wpAnyH_take (i := 31) (v := ?_) (by simp only [List.getElem?_toArray, List.getElem?_cons_succ, List.getElem?_cons_zero]; rfl) (by kernel_rfl) (by kernel_rfl) (by kernel_rfl) (by intro _ _ _ h; exact h) (Or.inl ⟨by rfl, ?_⟩) hH ?_
          rotate_left
          · intro w' hSw
            obtain ⟨s0, s1, s2, s3, s4, s5, s6, s7, s8, s9, s10, s11, s12, s13, s14, s15⟩ := hSw
            go_simp
            try with_reducible rfl
          try simp only [Act.put, List.setIfInBounds_toArray, List.set_cons_zero]
          refine wpAnyH_done (by kernel_rfl) ?_ _
          have hEE := Lib.hid (Below.step HB0.out hH.1.out (Nat.le_refl _))
          have hN7 := (hH.1.out.size)
          clear hH
          go_wp2_with fail
          go_ret
          exact ⟨rfl, hEE.out, Nat.le_trans HN1.out hN7⟩
        refine AllReadyH.cons (o := _) (by simp only [List.getElem?_toArray, List.getElem?_cons_succ, List.getElem?_cons_zero]; rfl) (fun K hK => ?_) AllReadyH.nil
        go_simp
        have HJ := Lib.hid (InI.one (wq10) 2)
        have hb7 : Below (wq10).heap.size wq10 (wq10.alloc (.cells #[.int .i64 2] 3)) := (Below.refl _ _).alloc (Nat.le_refl _) _
        have hX := Below.step hH.1.out hb7 (Nat.le_refl _)
        replace HL := Lib.hid (HL.out.later hb7)
        clear hH hb7
        refine hK.out _ _ ⟨Lib.hid hX, HNX.out _ hX⟩ (fun hH => ?_)
        clear hK K hX
        try simp only [Act.put, List.setIfInBounds_toArray, List.set_cons_zero, List.set_cons_succ]
        refine wpAnyH_ready (rs := [27]) (by kernel_rfl) (by simp) ?_
        refine AllReadyH.cons (o := _) (by simp only [List.getElem?_toArray, List.getElem?_cons_succ, List.getElem?_cons_zero]; rfl) (fun K hK => ?_) AllReadyH.nil
        go_simp
        go_at_call 18
        refine (HCN.out _ _ HL.out).mono ?_
        rintro e wq12 ⟨cx, cc, rfl, hc, hb7⟩
        have hX := Below.step hH.1.out hb7 (Nat.le_refl _)
        replace HJ := Lib.hid (HJ.out.later hb7)
        have HI := Lib.hid hc
        clear hc
        clear hH hb7 HL
        refine hK.out _ _ ⟨Lib.hid hX, HNX.out _ hX⟩ (fun hH => ?_)
        clear hK K hX
        try simp only [Act.put, List.setIfInBounds_toArray, List.set_cons_zero, List.set_cons_succ]
        refine wpAnyH_ready (rs := [29]) (by kernel_rfl) (by simp) ?_
        refine AllReadyH.cons (o := _) (by simp only [List.getElem?_toArray, List.getElem?_cons_succ, List.getElem?_cons_zero]; rfl) (fun K hK => ?_) AllReadyH.nil
        go_simp
        go_at_call 16
        refine (InI.same (zs := [2]) HI.out HJ.out).mono ?_
        rintro e wq13 ⟨rfl, hb7⟩
        have hX := Below.step hH.1.out hb7 (Nat.le_refl _)
        clear hH hb7 HI HJ
        refine hK.out _ _ ⟨Lib.hid hX, HNX.out _ hX⟩ (fun hH => ?_)
        clear hK K hX
        try simp only [Act.put, List.setIfInBounds_toArray, List.set_cons_zero, List.set_cons_succ]
        refine wpAnyH_take (i := 30) (v := ?_) (by simp only [List.getElem?_toArray, List.getElem?_cons_succ, List.getElem?_cons_zero]; rfl) (by kernel_rfl) (by kernel_rfl) (by kernel_rfl) (by intro _ _ _ h; exact h) (Or.inl ⟨by rfl, ?_⟩) hH ?_
        rotate_left
        · intro w' hSw
          obtain ⟨s0, s1, s2, s3, s4, s5, s6, s7, s8, s9, s10, s11, s12, s13, s14, s15⟩ := hSw
          go_simp
          try with_reducible rfl
        try simp only [Act.put, List.setIfInBounds_toArray, List.set_cons_zero, List.set_cons_succ]
        refine wpAnyH_take (i := 31) (v := ?_) (by simp only [List.getElem?_toArray, List.getElem?_cons_succ, List.getElem?_cons_zero]; rfl) (by kernel_rfl) (by kernel_rfl) (by kernel_rfl) (by intro _ _ _ h; exact h) (Or.inl ⟨by rfl, ?_⟩) hH ?_
        rotate_left
        · intro w' hSw
          obtain ⟨s0, s1, s2, s3, s4, s5, s6, s7, s8, s9, s10, s11, s12, s13, s14, s15⟩ := hSw
          go_simp
          try with_reducible rfl
        try simp only [Act.put, List.setIfInBounds_toArray, List.set_cons_zero]
        refine wpAnyH_done (by kernel_rfl) ?_ _
        have hEE := Lib.hid (Below.step HB0.out hH.1.out (Nat.le_refl _))
        have hN7 := (hH.1.out.size)
        clear hH
        go_wp2_with fail
        go_ret
        exact ⟨rfl, hEE.out, Nat.le_trans HN1.out hN7⟩
      refine AllReadyH.cons (o := _) (by simp only [List.getElem?_toArray, List.getElem?_cons_succ, List.getElem?_cons_zero]; rfl) (fun K hK => ?_) AllReadyH.nil
      go_simp
      have hl := InI.one ((wq8.alloc (.cells #[.int .i64 3, .int .i64 2, .slice none 0 0, .slice none 0 0, .int .i64 3, .int .i64 2, .slice none 0 0, .slice none 0 0] 29))) 2
      simp only [World.size_alloc] at hl
      have HJ := Lib.hid hl
      clear hl
      have hb7 : Below ((wq8.alloc (.cells #[.int .i64 3, .int .i64 2, .slice none 0 0, .slice none 0 0, .int .i64 3, .int .i64 2, .slice none 0 0, .slice none 0 0] 29))).heap.size (wq8.alloc (.cells #[.int .i64 3, .int .i64 2, .slice none 0 0, .slice none 0 0, .int .i64 3, .int .i64 2, .slice none 0 0, .slice none 0 0] 29)) ((wq8.alloc (.cells #[.int .i64 3, .int .i64 2, .slice none 0 0, .slice none 0 0, .int .i64 3, .int .i64 2, .slice none 0 0, .slice none 0 0] 29)).alloc (.cells #[.int .i64 2] 3)) := (Below.refl _ _).alloc (Nat.le_refl _) _
      have hX := Below.step hH.1.out hb7 (Nat.le_refl _)
      replace HL := Lib.hid (HL.out.later hb7)
      clear hH hb7
      refine hK.out _ _ ⟨Lib.hid hX, HNX.out _ hX⟩ (fun hH => ?_)
      clear hK K hX
      try simp only [Act.put, List.setIfInBounds_toArray, List.set_cons_zero, List.set_cons_succ]
      refine wpAnyH_ready (rs := [26]) (by kernel_rfl) (by simp) ?_
      refine AllReadyH.cons (o := _) (by simp only [List.getElem?_toArray, List.getElem?_cons_succ, List.getElem?_cons_zero]; rfl) (fun K hK => ?_) AllReadyH.nil
      go_simp
      go_at_call 14
      refine (tBind_any 4 _ 2 2 _).mono ?_
      rintro e wq11 ⟨rfl, hb7⟩
      have hX := Below.step hH.1.out hb7 (Nat.le_refl _)
      replace HL := Lib.hid (HL.out.later hb7)
      replace HJ := Lib.hid (HJ.out.later hb7)
      clear hH hb7
      refine hK.out _ _ ⟨Lib.hid hX, HNX.out _ hX⟩ (fun hH => ?_)
      clear hK K hX
      try simp only [Act.put, List.setIfInBounds_toArray, List.set_cons_zero, List.set_cons_succ]
      refine wpAnyH_ready (rs := [27]) (by kernel_rfl) (by simp) ?_
      refine AllReadyH.cons (o := _) (by simp only [List.getElem?_toArray, List.getElem?_cons_succ, List.getElem?_cons_zero]; rfl) (fun K hK => ?_) AllReadyH.nil
      go_simp
      go_at_call 18
      refine (HCN.out _ _ HL.out).mono ?_
      rintro e wq12 ⟨cx, cc, rfl, hc, hb7⟩
      have hX := Below.step hH.1.out hb7 (Nat.le_refl _)
      replace HJ := Lib.hid (HJ.out.later hb7)
      have HI := Lib.hid hc
      clear hc
      clear hH hb7 HL
      refine hK.out _ _ ⟨Lib.hid hX, HNX.out _ hX⟩ (fun hH => ?_)
      clear hK K hX
      try simp only [Act.put, List.setIfInBounds_toArray, List.set_cons_zero, List.set_cons_succ]
      refine wpAnyH_ready (rs := [29]) (by kernel_rfl) (by simp) ?_
      refine AllReadyH.cons (o := _) (by simp only [List.getElem?_toArray, List.getElem?_cons_succ, List.getElem?_cons_zero]; rfl) (fun K hK => ?_) AllReadyH.nil
      go_simp
      go_at_call 16
      refine (InI.same (zs := [2]) HI.out HJ.out).mono ?_
      rintro e wq13 ⟨rfl, hb7⟩
      have hX := Below.step hH.1.out hb7 (Nat.le_refl _)
      clear hH hb7 HI HJ
      refine hK.out _ _ ⟨Lib.hid hX, HNX.out _ hX⟩ (fun hH => ?_)
      clear hK K hX
      try simp only [Act.put, List.setIfInBounds_toArray, List.set_cons_zero, List.set_cons_succ]
      refine wpAnyH_take (i := 30) (v := ?_) (by simp only [List.getElem?_toArray, List.getElem?_cons_succ, List.getElem?_cons_zero]; rfl) (by kernel_rfl) (by kernel_rfl) (by kernel_rfl) (by intro _ _ _ h; exact h) (Or.inl ⟨by rfl, ?_⟩) hH ?_
      rotate_left
      · intro w' hSw
        obtain ⟨s0, s1, s2, s3, s4, s5, s6, s7, s8, s9, s10, s11, s12, s13, s14, s15⟩ := hSw
        go_simp
        try with_reducible rfl
      try simp only [Act.put, List.setIfInBounds_toArray, List.set_cons_zero, List.set_cons_succ]
      refine wpAnyH_take (i := 31) (v := ?_) (by simp only [List.getElem?_toArray, List.getElem?_cons_succ, List.getElem?_cons_zero]; rfl) (by kernel_rfl) (by kernel_rfl) (by kernel_rfl) (by intro _ _ _ h; exact h) (Or.inl ⟨by rfl, ?_⟩) hH ?_
      rotate_left
      · intro w' hSw
        obtain ⟨s0, s1, s2, s3, s4, s5, s6, s7, s8, s9, s10, s11, s12, s13, s14, s15⟩ := hSw
        go_simp
        try with_reducible rfl
      try simp only [Act.put, List.setIfInBounds_toArray, List.set_cons_zero]
      refine wpAnyH_done (by kernel_rfl) ?_ _
      have hEE := Lib.hid (Below.step HB0.out hH.1.out (Nat.le_refl _))
      have hN7 := (hH.1.out.size)
      clear hH
      go_wp2_with fail
      go_ret
      exact ⟨rfl, hEE.out, Nat.le_trans HN1.out hN7⟩
    refine AllReadyH.cons (o := _) (by simp only [List.getElem?_toArray, List.getElem?_cons_succ, List.getElem?_cons_zero]; rfl) (fun K hK => ?_) AllReadyH.nil
    go_simp
    have HJ := Lib.hid (InI.one (wq8) 2)
    have hb7 : Below (wq8).heap.size wq8 (wq8.alloc (.cells #[.int .i64 2] 3)) := (Below.refl _ _).alloc (Nat.le_refl _) _
    have hX := Below.step hH.1.out hb7 (Nat.le_refl _)
    clear hH hb7
    refine hK.out _ _ ⟨Lib.hid hX, HNX.out _ hX⟩ (fun hH => ?_)
    clear hK K hX
    try simp only [Act.put, List.setIfInBounds_toArray, List.set_cons_zero, List.set_cons_succ]
    refine wpAnyH_ready (rs := [25]) (by kernel_rfl) (by simp) ?_
    refine AllReadyH.cons (o := _) (by simp only [List.getElem?_toArray, List.getElem?_cons_succ, List.getElem?_cons_zero]; rfl) (fun K hK => ?_) AllReadyH.nil
    go_simp
    have hl := Lt2.new (qC_in ((wq8.alloc (.cells #[.int .i64 2] 3)))) (qC_in ((wq8.alloc (.cells #[.int .i64 2] 3))))
    simp only [World.size_alloc] at hl
    have HL := Lib.hid hl
    clear hl
    have hb7 : Below ((wq8.alloc (.cells #[.int .i64 2] 3))).heap.size (wq8.alloc (.cells #[.int .i64 2] 3)) ((wq8.alloc (.cells #[.int .i64 2] 3)).alloc (.cells #[.int .i64 3, .int .i64 2, .slice none 0 0, .slice none 0 0, .int .i64 3, .int .i64 2, .slice none 0 0, .slice none 0 0] 29)) := (Below.refl _ _).alloc (Nat.le_refl _) _
    have hX := Below.step hH.1.out hb7 (Nat.le_refl _)
    replace HJ := Lib.hid (HJ.out.later hb7)
    clear hH hb7
    refine hK.out _ _ ⟨Lib.hid hX, HNX.out _ hX⟩ (fun hH => ?_)
    clear hK K hX
    try simp only [Act.put, List.setIfInBounds_toArray, List.set_cons_zero, List.set_cons_succ]
    refine wpAnyH_ready (rs := [26]) (by kernel_rfl) (by simp) ?_
    refine AllReadyH.cons (o := _) (by simp only [List.getElem?_toArray, List.getElem?_cons_succ, List.getElem?_cons_zero]; rfl) (fun K hK => ?_) AllReadyH.nil
    go_simp
    go_at_call 14
    refine (tBind_any 4 _ 2 2 _).mono ?_
    rintro e wq11 ⟨rfl, hb7⟩
    have hX := Below.step hH.1.out hb7 (Nat.le_refl _)
    replace HJ := Lib.hid (HJ.out.later hb7)
    replace HL := Lib.hid (HL.out.later hb7)
    clear hH hb7
    refine hK.out _ _ ⟨Lib.hid hX, HNX.out _ hX⟩ (fun hH => ?_)
    clear hK K hX
    try simp only [Act.put, List.setIfInBounds_toArray, List.set_cons_zero, List.set_cons_succ]
    refine wpAnyH_ready (rs := [27]) (by kernel_rfl) (by simp) ?_
    refine AllReadyH.cons (o := _) (by simp only [List.getElem?_toArray, List.getElem?_cons_succ, List.getElem?_cons_zero]; rfl) (fun K hK => ?_) AllReadyH.nil
    go_simp
    go_at_call 18
    refine (HCN.out _ _ HL.out).mono ?_
    rintro e wq12 ⟨cx, cc, rfl, hc, hb7⟩
    have hX := Below.step hH.1.out hb7 (Nat.le_refl _)
    replace HJ := Lib.hid (HJ.out.later hb7)
    have HI := Lib.hid hc
    clear hc
    clear hH hb7 HL
    refine hK.out _ _ ⟨Lib.hid hX, HNX.out _ hX⟩ (fun hH => ?_)
    clear hK K hX
    try simp only [Act.put, List.setIfInBounds_toArray, List.set_cons_zero, List.set_cons_succ]
    refine wpAnyH_ready (rs := [29]) (by kernel_rfl) (by simp) ?_
    refine AllReadyH.cons (o := _) (by simp only [List.getElem?_toArray, List.getElem?_cons_succ, List.getElem?_cons_zero]; rfl) (fun K hK => ?_) AllReadyH.nil
    go_simp
    go_at_call 16
    refine (InI.same (zs := [2]) HI.out HJ.out).mono ?_
    rintro e wq13 ⟨rfl, hb7⟩
    have hX := Below.step hH.1.out hb7 (Nat.le_refl _)
    clear hH hb7 HI HJ
    refine hK.out _ _ ⟨Lib.hid hX, HNX.out _ hX⟩ (fun hH => ?_)
    clear hK K hX
    try simp only [Act.put, List.setIfInBounds_toArray, List.set_cons_zero, List.set_cons_succ]
    refine wpAnyH_take (i := 30) (v := ?_) (by simp only [List.getElem?_toArray, List.getElem?_cons_succ, List.getElem?_cons_zero]; rfl) (by kernel_rfl) (by kernel_rfl) (by kernel_rfl) (by intro _ _ _ h; exact h) (Or.inl ⟨by rfl, ?_⟩) hH ?_
    rotate_left
    · intro w' hSw
      obtain ⟨s0, s1, s2, s3, s4, s5, s6, s7, s8, s9, s10, s11, s12, s13, s14, s15⟩ := hSw
      go_simp
      try with_reducible rfl
    try simp only [Act.put, List.setIfInBounds_toArray, List.set_cons_zero, List.set_cons_succ]
    refine wpAnyH_take (i := 31) (v := ?_) (by simp only [List.getElem?_toArray, List.getElem?_cons_succ, List.getElem?_cons_zero]; rfl) (by kernel_rfl) (by kernel_rfl) (by kernel_rfl) (by intro _ _ _ h; exact h) (Or.inl ⟨by rfl, ?_⟩) hH ?_
    rotate_left
    · intro w' hSw
      obtain ⟨s0, s1, s2, s3, s4, s5, s6, s7, s8, s9, s10, s11, s12, s13, s14, s15⟩ := hSw
      go_simp
      try with_reducible rfl
    try simp only [Act.put, List.setIfInBounds_toArray, List.set_cons_zero]
    refine wpAnyH_done (by kernel_rfl) ?_ _
    have hEE := Lib.hid (Below.step HB0.out hH.1.out (Nat.le_refl _))
    have hN7 := (hH.1.out.size)
    clear hH
    go_wp2_with fail
    go_ret
    exact ⟨rfl, hEE.out, Nat.le_trans HN1.out hN7⟩
  refine AllReadyH.cons (o := _) (by simp only [List.getElem?_toArray, List.getElem?_cons_succ, List.getElem?_cons_zero]; rfl) (fun K hK => ?_) AllReadyH.nil
  go_simp
  have HJ := Lib.hid (InI.two (wq5) 0 1)
  have hb7 : Below (wq5).heap.size wq5 (wq5.alloc (.cells #[.int .i64 0, .int .i64 1] 3)) := (Below.refl _ _).alloc (Nat.le_refl _) _
  have hX := Below.step hH.1.out hb7 (Nat.le_refl _)
  clear hH hb7
  refine hK.out _ _ ⟨Lib.hid hX, HNX.out _ hX⟩ (fun hH => ?_)
  clear hK K hX
  try simp only [Act.put, List.setIfInBounds_toArray, List.set_cons_zero, List.set_cons_succ]
  refine wpAnyH_ready (rs := [18]) (by kernel_rfl) (by simp) ?_
  refine AllReadyH.cons (o := _) (by simp only [List.getElem?_toArray, List.getElem?_cons_succ, List.getElem?_cons_zero]; rfl) (fun K hK => ?_) AllReadyH.nil
  go_simp
  go_at_call 17
  refine (HMT.out _ hH.1.out).mono ?_
  rintro e wq7 ⟨mx, mc, rfl, hm, hb7⟩
  have hX := Below.step hH.1.out hb7 (Nat.le_refl _)
  replace HJ := Lib.hid (HJ.out.later hb7)
  have HI := Lib.hid hm
  clear hm
  clear hH hb7
  refine hK.out _ _ ⟨Lib.hid hX, HNX.out _ hX⟩ (fun hH => ?_)
  clear hK K hX
  try simp only [Act.put, List.setIfInBounds_toArray, List.set_cons_zero, List.set_cons_succ]
  refine wpAnyH_ready (rs := [20]) (by kernel_rfl) (by simp) ?_
  refine AllReadyH.cons (o := _) (by simp only [List.getElem?_toArray, List.getElem?_cons_succ, List.getElem?_cons_zero]; rfl) (fun K hK => ?_) AllReadyH.nil
  go_simp
  go_at_call 16
  refine (InI.same (zs := [0, 1]) HI.out HJ.out).mono ?_
  rintro e wq8 ⟨rfl, hb7⟩
  have hX := Below.step hH.1.out hb7 (Nat.le_refl _)
  clear hH hb7 HI HJ
  refine hK.out _ _ ⟨Lib.hid hX, HNX.out _ hX⟩ (fun hH => ?_)
  clear hK K hX
  try simp only [Act.put, List.setIfInBounds_toArray, List.set_cons_zero, List.set_cons_succ]
  refine wpAnyH_take (i := 21) (v := ?_) (by simp only [List.getElem?_toArray, List.getElem?_cons_succ, List.getElem?_cons_zero]; rfl) (by kernel_rfl) (by kernel_rfl) (by kernel_rfl) (by intro _ _ _ h; exact h) (Or.inl ⟨by rfl, ?_⟩) hH ?_
  rotate_left
  · intro w' hSw
    obtain ⟨s0, s1, s2, s3, s4, s5, s6, s7, s8, s9, s10, s11, s12, s13, s14, s15⟩ := hSw
    go_simp
    try with_reducible rfl
  try simp only [Act.put, List.setIfInBounds_toArray, List.set_cons_zero, List.set_cons_succ]
  refine wpAnyH_take (i := 22) (v := ?_) (by simp only [List.getElem?_toArray, List.getElem?_cons_succ, List.getElem?_cons_zero]; rfl) (by kernel_rfl) (by kernel_rfl) (by kernel_rfl) (by intro _ _ _ h; exact h) (Or.inl ⟨by rfl, ?_⟩) hH ?_
  rotate_left
  · intro w' hSw
    obtain ⟨s0, s1, s2, s3, s4, s5, s6, s7, s8, s9, s10, s11, s12, s13, s14, s15⟩ := hSw
    go_simp
    try with_reducible rfl
  try simp only [Act.put, List.setIfInBounds_toArray, List.set_cons_zero, List.set_cons_succ]
  refine wpAnyH_take (i := 23) (v := ?_) (by simp only [List.getElem?_toArray, List.getElem?_cons_succ, List.getElem?_cons_zero]; rfl) (by kernel_rfl) (by kernel_rfl) (by kernel_rfl) (by intro _ _ _ h; exact h) (Or.inl ⟨by rfl, ?_⟩) hH ?_
  rotate_left
  · intro w' hSw
    obtain ⟨s0, s1, s2, s3, s4, s5, s6, s7, s8, s9, s10, s11, s12, s13, s14, s15⟩ := hSw
    go_simp
    try with_reducible rfl
  try simp only [Act.put, List.setIfInBounds_toArray, List.set_cons_zero, List.set_cons_succ]
  refine wpAnyH_take (i := 24) (v := ?_) (by simp only [List.getElem?_toArray, List.getElem?_cons_succ, List.getElem?_cons_zero]; rfl) (by kernel_rfl) (by kernel_rfl) (by kernel_rfl) (by intro _ _ _ h; exact h) (Or.inl ⟨by rfl, ?_⟩) hH ?_
  rotate_left
  · intro w' hSw
    obtain ⟨s0, s1, s2, s3, s4, s5, s6, s7, s8, s9, s10, s11, s12, s13, s14, s15⟩ := hSw
    go_simp
    try with_reducible rfl
  try simp only [Act.put, List.setIfInBounds_toArray, List.set_cons_zero, List.set_cons_succ]
  refine wpAnyH_ready (rs := [25, 28]) (by kernel_rfl) (by simp) ?_
  refine AllReadyH.cons (o := _) (by simp only [List.getElem?_toArray, List.getElem?_cons_succ, List.getElem?_cons_zero]; rfl) (fun K hK => ?_) ?_
  · go_simp
    have HL := Lib.hid (Lt2.new (qC_in (wq8)) (qC_in (wq8)))
    have hb7 : Below (wq8).heap.size wq8 (wq8.alloc (.cells #[.int .i64 3, .int .i64 2, .slice none 0 0, .slice none 0 0, .int .i64 3, .int .i64 2, .slice none 0 0, .slice none 0 0] 29)) := (Below.refl _ _).alloc (Nat.le_refl _) _
    have hX := Below.step hH.1.out hb7 (Nat.le_refl _)
    clear hH hb7
    refine hK.out _ _ ⟨Lib.hid hX, HNX.out _ hX⟩ (fun hH => ?_)
    clear hK K hX
    try simp only [Act.put, List.setIfInBounds_toArray, List.set_cons_zero, List.set_cons_succ]
    refine wpAnyH_ready (rs := [26, 28]) (by kernel_rfl) (by simp) ?_
    refine AllReadyH.cons (o := _) (by simp only [List.getElem?_toArray, List.getElem?_cons_succ, List.getElem?_cons_zero]; rfl) (fun K hK => ?_) ?_
    · go_simp
      go_at_call 14
      refine (tBind_any 4 _ 2 2 _).mono ?_
      rintro e wq10 ⟨rfl, hb7⟩
      have hX := Below.step hH.1.out hb7 (Nat.le_refl _)
      replace HL := Lib.hid (HL.out.later hb7)
      clear hH hb7
      refine hK.out _ _ ⟨Lib.hid hX, HNX.out _ hX⟩ (fun hH => ?_)
      clear hK K hX
      try simp only [Act.put, List.setIfInBounds_toArray, List.set_cons_zero, List.set_cons_succ]
      refine wpAnyH_ready (rs := [27, 28]) (by kernel_rfl) (by simp) ?_
      refine AllReadyH.cons (o := _) (by simp only [List.getElem?_toArray, List.getElem?_cons_succ, List.getElem?_cons_zero]; rfl) (fun K hK => ?_) ?_
      · go_simp
        go_at_call 18
        refine (HCN.out _ _ HL.out).mono ?_
        rintro e wq11 ⟨cx, cc, rfl, hc, hb7⟩
        have hX := Below.step hH.1.out hb7 (Nat.le_refl _)
        have HI := Lib.hid hc
        clear hc
        clear hH hb7 HL
        refine hK.out _ _ ⟨Lib.hid hX, HNX.out _ hX⟩ (fun hH => ?_)
        clear hK K hX
        try simp only [Act.put, List.setIfInBounds_toArray, List.set_cons_zero, List.set_cons_succ]
        refine wpAnyH_ready (rs := [28]) (by kernel_rfl) (by simp) ?_
        refine AllReadyH.cons (o := _) (by simp only [List.getElem?_toArray, List.getElem?_cons_succ, List.getElem?_cons_zero]; rfl) (fun K hK => ?_) AllReadyH.nil
        go_simp
        have HJ := Lib.hid (InI.one (wq11) 2)
        have hb7 : Below (wq11).heap.size wq11 (wq11.alloc (.cells #[.int .i64 2] 3)) := (Below.refl _ _).alloc (Nat.le_refl _) _
        have hX := Below.step hH.1.out hb7 (Nat.le_refl _)
        replace HI := Lib.hid (HI.out.later hb7)
        clear hH hb7
        refine hK.out _ _ ⟨Lib.hid hX, HNX.out _ hX⟩ (fun hH => ?_)
        clear hK K hX
        try simp only [Act.put, List.setIfInBounds_toArray, List.set_cons_zero, List.set_cons_succ]
        refine wpAnyH_ready (rs := [29]) (by kernel_rfl) (by simp) ?_
        refine AllReadyH.cons (o := _) (by simp only [List.getElem?_toArray, List.getElem?_cons_succ, List.getElem?_cons_zero]; rfl) (fun K hK => ?_) AllReadyH.nil
        go_simp
        go_at_call 16
        refine (InI.same (zs := [2]) HI.out HJ.out).mono ?_
        rintro e wq13 ⟨rfl, hb7⟩
        have hX := Below.step hH.1.out hb7 (Nat.le_refl _)
        clear hH hb7 HI HJ
        refine hK.out _ _ ⟨Lib.hid hX, HNX.out _ hX⟩ (fun hH => ?_)
        clear hK K hX
        try simp only [Act.put, List.setIfInBounds_toArray, List.set_cons_zero, List.set_cons_succ]
        refine wpAnyH_take (i := 30) (v := ?_) (by simp only [List.getElem?_toArray, List.getElem?_cons_succ, List.getElem?_cons_zero]; rfl) (by kernel_rfl) (by kernel_rfl) (by kernel_rfl) (by intro _ _ _ h; exact h) (Or.inl ⟨by rfl, ?_⟩) hH ?_
        rotate_left
        · intro w' hSw
          obtain ⟨s0, s1, s2, s3, s4, s5, s6, s7, s8, s9, s10, s11, s12, s13, s14, s15⟩ := hSw
          go_simp
          try with_reducible rfl
        try simp only [Act.put, List.setIfInBounds_toArray, List.set_cons_zero, List.set_cons_succ]
        refine wpAnyH_take (i := 31) (v := ?_) (by simp only [List.getElem?_toArray, List.getElem?_cons_succ, List.getElem?_cons_zero]; rfl) (by kernel_rfl) (by kernel_rfl) (by kernel_rfl) (by intro _ _ _ h; exact h) (Or.inl ⟨by rfl, ?_⟩) hH ?_
        rotate_left
        · intro w' hSw
          obtain ⟨s0, s1, s2, s3, s4, s5, s6, s7, s8, s9, s10, s11, s12, s13, s14, s15⟩ := hSw
          go_simp
          try with_reducible rfl
        try simp only [Act.put, List.setIfInBounds_toArray, List.set_cons_zero]
        refine wpAnyH_done (by kernel_rfl) ?_ _
        have hEE := Lib.hid (Below.step HB0.out hH.1.out (Nat.le_refl _))
        have hN7 := (hH.1.out.size)
        clear hH
        go_wp2_with fail
        go_ret
        exact ⟨rfl, hEE.out, Nat.le_trans HN1.out hN7⟩
      refine AllReadyH.cons (o := _) (by simp only [List.getElem?_toArray, List.getElem?_cons_succ, List.getElem?_cons_zero]; rfl) (fun K hK => ?_) AllReadyH.nil
      go_simp
      have HJ := Lib.hid (InI.one (wq10) 2)
      have hb7 : Below (wq10).heap.size wq10 (wq10.alloc (.cells #[.int .i64 2] 3)) := (Below.refl _ _).alloc (Nat.le_refl _) _
      have hX := Below.step hH.1.out hb7 (Nat.le_refl _)
      replace HL := Lib.hid (HL.out.later hb7)
      clear hH hb7
      refine hK.out _ _ ⟨Lib.hid hX, HNX.out _ hX⟩ (fun hH => ?_)
      clear hK K hX
      try simp only [Act.put, List.setIfInBounds_toArray, List.set_cons_zero, List.set_cons_succ]
      refine wpAnyH_ready (rs := [27]) (by kernel_rfl) (by simp) ?_
      refine AllReadyH.cons (o := _) (by simp only [List.getElem?_toArray, List.getElem?_cons_succ, List.getElem?_cons_zero]; rfl) (fun K hK => ?_) AllReadyH.nil
      go_simp
      go_at_call 18
      refine (HCN.out _ _ HL.out).mono ?_
      rintro e wq12 ⟨cx, cc, rfl, hc, hb7⟩
      have hX := Below.step hH.1.out hb7 (Nat.le_refl _)
      replace HJ := Lib.hid (HJ.out.later hb7)
      have HI := Lib.hid hc
      clear hc
      clear hH hb7 HL
      refine hK.out _ _ ⟨Lib.hid hX, HNX.out _ hX⟩ (fun hH => ?_)
      clear hK K hX
      try simp only [Act.put, List.setIfInBounds_toArray, List.set_cons_zero, List.set_cons_succ]
      refine wpAnyH_ready (rs := [29]) (by kernel_rfl) (by simp) ?_
      refine AllReadyH.cons (o := _) (by simp only [List.getElem?_toArray, List.getElem?_cons_succ, List.getElem?_cons_zero]; rfl) (fun K hK => ?_) AllReadyH.nil
      go_simp
      go_at_call 16
      refine (InI.same (zs := [2]) HI.out HJ.out).mono ?_
      rintro e wq13 ⟨rfl, hb7⟩
      have hX := Below.step hH.1.out hb7 (Nat.le_refl _)
      clear hH hb7 HI HJ
      refine hK.out _ _ ⟨Lib.hid hX, HNX.out _ hX⟩ (fun hH => ?_)
      clear hK K hX
      try simp only [Act.put, List.setIfInBounds_toArray, List.set_cons_zero, List.set_cons_succ]
      refine wpAnyH_take (i := 30) (v := ?_) (by simp only [List.getElem?_toArray, List.getElem?_cons_succ, List.getElem?_cons_zero]; rfl) (by kernel_rfl) (by kernel_rfl) (by kernel_rfl) (by intro _ _ _ h; exact h) (Or.inl ⟨by rfl, ?_⟩) hH ?_
      rotate_left
      · intro w' hSw
        obtain ⟨s0, s1, s2, s3, s4, s5, s6, s7, s8, s9, s10, s11, s12, s13, s14, s15⟩ := hSw
        go_simp
        try with_reducible rfl
      try simp only [Act.put, List.setIfInBounds_toArray, List.set_cons_zero, List.set_cons_succ]
      refine wpAnyH_take (i := 31) (v := ?_) (by simp only [List.getElem?_toArray, List.getElem?_cons_succ, List.getElem?_cons_zero]; rfl) (by kernel_rfl) (by kernel_rfl) (by kernel_rfl) (by intro _ _ _ h; exact h) (Or.inl ⟨by rfl, ?_⟩) hH ?_
      rotate_left
      · intro w' hSw
        obtain ⟨s0, s1, s2, s3, s4, s5, s6, s7, s8, s9, s10, s11, s12, s13, s14, s15⟩ := hSw
        go_simp
        try with_reducible rfl
      try simp only [Act.put, List.setIfInBounds_toArray, List.set_cons_zero]
      refine wpAnyH_done (by kernel_rfl) ?_ _
      have hEE := Lib.hid (Below.step HB0.out hH.1.out (Nat.le_refl _))
      have hN7 := (hH.1.out.size)
      clear hH
      go_wp2_with fail
      go_ret
      exact ⟨rfl, hEE.out, Nat.le_trans HN1.out hN7⟩
    refine AllReadyH.cons (o := _) (by simp only [List.getElem?_toArray, List.getElem?_cons_succ, List.getElem?_cons_zero]; rfl) (fun K hK => ?_) AllReadyH.nil
    go_simp
    have hl := InI.one ((wq8.alloc (.cells #[.int .i64 3, .int .i64 2, .slice none 0 0, .slice none 0 0, .int .i64 3, .int .i64 2, .slice none 0 0, .slice none 0 0] 29))) 2
    simp only [World.size_alloc] at hl
    have HJ := Lib.hid hl
    clear hl
    have hb7 : Below ((wq8.alloc (.cells #[.int .i64 3, .int .i64 2, .slice none 0 0, .slice none 0 0, .int .i64 3, .int .i64 2, .slice none 0 0, .slice none 0 0] 29))).heap.size (wq8.alloc (.cells #[.int .i64 3, .int .i64 2, .slice none 0 0, .slice none 0 0, .int .i64 3, .int .i64 2, .slice none 0 0, .slice none 0 0] 29)) ((wq8.alloc (.cells #[.int .i64 3, .int .i64 2, .slice none 0 0, .slice none 0 0, .int .i64 3, .int .i64 2, .slice none 0 0, .slice none 0 0] 29)).alloc (.cells #[.int .i64 2] 3)) := (Below.refl _ _).alloc (Nat.le_refl _) _
    have hX := Below.step hH.1.out hb7 (Nat.le_refl _)
    replace HL := Lib.hid (HL.out.later hb7)
    clear hH hb7
    refine hK.out _ _ ⟨Lib.hid hX, HNX.out _ hX⟩ (fun hH => ?_)
    clear hK K hX
    try simp only [Act.put, List.setIfInBounds_toArray, List.set_cons_zero, List.set_cons_succ]
    refine wpAnyH_ready (rs := [26]) (by kernel_rfl) (by simp) ?_
    refine AllReadyH.cons (o := _) (by simp only [List.getElem?_toArray, List.getElem?_cons_succ, List.getElem?_cons_zero]; rfl) (fun K hK => ?_) AllReadyH.nil
    go_simp
    go_at_call 14
    refine (tBind_any 4 _ 2 2 _).mono ?_
    rintro e wq11 ⟨rfl, hb7⟩
    have hX := Below.step hH.1.out hb7 (Nat.le_refl _)
    replace HL := Lib.hid (HL.out.later hb7)
    replace HJ := Lib.hid (HJ.out.later hb7)
    clear hH hb7
    refine hK.out _ _ ⟨Lib.hid hX, HNX.out _ hX⟩ (fun hH => ?_)
    clear hK K hX
    try simp only [Act.put, List.setIfInBounds_toArray, List.set_cons_zero, List.set_cons_succ]
    refine wpAnyH_ready (rs := [27]) (by kernel_rfl) (by simp) ?_
    refine AllReadyH.cons (o := _) (by simp only [List.getElem?_toArray, List.getElem?_cons_succ, List.getElem?_cons_zero]; rfl) (fun K hK => ?_) AllReadyH.nil
    go_simp
    go_at_call 18
    refine (HCN.out _ _ HL.out).mono ?_
    rintro e wq12 ⟨cx, cc, rfl, hc, hb7⟩
    have hX := Below.step hH.1.out hb7 (Nat.le_refl _)
    replace HJ := Lib.hid (HJ.out.later hb7)
    have HI := Lib.hid hc
    clear hc
    clear hH hb7 HL
    refine hK.out _ _ ⟨Lib.hid hX, HNX.out _ hX⟩ (fun hH => ?_)
    clear hK K hX
    try simp only [Act.put, List.setIfInBounds_toArray, List.set_cons_zero, List.set_cons_succ]
    refine wpAnyH_ready (rs := [29]) (by kernel_rfl) (by simp) ?_
    refine AllReadyH.cons (o := _) (by simp only [List.getElem?_toArray, List.getElem?_cons_succ, List.getElem?_cons_zero]; rfl) (fun K hK => ?_) AllReadyH.nil
    go_simp
    go_at_call 16
    refine (InI.same (zs := [2]) HI.out HJ.out).mono ?_
    rintro e wq13 ⟨rfl, hb7⟩
    have hX := Below.step hH.1.out hb7 (Nat.le_refl _)
    clear hH hb7 HI HJ
    refine hK.out _ _ ⟨Lib.hid hX, HNX.out _ hX⟩ (fun hH => ?_)
    clear hK K hX
    try simp only [Act.put, List.setIfInBounds_toArray, List.set_cons_zero, List.set_cons_succ]
    refine wpAnyH_take (i := 30) (v := ?_) (by simp only [List.getElem?_toArray, List.getElem?_cons_succ, List.getElem?_cons_zero]; rfl) (by kernel_rfl) (by kernel_rfl) (by kernel_rfl) (by intro _ _ _ h; exact h) (Or.inl ⟨by rfl, ?_⟩) hH ?_
    rotate_left
    · intro w' hSw
      obtain ⟨s0, s1, s2, s3, s4, s5, s6, s7, s8, s9, s10, s11, s12, s13, s14, s15⟩ := hSw
      go_simp
      try with_reducible rfl
    try simp only [Act.put, List.setIfInBounds_toArray, List.set_cons_zero, List.set_cons_succ]
    refine wpAnyH_take (i := 31) (v := ?_) (by simp only [List.getElem?_toArray, List.getElem?_cons_succ, List.getElem?_cons_zero]; rfl) (by kernel_rfl) (by kernel_rfl) (by kernel_rfl) (by intro _ _ _ h; exact h) (Or.inl ⟨by rfl, ?_⟩) hH ?_
    rotate_left
    · intro w' hSw
      obtain ⟨s0, s1, s2, s3, s4, s5, s6, s7, s8, s9, s10, s11, s12, s13, s14, s15⟩ := hSw
      go_simp
      try with_reducible rfl
    try simp only [Act.put, List.setIfInBounds_toArray, List.set_cons_zero]
    refine wpAnyH_done (by kernel_rfl) ?_ _
    have hEE := Lib.hid (Below.step HB0.out hH.1.out (Nat.le_refl _))
    have hN7 := (hH.1.out.size)
    clear hH
    go_wp2_with fail
    go_ret
    exact ⟨rfl, hEE.out, Nat.le_trans HN1.out hN7⟩
  refine AllReadyH.cons (o := _) (by simp only [List.getElem?_toArray, List.getElem?_cons_succ, List.getElem?_cons_zero]; rfl) (fun K hK => ?_) AllReadyH.nil
  go_simp
  have HJ := Lib.hid (InI.one (wq8) 2)
  have hb7 : Below (wq8).heap.size wq8 (wq8.alloc (.cells #[.int .i64 2] 3)) := (Below.refl _ _).alloc (Nat.le_refl _) _
  have hX := Below.step hH.1.out hb7 (Nat.le_refl _)
  clear hH hb7
  refine hK.out _ _ ⟨Lib.hid hX, HNX.out _ hX⟩ (fun hH => ?_)
  clear hK K hX
  try simp only [Act.put, List.setIfInBounds_toArray, List.set_cons_zero, List.set_cons_succ]
  refine wpAnyH_ready (rs := [25]) (by kernel_rfl) (by simp) ?_
  refine AllReadyH.cons (o := _) (by simp only [List.getElem?_toArray, List.getElem?_cons_succ, List.getElem?_cons_zero]; rfl) (fun K hK => ?_) AllReadyH.nil
  go_simp
  have hl := Lt2.new (qC_in ((wq8.alloc (.cells #[.int .i64 2] 3)))) (qC_in ((wq8.alloc (.cells #[.int .i64 2] 3))))
  simp only [World.size_alloc] at hl
  have HL := Lib.hid hl
  clear hl
  have hb7 : Below ((wq8.alloc (.cells #[.int .i64 2] 3))).heap.size (wq8.alloc (.cells #[.int .i64 2] 3)) ((wq8.alloc (.cells #[.int .i64 2] 3)).alloc (.cells #[.int .i64 3, .int .i64 2, .slice none 0 0, .slice none 0 0, .int .i64 3, .int .i64 2, .slice none 0 0, .slice none 0 0] 29)) := (Below.refl _ _).alloc (Nat.le_refl _) _
  have hX := Below.step hH.1.out hb7 (Nat.le_refl _)
  replace HJ := Lib.hid (HJ.out.later hb7)
  clear hH hb7
  refine hK.out _ _ ⟨Lib.hid hX, HNX.out _ hX⟩ (fun hH => ?_)
  clear hK K hX
  try simp only [Act.put, List.setIfInBounds_toArray, List.set_cons_zero, List.set_cons_succ]
  refine wpAnyH_ready (rs := [26]) (by kernel_rfl) (by simp) ?_
  refine AllReadyH.cons (o := _) (by simp only [List.getElem?_toArray, List.getElem?_cons_succ, List.getElem?_cons_zero]; rfl) (fun K hK => ?_) AllReadyH.nil
  go_simp
  go_at_call 14
  refine (tBind_any 4 _ 2 2 _).mono ?_
  rintro e wq11 ⟨rfl, hb7⟩
  have hX := Below.step hH.1.out hb7 (Nat.le_refl _)
  replace HJ := Lib.hid (HJ.out.later hb7)
  replace HL := Lib.hid (HL.out.later hb7)
  clear hH hb7
  refine hK.out _ _ ⟨Lib.hid hX, HNX.out _ hX⟩ (fun hH => ?_)
  clear hK K hX
  try simp only [Act.put, List.setIfInBounds_toArray, List.set_cons_zero, List.set_cons_succ]
  refine wpAnyH_ready (rs := [27]) (by kernel_rfl) (by simp) ?_
  refine AllReadyH.cons (o := _) (by simp only [List.getElem?_toArray, List.getElem?_cons_succ, List.getElem?_cons_zero]; rfl) (fun K hK => ?_) AllReadyH.nil
  go_simp
  go_at_call 18
  refine (HCN.out _ _ HL.out).mono ?_
  rintro e wq12 ⟨cx, cc, rfl, hc, hb7⟩
  have hX := Below.step hH.1.out hb7 (Nat.le_refl _)
  replace HJ := Lib.hid (HJ.out.later hb7)
  have HI := Lib.hid hc
  clear hc
  clear hH hb7 HL
  refine hK.out _ _ ⟨Lib.hid hX, HNX.out _ hX⟩ (fun hH => ?_)
  clear hK K hX
  try simp only [Act.put, List.setIfInBounds_toArray, List.set_cons_zero, List.set_cons_succ]
  refine wpAnyH_ready (rs := [29]) (by kernel_rfl) (by simp) ?_
  refine AllReadyH.cons (o := _) (by simp only [List.getElem?_toArray, List.getElem?_cons_succ, List.getElem?_cons_zero]; rfl) (fun K hK => ?_) AllReadyH.nil
  go_simp
  go_at_call 16
  refine (InI.same (zs := [2]) HI.out HJ.out).mono ?_
  rintro e wq13 ⟨rfl, hb7⟩
  have hX := Below.step hH.1.out hb7 (Nat.le_refl _)
  clear hH hb7 HI HJ
  refine hK.out _ _ ⟨Lib.hid hX, HNX.out _ hX⟩ (fun hH => ?_)
  clear hK K hX
  try simp only [Act.put, List.setIfInBounds_toArray, List.set_cons_zero, List.set_cons_succ]
  refine wpAnyH_take (i := 30) (v := ?_) (by simp only [List.getElem?_toArray, List.getElem?_cons_succ, List.getElem?_cons_zero]; rfl) (by kernel_rfl) (by kernel_rfl) (by kernel_rfl) (by intro _ _ _ h; exact h) (Or.inl ⟨by rfl, ?_⟩) hH ?_
  rotate_left
  · intro w' hSw
    obtain ⟨s0, s1, s2, s3, s4, s5, s6, s7, s8, s9, s10, s11, s12, s13, s14, s15⟩ := hSw
    go_simp
    try with_reducible rfl
  try simp only [Act.put, List.setIfInBounds_toArray, List.set_cons_zero, List.set_cons_succ]
  refine wpAnyH_take (i := 31) (v := ?_) (by simp only [List.getElem?_toArray, List.getElem?_cons_succ, List.getElem?_cons_zero]; rfl) (by kernel_rfl) (by kernel_rfl) (by kernel_rfl) (by intro _ _ _ h; exact h) (Or.inl ⟨by rfl, ?_⟩) hH ?_
  rotate_left
  · intro w' hSw
    obtain ⟨s0, s1, s2, s3, s4, s5, s6, s7, s8, s9, s10, s11, s12, s13, s14, s15⟩ := hSw
    go_simp
    try with_reducible rfl
  try simp only [Act.put, List.setIfInBounds_toArray, List.set_cons_zero]
  refine wpAnyH_done (by kernel_rfl) ?_ _
  have hEE := Lib.hid (Below.step HB0.out hH.1.out (Nat.le_refl _))
  have hN7 := (hH.1.out.size)
  clear hH
  go_wp2_with fail
  go_ret
  exact ⟨rfl, hEE.out, Nat.le_trans HN1.out hN7⟩
end Go.Proofs.Ytcnhfoppfihhiaa
/- The contract of the program's Sub of levels once more: and where the answer lies, namely in the blocks in which the levels lie that were given, or in new ones. No condition but that the levels lie in memory. -/
namespace Go.Proofs.Ytcnhfoppfihhiaa
open Go.RowKit

/-- The levels that are put in: their slices stand in two variables, which may be newer than what they point to. -/
def SoAt (w : World) (B bp bq : Nat) (P Q : Fo) : Prop := bp < w.heap.size ∧ bq < w.heap.size ∧ (∃ a c, w.cell? ⟨bp, 0, none⟩ = some (.slice a P.len c) ∧ SlIn w (· < B) P a c) ∧ ∃ a c, w.cell? ⟨bq, 0, none⟩ = some (.slice a Q.len c) ∧ SlIn w (· < B) Q a c
theorem SoAt.later {w w' : World} {B bp bq : Nat} {P Q : Fo} (h : SoAt w B bp bq P Q) (hB : B ≤ w.heap.size) (hb : Below w.heap.size w w') : SoAt w' B bp bq P Q := by
  obtain ⟨h1, h2, ⟨a, c, h3, h4⟩, ⟨a', c', h5, h6⟩⟩ := h
  exact ⟨Nat.lt_of_lt_of_le h1 hb.size, Nat.lt_of_lt_of_le h2 hb.size, ⟨a, c, (bcell hb _ _ h1).trans h3, h4.below (hb.mono hB)⟩, ⟨a', c', (bcell hb _ _ h2).trans h5, h6.below (hb.mono hB)⟩⟩

set_option maxRecDepth 100000 in
set_option maxHeartbeats 4000000 in
theorem sub1_off (P Q : Fo) (B bp bq : Nat) (k n : Int) (hn : 0 ≤ n) (a : Option Addr) (len cap : Nat) (w : World) (hat : SoAt w B bp bq P Q) (hB : B ≤ w.heap.size) :
    Calls Try.prog 63 #[.agg #[.int .i64 k, .int .i64 n, .slice a len cap], .pointer (some ⟨bp, 0, none⟩), .pointer (some ⟨bq, 0, none⟩)] w (SvPost B (sv P Q k n) w) := by
  obtain ⟨hbp, hbq, ⟨ap, cp, p0, hsp⟩, ⟨aq, cq, q0, hsq⟩⟩ := hat
  have hw2 : Below w.heap.size w ((w.alloc (.cells #[.int .i64 k, .int .i64 n, .slice a len cap] 38)).alloc (.cells #[.int .i64 0, .int .i64 0, .slice none 0 0] 38)) := ((Below.refl _ _).alloc (Nat.le_refl _) _).alloc (by simp) _
  have p1 := (bcell hw2 bp 0 (by omega)).trans p0
  have q1 := (bcell hw2 bq 0 (by omega)).trans q0
  have HW := Lib.hid hw2
  have hNone : Hid (SvPost B none w (.returned (.tuple #[.agg #[.int .i64 0, .int .i64 0, .slice none 0 0], .bool false])) ((w.alloc (.cells #[.int .i64 k, .int .i64 n, .slice a len cap] 38)).alloc (.cells #[.int .i64 0, .int .i64 0, .slice none 0 0] 38))) := Lib.hid ⟨hw2, rfl⟩
  have hlp := hsp.len
  have hlq := hsq.len
  by_cases h5 : k = 5
  · subst h5
    by_cases hp : n < P.len
    · obtain ⟨i, rfl⟩ : ∃ i : Nat, n = i := ⟨n.toNat, by omega⟩
      rw [sv_5 hp, Int.toNat_natCast]
      obtain ⟨b, o, k', n', ks, a', cap', rfl, hbB, hg, e0, e1, e2, hs'⟩ := slGet hsp (i := i) (by omega)
      have e0' := (bcell hw2 b (o + i * 3) (by omega)).trans e0
      have e1' := (bcell hw2 b (o + i * 3 + 1) (by omega)).trans e1
      have e2' := (bcell hw2 b (o + i * 3 + 2) (by omega)).trans e2
      have hi0 : (0 : Int) ≤ (i : Int) := by omega
      rw [hg]
      have HS := Lib.hid hs'
      clear hw2 hNone hs' hg hsp hsq e0 e1 e2 p0 q0
      go_enter Try.func63, Try.ntmps63
      go_wp2_with fail
      refine bodyPost_ret (v := .tuple #[.agg #[.int .i64 k', .int .i64 n', .slice a' ks.len cap'], .bool true]) (by simp [results, Try.results63, go_sem]) rfl ?_
      exact ⟨((Below.refl _ _).alloc (Nat.le_refl _) _).alloc (by simp) _, k', n', ks, a', cap', rfl, rfl, HS.out⟩
    · rw [sv_5n hp]
      have d0 : decide (n < (P.len : Int)) = false := by simpa using hp
      clear hw2 hsp hsq p0 q0
      go_enter Try.func63, Try.ntmps63
      go_wp2_with fail
      refine bodyPost_ret (v := .tuple #[.agg #[.int .i64 0, .int .i64 0, .slice none 0 0], .bool false]) (by simp [results, Try.results63, go_sem]) rfl ?_
      exact hNone.out
  · by_cases h6 : k = 6
    · subst h6
      by_cases hp : n < Q.len
      · obtain ⟨i, rfl⟩ : ∃ i : Nat, n = i := ⟨n.toNat, by omega⟩
        rw [sv_6 hp, Int.toNat_natCast]
        obtain ⟨b, o, k', n', ks, a', cap', rfl, hbB, hg, e0, e1, e2, hs'⟩ := slGet hsq (i := i) (by omega)
        have e0' := (bcell hw2 b (o + i * 3) (by omega)).trans e0
        have e1' := (bcell hw2 b (o + i * 3 + 1) (by omega)).trans e1
        have e2' := (bcell hw2 b (o + i * 3 + 2) (by omega)).trans e2
        have hi0 : (0 : Int) ≤ (i : Int) := by omega
        rw [hg]
        have HS := Lib.hid hs'
        clear hw2 hNone hs' hg hsq hsp e0 e1 e2 p0 q0
        go_enter Try.func63, Try.ntmps63
        go_wp2_with fail
        refine bodyPost_ret (v := .tuple #[.agg #[.int .i64 k', .int .i64 n', .slice a' ks.len cap'], .bool true]) (by simp [results, Try.results63, go_sem]) rfl ?_
        exact ⟨((Below.refl _ _).alloc (Nat.le_refl _) _).alloc (by simp) _, k', n', ks, a', cap', rfl, rfl, HS.out⟩
      · rw [sv_6n hp]
        have d0 : decide (n < (Q.len : Int)) = false := by simpa using hp
        clear hw2 hsq hsp p0 q0
        go_enter Try.func63, Try.ntmps63
        go_wp2_with fail
        refine bodyPost_ret (v := .tuple #[.agg #[.int .i64 0, .int .i64 0, .slice none 0 0], .bool false]) (by simp [results, Try.results63, go_sem]) rfl ?_
        exact hNone.out
    · rw [sv_no h5 h6]
      have d5 : (k == 5) = false := beq_eq_false_iff_ne.2 h5
      have d6 : (k == 6) = false := beq_eq_false_iff_ne.2 h6
      clear hw2 hsp hsq p0 q0
      go_enter Try.func63, Try.ntmps63
      go_wp2_with fail
      refine bodyPost_ret (v := .tuple #[.agg #[.int .i64 0, .int .i64 0, .slice none 0 0], .bool false]) (by simp [results, Try.results63, go_sem]) rfl ?_
      exact hNone.out

set_option maxRecDepth 100000 in
set_option maxHeartbeats 4000000 in
theorem rep_off (P Q : Fo) (bp bq B : Nat) (s : Nat) : ∀ (f : Fo), f.size < s → f.size ≤ 1000 → ∀ (k n : Int) (a : Option Addr) (cap : Nat) (w : World), 0 ≤ n → noneg f → P.size ≤ 1000 → Q.size ≤ 1000 → SoAt w B bp bq P Q → SlIn w (· < B) f a cap → B ≤ w.heap.size →
    Calls Try.prog 62 #[.agg #[.int .i64 k, .int .i64 n, .slice a f.len cap], .func (.func 63) #[] #[.pointer (some ⟨bp, 0, none⟩), .pointer (some ⟨bq, 0, none⟩)]] w (RpPost B (sb1 P Q k n (sbF P Q f)) w) := by
  induction s with
  | zero => intro f hs; omega
  | succ s ih =>
    intro f hs hsz k n a cap w hn hnn hPs hQs hat hsl hB
    have IH := Lib.hid ih
    clear ih
    have hlen := hsl.len
    have HSL := Lib.hid hsl
    clear hsl
    have hn2 : Below w.heap.size w ((w.alloc (.cells #[.int .i64 k, .int .i64 n, .slice a f.len cap] 38)).alloc (.cells #[.int .i64 0, .int .i64 0, .slice none 0 0] 38)) := ((Below.refl _ _).alloc (Nat.le_refl _) _).alloc (by simp) _
    have HC1 := Lib.hid (sub1_off P Q B bp bq k n hn a f.len cap _ (hat.later hB hn2) (Nat.le_trans hB hn2.size))
    clear hn2
    obtain ⟨o, ho⟩ : ∃ o, sv P Q k n = o := ⟨_, rfl⟩
    have hT : sb1 P Q k n (sbF P Q f) = o.getD (.cons k n (sbF P Q f) .nil) := by unfold sb1; rw [ho]
    rw [hT]
    rw [ho] at HC1
    have HZ := Lib.hid (sv_size hPs hQs hn ho)
    clear hT ho
    cases o with
    | some T =>
      show Calls _ _ _ _ (RpPost B T w)
      go_enter Try.func62, Try.ntmps62
      go_wp2_with fail
      refine HC1.out.mono ?_
      rintro e w1 ⟨hb1, k1, n1, F1, x1, c1, rfl, rfl, hs1⟩
      have hb2 : Below (w.heap.size + 1 + 1) ((w.alloc (.cells #[.int .i64 k, .int .i64 n, .slice a f.len cap] 38)).alloc (.cells #[.int .i64 0, .int .i64 0, .slice none 0 0] 38)) w1 := by simpa using hb1
      obtain ⟨_, _, _, hw1, hb3⟩ := copy_box (k := k) (n := n) (len := f.len) hb2
      have hbo : Below w1.heap.size w1 (w1.alloc (.cells #[.int .i64 k1, .int .i64 n1, .slice x1 F1.len c1] 38)) := (Below.refl _ _).alloc (Nat.le_refl _) _
      have hBw : B ≤ w1.heap.size := Nat.le_trans hB hb3.size
      have HC2 := Lib.hid (copy_any (F1.size + 1) F1 (Nat.lt_succ_self _) (by have h1 := HZ.out; simp only [Option.getD, Fo.size] at h1; omega) k1 n1 x1 c1 B (w1.alloc (.cells #[.int .i64 k1, .int .i64 n1, .slice x1 F1.len c1] 38)) ((hs1.below (hb1.mono (by simp; omega))).below (hbo.mono hBw)) (Nat.le_trans hBw hbo.size))
      have HFI : Hid (∀ (e : Ending) (w3 : World), RpPost B (.cons k1 n1 F1 .nil) (w1.alloc (.cells #[.int .i64 k1, .int .i64 n1, .slice x1 F1.len c1] 38)) e w3 → ∃ (x2 : Option Addr) (c2 : Nat), e = .returned (.agg #[.int .i64 k1, .int .i64 n1, .slice x2 F1.len c2]) ∧
          w3.cell? ⟨w.heap.size + 1, 0, none⟩ = some (.int .i64 0) ∧ w3.cell? ⟨w.heap.size + 1, 1, none⟩ = some (.int .i64 0) ∧ w3.cell? ⟨w.heap.size + 1, 2, none⟩ = some (.slice none 0 0) ∧ (∀ o, w3.frozen? ⟨w.heap.size + 1, o, none⟩ = false) ∧ w.heap.size + 1 < w3.heap.size ∧
          Hid (RpPost B (.cons k1 n1 F1 .nil) w (.returned (.agg #[.int .i64 k1, .int .i64 n1, .slice x2 F1.len c2])) (((w3.setCell ⟨w.heap.size + 1, 0, none⟩ (.int .i64 k1)).setCell ⟨w.heap.size + 1, 1, none⟩ (.int .i64 n1)).setCell ⟨w.heap.size + 1, 2, none⟩ (.slice x2 F1.len c2)))) := Lib.hid (fun e w3 h => rep_store hb2 hB _ h)
      clear hb1 hb2 hb3 hbo hs1 HC1 HSL IH hat
      go_wp2_with fail
      refine HC2.out.mono ?_
      intro e w3 hP
      obtain ⟨x2, c2, rfl, g0, g1, g2, gz, hlt, HE⟩ := HFI.out e w3 hP
      clear hP
      go_wp2_with fail
      refine bodyPost_ret (v := .agg #[.int .i64 k1, .int .i64 n1, .slice x2 F1.len c2]) (by simp [results, Try.results62, go_sem, g0, g1, g2]) rfl ?_
      exact HE.out
    | none =>
      show Calls _ _ _ _ (RpPost B (.cons k n (sbF P Q f) .nil) w)
      go_enter Try.func62, Try.ntmps62
      go_wp2_with fail
      refine HC1.out.mono ?_
      rintro e w1 ⟨hb1, rfl⟩
      have hb2 : Below (w.heap.size + 1 + 1) ((w.alloc (.cells #[.int .i64 k, .int .i64 n, .slice a f.len cap] 38)).alloc (.cells #[.int .i64 0, .int .i64 0, .slice none 0 0] 38)) w1 := by simpa using hb1
      obtain ⟨k0, k1, k2, hw1, hb3⟩ := copy_box (k := k) (n := n) (len := f.len) hb2
      have HS : Hid (RpR w (w1.heap.size + 1) B k n .nil (.slice none 0 0) ((w1.alloc (.cells #[.int .i64 0, .int .i64 0, .slice none 0 0] 38)).alloc (.cells #[.int .i64 k, .int .i64 n, .slice none 0 0] 38))) := Lib.hid (RpR.start hb2 hB _)
      clear hb1 hb2
      have hw0 : w.heap.size < w1.heap.size := by omega
      have hz1 := heap_old w1 (.cells #[.int .i64 0, .int .i64 0, .slice none 0 0] 38) hw0
      have k3 := (World.cell?_of_block (w := w1) (a := ⟨w.heap.size, 0, none⟩) hz1).trans k0
      have k4 := (World.cell?_of_block (w := w1) (a := ⟨w.heap.size, 1, none⟩) hz1).trans k1
      have k5 := (World.cell?_of_block (w := w1) (a := ⟨w.heap.size, 2, none⟩) ((heap_old (w1.alloc (.cells #[.int .i64 0, .int .i64 0, .slice none 0 0] 38)) (.cells #[.int .i64 k, .int .i64 n, .slice none 0 0] 38) (by simp; omega)).trans hz1)).trans k2
      clear hz1 k1 k2
      go_wp2_with fail
      go_loopw [27] (fun jv wr => ∃ (j : Nat) (H rest : Fo) (v : Value), jv = .int .i64 j ∧ Hid (f = H.app rest) ∧ Hid (H.len = j) ∧ Hid (RpR w (w1.heap.size + 1) B k n (sbF P Q H) v wr)) (fun jv _ => f.len - (intOf jv).toNat)
      case atStart => exact ⟨0, .nil, f, _, rfl, Lib.hid rfl, Lib.hid rfl, HS⟩
      case round =>
        obtain ⟨j, H, rest, v, rfl, hf, hj, hR⟩ := hrel
        have hnH := noneg_app (f := H) (g := rest) (by rw [← hf.out]; exact hnn)
        have hGl := sbF_len P Q H hnH.1
        obtain ⟨g0, g1, g2, gz, q0, q1, q2, qz, hob, hwr⟩ := hR.out.facts
        cases rest with
        | nil =>
          rw [foApp_nil'] at hf
          clear hGl
          have hjl : ¬ (j : Int) < (f.len : Int) := by rw [hf.out, hj.out]; omega
          have dj : decide ((j : Int) < (f.len : Int)) = false := by simpa using hjl
          obtain ⟨x, c, rfl, hE⟩ := hR.out.done
          have HE := Lib.hid hE
          have HF := Lib.hid hf.out
          clear hE hR
          go_wp2_with fail
          refine bodyPost_ret (v := .agg #[.int .i64 k, .int .i64 n, .slice x (sbF P Q H).len c]) (by simp [results, Try.results62, go_sem, g0, g1, g2]) rfl ?_
          rw [HF.out]
          exact HE.out
        | cons k' n' ks r' =>
          have hjn : j < f.len := by rw [hf.out, Fo.app_len, hj.out]; simp [Fo.len]
          have hjl : (j : Int) < (f.len : Int) := by omega
          obtain ⟨b, o, rfl, hbB, hf0⟩ := HSL.out.some (by omega)
          have hfa : FoIn w (· < B) (.cons k' n' ks r') b (o + j * 3) := by
            have h1 := hf0
            rw [hf.out] at h1
            rw [← hj.out]
            exact FoIn.behind H _ b o h1
          obtain ⟨e0, e1, ⟨a', cap', e2, hsl'⟩, _⟩ := (hfa.below (hwr.mono hB) _ _ _ hbB).first
          have hks : ks.size < s := by
            have h1 := hs
            rw [hf.out, Fo.app_size] at h1
            simp only [Fo.size] at h1
            omega
          have hBr : B ≤ wr.heap.size := Nat.le_trans hB hwr.size
          have hbk : Below wr.heap.size wr (wr.alloc (.cells #[.int .i64 k', .int .i64 n', .slice a' ks.len cap'] 38)).drew := ((Below.refl _ _).alloc (Nat.le_refl _) _).drew
          have HC : Hid (Calls Try.prog 62 #[.agg #[.int .i64 k', .int .i64 n', .slice a' ks.len cap'], .func (.func 63) #[] #[.pointer (some ⟨bp, 0, none⟩), .pointer (some ⟨bq, 0, none⟩)]] (wr.alloc (.cells #[.int .i64 k', .int .i64 n', .slice a' ks.len cap'] 38)).drew (RpPost B (sb1 P Q k' n' (sbF P Q ks)) (wr.alloc (.cells #[.int .i64 k', .int .i64 n', .slice a' ks.len cap'] 38)).drew)) :=
            Lib.hid (IH.out ks hks (by have h1 := hsz; rw [hf.out, Fo.app_size] at h1; simp only [Fo.size] at h1; omega) k' n' a' cap' _ hnH.2.1 hnH.2.2.1 hPs hQs (hat.later hB (Below.step hwr hbk (Nat.le_refl _))) (hsl'.below (hbk.mono hBr)) (Nat.le_trans hBr hbk.size))
          have HAP : Hid (∀ (e : Ending) (w2 : World), RpPost B (sb1 P Q k' n' (sbF P Q ks)) (wr.alloc (.cells #[.int .i64 k', .int .i64 n', .slice a' ks.len cap'] 38)).drew e w2 → ∃ (k2 n2 : Int) (F2 : Fo) (x2 : Option Addr) (c2 : Nat), e = .returned (.agg #[.int .i64 k2, .int .i64 n2, .slice x2 F2.len c2]) ∧
              w2.cell? ⟨w1.heap.size + 1, 2, none⟩ = some v ∧ w1.heap.size + 1 < w2.heap.size ∧ (w2.alloc (.cells #[.int .i64 k2, .int .i64 n2, .slice x2 F2.len c2] 38)).cell? ⟨w1.heap.size + 1, 2, none⟩ = some v ∧
              ∃ g' cap' w3, Hid ((Builtin.append_ #[26, 26] 26 #[v, .slice (some ⟨w2.heap.size, 0, none⟩) 1 1]).run Try.prog (w2.alloc (.cells #[.int .i64 k2, .int .i64 n2, .slice x2 F2.len c2] 38)) = .ok (.slice (some ⟨g', 0, none⟩) (j + 1) cap') w3) ∧
                w3.cell? ⟨w1.heap.size + 1, 2, none⟩ = some v ∧ (∀ o, w3.frozen? ⟨w1.heap.size + 1, o, none⟩ = false) ∧ Hid (RpR w (w1.heap.size + 1) B k n (sbF P Q (H.app (.cons k' n' ks .nil))) (.slice (some ⟨g', 0, none⟩) (j + 1) cap') (w3.setCell ⟨w1.heap.size + 1, 2, none⟩ (.slice (some ⟨g', 0, none⟩) (j + 1) cap')))) := Lib.hid (by
            rintro e w2 ⟨k2, n2, F2, x2, c2, hT, rfl, t1, t2⟩
            have hT' : sbF P Q (H.app (.cons k' n' ks .nil)) = (sbF P Q H).app (.cons k2 n2 F2 .nil) := by rw [sbF_app, ← hT]; show (sbF P Q H).app ((sb1 P Q k' n' (sbF P Q ks)).app .nil) = _; rw [foApp_nil']
            have hG1 : (sbF P Q H).len ≤ 1000 := by rw [hGl]; have h1 := Fo.len_le_size f; rw [hf.out, Fo.app_len, Fo.app_size] at h1; rw [hf.out, Fo.app_size] at hsz; omega
            have t3 : SlIn w2 (fun b => (b < B ∨ wr.heap.size ≤ b) ∧ b < w2.heap.size) F2 x2 c2 := t1.weak (fun b hb => ⟨by have h1 := hb.1; simp at h1; omega, hb.2⟩)
            have t4 : Below wr.heap.size wr w2 := Below.trans (((Below.refl _ _).alloc (Nat.le_refl _) _).drew) (t2.mono (by simp))
            obtain ⟨L2, hlb2, g', cap', w3, hrun, L3, Z3, hN⟩ := RpR.next (k' := k2) (n' := n2) hR.out hG1 t3 t4
            rw [hGl, hj.out] at hrun hN
            rw [hT']
            exact ⟨k2, n2, F2, x2, c2, rfl, L2, hlb2, (World.cell?_of_block (w := w2) (a := ⟨w1.heap.size + 1, 2, none⟩) (heap_old w2 _ hlb2)).trans L2, g', cap', w3, Lib.hid hrun, L3, Z3, Lib.hid hN⟩)
          have HSN : Hid (f = (H.app (.cons k' n' ks .nil)).app r') := Lib.hid (by rw [hf.out, foApp_assoc']; rfl)
          have HJ := Lib.hid hj.out
          clear hf hR hfa hf0 hnH hGl g0 g1 g2 gz q0 q1 qz k0 hbk
          go_wp2_with fail
          go_region_law (first
            | (refine step_append (by rfl) _ _ _ (by rfl) (by rfl) (by rfl) HRUN.out ?_)
            | (go_simp; go_at_call 62; refine HC.out.mono ?_; intro e w2 hP; obtain ⟨k2, n2, F2, x2, c2, rfl, L2, hlb2, L2a, g', cap', w3, HRUN, L3, Z3, HN⟩ := HAP.out e w2 hP; clear hP))
          all_goals
            go_wp2_with fail
            go_roundw
            case rel => exact ⟨j + 1, _, r', _, by go_num, HSN, Lib.hid (by rw [Fo.app_len, HJ.out]; rfl), HN⟩
            case measure => simp [intOf]; omega

/-- Behind the level that was made: whether it is right, and what is answered then. -/
theorem su_finB {B : Nat} {w w4 : World} (hB : B ≤ w.heap.size) {k n k2 n2 : Int} {f P Q F2 : Fo} {a ap aq a2 : Option Addr} {cap cp cq c2 : Nat} (hok : okS P Q k n f = (true && (true && true))) (hT : sb1 P Q k n (sbF P Q f) = .cons k2 n2 F2 .nil) (hb : Below (w.heap.size + 1 + 1 + 1 + 1) (SuW w k n f P Q a ap aq cap cp cq) w4)
    {w3 : World} (hz : w.heap.size + 1 + 1 + 1 + 1 ≤ w3.heap.size) (hs : SlIn w4 (fun b => (b < B ∨ w3.heap.size ≤ b) ∧ b < w4.heap.size) F2 a2 c2) :
    (Calls Try.prog 60 #[.agg #[.int .i64 k2, .int .i64 n2, .slice a2 F2.len c2]] (w4.alloc (.cells #[.int .i64 k2, .int .i64 n2, .slice a2 F2.len c2] 38)) fun e w' => e = .returned (.bool (rightB 5 10 k2 n2 F2)) ∧ Below (w4.alloc (.cells #[.int .i64 k2, .int .i64 n2, .slice a2 F2.len c2] 38)).heap.size (w4.alloc (.cells #[.int .i64 k2, .int .i64 n2, .slice a2 F2.len c2] 38)) w') ∧
    ∀ w5, Below (w4.alloc (.cells #[.int .i64 k2, .int .i64 n2, .slice a2 F2.len c2] 38)).heap.size (w4.alloc (.cells #[.int .i64 k2, .int .i64 n2, .slice a2 F2.len c2] 38)) w5 →
      (rightB 5 10 k2 n2 F2 = true → SuPostB B (subT P Q k n f) (subE P Q k n f) w (.returned (.tuple #[.agg #[.int .i64 k2, .int .i64 n2, .slice a2 F2.len c2], .int .i64 0])) (((w5.setCell ⟨w.heap.size + 1 + 1 + 1, 0, none⟩ (.int .i64 k2)).setCell ⟨w.heap.size + 1 + 1 + 1, 1, none⟩ (.int .i64 n2)).setCell ⟨w.heap.size + 1 + 1 + 1, 2, none⟩ (.slice a2 F2.len c2))) ∧
      (rightB 5 10 k2 n2 F2 = false → SuPostB B (subT P Q k n f) (subE P Q k n f) w (.returned (.tuple #[.agg #[.int .i64 0, .int .i64 0, .slice none 0 0], .int .i64 2])) (((w5.setCell ⟨w.heap.size + 1 + 1 + 1, 0, none⟩ (.int .i64 0)).setCell ⟨w.heap.size + 1 + 1 + 1, 1, none⟩ (.int .i64 0)).setCell ⟨w.heap.size + 1 + 1 + 1, 2, none⟩ (.slice none 0 0))) := by
  have hbo : Below w4.heap.size w4 (w4.alloc (.cells #[.int .i64 k2, .int .i64 n2, .slice a2 F2.len c2] 38)) := (Below.refl _ _).alloc (Nat.le_refl _) _
  have hs4 : SlIn w4 (· < w4.heap.size) F2 a2 c2 := hs.weak (fun b hb => hb.2)
  refine ⟨sright_any k2 n2 F2 a2 c2 w4.heap.size _ (hs4.below hbo) hbo.size, fun w5 h5 => ⟨fun hr => ?_, fun hr => ?_⟩⟩
  · have h6 := suW_step (suW_step hb hbo) h5
    have hw5 := (suW_at h6).2.2.2.2
    have h45 : Below w4.heap.size w4 w5 := Below.step hbo h5 (Nat.le_refl _)
    have hE : subE P Q k n f = 0 := by
      unfold subE
      rw [hok, hT]
      show (if rightB 5 10 k2 n2 F2 = true then (0 : Int) else 2) = 0
      rw [if_pos hr]
    have hTT : subT P Q k n f = .cons k2 n2 F2 .nil := by unfold subT; rw [if_pos hE]; exact hT
    rw [hE, hTT]
    have hg := set3_only (w := w5) (w.heap.size + 1 + 1 + 1) (.int .i64 k2) (.int .i64 n2) (.slice a2 F2.len c2)
    refine ⟨k2, n2, F2, a2, c2, rfl, rfl, ?_, ?_⟩
    · refine ((hs.keep (fun b hb => h45.block b hb.2)).keep (w' := ((w5.setCell ⟨w.heap.size + 1 + 1 + 1, 0, none⟩ (.int .i64 k2)).setCell ⟨w.heap.size + 1 + 1 + 1, 1, none⟩ (.int .i64 n2)).setCell ⟨w.heap.size + 1 + 1 + 1, 2, none⟩ (.slice a2 F2.len c2)) (fun b hb => Only.block hg (Nat.lt_of_lt_of_le hb.2 h45.size) ?_)).weak (fun b hb => ?_)
      · have := hb.1; omega
      · exact ⟨by have := hb.1; omega, Nat.lt_of_lt_of_le hb.2 (Nat.le_trans h45.size hg.size)⟩
    · exact ⟨hg.os.trans hw5.1.os, hg.tape.trans hw5.1.tape, hg.output.trans hw5.1.output, Nat.le_trans hw5.1.size hg.size, fun q hq => (Only.block hg (by omega) (by omega)).trans (hw5.1.block q hq)⟩
  · have h6 := suW_step (suW_step hb hbo) h5
    have hw5 := (suW_at h6).2.2.2.2
    have hE : subE P Q k n f = 2 := by
      unfold subE
      rw [hok, hT]
      show (if rightB 5 10 k2 n2 F2 = true then (0 : Int) else 2) = 2
      rw [if_neg (by rw [hr]; simp)]
    have hTT : subT P Q k n f = .cons 0 0 .nil .nil := by unfold subT; rw [hE]; rfl
    rw [hE, hTT]
    exact SuPostB.no (((hw5.1.setCell (by simp; omega) _).setCell (by simp; omega) _).setCell (by simp; omega) _)
set_option maxRecDepth 100000 in
set_option maxHeartbeats 4000000 in
theorem sSub_off (P Q : Fo) (k n : Int) (f : Fo) (a ap aq : Option Addr) (cap cp cq B : Nat) (w : World) (hsl : SlIn w (· < B) f a cap) (hsp : SlIn w (· < B) P ap cp) (hsq : SlIn w (· < B) Q aq cq) (hB : B ≤ w.heap.size) :
    Calls Try.prog 43 #[.agg #[.int .i64 k, .int .i64 n, .slice a f.len cap], .slice ap P.len cp, .slice aq Q.len cq] w (SuPostB B (subT P Q k n f) (subE P Q k n f) w) := by
  have hb0 : Below (w.heap.size + 1 + 1 + 1 + 1) (SuW w k n f P Q a ap aq cap cp cq) (SuW w k n f P Q a ap aq cap cp cq) := Below.refl _ _
  have hlp := hsp.len
  have hlq := hsq.len
  have HL : Hid (∀ W, Below (w.heap.size + 1 + 1 + 1 + 1) (SuW w k n f P Q a ap aq cap cp cq) W → Calls Try.prog 60 #[.agg #[.int .i64 k, .int .i64 n, .slice a f.len cap]] W fun e w' => e = .returned (.bool (rightB 5 10 k n f)) ∧ Below W.heap.size W w') := Lib.hid (fun W h =>
    sright_any k n f a cap B W (hsl.below ((suW_at h).2.2.2.2.1.mono hB)) (by have := (suW_at h).2.2.2.2.2; omega))
  have HP : Hid (∀ W, Below (w.heap.size + 1 + 1 + 1 + 1) (SuW w k n f P Q a ap aq cap cp cq) W → Calls Try.prog 61 #[.slice ap P.len cp] W fun e w' => e = .returned (.bool (allR P)) ∧ Below W.heap.size W w') := Lib.hid (fun W h =>
    sallRight_any P ap cp B W (hsp.below ((suW_at h).2.2.2.2.1.mono hB)) (by have := (suW_at h).2.2.2.2.2; omega))
  have HQ : Hid (∀ W, Below (w.heap.size + 1 + 1 + 1 + 1) (SuW w k n f P Q a ap aq cap cp cq) W → Calls Try.prog 61 #[.slice aq Q.len cq] W fun e w' => e = .returned (.bool (allR Q)) ∧ Below W.heap.size W w') := Lib.hid (fun W h =>
    sallRight_any Q aq cq B W (hsq.below ((suW_at h).2.2.2.2.1.mono hB)) (by have := (suW_at h).2.2.2.2.2; omega))
  have HNO : Hid (okS P Q k n f = false → ∀ W, Below (w.heap.size + 1 + 1 + 1 + 1) (SuW w k n f P Q a ap aq cap cp cq) W → SuPostB B (subT P Q k n f) (subE P Q k n f) w (.returned (.tuple #[.agg #[.int .i64 0, .int .i64 0, .slice none 0 0], .int .i64 1])) (((W.setCell ⟨w.heap.size + 1 + 1 + 1, 0, none⟩ (.int .i64 0)).setCell ⟨w.heap.size + 1 + 1 + 1, 1, none⟩ (.int .i64 0)).setCell ⟨w.heap.size + 1 + 1 + 1, 2, none⟩ (.slice none 0 0))) := Lib.hid (fun h W hb => by
    rw [(okS_1 h).1, (okS_1 h).2]
    exact SuPostB.no ((((suW_at hb).2.2.2.2.1.setCell (by simp; omega) _).setCell (by simp; omega) _).setCell (by simp; omega) _))
  have HNO0 : Hid (okS P Q k n f = false → SuPostB B (subT P Q k n f) (subE P Q k n f) w (.returned (.tuple #[.agg #[.int .i64 0, .int .i64 0, .slice none 0 0], .int .i64 1])) (SuW w k n f P Q a ap aq cap cp cq)) := Lib.hid (fun h => by
    rw [(okS_1 h).1, (okS_1 h).2]
    exact SuPostB.no (suW_at hb0).2.2.2.2.1)
  by_cases h1 : P.len ≤ 5
  · have d1 : decide ((5 : Int) < (P.len : Int)) = false := by simp; omega
    by_cases h2 : Q.len ≤ 10
    · have d2 : decide ((10 : Int) < (Q.len : Int)) = false := by simp; omega
      have HOK : Hid (okS P Q k n f = (rightB 5 10 k n f && (allR P && allR Q))) := Lib.hid (by unfold okS; rw [decide_eq_true h1, decide_eq_true h2]; rfl)
      have HRP : Hid (∀ (W : World), Below (w.heap.size + 1 + 1 + 1 + 1) (SuW w k n f P Q a ap aq cap cp cq) W → rightB 5 10 k n f = true → allR P = true → allR Q = true → Calls Try.prog 62 #[.agg #[.int .i64 k, .int .i64 n, .slice a f.len cap], .func (.func 63) #[] #[.pointer (some ⟨w.heap.size + 1, 0, none⟩), .pointer (some ⟨w.heap.size + 1 + 1, 0, none⟩)]] W (RpPost B (sb1 P Q k n (sbF P Q f)) W)) := Lib.hid (fun W hb r1 r2 r3 => by
        obtain ⟨y1, y2, y3, y4, y5, y6⟩ := suW_at hb
        have yB := y5.mono hB
        have q1 := allR_size r2
        have q2 := allR_size r3
        obtain ⟨p1, p2, p3⟩ := right_parts r1
        exact rep_off P Q (w.heap.size + 1) (w.heap.size + 1 + 1) B (f.size + 1) f (Nat.lt_succ_self _) (by omega) k n a cap W p1 p2 (by omega) (by omega)
          ⟨by omega, by omega, ⟨ap, cp, cell_at y2 0, hsp.below yB⟩, ⟨aq, cq, cell_at y3 0, hsq.below yB⟩⟩ (hsl.below yB) (by omega))
      generalize hv : rightB 5 10 k n f = v at HL HOK HRP
      generalize hvp : allR P = vp at HP HOK HRP
      generalize hvq : allR Q = vq at HQ HOK HRP
      clear hv hvp hvq hsl hsp hsq
      have HB0 := Lib.hid hb0
      clear hb0
      go_enter Try.func43, Try.ntmps43
      go_wp2_with fail
      refine (HL.out _ HB0.out).mono ?_
      rintro e w1 ⟨rfl, hb1⟩
      have B1 : Hid (Below (w.heap.size + 1 + 1 + 1 + 1) (SuW w k n f P Q a ap aq cap cp cq) w1) := Lib.hid (suW_step HB0.out hb1)
      clear hb1
      obtain ⟨x1, x2, x3, x4, x5, x6, x7, x8, x9, x10⟩ := suW_cells B1.out
      cases v with
      | false =>
        have HE := Lib.hid (HNO.out HOK.out w1 B1.out)
        go_wp2_with fail
        refine bodyPost_ret (v := .tuple #[.agg #[.int .i64 0, .int .i64 0, .slice none 0 0], .int .i64 1]) (by simp [results, Try.results43, go_sem, x6, x7, x8]) rfl ?_
        exact HE.out
      | true =>
        go_wp2_with fail
        refine (HP.out _ B1.out).mono ?_
        rintro e w2 ⟨rfl, hb2⟩
        have B2 : Hid (Below (w.heap.size + 1 + 1 + 1 + 1) (SuW w k n f P Q a ap aq cap cp cq) w2) := Lib.hid (suW_step B1.out hb2)
        clear hb2 x1 x2 x3 x4 x5 x6 x7 x8 x9 x10
        obtain ⟨x1, x2, x3, x4, x5, x6, x7, x8, x9, x10⟩ := suW_cells B2.out
        cases vp with
        | false =>
          have HE := Lib.hid (HNO.out HOK.out w2 B2.out)
          go_wp2_with fail
          refine bodyPost_ret (v := .tuple #[.agg #[.int .i64 0, .int .i64 0, .slice none 0 0], .int .i64 1]) (by simp [results, Try.results43, go_sem, x6, x7, x8]) rfl ?_
          exact HE.out
        | true =>
          go_wp2_with fail
          refine (HQ.out _ B2.out).mono ?_
          rintro e w3 ⟨rfl, hb3⟩
          have B3 : Hid (Below (w.heap.size + 1 + 1 + 1 + 1) (SuW w k n f P Q a ap aq cap cp cq) w3) := Lib.hid (suW_step B2.out hb3)
          clear hb3 x1 x2 x3 x4 x5 x6 x7 x8 x9 x10
          obtain ⟨x1, x2, x3, x4, x5, x6, x7, x8, x9, x10⟩ := suW_cells B3.out
          cases vq with
          | false =>
            have HE := Lib.hid (HNO.out HOK.out w3 B3.out)
            go_wp2_with fail
            refine bodyPost_ret (v := .tuple #[.agg #[.int .i64 0, .int .i64 0, .slice none 0 0], .int .i64 1]) (by simp [results, Try.results43, go_sem, x6, x7, x8]) rfl ?_
            exact HE.out
          | true =>
            go_wp2_with fail
            refine (HRP.out _ B3.out trivial trivial trivial).mono ?_
            rintro e w4 ⟨k2, n2, F2, a2, c2, hT, rfl, t1, t2⟩
            have B4 : Hid (Below (w.heap.size + 1 + 1 + 1 + 1) (SuW w k n f P Q a ap aq cap cp cq) w4) := Lib.hid (suW_step B3.out t2)
            clear x1 x2 x3 x4 x5 x6 x7 x8 x9 x10
            have HF := Lib.hid (su_finB hB HOK.out hT B4.out (suW_at B3.out).2.2.2.2.2 t1)
            clear t1 t2
            have B5 : Hid (Below (w.heap.size + 1 + 1 + 1 + 1) (SuW w k n f P Q a ap aq cap cp cq) (w4.alloc (.cells #[.int .i64 k2, .int .i64 n2, .slice a2 F2.len c2] 38))) := Lib.hid (suW_step B4.out ((Below.refl _ _).alloc (Nat.le_refl _) _))
            have HR := Lib.hid HF.out.1
            have HF2 := Lib.hid HF.out.2
            clear HF hT
            generalize rightB 5 10 k2 n2 F2 = vr at HR HF2
            go_wp2_with fail
            refine HR.out.mono ?_
            rintro e w5 ⟨rfl, hb5⟩
            have B6 : Hid (Below (w.heap.size + 1 + 1 + 1 + 1) (SuW w k n f P Q a ap aq cap cp cq) w5) := Lib.hid (suW_step B5.out hb5)
            obtain ⟨x1, x2, x3, x4, x5, x6, x7, x8, x9, x10⟩ := suW_cells B6.out
            have y0 := (bcell (by simpa using hb5) w4.heap.size 0 (Nat.lt_succ_self _)).trans (cell_at (heap_new w4 (.cells #[.int .i64 k2, .int .i64 n2, .slice a2 F2.len c2] 38)) 0)
            have y1 := (bcell (by simpa using hb5) w4.heap.size 1 (Nat.lt_succ_self _)).trans (cell_at (heap_new w4 (.cells #[.int .i64 k2, .int .i64 n2, .slice a2 F2.len c2] 38)) 1)
            have y2 := (bcell (by simpa using hb5) w4.heap.size 2 (Nat.lt_succ_self _)).trans (cell_at (heap_new w4 (.cells #[.int .i64 k2, .int .i64 n2, .slice a2 F2.len c2] 38)) 2)
            simp at y0 y1 y2
            have HG := Lib.hid (HF2.out w5 hb5)
            clear hb5
            cases vr with
            | false =>
              have HE := Lib.hid (HG.out.2 rfl)
              clear HG
              go_wp2_with fail
              refine bodyPost_ret (v := .tuple #[.agg #[.int .i64 0, .int .i64 0, .slice none 0 0], .int .i64 2]) (by simp [results, Try.results43, go_sem, x6, x7, x8]) rfl ?_
              exact HE.out
            | true =>
              have HE := Lib.hid (HG.out.1 rfl)
              clear HG
              go_wp2_with fail
              refine bodyPost_ret (v := .tuple #[.agg #[.int .i64 k2, .int .i64 n2, .slice a2 F2.len c2], .int .i64 0]) (by simp [results, Try.results43, go_sem, x6, x7, x8]) rfl ?_
              exact HE.out
    · have d2 : decide ((10 : Int) < (Q.len : Int)) = true := by simp; omega
      have hok : okS P Q k n f = false := by unfold okS; rw [decide_eq_false h2]; simp
      have HE := Lib.hid (HNO0.out hok)
      clear hsl hsp hsq hb0
      go_enter Try.func43, Try.ntmps43
      go_wp2_with fail
      refine bodyPost_ret (v := .tuple #[.agg #[.int .i64 0, .int .i64 0, .slice none 0 0], .int .i64 1]) (by simp [results, Try.results43, go_sem]) rfl ?_
      exact HE.out
  · have d1 : decide ((5 : Int) < (P.len : Int)) = true := by simp; omega
    have hok : okS P Q k n f = false := by unfold okS; rw [decide_eq_false h1]; simp
    have HE := Lib.hid (HNO0.out hok)
    clear hsl hsp hsq hb0
    go_enter Try.func43, Try.ntmps43
    go_wp2_with fail
    refine bodyPost_ret (v := .tuple #[.agg #[.int .i64 0, .int .i64 0, .slice none 0 0], .int .i64 1]) (by simp [results, Try.results43, go_sem]) rfl ?_
    exact HE.out
end Go.Proofs.Ytcnhfoppfihhiaa
