/- The contracts of appendLevel and Put: a level's bytes behind those that are there already; a right level's bytes, or the refusal. -/
import Derived.Test.YtcgeipcffhfclaaLput
namespace Go.Proofs.Ytcgeipcffhfclaa
open Go.RowKit

/-- All numbers of the levels are small. -/
def SmF : Fo → Prop
  | .nil => True
  | .cons k n ks r => (0 ≤ k ∧ k ≤ 6 ∧ 0 ≤ n ∧ n ≤ 9) ∧ SmF ks ∧ SmF r
theorem SmF.app : ∀ {f g : Fo}, SmF (f.app g) → SmF f ∧ SmF g
  | .nil, _, h => ⟨trivial, h⟩
  | .cons .., _, h => ⟨⟨h.1, h.2.1, (SmF.app h.2.2).1⟩, (SmF.app h.2.2).2⟩
theorem smF_of : ∀ (F : Fo) (d : Int), rAll 5 10 F d = true → SmF F
  | .nil, _, _ => trivial
  | .cons k n ks r, d, h => by
    simp only [rAll, Bool.and_eq_true] at h
    have hc := rNode_cases h.1
    have hks : SmF ks := by
      rcases hc.2 with ⟨_, _, hl⟩ | ⟨_, _, _, hs⟩ | ⟨_, _, _, hs⟩ | ⟨_, _, _, hl⟩ | ⟨_, _, _, hl⟩
      · rw [Fo.len_zero hl]; trivial
      · exact smF_of ks _ hs
      · exact smF_of ks _ hs
      · rw [Fo.len_zero hl]; trivial
      · rw [Fo.len_zero hl]; trivial
    exact ⟨by omega, hks, smF_of r d h.2⟩
theorem encH_len {k n : Int} (h : 0 ≤ k ∧ k ≤ 6 ∧ 0 ≤ n ∧ n ≤ 9) : (encH k n).length ≤ 2 ∧ 1 ≤ (encH k n).length := by
  unfold encH
  rw [enc_small (by omega)]
  split
  · rw [enc_small (by omega)]; simp
  · simp
theorem encF_len : ∀ (F : Fo), SmF F → (encF F).length ≤ 2 * F.size
  | .nil, _ => by simp [encF]
  | .cons k n ks r, h => by
    have h1 := encH_len h.1
    have h2 := encF_len ks h.2.1
    have h3 := encF_len r h.2.2
    simp only [encF, List.length_append, Fo.size]; omega
theorem row_low {w : World} {base n : Nat} {e : TypeId} {v : Value} {xs : List Value} (h : w.ownsRow base e 1 v n xs) {b : Nat} (hb : b < base) : some b ≠ v.ownBlock := fun e1 => by
  have := (h.lt b e1.symm).1
  omega
theorem row_new {w : World} {base n : Nat} {e : TypeId} {v : Value} {xs : List Value} (h : w.ownsRow base e 1 v n xs) : some w.heap.size ≠ v.ownBlock := fun e1 => by
  have := (h.lt w.heap.size e1.symm).2
  omega
theorem owns_alloc {w : World} {base : Nat} {v : Value} {pre : List Int} (h : w.ownsRow base 5 1 v pre.length (u8s pre)) (o : Obj) : (w.alloc o).ownsRow base 5 1 v pre.length (u8s pre) := h.alloc o
theorem grown_alloc {w w' : World} {row : Option Nat} {o : Obj} (h : (w.alloc o).grownBy w' row) : w.grownBy w' row := grown_after (grown_below ((Below.refl _ _).alloc (Nat.le_refl _) o)) h
theorem Near.alloc {w : World} {o : Obj} {v v' : Value} (h : Near (w.alloc o) v v') : Near w v v' := by
  rcases h with h | h
  · exact .inl h
  · exact .inr (fun k hk => by have := h k hk; simp at this; omega)
/-- What stands in slots while the Kids are gone through. -/
def ApR (w : World) (base : Nat) (v : Value) (pre : List Int) (B : Nat) (F : Fo) (x : Option Addr) (o : Value) (j : Nat) (rr : Fo) (wr : World) : Prop :=
  ∃ done : Fo, done.app rr = F ∧ done.len = j ∧ wr.ownsRow base 5 1 o (pre ++ encF done).length (u8s (pre ++ encF done)) ∧ w.grownBy wr v.ownBlock ∧ Near w v o ∧ (∀ b i, x = some ⟨b, i, none⟩ → FoIn w (· < B) rr b (i + j * 3))
theorem ApR.end {w : World} {base : Nat} {v : Value} {pre h : List Int} {B : Nat} {F : Fo} {x : Option Addr} {o : Value} {j : Nat} {wr : World} (hr : ApR w base v (pre ++ h) B F x o j .nil wr) : ApOk w base v pre (h ++ encF F) (.returned o) wr := by
  obtain ⟨done, h1, _, h3, h4, h5, _⟩ := hr
  rw [Fo.app_nil] at h1
  subst h1
  rw [List.append_assoc] at h3
  exact ⟨o, rfl, h3, h4, h5⟩
theorem ApR.next {w : World} {base : Nat} {v : Value} {pre : List Int} {B : Nat} {F : Fo} {x : Option Addr} {o : Value} {j : Nat} {k n : Int} {ks r : Fo} {wr w2 : World} {ob : Obj} {v' : Value} (hr : ApR w base v pre B F x o j (.cons k n ks r) wr) {p2 : List Int}
    (hp : ∀ done : Fo, done.app (.cons k n ks r) = F → p2 = pre ++ encF done) (h : ApOk (wr.alloc ob) base o p2 (encL k n ks) (.returned v') w2) : ApR w base v pre B F x v' (j + 1) r w2 := by
  obtain ⟨done, h1, h2, h3, h4, h5, h6⟩ := hr
  obtain ⟨v2, e, g1, g2, g3⟩ := h
  injection e with e
  subst e
  have hp' := hp done h1
  subst hp'
  refine ⟨done.app (.cons k n ks .nil), by rw [Fo.app_assoc]; exact h1, by rw [Fo.app_len, h2]; rfl, by rw [encF_app, encF_one, ← List.append_assoc]; exact g1, ?_, ?_, ?_⟩
  · exact grown_trans h4 h5 (grown_alloc g2)
  · exact Near.trans h5 h4.size g3.alloc
  · rintro b i rfl
    have := (h6 b i rfl).2.2.2
    rwa [show i + (j + 1) * 3 = i + j * 3 + 3 by omega]
theorem low_keep {w wr : World} {base n B : Nat} {e : TypeId} {v : Value} {xs : List Value} (h : w.ownsRow base e 1 v n xs) (hg : w.grownBy wr v.ownBlock) (hB : B ≤ base) (hbase : base ≤ w.heap.size) : ∀ b, b < B → wr.heap[b]? = w.heap[b]? :=
  fun b hb => hg.block b (by omega) (row_low h (by omega))

theorem appNum_int (k : Int) (h0 : 0 ≤ k) (h1 : k ≤ 1000) (base : Nat) (v : Value) (pre : List Int) (w : World) (hown : w.ownsRow base 5 1 v pre.length (u8s pre)) (hbase : base ≤ w.heap.size) (hl : pre.length ≤ 1000000) :
    Calls Try.prog 30 #[v, .int .i64 k] w (ApOk w base v pre (enc k.toNat)) := by
  have := appNum_any k.toNat (by omega) base v pre w hown hbase hl
  rwa [show ((k.toNat : Nat) : Int) = k by omega] at this

set_option maxRecDepth 100000 in
set_option maxHeartbeats 4000000 in
theorem appLevel_any (s : Nat) : ∀ (F : Fo), F.size < s → ∀ (k n : Int) (x : Option Addr) (c B base : Nat) (v : Value) (pre : List Int) (w : World), SlIn w (· < B) F x c → B ≤ base → base ≤ w.heap.size → w.ownsRow base 5 1 v pre.length (u8s pre) →
    SmF (.cons k n F .nil) → (pre ++ encL k n F).length ≤ 100000 →
    Calls Try.prog 21 #[v, .agg #[.int .i64 k, .int .i64 n, .slice x F.len c]] w (ApOk w base v pre (encL k n F)) := by
  induction s with
  | zero => intro f hs; omega
  | succ s ih =>
    intro F hs k n x c B base v pre w hsl hB hbase hown hsm hpl
    have IH := Lib.hid ih
    clear ih
    have hlen := hsl.len
    have HSM := Lib.hid hsm
    obtain ⟨⟨hk0, hk6, hn0, hn9⟩, _, _⟩ := hsm
    have HPL := Lib.hid hpl
    have hpre : pre.length ≤ 100000 := by simp only [List.length_append] at hpl; omega
    have hpre2 : (pre ++ enc k.toNat).length ≤ 100010 := by
      have := enc_len6 (n := k.toNat) (by omega)
      simp only [List.length_append]; omega
    have HOWN := Lib.hid hown
    have HNW := Lib.hid (row_new hown)
    -- the head: the Kind, and perhaps the N
    have hcase : (k = 5 ∨ k = 6) ∨ ((k == 5) = false ∧ (k == 6) = false) := by
      by_cases h : k = 5 ∨ k = 6
      · exact .inl h
      · exact .inr ⟨beq_eq_false_iff_ne.2 (by omega), beq_eq_false_iff_ne.2 (by omega)⟩
    clear hpl hown
    have HB0 := Lib.hid (heap_new w (.cells #[.int .i64 k, .int .i64 n, .slice x F.len c] 28))
    have HKEY : Hid (∀ (v1 : Value) (w1 : World), ApOk (w.alloc (.cells #[.int .i64 k, .int .i64 n, .slice x F.len c] 28)) base v pre (encH k n) (.returned v1) w1 →
        w1.cell? ⟨w.heap.size, 2, none⟩ = some (.slice x F.len c) ∧ ApR w base v (pre ++ encH k n) B F x v1 0 F w1) := Lib.hid (by
      rintro v1 w1 ⟨v', e, g1, g2, g3⟩
      injection e with e
      subst e
      refine ⟨?_, .nil, rfl, rfl, by simpa [encF] using g1, grown_alloc g2, g3.alloc, ?_⟩
      · have := (g2.block w.heap.size (by simp) HNW.out).trans HB0.out
        exact cell_at this 2
      · rintro b i rfl
        simpa using hsl.foIn)
    have L : Hid (∀ (v1 : Value) (w1 : World), ApOk (w.alloc (.cells #[.int .i64 k, .int .i64 n, .slice x F.len c] 28)) base v pre (enc k.toNat) (.returned v1) w1 →
        w1.cell? ⟨w.heap.size, 0, none⟩ = some (.int .i64 k) ∧ w1.cell? ⟨w.heap.size, 1, none⟩ = some (.int .i64 n) ∧ w1.cell? ⟨w.heap.size, 2, none⟩ = some (.slice x F.len c) ∧ w1.ownsRow base 5 1 v1 (pre ++ enc k.toNat).length (u8s (pre ++ enc k.toNat)) ∧ base ≤ w1.heap.size) := Lib.hid (by
      rintro v1 w1 ⟨v', e, g1, g2, g3⟩
      injection e with e
      subst e
      have hb := (g2.block w.heap.size (by simp) HNW.out).trans HB0.out
      exact ⟨cell_at hb 0, cell_at hb 1, cell_at hb 2, g1, by have := g2.size; simp at this; omega⟩)
    have hways : (Hid (encH k n = enc k.toNat ++ enc n.toNat) ∧ ((k == 5) = true ∨ (k == 5) = false ∧ (k == 6) = true)) ∨ (Hid (encH k n = enc k.toNat) ∧ (k == 5) = false ∧ (k == 6) = false) := by
      rcases hcase with hc | ⟨q5, q6⟩
      · refine .inl ⟨Lib.hid (by unfold encH; rw [if_pos hc]), ?_⟩
        rcases hc with h | h
        · exact .inl (beq_iff_eq.2 h)
        · exact .inr ⟨beq_eq_false_iff_ne.2 (by omega), beq_iff_eq.2 h⟩
      · have h5 := beq_eq_false_iff_ne.1 q5
        have h6 := beq_eq_false_iff_ne.1 q6
        exact .inr ⟨Lib.hid (by unfold encH; rw [if_neg (by omega), List.append_nil]), q5, q6⟩
    clear hcase
    go_enter Try.func21, Try.ntmps21
    go_wp2_with fail
    refine (appNum_int k hk0 (by omega) base v pre _ (owns_alloc HOWN.out _) (by simp; omega) (by omega)).mono ?_
    rintro e w1 h1
    obtain ⟨v1, rfl, _⟩ := id h1
    obtain ⟨c0, c1, c2, o1, z1⟩ := L.out v1 w1 h1
    have H1 := Lib.hid h1
    have O1 := Lib.hid o1
    clear h1 o1 L
    rcases hways with ⟨HH, q5 | ⟨q5, q6⟩⟩ | ⟨HH, q5, q6⟩
    case' inl.inl =>
      go_wp2_with fail
      refine (appNum_int n hn0 (by omega) base v1 _ _ O1.out z1 (by omega)).mono ?_
      rintro e wS ⟨vS, rfl, k1, k2, k3⟩
      have HS : Hid (wS.cell? ⟨w.heap.size, 2, none⟩ = some (.slice x F.len c) ∧ ApR w base v (pre ++ encH k n) B F x vS 0 F wS) := Lib.hid (HKEY.out vS wS (by
        obtain ⟨v', e, g1, g2, g3⟩ := H1.out
        injection e with e
        subst e
        rw [HH.out]
        exact ⟨vS, rfl, by rw [← List.append_assoc]; exact k1, grown_trans g2 g3 k2, Near.trans g3 g2.size k3⟩))
      clear k1 k2 k3 H1 O1 HKEY c0 c1 c2
      have b2 := HS.out.1
      go_wp2_with fail
    case' inl.inr =>
      go_wp2_with fail
      refine (appNum_int n hn0 (by omega) base v1 _ _ O1.out z1 (by omega)).mono ?_
      rintro e wS ⟨vS, rfl, k1, k2, k3⟩
      have HS : Hid (wS.cell? ⟨w.heap.size, 2, none⟩ = some (.slice x F.len c) ∧ ApR w base v (pre ++ encH k n) B F x vS 0 F wS) := Lib.hid (HKEY.out vS wS (by
        obtain ⟨v', e, g1, g2, g3⟩ := H1.out
        injection e with e
        subst e
        rw [HH.out]
        exact ⟨vS, rfl, by rw [← List.append_assoc]; exact k1, grown_trans g2 g3 k2, Near.trans g3 g2.size k3⟩))
      clear k1 k2 k3 H1 O1 HKEY c0 c1 c2
      have b2 := HS.out.1
      go_wp2_with fail
    case' inr =>
      have HS : Hid (w1.cell? ⟨w.heap.size, 2, none⟩ = some (.slice x F.len c) ∧ ApR w base v (pre ++ encH k n) B F x v1 0 F w1) := Lib.hid (HKEY.out v1 w1 (by rw [HH.out]; exact H1.out))
      clear H1 O1 HKEY
      obtain ⟨vS, rfl⟩ : ∃ u, u = v1 := ⟨v1, rfl⟩
      obtain ⟨wS, rfl⟩ : ∃ u, u = w1 := ⟨w1, rfl⟩
      go_wp2_with fail
    all_goals
      go_loopw [0, 26] (fun o i wr => ∃ (j : Nat) (rr : Fo) (u : Value), u = o ∧ i = .int .i64 j ∧ Hid (j + rr.len = F.len) ∧ Hid (ApR w base v (pre ++ encH k n) B F x u j rr wr)) (fun _ i _ => F.len - (intOf i).toNat)
      case atStart => exact ⟨0, F, _, rfl, rfl, Lib.hid (by omega), Lib.hid HS.out.2⟩
      case round =>
        obtain ⟨j, rr, u, hou, rfl, hj, hR⟩ := hrel
        subst hou
        cases rr with
        | nil =>
          have hlt : ¬ (j : Int) < (F.len : Int) := by have := hj.out; simp [Fo.len] at this; omega
          have d' : decide ((j : Int) < (F.len : Int)) = false := by simpa using hlt
          go_wp2_with fail
          go_ret
          exact hR.out.end
        | cons k' n' ks r' =>
          have hlt : j < F.len := by have := hj.out; simp [Fo.len] at this; omega
          obtain ⟨b, o, rfl, hbB, hf0⟩ := hsl.some (by omega)
          have hR0 := hR.out
          obtain ⟨done, r1, r2, r3, r4, r5, r6⟩ := hR0
          have hkeep := low_keep HOWN.out r4 hB hbase
          obtain ⟨e0, e1, ⟨a', cap', e2, hsl'⟩, _⟩ := (FoIn.keep hkeep _ _ _ hbB (r6 b o rfl)).first
          have hsmd : Hid (SmF (.cons k' n' ks .nil)) := Lib.hid (by
            have h := HSM.out.2.1
            rw [← r1] at h
            have := (SmF.app h).2
            exact ⟨this.1, this.2.1, trivial⟩)
          have hks : Hid (ks.size < s) := Lib.hid (by have := congrArg Fo.size r1; rw [Fo.app_size] at this; simp only [Fo.size] at this; omega)
          have hpl' : Hid (((pre ++ encH k n ++ encF done) ++ encL k' n' ks).length ≤ 100000) := Lib.hid (by
            have h := HPL.out
            rw [encL, ← r1, encF_app] at h
            simp only [encF, encL, List.length_append] at h ⊢
            omega)
          have O3 := Lib.hid r3
          have HZ : Hid (base ≤ wr.heap.size) := Lib.hid (Nat.le_trans hbase r4.size)
          have HUN : Hid (∀ done' : Fo, done'.app (.cons k' n' ks r') = F → pre ++ encH k n ++ encF done = pre ++ encH k n ++ encF done') := Lib.hid (fun done' h' => by
            have h1 : done'.len = done.len := by
              have a := congrArg Fo.len h'
              have b := congrArg Fo.len r1
              rw [Fo.app_len] at a b
              omega
            have := (Fo.app_eq (i := done') (j := done) (g := .cons k' n' ks r') (h := .cons k' n' ks r') h1).1 (h'.trans r1.symm)
            rw [this.1])
          have HSL : Hid (SlIn wr (· < B) ks a' cap') := Lib.hid hsl'
          clear r1 r2 r3 r4 r5 r6 hkeep hsl' hf0
          go_wp2_with fail
          refine (IH.out ks hks.out k' n' a' cap' B base u _ _ (by exact HSL.out.below ((Below.refl _ _).alloc (Nat.le_trans hB HZ.out) _)) hB (by have := HZ.out; simp; omega) (owns_alloc O3.out _) hsmd.out hpl'.out).mono ?_
          rintro e w2 h2
          obtain ⟨v2, rfl, _⟩ := id h2
          have HN := Lib.hid (hR.out.next HUN.out h2)
          clear h2 O3 HSL e0 e1 e2
          go_wp2_with fail
          go_roundw
          case rel => exact ⟨j + 1, r', v2, rfl, by go_num, Lib.hid (by have := hj.out; simp [Fo.len] at this; omega), HN⟩
          case measure => simp [intOf]; omega
end Go.Proofs.Ytcgeipcffhfclaa
