/- The contracts of Put, of the document's own text of a level and of its own Put: a right level's bytes, or the refusal; they only make new memory. -/
import Derived.Test.YtcgeipcffhfclaaLput2
import Derived.Test.YtcgeipcffhfclaaRput
import Derived.Test.YtcgeipcffhfclaaRRight
namespace Go.Proofs.Ytcgeipcffhfclaa
open Go.RowKit

theorem rightB_parts {k n : Int} {F : Fo} (h : rightB 5 10 k n F = true) : F.size + 1 ≤ 100 ∧ rNode 5 10 k n F.len 12 (rAll 5 10 F 11) = true := by
  simp only [rightB, Bool.and_eq_true, decide_eq_true_eq] at h
  exact ⟨h.2.1, h.2.2⟩
theorem right_sm {k n : Int} {F : Fo} (h : rightB 5 10 k n F = true) : SmF (.cons k n F .nil) :=
  smF_of (.cons k n F .nil) 12 (by simp [rAll, (rightB_parts h).2])
theorem right_len {k n : Int} {F : Fo} (h : rightB 5 10 k n F = true) : (encL k n F).length ≤ 200 ∧ 1 ≤ (encL k n F).length := by
  have h1 := right_sm h
  have h2 := encH_len h1.1
  have h3 := encF_len F h1.2.1
  have h4 := (rightB_parts h).1
  simp only [encL, List.length_append]; omega
/-- What both Puts answer. -/
def lputV (k n : Int) (F : Fo) : Value := if rightB 5 10 k n F = true then .tuple #[.string (strOfNums (encL k n F)), .int .i64 0] else .tuple #[.string (strOfNums []), .int .i64 1]
theorem lputV_yes {k n : Int} {F : Fo} (h : rightB 5 10 k n F = true) : lputV k n F = .tuple #[.string (strOfNums (encL k n F)), .int .i64 0] := if_pos h
theorem lputV_no {k n : Int} {F : Fo} (h : rightB 5 10 k n F = false) : lputV k n F = .tuple #[.string (strOfNums []), .int .i64 1] := if_neg (by rw [h]; simp)

/-- A row of bytes that the call owns, turned into a string. -/
theorem conv_row {w : World} {base : Nat} {v : Value} {l : List Int} (h : w.ownsRow base 5 1 v l.length (u8s l)) (hl : 1 ≤ l.length) :
    (convert 24 9 v).run Try.prog w = .ok (.string (strOfNums l)) w := by
  obtain ⟨k, hk⟩ : ∃ k, l.length = k + 1 := ⟨l.length - 1, by omega⟩
  have h' := h
  rw [hk] at h'
  obtain ⟨g, cap, rfl⟩ := ownsRow_succ h'
  exact run_convert_bytes_arg (P := Try.prog) w 24 5 Try.underlying24 Try.underlying5 g 0 (k + 1) cap l hk (fun i hi => by
    have := h'.cellAt i (by omega)
    simp only [Nat.zero_add]
    rw [this, u8s, List.getElem?_map, List.getD_eq_getElem?_getD, List.getElem?_eq_getElem (by omega)]; rfl) 9 Try.underlying9
theorem boxed3 {w w1 : World} {x y z : Value} (hb : Below (w.alloc (.cells #[x, y, z] 28)).heap.size (w.alloc (.cells #[x, y, z] 28)) w1) :
    w1.cell? ⟨w.heap.size, 0, none⟩ = some x ∧ w1.cell? ⟨w.heap.size, 1, none⟩ = some y ∧ w1.cell? ⟨w.heap.size, 2, none⟩ = some z ∧ w.heap.size < w1.heap.size := by
  have h := (hb.block w.heap.size (by simp)).trans (heap_new w (.cells #[x, y, z] 28))
  exact ⟨cell_at h 0, cell_at h 1, cell_at h 2, lt_of_block h⟩

set_option maxRecDepth 100000 in
set_option maxHeartbeats 2000000 in
theorem lPut_any (k n : Int) (F : Fo) (x : Option Addr) (c B : Nat) (w : World) (hsl : SlIn w (· < B) F x c) (hB : B ≤ w.heap.size) :
    Calls Try.prog 13 #[.agg #[.int .i64 k, .int .i64 n, .slice x F.len c]] w fun e w' => e = .returned (lputV k n F) ∧ Below w.heap.size w w' := by
  have HR := Lib.hid (fun (W : World) (h1 : SlIn W (· < B) F x c) (h2 : B ≤ W.heap.size) => Right_any 5 10 k n F x c B W h1 h2)
  have hbx : Below w.heap.size w (w.alloc (.cells #[.int .i64 k, .int .i64 n, .slice x F.len c] 28)) := (Below.refl _ _).alloc (Nat.le_refl _) _
  have hs1 := hsl.below (hbx.mono hB)
  cases hv : rightB 5 10 k n F with
  | false =>
    rw [lputV_no hv]
    rw [hv] at HR
    clear hv
    go_enter Try.func13, Try.ntmps13
    go_wp2_with fail
    refine (HR.out _ hs1 (by simp; omega)).mono ?_
    rintro e w1 ⟨rfl, hb1⟩
    go_wp2_with fail
    go_ret2
    exact ⟨rfl, Below.step hbx hb1 (Nat.le_refl _)⟩
  | true =>
    rw [lputV_yes hv]
    have HSM := Lib.hid (right_sm hv)
    have HLN := Lib.hid (right_len hv)
    rw [hv] at HR
    clear hv
    go_enter Try.func13, Try.ntmps13
    go_wp2_with fail
    refine (HR.out _ hs1 (by simp; omega)).mono ?_
    rintro e w1 ⟨rfl, hb1⟩
    obtain ⟨c0, c1, c2, z1⟩ := boxed3 hb1
    have hw1 := Lib.hid (Below.step hbx hb1 (Nat.le_refl _))
    have hs2 := Lib.hid (hsl.below (hw1.out.mono hB))
    clear hb1 hs1
    go_wp2_with fail
    refine (appLevel_any (F.size + 1) F (Nat.lt_succ_self _) k n x c B w1.heap.size (.slice none 0 0) [] w1 hs2.out (by omega) (Nat.le_refl _) (World.ownsRow_nil _ _ _ _) HSM.out (by have := HLN.out; simp; omega)).mono ?_
    rintro e w2 ⟨v2, rfl, o2, g2, _⟩
    rw [List.nil_append] at o2
    have hcv := conv_row o2 HLN.out.2
    have HB2 : Hid (Below w.heap.size w w2) := Lib.hid (hw1.out.trans ⟨g2.os, g2.tape, g2.output, g2.size, fun i hi => g2.block i (by omega) (by simp [Value.ownBlock])⟩)
    clear o2 g2 c0 c1 c2
    go_wp2
    go_ret2
    exact ⟨rfl, HB2.out⟩

/-- What stands in slots while the document's own text goes through the Kids. -/
def TxR (w : World) (B : Nat) (F : Fo) (x : Option Addr) (pre : List Int) (t : ByteArray) (j : Nat) (rr : Fo) : Prop :=
  ∃ done : Fo, done.app rr = F ∧ done.len = j ∧ t = strOfNums (pre ++ encF done) ∧ (∀ b i, x = some ⟨b, i, none⟩ → FoIn w (· < B) rr b (i + j * 3))
theorem rput_int (k : Int) (h0 : 0 ≤ k) (h1 : k ≤ 1000) (w : World) : Calls Try.prog 32 #[.int .i64 k] w fun e w' => e = .returned (.tuple #[.string (strOfNums (enc k.toNat)), .int .i64 0]) ∧ Below w.heap.size w w' := by
  have := rput_any k.toNat (by omega) w
  rwa [show ((k.toNat : Nat) : Int) = k by omega] at this
set_option maxRecDepth 100000 in
set_option maxHeartbeats 4000000 in
theorem rtext_any (s : Nat) : ∀ (F : Fo), F.size < s → ∀ (k n : Int) (x : Option Addr) (c B : Nat) (w : World), SlIn w (· < B) F x c → B ≤ w.heap.size → SmF (.cons k n F .nil) → (encL k n F).length ≤ 1000 →
    Calls Try.prog 23 #[.agg #[.int .i64 k, .int .i64 n, .slice x F.len c]] w fun e w' => e = .returned (.string (strOfNums (encL k n F))) ∧ Below w.heap.size w w' := by
  induction s with
  | zero => intro f hs; omega
  | succ s ih =>
    intro F hs k n x c B w hsl hB hsm hpl
    have IH := Lib.hid ih
    clear ih
    have hlen := hsl.len
    have HSM := Lib.hid hsm
    obtain ⟨⟨hk0, hk6, hn0, hn9⟩, _, _⟩ := hsm
    have HPL := Lib.hid hpl
    have hek : (enc k.toNat).length ≤ 1000 := by have := enc_len6 (n := k.toNat) (by omega); omega
    have hen : (enc n.toNat).length ≤ 1000 := by have := enc_len6 (n := n.toNat) (by omega); omega
    have hbx : Below w.heap.size w (w.alloc (.cells #[.int .i64 k, .int .i64 n, .slice x F.len c] 28)) := (Below.refl _ _).alloc (Nat.le_refl _) _
    clear hpl
    have hways : (Hid (encH k n = enc k.toNat ++ enc n.toNat) ∧ ((k == 5) = true ∨ (k == 5) = false ∧ (k == 6) = true)) ∨ (Hid (encH k n = enc k.toNat) ∧ (k == 5) = false ∧ (k == 6) = false) := by
      by_cases hc : k = 5 ∨ k = 6
      · refine .inl ⟨Lib.hid (by unfold encH; rw [if_pos hc]), ?_⟩
        rcases hc with h | h
        · exact .inl (beq_iff_eq.2 h)
        · exact .inr ⟨beq_eq_false_iff_ne.2 (by omega), beq_iff_eq.2 h⟩
      · exact .inr ⟨Lib.hid (by unfold encH; rw [if_neg (by omega), List.append_nil]), beq_eq_false_iff_ne.2 (by omega), beq_eq_false_iff_ne.2 (by omega)⟩
    go_enter Try.func23, Try.ntmps23
    go_wp2_with fail
    refine (rput_int k hk0 (by omega) _).mono ?_
    rintro e w1 ⟨rfl, hb1⟩
    obtain ⟨c0, c1, c2, z1⟩ := boxed3 hb1
    rcases hways with ⟨HH, q5 | ⟨q5, q6⟩⟩ | ⟨HH, q5, q6⟩
    case' inl.inl =>
      go_wp2_with fail
      refine (rput_int n hn0 (by omega) _).mono ?_
      rintro e wS ⟨rfl, hb2⟩
      have HBS := Lib.hid (Below.step hb1 hb2 (Nat.le_refl _))
      have hadd := add_nums (enc k.toNat) (enc n.toNat) hek hen
      rw [← HH.out] at hadd
      clear hb1 hb2 c0 c1 c2
      go_wp2_with fail
    case' inl.inr =>
      go_wp2_with fail
      refine (rput_int n hn0 (by omega) _).mono ?_
      rintro e wS ⟨rfl, hb2⟩
      have HBS := Lib.hid (Below.step hb1 hb2 (Nat.le_refl _))
      have hadd := add_nums (enc k.toNat) (enc n.toNat) hek hen
      rw [← HH.out] at hadd
      clear hb1 hb2 c0 c1 c2
      go_wp2_with fail
    case' inr =>
      have HBS := Lib.hid hb1
      obtain ⟨wS, rfl⟩ : ∃ u, u = w1 := ⟨w1, rfl⟩
      have hadd := HH.out
      rw [← HH.out]
      clear hb1 hadd
      go_wp2_with fail

    all_goals
      go_loopw [3, 7] (fun o i wr => ∃ (j : Nat) (rr : Fo) (t : ByteArray), o = .string t ∧ i = .int .i64 j ∧ Hid (j + rr.len = F.len) ∧ Hid (TxR w B F x (encH k n) t j rr) ∧ Below (w.heap.size + 1) (w.alloc (.cells #[.int .i64 k, .int .i64 n, .slice x F.len c] 28)) wr) (fun _ i _ => F.len - (intOf i).toNat)
      case atStart => exact ⟨0, F, _, rfl, rfl, Lib.hid (by omega), Lib.hid ⟨.nil, rfl, rfl, by simp [encF], by rintro b i rfl; simpa using hsl.foIn⟩, by simpa using HBS.out⟩
      case round =>
        obtain ⟨j, rr, t, rfl, rfl, hj, hR, hb⟩ := hrel
        obtain ⟨d0, d1, d2, z2⟩ := boxed3 (w := w) (by simpa using hb)
        have hwr : Below w.heap.size w wr := hbx.trans (hb.mono (by omega))
        cases rr with
        | nil =>
          have hlt : ¬ (j : Int) < (F.len : Int) := by have := hj.out; simp [Fo.len] at this; omega
          have d' : decide ((j : Int) < (F.len : Int)) = false := by simpa using hlt
          obtain ⟨done, r1, _, rfl, _⟩ := hR.out
          rw [Fo.app_nil] at r1
          have R1 := Lib.hid r1
          clear r1
          go_wp2_with fail
          go_ret
          exact ⟨by rw [R1.out]; rfl, hwr⟩
        | cons k' n' ks r' =>
          have hlt : j < F.len := by have := hj.out; simp [Fo.len] at this; omega
          have hlt' : (j : Int) < (F.len : Int) := by omega
          obtain ⟨b, o, rfl, hbB, hf0⟩ := hsl.some (by omega)
          obtain ⟨done, r1, r2, rfl, r6⟩ := hR.out
          obtain ⟨e0, e1, ⟨a', cap', e2, hsl'⟩, _⟩ := ((r6 b o rfl).below (hwr.mono hB) _ _ _ hbB).first
          have hsmd : Hid (SmF (.cons k' n' ks .nil)) := Lib.hid (by
            have h := HSM.out.2.1
            rw [← r1] at h
            have := (SmF.app h).2
            exact ⟨this.1, this.2.1, trivial⟩)
          have hks : Hid (ks.size < s) := Lib.hid (by have := congrArg Fo.size r1; rw [Fo.app_size] at this; simp only [Fo.size] at this; omega)
          have hpl' : (encH k n ++ encF done).length ≤ 1000 ∧ (encL k' n' ks).length ≤ 1000 := by
            have h := HPL.out
            rw [encL, ← r1, encF_app] at h
            simp only [encF, encL, List.length_append] at h ⊢
            omega
          have hadd2 := add_nums (encH k n ++ encF done) (encL k' n' ks) hpl'.1 hpl'.2
          have HNX : Hid (TxR w B F (some ⟨b, o, none⟩) (encH k n) (strOfNums (encH k n ++ encF done ++ encL k' n' ks)) (j + 1) r') := Lib.hid ⟨done.app (.cons k' n' ks .nil), by rw [Fo.app_assoc]; exact r1, by rw [Fo.app_len, r2]; rfl, by rw [encF_app, encF_one, List.append_assoc], by
            rintro b1 i1 h
            cases h
            have := (r6 b o rfl).2.2.2
            rwa [show o + (j + 1) * 3 = o + j * 3 + 3 by omega]⟩
          have HSL : Hid (SlIn wr (· < B) ks a' cap') := Lib.hid hsl'
          have HPLK := Lib.hid hpl'
          clear r1 r2 r6 hsl' hf0 hpl'
          go_wp2_with fail
          refine (IH.out ks hks.out k' n' a' cap' B _ HSL.out (by have := hwr.size; omega) hsmd.out HPLK.out.2).mono ?_
          rintro e w2 ⟨rfl, hb2⟩
          have HB2 := Lib.hid (Below.step hb hb2 (by simp))
          clear hb2 HSL e0 e1 e2 d0 d1 d2
          go_wp2_with fail
          go_roundw
          case rel => exact ⟨j + 1, r', _, rfl, by go_num, Lib.hid (by have := hj.out; simp [Fo.len] at this; omega), Lib.hid (by first | exact HNX.out | (rw [← List.append_assoc]; exact HNX.out)), HB2.out⟩
          case measure => simp [intOf]; omega

set_option maxRecDepth 100000 in
set_option maxHeartbeats 2000000 in
theorem rlPut_any (k n : Int) (F : Fo) (x : Option Addr) (c B : Nat) (w : World) (hsl : SlIn w (· < B) F x c) (hB : B ≤ w.heap.size) :
    Calls Try.prog 14 #[.agg #[.int .i64 k, .int .i64 n, .slice x F.len c]] w fun e w' => e = .returned (lputV k n F) ∧ Below w.heap.size w w' := by
  have HR := Lib.hid (fun (W : World) (h1 : SlIn W (· < B) F x c) (h2 : B ≤ W.heap.size) => rRight_any 5 10 k n F x c B W h1 h2)
  have hbx : Below w.heap.size w (w.alloc (.cells #[.int .i64 k, .int .i64 n, .slice x F.len c] 28)) := (Below.refl _ _).alloc (Nat.le_refl _) _
  have hs1 := hsl.below (hbx.mono hB)
  cases hv : rightB 5 10 k n F with
  | false =>
    rw [lputV_no hv]
    rw [hv] at HR
    clear hv
    go_enter Try.func14, Try.ntmps14
    go_wp2_with fail
    refine (HR.out _ hs1 (by simp; omega)).mono ?_
    rintro e w1 ⟨rfl, hb1⟩
    go_wp2_with fail
    go_ret2
    exact ⟨rfl, Below.step hbx hb1 (Nat.le_refl _)⟩
  | true =>
    rw [lputV_yes hv]
    have HSM := Lib.hid (right_sm hv)
    have HLN := Lib.hid (right_len hv)
    rw [hv] at HR
    clear hv
    go_enter Try.func14, Try.ntmps14
    go_wp2_with fail
    refine (HR.out _ hs1 (by simp; omega)).mono ?_
    rintro e w1 ⟨rfl, hb1⟩
    obtain ⟨c0, c1, c2, z1⟩ := boxed3 hb1
    have hw1 := Lib.hid (Below.step hbx hb1 (Nat.le_refl _))
    have hs2 := Lib.hid (hsl.below (hw1.out.mono hB))
    clear hb1 hs1
    go_wp2_with fail
    refine (rtext_any (F.size + 1) F (Nat.lt_succ_self _) k n x c B w1 hs2.out (by omega) HSM.out (by have := HLN.out; omega)).mono ?_
    rintro e w2 ⟨rfl, hb2⟩
    go_wp2
    go_ret2
    exact ⟨rfl, Below.step hw1.out hb2 (Nat.le_refl _)⟩
end Go.Proofs.Ytcgeipcffhfclaa
