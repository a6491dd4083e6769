/- Cright. No condition but those that stand in each statement. -/
import Derived.Test.YtnfhpombnbpdcaaGreatZQ5
namespace Go.Proofs.YtnfhpombnbpdcaaGreat
open Go.RowKit
def ChkAt (w : World) (C r : Nat) (p m left : Int) : Prop :=
  w.heap[C]? = some (.cells #[.map (some r), .int .i64 p, .int .i64 m, .int .i64 left] 142 (0, 0)) ∧ w.heap[r]? = some (.map kTab 6) ∧ r < C
theorem ChkAt.facts {w : World} {C r : Nat} {p m left : Int} (h : ChkAt w C r p m left) :
    w.cell? ⟨C, 0, none⟩ = some (.map (some r)) ∧ w.cell? ⟨C, 1, none⟩ = some (.int .i64 p) ∧ w.cell? ⟨C, 2, none⟩ = some (.int .i64 m) ∧ w.cell? ⟨C, 3, none⟩ = some (.int .i64 left) ∧ w.frozen? ⟨C, 3, none⟩ = false ∧ C < w.heap.size := by
  obtain ⟨h1, _, _⟩ := h
  exact ⟨by simp [World.cell?, h1], by simp [World.cell?, h1], by simp [World.cell?, h1], by simp [World.cell?, h1], free_of h1 3, lt_of_block h1⟩
theorem ChkAt.below {w w' : World} {C r : Nat} {p m left : Int} (h : ChkAt w C r p m left) (hb : Below w.heap.size w w') : ChkAt w' C r p m left := by
  have hlt := lt_of_block h.1
  exact ⟨(hb.block C hlt).trans h.1, (hb.block r (Nat.lt_trans h.2.2 hlt)).trans h.2.1, h.2.2⟩
theorem ChkAt.alloc {w : World} {C r : Nat} {p m left : Int} (h : ChkAt w C r p m left) (o : Obj) : ChkAt (w.alloc o) C r p m left := h.below ((Below.refl _ _).alloc (Nat.le_refl _) o)
theorem ChkAt.set {w : World} {C r : Nat} {p m left : Int} (h : ChkAt w C r p m left) (l : Int) : ChkAt (w.setCell ⟨C, 3, none⟩ (.int .i64 l)) C r p m l := by
  obtain ⟨h1, h2, h3⟩ := h
  refine ⟨?_, ?_, h3⟩
  · simp only [World.setCell, Array.getElem?_modify, if_true, h1]; rfl
  · rw [Below.heap_setCell _ _ _ _ (Nat.ne_of_lt h3)]; exact h2
def CrOk (C r : Nat) (p m : Int) (x : Option Nat) (w : World) (e : Ending) (w' : World) : Prop :=
  e = .returned (.bool x.isSome) ∧ (∃ l : Int, ChkAt w' C r p m l ∧ ∀ y : Nat, x = some y → l = y) ∧ w.grownBy w' (some C)
def cNode (p m k n : Int) (ks : Fo) (d left : Nat) : Option Nat := if d = 0 ∨ left = 0 ∨ fitsB p m k n ks.len = false then none else cAll p m ks (d - 1) (left - 1)
theorem cNode_no {p m k n : Int} {ks : Fo} {d left : Nat} (h : d = 0 ∨ left = 0 ∨ fitsB p m k n ks.len = false) : cNode p m k n ks d left = none := if_pos h
theorem cAll_cons (p m k n : Int) (ks r : Fo) (d left : Nat) : cAll p m (.cons k n ks r) d left = match cNode p m k n ks d left with | none => none | some l => cAll p m r d l := rfl
theorem cAll_le (p m : Int) (f : Fo) (d left l : Nat) (h : cAll p m f d left = some l) : l ≤ left := by
  rw [cAll_eq] at h
  split at h
  · injection h; omega
  · cases h
set_option maxRecDepth 100000 in
set_option maxHeartbeats 2000000 in
theorem cright_any (p m : Int) (s : Nat) : ∀ (f : Fo), f.size < s → ∀ (k n : Int) (d left : Nat) (a : Option Addr) (cap B C r : Nat) (w : World), SlIn w (· < B) f a cap → B ≤ C → d ≤ 12 → left ≤ 100 → ChkAt w C r p m left →
    Calls Tryz.prog 104 #[.pointer (some ⟨C, 0, none⟩), .agg #[.int .i64 k, .int .i64 n, .slice a f.len cap], .int .i64 d] w (CrOk C r p m (cNode p m k n f d left) w) := by
  induction s with
  | zero => intro f hs; omega
  | succ s ih =>
    intro f hs k n d left a cap B C r w hsl hB hd hleft hat
    have IH := Lib.hid ih
    clear ih
    have hlen := hsl.len
    obtain ⟨c0, c1, c2, c3, f3, hC⟩ := hat.facts
    by_cases h1 : d = 0
    · rw [cNode_no (.inl h1)]
      subst h1
      go_enter Tryz.func104, Tryz.ntmps104
      go_wp2_with fail
      go_ret
      exact ⟨rfl, ⟨_, hat.alloc _, fun y hy => by cases hy⟩, Only.alloc _ _ _⟩
    · have d1 : ((d : Int) == 0) = false := beq_eq_false_iff_ne.2 (by omega)
      by_cases h2 : left = 0
      · rw [cNode_no (.inr (.inl h2))]
        have d2 : ((left : Int) == 0) = true := beq_iff_eq.2 (by omega)
        go_enter Tryz.func104, Tryz.ntmps104
        go_wp2_with fail
        go_ret
        exact ⟨rfl, ⟨_, hat.alloc _, fun y hy => by cases hy⟩, Only.alloc _ _ _⟩
      · have d2 : ((left : Int) == 0) = false := beq_eq_false_iff_ne.2 (by omega)
        have HF := Lib.hid (fun (W : World) (h : ChkAt W C r p m left) => fits_any k n p m a f.len cap C r W h.facts.2.2.2.2.2 (Nat.lt_trans h.2.2 h.facts.2.2.2.2.2) h.2.1 h.facts.1 h.facts.2.1 h.facts.2.2.1)
        have HV : Hid (∀ v, fitsB p m k n f.len = v → cNode p m k n f d left = if v then cAll p m f (d - 1) (left - 1) else none) := Lib.hid (fun v hv => by
          unfold cNode; rw [hv]; cases v <;> simp [h1, h2])
        generalize fitsB p m k n f.len = v at HF HV
        have HV' := Lib.hid (HV.out v rfl)
        clear HV
        cases v with
        | false =>
          rw [HV'.out]
          go_enter Tryz.func104, Tryz.ntmps104
          go_wp2_with fail
          refine (HF.out _ (hat.alloc _)).mono ?_
          rintro e w1 ⟨rfl, hb1⟩
          go_wp2_with fail
          go_ret
          exact ⟨rfl, ⟨_, (hat.alloc _).below hb1, fun y hy => by cases hy⟩, Only.after (Only.alloc _ _ _) (Only.below _ hb1)⟩
        | true =>
          go_enter Tryz.func104, Tryz.ntmps104
          go_wp2_with fail
          refine (HF.out _ (hat.alloc _)).mono ?_
          rintro e w1 ⟨rfl, hb1⟩
          have hat1 := (hat.alloc _).below hb1
          obtain ⟨g0, g1, g2, g3, fz, gC⟩ := hat1.facts
          have hb1' : Below (w.heap.size + 1) (w.alloc (.cells #[.int .i64 k, .int .i64 n, .slice a f.len cap] 45)) w1 := by simpa using hb1
          have b0 := bcell hb1' w.heap.size 0 (by omega)
          have b1 := bcell hb1' w.heap.size 1 (by omega)
          have b2 := bcell hb1' w.heap.size 2 (by omega)
          simp at b0 b1 b2
          have hCn : C ≠ w.heap.size := by omega
          go_wp2_with fail
          go_loopw [34] (fun i wr => ∃ (j : Nat) (rr : Fo) (q : Nat), i = .int .i64 j ∧ q ≤ 100 ∧ Hid (j + rr.len = f.len) ∧ Hid (rr.size ≤ f.size) ∧
              Hid (∀ b o, a = some ⟨b, o, none⟩ → FoIn w (· < B) rr b (o + j * 3)) ∧ Hid (cAll p m rr (d - 1) q = cAll p m f (d - 1) (left - 1)) ∧ Hid (ChkAt wr C r p m q) ∧ Hid (w.grownBy wr (some C)))
            (fun i _ => f.len - (intOf i).toNat)
          case atStart => exact ⟨0, f, left - 1, rfl, by omega, Lib.hid (by omega), Lib.hid (Nat.le_refl _), Lib.hid (by rintro b o rfl; simpa using hsl.foIn), Lib.hid rfl, Lib.hid (by rw [show ((left - 1 : Nat) : Int) = (left : Int) - 1 by omega]; exact hat1.set _), Lib.hid (Only.after (Only.after (Only.alloc _ _ _) (Only.below _ hb1)) (Only.set _ _ _ _))⟩
          case round =>
            obtain ⟨j, rr, q, rfl, hq, hj, hrs, hin, hall, hatr, hgr⟩ := hrel
            cases rr with
            | nil =>
              have hlt : ¬ (j : Int) < (f.len : Int) := by have := hj.out; simp [Fo.len] at this; omega
              have d' : decide ((j : Int) < (f.len : Int)) = false := by simpa using hlt
              go_wp2_with fail
              go_ret
              have hx : cNode p m k n f d left = some q := by rw [HV'.out, if_pos trivial, ← hall.out]; rfl
              rw [hx]
              exact ⟨rfl, ⟨_, hatr.out, fun y hy => by cases hy; rfl⟩, hgr.out⟩
            | cons k' n' ks r' =>
              have hlt : j < f.len := by have := hj.out; simp [Fo.len] at this; omega
              obtain ⟨b, o, rfl, hbB, hf0⟩ := hsl.some (by omega)
              obtain ⟨e0, e1, ⟨a', cap', e2, hsl'⟩, hrest⟩ := ((hin.out b o rfl).only hgr.out hB (by omega) hbB).first
              have hks : ks.size < s := by have := hrs.out; simp [Fo.size] at this; omega
              have HC := Lib.hid (cAll_cons p m k' n' ks r' (d - 1) q)
              have hd1 : (d : Int) - 1 = ((d - 1 : Nat) : Int) := by omega
              have HD := Lib.hid hd1
              clear hd1
              have hcl := Lib.hid (cAll_le p m ks (d - 1 - 1) (q - 1))
              go_wp2_with fail
              rw [HD.out]
              refine (IH.out ks hks _ _ (d - 1) q _ _ B C r _ (hsl'.only (Only.alloc _ C _) hB (Nat.le_of_lt hatr.out.facts.2.2.2.2.2)) hB (by omega) hq (hatr.out.alloc _)).mono ?_
              rintro e w2 ⟨he, ⟨l, hat2, hl⟩, hg2⟩
              have hg' := Lib.hid (Only.after (Only.after hgr.out (Only.alloc _ _ _)) hg2)
              have HAT := Lib.hid hat2
              have HN : Hid (∀ x, cNode p m k' n' ks (d - 1) q = some x → x ≤ q) := Lib.hid (fun x hx => by
                unfold cNode at hx
                split at hx
                · cases hx
                · have := cAll_le _ _ _ _ _ _ hx; omega)
              clear hg2 hat2
              generalize cNode p m k' n' ks (d - 1) q = x at HC he hl HN
              cases x with
              | none =>
                have he' : e = .returned (.bool false) := he
                subst he'
                clear he
                go_wp2_with fail
                go_ret
                have hx : cNode p m k n f d left = none := by rw [HV'.out, if_pos trivial, ← hall.out, HC.out]
                rw [hx]
                exact ⟨rfl, ⟨_, HAT.out, fun y hy => by cases hy⟩, hg'.out⟩
              | some x =>
                have he' : e = .returned (.bool true) := he
                subst he'
                have hx := HN.out x rfl
                obtain rfl := hl x rfl
                clear he hl
                go_wp2_with fail
                go_roundw
                case rel => exact ⟨j + 1, r', x, by go_num, by omega, Lib.hid (by have := hj.out; simp [Fo.len] at this; omega), Lib.hid (by have := hrs.out; simp [Fo.size] at this; omega), Lib.hid (by rintro b' o' h; cases h; have := (hin.out b o rfl).2.2.2; rwa [show o + (j + 1) * 3 = o + j * 3 + 3 by omega]), Lib.hid (by rw [← hall.out, HC.out]), HAT, hg'⟩
                case measure => simp [intOf]; omega
end Go.Proofs.YtnfhpombnbpdcaaGreat
