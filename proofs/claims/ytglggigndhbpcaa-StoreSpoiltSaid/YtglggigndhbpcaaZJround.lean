/- The contract of the program's round over the clauses: the values that the document's rounds come to. Conditions: the clauses are right for as many variables as there are values, at most 16, and the values are from 0 to 2^39. -/
import Derived.Test.YtglggigndhbpcaaZJd
import Derived.Test.YtglggigndhbpcaaZOwn
import Derived.Test.YtglggigndhbpcaaZWpl
import Derived.Deep.RegionHeld3
namespace Go.Proofs.Ytglggigndhbpcaa
open Go.RowKit

theorem rndJ_take {l : List Cl} {m : List Int} {k : Nat} (hk : k < l.length) : rndJ (l.take (k + 1)) m = stepJ (rndJ (l.take k) m) (l.getD k cl0) := by rw [take_getD l cl0 hk, rndJ_snoc]
theorem RightJ.take {V : Nat} {l : List Cl} (h : RightJ V l) (k : Nat) : RightJ V (l.take k) := fun c hc => h c (List.mem_of_mem_take hc)
/-- What a clause makes of its variable's value. -/
theorem stepJ_max {m : List Int} {c : Cl} (hc : c.2.1.toNat < m.length) : stepJ m c = m.set c.2.1.toNat (max (m.getD c.2.1.toNat 0) (askC c m)) := by
  unfold stepJ
  by_cases h : m.getD c.2.1.toNat 0 < askC c m
  · rw [if_pos h, show max (m.getD c.2.1.toNat 0) (askC c m) = askC c m by omega]
  · rw [if_neg h, show max (m.getD c.2.1.toNat 0) (askC c m) = m.getD c.2.1.toNat 0 by omega]
    refine getD_ext (by simp) fun i => ?_
    rw [getD_set _ hc]
    split
    · rename_i e; rw [e]
    · rfl

theorem heldX {W w' : World} {X o p q : Nat} {u0 u1 u2 : Value} (hb : Below W.heap.size W w') (hX : X < W.heap.size)
    (h : W.cell? ⟨X, o, none⟩ = some u0 ∧ W.cell? ⟨X, p, none⟩ = some u1 ∧ W.cell? ⟨X, q, none⟩ = some u2) : w'.cell? ⟨X, o, none⟩ = some u0 ∧ w'.cell? ⟨X, p, none⟩ = some u1 ∧ w'.cell? ⟨X, q, none⟩ = some u2 :=
  ⟨(bcell hb _ _ hX).trans h.1, (bcell hb _ _ hX).trans h.2.1, (bcell hb _ _ hX).trans h.2.2⟩
theorem heldY {W w' : World} {X Y o p q r : Nat} {u0 u1 u2 v : Value} (hb : Below W.heap.size W w') (hX : X < W.heap.size) (hne : Y ≠ X)
    (h : W.cell? ⟨X, o, none⟩ = some u0 ∧ W.cell? ⟨X, p, none⟩ = some u1 ∧ W.cell? ⟨X, q, none⟩ = some u2) : (w'.setCell ⟨Y, r, none⟩ v).cell? ⟨X, o, none⟩ = some u0 ∧ (w'.setCell ⟨Y, r, none⟩ v).cell? ⟨X, p, none⟩ = some u1 ∧ (w'.setCell ⟨Y, r, none⟩ v).cell? ⟨X, q, none⟩ = some u2 := by
  have k := heldX hb hX h
  exact ⟨(World.cell?_setCell_far _ ⟨Y, r, none⟩ _ _ hne).trans k.1, (World.cell?_setCell_far _ ⟨Y, r, none⟩ _ _ hne).trans k.2.1, (World.cell?_setCell_far _ ⟨Y, r, none⟩ _ _ hne).trans k.2.2⟩

set_option maxRecDepth 100000 in
set_option maxHeartbeats 16000000 in
theorem jround_any (m : List Int) (l : List Cl) (a : Option Addr) (cap B : Nat) (w : World) (hr : RightJ m.length l) (hl60 : l.length ≤ 60) (hm16 : m.length ≤ 16) (hm : ∀ i, 0 ≤ m.getD i 0 ∧ m.getD i 0 ≤ 549755813888) (hin : ClsIn w (· < B) l a cap) (hB : B ≤ w.heap.size) :
    Calls Try.prog 69 #[.slice a l.length cap, .agg (aM m)] w fun e w' => e = .returned (.agg (aM (rndJ l m))) ∧ Below w.heap.size w w' := by
  have hlen := hin.len
  have HI := Lib.hid hin
  have HR := Lib.hid hr
  have HM := Lib.hid hm
  have HBD : Hid (∀ k, k ≤ l.length → ∀ i, 0 ≤ (rndJ (l.take k) m).getD i 0 ∧ (rndJ (l.take k) m).getD i 0 ≤ 549755813888 + 60000) := Lib.hid (fun k hk i => by
    have := rndJ_bd (hr.take k) hm i
    rw [List.length_take] at this
    omega)
  have X0 : Hid (((w.alloc (.cells (aM m) 97)).alloc (.cells (arrI fun _ => 0) 97)).heap[w.heap.size]? = some (.cells (aM m) 97 (0, 0))) := Lib.hid ((heap_old _ _ (by simp)).trans (heap_new _ _))
  have X1 : Hid (((w.alloc (.cells (aM m) 97)).alloc (.cells (arrI fun _ => 0) 97)).heap[w.heap.size + 1]? = some (.cells (arrI fun _ => 0) 97 (0, 0))) := Lib.hid (heap_second _ _ _)
  have XB : Hid (Below w.heap.size w ((w.alloc (.cells (aM m) 97)).alloc (.cells (arrI fun _ => 0) 97))) := Lib.hid (((Below.refl _ _).alloc (Nat.le_refl _) _).alloc (by simp) _)
  have XZ : Hid (w.heap.size + 2 ≤ ((w.alloc (.cells (aM m) 97)).alloc (.cells (arrI fun _ => 0) 97)).heap.size) := Lib.hid (by simp)
  clear hin hr hm
  unfold aM arrI at X0 X1 XB XZ ⊢
  go_enter Try.func69, Try.ntmps69
  go_wp2_with fail
  go_loopw [9] (fun iv wr => ∃ (k : Nat), iv = .int .i64 k ∧ k ≤ l.length ∧ Hid (wr.heap[w.heap.size]? = some (.cells (aM (rndJ (l.take k) m)) 97 (0, 0))) ∧ Hid (wr.heap[w.heap.size + 1]? = some (.cells (arrI fun _ => 0) 97 (0, 0))) ∧ Hid (Below w.heap.size w wr) ∧ Hid (w.heap.size + 2 ≤ wr.heap.size)) (fun iv _ => l.length - (intOf iv).toNat)
  case atStart => exact ⟨0, rfl, Nat.zero_le _, X0, X1, XB, XZ⟩
  case round =>
    obtain ⟨k, rfl, hk, h0, h1, hb, hz⟩ := hrel
    by_cases hlt : k < l.length
    · obtain ⟨b, o, fr, tv, to, a', c', rfl, hbB, hget, e0, hat, e1, e2⟩ := (HI.out.below (hb.out.mono hB)).at hlt
      have hcl := HR.out _ (getD_mem cl0 hlt)
      rw [hget] at hcl
      obtain ⟨q1, q2, q3, q4⟩ := atB_of (clB_of hcl).1
      simp only at q1 q2 q3 q4
      have hlk : (rndJ (l.take k) m).length = m.length := rndJ_len _ _
      have hbk := HBD.out k hk
      have HNX := Lib.hid (rndJ_take (m := m) hlt)
      generalize rndJ (l.take k) m = mk at h0 hlk hbk HNX
      have HSX := Lib.hid (stepJ_max (m := mk) (c := (fr, (tv, to))) (by simp only; omega))
      rw [hget] at HNX
      have hcl16 : clB (pad mk).length (fr, (tv, to)) = true := by rw [pad_len]; exact clB_more (by omega) hcl
      have hnt := pad_nats (m := mk) (by omega) (fun i => by have := hbk i; omega)
      have hap := ask_pad (m := mk) (by omega) (fr, (tv, to))
      obtain ⟨W0, rfl⟩ : ∃ W0, W0 = wr := ⟨_, rfl⟩
      have hzz := hz.out
      have CD := Lib.hid (fun W (hW : Below W0.heap.size W0 W) => jdemand_any (pad mk) fr tv to a' (some ⟨w.heap.size, 0, none⟩) c' 16 (w.heap.size + 1) W hnt hcl16 ((hat.below (hW.mono (by omega))).weak (fun b h => by omega)) (pad_in ((hW.block _ (by omega)).trans h0.out) (by omega) (by omega)) (by have := hW.size; omega))
      rw [hap, pad_len] at CD
      have cy := (cell_at h0.out tv.toNat).trans (aM_at mk (i := tv.toNat) (by omega))
      have fy := free_of h0.out tv.toNat
      have hyb := hbk tv.toNat
      have hvl : tv.toNat < mk.length := by omega
      have HS : Hid ((W0.alloc (.cells #[.slice a' fr.length c', .int .i64 tv, .int .i64 to] 35)).cell? ⟨W0.heap.size, 0, none⟩ = some (.slice a' fr.length c') ∧ (W0.alloc (.cells #[.slice a' fr.length c', .int .i64 tv, .int .i64 to] 35)).cell? ⟨W0.heap.size, 1, none⟩ = some (.int .i64 tv) ∧ (W0.alloc (.cells #[.slice a' fr.length c', .int .i64 tv, .int .i64 to] 35)).cell? ⟨W0.heap.size, 2, none⟩ = some (.int .i64 to)) :=
        Lib.hid ⟨cell_at (heap_new _ _) 0, cell_at (heap_new _ _) 1, cell_at (heap_new _ _) 2⟩
      have H0A : Hid ((W0.alloc (.cells #[.slice a' fr.length c', .int .i64 tv, .int .i64 to] 35)).heap[w.heap.size]? = some (.cells (aM mk) 97 (0, 0))) := Lib.hid ((heap_old _ _ (by omega)).trans h0.out)
      have H1A : Hid ((W0.alloc (.cells #[.slice a' fr.length c', .int .i64 tv, .int .i64 to] 35)).heap[w.heap.size + 1]? = some (.cells (arrI fun _ => 0) 97 (0, 0))) := Lib.hid ((heap_old _ _ (by omega)).trans h1.out)
      have HBA : Hid (Below w.heap.size w (W0.alloc (.cells #[.slice a' fr.length c', .int .i64 tv, .int .i64 to] 35))) := Lib.hid (hb.out.alloc hb.out.size _)
      have HYX : w.heap.size ≠ W0.heap.size := by omega
      have HBW : Hid (Below W0.heap.size W0 (W0.alloc (.cells #[.slice a' fr.length c', .int .i64 tv, .int .i64 to] 35))) := Lib.hid ((Below.refl _ _).alloc (Nat.le_refl _) _)
      have hzA : W0.heap.size + 1 = (W0.alloc (.cells #[.slice a' fr.length c', .int .i64 tv, .int .i64 to] 35)).heap.size := by simp
      have hX : W0.heap.size < (W0.alloc (.cells #[.slice a' fr.length c', .int .i64 tv, .int .i64 to] 35)).heap.size := by simp
      have hY : w.heap.size < (W0.alloc (.cells #[.slice a' fr.length c', .int .i64 tv, .int .i64 to] 35)).heap.size := by simp; omega
      have q16 : tv < 16 := by omega
      have HYV : Hid (∃ y, y = mk.getD tv.toNat 0) := Lib.hid ⟨_, rfl⟩
      generalize hyv : mk.getD tv.toNat 0 = y at hyb HSX cy
      have HYE := Lib.hid hyv
      generalize askC (fr, (tv, to)) mk = q at CD HSX
      clear hget hat hcl hcl16 hnt hap cy fy hbk hyv HYV
      go_wp2_with fail
      generalize W0.alloc (.cells #[.slice a' fr.length c', .int .i64 tv, .int .i64 to] 35) = W at HS HBW hX hY H0A H1A HBA hzA ⊢
      clear e0 e1 e2
      have cW : W.cell? ⟨w.heap.size, tv.toNat, none⟩ = some (.int .i64 y) := by rw [← HYE.out]; exact (cell_at H0A.out tv.toNat).trans (aM_at mk (i := tv.toNat) (by omega))
      have HC : Hid (∀ wN, Below W.heap.size W wN → wN.cell? ⟨w.heap.size, tv.toNat, none⟩ = some (.int .i64 y) ∧ wN.frozen? ⟨w.heap.size, tv.toNat, none⟩ = false) := Lib.hid (fun wN h => ⟨(bcell h _ _ hY).trans cW, (h.frozen (p := ⟨w.heap.size, tv.toNat, none⟩) hY).trans (free_of H0A.out _)⟩)
      have HE : Hid (∀ wN, Below W.heap.size W wN → Hid ((wN.setCell ⟨w.heap.size, tv.toNat, none⟩ (.int .i64 (max y q))).heap[w.heap.size]? = some (.cells (aM (rndJ (l.take (k + 1)) m)) 97 (0, 0))) ∧ Hid ((wN.setCell ⟨w.heap.size, tv.toNat, none⟩ (.int .i64 (max y q))).heap[w.heap.size + 1]? = some (.cells (arrI fun _ => 0) 97 (0, 0))) ∧ Hid (Below w.heap.size w (wN.setCell ⟨w.heap.size, tv.toNat, none⟩ (.int .i64 (max y q)))) ∧ Hid (w.heap.size + 2 ≤ (wN.setCell ⟨w.heap.size, tv.toNat, none⟩ (.int .i64 (max y q))).heap.size)) := Lib.hid (fun wN h => by
        refine ⟨Lib.hid ?_, Lib.hid ?_, Lib.hid ?_, Lib.hid ?_⟩
        · rw [HNX.out, HSX.out, ← aM_set _ hvl (by omega)]
          exact heap_setCell_same wN _ _ _ _ _ ((h.block _ hY).trans H0A.out)
        · exact (Below.heap_setCell _ _ _ _ (show w.heap.size + 1 ≠ w.heap.size by omega)).trans ((h.block _ (by omega)).trans H1A.out)
        · exact (Below.step HBA.out h (Nat.le_refl _)).setCell (p := ⟨w.heap.size, tv.toNat, none⟩) (Nat.le_refl _) _
        · have := h.size; simp; omega)
      clear hlk HSX HNX H0A H1A HBA
      by_cases hyq : y < q
      · have hmx : max y q = q := by omega
        rw [hmx] at HE
        clear hmx
        refine wp_region_held_drew (S := (fun w' => w'.cell? ⟨W0.heap.size, 0, none⟩ = some (.slice a' fr.length c') ∧ w'.cell? ⟨W0.heap.size, 1, none⟩ = some (.int .i64 tv) ∧ w'.cell? ⟨W0.heap.size, 2, none⟩ = some (.int .i64 to))) (by kernel_rfl) HS.out (fun hH => ?_)
        refine wpAnyH_take (i := 0) (v := ?_) (by simp only [List.getElem?_toArray, List.getElem?_cons_zero]; rfl) (by kernel_rfl) (by kernel_rfl) (by kernel_rfl) (by intro _ _ _ h; exact h) (Or.inl ⟨by rfl, ?_⟩) hH ?_
        rotate_left
        · intro w' hSw
          obtain ⟨hs0, hs1, hs2⟩ := hSw
          go_simp
          try with_reducible rfl
        try simp only [Act.put, List.setIfInBounds_toArray, List.set_cons_zero, List.set_cons_succ]
        refine wpAnyH_take (i := 1) (v := ?_) (by simp only [List.getElem?_toArray, List.getElem?_cons_succ, List.getElem?_cons_zero]; rfl) (by kernel_rfl) (by kernel_rfl) (by kernel_rfl) (by intro _ _ _ h; exact h) (Or.inl ⟨by rfl, ?_⟩) hH ?_
        rotate_left
        · intro w' hSw
          obtain ⟨hs0, hs1, hs2⟩ := hSw
          go_simp
          try with_reducible rfl
        try simp only [Act.put, List.setIfInBounds_toArray, List.set_cons_zero, List.set_cons_succ]
        refine wpAnyH_take (i := 2) (v := ?_) (by simp only [List.getElem?_toArray, List.getElem?_cons_succ, List.getElem?_cons_zero]; rfl) (by kernel_rfl) (by kernel_rfl) (by kernel_rfl) (by intro _ _ _ h; exact h) (Or.inl ⟨by rfl, ?_⟩) hH ?_
        rotate_left
        · intro w' hSw
          obtain ⟨hs0, hs1, hs2⟩ := hSw
          go_simp
          try with_reducible rfl
        try simp only [Act.put, List.setIfInBounds_toArray, List.set_cons_zero, List.set_cons_succ]
        refine wpAnyH_take (i := 3) (v := ?_) (by simp only [List.getElem?_toArray, List.getElem?_cons_succ, List.getElem?_cons_zero]; rfl) (by kernel_rfl) (by kernel_rfl) (by kernel_rfl) (by intro _ _ _ h; exact h) (Or.inl ⟨by rfl, ?_⟩) hH ?_
        rotate_left
        · intro w' hSw
          obtain ⟨hs0, hs1, hs2⟩ := hSw
          go_simp
          try with_reducible rfl
        try simp only [Act.put, List.setIfInBounds_toArray, List.set_cons_zero, List.set_cons_succ]
        refine wpAnyH_take (i := 4) (v := ?_) (by simp only [List.getElem?_toArray, List.getElem?_cons_succ, List.getElem?_cons_zero]; rfl) (by kernel_rfl) (by kernel_rfl) (by kernel_rfl) (by intro _ _ _ h; exact h) (Or.inl ⟨by rfl, ?_⟩) hH ?_
        rotate_left
        · intro w' hSw
          obtain ⟨hs0, hs1, hs2⟩ := hSw
          go_simp
          try with_reducible rfl
        try simp only [Act.put, List.setIfInBounds_toArray, List.set_cons_zero, List.set_cons_succ]
        refine wpAnyH_take (i := 5) (v := ?_) (by simp only [List.getElem?_toArray, List.getElem?_cons_succ, List.getElem?_cons_zero]; rfl) (by kernel_rfl) (by kernel_rfl) (by kernel_rfl) (by intro _ _ _ h; exact h) (Or.inl ⟨by rfl, ?_⟩) hH ?_
        rotate_left
        · intro w' hSw
          obtain ⟨hs0, hs1, hs2⟩ := hSw
          go_simp
          try with_reducible rfl
        try simp only [Act.put, List.setIfInBounds_toArray, List.set_cons_zero, List.set_cons_succ]
        refine wpAnyH_take (i := 6) (v := ?_) (by simp only [List.getElem?_toArray, List.getElem?_cons_succ, List.getElem?_cons_zero]; rfl) (by kernel_rfl) (by kernel_rfl) (by kernel_rfl) (by intro _ _ _ h; exact h) (Or.inl ⟨by rfl, ?_⟩) hH ?_
        rotate_left
        · intro w' hSw
          obtain ⟨hs0, hs1, hs2⟩ := hSw
          go_simp
          try with_reducible rfl
        try simp only [Act.put, List.setIfInBounds_toArray, List.set_cons_zero, List.set_cons_succ]
        refine wpAnyH_take (i := 8) (v := ?_) (by simp only [List.getElem?_toArray, List.getElem?_cons_succ, List.getElem?_cons_zero]; rfl) (by kernel_rfl) (by kernel_rfl) (by kernel_rfl) (by intro _ _ _ h; exact h) (Or.inl ⟨by rfl, ?_⟩) hH ?_
        rotate_left
        · intro w' hSw
          obtain ⟨hs0, hs1, hs2⟩ := hSw
          go_simp
          try with_reducible rfl
        try simp only [Act.put, List.setIfInBounds_toArray, List.set_cons_zero, List.set_cons_succ]
        refine wpAnyH_take (i := 9) (v := ?_) (by simp only [List.getElem?_toArray, List.getElem?_cons_succ, List.getElem?_cons_zero]; rfl) (by kernel_rfl) (by kernel_rfl) (by kernel_rfl) (by intro _ _ _ h; exact h) (Or.inl ⟨by rfl, ?_⟩) hH ?_
        rotate_left
        · intro w' hSw
          obtain ⟨hs0, hs1, hs2⟩ := hSw
          go_simp
          try with_reducible rfl
        try simp only [Act.put, List.setIfInBounds_toArray, List.set_cons_zero, List.set_cons_succ]
        refine wpAnyH_ready (rs := [7, 10]) (by kernel_rfl) (by simp) ?_
        refine AllReadyH.cons (o := _) (by simp only [List.getElem?_toArray, List.getElem?_cons_succ, List.getElem?_cons_zero]; rfl) (fun K hK => ?_) (AllReadyH.cons (o := _) (by simp only [List.getElem?_toArray, List.getElem?_cons_succ, List.getElem?_cons_zero]; rfl) (fun K hK => ?_) AllReadyH.nil)
        · go_simp
          refine hK.out _ _ hH (fun hH1 => ?_)
          clear hK K
          try simp only [Act.put, List.setIfInBounds_toArray, List.set_cons_zero, List.set_cons_succ]
          refine wpAnyH_ready (rs := [10]) (by kernel_rfl) (by simp) ?_
          refine AllReadyH.cons (o := _) (by simp only [List.getElem?_toArray, List.getElem?_cons_succ, List.getElem?_cons_zero]; rfl) (fun K hK => ?_) AllReadyH.nil
          go_simp
          go_at_call 70
          refine (CD.out _ HBW.out.drew).mono ?_
          rintro e wN ⟨rfl, hbN0⟩
          have hbN : Below W.heap.size W wN := Below.step (Below.refl W.heap.size W).drew hbN0 (Nat.le_refl _)
          obtain ⟨cN, fN⟩ := HC.out wN hbN
          refine hK.out _ _ (heldX hbN hX HS.out) (fun hH2 => ?_)
          clear hK K
          try simp only [Act.put, List.setIfInBounds_toArray, List.set_cons_zero, List.set_cons_succ]
          refine wpAnyH_take (i := 11) (v := ?_) (by simp only [List.getElem?_toArray, List.getElem?_cons_succ, List.getElem?_cons_zero]; rfl) (by kernel_rfl) (by kernel_rfl) (by kernel_rfl) (by intro _ _ _ h; exact h) (Or.inl ⟨by rfl, ?_⟩) hH2 ?_
          rotate_left
          · intro w' hSw
            obtain ⟨hs0, hs1, hs2⟩ := hSw
            go_simp
            try with_reducible rfl
          try simp only [Act.put, List.setIfInBounds_toArray, List.set_cons_zero, List.set_cons_succ]
          refine wpAnyH_take (i := 12) (v := ?_) (by simp only [List.getElem?_toArray, List.getElem?_cons_succ, List.getElem?_cons_zero]; rfl) (by kernel_rfl) (by kernel_rfl) (by kernel_rfl) (by intro _ _ _ h; exact h) (Or.inl ⟨by rfl, ?_⟩) hH2 ?_
          rotate_left
          · intro w' hSw
            obtain ⟨hs0, hs1, hs2⟩ := hSw
            go_simp
            try with_reducible rfl
          try simp only [Act.put, List.setIfInBounds_toArray, List.set_cons_zero, List.set_cons_succ]
          refine wpAnyH_ready (rs := [13]) (by kernel_rfl) (by simp) ?_
          refine AllReadyH.cons (o := _) (by simp only [List.getElem?_toArray, List.getElem?_cons_succ, List.getElem?_cons_zero]; rfl) (fun K hK => ?_) AllReadyH.nil
          go_simp
          refine hK.out _ _ (heldY hbN hX HYX HS.out) (fun hH9 => ?_)
          clear hK K
          try simp only [Act.put, List.setIfInBounds_toArray, List.set_cons_zero, List.set_cons_succ]
          refine wpAnyH_done (by kernel_rfl) ?_ _
          obtain ⟨z0, z1, zB, zZ⟩ := HE.out wN hbN
          clear hH9 hH2 cN fN hbN hbN0
          go_wp2_with fail
          go_roundw
          case rel => exact ⟨k + 1, by go_num, by omega, z0, z1, zB, zZ⟩
          case measure => simp [intOf]; omega
        · go_simp
          go_at_call 70
          refine (CD.out _ HBW.out.drew).mono ?_
          rintro e wN ⟨rfl, hbN0⟩
          have hbN : Below W.heap.size W wN := Below.step (Below.refl W.heap.size W).drew hbN0 (Nat.le_refl _)
          obtain ⟨cN, fN⟩ := HC.out wN hbN
          refine hK.out _ _ (heldX hbN hX HS.out) (fun hH1 => ?_)
          clear hK K
          try simp only [Act.put, List.setIfInBounds_toArray, List.set_cons_zero, List.set_cons_succ]
          refine wpAnyH_ready (rs := [7]) (by kernel_rfl) (by simp) ?_
          refine AllReadyH.cons (o := _) (by simp only [List.getElem?_toArray, List.getElem?_cons_succ, List.getElem?_cons_zero]; rfl) (fun K hK => ?_) AllReadyH.nil
          go_simp
          refine hK.out _ _ hH1 (fun hH2 => ?_)
          clear hK K
          try simp only [Act.put, List.setIfInBounds_toArray, List.set_cons_zero, List.set_cons_succ]
          refine wpAnyH_take (i := 11) (v := ?_) (by simp only [List.getElem?_toArray, List.getElem?_cons_succ, List.getElem?_cons_zero]; rfl) (by kernel_rfl) (by kernel_rfl) (by kernel_rfl) (by intro _ _ _ h; exact h) (Or.inl ⟨by rfl, ?_⟩) hH2 ?_
          rotate_left
          · intro w' hSw
            obtain ⟨hs0, hs1, hs2⟩ := hSw
            go_simp
            try with_reducible rfl
          try simp only [Act.put, List.setIfInBounds_toArray, List.set_cons_zero, List.set_cons_succ]
          refine wpAnyH_take (i := 12) (v := ?_) (by simp only [List.getElem?_toArray, List.getElem?_cons_succ, List.getElem?_cons_zero]; rfl) (by kernel_rfl) (by kernel_rfl) (by kernel_rfl) (by intro _ _ _ h; exact h) (Or.inl ⟨by rfl, ?_⟩) hH2 ?_
          rotate_left
          · intro w' hSw
            obtain ⟨hs0, hs1, hs2⟩ := hSw
            go_simp
            try with_reducible rfl
          try simp only [Act.put, List.setIfInBounds_toArray, List.set_cons_zero, List.set_cons_succ]
          refine wpAnyH_ready (rs := [13]) (by kernel_rfl) (by simp) ?_
          refine AllReadyH.cons (o := _) (by simp only [List.getElem?_toArray, List.getElem?_cons_succ, List.getElem?_cons_zero]; rfl) (fun K hK => ?_) AllReadyH.nil
          go_simp
          refine hK.out _ _ (heldY hbN hX HYX HS.out) (fun hH9 => ?_)
          clear hK K
          try simp only [Act.put, List.setIfInBounds_toArray, List.set_cons_zero, List.set_cons_succ]
          refine wpAnyH_done (by kernel_rfl) ?_ _
          obtain ⟨z0, z1, zB, zZ⟩ := HE.out wN hbN
          clear hH9 hH2 cN fN hbN hbN0
          go_wp2_with fail
          go_roundw
          case rel => exact ⟨k + 1, by go_num, by omega, z0, z1, zB, zZ⟩
          case measure => simp [intOf]; omega
      · have hmx : max y q = y := by omega
        rw [hmx] at HE
        clear hmx
        refine wp_region_held_drew (S := (fun w' => w'.cell? ⟨W0.heap.size, 0, none⟩ = some (.slice a' fr.length c') ∧ w'.cell? ⟨W0.heap.size, 1, none⟩ = some (.int .i64 tv) ∧ w'.cell? ⟨W0.heap.size, 2, none⟩ = some (.int .i64 to))) (by kernel_rfl) HS.out (fun hH => ?_)
        refine wpAnyH_take (i := 0) (v := ?_) (by simp only [List.getElem?_toArray, List.getElem?_cons_zero]; rfl) (by kernel_rfl) (by kernel_rfl) (by kernel_rfl) (by intro _ _ _ h; exact h) (Or.inl ⟨by rfl, ?_⟩) hH ?_
        rotate_left
        · intro w' hSw
          obtain ⟨hs0, hs1, hs2⟩ := hSw
          go_simp
          try with_reducible rfl
        try simp only [Act.put, List.setIfInBounds_toArray, List.set_cons_zero, List.set_cons_succ]
        refine wpAnyH_take (i := 1) (v := ?_) (by simp only [List.getElem?_toArray, List.getElem?_cons_succ, List.getElem?_cons_zero]; rfl) (by kernel_rfl) (by kernel_rfl) (by kernel_rfl) (by intro _ _ _ h; exact h) (Or.inl ⟨by rfl, ?_⟩) hH ?_
        rotate_left
        · intro w' hSw
          obtain ⟨hs0, hs1, hs2⟩ := hSw
          go_simp
          try with_reducible rfl
        try simp only [Act.put, List.setIfInBounds_toArray, List.set_cons_zero, List.set_cons_succ]
        refine wpAnyH_take (i := 2) (v := ?_) (by simp only [List.getElem?_toArray, List.getElem?_cons_succ, List.getElem?_cons_zero]; rfl) (by kernel_rfl) (by kernel_rfl) (by kernel_rfl) (by intro _ _ _ h; exact h) (Or.inl ⟨by rfl, ?_⟩) hH ?_
        rotate_left
        · intro w' hSw
          obtain ⟨hs0, hs1, hs2⟩ := hSw
          go_simp
          try with_reducible rfl
        try simp only [Act.put, List.setIfInBounds_toArray, List.set_cons_zero, List.set_cons_succ]
        refine wpAnyH_take (i := 3) (v := ?_) (by simp only [List.getElem?_toArray, List.getElem?_cons_succ, List.getElem?_cons_zero]; rfl) (by kernel_rfl) (by kernel_rfl) (by kernel_rfl) (by intro _ _ _ h; exact h) (Or.inl ⟨by rfl, ?_⟩) hH ?_
        rotate_left
        · intro w' hSw
          obtain ⟨hs0, hs1, hs2⟩ := hSw
          go_simp
          try with_reducible rfl
        try simp only [Act.put, List.setIfInBounds_toArray, List.set_cons_zero, List.set_cons_succ]
        refine wpAnyH_take (i := 4) (v := ?_) (by simp only [List.getElem?_toArray, List.getElem?_cons_succ, List.getElem?_cons_zero]; rfl) (by kernel_rfl) (by kernel_rfl) (by kernel_rfl) (by intro _ _ _ h; exact h) (Or.inl ⟨by rfl, ?_⟩) hH ?_
        rotate_left
        · intro w' hSw
          obtain ⟨hs0, hs1, hs2⟩ := hSw
          go_simp
          try with_reducible rfl
        try simp only [Act.put, List.setIfInBounds_toArray, List.set_cons_zero, List.set_cons_succ]
        refine wpAnyH_take (i := 5) (v := ?_) (by simp only [List.getElem?_toArray, List.getElem?_cons_succ, List.getElem?_cons_zero]; rfl) (by kernel_rfl) (by kernel_rfl) (by kernel_rfl) (by intro _ _ _ h; exact h) (Or.inl ⟨by rfl, ?_⟩) hH ?_
        rotate_left
        · intro w' hSw
          obtain ⟨hs0, hs1, hs2⟩ := hSw
          go_simp
          try with_reducible rfl
        try simp only [Act.put, List.setIfInBounds_toArray, List.set_cons_zero, List.set_cons_succ]
        refine wpAnyH_take (i := 6) (v := ?_) (by simp only [List.getElem?_toArray, List.getElem?_cons_succ, List.getElem?_cons_zero]; rfl) (by kernel_rfl) (by kernel_rfl) (by kernel_rfl) (by intro _ _ _ h; exact h) (Or.inl ⟨by rfl, ?_⟩) hH ?_
        rotate_left
        · intro w' hSw
          obtain ⟨hs0, hs1, hs2⟩ := hSw
          go_simp
          try with_reducible rfl
        try simp only [Act.put, List.setIfInBounds_toArray, List.set_cons_zero, List.set_cons_succ]
        refine wpAnyH_take (i := 8) (v := ?_) (by simp only [List.getElem?_toArray, List.getElem?_cons_succ, List.getElem?_cons_zero]; rfl) (by kernel_rfl) (by kernel_rfl) (by kernel_rfl) (by intro _ _ _ h; exact h) (Or.inl ⟨by rfl, ?_⟩) hH ?_
        rotate_left
        · intro w' hSw
          obtain ⟨hs0, hs1, hs2⟩ := hSw
          go_simp
          try with_reducible rfl
        try simp only [Act.put, List.setIfInBounds_toArray, List.set_cons_zero, List.set_cons_succ]
        refine wpAnyH_take (i := 9) (v := ?_) (by simp only [List.getElem?_toArray, List.getElem?_cons_succ, List.getElem?_cons_zero]; rfl) (by kernel_rfl) (by kernel_rfl) (by kernel_rfl) (by intro _ _ _ h; exact h) (Or.inl ⟨by rfl, ?_⟩) hH ?_
        rotate_left
        · intro w' hSw
          obtain ⟨hs0, hs1, hs2⟩ := hSw
          go_simp
          try with_reducible rfl
        try simp only [Act.put, List.setIfInBounds_toArray, List.set_cons_zero, List.set_cons_succ]
        refine wpAnyH_ready (rs := [7, 10]) (by kernel_rfl) (by simp) ?_
        refine AllReadyH.cons (o := _) (by simp only [List.getElem?_toArray, List.getElem?_cons_succ, List.getElem?_cons_zero]; rfl) (fun K hK => ?_) (AllReadyH.cons (o := _) (by simp only [List.getElem?_toArray, List.getElem?_cons_succ, List.getElem?_cons_zero]; rfl) (fun K hK => ?_) AllReadyH.nil)
        · go_simp
          refine hK.out _ _ hH (fun hH1 => ?_)
          clear hK K
          try simp only [Act.put, List.setIfInBounds_toArray, List.set_cons_zero, List.set_cons_succ]
          refine wpAnyH_ready (rs := [10]) (by kernel_rfl) (by simp) ?_
          refine AllReadyH.cons (o := _) (by simp only [List.getElem?_toArray, List.getElem?_cons_succ, List.getElem?_cons_zero]; rfl) (fun K hK => ?_) AllReadyH.nil
          go_simp
          go_at_call 70
          refine (CD.out _ HBW.out.drew).mono ?_
          rintro e wN ⟨rfl, hbN0⟩
          have hbN : Below W.heap.size W wN := Below.step (Below.refl W.heap.size W).drew hbN0 (Nat.le_refl _)
          obtain ⟨cN, fN⟩ := HC.out wN hbN
          refine hK.out _ _ (heldX hbN hX HS.out) (fun hH2 => ?_)
          clear hK K
          try simp only [Act.put, List.setIfInBounds_toArray, List.set_cons_zero, List.set_cons_succ]
          refine wpAnyH_take (i := 11) (v := ?_) (by simp only [List.getElem?_toArray, List.getElem?_cons_succ, List.getElem?_cons_zero]; rfl) (by kernel_rfl) (by kernel_rfl) (by kernel_rfl) (by intro _ _ _ h; exact h) (Or.inl ⟨by rfl, ?_⟩) hH2 ?_
          rotate_left
          · intro w' hSw
            obtain ⟨hs0, hs1, hs2⟩ := hSw
            go_simp
            try with_reducible rfl
          try simp only [Act.put, List.setIfInBounds_toArray, List.set_cons_zero, List.set_cons_succ]
          refine wpAnyH_take (i := 12) (v := ?_) (by simp only [List.getElem?_toArray, List.getElem?_cons_succ, List.getElem?_cons_zero]; rfl) (by kernel_rfl) (by kernel_rfl) (by kernel_rfl) (by intro _ _ _ h; exact h) (Or.inl ⟨by rfl, ?_⟩) hH2 ?_
          rotate_left
          · intro w' hSw
            obtain ⟨hs0, hs1, hs2⟩ := hSw
            go_simp
            try with_reducible rfl
          try simp only [Act.put, List.setIfInBounds_toArray, List.set_cons_zero, List.set_cons_succ]
          refine wpAnyH_ready (rs := [13]) (by kernel_rfl) (by simp) ?_
          refine AllReadyH.cons (o := _) (by simp only [List.getElem?_toArray, List.getElem?_cons_succ, List.getElem?_cons_zero]; rfl) (fun K hK => ?_) AllReadyH.nil
          go_simp
          refine hK.out _ _ (heldY hbN hX HYX HS.out) (fun hH9 => ?_)
          clear hK K
          try simp only [Act.put, List.setIfInBounds_toArray, List.set_cons_zero, List.set_cons_succ]
          refine wpAnyH_done (by kernel_rfl) ?_ _
          obtain ⟨z0, z1, zB, zZ⟩ := HE.out wN hbN
          clear hH9 hH2 cN fN hbN hbN0
          go_wp2_with fail
          go_roundw
          case rel => exact ⟨k + 1, by go_num, by omega, z0, z1, zB, zZ⟩
          case measure => simp [intOf]; omega
        · go_simp
          go_at_call 70
          refine (CD.out _ HBW.out.drew).mono ?_
          rintro e wN ⟨rfl, hbN0⟩
          have hbN : Below W.heap.size W wN := Below.step (Below.refl W.heap.size W).drew hbN0 (Nat.le_refl _)
          obtain ⟨cN, fN⟩ := HC.out wN hbN
          refine hK.out _ _ (heldX hbN hX HS.out) (fun hH1 => ?_)
          clear hK K
          try simp only [Act.put, List.setIfInBounds_toArray, List.set_cons_zero, List.set_cons_succ]
          refine wpAnyH_ready (rs := [7]) (by kernel_rfl) (by simp) ?_
          refine AllReadyH.cons (o := _) (by simp only [List.getElem?_toArray, List.getElem?_cons_succ, List.getElem?_cons_zero]; rfl) (fun K hK => ?_) AllReadyH.nil
          go_simp
          refine hK.out _ _ hH1 (fun hH2 => ?_)
          clear hK K
          try simp only [Act.put, List.setIfInBounds_toArray, List.set_cons_zero, List.set_cons_succ]
          refine wpAnyH_take (i := 11) (v := ?_) (by simp only [List.getElem?_toArray, List.getElem?_cons_succ, List.getElem?_cons_zero]; rfl) (by kernel_rfl) (by kernel_rfl) (by kernel_rfl) (by intro _ _ _ h; exact h) (Or.inl ⟨by rfl, ?_⟩) hH2 ?_
          rotate_left
          · intro w' hSw
            obtain ⟨hs0, hs1, hs2⟩ := hSw
            go_simp
            try with_reducible rfl
          try simp only [Act.put, List.setIfInBounds_toArray, List.set_cons_zero, List.set_cons_succ]
          refine wpAnyH_take (i := 12) (v := ?_) (by simp only [List.getElem?_toArray, List.getElem?_cons_succ, List.getElem?_cons_zero]; rfl) (by kernel_rfl) (by kernel_rfl) (by kernel_rfl) (by intro _ _ _ h; exact h) (Or.inl ⟨by rfl, ?_⟩) hH2 ?_
          rotate_left
          · intro w' hSw
            obtain ⟨hs0, hs1, hs2⟩ := hSw
            go_simp
            try with_reducible rfl
          try simp only [Act.put, List.setIfInBounds_toArray, List.set_cons_zero, List.set_cons_succ]
          refine wpAnyH_ready (rs := [13]) (by kernel_rfl) (by simp) ?_
          refine AllReadyH.cons (o := _) (by simp only [List.getElem?_toArray, List.getElem?_cons_succ, List.getElem?_cons_zero]; rfl) (fun K hK => ?_) AllReadyH.nil
          go_simp
          refine hK.out _ _ (heldY hbN hX HYX HS.out) (fun hH9 => ?_)
          clear hK K
          try simp only [Act.put, List.setIfInBounds_toArray, List.set_cons_zero, List.set_cons_succ]
          refine wpAnyH_done (by kernel_rfl) ?_ _
          obtain ⟨z0, z1, zB, zZ⟩ := HE.out wN hbN
          clear hH9 hH2 cN fN hbN hbN0
          go_wp2_with fail
          go_roundw
          case rel => exact ⟨k + 1, by go_num, by omega, z0, z1, zB, zZ⟩
          case measure => simp [intOf]; omega
    · have HEQ : rndJ (l.take k) m = rndJ l m := by rw [List.take_of_length_le (by omega)]
      have h0' := h0.out
      rw [HEQ] at h0'
      obtain ⟨W0, rfl⟩ : ∃ W0, W0 = wr := ⟨_, rfl⟩
      have h1' := h1.out
      obtain ⟨R, hRR⟩ : ∃ R, R = rndJ l m := ⟨_, rfl⟩
      have HRR := Lib.hid hRR
      rw [← hRR] at h0'
      have c0 := (cell_at h0' 0).trans (aM_at _ (i := 0) (by decide))
      have f0 := free_of h1' 0
      have g0 := (cell_at h1' 0).trans (arrI_at _ 0 (by decide))
      have c1 := (cell_at h0' 1).trans (aM_at _ (i := 1) (by decide))
      have f1 := free_of h1' 1
      have g1 := (cell_at h1' 1).trans (arrI_at _ 1 (by decide))
      have c2 := (cell_at h0' 2).trans (aM_at _ (i := 2) (by decide))
      have f2 := free_of h1' 2
      have g2 := (cell_at h1' 2).trans (arrI_at _ 2 (by decide))
      have c3 := (cell_at h0' 3).trans (aM_at _ (i := 3) (by decide))
      have f3 := free_of h1' 3
      have g3 := (cell_at h1' 3).trans (arrI_at _ 3 (by decide))
      have c4 := (cell_at h0' 4).trans (aM_at _ (i := 4) (by decide))
      have f4 := free_of h1' 4
      have g4 := (cell_at h1' 4).trans (arrI_at _ 4 (by decide))
      have c5 := (cell_at h0' 5).trans (aM_at _ (i := 5) (by decide))
      have f5 := free_of h1' 5
      have g5 := (cell_at h1' 5).trans (arrI_at _ 5 (by decide))
      have c6 := (cell_at h0' 6).trans (aM_at _ (i := 6) (by decide))
      have f6 := free_of h1' 6
      have g6 := (cell_at h1' 6).trans (arrI_at _ 6 (by decide))
      have c7 := (cell_at h0' 7).trans (aM_at _ (i := 7) (by decide))
      have f7 := free_of h1' 7
      have g7 := (cell_at h1' 7).trans (arrI_at _ 7 (by decide))
      have c8 := (cell_at h0' 8).trans (aM_at _ (i := 8) (by decide))
      have f8 := free_of h1' 8
      have g8 := (cell_at h1' 8).trans (arrI_at _ 8 (by decide))
      have c9 := (cell_at h0' 9).trans (aM_at _ (i := 9) (by decide))
      have f9 := free_of h1' 9
      have g9 := (cell_at h1' 9).trans (arrI_at _ 9 (by decide))
      have c10 := (cell_at h0' 10).trans (aM_at _ (i := 10) (by decide))
      have f10 := free_of h1' 10
      have g10 := (cell_at h1' 10).trans (arrI_at _ 10 (by decide))
      have c11 := (cell_at h0' 11).trans (aM_at _ (i := 11) (by decide))
      have f11 := free_of h1' 11
      have g11 := (cell_at h1' 11).trans (arrI_at _ 11 (by decide))
      have c12 := (cell_at h0' 12).trans (aM_at _ (i := 12) (by decide))
      have f12 := free_of h1' 12
      have g12 := (cell_at h1' 12).trans (arrI_at _ 12 (by decide))
      have c13 := (cell_at h0' 13).trans (aM_at _ (i := 13) (by decide))
      have f13 := free_of h1' 13
      have g13 := (cell_at h1' 13).trans (arrI_at _ 13 (by decide))
      have c14 := (cell_at h0' 14).trans (aM_at _ (i := 14) (by decide))
      have f14 := free_of h1' 14
      have g14 := (cell_at h1' 14).trans (arrI_at _ 14 (by decide))
      have c15 := (cell_at h0' 15).trans (aM_at _ (i := 15) (by decide))
      have f15 := free_of h1' 15
      have g15 := (cell_at h1' 15).trans (arrI_at _ 15 (by decide))
      have HBW := hb
      have H1 := Lib.hid h1'
      have HZ := hz.out
      clear h0 h1 h0' h1' HEQ hRR HR HM HBD X0 X1 XB XZ hb hz
      go_wp2_with fail
      change bodyPost _ _ _ _ _ (setI W0 (w.heap.size + 1) (fun i => R.getD i 0) 16)
      have hc := setI_all W0 (w.heap.size + 1) (fun i => R.getD i 0) _ _ H1.out
      have hB3 : Below w.heap.size w (setI W0 (w.heap.size + 1) (fun i => R.getD i 0) 16) := HBW.out.grown (setI_grown W0 (w.heap.size + 1) (fun i => R.getD i 0) 16) HBW.out.size (fun k e => by injection e with e; omega)
      clear c0 f0 g0 c1 f1 g1 c2 f2 g2 c3 f3 g3 c4 f4 g4 c5 f5 g5 c6 f6 g6 c7 f7 g7 c8 f8 g8 c9 f9 g9 c10 f10 g10 c11 f11 g11 c12 f12 g12 c13 f13 g13 c14 f14 g14 c15 f15 g15 H1
      generalize setI W0 (w.heap.size + 1) (fun i => R.getD i 0) 16 = W5 at hc hB3 ⊢
      have e0 := (cell_at hc 0).trans (arrI_at _ 0 (by decide))
      have e1 := (cell_at hc 1).trans (arrI_at _ 1 (by decide))
      have e2 := (cell_at hc 2).trans (arrI_at _ 2 (by decide))
      have e3 := (cell_at hc 3).trans (arrI_at _ 3 (by decide))
      have e4 := (cell_at hc 4).trans (arrI_at _ 4 (by decide))
      have e5 := (cell_at hc 5).trans (arrI_at _ 5 (by decide))
      have e6 := (cell_at hc 6).trans (arrI_at _ 6 (by decide))
      have e7 := (cell_at hc 7).trans (arrI_at _ 7 (by decide))
      have e8 := (cell_at hc 8).trans (arrI_at _ 8 (by decide))
      have e9 := (cell_at hc 9).trans (arrI_at _ 9 (by decide))
      have e10 := (cell_at hc 10).trans (arrI_at _ 10 (by decide))
      have e11 := (cell_at hc 11).trans (arrI_at _ 11 (by decide))
      have e12 := (cell_at hc 12).trans (arrI_at _ 12 (by decide))
      have e13 := (cell_at hc 13).trans (arrI_at _ 13 (by decide))
      have e14 := (cell_at hc 14).trans (arrI_at _ 14 (by decide))
      have e15 := (cell_at hc 15).trans (arrI_at _ 15 (by decide))
      clear hc
      refine bodyPost_ret (v := .agg (aM R)) (by simp [results, Try.results69, go_sem, e0, e1, e2, e3, e4, e5, e6, e7, e8, e9, e10, e11, e12, e13, e14, e15]; rfl) rfl ?_
      exact ⟨by rw [← HRR.out]; rfl, hB3⟩
end Go.Proofs.Ytglggigndhbpcaa
