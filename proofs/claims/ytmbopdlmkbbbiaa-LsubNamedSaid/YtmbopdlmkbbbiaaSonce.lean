/- The contract of the program's once, of the iterator over the numbers of a level: each number once, in order. Condition: there are at most 900 numbers. -/
import Derived.Test.YtmbopdlmkbbbiaaSeen
import Derived.Test.YtmbopdlmkbbbiaaSnum
import Derived.Carry
namespace Go.Proofs.Ytmbopdlmkbbbiaa
open Go.RowKit Go.Shelf
attribute [local go_sem] Oper.semAt_some

theorem onceL_snoc (s : List Int) (x : Int) (zs : List Int) : onceL (s ++ [x]) zs = ins x (onceL s zs) := by rw [onceL_app]; rfl
theorem onceL_len : ∀ (s zs : List Int), (onceL s zs).length ≤ zs.length + s.length
  | [], _ => Nat.le_refl _
  | x :: s, zs => by
    have h1 := onceL_len s (ins x zs)
    have h2 := ins_len x zs
    show (onceL s (ins x zs)).length ≤ _
    simp only [List.length_cons]
    omega
theorem IOwn.cells {w : World} {base : Nat} {v : Value} {zs : List Int} (h : IOwn w base v zs) {g : Nat} (hg : v.ownBlock = some g) : ∃ cur, w.heap[g]? = some (.cells cur 3 (0, 0)) := by
  rcases h.2 with ⟨rfl, _⟩ | ⟨g', cap, cur, rfl, _, hh, _⟩
  · cases hg
  · injection hg with hg
    subst hg
    exact ⟨cur, hh⟩
/-- The loop's own blocks: the map, the variable of the row, the row. -/
def OnO (S : Nat) (v : Value) (b : Nat) : Prop := b = S ∨ b = S + 1 + 1 ∨ OwnB v b
/-- What stands in memory between two rounds. -/
def OnI (w : World) (O : Nat → Prop) (s : List Int) (W : World) : Prop := ∃ (x : Option Addr) (c : Nat), O = OnO w.heap.size (.slice x (onceL s []).length c) ∧
  W.heap[w.heap.size]? = some (sTab (onceL s [])) ∧ W.heap[w.heap.size + 1]? = some (.cells #[.map (some w.heap.size)] 105 (0, 0)) ∧ W.heap[w.heap.size + 1 + 1]? = some (.cells #[.slice x (onceL s []).length c] 35 (0, 0)) ∧
  IOwn W (w.heap.size + 1 + 1 + 1) (.slice x (onceL s []).length c) (onceL s []) ∧ Below w.heap.size w W
theorem OnI.inv (w : World) : Inv (w.heap.size + 1 + 1 + 1) (OnI w) := by
  refine ⟨fun O s A A' row hs hg hr => ?_, fun O s A hs b hb => ?_⟩
  · obtain ⟨x, c, hO, h1, h2, h3, h4, h5⟩ := hs
    have keep : ∀ b o, b < w.heap.size + 1 + 1 + 1 → A.heap[b]? = some o → A'.heap[b]? = some o := fun b o hb ho => (hg.block b (Array.getElem?_eq_some_iff.1 ho).1 (fun e => by have := (hr b e.symm).1; omega)).trans ho
    refine ⟨x, c, hO, keep _ _ (by omega) h1, keep _ _ (by omega) h2, keep _ _ (by omega) h3, h4.keep (fun g hgo => ?_), h5.grown hg h5.size (fun k e => by have := (hr k e).1; omega)⟩
    obtain ⟨cur, hcur⟩ := h4.cells hgo
    refine hg.block g (lt_of_block hcur) (fun e => ?_)
    obtain ⟨o, ho, hn⟩ := (hr g e.symm).2
    rw [hcur] at ho
    cases ho
    cases hn
  · obtain ⟨x, c, hO, h1, h2, h3, h4, h5⟩ := hs
    rw [hO] at hb
    have l1 := (Array.getElem?_eq_some_iff.1 h1).1
    have l3 := lt_of_block h3
    rcases hb with rfl | rfl | hb
    · exact l1
    · exact l3
    · exact (h4.lt b hb).2
/-- A number that was there: nothing more happens. -/
theorem OnI.same {w : World} {O : Nat → Prop} {s : List Int} {W : World} {x : Int} (h : OnI w O s W) (hx : x ∈ onceL s []) : OnI w O (s ++ [x]) W := by
  obtain ⟨y, c, h0⟩ := h
  have e : onceL (s ++ [x]) [] = onceL s [] := by rw [onceL_snoc]; unfold ins; rw [if_pos hx]
  refine ⟨y, c, ?_⟩
  rw [e]
  exact h0
/-- A number that was not there: it is laid into the map, and put behind the row. -/
theorem OnI.more {w : World} {O : Nat → Prop} {s : List Int} {W : World} {x : Int} (h : OnI w O s W) (hx : x ∉ onceL s []) (hs : s.length ≤ 900) (o : Obj) :
    ∃ (y : Option Addr) (c g' cap' : Nat) (w3 : World), W.cell? ⟨w.heap.size + 1 + 1, 0, none⟩ = some (.slice y (onceL s []).length c) ∧ (putM (W.alloc o) w.heap.size (sTab (onceL s [] ++ [x]))).cell? ⟨w.heap.size + 1 + 1, 0, none⟩ = some (.slice y (onceL s []).length c) ∧
      Hid ((Instr.mapUpdate 105 (.map (some w.heap.size)) (.int .i64 x) (.agg #[])).run Try.prog (W.alloc o) = .ok () (putM (W.alloc o) w.heap.size (sTab (onceL s [] ++ [x])))) ∧
      Hid ((Builtin.append_ #[35, 35] 35 #[.slice y (onceL s []).length c, .slice (some ⟨W.heap.size + 1, 0, none⟩) 1 1]).run Try.prog ((putM (W.alloc o) w.heap.size (sTab (onceL s [] ++ [x]))).alloc (.cells #[.int .i64 x] 3)) = .ok (.slice (some ⟨g', 0, none⟩) ((onceL s []).length + 1) cap') w3) ∧
      w3.cell? ⟨w.heap.size + 1 + 1, 0, none⟩ = some (.slice y (onceL s []).length c) ∧ w3.frozen? ⟨w.heap.size + 1 + 1, 0, none⟩ = false ∧
      Hid (∃ O', OnI w O' (s ++ [x]) (w3.setCell ⟨w.heap.size + 1 + 1, 0, none⟩ (.slice (some ⟨g', 0, none⟩) ((onceL s []).length + 1) cap')) ∧ Turn O W O' (w3.setCell ⟨w.heap.size + 1 + 1, 0, none⟩ (.slice (some ⟨g', 0, none⟩) ((onceL s []).length + 1) cap'))) := by
  obtain ⟨y, c, hO, h1, h2, h3, h4, h5⟩ := h
  have e : onceL (s ++ [x]) [] = onceL s [] ++ [x] := by rw [onceL_snoc]; unfold ins; rw [if_neg hx]
  have hll := onceL_len s []
  generalize onceL s [] = zs at *
  have l3 := lt_of_block h3
  have hown := h4.lt
  have q1 : (W.alloc o).heap[w.heap.size]? = some (sTab zs) := (heap_old _ _ (by omega)).trans h1
  have hup := run_updI (W.alloc o) w.heap.size zs q1 x hx
  have p0 := putM_at (o' := sTab (zs ++ [x])) q1
  have pne : ∀ b, b < W.heap.size → b ≠ w.heap.size → (putM (W.alloc o) w.heap.size (sTab (zs ++ [x]))).heap[b]? = W.heap[b]? := fun b hb hn => (putM_ne _ _ hn).trans (heap_old _ _ hb)
  have zp : (putM (W.alloc o) w.heap.size (sTab (zs ++ [x]))).heap.size = W.heap.size + 1 := by simp
  have op : (putM (W.alloc o) w.heap.size (sTab (zs ++ [x]))).os = W.os ∧ (putM (W.alloc o) w.heap.size (sTab (zs ++ [x]))).tape = W.tape ∧ (putM (W.alloc o) w.heap.size (sTab (zs ++ [x]))).output = W.output := ⟨rfl, rfl, rfl⟩
  generalize putM (W.alloc o) w.heap.size (sTab (zs ++ [x])) = V at *
  have p4 : IOwn V (w.heap.size + 1 + 1 + 1) (.slice y zs.length c) zs := h4.keep (fun g hg => pne g (hown g hg).2 (by have := (hown g hg).1; omega))
  obtain ⟨g', cap', w3, hrun, i3, t3⟩ := p4.push 35 x (by simp at hll; omega) (by omega)
  rw [zp] at hrun
  have hno : ∀ b, b < w.heap.size + 1 + 1 + 1 → ¬ OwnB (.slice y zs.length c) b := fun b hb h => by have := (hown b h).1; omega
  have k0 := (t3.2.2.2.2.1 w.heap.size (by omega) (hno _ (by omega))).trans p0
  have k1 := (t3.2.2.2.2.1 (w.heap.size + 1) (by omega) (hno _ (by omega))).trans ((pne _ (by omega) (by omega)).trans h2)
  have k2 := (t3.2.2.2.2.1 (w.heap.size + 1 + 1) (by omega) (hno _ (by omega))).trans ((pne _ (by omega) (by omega)).trans h3)
  have z3 := t3.2.2.2.1
  have hg' := i3.lt g' rfl
  refine ⟨y, c, g', cap', w3, cell_at h3 0, cell_at ((pne _ (by omega) (by omega)).trans h3) 0, Lib.hid hup, Lib.hid hrun, cell_at k2 0, free_of k2 0, Lib.hid ⟨OnO w.heap.size (.slice (some ⟨g', 0, none⟩) (zs.length + 1) cap'), ⟨some ⟨g', 0, none⟩, cap', ?_⟩, ?_⟩⟩
  · rw [e]
    have el : (zs ++ [x]).length = zs.length + 1 := by simp
    rw [el]
    refine ⟨rfl, (Below.heap_setCell _ _ _ _ (show w.heap.size ≠ w.heap.size + 1 + 1 by omega)).trans k0, (Below.heap_setCell _ _ _ _ (show w.heap.size + 1 ≠ w.heap.size + 1 + 1 by omega)).trans k1, heap_setCell_same w3 _ 0 _ _ _ k2, i3.keep (fun g hg => ?_), ?_⟩
    · exact Below.heap_setCell _ _ _ _ (show g ≠ w.heap.size + 1 + 1 by have := (i3.lt g hg).1; omega)
    · have b3 : Below w.heap.size w w3 := by
        refine ⟨t3.1.trans (op.1.trans h5.os), t3.2.1.trans (op.2.1.trans h5.tape), t3.2.2.1.trans (op.2.2.trans h5.output), by have := h5.size; omega, fun b hb => ?_⟩
        exact (t3.2.2.2.2.1 b (by have := h5.size; omega) (hno _ (by omega))).trans ((pne b (by have := h5.size; omega) (by omega)).trans (h5.block b hb))
      exact b3.setCell (show w.heap.size ≤ w.heap.size + 1 + 1 by omega) _
  · rw [hO]
    refine ⟨t3.1.trans op.1, t3.2.1.trans op.2.1, t3.2.2.1.trans op.2.2, by simp; omega, fun b hb hn => ?_, fun b hb => ?_⟩
    · have n1 : b ≠ w.heap.size := fun h => hn (.inl h)
      have n2 : b ≠ w.heap.size + 1 + 1 := fun h => hn (.inr (.inl h))
      have n3 : ¬ OwnB (.slice y zs.length c) b := fun h => hn (.inr (.inr h))
      exact (Below.heap_setCell _ _ _ _ n2).trans ((t3.2.2.2.2.1 b (by omega) n3).trans (pne b hb n1))
    · rcases hb with hb | hb | hb
      · exact .inl (.inl hb)
      · exact .inl (.inr (.inl hb))
      · rcases t3.2.2.2.2.2 b hb with h | h
        · exact .inl (.inr (.inr h))
        · exact .inr (by omega)
/-- What once answers. -/
def OnPost (xs : List Int) (w : World) (e : Ending) (w' : World) : Prop := ∃ x c, e = .returned (.slice x (onceL xs []).length c) ∧ IOwn w' w.heap.size (.slice x (onceL xs []).length c) (onceL xs []) ∧ Below w.heap.size w w'

set_option maxRecDepth 100000 in
set_option maxHeartbeats 4000000 in
theorem once_in (n' : Nat) (lb : Array Value) (xs : List Int) (D : Nat → Prop) (w : World) (hD : ∀ b, D b → b < w.heap.size) (hT : ∀ W', Below w.heap.size w W' → Tells D 66 lb xs W') (hlen : xs.length ≤ 900) :
    CallsIn Fence.wide n' Try.prog 46 #[.func (.func 66) #[] lb] w (OnPost xs w) := by
  have hb0 : Below w.heap.size w (((w.alloc (.map #[] 0)).alloc (.cells #[.map (some w.heap.size)] 105)).alloc (.cells #[.slice none 0 0] 35)) := (((Below.refl _ _).alloc (Nat.le_refl _) _).alloc (by simp) _).alloc (by simp; omega) _
  have hI0 : OnI w (OnO w.heap.size (.slice none 0 0)) [] (((w.alloc (.map #[] 0)).alloc (.cells #[.map (some w.heap.size)] 105)).alloc (.cells #[.slice none 0 0] 35)) := by
    refine ⟨none, 0, rfl, (heap_old _ _ (by simp; omega)).trans ((heap_old _ _ (by simp)).trans (heap_new _ _)), (heap_old _ _ (by simp)).trans (heap_second _ _ _), ?_, IOwn.nil _ _, hb0⟩
    have := heap_new ((w.alloc (.map #[] 0)).alloc (.cells #[.map (some w.heap.size)] 105)) (.cells #[.slice none 0 0] 35)
    exact by have h2 : onceL [] [] = [] := rfl; rw [h2]; simpa using this
  have HI0 := Lib.hid hI0
  have HB0 := Lib.hid hb0
  clear hI0 hb0
  have hmm := @run_makeMap Try.prog
  refine callsIn_of_wp_marks Try.func46 rfl trivial ?_ rfl
  simp only [Try.ntmps46, List.size_toArray, List.length_cons, List.length_nil, Nat.reduceAdd, Nat.reduceSub, Array.replicate_succ, Array.replicate_zero, List.push_toArray, List.append_toArray, List.nil_append, List.cons_append]
  gi_wp2
  clear hmm
  refine loop_tells (gf := 66) (lb := lb) rfl (enters_of Try.func66 (by kernel_rfl) rfl) rfl (xs := xs) (D := D) (O := OnO w.heap.size (.slice none 0 0)) (fun b hb h => ?_) (fun o1 o2 => hT _ ((HB0.out.alloc HB0.out.size _).alloc (by have := HB0.out.size; simp at this ⊢; omega) _)) (OnI w) (by have := OnI.inv w; simpa using this) HI0.out ?round ?done
  · have h1 := hD b hb
    rcases h with rfl | rfl | h
    · omega
    · omega
    · cases h
  case round =>
    rintro l2 m2 P pre x X hI hpre
    gi_wp2
    refine ⟨trivial, ?_⟩
    intro Wb hIb
    have hpl : pre.length ≤ 900 := by have := hpre.length_le; simp at this; omega
    have cT := cell_at hIb.choose_spec.choose_spec.2.2.1 0
    have hM := hIb.choose_spec.choose_spec.2.1
    simp at cT
    have cT2 := (World.cell?_of_block (w := Wb) (a := ⟨w.heap.size + 1, 0, none⟩) (heap_old Wb (.cells #[] 106) (lt_of_block hIb.choose_spec.choose_spec.2.2.1))).trans cT
    have l1 := run_lookI Wb w.heap.size (onceL pre []) hM x
    clear hM
    by_cases hx : x ∈ onceL pre []
    · have dx : decide (x ∈ onceL pre []) = true := decide_eq_true hx
      rw [dx] at l1
      have HS := Lib.hid (OnI.same hIb hx)
      have hOa := (OnI.inv w).alloc (.cells #[] 106) HS.out
      have HOA := Lib.hid hOa
      clear dx hx hOa
      gi_wp2
      exact ⟨P, HOA.out, Turn.alloc _ _ _⟩
    · have dx : decide (x ∈ onceL pre []) = false := decide_eq_false hx
      rw [dx] at l1
      obtain ⟨y, c, g', cap', w3, c1, c2, hup, HRUN, c3, f3, HN⟩ := hIb.more hx hpl (.cells #[] 106)
      have l2 := hup.out
      clear dx hx hIb hup
      gi_wp2_with (gi_at_builtin; refine wpListIn_append_run (by rfl) _ _ _ (by rfl) (by rfl) (by rfl) HRUN.out ?_)
      exact HN.out
  case done =>
    rintro d O' X hd hI hk hnd ht
    have hI2 := (OnI.inv w).put (.deferred none) hI (by simp at hd; omega) hk rfl
    obtain ⟨x, c, hO, h1, h2, h3, h4, h5⟩ := hI
    obtain ⟨x', c', _, _, _, h3', h4', h5'⟩ := hI2
    have c3 := cell_at h3 0
    simp at c3
    have hne : d ≠ w.heap.size + 1 + 1 := fun e => by rw [e, h3] at hk; cases hk
    have h33 := (World.putObj_heap_other (w := X) (r := d) (o := .deferred none) (Ne.symm hne)).trans h3
    rw [h33] at h3'
    have hxx : x = x' ∧ c = c' := by injection h3' with h3'; injection h3' with h3'; injection h3' with h3'; injection h3' with h3' _; injection h3' with e1 _ e3; exact ⟨e1, e3⟩
    obtain ⟨rfl, rfl⟩ := hxx
    have HF : Hid (OnPost xs w (.returned (.slice x (onceL xs []).length c)) (X.putObj d (.deferred none))) := Lib.hid ⟨x, c, rfl, h4'.low (by omega), h5'⟩
    clear h1 h2 h3 h4 h5 h3' h4' h5' h33
    gi_wp2
    refine ⟨by simp, .inl ⟨_, _, rfl, run_takeDeferred hk, ?_⟩⟩
    refine ⟨_, results_tmp rfl _ _ _, ?_⟩
    exact HF.out
end Go.Proofs.Ytmbopdlmkbbbiaa
