/- Ystep. No condition but those that stand in each statement. -/
import Derived.IntWalk
import Derived.Test.YtnfhpombnbpdcaaGreatZQ38
namespace Go.Proofs.YtnfhpombnbpdcaaGreat
open Go.RowKit
def StP (B lo MB : Nat) (ea : Option Addr) (len cap : Nat) (A : Tm × Int) (G : Ft) (n : Nat) (w : World) (e : Ending) (w' : World) : Prop := AcP MB lo w w' ∧
  ((n = 0 ∧ e = .returned (.tuple #[.bool false, .int .i64 40])) ∨ (n ≠ 0 ∧ A.2 = 0 ∧ e = .returned (.tuple #[.bool true, .int .i64 0]) ∧ Mi B lo MB ea len cap A.1 G (n - 1) w') ∨ (n ≠ 0 ∧ A.2 ≠ 0 ∧ e = .returned (.tuple #[.bool false, .int .i64 A.2])))
theorem StP.after {B lo MB : Nat} {ea : Option Addr} {len cap : Nat} {A : Tm × Int} {G : Ft} {n : Nat} {w w1 : World} {e : Ending} {w' : World} (h : StP B lo MB ea len cap A G n w1 e w') (hb : AcP MB lo w w1) : StP B lo MB ea len cap A G n w e w' := ⟨hb.trans h.1, h.2⟩
set_option maxRecDepth 100000 in
set_option maxHeartbeats 2000000 in
theorem yStep_yLet1 (p1 p2 : Nat) (B lo MB : Nat) (ea : Option Addr) (len cap : Nat) (T : Tm) (A : Tm × Int) (G : Ft) (n : Nat) (hn5 : n ≤ 100000) (la : Option Addr) (lc : Nat) (ka : Option Addr) (kc : Nat) (av : Value) (w : World) (h : MiAt B lo MB ea len cap T G n w la lc ka kc av)
    (hf : Calls Tryz.prog 75 #[.pointer (some ⟨p1, 0, none⟩), .pointer (some ⟨p2, 0, none⟩)] (w.setCell ⟨MB, 6, none⟩ (.int .i64 ((n - 1 : Nat) : Int))) (LePost A (w.setCell ⟨MB, 6, none⟩ (.int .i64 ((n - 1 : Nat) : Int))))) :
    Calls Tryz.prog 74 #[.pointer (some ⟨MB, 0, none⟩), .func (.func 75) #[] #[.pointer (some ⟨p1, 0, none⟩), .pointer (some ⟨p2, 0, none⟩)]] w (StP B lo MB ea len cap A G n w) := by
  obtain ⟨⟨m0, m1, m2, m3, m4, m5, m6⟩, mf, ml⟩ := h.cells
  by_cases h0 : n = 0
  · subst h0
    have d0 : ((((0 : Nat) : Int)) == 0) = true := rfl
    clear hf h
    go_enter Tryz.func74, Tryz.ntmps74
    go_wp2_with fail
    refine bodyPost_ret (v := .tuple #[.bool false, .int .i64 40]) (by simp [results, Tryz.results74, go_sem]) rfl ?_
    exact ⟨AcP.refl _ _ _, .inl ⟨rfl, rfl⟩⟩
  · have d0 : ((n : Int) == 0) = false := beq_eq_false_iff_ne.2 (by omega)
    have hw : IntKind.i64.wrap ((n : Int) - 1) = ((n - 1 : Nat) : Int) := by rw [IntWalk.i64_in _ (by omega)]; omega
    have H := Lib.hid (h.burn (n - 1))
    have HN := Lib.hid h0
    have HF := Lib.hid hf
    have HA := Lib.hid (AcP.set MB lo w 6 (.int .i64 ((n - 1 : Nat) : Int)))
    clear hf h h0
    go_enter Tryz.func74, Tryz.ntmps74
    go_wp2_with fail
    refine HF.out.mono ?_
    rintro e w3 ⟨x1, y1, x2, y2, rfl, q1, q2, q3⟩
    have hal : Below w3.heap.size w3 (w3.alloc (.cells #[.int .i64 A.1.k, .int .i64 A.1.n, .slice x1 A.1.ls.len y1, .slice x2 A.1.ks.len y2] 30)) := (Below.refl _ _).alloc (Nat.le_refl _) _
    have q3' := Below.step q3 hal (Nat.le_refl _)
    have hx := H.out.next q3' A.1 ((q1.keep (fun b hb => hal.block b hb.2)).weak (fun b hb => ⟨hb.1, Nat.lt_of_lt_of_le hb.2 hal.size⟩)) (q2.turn (fun b hb => hal.block b hb.2) (fun b hb => ⟨hb.1, Nat.lt_of_lt_of_le hb.2 hal.size⟩))
    have HX := Lib.hid hx.1
    have HG := Lib.hid ((HA.out.trans (AcP.of q3')).trans (AcP.only hx.2))
    obtain ⟨⟨k0, k1, k2, k3, k4, k5, k6⟩, kf, kl⟩ := (H.out.later q3').cells
    have n0 := heap_new w3 (.cells #[.int .i64 A.1.k, .int .i64 A.1.n, .slice x1 A.1.ls.len y1, .slice x2 A.1.ks.len y2] 30)
    obtain ⟨t0, t1, t2, t3⟩ := cells4 n0
    clear q1 q2 q3 q3' hal hx n0 m0 m1 m2 m3 m4 m5 m6 mf ml HA H hw
    by_cases hA : A.2 = 0
    · have dA : (A.2 == 0) = true := beq_iff_eq.2 hA
      have HAE := Lib.hid hA
      clear hA
      go_wp2_with fail
      refine bodyPost_ret (v := .tuple #[.bool true, .int .i64 A.2]) (by simp [results, Tryz.results74, go_sem]) rfl ?_
      exact ⟨HG.out, .inr (.inl ⟨HN.out, HAE.out, by rw [HAE.out], _, _, _, _, _, HX.out⟩)⟩
    · have dA : (A.2 == 0) = false := beq_eq_false_iff_ne.2 hA
      have HAE := Lib.hid hA
      clear hA
      go_wp2_with fail
      refine bodyPost_ret (v := .tuple #[.bool false, .int .i64 A.2]) (by simp [results, Tryz.results74, go_sem]) rfl ?_
      exact ⟨HG.out, .inr (.inr ⟨HN.out, HAE.out, rfl⟩)⟩
set_option maxRecDepth 100000 in
set_option maxHeartbeats 2000000 in
theorem yStep_yApp1 (p1 p2 : Nat) (B lo MB : Nat) (ea : Option Addr) (len cap : Nat) (T : Tm) (A : Tm × Int) (G : Ft) (n : Nat) (hn5 : n ≤ 100000) (la : Option Addr) (lc : Nat) (ka : Option Addr) (kc : Nat) (av : Value) (w : World) (h : MiAt B lo MB ea len cap T G n w la lc ka kc av)
    (hf : Calls Tryz.prog 79 #[.pointer (some ⟨p1, 0, none⟩), .pointer (some ⟨p2, 0, none⟩)] (w.setCell ⟨MB, 6, none⟩ (.int .i64 ((n - 1 : Nat) : Int))) (LePost A (w.setCell ⟨MB, 6, none⟩ (.int .i64 ((n - 1 : Nat) : Int))))) :
    Calls Tryz.prog 74 #[.pointer (some ⟨MB, 0, none⟩), .func (.func 79) #[] #[.pointer (some ⟨p1, 0, none⟩), .pointer (some ⟨p2, 0, none⟩)]] w (StP B lo MB ea len cap A G n w) := by
  obtain ⟨⟨m0, m1, m2, m3, m4, m5, m6⟩, mf, ml⟩ := h.cells
  by_cases h0 : n = 0
  · subst h0
    have d0 : ((((0 : Nat) : Int)) == 0) = true := rfl
    clear hf h
    go_enter Tryz.func74, Tryz.ntmps74
    go_wp2_with fail
    refine bodyPost_ret (v := .tuple #[.bool false, .int .i64 40]) (by simp [results, Tryz.results74, go_sem]) rfl ?_
    exact ⟨AcP.refl _ _ _, .inl ⟨rfl, rfl⟩⟩
  · have d0 : ((n : Int) == 0) = false := beq_eq_false_iff_ne.2 (by omega)
    have hw : IntKind.i64.wrap ((n : Int) - 1) = ((n - 1 : Nat) : Int) := by rw [IntWalk.i64_in _ (by omega)]; omega
    have H := Lib.hid (h.burn (n - 1))
    have HN := Lib.hid h0
    have HF := Lib.hid hf
    have HA := Lib.hid (AcP.set MB lo w 6 (.int .i64 ((n - 1 : Nat) : Int)))
    clear hf h h0
    go_enter Tryz.func74, Tryz.ntmps74
    go_wp2_with fail
    refine HF.out.mono ?_
    rintro e w3 ⟨x1, y1, x2, y2, rfl, q1, q2, q3⟩
    have hal : Below w3.heap.size w3 (w3.alloc (.cells #[.int .i64 A.1.k, .int .i64 A.1.n, .slice x1 A.1.ls.len y1, .slice x2 A.1.ks.len y2] 30)) := (Below.refl _ _).alloc (Nat.le_refl _) _
    have q3' := Below.step q3 hal (Nat.le_refl _)
    have hx := H.out.next q3' A.1 ((q1.keep (fun b hb => hal.block b hb.2)).weak (fun b hb => ⟨hb.1, Nat.lt_of_lt_of_le hb.2 hal.size⟩)) (q2.turn (fun b hb => hal.block b hb.2) (fun b hb => ⟨hb.1, Nat.lt_of_lt_of_le hb.2 hal.size⟩))
    have HX := Lib.hid hx.1
    have HG := Lib.hid ((HA.out.trans (AcP.of q3')).trans (AcP.only hx.2))
    obtain ⟨⟨k0, k1, k2, k3, k4, k5, k6⟩, kf, kl⟩ := (H.out.later q3').cells
    have n0 := heap_new w3 (.cells #[.int .i64 A.1.k, .int .i64 A.1.n, .slice x1 A.1.ls.len y1, .slice x2 A.1.ks.len y2] 30)
    obtain ⟨t0, t1, t2, t3⟩ := cells4 n0
    clear q1 q2 q3 q3' hal hx n0 m0 m1 m2 m3 m4 m5 m6 mf ml HA H hw
    by_cases hA : A.2 = 0
    · have dA : (A.2 == 0) = true := beq_iff_eq.2 hA
      have HAE := Lib.hid hA
      clear hA
      go_wp2_with fail
      refine bodyPost_ret (v := .tuple #[.bool true, .int .i64 A.2]) (by simp [results, Tryz.results74, go_sem]) rfl ?_
      exact ⟨HG.out, .inr (.inl ⟨HN.out, HAE.out, by rw [HAE.out], _, _, _, _, _, HX.out⟩)⟩
    · have dA : (A.2 == 0) = false := beq_eq_false_iff_ne.2 hA
      have HAE := Lib.hid hA
      clear hA
      go_wp2_with fail
      refine bodyPost_ret (v := .tuple #[.bool false, .int .i64 A.2]) (by simp [results, Tryz.results74, go_sem]) rfl ?_
      exact ⟨HG.out, .inr (.inr ⟨HN.out, HAE.out, rfl⟩)⟩
set_option maxRecDepth 100000 in
set_option maxHeartbeats 2000000 in
theorem yStep_yUnf1 (p1 p2 p3 : Nat) (B lo MB : Nat) (ea : Option Addr) (len cap : Nat) (T : Tm) (A : Tm × Int) (G : Ft) (n : Nat) (hn5 : n ≤ 100000) (la : Option Addr) (lc : Nat) (ka : Option Addr) (kc : Nat) (av : Value) (w : World) (h : MiAt B lo MB ea len cap T G n w la lc ka kc av)
    (hf : Calls Tryz.prog 77 #[.pointer (some ⟨p1, 0, none⟩), .pointer (some ⟨p2, 0, none⟩), .pointer (some ⟨p3, 0, none⟩)] (w.setCell ⟨MB, 6, none⟩ (.int .i64 ((n - 1 : Nat) : Int))) (LePost A (w.setCell ⟨MB, 6, none⟩ (.int .i64 ((n - 1 : Nat) : Int))))) :
    Calls Tryz.prog 74 #[.pointer (some ⟨MB, 0, none⟩), .func (.func 77) #[] #[.pointer (some ⟨p1, 0, none⟩), .pointer (some ⟨p2, 0, none⟩), .pointer (some ⟨p3, 0, none⟩)]] w (StP B lo MB ea len cap A G n w) := by
  obtain ⟨⟨m0, m1, m2, m3, m4, m5, m6⟩, mf, ml⟩ := h.cells
  by_cases h0 : n = 0
  · subst h0
    have d0 : ((((0 : Nat) : Int)) == 0) = true := rfl
    clear hf h
    go_enter Tryz.func74, Tryz.ntmps74
    go_wp2_with fail
    refine bodyPost_ret (v := .tuple #[.bool false, .int .i64 40]) (by simp [results, Tryz.results74, go_sem]) rfl ?_
    exact ⟨AcP.refl _ _ _, .inl ⟨rfl, rfl⟩⟩
  · have d0 : ((n : Int) == 0) = false := beq_eq_false_iff_ne.2 (by omega)
    have hw : IntKind.i64.wrap ((n : Int) - 1) = ((n - 1 : Nat) : Int) := by rw [IntWalk.i64_in _ (by omega)]; omega
    have H := Lib.hid (h.burn (n - 1))
    have HN := Lib.hid h0
    have HF := Lib.hid hf
    have HA := Lib.hid (AcP.set MB lo w 6 (.int .i64 ((n - 1 : Nat) : Int)))
    clear hf h h0
    go_enter Tryz.func74, Tryz.ntmps74
    go_wp2_with fail
    refine HF.out.mono ?_
    rintro e w3 ⟨x1, y1, x2, y2, rfl, q1, q2, q3⟩
    have hal : Below w3.heap.size w3 (w3.alloc (.cells #[.int .i64 A.1.k, .int .i64 A.1.n, .slice x1 A.1.ls.len y1, .slice x2 A.1.ks.len y2] 30)) := (Below.refl _ _).alloc (Nat.le_refl _) _
    have q3' := Below.step q3 hal (Nat.le_refl _)
    have hx := H.out.next q3' A.1 ((q1.keep (fun b hb => hal.block b hb.2)).weak (fun b hb => ⟨hb.1, Nat.lt_of_lt_of_le hb.2 hal.size⟩)) (q2.turn (fun b hb => hal.block b hb.2) (fun b hb => ⟨hb.1, Nat.lt_of_lt_of_le hb.2 hal.size⟩))
    have HX := Lib.hid hx.1
    have HG := Lib.hid ((HA.out.trans (AcP.of q3')).trans (AcP.only hx.2))
    obtain ⟨⟨k0, k1, k2, k3, k4, k5, k6⟩, kf, kl⟩ := (H.out.later q3').cells
    have n0 := heap_new w3 (.cells #[.int .i64 A.1.k, .int .i64 A.1.n, .slice x1 A.1.ls.len y1, .slice x2 A.1.ks.len y2] 30)
    obtain ⟨t0, t1, t2, t3⟩ := cells4 n0
    clear q1 q2 q3 q3' hal hx n0 m0 m1 m2 m3 m4 m5 m6 mf ml HA H hw
    by_cases hA : A.2 = 0
    · have dA : (A.2 == 0) = true := beq_iff_eq.2 hA
      have HAE := Lib.hid hA
      clear hA
      go_wp2_with fail
      refine bodyPost_ret (v := .tuple #[.bool true, .int .i64 A.2]) (by simp [results, Tryz.results74, go_sem]) rfl ?_
      exact ⟨HG.out, .inr (.inl ⟨HN.out, HAE.out, by rw [HAE.out], _, _, _, _, _, HX.out⟩)⟩
    · have dA : (A.2 == 0) = false := beq_eq_false_iff_ne.2 hA
      have HAE := Lib.hid hA
      clear hA
      go_wp2_with fail
      refine bodyPost_ret (v := .tuple #[.bool false, .int .i64 A.2]) (by simp [results, Tryz.results74, go_sem]) rfl ?_
      exact ⟨HG.out, .inr (.inr ⟨HN.out, HAE.out, rfl⟩)⟩
theorem yOpen_yLet1 (p1 p2 : Nat) (B lo MB : Nat) (ea : Option Addr) (len cap : Nat) (T X2 X1 : Tm) (G : Ft) (n : Nat) (hn5 : n ≤ 100000) (la : Option Addr) (lc : Nat) (ka : Option Addr) (kc : Nat) (av : Value) (W : World) (h : MiAt B lo MB ea len cap T G n W la lc ka kc av) {la2 ka2 la3 ka3 : Option Addr} {lc2 kc2 lc3 kc3 N : Nat}
    (h1 : W.heap[p1]? = some (.cells #[.int .i64 X2.k, .int .i64 X2.n, .slice la2 X2.ls.len lc2, .slice ka2 X2.ks.len kc2] 30 (0, 0))) (h2 : W.heap[p2]? = some (.cells #[.int .i64 X1.k, .int .i64 X1.n, .slice la3 X1.ls.len lc3, .slice ka3 X1.ks.len kc3] 30 (0, 0))) (hp1 : p1 ≠ MB) (hp2 : p2 ≠ MB)
    (s2 : SlIn W (fun x => x ≠ MB ∧ x < N) X2.ls la2 lc2) (s3 : TlIn W (fun x => x ≠ MB ∧ x < N) X2.ks ka2 kc2) (r2 : SlIn W (fun x => x ≠ MB ∧ x < N) X1.ls la3 lc3) (r3 : TlIn W (fun x => x ≠ MB ∧ x < N) X1.ks ka3 kc3) (hN : N ≤ W.heap.size) :
    Calls Tryz.prog 74 #[.pointer (some ⟨MB, 0, none⟩), .func (.func 75) #[] #[.pointer (some ⟨p1, 0, none⟩), .pointer (some ⟨p2, 0, none⟩)]] W (StP B lo MB ea len cap (openA X2 X1) G n W) := by
  have hg := Only.set W MB 6 (.int .i64 ((n - 1 : Nat) : Int))
  have k : ∀ x, (x ≠ MB ∧ x < N) → (W.setCell ⟨MB, 6, none⟩ (.int .i64 ((n - 1 : Nat) : Int))).heap[x]? = W.heap[x]? := fun x hx => Only.block hg (Nat.lt_of_lt_of_le hx.2 hN) hx.1
  have q : ∀ x, (x ≠ MB ∧ x < N) → x < N := fun x hx => hx.2
  exact yStep_yLet1 p1 p2 B lo MB ea len cap T (openA X2 X1) G n hn5 la lc ka kc av W h
    (yLet1_any p1 p2 X2 X1 la2 ka2 la3 ka3 lc2 kc2 lc3 kc3 N _ ((Only.block hg (lt_of_block h1) hp1).trans h1) ((Only.block hg (lt_of_block h2) hp2).trans h2) ((s2.keep k).weak q) (s3.turn k q) ((r2.keep k).weak q) (r3.turn k q) (by rw [World.size_setCell]; exact hN))
theorem yOpen_yApp1 (p1 p2 : Nat) (B lo MB : Nat) (ea : Option Addr) (len cap : Nat) (T X2 X1 : Tm) (G : Ft) (n : Nat) (hn5 : n ≤ 100000) (la : Option Addr) (lc : Nat) (ka : Option Addr) (kc : Nat) (av : Value) (W : World) (h : MiAt B lo MB ea len cap T G n W la lc ka kc av) {la2 ka2 la3 ka3 : Option Addr} {lc2 kc2 lc3 kc3 N : Nat}
    (h1 : W.heap[p1]? = some (.cells #[.int .i64 X2.k, .int .i64 X2.n, .slice la2 X2.ls.len lc2, .slice ka2 X2.ks.len kc2] 30 (0, 0))) (h2 : W.heap[p2]? = some (.cells #[.int .i64 X1.k, .int .i64 X1.n, .slice la3 X1.ls.len lc3, .slice ka3 X1.ks.len kc3] 30 (0, 0))) (hp1 : p1 ≠ MB) (hp2 : p2 ≠ MB)
    (s2 : SlIn W (fun x => x ≠ MB ∧ x < N) X2.ls la2 lc2) (s3 : TlIn W (fun x => x ≠ MB ∧ x < N) X2.ks ka2 kc2) (r2 : SlIn W (fun x => x ≠ MB ∧ x < N) X1.ls la3 lc3) (r3 : TlIn W (fun x => x ≠ MB ∧ x < N) X1.ks ka3 kc3) (hN : N ≤ W.heap.size) :
    Calls Tryz.prog 74 #[.pointer (some ⟨MB, 0, none⟩), .func (.func 79) #[] #[.pointer (some ⟨p1, 0, none⟩), .pointer (some ⟨p2, 0, none⟩)]] W (StP B lo MB ea len cap (openA X2 X1) G n W) := by
  have hg := Only.set W MB 6 (.int .i64 ((n - 1 : Nat) : Int))
  have k : ∀ x, (x ≠ MB ∧ x < N) → (W.setCell ⟨MB, 6, none⟩ (.int .i64 ((n - 1 : Nat) : Int))).heap[x]? = W.heap[x]? := fun x hx => Only.block hg (Nat.lt_of_lt_of_le hx.2 hN) hx.1
  have q : ∀ x, (x ≠ MB ∧ x < N) → x < N := fun x hx => hx.2
  exact yStep_yApp1 p1 p2 B lo MB ea len cap T (openA X2 X1) G n hn5 la lc ka kc av W h
    (yApp1_any p1 p2 X2 X1 la2 ka2 la3 ka3 lc2 kc2 lc3 kc3 N _ ((Only.block hg (lt_of_block h1) hp1).trans h1) ((Only.block hg (lt_of_block h2) hp2).trans h2) ((s2.keep k).weak q) (s3.turn k q) ((r2.keep k).weak q) (r3.turn k q) (by rw [World.size_setCell]; exact hN))
end Go.Proofs.YtnfhpombnbpdcaaGreat
