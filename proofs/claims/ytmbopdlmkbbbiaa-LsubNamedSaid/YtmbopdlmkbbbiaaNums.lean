/- The contracts of the program's Params and Metas, and of the document's own: the numbers of the parameters, or of the unknowns, of a level, from left to right, each once. Condition: the level is right. -/
import Derived.Test.YtmbopdlmkbbbiaaSonce
import Derived.Test.YtmbopdlmkbbbiaaR5nam
import Derived.Test.YtmbopdlmkbbbiaaSsub
import Derived.Deep.RegionHeld3
namespace Go.Proofs.Ytmbopdlmkbbbiaa
open Go.RowKit Go.Shelf

theorem numF_len (K : Int) : ∀ f : Fo, (numF K f).length ≤ f.size
  | .nil => Nat.le_refl _
  | .cons k n ks r => by
    have h1 := numF_len K ks
    have h2 := numF_len K r
    show ((if k = K then [n] else numF K ks) ++ numF K r).length ≤ ks.size + r.size + 1
    rw [List.length_append]
    split
    · simp; omega
    · omega
theorem num1_len (K k n : Int) (f : Fo) : (num1 K k n f).length ≤ f.size + 1 := by
  unfold num1
  split
  · simp
  · have := numF_len K f; omega
/-- What is answered: the row. -/
def NuPost (zs : List Int) (w : World) (e : Ending) (w' : World) : Prop := ∃ x c, e = .returned (.slice x zs.length c) ∧ IOwn w' w.heap.size (.slice x zs.length c) zs ∧ Below w.heap.size w w'
theorem right_12 {k n : Int} {f : Fo} (h : rightB 5 10 k n f = true) : rNode 5 10 k n f.len 12 (rAll 5 10 f (12 - 1)) = true := by
  unfold rightB at h
  simp only [Bool.and_eq_true, decide_eq_true_eq] at h
  exact h.2.2

/-- The numbers of a right level, by the iterator and once: what its two calls come to. -/
theorem nums_two (K k n : Int) (f : Fo) (a : Option Addr) (cap B : Nat) (w : World) (hr : rightB 5 10 k n f = true) (hsl : SlIn w (· < B) f a cap) (hB : B ≤ w.heap.size) (o : Obj) :
    ∃ W3 lb, Calls Try.prog 47 #[.agg #[.int .i64 k, .int .i64 n, .slice a f.len cap], .int .i64 K, .int .i64 12] (w.alloc o) (fun e w' => e = .returned (.func (.func 66) #[] lb) ∧ w' = W3) ∧
      Calls Try.prog 46 #[.func (.func 66) #[] lb] W3 (NuPost (nm1 K k n f []) W3) ∧ Below w.heap.size w W3 := by
  have hb1 : Below w.heap.size w (w.alloc o) := (Below.refl _ _).alloc (Nat.le_refl _) _
  have hst := NumAt.start (w.alloc o) B K 12 k n f a cap (hsl.below (hb1.mono hB)) (Nat.le_trans hB hb1.size)
  have hb3 : Below (w.alloc o).heap.size (w.alloc o) ((((w.alloc o).alloc (.cells #[.int .i64 k, .int .i64 n, .slice a f.len cap] 30)).alloc (.cells #[.int .i64 K] 3)).alloc (.cells #[.int .i64 12] 3)) := (((Below.refl _ _).alloc (Nat.le_refl _) _).alloc (by simp) _).alloc (by simp) _
  have hp := right_parts hr
  refine ⟨_, _, callsIn_wide.1 (numbers_in 0 k n K 12 (by omega) (by omega) a f.len cap (w.alloc o)), (callsIn_wide (n := 0)).1 ?_, hb1.trans (hb3.mono hb1.size)⟩
  have hz := hb3.size
  refine (once_in 0 _ (num1 K k n f) (NumD (w.alloc o).heap.size B) _ (fun b hb => ?_) (fun W' hW' => numbers1_tells K 12 (Nat.le_refl _) k n f a cap _ B W' (right_12 hr) (hst.turn (O := fun _ => False) (fun _ _ h => h) (Turn.below hW'))) (by have := num1_len K k n f; omega)).mono ?_
  · rcases hb with hb | hb
    · have := hb1.size; omega
    · simp at hb ⊢; omega
  · rintro e w' ⟨x, c, rfl, h1, h2⟩
    rw [nm1_once]
    exact ⟨x, c, rfl, h1, h2⟩

set_option maxHeartbeats 1000000 in
theorem sParams_any (k n : Int) (f : Fo) (a : Option Addr) (cap B : Nat) (w : World) (hr : rightB 5 10 k n f = true) (hsl : SlIn w (· < B) f a cap) (hB : B ≤ w.heap.size) :
    Calls Try.prog 22 #[.agg #[.int .i64 k, .int .i64 n, .slice a f.len cap]] w (NuPost (nm1 5 k n f []) w) := by
  obtain ⟨W3, lb, h1, h2, h3⟩ := nums_two 5 k n f a cap B w hr hsl hB (.cells #[.int .i64 k, .int .i64 n, .slice a f.len cap] 30)
  have H1 := Lib.hid h1
  have H2 := Lib.hid h2
  clear h1 h2
  go_enter Try.func22, Try.ntmps22
  go_wp2_with fail
  refine H1.out.mono ?_
  rintro e w' ⟨rfl, rfl⟩
  go_wp2_with fail
  refine H2.out.mono ?_
  rintro e w2 ⟨x, c, rfl, q1, q2⟩
  have HE : Hid (NuPost (nm1 5 k n f []) w (.returned (.slice x (nm1 5 k n f []).length c)) w2) := Lib.hid ⟨x, c, rfl, q1.low h3.size, Below.step h3 q2 (Nat.le_refl _)⟩
  clear q1 q2
  go_wp2_with fail
  go_ret
  exact HE.out
set_option maxHeartbeats 1000000 in
theorem sMetas_any (k n : Int) (f : Fo) (a : Option Addr) (cap B : Nat) (w : World) (hr : rightB 5 10 k n f = true) (hsl : SlIn w (· < B) f a cap) (hB : B ≤ w.heap.size) :
    Calls Try.prog 24 #[.agg #[.int .i64 k, .int .i64 n, .slice a f.len cap]] w (NuPost (nm1 6 k n f []) w) := by
  obtain ⟨W3, lb, h1, h2, h3⟩ := nums_two 6 k n f a cap B w hr hsl hB (.cells #[.int .i64 k, .int .i64 n, .slice a f.len cap] 30)
  have H1 := Lib.hid h1
  have H2 := Lib.hid h2
  clear h1 h2
  go_enter Try.func24, Try.ntmps24
  go_wp2_with fail
  refine H1.out.mono ?_
  rintro e w' ⟨rfl, rfl⟩
  go_wp2_with fail
  refine H2.out.mono ?_
  rintro e w2 ⟨x, c, rfl, q1, q2⟩
  have HE : Hid (NuPost (nm1 6 k n f []) w (.returned (.slice x (nm1 6 k n f []).length c)) w2) := Lib.hid ⟨x, c, rfl, q1.low h3.size, Below.step h3 q2 (Nat.le_refl _)⟩
  clear q1 q2
  go_wp2_with fail
  go_ret
  exact HE.out
/-- The document's own, with a box of the level ahead. -/
theorem r5nums (K k n : Int) (f : Fo) (a : Option Addr) (cap B : Nat) (w : World) (hz : f.size ≤ 900) (hsl : SlIn w (· < B) f a cap) (hB : B ≤ w.heap.size) (o : Obj) :
    Calls Try.prog 61 #[.agg #[.int .i64 k, .int .i64 n, .slice a f.len cap], .int .i64 K, .slice none 0 0] (w.alloc o) (NuPost (nm1 K k n f []) w) := by
  have hb1 : Below w.heap.size w (w.alloc o) := (Below.refl _ _).alloc (Nat.le_refl _) _
  refine (named_any K (f.size + 1) f (Nat.lt_succ_self _) k n a none cap 0 w.heap.size B [] (w.alloc o) (hsl.below (hb1.mono hB)) hB hb1.size (IOwn.nil _ _) (by simpa using hz)).mono ?_
  rintro e w' ⟨x, c, rfl, h1, h2⟩
  exact ⟨x, c, rfl, h1, hb1.trans (h2.low hb1.size (fun b h => by cases h))⟩
set_option maxHeartbeats 1000000 in
theorem r5Params_any (k n : Int) (f : Fo) (a : Option Addr) (cap B : Nat) (w : World) (hr : rightB 5 10 k n f = true) (hsl : SlIn w (· < B) f a cap) (hB : B ≤ w.heap.size) :
    Calls Try.prog 37 #[.agg #[.int .i64 k, .int .i64 n, .slice a f.len cap]] w (NuPost (nm1 5 k n f []) w) := by
  have H1 := Lib.hid (r5nums 5 k n f a cap B w (by have := right_parts hr; omega) hsl hB (.cells #[.int .i64 k, .int .i64 n, .slice a f.len cap] 30))
  go_enter Try.func37, Try.ntmps37
  go_wp2_with fail
  refine H1.out.mono ?_
  rintro e w2 ⟨x, c, rfl, q1, q2⟩
  have HE : Hid (NuPost (nm1 5 k n f []) w (.returned (.slice x (nm1 5 k n f []).length c)) w2) := Lib.hid ⟨x, c, rfl, q1, q2⟩
  clear q1 q2
  go_wp2_with fail
  go_ret
  exact HE.out
set_option maxHeartbeats 1000000 in
theorem r5Metas_any (k n : Int) (f : Fo) (a : Option Addr) (cap B : Nat) (w : World) (hr : rightB 5 10 k n f = true) (hsl : SlIn w (· < B) f a cap) (hB : B ≤ w.heap.size) :
    Calls Try.prog 38 #[.agg #[.int .i64 k, .int .i64 n, .slice a f.len cap]] w (NuPost (nm1 6 k n f []) w) := by
  have H1 := Lib.hid (r5nums 6 k n f a cap B w (by have := right_parts hr; omega) hsl hB (.cells #[.int .i64 k, .int .i64 n, .slice a f.len cap] 30))
  go_enter Try.func38, Try.ntmps38
  go_wp2_with fail
  refine H1.out.mono ?_
  rintro e w2 ⟨x, c, rfl, q1, q2⟩
  have HE : Hid (NuPost (nm1 6 k n f []) w (.returned (.slice x (nm1 6 k n f []).length c)) w2) := Lib.hid ⟨x, c, rfl, q1, q2⟩
  clear q1 q2
  go_wp2_with fail
  go_ret
  exact HE.out
/-- A row of numbers, as a slice in memory. -/
theorem IOwn.sl {w : World} {base : Nat} {v : Value} {zs : List Int} (h : IOwn w base v zs) : ∃ x c, v = .slice x zs.length c ∧ ∀ i, i < zs.length → ∃ g, x = some ⟨g, 0, none⟩ ∧ g < w.heap.size ∧ w.cell? ⟨g, i, none⟩ = some (.int .i64 (zs.getD i 0)) := by
  obtain ⟨x, c, rfl⟩ := h.form
  refine ⟨x, c, rfl, fun i hi => ?_⟩
  obtain ⟨g, c', hv, _, hg, hc⟩ := h.at hi
  injection hv with h1 _ _
  exact ⟨g, h1, hg, hc⟩
end Go.Proofs.Ytmbopdlmkbbbiaa
