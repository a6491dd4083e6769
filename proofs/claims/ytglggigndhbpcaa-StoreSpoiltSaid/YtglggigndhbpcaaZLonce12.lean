/- One call of Add in the law StoreOnce, in each order in which Go may make the variable of its answer. No condition but those that stand in each statement. -/
import Derived.Test.YtglggigndhbpcaaZLonce11
namespace Go.Proofs.Ytglggigndhbpcaa
open Go.RowKit

theorem row_cl {W : World} {P : Nat → Prop} {c : Cl} {a : Option Addr} {cap : Nat} (hat : AtsIn W P c.1 a cap) (hP : ∀ b, P b → b < W.heap.size) :
    ClsIn (W.alloc (.cells #[.slice a c.1.length cap, .int .i64 c.2.1, .int .i64 c.2.2] 35)) (fun b => b = W.heap.size ∨ P b) [c] (some ⟨W.heap.size, 0, none⟩) 1 := by
  have hn := heap_new W (.cells #[.slice a c.1.length cap, .int .i64 c.2.1, .int .i64 c.2.2] 35)
  refine ⟨Nat.le_refl _, by unfold maxLen; omega, (fun e => by cases e), fun _ => ⟨W.heap.size, 0, rfl, .inl rfl, fun i hi => ?_⟩⟩
  have hi0 : i = 0 := by simp at hi; exact hi
  subst hi0
  exact ⟨⟨_, _, cell_at hn 0, (hat.keep (fun b hb => heap_old _ _ (hP b hb))).weak (fun b hb => .inr hb)⟩, cell_at hn 1, cell_at hn 2⟩
section
variable {w W : World} {X T D V d cz c cm i cap : Nat} {K L : List Cl} {y xz x xm a : Option Addr} {M : List Int} {v : Value}
/-- The call, whatever lies beside. -/
theorem once_call (h : OnSt w X T D V K y d xz cz L M x c xm cm v W) (hr : rgS V L M = true) (hl : L.length ≤ 30) {k : Cl} (hk : k.1.length ≤ 1000) {W2 : World} (hb : Below W.heap.size W W2) (R : Nat → Prop) (hR : ∀ b, R b → b < W2.heap.size) (hP : ∀ b, b < W.heap.size → b ≠ X ∧ ¬ OwnB v b → ¬ R b) {q : Option Addr} (hq : ClsIn W2 (fun b => b < W2.heap.size ∧ ¬ R b) [k] q 1) :
    Calls Try.prog 19 #[.agg #[.int .i64 V, .slice x L.length c, .slice xm M.length cm], .slice q 1 1] W2 (SaR R V (addL V L M [k]) (addM V L M [k]) (addC V L M [k]) (addE V L M [k]) W2) := by
  obtain ⟨_, _, _, h4, h5, _⟩ := h
  have hz := hb.size
  have hw : ∀ b, (b < W.heap.size ∧ b ≠ X ∧ ¬ OwnB v b) → (b < W2.heap.size ∧ ¬ R b) := fun b hb => ⟨by have := hb.1; omega, hP b hb.1 hb.2⟩
  have hm : M.length ≤ 900 := by have := (rgS_bd hr); omega
  exact sAdd_off R V L [k] M x xm q c cm 1 W2 hR ((h4.keep (fun b h => hb.block b h.1)).weak hw) ((h5.keep (fun b h => hb.block b h.1)).weak hw) hq (by simp; omega) hm (six_le hr) (fun c hc => by rw [List.mem_singleton.1 hc]; exact hk)
/-- The variable is made behind the call. -/
theorem once_A1 (h : OnSt w X T D V K y d xz cz L M x c xm cm v W) (hr : rgS V L M = true) (hl : L.length ≤ 30) {k : Cl} (hk : k.1.length ≤ 1000) (hat : AtsIn W (fun b => D ≤ b ∧ b < W.heap.size ∧ ¬ OwnB v b) k.1 a cap) :
    Calls Try.prog 19 #[.agg #[.int .i64 V, .slice x L.length c, .slice xm M.length cm], .slice (some ⟨W.heap.size, 0, none⟩) 1 1] (W.alloc (.cells #[.slice a k.1.length cap, .int .i64 k.2.1, .int .i64 k.2.2] 35)).drew (fun e WC => ∃ x' c' xm' cm' xp cp, e = .returned (.tuple #[.agg #[.int .i64 V, .slice x' (addL V L M [k]).length c', .slice xm' (addM V L M [k]).length cm'], .slice xp (addC V L M [k]).length cp, .int .i64 (addE V L M [k])]) ∧
      Hid (OnMid w X T D V K y d xz cz L M x c xm cm v (addL V L M [k]) (addM V L M [k]) x' c' xm' cm' WC.heap.size (WC.alloc (.cells #[.int .i64 V, .slice x' (addL V L M [k]).length c', .slice xm' (addM V L M [k]).length cm'] 25)))) := by
  have hX := lt_of_block h.1
  have hO : ∀ b, OwnB v b → b < W.heap.size := fun b hb => (h.2.2.2.2.2.2.1.lt b hb).2
  have hD := h.2.2.2.2.2.2.2.2.1
  have hb : Below W.heap.size W (W.alloc (.cells #[.slice a k.1.length cap, .int .i64 k.2.1, .int .i64 k.2.2] 35)).drew := ((Below.refl _ _).alloc (Nat.le_refl _) _).drew
  have hs : (W.alloc (.cells #[.slice a k.1.length cap, .int .i64 k.2.1, .int .i64 k.2.2] 35)).drew.heap.size = W.heap.size + 1 := by show (W.alloc _).heap.size = _; rw [World.size_alloc]
  refine (once_call h hr hl hk hb (fun b => b = X ∨ OwnB v b) (fun b hb => ?_) (fun b _ hb2 hb3 => ?_) (((row_cl hat (fun b hb => hb.2.1)).keep (fun _ _ => rfl)).weak (fun b hb => ?_))).mono ?_
  · rw [hs]
    rcases hb with rfl | hb
    · omega
    · have := hO b hb; omega
  · rcases hb3 with h | h
    · exact hb2.1 h
    · exact hb2.2 h
  · rw [hs]
    rcases hb with rfl | hb
    · refine ⟨by omega, fun h => ?_⟩
      rcases h with h | h
      · omega
      · have := hO _ h; omega
    · refine ⟨by have := hb.2.1; omega, fun h => ?_⟩
      rcases h with h | h
      · have := hb.1; omega
      · exact hb.2.2 h
  · rintro e WC ⟨x', c', xm', cm', xp, cp, rfl, h1, h2, _, hbC⟩
    exact ⟨x', c', xm', cm', xp, cp, rfl, onMid_late h (hb.trans (hbC.mono hb.size)) h1 h2⟩
/-- The variable is made ahead of the call. -/
theorem once_A2 (h : OnSt w X T D V K y d xz cz L M x c xm cm v W) (hr : rgS V L M = true) (hl : L.length ≤ 30) {k : Cl} (hk : k.1.length ≤ 1000) {W2 : World} {Y Z : Nat} (hb : Below W.heap.size W W2) (hs : W2.heap.size = W.heap.size + 1 + 1) (hY : W.heap.size ≤ Y) (hYs : Y < W2.heap.size) (hZs : Z < W2.heap.size) (hZ : Z ≠ Y) (hZW : W.heap.size ≤ Z) (hbz : BzS Y W2) (hq : ClsIn W2 (fun b => b = Z ∨ (D ≤ b ∧ b < W.heap.size ∧ ¬ OwnB v b)) [k] (some ⟨Z, 0, none⟩) 1) :
    Calls Try.prog 19 #[.agg #[.int .i64 V, .slice x L.length c, .slice xm M.length cm], .slice (some ⟨Z, 0, none⟩) 1 1] W2 (fun e WC => ∃ x' c' xm' cm' xp cp, e = .returned (.tuple #[.agg #[.int .i64 V, .slice x' (addL V L M [k]).length c', .slice xm' (addM V L M [k]).length cm'], .slice xp (addC V L M [k]).length cp, .int .i64 (addE V L M [k])]) ∧
      Hid (BzS Y WC) ∧ Hid (OnMid w X T D V K y d xz cz L M x c xm cm v (addL V L M [k]) (addM V L M [k]) x' c' xm' cm' Y (((WC.setCell ⟨Y, 0, none⟩ (.int .i64 V)).setCell ⟨Y, 1, none⟩ (.slice x' (addL V L M [k]).length c')).setCell ⟨Y, 2, none⟩ (.slice xm' (addM V L M [k]).length cm')))) := by
  have hX := lt_of_block h.1
  have hO : ∀ b, OwnB v b → b < W.heap.size := fun b hb => (h.2.2.2.2.2.2.1.lt b hb).2
  have hD := h.2.2.2.2.2.2.2.2.1
  refine (once_call h hr hl hk hb (fun b => b = X ∨ b = Y ∨ OwnB v b) (fun b hb => ?_) (fun b hbW hb2 hb3 => ?_) (hq.weak (fun b hb => ?_))).mono ?_
  · rcases hb with rfl | rfl | hb
    · omega
    · exact hYs
    · have := hO b hb; omega
  · rcases hb3 with h | h | h
    · exact hb2.1 h
    · omega
    · exact hb2.2 h
  · rcases hb with rfl | hb
    · refine ⟨hZs, fun h => ?_⟩
      rcases h with h | h | h
      · omega
      · exact hZ h
      · have := hO _ h; omega
    · refine ⟨by have := hb.2.1; omega, fun h => ?_⟩
      rcases h with h | h | h
      · have := hb.1; omega
      · have := hb.2.1; omega
      · exact hb.2.2 h
  · rintro e WC ⟨x', c', xm', cm', xp, cp, rfl, h1, h2, _, hbC⟩
    have hz := (hbC.block _ hYs).trans hbz
    exact ⟨x', c', xm', cm', xp, cp, rfl, Lib.hid hz, onMid_early h (hb.trans (hbC.mono hb.size)) hY hz h1 h2⟩
theorem once_B2 (h : OnSt w X T D V K y d xz cz L M x c xm cm v W) (hr : rgS V L M = true) (hl : L.length ≤ 30) {k : Cl} (hk : k.1.length ≤ 1000) (hat : AtsIn W (fun b => D ≤ b ∧ b < W.heap.size ∧ ¬ OwnB v b) k.1 a cap) :
    Calls Try.prog 19 #[.agg #[.int .i64 V, .slice x L.length c, .slice xm M.length cm], .slice (some ⟨W.heap.size, 0, none⟩) 1 1] ((W.alloc (.cells #[.slice a k.1.length cap, .int .i64 k.2.1, .int .i64 k.2.2] 35)).alloc (.cells #[.int .i64 0, .slice none 0 0, .slice none 0 0] 25)).drew (fun e WC => ∃ x' c' xm' cm' xp cp, e = .returned (.tuple #[.agg #[.int .i64 V, .slice x' (addL V L M [k]).length c', .slice xm' (addM V L M [k]).length cm'], .slice xp (addC V L M [k]).length cp, .int .i64 (addE V L M [k])]) ∧
      Hid (BzS (W.heap.size + 1) WC) ∧ Hid (OnMid w X T D V K y d xz cz L M x c xm cm v (addL V L M [k]) (addM V L M [k]) x' c' xm' cm' (W.heap.size + 1) (((WC.setCell ⟨W.heap.size + 1, 0, none⟩ (.int .i64 V)).setCell ⟨W.heap.size + 1, 1, none⟩ (.slice x' (addL V L M [k]).length c')).setCell ⟨W.heap.size + 1, 2, none⟩ (.slice xm' (addM V L M [k]).length cm')))) := by
  have hs : ((W.alloc (.cells #[.slice a k.1.length cap, .int .i64 k.2.1, .int .i64 k.2.2] 35)).alloc (.cells #[.int .i64 0, .slice none 0 0, .slice none 0 0] 25)).drew.heap.size = W.heap.size + 1 + 1 := by show ((W.alloc _).alloc _).heap.size = _; rw [World.size_alloc, World.size_alloc]
  exact once_A2 h hr hl hk ((((Below.refl _ _).alloc (Nat.le_refl _) _).alloc (by rw [World.size_alloc]; omega) _).drew) hs (by omega) (by omega) (by omega) (by omega) (Nat.le_refl _) (heap_second W _ _) ((row_cl hat (fun b hb => hb.2.1)).keep (fun b hb => heap_old (W.alloc _) _ (by
    rw [World.size_alloc]
    rcases hb with rfl | hb
    · omega
    · have := hb.2.1; omega)))
theorem once_B3 (h : OnSt w X T D V K y d xz cz L M x c xm cm v W) (hr : rgS V L M = true) (hl : L.length ≤ 30) {k : Cl} (hk : k.1.length ≤ 1000) (hat : AtsIn W (fun b => D ≤ b ∧ b < W.heap.size ∧ ¬ OwnB v b) k.1 a cap) :
    Calls Try.prog 19 #[.agg #[.int .i64 V, .slice x L.length c, .slice xm M.length cm], .slice (some ⟨W.heap.size + 1, 0, none⟩) 1 1] ((W.alloc (.cells #[.int .i64 0, .slice none 0 0, .slice none 0 0] 25)).alloc (.cells #[.slice a k.1.length cap, .int .i64 k.2.1, .int .i64 k.2.2] 35)).drew (fun e WC => ∃ x' c' xm' cm' xp cp, e = .returned (.tuple #[.agg #[.int .i64 V, .slice x' (addL V L M [k]).length c', .slice xm' (addM V L M [k]).length cm'], .slice xp (addC V L M [k]).length cp, .int .i64 (addE V L M [k])]) ∧
      Hid (BzS W.heap.size WC) ∧ Hid (OnMid w X T D V K y d xz cz L M x c xm cm v (addL V L M [k]) (addM V L M [k]) x' c' xm' cm' W.heap.size (((WC.setCell ⟨W.heap.size, 0, none⟩ (.int .i64 V)).setCell ⟨W.heap.size, 1, none⟩ (.slice x' (addL V L M [k]).length c')).setCell ⟨W.heap.size, 2, none⟩ (.slice xm' (addM V L M [k]).length cm')))) := by
  have hs : ((W.alloc (.cells #[.int .i64 0, .slice none 0 0, .slice none 0 0] 25)).alloc (.cells #[.slice a k.1.length cap, .int .i64 k.2.1, .int .i64 k.2.2] 35)).drew.heap.size = W.heap.size + 1 + 1 := by show ((W.alloc _).alloc _).heap.size = _; rw [World.size_alloc, World.size_alloc]
  have hat2 : AtsIn (W.alloc (.cells #[.int .i64 0, .slice none 0 0, .slice none 0 0] 25)) (fun b => D ≤ b ∧ b < W.heap.size ∧ ¬ OwnB v b) k.1 a cap := hat.keep (fun b hb => heap_old _ _ hb.2.1)
  have hrow := row_cl hat2 (fun b hb => by rw [World.size_alloc]; have := hb.2.1; omega)
  rw [World.size_alloc] at hrow
  exact once_A2 h hr hl hk ((((Below.refl _ _).alloc (Nat.le_refl _) _).alloc (by rw [World.size_alloc]; omega) _).drew) hs (Nat.le_refl _) (by omega) (by omega) (by omega) (by omega) ((heap_old (W.alloc _) _ (by rw [World.size_alloc]; omega)).trans (heap_new W _)) (hrow.keep (fun _ _ => rfl))
end
end Go.Proofs.Ytglggigndhbpcaa
