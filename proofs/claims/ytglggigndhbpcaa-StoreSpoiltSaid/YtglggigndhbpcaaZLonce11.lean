/- What lies in memory while the law StoreOnce adds clauses one by one, and what it comes to. No condition but those that stand in each statement. -/
import Derived.Test.YtglggigndhbpcaaZLlaw
namespace Go.Proofs.Ytglggigndhbpcaa
open Go.RowKit

/-- One clause more: it is taken, or there would be no model. -/
theorem once_step {V : Nat} {L : List Cl} {M : List Int} {c : Cl} (hr : rgS V L M = true) (hl : L.length < 60) (hc : clB V c = true) :
    (addE V L M [c] = 0 ∧ addL V L M [c] = L ++ [c] ∧ rgS V (addL V L M [c]) (addM V L M [c]) = true) ∨ (addE V L M [c] = 30 ∧ addL V L M [c] = L ∧ addM V L M [c] = M ∧ (addC V L M [c]).length ≠ 0) := by
  obtain ⟨_, _, _, hh, v1, v2, _⟩ := rgS_bd hr
  obtain ⟨_, _, h3, h4⟩ := hrB_of hh
  have hlen : ¬ 60 < L.length + [c].length := by simp; omega
  have hr2 : hrB V (L ++ [c]) = true := hrB_mk (by omega) (by omega) (by rw [List.length_append]; simp; omega) (by rw [List.all_append, h4]; simpa using hc)
  cases hp : posB V (L ++ [c]) with
  | true =>
    obtain ⟨e1, e2, e3, e4⟩ := ad_yes (k := [c]) hr hlen hp
    exact .inl ⟨e4.symm, e1.symm, add_right hr⟩
  | false =>
    obtain ⟨e1, e2, e3, e4⟩ := ad_loop (k := [c]) hr hlen hr2 hp
    refine .inr ⟨e4.symm, e1.symm, e2.symm, fun h => ?_⟩
    rw [← e3] at h
    have := (coreR_nil hr2).1 h
    rw [hp] at this; cases this
theorem once_end {V : Nat} {L : List Cl} {M : List Int} (hr : rgS V L M = true) : addE V [] (zerosJ V) L = 0 ∧ addL V [] (zerosJ V) L = L ∧ addM V [] (zerosJ V) L = M := by
  obtain ⟨_, h60, _, hh, v1, v2, _⟩ := rgS_bd hr
  obtain ⟨hp, hm⟩ := rgS_of hr
  have hn := (new_right (vars := V) ⟨by omega, by omega⟩)
  have h0 : rgS V [] (zerosJ V) = true := by have := hn.2.2; rwa [hn.1] at this
  obtain ⟨e1, e2, _, e4⟩ := ad_yes (k := L) h0 (by simp; omega) (by rw [List.nil_append]; exact hp)
  rw [List.nil_append] at e1 e2
  exact ⟨e4.symm, e1.symm, e2.symm.trans hm.symm⟩
/-- What lies there: the store in its variable, the one that is empty, the clauses that come, and those that were taken. -/
def OnSt (w : World) (X T D V : Nat) (K : List Cl) (y : Option Addr) (d : Nat) (xz : Option Addr) (cz : Nat) (L : List Cl) (M : List Int) (x : Option Addr) (c : Nat) (xm : Option Addr) (cm : Nat) (v : Value) (W : World) : Prop :=
  BxS W X (.int .i64 V) (.slice x L.length c) (.slice xm M.length cm) ∧ BxS W T (.int .i64 V) (.slice none 0 0) (.slice xz V cz) ∧ IntsIn W (fun b => b < W.heap.size ∧ b ≠ X ∧ ¬ OwnB v b) (zerosJ V) xz cz ∧ ClsIn W (fun b => b < W.heap.size ∧ b ≠ X ∧ ¬ OwnB v b) L x c ∧ IntsIn W (fun b => b < W.heap.size ∧ b ≠ X ∧ ¬ OwnB v b) M xm cm ∧
    ClsIn W (fun b => D ≤ b ∧ b < W.heap.size ∧ ¬ OwnB v b) K y d ∧ COwn W D v L ∧ w.heap.size ≤ X ∧ X < D ∧ X ≠ T ∧ T < D ∧ D ≤ W.heap.size ∧ Below w.heap.size w W
theorem OnSt.next {w W W' : World} {X T D V d cz c cm : Nat} {K L : List Cl} {y xz x xm : Option Addr} {M : List Int} {v : Value} (h : OnSt w X T D V K y d xz cz L M x c xm cm v W) (hb : Below W.heap.size W W') : OnSt w X T D V K y d xz cz L M x c xm cm v W' := by
  obtain ⟨h1, h2, h3, h4, h5, h6, h7, h8, h9, h10, h11, h12, h13⟩ := h
  have hz := hb.size
  exact ⟨(hb.block _ (lt_of_block h1)).trans h1, (hb.block _ (lt_of_block h2)).trans h2, (h3.keep (fun b h => hb.block b h.1)).weak (fun b h => ⟨Nat.lt_of_lt_of_le h.1 hz, h.2⟩), (h4.keep (fun b h => hb.block b h.1)).weak (fun b h => ⟨Nat.lt_of_lt_of_le h.1 hz, h.2⟩), (h5.keep (fun b h => hb.block b h.1)).weak (fun b h => ⟨Nat.lt_of_lt_of_le h.1 hz, h.2⟩),
    (h6.keep (fun b h => hb.block b h.2.1)).weak (fun b h => ⟨h.1, Nat.lt_of_lt_of_le h.2.1 hz, h.2.2⟩), h7.keep hz (fun b _ h => hb.block b h), h8, h9, h10, h11, Nat.le_trans h12 hz, Below.step h13 hb (Nat.le_refl _)⟩
/-- The store that Add told, in a variable, beside all else. -/
def OnMid (w : World) (X T D V : Nat) (K : List Cl) (y : Option Addr) (d : Nat) (xz : Option Addr) (cz : Nat) (L : List Cl) (M : List Int) (x : Option Addr) (c : Nat) (xm : Option Addr) (cm : Nat) (v : Value) (L' : List Cl) (M' : List Int) (x' : Option Addr) (c' : Nat) (xm' : Option Addr) (cm' : Nat) (Y : Nat) (W : World) : Prop :=
  OnSt w X T D V K y d xz cz L M x c xm cm v W ∧ BxS W Y (.int .i64 V) (.slice x' L'.length c') (.slice xm' M'.length cm') ∧ ClsIn W (fun b => b < W.heap.size ∧ b ≠ X ∧ ¬ OwnB v b) L' x' c' ∧ IntsIn W (fun b => b < W.heap.size ∧ b ≠ X ∧ ¬ OwnB v b) M' xm' cm' ∧ D ≤ Y
theorem onMid_late {w W WC : World} {X T D V d cz c cm c' cm' : Nat} {K L L' : List Cl} {y xz x xm x' xm' : Option Addr} {M M' : List Int} {v : Value} (h : OnSt w X T D V K y d xz cz L M x c xm cm v W) (hb : Below W.heap.size W WC) (h1 : ClsIn WC (fun b => b < WC.heap.size ∧ ¬ (b = X ∨ OwnB v b)) L' x' c') (h2 : IntsIn WC (fun b => b < WC.heap.size ∧ ¬ (b = X ∨ OwnB v b)) M' xm' cm') :
    Hid (OnMid w X T D V K y d xz cz L M x c xm cm v L' M' x' c' xm' cm' WC.heap.size (WC.alloc (.cells #[.int .i64 V, .slice x' L'.length c', .slice xm' M'.length cm'] 25))) := by
  have hz := hb.size
  have hD := h.2.2.2.2.2.2.2.2.2.2.2.1
  exact Lib.hid ⟨h.next (hb.alloc hz _), heap_new _ _, (h1.keep (fun b hb => heap_old _ _ hb.1)).weak (fun b hb => ⟨by rw [World.size_alloc]; omega, fun e => hb.2 (.inl e), fun e => hb.2 (.inr e)⟩), (h2.keep (fun b hb => heap_old _ _ hb.1)).weak (fun b hb => ⟨by rw [World.size_alloc]; omega, fun e => hb.2 (.inl e), fun e => hb.2 (.inr e)⟩), by omega⟩
theorem onMid_early {w W WC : World} {X T D V d cz c cm c' cm' Y : Nat} {K L L' : List Cl} {y xz x xm x' xm' : Option Addr} {M M' : List Int} {v : Value} (h : OnSt w X T D V K y d xz cz L M x c xm cm v W) (hb : Below W.heap.size W WC) (hY : W.heap.size ≤ Y) (hq : BzS Y WC) (h1 : ClsIn WC (fun b => b < WC.heap.size ∧ ¬ (b = X ∨ b = Y ∨ OwnB v b)) L' x' c') (h2 : IntsIn WC (fun b => b < WC.heap.size ∧ ¬ (b = X ∨ b = Y ∨ OwnB v b)) M' xm' cm') :
    Hid (OnMid w X T D V K y d xz cz L M x c xm cm v L' M' x' c' xm' cm' Y (((WC.setCell ⟨Y, 0, none⟩ (.int .i64 V)).setCell ⟨Y, 1, none⟩ (.slice x' L'.length c')).setCell ⟨Y, 2, none⟩ (.slice xm' M'.length cm'))) := by
  have hz := hb.size
  have hD := h.2.2.2.2.2.2.2.2.2.2.2.1
  have hX := h.2.2.2.2.2.2.2.2.1
  exact Lib.hid ⟨h.next (((hb.setCell (p := ⟨Y, 0, none⟩) hY _).setCell (p := ⟨Y, 1, none⟩) hY _).setCell (p := ⟨Y, 2, none⟩) hY _), set3 hq,
    (h1.keep (fun b hb => set3_oldT _ _ _ _ _ (fun e => hb.2 (.inr (.inl e))))).weak (fun b hb => ⟨by simpa using hb.1, fun e => hb.2 (.inl e), fun e => hb.2 (.inr (.inr e))⟩), (h2.keep (fun b hb => set3_oldT _ _ _ _ _ (fun e => hb.2 (.inr (.inl e))))).weak (fun b hb => ⟨by simpa using hb.1, fun e => hb.2 (.inl e), fun e => hb.2 (.inr (.inr e))⟩), by omega⟩
/-- The store takes what Add told, and the clause is put behind those that were taken. -/
theorem OnMid.take {w W : World} {X T D V d cz c cm c' cm' Y i : Nat} {K L : List Cl} {y xz x xm x' xm' : Option Addr} {M M' : List Int} {v : Value} (h : OnMid w X T D V K y d xz cz L M x c xm cm v (L ++ [K.getD i cl0]) M' x' c' xm' cm' Y W) (hi : i < K.length) (hl : L.length ≤ 100000) :
    ∃ g o a cap, y = some ⟨g, o, none⟩ ∧ ∀ W2, W2 = ((W.setCell ⟨X, 0, none⟩ (.int .i64 V)).setCell ⟨X, 1, none⟩ (.slice x' (L ++ [K.getD i cl0]).length c')).setCell ⟨X, 2, none⟩ (.slice xm' M'.length cm') →
      W2.cell? ⟨g, o + i * 3, none⟩ = some (.slice a (K.getD i cl0).1.length cap) ∧ W2.cell? ⟨g, o + i * 3 + 1, none⟩ = some (.int .i64 (K.getD i cl0).2.1) ∧ W2.cell? ⟨g, o + i * 3 + 2, none⟩ = some (.int .i64 (K.getD i cl0).2.2) ∧
      ∃ g2 k2 w3, Hid ((Builtin.append_ #[22, 22] 22 #[v, .slice (some ⟨W2.heap.size, 0, none⟩) 1 1]).run Try.prog (W2.alloc (.cells #[.slice a (K.getD i cl0).1.length cap, .int .i64 (K.getD i cl0).2.1, .int .i64 (K.getD i cl0).2.2] 35)) = .ok (.slice (some ⟨g2, 0, none⟩) (L.length + 1) k2) w3) ∧
        Hid (OnSt w X T D V K y d xz cz (L ++ [K.getD i cl0]) M' x' c' xm' cm' (.slice (some ⟨g2, 0, none⟩) (L.length + 1) k2) w3) := by
  obtain ⟨⟨h1, h2, h3, h4, h5, h6, h7, h8, h9, h10, h11, h12, h13⟩, hY, hL, hM, hDY⟩ := h
  obtain ⟨g, o, e, hg, hc⟩ := h6.some (by omega)
  obtain ⟨⟨a, cap, e0, hat⟩, e1, e2⟩ := hc i hi
  refine ⟨g, o, a, cap, e, fun W2 hW2 => ?_⟩
  have hk : ∀ b, b ≠ X → W2.heap[b]? = W.heap[b]? := fun b hb => by rw [hW2]; exact set3_oldT _ _ _ _ _ hb
  have hz : W2.heap.size = W.heap.size := by rw [hW2]; simp
  have hgX : g ≠ X := by have := hg.1; omega
  have hcell : ∀ j, W2.cell? ⟨g, j, none⟩ = W.cell? ⟨g, j, none⟩ := fun j => World.cell?_of_block (hk g hgX)
  have hX2 : BxS W2 X (.int .i64 V) (.slice x' (L ++ [K.getD i cl0]).length c') (.slice xm' M'.length cm') := by rw [hW2]; exact set3 h1
  have hat2 : AtsIn W2 (fun b => D ≤ b ∧ b < W2.heap.size ∧ ¬ OwnB v b) (K.getD i cl0).1 a cap := (hat.keep (fun b hb => hk b (by have := hb.1; omega))).weak (fun b hb => ⟨hb.1, by rw [hz]; exact hb.2.1, hb.2.2⟩)
  have h72 : COwn W2 D v L := h7.keep (by omega) (fun b hb _ => hk b (by omega))
  obtain ⟨g2, k2, w3, hrun, ho, ht⟩ := h72.push 22 (K.getD i cl0) hat2 hl (by omega)
  refine ⟨(hcell _).trans e0, (hcell _).trans e1, (hcell _).trans e2, g2, k2, w3, Lib.hid hrun, Lib.hid ?_⟩
  have hlow : ∀ b, OwnB v b → D ≤ b := fun b hO => (h72.lt b hO).1
  have hb3 : ∀ b, b < W2.heap.size → ¬ OwnB v b → w3.heap[b]? = W2.heap[b]? := fun b hb hO => ht.2.2.2.2.1 b hb hO
  have hz3 : W2.heap.size ≤ w3.heap.size := ht.2.2.2.1
  have hnD : ∀ b, b < D → w3.heap[b]? = W2.heap[b]? := fun b hb => hb3 b (by omega) (fun hO => by have := hlow b hO; omega)
  have hx : X < W2.heap.size := lt_of_block hX2
  have hlift : ∀ b, b < W.heap.size → b ≠ X ∧ ¬ OwnB v b → w3.heap[b]? = W.heap[b]? := fun b hb h => (hb3 b (by omega) h.2).trans (hk b h.1)
  have hnew : ∀ b, b < W.heap.size → ¬ OwnB v b → ¬ OwnB (.slice (some ⟨g2, 0, none⟩) (L.length + 1) k2) b := fun b hb hO hO2 => by
    rcases ht.2.2.2.2.2 b hO2 with h | h
    · exact hO h
    · omega
  have hw : ∀ b, (b < W.heap.size ∧ b ≠ X ∧ ¬ OwnB v b) → (b < w3.heap.size ∧ b ≠ X ∧ ¬ OwnB (.slice (some ⟨g2, 0, none⟩) (L.length + 1) k2) b) := fun b hb => ⟨by have := hb.1; omega, hb.2.1, hnew b hb.1 hb.2.2⟩
  have hb0 : Below w.heap.size w W2 := by
    rw [hW2]
    exact ((h13.setCell (p := ⟨X, 0, none⟩) h8 _).setCell (p := ⟨X, 1, none⟩) h8 _).setCell (p := ⟨X, 2, none⟩) h8 _
  refine ⟨(hnD X h9).trans hX2, (hnD T h11).trans ((hk T (fun e => h10 e.symm)).trans h2), (h3.keep (fun b hb => hlift b hb.1 hb.2)).weak hw, (hL.keep (fun b hb => hlift b hb.1 hb.2)).weak hw, (hM.keep (fun b hb => hlift b hb.1 hb.2)).weak hw,
    (h6.keep (fun b hb => hlift b hb.2.1 ⟨by have := hb.1; omega, hb.2.2⟩)).weak (fun b hb => ⟨hb.1, by have := hb.2.1; omega, hnew b hb.2.1 hb.2.2⟩), ?_, h8, h9, h10, h11, by omega, hb0.trans (ht.low (by omega) (fun b hO => by have := hlow b hO; omega))⟩
  exact ho
end Go.Proofs.Ytglggigndhbpcaa
