/- Mono, Tlmath, Maker, Tmk, Qspec, Wspec, Wdc, Whd, Wkid, Qsubm, Wpl, Qtopm, Wrn, Qrep, Qown. No condition but those that stand in each statement. -/
import Derived.Test.YtnfhpombnbpdcaaGreatZQ4
import Derived.Test.YtnfhpombnbpdcaaGreatZQ24
import Derived.Deep.QuietTactic
import Derived.BigQuiet
import Derived.Test.YtnfhpombnbpdcaaGreatZQ8
import Derived.Test.YtnfhpombnbpdcaaGreatZQ10
import Derived.Test.YtnfhpombnbpdcaaGreatZQ12
import Derived.Test.YtnfhpombnbpdcaaGreatZQ16
import Derived.Test.YtnfhpombnbpdcaaGreatZQ28
import Derived.Test.YtnfhpombnbpdcaaGreatRows
import Derived.WalkKit
import Derived.ProofKit
import Derived.IntWalk
import Derived.Deep.CutBlock
import Derived.Deep.RegionLaw
import Derived.Test.YtnfhpombnbpdcaaGreatZQ13
import Derived.Test.YtnfhpombnbpdcaaGreatZQ21
namespace Go.Proofs.YtnfhpombnbpdcaaGreat
open Go
end Go.Proofs.YtnfhpombnbpdcaaGreat
namespace Go.Proofs.YtnfhpombnbpdcaaGreat
open Go
def Tm.rep (g : Int → Int → Tm) (T : Tm) (b : Int) : Tm := rep1 g T.k T.n T.ls T.ks b
theorem repF_zero {N fr : Int} : ∀ (f : Ft) (k0 : Int) (i : Nat) (b : Int), wfF N f → repF (gL fr 0) f k0 i b = f
  | .nil, _, _, _, _ => rfl
  | .cons k n ls ks r, k0, i, b, h => by
    obtain ⟨h1, h2⟩ := wfF_parts h
    rw [repF_cons, repF_zero r k0 (i + 1) b h2]
    unfold rep1
    by_cases hk : k = 1
    · subst hk
      obtain ⟨e1, e2, _, _⟩ := wf1_leaf h1
      subst e1 e2
      rw [if_pos rfl]
      unfold gL tV
      simp [Tm.to]
    · rw [if_neg hk, repF_zero ks k 0 _ h1.2.2]
      rfl
theorem rep_zero {N fr b : Int} {T : Tm} (h : wf1 N T.k T.n T.ls T.ks) : T.rep (gL fr 0) b = T := by
  obtain ⟨k, n, ls, ks⟩ := T
  unfold Tm.rep rep1
  by_cases hk : k = 1
  · simp only at hk h ⊢
    subst hk
    obtain ⟨e1, e2, _, _⟩ := wf1_leaf h
    subst e1 e2
    rw [if_pos rfl]
    unfold gL tV
    simp
  · simp only at hk h ⊢
    rw [if_neg hk, repF_zero ks k 0 _ h.2.2]
end Go.Proofs.YtnfhpombnbpdcaaGreat
namespace Go.Proofs.YtnfhpombnbpdcaaGreat
open Go.RowKit
end Go.Proofs.YtnfhpombnbpdcaaGreat
namespace Go.Proofs.YtnfhpombnbpdcaaGreat
open Go.RowKit
theorem lvB_app {p m : Int} : ∀ {f g : Fo}, lvB p m f = true → lvB p m g = true → lvB p m (f.app g) = true
  | .nil, _, _, h => h
  | .cons k n ks r, g, h, h' => by
    simp only [lvB, Fo.app, Bool.and_eq_true] at h ⊢
    exact ⟨h.1, lvB_app h.2 h'⟩
end Go.Proofs.YtnfhpombnbpdcaaGreat
namespace Go.Proofs.YtnfhpombnbpdcaaGreat
open Go
def qF (P Q : Fo) : Ft → Ft
  | .nil => .nil
  | .cons k n ls ks r => .cons k n (sbF P Q ls) (qF P Q ks) (qF P Q r)
def Tm.q (P Q : Fo) (T : Tm) : Tm := ⟨T.k, T.n, sbF P Q T.ls, qF P Q T.ks⟩
def lvOkB (P Q : Fo) : Fo → Bool
  | .nil => true
  | .cons k n ks r => decide (subE P Q k n ks = 0) && lvOkB P Q r
def qOk (P Q : Fo) : Ft → Bool
  | .nil => true
  | .cons _ _ ls ks r => (lvOkB P Q ls && qOk P Q ks) && qOk P Q r
def Tm.qok (P Q : Fo) (T : Tm) : Bool := lvOkB P Q T.ls && qOk P Q T.ks
def parB (P Q : Fo) : Bool := decide (P.len ≤ 5) && (decide (Q.len ≤ 10) && (allR P && allR Q))
def qA (P Q : Fo) (T : Tm) : Tm × Int := if T.sh = true ∧ parB P Q = true then (if T.qok P Q = true then (T.q P Q, 0) else (tZ, 2)) else (tZ, 1)
theorem qF_len (P Q : Fo) : ∀ f : Ft, (qF P Q f).len = f.len
  | .nil => rfl
  | .cons _ _ _ _ r => by show (qF P Q r).len + 1 = r.len + 1; rw [qF_len P Q r]
theorem qF_size (P Q : Fo) : ∀ f : Ft, (qF P Q f).size = f.size
  | .nil => rfl
  | .cons _ _ _ ks r => by simp only [qF, Ft.size]; rw [qF_size P Q ks, qF_size P Q r]
theorem lvB_noneg : ∀ {F : Fo}, lvB 5 10 F = true → noneg F
  | .nil, _ => trivial
  | .cons k n ks r, h => by
    simp only [lvB, Bool.and_eq_true] at h
    have h1 := right_parts h.1
    exact ⟨h1.1, h1.2.1, lvB_noneg h.2⟩
theorem sb_right {P Q : Fo} {k n : Int} {ks : Fo} (h : subE P Q k n ks = 0) : ∃ k' n' F, sb1 P Q k n (sbF P Q ks) = .cons k' n' F .nil ∧ rightB 5 10 k' n' F = true := by
  unfold subE at h
  split at h
  · split at h
    · rename_i _ h2
      generalize sb1 P Q k n (sbF P Q ks) = X at h2
      match X, h2 with
      | .cons k' n' F .nil, h2 => exact ⟨k', n', F, rfl, h2⟩
    · cases h
  · cases h
theorem lvB_sb {P Q : Fo} : ∀ {F : Fo}, lvOkB P Q F = true → lvB 5 10 (sbF P Q F) = true
  | .nil, _ => rfl
  | .cons k n ks r, h => by
    simp only [lvOkB, Bool.and_eq_true, decide_eq_true_eq] at h
    obtain ⟨k', n', F, e, hr⟩ := sb_right h.1
    show lvB 5 10 ((sb1 P Q k n (sbF P Q ks)).app (sbF P Q r)) = true
    rw [e]
    exact lvB_app (f := .cons k' n' F .nil) (by simp [lvB, hr]) (lvB_sb h.2)
theorem tfits_q {P Q : Fo} {v k n : Int} {ls : Fo} {len : Nat} (h : tfitsB 5 10 v k n ls len = true) (ho : lvOkB P Q ls = true) : tfitsB 5 10 v k n (sbF P Q ls) len = true := by
  unfold tfitsB at h ⊢
  simp only [Bool.and_eq_true, decide_eq_true_eq] at h ⊢
  obtain ⟨h1, h2, h3, h4, h5, h6⟩ := h
  rw [sbF_len P Q ls (lvB_noneg h6)]
  exact ⟨h1, h2, h3, h4, h5, lvB_sb ho⟩
theorem tAll_q {P Q : Fo} : ∀ {f : Ft} {k0 : Int} {i : Nat} {v d : Int}, tAll 5 10 f k0 i v d = true → qOk P Q f = true → tAll 5 10 (qF P Q f) k0 i v d = true
  | .nil, _, _, _, _, _, _ => rfl
  | .cons k n ls ks r, k0, i, v, d, h, ho => by
    simp only [tAll, qOk, Bool.and_eq_true, decide_eq_true_eq] at h ho
    obtain ⟨⟨h1, h2, h3⟩, h4⟩ := h
    simp only [qF, tAll, Bool.and_eq_true, decide_eq_true_eq]
    exact ⟨⟨h1, by rw [qF_len]; exact tfits_q h2 ho.1.1, tAll_q h3 ho.1.2⟩, tAll_q h4 ho.2⟩
theorem sh_q {P Q : Fo} {T : Tm} (h : T.sh = true) (ho : T.qok P Q = true) : (T.q P Q).sh = true := by
  unfold Tm.sh shB tRightB tOne at h ⊢
  unfold Tm.qok at ho
  simp only [Bool.and_eq_true, decide_eq_true_eq] at h ho ⊢
  obtain ⟨h1, h2, h3, h4, h5⟩ := h
  exact ⟨h1, by show (qF P Q T.ks).size + 1 ≤ 600; rw [qF_size]; exact h2, h3, by show tfitsB 5 10 1000 T.k T.n (sbF P Q T.ls) (qF P Q T.ks).len = true; rw [qF_len]; exact tfits_q h4 ho.1, tAll_q h5 ho.2⟩
end Go.Proofs.YtnfhpombnbpdcaaGreat
namespace Go.Proofs.YtnfhpombnbpdcaaGreat
open Go
structure Dl where
  params : Int
  has : Bool
  value : Tm
inductive Hr where
  | no (e : Nat)
  | ok (t : Tm) (left : Nat)
def kidT : Ft → Nat → Tm
  | .nil, _ => tZ
  | .cons k n ls ks _, 0 => ⟨k, n, ls, ks⟩
  | .cons _ _ _ _ r, i + 1 => kidT r i
def Tm.kid (t : Tm) (i : Nat) : Tm := kidT t.ks i
def Tm.big (t : Tm) : Nat := t.ks.size + 1
def unf (E : List Dl) (t : Tm) : Option Tm :=
  if t.k = 3 then (match E[t.n.toNat]? with | some d => if 0 ≤ t.n ∧ d.has = true ∧ (t.ls.len : Int) = d.params then some d.value else none | none => none) else none
def onto (next : Nat → Tm → Hr) (n : Nat) (A : Tm × Int) : Hr := if n = 0 then .no 40 else if A.2 = 0 then next (n - 1) A.1 else .no A.2.toNat
def appTo (f x : Tm) : Tm := ⟨4, 0, .nil, f.to (x.to .nil)⟩
def hdS (E : List Dl) (next : Nat → Tm → Hr) (n : Nat) : Nat → Tm → Hr
  | 0, _ => .no 0
  | s + 1, t =>
    if t.k = 7 then onto next n (openA (t.kid 2) (t.kid 1))
    else match unf E t with
      | some v => onto next n (qA t.ls .nil v)
      | none =>
        if t.k = 4 then (match hdS E next n s (t.kid 0) with
          | .no e => .no e
          | .ok f m => if f.k = 5 then onto next m (openA (f.kid 1) (t.kid 1)) else .ok (appTo f (t.kid 1)) m)
        else .ok t n
def hdG (E : List Dl) : Nat → Nat → Tm → Hr
  | 0, _, _ => .no 0
  | g + 1, n, t => hdS E (hdG E g) n t.big t
def hd (E : List Dl) (n : Nat) (t : Tm) : Hr := hdG E (n + 1) n t
theorem kidT_big : ∀ (f : Ft) (i : Nat), i < f.len → (kidT f i).big ≤ f.size
  | .nil, i, h => by simp [Ft.len] at h
  | .cons k n ls ks r, 0, _ => by simp only [kidT, Tm.big, Ft.size]; omega
  | .cons k n ls ks r, i + 1, h => by
    have := kidT_big r i (by simp only [Ft.len] at h; omega)
    simp only [kidT, Ft.size]; omega
def Less (next : Nat → Tm → Hr) : Prop := ∀ n t a m, next n t = .ok a m → m ≤ n
theorem onto_less {next : Nat → Tm → Hr} (h : Less next) {n : Nat} {A : Tm × Int} {a : Tm} {m : Nat} (e : onto next n A = .ok a m) : m ≤ n := by
  unfold onto at e
  split at e
  · cases e
  split at e
  · have := h _ _ _ _ e; omega
  · cases e
theorem hdS_less {E : List Dl} {next : Nat → Tm → Hr} (h : Less next) {n : Nat} : ∀ (s : Nat) (t a : Tm) (m : Nat), hdS E next n s t = .ok a m → m ≤ n
  | 0, t, a, m, e => by cases e
  | s + 1, t, a, m, e => by
    unfold hdS at e
    split at e
    · exact onto_less h e
    split at e
    · exact onto_less h e
    split at e
    · split at e
      · cases e
      · rename_i f m' hf
        have h1 := hdS_less h s _ _ _ hf
        split at e
        · have := onto_less h e; omega
        · injection e with _ e2; omega
    · injection e with _ e2; omega
theorem hdG_less (E : List Dl) : ∀ g, Less (hdG E g)
  | 0 => fun n t a m e => by cases e
  | g + 1 => fun n t a m e => hdS_less (hdG_less E g) _ _ _ _ e
theorem onto_gas {next next' : Nat → Tm → Hr} {n : Nat} (h : ∀ m t, m < n → next m t = next' m t) (A : Tm × Int) : onto next n A = onto next' n A := by
  unfold onto
  by_cases hn : n = 0
  · rw [if_pos hn, if_pos hn]
  rw [if_neg hn, if_neg hn, h (n - 1) A.1 (by omega)]
theorem hdS_gas {E : List Dl} {next next' : Nat → Tm → Hr} {n : Nat} (hl : Less next) (h : ∀ m t, m < n → next m t = next' m t) : ∀ (s : Nat) (t : Tm), hdS E next n s t = hdS E next' n s t
  | 0, _ => rfl
  | s + 1, t => by
    unfold hdS
    by_cases h7 : t.k = 7
    · rw [if_pos h7, if_pos h7]; exact onto_gas h _
    rw [if_neg h7, if_neg h7]
    cases hu : unf E t with
    | some v => exact onto_gas h _
    | none =>
      dsimp only
      by_cases h4 : t.k = 4
      · rw [if_pos h4, if_pos h4, ← hdS_gas hl h s]
        cases hf : hdS E next n s (t.kid 0) with
        | no er => rfl
        | ok f m =>
          have := hdS_less hl s _ _ _ hf
          dsimp only
          by_cases h5 : f.k = 5
          · rw [if_pos h5, if_pos h5]
            exact onto_gas (fun m' t' hm => h m' t' (by omega)) _
          · rw [if_neg h5, if_neg h5]
      · rw [if_neg h4, if_neg h4]
theorem hdG_gas (E : List Dl) : ∀ (n g : Nat) (t : Tm), n < g → hdG E g n t = hdG E (n + 1) n t := by
  intro n
  induction n using Nat.strongRecOn with
  | _ n ih =>
    intro g t hg
    obtain ⟨g, rfl⟩ : ∃ r, g = r + 1 := ⟨g - 1, by omega⟩
    show hdS E (hdG E g) n t.big t = hdS E (hdG E n) n t.big t
    exact hdS_gas (hdG_less E g) (fun m t' hm => by rw [ih m hm g t' (by omega), ih m hm n t' hm]) _ _
end Go.Proofs.YtnfhpombnbpdcaaGreat
namespace Go.Proofs.YtnfhpombnbpdcaaGreat
open Go.RowKit
def TmAt (w : World) (P : Nat → Prop) (T : Tm) (b o : Nat) : Prop :=
  w.cell? ⟨b, o, none⟩ = some (.int .i64 T.k) ∧ w.cell? ⟨b, o + 1, none⟩ = some (.int .i64 T.n) ∧ ∃ (la : Option Addr) (lc : Nat) (ka : Option Addr) (kc : Nat), w.cell? ⟨b, o + 2, none⟩ = some (.slice la T.ls.len lc) ∧ w.cell? ⟨b, o + 3, none⟩ = some (.slice ka T.ks.len kc) ∧ SlIn w P T.ls la lc ∧ TlIn w P T.ks ka kc
def ConIn (w : World) (P : Nat → Prop) (cs : Fo) (a : Option Addr) (len cap : Nat) : Prop := cs.len = 2 * len ∧ len ≤ cap ∧ cap ≤ maxLen ∧ (a = none → cap = 0) ∧ (0 < len → ∃ b o, a = some ⟨b, o, none⟩ ∧ P b ∧ FoIn w P cs b o)
structure Dc where
  p : Int
  cs : Fo
  ty : Tm
  has : Bool
  va : Tm
def DcAt (w : World) (P : Nat → Prop) (d : Dc) (b o : Nat) : Prop :=
  w.cell? ⟨b, o, none⟩ = some (.int .i64 d.p) ∧ (∃ ca cl cc, w.cell? ⟨b, o + 1, none⟩ = some (.slice ca cl cc) ∧ ConIn w P d.cs ca cl cc) ∧ TmAt w P d.ty b (o + 2) ∧ w.cell? ⟨b, o + 6, none⟩ = some (.bool d.has) ∧ TmAt w P d.va b (o + 7)
def DsIn (w : World) (P : Nat → Prop) (E : List Dc) (a : Option Addr) (cap : Nat) : Prop :=
  E.length ≤ cap ∧ cap ≤ maxLen ∧ (a = none → cap = 0) ∧ (0 < E.length → ∃ b o, a = some ⟨b, o, none⟩ ∧ P b ∧ ∀ (i : Nat) (d : Dc), E[i]? = some d → DcAt w P d b (o + i * 11))
theorem TmAt.keep {w w' : World} {P : Nat → Prop} (hP : ∀ b, P b → w'.heap[b]? = w.heap[b]?) {T : Tm} {b o : Nat} (hb : w'.heap[b]? = w.heap[b]?) (h : TmAt w P T b o) : TmAt w' P T b o := by
  obtain ⟨h0, h1, la, lc, ka, kc, h2, h3, h4, h5⟩ := h
  exact ⟨(World.cell?_of_block (a := ⟨b, o, none⟩) hb).trans h0, (World.cell?_of_block (a := ⟨b, o + 1, none⟩) hb).trans h1, la, lc, ka, kc, (World.cell?_of_block (a := ⟨b, o + 2, none⟩) hb).trans h2, (World.cell?_of_block (a := ⟨b, o + 3, none⟩) hb).trans h3, h4.keep hP, h5.keep hP⟩
theorem ConIn.keep {w w' : World} {P : Nat → Prop} (hP : ∀ b, P b → w'.heap[b]? = w.heap[b]?) {cs : Fo} {a : Option Addr} {len cap : Nat} (h : ConIn w P cs a len cap) : ConIn w' P cs a len cap :=
  ⟨h.1, h.2.1, h.2.2.1, h.2.2.2.1, fun hl => by
    obtain ⟨b, o, e, hb, hf⟩ := h.2.2.2.2 hl
    exact ⟨b, o, e, hb, FoIn.keep hP _ _ _ hb hf⟩⟩
theorem DcAt.keep {w w' : World} {P : Nat → Prop} (hP : ∀ b, P b → w'.heap[b]? = w.heap[b]?) {d : Dc} {b o : Nat} (hb : w'.heap[b]? = w.heap[b]?) (h : DcAt w P d b o) : DcAt w' P d b o := by
  obtain ⟨h0, ⟨ca, cl, cc, h1, h2⟩, h3, h4, h5⟩ := h
  exact ⟨(World.cell?_of_block (a := ⟨b, o, none⟩) hb).trans h0, ⟨ca, cl, cc, (World.cell?_of_block (a := ⟨b, o + 1, none⟩) hb).trans h1, h2.keep hP⟩, h3.keep hP hb, (World.cell?_of_block (a := ⟨b, o + 6, none⟩) hb).trans h4, h5.keep hP hb⟩
theorem DsIn.keep {w w' : World} {P : Nat → Prop} (hP : ∀ b, P b → w'.heap[b]? = w.heap[b]?) {E : List Dc} {a : Option Addr} {cap : Nat} (h : DsIn w P E a cap) : DsIn w' P E a cap :=
  ⟨h.1, h.2.1, h.2.2.1, fun hl => by
    obtain ⟨b, o, e, hb, hf⟩ := h.2.2.2 hl
    exact ⟨b, o, e, hb, fun i d hi => (hf i d hi).keep hP (hP b hb)⟩⟩
theorem DsIn.below {w w' : World} {B : Nat} (hb : Below B w w') {E : List Dc} {a : Option Addr} {cap : Nat} (h : DsIn w (· < B) E a cap) : DsIn w' (· < B) E a cap := h.keep (fun b hx => hb.block b hx)
theorem DsIn.len {w : World} {P : Nat → Prop} {E : List Dc} {a : Option Addr} {cap : Nat} (h : DsIn w P E a cap) : E.length ≤ 9223372036854775807 := by
  have h1 := h.1
  have h2 := h.2.1
  unfold maxLen at h2
  omega
theorem DsIn.get {w : World} {P : Nat → Prop} {E : List Dc} {a : Option Addr} {cap : Nat} (h : DsIn w P E a cap) {i : Nat} (hi : i < E.length) : ∃ b o, a = some ⟨b, o, none⟩ ∧ P b ∧ DcAt w P E[i] b (o + i * 11) := by
  obtain ⟨b, o, e, hb, hf⟩ := h.2.2.2 (by omega)
  exact ⟨b, o, e, hb, hf i _ (List.getElem?_eq_getElem hi)⟩
theorem Only.of_below' {w w' : World} (h : Below w.heap.size w w') (R : Nat) : w.grownBy w' (some R) := ⟨h.os, h.tape, h.output, h.size, fun k hk _ => h.block k hk⟩
def Dc.dl (d : Dc) : Dl := ⟨d.p, d.has, d.va⟩
def unfB (E : List Dc) (t : Tm) : Bool := (unf (E.map Dc.dl) t).isSome
theorem unf_no3 {E : List Dc} {t : Tm} (h : t.k ≠ 3) : unf (E.map Dc.dl) t = none := by unfold unf; rw [if_neg h]
theorem unf_get {E : List Dc} {t : Tm} {i : Nat} (h : t.k = 3) (hn : t.n = i) (hi : i < E.length) : unf (E.map Dc.dl) t = if E[i].has = true ∧ (t.ls.len : Int) = E[i].p then some E[i].va else none := by
  unfold unf
  rw [if_pos h, hn, Int.toNat_natCast, List.getElem?_map, List.getElem?_eq_getElem hi]
  show (if (0 : Int) ≤ (i : Int) ∧ E[i].has = true ∧ (t.ls.len : Int) = E[i].p then some E[i].va else none) = _
  by_cases hc : E[i].has = true ∧ (t.ls.len : Int) = E[i].p
  · rw [if_pos hc, if_pos ⟨by omega, hc⟩]
  · rw [if_neg hc, if_neg (fun h => hc h.2)]
theorem unf_out {E : List Dc} {t : Tm} {i : Nat} (hn : t.n = i) (hi : ¬ i < E.length) : unf (E.map Dc.dl) t = none := by
  unfold unf
  split
  · rw [hn, Int.toNat_natCast, List.getElem?_eq_none (by simp; omega)]
  · rfl
end Go.Proofs.YtnfhpombnbpdcaaGreat
namespace Go.Proofs.YtnfhpombnbpdcaaGreat
open Go
def okA : Ft → Prop
  | .nil => True
  | .cons k n _ ks r => (ks.len : Int) = tkids k ∧ 0 ≤ n ∧ okA ks ∧ okA r
def Tm.oka (T : Tm) : Prop := (T.ks.len : Int) = tkids T.k ∧ 0 ≤ T.n ∧ okA T.ks
theorem okA_kid : ∀ {f : Ft} {i : Nat}, okA f → i < f.len → (kidT f i).oka
  | .nil, i, _, h => by simp [Ft.len] at h
  | .cons k n ls ks r, 0, h, _ => ⟨h.1, h.2.1, h.2.2.1⟩
  | .cons k n ls ks r, i + 1, h, hi => okA_kid (f := r) h.2.2.2 (by simp only [Ft.len] at hi; omega)
theorem tAll_okA {p m : Int} : ∀ {f : Ft} {k0 : Int} {i : Nat} {v d : Int}, tAll p m f k0 i v d = true → okA f
  | .nil, _, _, _, _, _ => trivial
  | .cons k n ls ks r, k0, i, v, d, h => by
    simp only [tAll, Bool.and_eq_true, decide_eq_true_eq] at h
    obtain ⟨⟨_, h2, h3⟩, h4⟩ := h
    have h5 := tfits_len h2
    unfold tfitsB at h2
    simp only [Bool.and_eq_true, decide_eq_true_eq] at h2
    exact ⟨h5, h2.2.1, tAll_okA h3, tAll_okA h4⟩
theorem sh_oka {T : Tm} (h : T.sh = true) : T.oka := by
  obtain ⟨h1, h2, h3⟩ := shB_parts h
  have h5 := tfits_len h2
  unfold tfitsB at h2
  simp only [Bool.and_eq_true, decide_eq_true_eq] at h2
  exact ⟨h5, h2.2.1, tAll_okA h3⟩
theorem oka_seven {T : Tm} (h : T.oka) (h7 : T.k = 7) : T.ks.len = 3 := by have := h.1; rw [h7] at this; simp [tkids] at this; omega
theorem oka_four {T : Tm} (h : T.oka) (h4 : T.k = 4) : T.ks.len = 2 := by have := h.1; rw [h4] at this; simp [tkids] at this; omega
theorem oka_five {T : Tm} (h : T.oka) (h5 : T.k = 5) : T.ks.len = 2 := by have := h.1; rw [h5] at this; simp [tkids] at this; omega
theorem fin1_cases (X : Tm) : (X.sh = true ∧ fin1 X = (X, 0)) ∨ fin1 X = (tZ, 2) := by
  unfold fin1
  by_cases h : X.sh = true
  · rw [if_pos h]; exact .inl ⟨h, rfl⟩
  · rw [if_neg h]; exact .inr rfl
theorem openA_cases (t u : Tm) : ((openA t u).2 = 0 ∧ (openA t u).1.oka) ∨ ((openA t u).1 = tZ ∧ ((openA t u).2 = 1 ∨ (openA t u).2 = 2)) := by
  unfold openA
  split
  · rcases fin1_cases (rep1 (gO u) t.k t.n t.ls t.ks 0) with ⟨h, e⟩ | e
    · rw [e]; exact .inl ⟨rfl, sh_oka h⟩
    · rw [e]; exact .inr ⟨rfl, .inr rfl⟩
  · exact .inr ⟨rfl, .inl rfl⟩
theorem qA_cases (P Q : Fo) (T : Tm) : ((qA P Q T).2 = 0 ∧ (qA P Q T).1.oka) ∨ ((qA P Q T).1 = tZ ∧ ((qA P Q T).2 = 1 ∨ (qA P Q T).2 = 2)) := by
  unfold qA
  split
  · rename_i h
    split
    · rename_i h2
      exact .inl ⟨rfl, sh_oka (sh_q h.1 h2)⟩
    · exact .inr ⟨rfl, .inr rfl⟩
  · exact .inr ⟨rfl, .inl rfl⟩
theorem hdS_size {E : List Dl} {next : Nat → Tm → Hr} {n : Nat} : ∀ (s s' : Nat) (u : Tm), u.oka → u.big ≤ s → u.big ≤ s' → hdS E next n s u = hdS E next n s' u
  | 0, s', u, _, h, _ => by simp only [Tm.big] at h; omega
  | s + 1, 0, u, _, _, h => by simp only [Tm.big] at h; omega
  | s + 1, s' + 1, u, ho, h1, h2 => by
    unfold hdS
    by_cases h7 : u.k = 7
    · rw [if_pos h7, if_pos h7]
    rw [if_neg h7, if_neg h7]
    cases hu : unf E u with
    | some v => rfl
    | none =>
      dsimp only
      by_cases h4 : u.k = 4
      · rw [if_pos h4, if_pos h4]
        have hl := oka_four ho h4
        have hk := kidT_big u.ks 0 (by omega)
        simp only [Tm.big] at h1 h2
        rw [hdS_size s s' (u.kid 0) (okA_kid ho.2.2 (by omega)) (by unfold Tm.kid; omega) (by unfold Tm.kid; omega)]
      · rw [if_neg h4, if_neg h4]
theorem onto_hd (E : List Dl) {n m : Nat} (h : m ≤ n) (A : Tm × Int) : onto (hdG E n) m A = onto (hd E) m A := onto_gas (fun m' t' hm => hdG_gas E m' n t' (by omega)) A
theorem hd_step (E : List Dl) (n : Nat) {t : Tm} (ht : t.oka) : hd E n t = if t.k = 7 then onto (hd E) n (openA (t.kid 2) (t.kid 1)) else match unf E t with
    | some v => onto (hd E) n (qA t.ls .nil v)
    | none => if t.k = 4 then (match hd E n (t.kid 0) with
        | .no e => .no e
        | .ok f m => if f.k = 5 then onto (hd E) m (openA (f.kid 1) (t.kid 1)) else .ok (appTo f (t.kid 1)) m) else .ok t n := by
  have e : hd E n t = hdS E (hdG E n) n (t.ks.size + 1) t := rfl
  rw [e]
  unfold hdS
  by_cases h7 : t.k = 7
  · rw [if_pos h7, if_pos h7, onto_hd E (Nat.le_refl n)]
  rw [if_neg h7, if_neg h7]
  cases hu : unf E t with
  | some v => exact onto_hd E (Nat.le_refl n) _
  | none =>
    dsimp only
    by_cases h4 : t.k = 4
    · rw [if_pos h4, if_pos h4]
      have hl := oka_four ht h4
      have hk := kidT_big t.ks 0 (by omega)
      have e2 : hdS E (hdG E n) n t.ks.size (t.kid 0) = hd E n (t.kid 0) := hdS_size _ _ _ (okA_kid ht.2.2 (by omega)) (by unfold Tm.kid; omega) (Nat.le_refl _)
      rw [e2]
      cases hf : hd E n (t.kid 0) with
      | no er => rfl
      | ok f m =>
        have hm : m ≤ n := hdG_less E _ _ _ _ _ hf
        dsimp only
        by_cases h5 : f.k = 5
        · rw [if_pos h5, if_pos h5, onto_hd E hm]
        · rw [if_neg h5, if_neg h5]
    · rw [if_neg h4, if_neg h4]
theorem onto_oka {next : Nat → Tm → Hr} (h : ∀ n t a m, t.oka → next n t = .ok a m → a.oka) {n : Nat} {A : Tm × Int} (hA : A.2 = 0 → A.1.oka) {a : Tm} {m : Nat} (e : onto next n A = .ok a m) : a.oka := by
  unfold onto at e
  split at e
  · cases e
  split at e
  · rename_i h0; exact h _ _ _ _ (hA h0) e
  · cases e
theorem openA_oka (t u : Tm) : (openA t u).2 = 0 → (openA t u).1.oka := fun h => by
  rcases openA_cases t u with ⟨_, h2⟩ | ⟨_, h2⟩
  · exact h2
  · omega
theorem qA_oka (P Q : Fo) (T : Tm) : (qA P Q T).2 = 0 → (qA P Q T).1.oka := fun h => by
  rcases qA_cases P Q T with ⟨_, h2⟩ | ⟨_, h2⟩
  · exact h2
  · omega
theorem appTo_oka {f x : Tm} (hf : f.oka) (hx : x.oka) : (appTo f x).oka := ⟨rfl, Int.le_refl _, ⟨hf.1, hf.2.1, hf.2.2, hx.1, hx.2.1, hx.2.2, trivial⟩⟩
theorem hdS_oka {E : List Dl} {next : Nat → Tm → Hr} (h : ∀ n t a m, t.oka → next n t = .ok a m → a.oka) {n : Nat} : ∀ (s : Nat) (t a : Tm) (m : Nat), t.oka → hdS E next n s t = .ok a m → a.oka
  | 0, t, a, m, _, e => by cases e
  | s + 1, t, a, m, ht, e => by
    unfold hdS at e
    split at e
    · exact onto_oka h (openA_oka _ _) e
    split at e
    · exact onto_oka h (qA_oka _ _ _) e
    split at e
    · rename_i h4
      have hl := oka_four ht h4
      split at e
      · cases e
      · rename_i f m' hf
        have h1 := hdS_oka h s _ _ _ (okA_kid ht.2.2 (by omega)) hf
        split at e
        · exact onto_oka h (openA_oka _ _) e
        · injection e with e1 _
          rw [← e1]
          exact appTo_oka h1 (okA_kid ht.2.2 (by omega))
    · injection e with e1 _
      rw [← e1]
      exact ht
theorem hdG_oka (E : List Dl) : ∀ (g n : Nat) (t a : Tm) (m : Nat), t.oka → hdG E g n t = .ok a m → a.oka
  | 0, n, t, a, m, _, e => by cases e
  | g + 1, n, t, a, m, ht, e => hdS_oka (fun n t a m => hdG_oka E g n t a m) _ _ _ _ ht e
theorem hd_oka {E : List Dl} {n : Nat} {t a : Tm} {m : Nat} (ht : t.oka) (h : hd E n t = .ok a m) : a.oka := hdG_oka E _ _ _ _ _ ht h
theorem hd_less {E : List Dl} {n : Nat} {t a : Tm} {m : Nat} (h : hd E n t = .ok a m) : m ≤ n := hdG_less E _ _ _ _ _ h
end Go.Proofs.YtnfhpombnbpdcaaGreat
namespace Go.Proofs.YtnfhpombnbpdcaaGreat
open Go.RowKit
theorem set4_at {w : World} {b : Nat} {x y z u x' y' z' u' : Value} {t : TypeId} (h : w.heap[b]? = some (.cells #[x, y, z, u] t (0, 0))) : ((((w.setCell ⟨b, 0, none⟩ x').setCell ⟨b, 1, none⟩ y').setCell ⟨b, 2, none⟩ z').setCell ⟨b, 3, none⟩ u').heap[b]? = some (.cells #[x', y', z', u'] t (0, 0)) := by
  have hlt := lt_of_block h
  have h' : w.heap[b] = .cells #[x, y, z, u] t (0, 0) := by simpa [Array.getElem?_eq_getElem hlt] using h
  simp only [World.setCell, Array.getElem?_modify, if_true, h]
  rfl
theorem ft_kid {w : World} {P : Nat → Prop} : ∀ {f : Ft} {i b o : Nat}, FtIn w P f b o → i < f.len → ∃ (la : Option Addr) (lc : Nat) (ka : Option Addr) (kc : Nat), w.cell? ⟨b, o + i * 4, none⟩ = some (.int .i64 (kidT f i).k) ∧ w.cell? ⟨b, o + i * 4 + 1, none⟩ = some (.int .i64 (kidT f i).n) ∧
    w.cell? ⟨b, o + i * 4 + 2, none⟩ = some (.slice la (kidT f i).ls.len lc) ∧ w.cell? ⟨b, o + i * 4 + 3, none⟩ = some (.slice ka (kidT f i).ks.len kc) ∧ SlIn w P (kidT f i).ls la lc ∧ TlIn w P (kidT f i).ks ka kc
  | .nil, i, _, _, _, h => by simp [Ft.len] at h
  | .cons k n ls ks r, 0, b, o, h, _ => by
    obtain ⟨e0, e1, ⟨la, lc, e2, h2⟩, ⟨ka, kc, e3, h3⟩, _⟩ := h.first
    exact ⟨la, lc, ka, kc, by simpa [kidT] using e0, by simpa [kidT] using e1, by simpa [kidT] using e2, by simpa [kidT] using e3, h2, h3⟩
  | .cons k n ls ks r, i + 1, b, o, h, hi => by
    obtain ⟨la, lc, ka, kc, e0, e1, e2, e3, h2, h3⟩ := ft_kid (i := i) h.first.2.2.2.2 (by simp only [Ft.len] at hi; omega)
    have e : o + (i + 1) * 4 = o + 4 + i * 4 := by omega
    refine ⟨la, lc, ka, kc, ?_, ?_, ?_, ?_, h2, h3⟩
    · rw [e]; exact e0
    · rw [e]; exact e1
    · rw [e]; exact e2
    · rw [e]; exact e3
theorem tl_kid {w : World} {P : Nat → Prop} {f : Ft} {a : Option Addr} {c i : Nat} (h : TlIn w P f a c) (hi : i < f.len) : ∃ (b o : Nat) (la : Option Addr) (lc : Nat) (ka : Option Addr) (kc : Nat), a = some ⟨b, o, none⟩ ∧ P b ∧ w.cell? ⟨b, o + i * 4, none⟩ = some (.int .i64 (kidT f i).k) ∧ w.cell? ⟨b, o + i * 4 + 1, none⟩ = some (.int .i64 (kidT f i).n) ∧
    w.cell? ⟨b, o + i * 4 + 2, none⟩ = some (.slice la (kidT f i).ls.len lc) ∧ w.cell? ⟨b, o + i * 4 + 3, none⟩ = some (.slice ka (kidT f i).ks.len kc) ∧ SlIn w P (kidT f i).ls la lc ∧ TlIn w P (kidT f i).ks ka kc := by
  obtain ⟨b, o, e, hb, hf⟩ := h.some (by omega)
  obtain ⟨la, lc, ka, kc, r⟩ := ft_kid hf hi
  exact ⟨b, o, la, lc, ka, kc, e, hb, r⟩
end Go.Proofs.YtnfhpombnbpdcaaGreat
namespace Go.Proofs.YtnfhpombnbpdcaaGreat
open Go.RowKit
def qS (P Q : Fo) (T : Tm) : Tm × Bool := if T.qok P Q = true then (T.q P Q, true) else (tZ, false)
theorem qS_yes {P Q : Fo} {T : Tm} (h : T.qok P Q = true) : qS P Q T = (T.q P Q, true) := if_pos h
theorem qS_no {P Q : Fo} {T : Tm} (h : T.qok P Q = false) : qS P Q T = (tZ, false) := by unfold qS; rw [if_neg (by rw [h]; simp)]
theorem qF_app (P Q : Fo) : ∀ f g : Ft, qF P Q (f.app g) = (qF P Q f).app (qF P Q g)
  | .nil, _ => rfl
  | .cons k n ls ks r, g => by
    show Ft.cons k n (sbF P Q ls) (qF P Q ks) (qF P Q (r.app g)) = Ft.cons k n (sbF P Q ls) (qF P Q ks) ((qF P Q r).app (qF P Q g))
    rw [qF_app P Q r g]
theorem qOk_app (P Q : Fo) : ∀ f g : Ft, qOk P Q (f.app g) = (qOk P Q f && qOk P Q g)
  | .nil, _ => by simp [Ft.app, qOk]
  | .cons k n ls ks r, g => by
    show ((lvOkB P Q ls && qOk P Q ks) && qOk P Q (r.app g)) = (((lvOkB P Q ls && qOk P Q ks) && qOk P Q r) && qOk P Q g)
    rw [qOk_app P Q r g]; simp only [Bool.and_assoc]
theorem lvOk_app (P Q : Fo) : ∀ f g : Fo, lvOkB P Q (f.app g) = (lvOkB P Q f && lvOkB P Q g)
  | .nil, _ => by simp [Fo.app, lvOkB]
  | .cons k n ks r, g => by
    show (decide (subE P Q k n ks = 0) && lvOkB P Q (r.app g)) = ((decide (subE P Q k n ks = 0) && lvOkB P Q r) && lvOkB P Q g)
    rw [lvOk_app P Q r g, Bool.and_assoc]
theorem foNil3 : ∀ f : Fo, f.app .nil = f
  | .nil => rfl
  | .cons k n ks r => by show Fo.cons k n ks (r.app .nil) = _; rw [foNil3 r]
theorem foAss3 : ∀ f g h : Fo, (f.app g).app h = f.app (g.app h)
  | .nil, _, _ => rfl
  | .cons k n ks r, g, h => by show Fo.cons k n ks ((r.app g).app h) = Fo.cons k n ks (r.app (g.app h)); rw [foAss3 r]
theorem FoIn.behind3 {w : World} {P : Nat → Prop} : ∀ (G r : Fo) (b o : Nat), FoIn w P (G.app r) b o → FoIn w P r b (o + G.len * 3)
  | .nil, _, _, _, h => by simpa [Fo.len, Fo.app] using h
  | .cons _ _ _ g, r, b, o, h => by
    have := FoIn.behind3 g r b (o + 3) h.2.2.2
    rw [show o + (Fo.len (.cons _ _ _ g)) * 3 = o + 3 + g.len * 3 by simp [Fo.len]; omega]
    exact this
end Go.Proofs.YtnfhpombnbpdcaaGreat
namespace Go.Proofs.YtnfhpombnbpdcaaGreat
open Go.RowKit
theorem wpList_append_run {P : Program} {ops : Array Oper} {rest : List Oper} {o : Oper} {a : Act} {w w' : World} {Q : Exit → Act → World → Prop} {v y v' : Value} (hgd : o.guard = none) (s x : Operand) (t : TypeId)
    (ho : o.op = .call { callee := .builtin .append, args := #[s, x], argTypes := #[t, t] }) (hs : a.eval s = v) (hx : a.eval x = y) (hrun : (Builtin.append_ #[t, t] o.type #[v, y]).run P w = .ok v' w') (h : wpList P ops Q rest (a.put o.dst v') w') :
    wpList P ops Q (o :: rest) a w := by
  refine wpList_plain hgd fun K hK => ?_
  unfold Oper.wp execOp
  simp only [ho, resolve, invoke, builtin, Sem.run_bind, Sem.run_pure, Result.andThen_ok, List.map_toArray, List.map_cons, List.map_nil, hs, hx, hrun]
  exact hK _ _ h
end Go.Proofs.YtnfhpombnbpdcaaGreat
namespace Go.Proofs.YtnfhpombnbpdcaaGreat
open Go.RowKit
theorem lvsz_mono9 {N M : Nat} (h : N ≤ M) : ∀ {f : Ft}, f.lvsz N → f.lvsz M
  | .nil, _ => trivial
  | .cons .., hf => ⟨Nat.le_trans hf.1 h, lvsz_mono9 h hf.2.1, lvsz_mono9 h hf.2.2⟩
theorem sh_small9 {k n : Int} {ls : Fo} {f : Ft} (h : shB k n ls f = true) : f.size ≤ 1000 ∧ f.lvsz 1000 ∧ ls.size ≤ 1000 := by
  obtain ⟨h1, h2, h3⟩ := shB_parts h
  exact ⟨by omega, lvsz_mono9 (by omega) (tAll_lvsz h3), by have := tfits_lvsz h2; omega⟩
def okQ (P Q : Fo) (sh : Bool) : Bool := sh && (decide (P.len ≤ 5) && (decide (Q.len ≤ 10) && (allR P && allR Q)))
theorem qA_1 {P Q : Fo} {T : Tm} (h : okQ P Q T.sh = false) : qA P Q T = (tZ, 1) := by
  unfold qA
  rw [if_neg]
  rintro ⟨h1, h2⟩
  unfold okQ at h
  unfold parB at h2
  rw [h1, h2] at h
  cases h
theorem qA_2 {P Q : Fo} {T : Tm} (h : okQ P Q T.sh = true) : qA P Q T = if T.qok P Q = true then (T.q P Q, 0) else (tZ, 2) := by
  unfold okQ at h
  rw [Bool.and_eq_true] at h
  unfold qA
  rw [if_pos ⟨h.1, h.2⟩]
def TuW (w : World) (k n : Int) (la ka : Option Addr) (l lc m kc : Nat) : World := (w.alloc (.cells #[.int .i64 k, .int .i64 n, .slice la l lc, .slice ka m kc] 30)).alloc (.cells #[.int .i64 0, .int .i64 0, .slice none 0 0, .slice none 0 0] 30)
theorem tuW_size (w : World) (k n : Int) (la ka : Option Addr) (l lc m kc : Nat) : (TuW w k n la ka l lc m kc).heap.size = w.heap.size + 1 + 1 := by simp [TuW]
theorem tuW_at {w w1 : World} {k n : Int} {la ka : Option Addr} {l lc m kc : Nat} (hb : Below (w.heap.size + 1 + 1) (TuW w k n la ka l lc m kc) w1) :
    w1.heap[w.heap.size]? = some (.cells #[.int .i64 k, .int .i64 n, .slice la l lc, .slice ka m kc] 30 (0, 0)) ∧ w1.heap[w.heap.size + 1]? = some (.cells #[.int .i64 0, .int .i64 0, .slice none 0 0, .slice none 0 0] 30 (0, 0)) ∧ Below w.heap.size w w1 ∧ w.heap.size + 1 + 1 ≤ w1.heap.size := by
  have hz := hb.size
  rw [tuW_size] at hz
  refine ⟨(hb.block _ (by omega)).trans ((heap_old _ _ (by simp)).trans (heap_new _ _)), (hb.block _ (by omega)).trans (heap_second _ _ _), ?_, hz⟩
  exact (((Below.refl _ _).alloc (Nat.le_refl _) _).alloc (by simp) _).trans (hb.mono (by omega))
theorem tuW_step {w w1 w2 : World} {k n : Int} {la ka : Option Addr} {l lc m kc : Nat} (hb : Below (w.heap.size + 1 + 1) (TuW w k n la ka l lc m kc) w1) (hb2 : Below w1.heap.size w1 w2) : Below (w.heap.size + 1 + 1) (TuW w k n la ka l lc m kc) w2 :=
  Below.step hb hb2 (by rw [tuW_size]; exact Nat.le_refl _)
theorem tuW_cells {w w1 : World} {k n : Int} {la ka : Option Addr} {l lc m kc : Nat} (hb : Below (w.heap.size + 1 + 1) (TuW w k n la ka l lc m kc) w1) :
    (w1.cell? ⟨w.heap.size, 0, none⟩ = some (.int .i64 k) ∧ w1.cell? ⟨w.heap.size, 1, none⟩ = some (.int .i64 n) ∧ w1.cell? ⟨w.heap.size, 2, none⟩ = some (.slice la l lc) ∧ w1.cell? ⟨w.heap.size, 3, none⟩ = some (.slice ka m kc)) ∧
    (w1.cell? ⟨w.heap.size + 1, 0, none⟩ = some (.int .i64 0) ∧ w1.cell? ⟨w.heap.size + 1, 1, none⟩ = some (.int .i64 0) ∧ w1.cell? ⟨w.heap.size + 1, 2, none⟩ = some (.slice none 0 0) ∧ w1.cell? ⟨w.heap.size + 1, 3, none⟩ = some (.slice none 0 0)) ∧ (∀ o, w1.frozen? ⟨w.heap.size + 1, o, none⟩ = false) ∧ w.heap.size + 1 < w1.heap.size := by
  obtain ⟨h1, h2, _, h6⟩ := tuW_at hb
  exact ⟨⟨cell_at h1 0, cell_at h1 1, cell_at h1 2, cell_at h1 3⟩, ⟨cell_at h2 0, cell_at h2 1, cell_at h2 2, cell_at h2 3⟩, free_of h2, by omega⟩
theorem tuW_low {w w1 : World} {k n : Int} {la ka : Option Addr} {l lc m kc : Nat} (hb : Below (w.heap.size + 1 + 1) (TuW w k n la ka l lc m kc) w1) (x y z u : Value) :
    Below w.heap.size w ((((w1.setCell ⟨w.heap.size + 1, 0, none⟩ x).setCell ⟨w.heap.size + 1, 1, none⟩ y).setCell ⟨w.heap.size + 1, 2, none⟩ z).setCell ⟨w.heap.size + 1, 3, none⟩ u) :=
  ((((tuW_at hb).2.2.1.setCell (by simp) _).setCell (by simp) _).setCell (by simp) _).setCell (by simp) _
end Go.Proofs.YtnfhpombnbpdcaaGreat
namespace Go.Proofs.YtnfhpombnbpdcaaGreat
open Go
def apA : Tm → List Tm → Tm
  | t, [] => t
  | t, x :: xs => apA (appTo t x) xs
def ctH (E : List Dl) : Nat → Tm → List Tm → Hr
  | m, a, [] => .ok a m
  | m, a, x :: xs => if a.k = 5 then (match onto (hd E) m (openA (a.kid 1) x) with
      | .no e => .no e
      | .ok b k => ctH E k b xs) else .ok (apA a (x :: xs)) m
def rnH (E : List Dl) (n : Nat) (t : Tm) (xs : List Tm) : Hr := match hd E n t with
  | .no e => .no e
  | .ok a m => ctH E m a xs
theorem rn_nil (E : List Dl) (n : Nat) (t : Tm) : rnH E n t [] = hd E n t := by
  unfold rnH
  cases hd E n t <;> rfl
theorem rn_onto (E : List Dl) (n : Nat) (A : Tm × Int) (xs : List Tm) : (match onto (hd E) n A with
  | .no e => .no e
  | .ok a m => ctH E m a xs) = onto (fun m u => rnH E m u xs) n A := by
  unfold onto
  by_cases hn : n = 0
  · rw [if_pos hn, if_pos hn]
  rw [if_neg hn, if_neg hn]
  by_cases hA : A.2 = 0
  · rw [if_pos hA, if_pos hA]; rfl
  · rw [if_neg hA, if_neg hA]
theorem rn_let (E : List Dl) (n : Nat) {t : Tm} (ht : t.oka) (xs : List Tm) (h7 : t.k = 7) : rnH E n t xs = onto (fun m u => rnH E m u xs) n (openA (t.kid 2) (t.kid 1)) := by
  unfold rnH
  rw [hd_step E n ht, if_pos h7]
  exact rn_onto E n _ xs
theorem rn_unf (E : List Dl) (n : Nat) {t v : Tm} (ht : t.oka) (xs : List Tm) (h7 : t.k ≠ 7) (hu : unf E t = some v) : rnH E n t xs = onto (fun m u => rnH E m u xs) n (qA t.ls .nil v) := by
  unfold rnH
  rw [hd_step E n ht, if_neg h7, hu]
  exact rn_onto E n _ xs
theorem unf_not3 {E : List Dl} {t : Tm} (h : t.k ≠ 3) : unf E t = none := by unfold unf; rw [if_neg h]
theorem ct_end (E : List Dl) (n : Nat) (t : Tm) (xs : List Tm) (h : t.k = 5 → xs = []) : ctH E n t xs = .ok (apA t xs) n := by
  cases xs with
  | nil => rfl
  | cons x xs => rw [ctH, if_neg (fun h5 => by have := h h5; cases this)]
theorem rn_app (E : List Dl) (n : Nat) {t : Tm} (ht : t.oka) (xs : List Tm) (h4 : t.k = 4) : rnH E n t xs = rnH E n (t.kid 0) (t.kid 1 :: xs) := by
  unfold rnH
  rw [hd_step E n ht, if_neg (by omega), unf_not3 (by omega)]
  dsimp only
  rw [if_pos h4]
  cases hf : hd E n (t.kid 0) with
  | no er => rfl
  | ok f m =>
    dsimp only
    rw [ctH]
    by_cases h5 : f.k = 5
    · rw [if_pos h5, if_pos h5]
    · rw [if_neg h5, if_neg h5]
      exact ct_end E m (appTo f (t.kid 1)) xs (fun h => by simp [appTo] at h)
theorem rn_end (E : List Dl) (n : Nat) {t : Tm} (ht : t.oka) (xs : List Tm) (h7 : t.k ≠ 7) (h4 : t.k ≠ 4) (hu : unf E t = none) (h5 : t.k = 5 → xs = []) : rnH E n t xs = .ok (apA t xs) n := by
  unfold rnH
  rw [hd_step E n ht, if_neg h7, hu]
  dsimp only
  rw [if_neg h4]
  exact ct_end E n t xs h5
theorem rn_lam (E : List Dl) (n : Nat) {t : Tm} (ht : t.oka) (x : Tm) (xs : List Tm) (h5 : t.k = 5) : rnH E n t (x :: xs) = onto (fun m u => rnH E m u xs) n (openA (t.kid 1) x) := by
  unfold rnH
  rw [hd_step E n ht, if_neg (by omega), unf_not3 (by omega)]
  dsimp only
  rw [if_neg (by omega)]
  dsimp only
  rw [ctH, if_pos h5]
  exact rn_onto E n _ xs
end Go.Proofs.YtnfhpombnbpdcaaGreat
namespace Go.Proofs.YtnfhpombnbpdcaaGreat
open Go.RowKit
def qRp (P Q : Fo) (T : Tm) : Tm × Int := if T.qok P Q = true then (T.q P Q, 0) else (tZ, 2)
theorem qRp_yes {P Q : Fo} {T : Tm} (h : T.qok P Q = true) : qRp P Q T = (T.q P Q, 0) := if_pos h
theorem qRp_no {P Q : Fo} {T : Tm} (h : T.qok P Q = false) : qRp P Q T = (tZ, 2) := by unfold qRp; rw [if_neg (by rw [h]; simp)]
def QrPost (B : Nat) (A : Tm × Int) (w : World) (e : Ending) (w' : World) : Prop :=
  ∃ (la : Option Addr) (lc : Nat) (x : Option Addr) (c : Nat), e = .returned (.tuple #[.agg #[.int .i64 A.1.k, .int .i64 A.1.n, .slice la A.1.ls.len lc, .slice x A.1.ks.len c], .int .i64 A.2]) ∧ SlIn w' (fun b => (b < B ∨ w.heap.size ≤ b) ∧ b < w'.heap.size) A.1.ls la lc ∧ TlIn w' (fun b => (b < B ∨ w.heap.size ≤ b) ∧ b < w'.heap.size) A.1.ks x c ∧ Below w.heap.size w w'
theorem QrPost.no {B : Nat} {E : Int} {w w' : World} (h : Below w.heap.size w w') : QrPost B (tZ, E) w (.returned (.tuple #[.agg #[.int .i64 0, .int .i64 0, .slice none 0 0, .slice none 0 0], .int .i64 E])) w' := ⟨none, 0, none, 0, rfl, SlIn.none _ _, TlIn.none _ _, h⟩
theorem QrPost.of {B : Nat} {T : Tm} {w w' : World} {la x : Option Addr} {lc c : Nat} (h : TmPost B T w (.returned (.agg #[.int .i64 T.k, .int .i64 T.n, .slice la T.ls.len lc, .slice x T.ks.len c])) w') : QrPost B (T, 0) w (.returned (.tuple #[.agg #[.int .i64 T.k, .int .i64 T.n, .slice la T.ls.len lc, .slice x T.ks.len c], .int .i64 0])) w' := by
  obtain ⟨la', lc', x', c', he, h1, h2, h3⟩ := h
  simp only [Ending.returned.injEq, Value.agg.injEq, Array.mk.injEq, List.cons.injEq, Value.slice.injEq, true_and, and_true] at he
  obtain ⟨⟨rfl, rfl⟩, rfl, rfl⟩ := he
  exact ⟨_, _, _, _, rfl, h1, h2, h3⟩
def RwIn (w : World) (B : Nat) (f : Fo) (a : Option Addr) (cap : Nat) : Prop := f.len ≤ cap ∧ cap ≤ maxLen ∧ (0 < f.len → ∃ b o, a = some ⟨b, o, none⟩ ∧ b < w.heap.size ∧ FoIn w (· < B) f b o)
theorem RwIn.of {w : World} {B : Nat} {f : Fo} {a : Option Addr} {cap : Nat} (h : SlIn w (· < B) f a cap) (hB : B ≤ w.heap.size) : RwIn w B f a cap := by
  obtain ⟨h1, h2, _, h4⟩ := h
  refine ⟨h1, h2, fun hx => ?_⟩
  obtain ⟨b, o, e, hb, hf⟩ := h4 hx
  exact ⟨b, o, e, Nat.lt_of_lt_of_le hb hB, hf⟩
theorem RwIn.later {w w' : World} {B : Nat} {f : Fo} {a : Option Addr} {cap : Nat} (h : RwIn w B f a cap) (hB : B ≤ w.heap.size) (hb : Below w.heap.size w w') : RwIn w' B f a cap := by
  obtain ⟨h1, h2, h4⟩ := h
  refine ⟨h1, h2, fun hx => ?_⟩
  obtain ⟨b, o, e, hl, hf⟩ := h4 hx
  exact ⟨b, o, e, Nat.lt_of_lt_of_le hl hb.size, FoIn.cells (fun q hq => hb.block q (Nat.lt_of_lt_of_le hq hB)) f b o (fun j _ => bcell hb _ _ hl) hf⟩
theorem RwIn.len {w : World} {B : Nat} {f : Fo} {a : Option Addr} {cap : Nat} (h : RwIn w B f a cap) : f.len ≤ 9223372036854775807 := by
  have h1 := h.1
  have h2 := h.2.1
  unfold maxLen at h2
  omega
theorem foIn_low {w w' : World} {B b o : Nat} {f : Fo} (hb : Below w.heap.size w w') (hB : B ≤ w.heap.size) (hl : b < w.heap.size) (hf : FoIn w (· < B) f b o) : FoIn w' (· < B) f b o :=
  FoIn.cells (fun q hq => hb.block q (Nat.lt_of_lt_of_le hq hB)) f b o (fun _ _ => bcell hb _ _ hl) hf
end Go.Proofs.YtnfhpombnbpdcaaGreat
namespace Go.Proofs.YtnfhpombnbpdcaaGreat
open Go.RowKit
theorem subE_zero (P Q : Fo) : (subE P Q 1 0 .nil == 0) = parB P Q := by
  have hz : rightB 5 10 1 0 .nil = true := by decide
  have hs : rightT (sb1 P Q 1 0 (sbF P Q .nil)) = true := by
    unfold sb1 sv
    rw [if_neg (by omega), if_neg (by omega)]
    exact hz
  unfold subE okS parB
  rw [hs, hz, Bool.true_and, if_pos rfl]
  cases (decide (P.len ≤ 5) && (decide (Q.len ≤ 10) && (allR P && allR Q))) <;> rfl
set_option maxRecDepth 100000 in
set_option maxHeartbeats 2000000 in
theorem qMay_any (P Q : Fo) (ap aq : Option Addr) (cp cq B : Nat) (w : World) (hsp : SlIn w (· < B) P ap cp) (hsq : SlIn w (· < B) Q aq cq) (hB : B ≤ w.heap.size) :
    Calls Tryz.prog 94 #[.slice ap P.len cp, .slice aq Q.len cq] w fun e w' => e = .returned (.bool (parB P Q)) ∧ Below w.heap.size w w' := by
  have HC := Lib.hid (sSub_off P Q 1 0 .nil none ap aq 0 cp cq B w (SlIn.none _ _) hsp hsq hB)
  have HE := Lib.hid (subE_zero P Q)
  rw [show Fo.nil.len = 0 from rfl] at HC
  generalize subE P Q 1 0 .nil = E at HC HE
  generalize subT P Q 1 0 .nil = T at HC
  generalize parB P Q = v at HE
  clear hsp hsq
  go_enter Tryz.func94, Tryz.ntmps94
  go_wp2_with fail
  refine HC.out.mono ?_
  rintro e w2 ⟨k2, n2, F2, x2, c2, -, rfl, -, t2⟩
  have hb := t2.alloc t2.size (.cells #[.int .i64 k2, .int .i64 n2, .slice x2 F2.len c2] 45)
  have HB := Lib.hid hb
  have hE := HE.out
  clear t2 hb HE
  go_wp2_with fail
  go_ret
  first | exact ⟨rfl, HB.out⟩ | exact ⟨by rw [hE], HB.out⟩
theorem qA_R {P Q : Fo} {T : Tm} (h1 : T.sh = true) (h2 : parB P Q = true) : qA P Q T = qRp P Q T := by
  unfold qA qRp
  rw [if_pos ⟨h1, h2⟩]
theorem qA_arg {P Q : Fo} {T : Tm} (h : T.sh = false ∨ parB P Q = false) : qA P Q T = (tZ, 1) := by
  unfold qA
  rw [if_neg]
  rintro ⟨h1, h2⟩
  rcases h with h | h
  · rw [h1] at h; cases h
  · rw [h2] at h; cases h
end Go.Proofs.YtnfhpombnbpdcaaGreat
