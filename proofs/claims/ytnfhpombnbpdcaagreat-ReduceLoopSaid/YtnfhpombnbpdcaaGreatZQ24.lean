/- Tlf. No condition but those that stand in each statement. -/
import Derived.Test.YtnfhpombnbpdcaaGreatZQ23
namespace Go.Proofs.YtnfhpombnbpdcaaGreat
open Go
structure Tm where
  k : Int
  n : Int
  ls : Fo
  ks : Ft
  deriving DecidableEq
def Tm.to (t : Tm) (r : Ft) : Ft := .cons t.k t.n t.ls t.ks r
def Tm.one (t : Tm) : Ft := t.to .nil
def tV (n : Int) : Tm := ⟨1, n, .nil, .nil⟩
def tZ : Tm := ⟨0, 0, .nil, .nil⟩
def repF (g : Int → Int → Tm) : Ft → Int → Nat → Int → Ft
  | .nil, _, _, _ => .nil
  | .cons k n ls ks r, k0, i, b => (if k = 1 then g n (b + bindK k0 i) else ⟨k, n, ls, repF g ks k 0 (b + bindK k0 i)⟩ : Tm).to (repF g r k0 (i + 1) b)
def rep1 (g : Int → Int → Tm) (k n : Int) (ls : Fo) (ks : Ft) (b : Int) : Tm := if k = 1 then g n b else ⟨k, n, ls, repF g ks k 0 b⟩
theorem repF_cons (g : Int → Int → Tm) (k n : Int) (ls : Fo) (ks r : Ft) (k0 : Int) (i : Nat) (b : Int) : repF g (.cons k n ls ks r) k0 i b = (rep1 g k n ls ks (b + bindK k0 i)).to (repF g r k0 (i + 1) b) := rfl
theorem repF_len (g : Int → Int → Tm) : ∀ (f : Ft) (k0 : Int) (i : Nat) (b : Int), (repF g f k0 i b).len = f.len
  | .nil, _, _, _ => rfl
  | .cons k n ls ks r, k0, i, b => by
    show (repF g r k0 (i + 1) b).len + 1 = r.len + 1
    rw [repF_len g r]
theorem repF_app (g : Int → Int → Tm) : ∀ (f h : Ft) (k0 : Int) (i : Nat) (b : Int), repF g (f.app h) k0 i b = (repF g f k0 i b).app (repF g h k0 (i + f.len) b)
  | .nil, h, k0, i, b => rfl
  | .cons k n ls ks r, h, k0, i, b => by
    show (rep1 g k n ls ks (b + bindK k0 i)).to (repF g (r.app h) k0 (i + 1) b) = ((rep1 g k n ls ks (b + bindK k0 i)).to (repF g r k0 (i + 1) b)).app _
    rw [repF_app g r h]
    show _ = (rep1 g k n ls ks (b + bindK k0 i)).to ((repF g r k0 (i + 1) b).app (repF g h k0 (i + (r.len + 1)) b))
    rw [show i + 1 + r.len = i + (r.len + 1) by omega]
def gL (fr by' : Int) (n b : Int) : Tm := tV (if fr + b ≤ n then n + by' else n)
def gO (U : Tm) (n b : Int) : Tm := if n = b then rep1 (gL 0 b) U.k U.n U.ls U.ks 0 else if b < n then tV (n - 1) else tV n
def lfF (by' : Int) : Ft → Int → Nat → Int → Ft
  | .nil, _, _, _ => .nil
  | .cons k n ls ks r, k0, i, fr => .cons k (if k = 1 ∧ fr + bindK k0 i ≤ n then n + by' else n) ls (lfF by' ks k 0 (fr + bindK k0 i)) (lfF by' r k0 (i + 1) fr)
def lf1 (by' k n : Int) (ls : Fo) (ks : Ft) (fr : Int) : Tm := ⟨k, if k = 1 ∧ fr ≤ n then n + by' else n, ls, lfF by' ks k 0 fr⟩
theorem lfF_cons (by' k n : Int) (ls : Fo) (ks r : Ft) (k0 : Int) (i : Nat) (fr : Int) : lfF by' (.cons k n ls ks r) k0 i fr = (lf1 by' k n ls ks (fr + bindK k0 i)).to (lfF by' r k0 (i + 1) fr) := rfl
theorem lfF_len (by' : Int) : ∀ (f : Ft) (k0 : Int) (i : Nat) (fr : Int), (lfF by' f k0 i fr).len = f.len
  | .nil, _, _, _ => rfl
  | .cons k n ls ks r, k0, i, fr => by
    show (lfF by' r k0 (i + 1) fr).len + 1 = r.len + 1
    rw [lfF_len by' r]
theorem lfF_app (by' : Int) : ∀ (f h : Ft) (k0 : Int) (i : Nat) (fr : Int), lfF by' (f.app h) k0 i fr = (lfF by' f k0 i fr).app (lfF by' h k0 (i + f.len) fr)
  | .nil, h, k0, i, fr => rfl
  | .cons k n ls ks r, h, k0, i, fr => by
    show (lf1 by' k n ls ks (fr + bindK k0 i)).to (lfF by' (r.app h) k0 (i + 1) fr) = ((lf1 by' k n ls ks (fr + bindK k0 i)).to (lfF by' r k0 (i + 1) fr)).app _
    rw [lfF_app by' r h]
    show _ = (lf1 by' k n ls ks (fr + bindK k0 i)).to ((lfF by' r k0 (i + 1) fr).app (lfF by' h k0 (i + (r.len + 1)) fr))
    rw [show i + 1 + r.len = i + (r.len + 1) by omega]
def opF (U : Tm) : Ft → Int → Nat → Int → Ft
  | .nil, _, _, _ => .nil
  | .cons k n ls ks r, k0, i, a => (if k = 1 ∧ n = a + bindK k0 i then lf1 (a + bindK k0 i) U.k U.n U.ls U.ks 0 else ⟨k, if k = 1 ∧ a + bindK k0 i < n then n - 1 else n, ls, opF U ks k 0 (a + bindK k0 i)⟩ : Tm).to (opF U r k0 (i + 1) a)
def op1 (U : Tm) (k n : Int) (ls : Fo) (ks : Ft) (a : Int) : Tm := if k = 1 ∧ n = a then lf1 a U.k U.n U.ls U.ks 0 else ⟨k, if k = 1 ∧ a < n then n - 1 else n, ls, opF U ks k 0 a⟩
theorem opF_cons (U : Tm) (k n : Int) (ls : Fo) (ks r : Ft) (k0 : Int) (i : Nat) (a : Int) : opF U (.cons k n ls ks r) k0 i a = (op1 U k n ls ks (a + bindK k0 i)).to (opF U r k0 (i + 1) a) := rfl
theorem opF_len (U : Tm) : ∀ (f : Ft) (k0 : Int) (i : Nat) (a : Int), (opF U f k0 i a).len = f.len
  | .nil, _, _, _ => rfl
  | .cons k n ls ks r, k0, i, a => by
    show (opF U r k0 (i + 1) a).len + 1 = r.len + 1
    rw [opF_len U r]
theorem opF_app (U : Tm) : ∀ (f h : Ft) (k0 : Int) (i : Nat) (a : Int), opF U (f.app h) k0 i a = (opF U f k0 i a).app (opF U h k0 (i + f.len) a)
  | .nil, h, k0, i, a => rfl
  | .cons k n ls ks r, h, k0, i, a => by
    show (op1 U k n ls ks (a + bindK k0 i)).to (opF U (r.app h) k0 (i + 1) a) = ((op1 U k n ls ks (a + bindK k0 i)).to (opF U r k0 (i + 1) a)).app _
    rw [opF_app U r h]
    show _ = (op1 U k n ls ks (a + bindK k0 i)).to ((opF U r k0 (i + 1) a).app (opF U h k0 (i + (r.len + 1)) a))
    rw [show i + 1 + r.len = i + (r.len + 1) by omega]
theorem lfF_rep {N by' : Int} : ∀ (f : Ft) (k0 : Int) (i : Nat) (fr b : Int), wfF N f → lfF by' f k0 i (fr + b) = repF (gL fr by') f k0 i b
  | .nil, _, _, _, _, _ => rfl
  | .cons k n ls ks r, k0, i, fr, b, h => by
    obtain ⟨h1, h2⟩ := wfF_parts h
    rw [lfF_cons, repF_cons, lfF_rep r k0 (i + 1) fr b h2]
    congr 1
    unfold lf1 rep1
    by_cases hk : k = 1
    · subst hk
      obtain ⟨e1, e2, _, _⟩ := wf1_leaf h1
      subst e1 e2
      rw [if_pos rfl]
      unfold gL tV
      rw [Int.add_assoc]
      by_cases hc : fr + (b + bindK k0 i) ≤ n
      · rw [if_pos ⟨rfl, hc⟩, if_pos hc]; rfl
      · rw [if_neg (fun e => hc e.2), if_neg hc]; rfl
    · rw [if_neg hk, if_neg (fun e => hk e.1), Int.add_assoc, lfF_rep ks k 0 fr (b + bindK k0 i) h1.2.2]
theorem lf1_rep {N by' k n fr : Int} {ls : Fo} {ks : Ft} (h : wf1 N k n ls ks) : lf1 by' k n ls ks fr = rep1 (gL fr by') k n ls ks 0 := by
  have h1 := lfF_rep (by' := by') (.cons k n ls ks .nil) 0 0 fr 0 (show wfF N (.cons k n ls ks .nil) from ⟨h.1, h.2.1, h.2.2, trivial⟩)
  rw [lfF_cons, repF_cons] at h1
  have hb : bindK 0 0 = 0 := by simp [bindK]
  rw [hb, Int.add_zero, Int.add_zero, Int.add_zero] at h1
  generalize lf1 by' k n ls ks fr = X at h1 ⊢
  generalize rep1 (gL fr by') k n ls ks 0 = Y at h1 ⊢
  cases X; cases Y
  simp only [Tm.to, Ft.cons.injEq] at h1
  obtain ⟨a, b, c, d, _⟩ := h1
  subst a b c d
  rfl
theorem opF_rep {N : Int} {U : Tm} (hU : wf1 N U.k U.n U.ls U.ks) : ∀ (f : Ft) (k0 : Int) (i : Nat) (b : Int), wfF N f → opF U f k0 i b = repF (gO U) f k0 i b
  | .nil, _, _, _, _ => rfl
  | .cons k n ls ks r, k0, i, b, h => by
    obtain ⟨h1, h2⟩ := wfF_parts h
    rw [opF_cons, repF_cons, opF_rep hU r k0 (i + 1) b h2]
    congr 1
    unfold op1 rep1
    by_cases hk : k = 1
    · subst hk
      obtain ⟨e1, e2, _, _⟩ := wf1_leaf h1
      subst e1 e2
      rw [if_pos rfl]
      unfold gO tV
      by_cases hc : n = b + bindK k0 i
      · rw [if_pos ⟨rfl, hc⟩, if_pos hc]
        exact lf1_rep hU
      · rw [if_neg (fun e => hc e.2), if_neg hc]
        by_cases hd : b + bindK k0 i < n
        · rw [if_pos ⟨rfl, hd⟩, if_pos hd]; rfl
        · rw [if_neg (fun e => hd e.2), if_neg hd]; rfl
    · rw [if_neg hk, if_neg (fun e => hk e.1), if_neg (fun e => hk e.1), opF_rep hU ks k 0 (b + bindK k0 i) h1.2.2]
theorem op1_rep {N k n : Int} {ls : Fo} {ks : Ft} {U : Tm} (hU : wf1 N U.k U.n U.ls U.ks) (h : wf1 N k n ls ks) : op1 U k n ls ks 0 = rep1 (gO U) k n ls ks 0 := by
  have h1 := opF_rep hU (.cons k n ls ks .nil) 0 0 0 (show wfF N (.cons k n ls ks .nil) from ⟨h.1, h.2.1, h.2.2, trivial⟩)
  rw [opF_cons, repF_cons] at h1
  have hb : bindK 0 0 = 0 := by simp [bindK]
  rw [hb, Int.add_zero] at h1
  generalize op1 U k n ls ks 0 = X at h1 ⊢
  generalize rep1 (gO U) k n ls ks 0 = Y at h1 ⊢
  cases X; cases Y
  simp only [Tm.to, Ft.cons.injEq] at h1
  obtain ⟨a, b, c, d, _⟩ := h1
  subst a b c d
  rfl
def Tm.sh (t : Tm) : Bool := shB t.k t.n t.ls t.ks
def fin1 (t : Tm) : Tm × Int := if t.sh = true then (t, 0) else (tZ, 2)
def liftA (t : Tm) (fr by' : Int) : Tm × Int := if t.sh = true ∧ 0 ≤ fr ∧ fr ≤ 1000 ∧ 0 ≤ by' ∧ by' ≤ 1000 then fin1 (rep1 (gL fr by') t.k t.n t.ls t.ks 0) else (tZ, 1)
def openA (t u : Tm) : Tm × Int := if t.sh = true ∧ u.sh = true then fin1 (rep1 (gO u) t.k t.n t.ls t.ks 0) else (tZ, 1)
end Go.Proofs.YtnfhpombnbpdcaaGreat
