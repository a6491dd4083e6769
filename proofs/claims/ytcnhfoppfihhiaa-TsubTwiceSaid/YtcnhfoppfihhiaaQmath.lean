/- The numbers of a term, each once, as plain functions: that what was found once and is looked through again comes to the same; how many there may be. Plain mathematics. -/
import Derived.Test.YtcnhfoppfihhiaaQlev
import Derived.Test.YtcnhfoppfihhiaaNspec
namespace Go.Proofs.Ytcnhfoppfihhiaa
open Go

theorem ins_mem (x : Int) (zs : List Int) : x ∈ ins x zs := by
  unfold ins; split
  · assumption
  · simp
theorem mem_ins {x y : Int} {zs : List Int} (h : y ∈ zs) : y ∈ ins x zs := by
  unfold ins; split
  · exact h
  · simp [h]
theorem ins_old {x : Int} {zs : List Int} (h : x ∈ zs) : ins x zs = zs := if_pos h
theorem ins_new {x : Int} {zs : List Int} (h : ¬ x ∈ zs) : ins x zs = zs ++ [x] := if_neg h
theorem mem_once_old {y : Int} : ∀ {ys zs : List Int}, y ∈ zs → y ∈ onceL ys zs
  | [], _, h => h
  | _ :: ys, _, h => mem_once_old (ys := ys) (mem_ins h)
theorem mem_once {y : Int} : ∀ {ys zs : List Int}, y ∈ ys → y ∈ onceL ys zs
  | x :: ys, zs, h => by
    show y ∈ onceL ys (ins x zs)
    rcases List.mem_cons.1 h with rfl | h
    · exact mem_once_old (ins_mem _ _)
    · exact mem_once h
theorem once_ins (x : Int) (ys zs : List Int) : onceL (ins x ys) zs = ins x (onceL ys zs) := by
  by_cases h : x ∈ ys
  · rw [ins_old h, ins_old (mem_once h)]
  · rw [ins_new h, onceL_app]; rfl
theorem once_once : ∀ (xs ys zs : List Int), onceL (onceL xs ys) zs = onceL xs (onceL ys zs)
  | [], _, _ => rfl
  | x :: xs, ys, zs => by
    show onceL (onceL xs (ins x ys)) zs = onceL xs (ins x (onceL ys zs))
    rw [once_once xs, once_ins]
theorem once_idem (xs zs : List Int) : onceL (onceL xs []) zs = onceL xs zs := once_once xs [] zs
theorem once_len : ∀ (s zs : List Int), (onceL s zs).length ≤ zs.length + s.length
  | [], _ => Nat.le_refl _
  | x :: s, zs => by
    have h1 := once_len s (ins x zs)
    have h2 := ins_len x zs
    show (onceL s (ins x zs)).length ≤ _
    simp only [List.length_cons]
    omega
theorem once_take {ms zs : List Int} {k : Nat} (h : k < ms.length) : onceL (ms.take (k + 1)) zs = ins (ms.getD k 0) (onceL (ms.take k) zs) := by
  rw [List.take_add_one, onceL_app, List.getElem?_eq_getElem h, List.getD_eq_getElem?_getD, List.getElem?_eq_getElem h]
  rfl
theorem numF_app (K : Int) : ∀ f g : Fo, numF K (f.app g) = numF K f ++ numF K g
  | .nil, _ => rfl
  | .cons k n ks r, g => by
    show (if k = K then [n] else numF K ks) ++ numF K (r.app g) = ((if k = K then [n] else numF K ks) ++ numF K r) ++ numF K g
    rw [numF_app K r g, List.append_assoc]
theorem numF_len9 (K : Int) : ∀ f : Fo, (numF K f).length ≤ f.size
  | .nil => Nat.zero_le _
  | .cons k n ks r => by
    have h1 := numF_len9 K r
    have h2 := numF_len9 K ks
    show ((if k = K then [n] else numF K ks) ++ numF K r).length ≤ ks.size + r.size + 1
    rw [List.length_append]
    split
    · simp; omega
    · omega
/-- The unknowns of a term, each once. -/
def Tm.mets (T : Tm) : List Int := onceL (numF 6 T.lv) []
theorem tfits_five {p m v k n : Int} {ls : Fo} {len : Nat} (h : tfitsB p m v k n ls len = true) : ls.len ≤ 5 := by
  unfold tfitsB at h
  simp only [Bool.and_eq_true, decide_eq_true_eq] at h
  have h1 := h.2.2.2.2.1
  unfold thi at h1
  split at h1
  · omega
  · split at h1 <;> omega
theorem lvF_size {p m : Int} : ∀ {f : Ft} {k0 : Int} {i : Nat} {v d : Int}, tAll p m f k0 i v d = true → (lvF f).size ≤ 500 * f.size
  | .nil, _, _, _, _, _ => Nat.zero_le _
  | .cons k n ls ks r, k0, i, v, d, h => by
    simp only [tAll, Bool.and_eq_true, decide_eq_true_eq] at h
    obtain ⟨⟨_, h2, h3⟩, h4⟩ := h
    have g1 := tfits_lvsz h2
    have g2 := lvF_size h3
    have g3 := lvF_size h4
    show ((ls.app (lvF ks)).app (lvF r)).size ≤ 500 * (ks.size + r.size + 1)
    rw [Fo.app_size, Fo.app_size]
    omega
theorem sh_lv {T : Tm} (h : T.sh = true) : T.lv.size ≤ 300500 := by
  obtain ⟨h1, h2, h3⟩ := shB_parts h
  have g1 := tfits_lvsz h2
  have g2 := lvF_size h3
  unfold Tm.lv
  rw [Fo.app_size]
  omega
theorem lvF_len {p m : Int} : ∀ {f : Ft} {k0 : Int} {i : Nat} {v d : Int}, tAll p m f k0 i v d = true → (lvF f).len ≤ 5 * f.size
  | .nil, _, _, _, _, _ => Nat.zero_le _
  | .cons k n ls ks r, k0, i, v, d, h => by
    simp only [tAll, Bool.and_eq_true, decide_eq_true_eq] at h
    obtain ⟨⟨_, h2, h3⟩, h4⟩ := h
    have g1 := tfits_five h2
    have g2 := lvF_len h3
    have g3 := lvF_len h4
    show ((ls.app (lvF ks)).app (lvF r)).len ≤ 5 * (ks.size + r.size + 1)
    rw [Fo.app_len, Fo.app_len]
    omega
theorem sh_len {T : Tm} (h : T.sh = true) : (T.ls.app (lvF T.ks)).len ≤ 50000 := by
  obtain ⟨h1, h2, h3⟩ := shB_parts h
  have g1 := tfits_five h2
  have g2 := lvF_len h3
  rw [Fo.app_len]
  omega
theorem lvF_right : ∀ {f : Ft} {k0 : Int} {i : Nat} {v d : Int}, tAll 5 10 f k0 i v d = true → lvB 5 10 (lvF f) = true
  | .nil, _, _, _, _, _ => rfl
  | .cons k n ls ks r, k0, i, v, d, h => by
    simp only [tAll, Bool.and_eq_true, decide_eq_true_eq] at h
    obtain ⟨⟨_, h2, h3⟩, h4⟩ := h
    unfold tfitsB at h2
    simp only [Bool.and_eq_true] at h2
    exact lvB_app (lvB_app h2.2.2.2.2.2 (lvF_right h3)) (lvF_right h4)
theorem sh_lvB {T : Tm} (h : T.sh = true) : lvB 5 10 T.lv = true := by
  obtain ⟨h1, h2, h3⟩ := shB_parts h
  unfold tfitsB at h2
  simp only [Bool.and_eq_true] at h2
  exact lvB_app h2.2.2.2.2.2 (lvF_right h3)
/-- The Consts of a term, from left to right; each once. -/
def csF : Ft → List Int
  | .nil => []
  | .cons k n _ ks r => ((if k = 3 then [n] else []) ++ csF ks) ++ csF r
def cs1 (k n : Int) (f : Ft) : List Int := (if k = 3 then [n] else []) ++ csF f
def Tm.cons (T : Tm) : List Int := onceL (cs1 T.k T.n T.ks) []
theorem csF_app : ∀ f g : Ft, csF (f.app g) = csF f ++ csF g
  | .nil, _ => rfl
  | .cons k n ls ks r, g => by
    show ((if k = 3 then [n] else []) ++ csF ks) ++ csF (r.app g) = (((if k = 3 then [n] else []) ++ csF ks) ++ csF r) ++ csF g
    rw [csF_app r g, List.append_assoc _ (csF r)]
theorem csF_len : ∀ f : Ft, (csF f).length ≤ f.size
  | .nil => Nat.zero_le _
  | .cons k n ls ks r => by
    have h1 := csF_len r
    have h2 := csF_len ks
    show (((if k = 3 then [n] else []) ++ csF ks) ++ csF r).length ≤ ks.size + r.size + 1
    rw [List.length_append, List.length_append]
    split
    · simp; omega
    · simp; omega
theorem cs1_len (k n : Int) (f : Ft) : (cs1 k n f).length ≤ f.size + 1 := by
  have h := csF_len f
  unfold cs1
  rw [List.length_append]
  split
  · simp; omega
  · simp; omega
end Go.Proofs.Ytcnhfoppfihhiaa
