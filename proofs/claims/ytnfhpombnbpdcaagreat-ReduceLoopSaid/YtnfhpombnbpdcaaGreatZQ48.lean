/- Qlevm, Qmath, Wenvs, Wrdp, Qfound, Wcons, Yund, Yright. No condition but those that stand in each statement. -/
import Derived.Test.YtnfhpombnbpdcaaGreatZQ29
import Derived.Test.YtnfhpombnbpdcaaGreatZQ45
import Derived.WalkSmall
import Derived.IntWalk
import Derived.Test.YtnfhpombnbpdcaaGreatZQ30
import Derived.Test.YtnfhpombnbpdcaaGreatZQ8
import Derived.Carry
import Derived.Deep.LoopGhost
import Derived.Deep.RegionHeld3
import Derived.Deep.DeepCutAuto
import Derived.Test.YtnfhpombnbpdcaaGreatZQ21
import Derived.Test.YtnfhpombnbpdcaaGreatZQ7
namespace Go.Proofs.YtnfhpombnbpdcaaGreat
open Go
end Go.Proofs.YtnfhpombnbpdcaaGreat
namespace Go.Proofs.YtnfhpombnbpdcaaGreat
open Go
theorem ins_mem (x : Int) (zs : List Int) : x ∈ ins x zs := by
  unfold ins; split
  · assumption
  · simp
theorem mem_ins {x y : Int} {zs : List Int} (h : y ∈ zs) : y ∈ ins x zs := by
  unfold ins; split
  · exact h
  · simp [h]
theorem ins_old {x : Int} {zs : List Int} (h : x ∈ zs) : ins x zs = zs := if_pos h
theorem ins_new {x : Int} {zs : List Int} (h : ¬ x ∈ zs) : ins x zs = zs ++ [x] := if_neg h
theorem mem_once_old {y : Int} : ∀ {ys zs : List Int}, y ∈ zs → y ∈ onceL ys zs
  | [], _, h => h
  | _ :: ys, _, h => mem_once_old (ys := ys) (mem_ins h)
theorem mem_once {y : Int} : ∀ {ys zs : List Int}, y ∈ ys → y ∈ onceL ys zs
  | x :: ys, zs, h => by
    show y ∈ onceL ys (ins x zs)
    rcases List.mem_cons.1 h with rfl | h
    · exact mem_once_old (ins_mem _ _)
    · exact mem_once h
theorem once_ins (x : Int) (ys zs : List Int) : onceL (ins x ys) zs = ins x (onceL ys zs) := by
  by_cases h : x ∈ ys
  · rw [ins_old h, ins_old (mem_once h)]
  · rw [ins_new h, onceL_app]; rfl
theorem once_once : ∀ (xs ys zs : List Int), onceL (onceL xs ys) zs = onceL xs (onceL ys zs)
  | [], _, _ => rfl
  | x :: xs, ys, zs => by
    show onceL (onceL xs (ins x ys)) zs = onceL xs (ins x (onceL ys zs))
    rw [once_once xs, once_ins]
theorem once_idem (xs zs : List Int) : onceL (onceL xs []) zs = onceL xs zs := once_once xs [] zs
theorem once_len : ∀ (s zs : List Int), (onceL s zs).length ≤ zs.length + s.length
  | [], _ => Nat.le_refl _
  | x :: s, zs => by
    have h1 := once_len s (ins x zs)
    have h2 := ins_len x zs
    show (onceL s (ins x zs)).length ≤ _
    simp only [List.length_cons]
    omega
theorem once_take {ms zs : List Int} {k : Nat} (h : k < ms.length) : onceL (ms.take (k + 1)) zs = ins (ms.getD k 0) (onceL (ms.take k) zs) := by
  rw [List.take_add_one, onceL_app, List.getElem?_eq_getElem h, List.getD_eq_getElem?_getD, List.getElem?_eq_getElem h]
  rfl
def csF : Ft → List Int
  | .nil => []
  | .cons k n _ ks r => ((if k = 3 then [n] else []) ++ csF ks) ++ csF r
def cs1 (k n : Int) (f : Ft) : List Int := (if k = 3 then [n] else []) ++ csF f
def Tm.cons (T : Tm) : List Int := onceL (cs1 T.k T.n T.ks) []
theorem csF_app : ∀ f g : Ft, csF (f.app g) = csF f ++ csF g
  | .nil, _ => rfl
  | .cons k n ls ks r, g => by
    show ((if k = 3 then [n] else []) ++ csF ks) ++ csF (r.app g) = (((if k = 3 then [n] else []) ++ csF ks) ++ csF r) ++ csF g
    rw [csF_app r g, List.append_assoc _ (csF r)]
theorem csF_len : ∀ f : Ft, (csF f).length ≤ f.size
  | .nil => Nat.zero_le _
  | .cons k n ls ks r => by
    have h1 := csF_len r
    have h2 := csF_len ks
    show (((if k = 3 then [n] else []) ++ csF ks) ++ csF r).length ≤ ks.size + r.size + 1
    rw [List.length_append, List.length_append]
    split
    · simp; omega
    · simp; omega
theorem cs1_len (k n : Int) (f : Ft) : (cs1 k n f).length ≤ f.size + 1 := by
  have h := csF_len f
  unfold cs1
  rw [List.length_append]
  split
  · simp; omega
  · simp; omega
end Go.Proofs.YtnfhpombnbpdcaaGreat
namespace Go.Proofs.YtnfhpombnbpdcaaGreat
open Go.RowKit
def conB (p : Int) (cs : Fo) (len : Nat) : Bool := lvB p 0 cs && (decide (0 ≤ p) && (decide (p ≤ 5) && decide (len ≤ 8)))
theorem lvB_app9 (p m : Int) : ∀ f g : Fo, lvB p m (f.app g) = (lvB p m f && lvB p m g)
  | .nil, g => by simp [Fo.app, lvB]
  | .cons k n ks r, g => by
    show (rightB p m k n ks && lvB p m (r.app g)) = ((rightB p m k n ks && lvB p m r) && lvB p m g)
    rw [lvB_app9 p m r g, Bool.and_assoc]
def belowB (T : Tm) (at' : Int) : Bool := T.cons.all fun x => decide (x < at')
def declB (d : Dc) (at' : Int) : Bool := (conB d.p d.cs (d.cs.len / 2) && (tRightB d.p 0 0 d.ty.k d.ty.n d.ty.ls d.ty.ks && belowB d.ty at')) && (if d.has = true then tRightB d.p 0 0 d.va.k d.va.n d.va.ls d.va.ks && belowB d.va at' else decide (d.va = tZ))
theorem rightB_size {p m v : Int} {T : Tm} (h : tRightB p m v T.k T.n T.ls T.ks = true) : T.ks.size ≤ 1000 := by
  unfold tRightB at h
  simp only [Bool.and_eq_true, decide_eq_true_eq] at h
  omega
theorem tm_zero (T : Tm) : decide (Ft.cons T.k T.n T.ls T.ks .nil = Ft.cons 0 0 .nil .nil .nil) = decide (T = tZ) := by
  obtain ⟨k, n, ls, ks⟩ := T
  simp [tZ]
def dcV (d : Dc) (ca : Option Addr) (cl cc : Nat) (la : Option Addr) (lc : Nat) (ka : Option Addr) (kc : Nat) (la' : Option Addr) (lc' : Nat) (ka' : Option Addr) (kc' : Nat) : Array Value := #[.int .i64 d.p, .slice ca cl cc, .int .i64 d.ty.k, .int .i64 d.ty.n, .slice la d.ty.ls.len lc, .slice ka d.ty.ks.len kc, .bool d.has, .int .i64 d.va.k, .int .i64 d.va.n, .slice la' d.va.ls.len lc', .slice ka' d.va.ks.len kc']
def declsB : List Dc → Nat → Bool
  | [], _ => true
  | d :: r, k => declB d k && declsB r (k + 1)
theorem declsB_all : ∀ {E : List Dc} {k : Nat}, declsB E k = true ↔ ∀ (i : Nat) (h : i < E.length), declB E[i] ((k + i : Nat) : Int) = true
  | [], k => by simp [declsB]
  | d :: r, k => by
    have ih := declsB_all (E := r) (k := k + 1)
    simp only [declsB, Bool.and_eq_true, ih]
    constructor
    · rintro ⟨h1, h2⟩ i hi
      match i with
      | 0 => exact h1
      | i + 1 =>
        have := h2 i (by simp at hi; omega)
        rw [show k + (i + 1) = k + 1 + i by omega]
        exact this
    · intro h
      refine ⟨h 0 (by simp), fun i hi => ?_⟩
      have := h (i + 1) (by simp; omega)
      rw [show k + (i + 1) = k + 1 + i by omega] at this
      exact this
def envB (E : List Dc) : Bool := declsB E 0 && decide (E.length ≤ 20)
theorem envB_no {E : List Dc} {i : Nat} (hi : i < E.length) (h : declB E[i] (i : Int) = false) : envB E = false := by
  unfold envB
  cases hd : declsB E 0 with
  | false => rfl
  | true =>
    have := declsB_all.1 hd i hi
    rw [Nat.zero_add, h] at this
    cases this
end Go.Proofs.YtnfhpombnbpdcaaGreat
namespace Go.Proofs.YtnfhpombnbpdcaaGreat
open Go.RowKit
def okRd (E : List Dc) (T : Tm) (fuel : Int) : Bool := envB E && (T.sh && (decide (0 ≤ fuel) && decide (fuel ≤ 5000)))
def redH (H : Hr) : Hr := match H with
  | .no e => .no e
  | .ok A m => if A.sh = true then .ok A m else .no 2
def redA (E : List Dc) (T : Tm) (fuel : Int) : Hr := if okRd E T fuel = true then redH (hd (E.map Dc.dl) fuel.toNat T) else .no 1
def RdPost (B : Nat) (H : Hr) (w : World) (e : Ending) (w' : World) : Prop := Below w.heap.size w w' ∧ match H with
  | .no er => er ≠ 0 ∧ e = .returned (.tuple #[.agg #[.int .i64 0, .int .i64 0, .slice none 0 0, .slice none 0 0], .int .i64 0, .int .i64 er])
  | .ok A m => ∃ (la : Option Addr) (lc : Nat) (ka : Option Addr) (kc : Nat), e = .returned (.tuple #[.agg #[.int .i64 A.k, .int .i64 A.n, .slice la A.ls.len lc, .slice ka A.ks.len kc], .int .i64 m, .int .i64 0]) ∧ SlIn w' (fun b => (b < B ∨ w.heap.size ≤ b) ∧ b < w'.heap.size) A.ls la lc ∧ TlIn w' (fun b => (b < B ∨ w.heap.size ≤ b) ∧ b < w'.heap.size) A.ks ka kc
theorem Below.only9 {B M : Nat} {a b c : World} (h : Below B a b) (k : b.grownBy c (some M)) (hM : B ≤ M) (hB : B ≤ b.heap.size) : Below B a c :=
  ⟨k.os.trans h.os, k.tape.trans h.tape, k.output.trans h.output, Nat.le_trans h.size k.size, fun x hx => (Only.block k (by omega) (by omega)).trans (h.block x hx)⟩
theorem redA_no {E : List Dc} {T : Tm} {fuel : Int} (h : okRd E T fuel = false) : redA E T fuel = .no 1 := by
  unfold redA
  rw [if_neg (by rw [h]; decide)]
theorem redA_yes {E : List Dc} {T : Tm} {n : Nat} (h : okRd E T n = true) : redA E T n = redH (hd (E.map Dc.dl) n T) := by
  unfold redA
  rw [if_pos h, Int.toNat_natCast]
theorem RdPost.drew {B : Nat} {H : Hr} {w : World} {e : Ending} {w' : World} (h : RdPost B H w e w') : RdPost B H w e w'.drew := by
  obtain ⟨h1, h2⟩ := h
  refine ⟨h1.drew, ?_⟩
  cases H with
  | no er => exact h2
  | ok A m =>
    obtain ⟨la, lc, ka, kc, e, s, t⟩ := h2
    have hd : ∀ b : Nat, w'.drew.heap[b]? = w'.heap[b]? := fun _ => rfl
    have s2 : SlIn w'.drew (fun b => (b < B ∨ w.heap.size ≤ b) ∧ b < w'.heap.size) A.ls la lc := s.keep (fun b _ => hd b)
    have t2 : TlIn w'.drew (fun b => (b < B ∨ w.heap.size ≤ b) ∧ b < w'.heap.size) A.ks ka kc := t.turn (fun b _ => hd b) (fun _ h => h)
    exact ⟨la, lc, ka, kc, e, s2, t2⟩
def redV : Hr → Tm × Nat × Nat
  | .no er => (tZ, 0, er)
  | .ok A m => (A, m, 0)
def RvPost (V : Tm × Nat × Nat) (w : World) (e : Ending) (w' : World) : Prop :=
  ∃ (la : Option Addr) (lc : Nat) (ka : Option Addr) (kc : Nat), e = .returned (.tuple #[.agg #[.int .i64 V.1.k, .int .i64 V.1.n, .slice la V.1.ls.len lc, .slice ka V.1.ks.len kc], .int .i64 V.2.1, .int .i64 V.2.2]) ∧ SlIn w' (· < w'.heap.size) V.1.ls la lc ∧ TlIn w' (· < w'.heap.size) V.1.ks ka kc ∧ Below w.heap.size w w'
theorem RvPost.of {B : Nat} {H : Hr} {w : World} {e : Ending} {w' : World} (h : RdPost B H w e w') : RvPost (redV H) w e w' := by
  obtain ⟨h1, h2⟩ := h
  cases H with
  | no er => exact ⟨none, 0, none, 0, h2.2, SlIn.none _ _, TlIn.none _ _, h1⟩
  | ok A m =>
    obtain ⟨la, lc, ka, kc, e, s, t⟩ := h2
    exact ⟨la, lc, ka, kc, e, s.weak (fun b hb => hb.2), t.turn (fun _ _ => rfl) (fun b hb => hb.2), h1⟩
def RdC : Prop := ∀ (E : List Dc) (T : Tm) (fuel : Int) (ea la ka : Option Addr) (cap lc kc B : Nat) (w : World), DsIn w (· < B) E ea cap → SlIn w (· < B) T.ls la lc → TlIn w (· < B) T.ks ka kc → B ≤ w.heap.size →
  Calls Tryz.prog 19 #[.slice ea E.length cap, .agg #[.int .i64 T.k, .int .i64 T.n, .slice la T.ls.len lc, .slice ka T.ks.len kc], .int .i64 fuel] w (RvPost (redV (redA E T fuel)) w)
def RrC : Prop := ∀ (E : List Dc) (ea : Option Addr) (cap B : Nat) (w : World), DsIn w (· < B) E ea cap → B ≤ w.heap.size →
  Calls Tryz.prog 21 #[.slice ea E.length cap] w fun e w' => e = .returned (.bool (envB E)) ∧ Below w.heap.size w w'
end Go.Proofs.YtnfhpombnbpdcaaGreat
namespace Go.Proofs.YtnfhpombnbpdcaaGreat
open Go.RowKit
def FdO (FB MB : Nat) (v : Value) (b : Nat) : Prop := b = FB ∨ b = MB ∨ OwnB v b
def FdAt (W : World) (base FB MB : Nat) (x : Option Addr) (c : Nat) (zs : List Int) : Prop :=
  W.heap[FB]? = some (.cells #[.map (some MB), .slice x zs.length c] 119 (0, 0)) ∧ W.heap[MB]? = some (sTab zs) ∧ IOwn W base (.slice x zs.length c) zs ∧ FB < base ∧ MB < base ∧ MB ≠ FB
theorem FdAt.lt {W : World} {base FB MB : Nat} {x : Option Addr} {c : Nat} {zs : List Int} (h : FdAt W base FB MB x c zs) : ∀ b, FdO FB MB (.slice x zs.length c) b → b < W.heap.size := by
  obtain ⟨h1, h2, h3, _⟩ := h
  rintro b (rfl | rfl | hb)
  · exact lt_of_block h1
  · exact (Array.getElem?_eq_some_iff.1 h2).1
  · exact (h3.lt b hb).2
theorem FdAt.keep {W W' : World} {base FB MB : Nat} {x : Option Addr} {c : Nat} {zs : List Int} (h : FdAt W base FB MB x c zs) (hk : ∀ b, FdO FB MB (.slice x zs.length c) b → W'.heap[b]? = W.heap[b]?) : FdAt W' base FB MB x c zs := by
  obtain ⟨h1, h2, h3, h4⟩ := h
  exact ⟨(hk _ (.inl rfl)).trans h1, (hk _ (.inr (.inl rfl))).trans h2, h3.keep (fun g hg => hk g (.inr (.inr hg))), h4⟩
theorem FdAt.alloc {W : World} {base FB MB : Nat} {x : Option Addr} {c : Nat} {zs : List Int} (h : FdAt W base FB MB x c zs) (o : Obj) : FdAt (W.alloc o) base FB MB x c zs := h.keep (fun b hb => heap_old W o (h.lt b hb))
theorem FdAt.more {W : World} {base FB MB : Nat} {x : Option Addr} {c : Nat} {zs : List Int} (h : FdAt W base FB MB x c zs) {z : Int} (hz : z ∉ zs) (hl : zs.length ≤ 900000) (hb : base ≤ W.heap.size) :
    ∃ (V : World) (g' cap' : Nat) (w3 : World), Hid ((Instr.mapUpdate 117 (.map (some MB)) (.int .i64 z) (.agg #[])).run Tryz.prog W = .ok () V) ∧ V.cell? ⟨FB, 1, none⟩ = some (.slice x zs.length c) ∧
      Hid ((Builtin.append_ #[98, 98] 98 #[.slice x zs.length c, .slice (some ⟨V.heap.size, 0, none⟩) 1 1]).run Tryz.prog (V.alloc (.cells #[.int .i64 z] 3)) = .ok (.slice (some ⟨g', 0, none⟩) (zs.length + 1) cap') w3) ∧
      w3.cell? ⟨FB, 1, none⟩ = some (.slice x zs.length c) ∧ (∀ o, w3.frozen? ⟨FB, o, none⟩ = false) ∧
      Hid (FdAt (w3.setCell ⟨FB, 1, none⟩ (.slice (some ⟨g', 0, none⟩) (zs.length + 1) cap')) base FB MB (some ⟨g', 0, none⟩) cap' (zs ++ [z]) ∧ Turn (FdO FB MB (.slice x zs.length c)) W (FdO FB MB (.slice (some ⟨g', 0, none⟩) (zs.length + 1) cap')) (w3.setCell ⟨FB, 1, none⟩ (.slice (some ⟨g', 0, none⟩) (zs.length + 1) cap'))) := by
  obtain ⟨h1, h2, h3, h4, h5, h6⟩ := h
  have l1 := lt_of_block h1
  have hown := h3.lt
  have hup := run_updI W MB zs h2 z hz
  have p0 := putM_at (o' := sTab (zs ++ [z])) h2
  have pne : ∀ b, b ≠ MB → (putM W MB (sTab (zs ++ [z]))).heap[b]? = W.heap[b]? := fun b hn => putM_ne _ _ hn
  have zp : (putM W MB (sTab (zs ++ [z]))).heap.size = W.heap.size := by simp
  have op : (putM W MB (sTab (zs ++ [z]))).os = W.os ∧ (putM W MB (sTab (zs ++ [z]))).tape = W.tape ∧ (putM W MB (sTab (zs ++ [z]))).output = W.output := ⟨rfl, rfl, rfl⟩
  generalize putM W MB (sTab (zs ++ [z])) = V at *
  have p4 : IOwn V base (.slice x zs.length c) zs := h3.keep (fun g hg => pne g (by have := (hown g hg).1; omega))
  obtain ⟨g', cap', w3, hrun, i3, t3⟩ := p4.push 98 z (by omega) (by omega)
  have hno : ∀ b, b < base → ¬ OwnB (.slice x zs.length c) b := fun b hb h => by have := (hown b h).1; omega
  have k0 := (t3.2.2.2.2.1 MB (by have := (Array.getElem?_eq_some_iff.1 h2).1; omega) (hno _ h5)).trans p0
  have k1 := (t3.2.2.2.2.1 FB (by omega) (hno _ h4)).trans ((pne _ (Ne.symm h6)).trans h1)
  have z3 := t3.2.2.2.1
  have hg' := i3.lt g' rfl
  refine ⟨V, g', cap', w3, Lib.hid hup, cell_at ((pne _ (Ne.symm h6)).trans h1) 1, Lib.hid hrun, cell_at k1 1, free_of k1, Lib.hid ⟨?_, ?_⟩⟩
  · have el : (zs ++ [z]).length = zs.length + 1 := by simp
    unfold FdAt
    rw [el]
    exact ⟨heap_setCell_same w3 _ 1 _ _ _ k1, (Below.heap_setCell _ _ _ _ (show MB ≠ FB from h6)).trans k0, i3.keep (fun g hg => Below.heap_setCell _ _ _ _ (show g ≠ FB by have := (i3.lt g hg).1; omega)), h4, h5, h6⟩
  · refine ⟨t3.1.trans op.1, t3.2.1.trans op.2.1, t3.2.2.1.trans op.2.2, by simp; omega, fun b hb hn => ?_, fun b hb => ?_⟩
    · have n1 : b ≠ MB := fun h => hn (.inr (.inl h))
      have n2 : b ≠ FB := fun h => hn (.inl h)
      have n3 : ¬ OwnB (.slice x zs.length c) b := fun h => hn (.inr (.inr h))
      exact (Below.heap_setCell _ _ _ _ n2).trans ((t3.2.2.2.2.1 b (by omega) n3).trans (pne b n1))
    · rcases hb with hb | hb | hb
      · exact .inl (.inl hb)
      · exact .inl (.inr (.inl hb))
      · rcases t3.2.2.2.2.2 b hb with h | h
        · exact .inl (.inr (.inr h))
        · exact .inr (by omega)
def FdR (W : World) (base FB MB : Nat) (O : Nat → Prop) (ys : List Int) (wr : World) : Prop := ∃ x c, FdAt wr base FB MB x c ys ∧ Turn O W (FdO FB MB (.slice x ys.length c)) wr
def AdPost (base FB MB : Nat) (x : Option Addr) (c : Nat) (zs ns : List Int) (W : World) (e : Ending) (w' : World) : Prop :=
  e = .returned (.tuple #[]) ∧ FdR W base FB MB (FdO FB MB (.slice x zs.length c)) (onceL ns zs) w'
set_option maxRecDepth 100000 in
set_option maxHeartbeats 4000000 in
theorem qAdd_any (ns : List Int) (a : Option Addr) (cap base FB MB : Nat) (x : Option Addr) (c : Nat) (zs : List Int) (W : World) (hat : FdAt W base FB MB x c zs) (hin : IntsIn W (fun b => b < W.heap.size ∧ ¬ FdO FB MB (.slice x zs.length c) b) ns a cap) (hb : base ≤ W.heap.size) (hl : zs.length + ns.length ≤ 900000) :
    Calls Tryz.prog 83 #[.pointer (some ⟨FB, 0, none⟩), .slice a ns.length cap] W (AdPost base FB MB x c zs ns W) := by
  have hlen := hin.len
  have HIN := Lib.hid hin
  have HS : Hid (FdR W base FB MB (FdO FB MB (.slice x zs.length c)) (onceL (ns.take 0) zs) W) := Lib.hid ⟨x, c, hat, Turn.refl _ _⟩
  clear hat hin
  go_enter Tryz.func83, Tryz.ntmps83
  go_wp2_with fail
  go_loopw [10] (fun iv wr => ∃ (j : Nat), iv = .int .i64 j ∧ j ≤ ns.length ∧ Hid (FdR W base FB MB (FdO FB MB (.slice x zs.length c)) (onceL (ns.take j) zs) wr)) (fun iv _ => ns.length - (intOf iv).toNat)
  case atStart => exact ⟨0, rfl, Nat.zero_le _, HS⟩
  case round =>
    obtain ⟨j, rfl, hj, hR⟩ := hrel
    by_cases hlt : j < ns.length
    · have hjl : (j : Int) < (ns.length : Int) := by omega
      obtain ⟨x1, c1, hA, hT⟩ := hR.out
      obtain ⟨b, o, rfl, ⟨hbl, hbn⟩, hcs⟩ := HIN.out.some (by omega)
      have e0 := (World.cell?_of_block (w := W) (a := ⟨b, o + j, none⟩) (hT.2.2.2.2.1 b hbl hbn)).trans (hcs j hlt)
      have hzl := hT.2.2.2.1
      have hll := once_len (ns.take j) zs
      have htl : (ns.take j).length = j := by rw [List.length_take]; omega
      have hon := once_take (zs := zs) hlt
      generalize ns.getD j 0 = z at e0 hon
      generalize onceL (ns.take j) zs = ys at hA hT hll hon
      have f0 := cell_at hA.1 0
      simp at f0
      have hlk := run_lookI wr MB ys hA.2.1 z
      have hAA := hA.alloc (.cells #[] 138)
      have f1 := cell_at hAA.1 0
      have f2 := cell_at hAA.1 1
      simp at f1 f2
      have hTA : Turn (FdO FB MB (.slice x zs.length c)) W (FdO FB MB (.slice x1 ys.length c1)) (wr.alloc (.cells #[] 138)) := hT.trans (Turn.alloc _ _ _)
      by_cases hz : z ∈ ys
      · have dz : decide (z ∈ ys) = true := decide_eq_true hz
        rw [dz] at hlk
        have HN : Hid (FdR W base FB MB (FdO FB MB (.slice x zs.length c)) (onceL (ns.take (j + 1)) zs) (wr.alloc (.cells #[] 138))) := Lib.hid (by rw [hon, ins_old hz]; exact ⟨x1, c1, hAA, hTA⟩)
        clear hA hAA hT hTA hon hll htl hcs hbn dz hz hR hzl
        go_wp2_with fail
        go_roundw
        case rel => exact ⟨j + 1, by go_num, by omega, HN⟩
        case measure => simp [intOf]; omega
      · have dz : decide (z ∈ ys) = false := decide_eq_false hz
        rw [dz] at hlk
        obtain ⟨V, g', cap', w3, HUP, f3, HRUN, f4, f5, HF⟩ := hAA.more hz (by omega) (by simp; omega)
        have hup := HUP.out
        have HN : Hid (FdR W base FB MB (FdO FB MB (.slice x zs.length c)) (onceL (ns.take (j + 1)) zs) (w3.setCell ⟨FB, 1, none⟩ (.slice (some ⟨g', 0, none⟩) (ys.length + 1) cap'))) := Lib.hid (by
          rw [hon, ins_new hz]
          refine ⟨some ⟨g', 0, none⟩, cap', HF.out.1, ?_⟩
          have el : (ys ++ [z]).length = ys.length + 1 := by simp
          rw [el]
          exact hTA.trans HF.out.2)
        clear hA hAA hT hTA hon hll htl hcs hbn dz hz hR hzl HUP HF
        go_wp2_with (at_builtin; refine wpList_append_run (by rfl) _ _ _ (by rfl) (by rfl) (by rfl) HRUN.out ?_)
        go_roundw
        case rel => exact ⟨j + 1, by go_num, by omega, HN⟩
        case measure => simp [intOf]; omega
    · have hjl : ¬ (j : Int) < (ns.length : Int) := by omega
      have dj : decide ((j : Int) < (ns.length : Int)) = false := by simpa using hjl
      have HE : Hid (FdR W base FB MB (FdO FB MB (.slice x zs.length c)) (onceL ns zs) wr) := Lib.hid (by have := hR.out; rwa [List.take_of_length_le (by omega)] at this)
      clear hR
      go_wp2_with fail
      go_end0
      exact ⟨rfl, HE.out⟩
end Go.Proofs.YtnfhpombnbpdcaaGreat
namespace Go.Proofs.YtnfhpombnbpdcaaGreat
open Go.RowKit Go.Shelf
attribute [local go_sem] Oper.semAt_some
def RnPost (zs : List Int) (w : World) (e : Ending) (w' : World) : Prop := ∃ x c, e = .returned (.slice x zs.length c) ∧ IntsIn w' (· < w'.heap.size) zs x c ∧ Below w.heap.size w w'
def conL (l : List Tm) : List Int := l.flatMap fun x => if x.k = 3 then [x.n] else []
theorem conL_app (a b : List Tm) : conL (a ++ b) = conL a ++ conL b := by simp [conL]
theorem conL_prF : ∀ f : Ft, conL (prF f) = csF f
  | .nil => rfl
  | .cons k n ls ks r => by
    show (if k = 3 then [n] else []) ++ conL (prF ks ++ prF r) = ((if k = 3 then [n] else []) ++ csF ks) ++ csF r
    rw [conL_app, conL_prF ks, conL_prF r, List.append_assoc]
theorem conL_prT (T : Tm) : conL (prT T) = cs1 T.k T.n T.ks := by
  show (if T.k = 3 then [T.n] else []) ++ conL (prF T.ks) = _
  rw [conL_prF]; rfl
theorem con_no {pre : List Tm} {x : Tm} (h : ¬ x.k = 3) : conL (pre ++ [x]) = conL pre := by rw [conL_app]; simp [conL, h]
theorem con_yes {pre : List Tm} {x : Tm} (h : x.k = 3) : onceL (conL (pre ++ [x])) [] = onceL [x.n] (onceL (conL pre) []) := by
  rw [conL_app, onceL_app]
  simp [conL, h]
theorem con_len {T : Tm} {pre : List Tm} {x : Tm} (h : pre ++ [x] <+: prT T) : (onceL (conL pre) []).length ≤ T.ks.size + 1 := by
  obtain ⟨t, ht⟩ := h
  have h1 := conL_prT T
  rw [← ht, conL_app, conL_app] at h1
  have h2 := cs1_len T.k T.n T.ks
  rw [← h1] at h2
  simp only [List.length_append] at h2
  have h3 := once_len (conL pre) []
  simp at h3
  omega
def CnI (w : World) (base FB MB : Nat) (O : Nat → Prop) (pre : List Tm) (W : World) : Prop :=
  ∃ x c, O = FdO FB MB (.slice x (onceL (conL pre) []).length c) ∧ FdAt W base FB MB x c (onceL (conL pre) []) ∧ Below w.heap.size w W
theorem CnI.inv {w : World} {base FB MB Bv : Nat} (hB : w.heap.size ≤ Bv) : InvV Bv (CnI w base FB MB) := by
  refine ⟨fun O s A A' row hs hg hr => ?_, fun O s A hs b hb => ?_⟩
  · obtain ⟨x, c, rfl, h1, h2⟩ := hs
    exact ⟨x, c, rfl, h1.keep (fun b hb => hg.block b (h1.lt b hb) (fun e => (hr b e.symm).2 hb)), h2.grown hg h2.size (fun r e => Nat.le_trans hB (hr r e).1)⟩
  · obtain ⟨x, c, rfl, h1, h2⟩ := hs
    exact h1.lt b hb
theorem CnI.step {w Wb : World} {base FB MB : Nat} {O : Nat → Prop} {pre : List Tm} {x : Tm} {T : Tm} (h : CnI w base FB MB O pre Wb) (hbase : base ≤ w.heap.size + 3) (hw : w.heap.size + 3 ≤ Wb.heap.size) (hFB : w.heap.size ≤ FB) (hMB : w.heap.size ≤ MB) (hpre : pre ++ [x] <+: prT T) (hT : T.ks.size ≤ 1000) (hx : x.k = 3) :
    ∃ P : Ending → World → Prop, Calls Tryz.prog 83 #[.pointer (some ⟨FB, 0, none⟩), .slice (some ⟨Wb.heap.size, 0, none⟩) 1 1] (Wb.alloc (.cells #[.int .i64 x.n] 3)) P ∧ ∀ e w3, P e w3 → e = .returned (.tuple #[]) ∧ ∃ O', CnI w base FB MB O' (pre ++ [x]) w3 ∧ Turn O Wb O' w3 := by
  obtain ⟨y, c, rfl, hA, hW⟩ := h
  have hlen := con_len hpre
  have hA2 := hA.alloc (.cells #[.int .i64 x.n] 3)
  have hin : IntsIn (Wb.alloc (.cells #[.int .i64 x.n] 3)) (fun b => b < (Wb.alloc (.cells #[.int .i64 x.n] 3)).heap.size ∧ ¬ FdO FB MB (.slice y (onceL (conL pre) []).length c) b) [x.n] (some ⟨Wb.heap.size, 0, none⟩) 1 := by
    refine IntsIn.mk (by simp) (by omega) ⟨by simp, fun hO => by have := hA.lt _ hO; omega⟩ (fun i hi => ?_)
    obtain rfl : i = 0 := by simp at hi; omega
    exact cell_at (heap_new Wb _) 0
  have hC := qAdd_any [x.n] (some ⟨Wb.heap.size, 0, none⟩) 1 base FB MB y c (onceL (conL pre) []) _ hA2 hin (by simp; omega) (by simp; omega)
  refine ⟨_, hC, ?_⟩
  rintro e w3 ⟨rfl, x3, c3, hA3, hT3⟩
  rw [← con_yes hx] at hA3 hT3
  have hT := (Turn.alloc (FdO FB MB (.slice y (onceL (conL pre) []).length c)) Wb (.cells #[.int .i64 x.n] 3)).trans hT3
  refine ⟨rfl, _, ⟨x3, c3, rfl, hA3, ?_⟩, hT⟩
  refine hW.trans (hT.low hW.size (fun b hb => ?_))
  rcases hb with rfl | rfl | hb
  · exact hFB
  · exact hMB
  · have := (hA.2.2.1.lt b hb).1
    have h4 := hA.2.2.2.1
    omega
theorem CnI.skip {w Wb : World} {base FB MB : Nat} {O : Nat → Prop} {pre : List Tm} {x : Tm} (h : CnI w base FB MB O pre Wb) (hx : ¬ x.k = 3) : CnI w base FB MB O (pre ++ [x]) Wb := by
  unfold CnI
  rw [con_no hx]
  exact h
set_option maxRecDepth 100000 in
set_option maxHeartbeats 4000000 in
theorem qConsts_in (n' : Nat) (T : Tm) (la ka : Option Addr) (lc kc B : Nat) (w : World) (hT : T.ks.size ≤ 1000) (hls : SlIn w (· < B) T.ls la lc) (hsl : TlIn w (· < B) T.ks ka kc) (hB : B ≤ w.heap.size) :
    CallsIn Fence.wide n' Tryz.prog 64 #[.agg #[.int .i64 T.k, .int .i64 T.n, .slice la T.ls.len lc, .slice ka T.ks.len kc]] w (RnPost T.cons w) := by
  obtain ⟨W0, hW0⟩ : ∃ W0, ((w.alloc (.cells #[.int .i64 T.k, .int .i64 T.n, .slice la T.ls.len lc, .slice ka T.ks.len kc] 30)).alloc (.map #[] 0)).alloc (.cells #[.map (some (w.heap.size + 1)), .slice none 0 0] 119) = W0 := ⟨_, rfl⟩
  have hb0 : Below w.heap.size w W0 := by rw [← hW0]; exact (((Below.refl _ _).alloc (Nat.le_refl _) _).alloc (by simp) _).alloc (by simp; omega) _
  have hz0 : W0.heap.size = w.heap.size + 1 + 1 + 1 := by rw [← hW0]; simp
  have hF0 : FdAt W0 (w.heap.size + 3) (w.heap.size + 1 + 1) (w.heap.size + 1) none 0 [] := by
    rw [← hW0]
    refine ⟨?_, ?_, IOwn.nil _ _, by omega, by omega, by omega⟩
    · have := heap_new ((w.alloc (.cells #[.int .i64 T.k, .int .i64 T.n, .slice la T.ls.len lc, .slice ka T.ks.len kc] 30)).alloc (.map #[] 0)) (.cells #[.map (some (w.heap.size + 1)), .slice none 0 0] 119)
      simpa using this
    · exact (heap_old _ _ (by simp)).trans (heap_second _ _ _)
  obtain ⟨W1, hW1⟩ : ∃ W1, W0.alloc (.cells #[.int .i64 T.k, .int .i64 T.n, .slice la T.ls.len lc, .slice ka T.ks.len kc] 30) = W1 := ⟨_, rfl⟩
  have hst : W1.heap[W0.heap.size]? = some (.cells #[.int .i64 T.k, .int .i64 T.n, .slice la T.ls.len lc, .slice ka T.ks.len kc] 30 (0, 0)) := by rw [← hW1]; exact heap_new W0 _
  have hb1 : Below w.heap.size w W1 := by rw [← hW1]; exact hb0.alloc hb0.size _
  have hz1 : W1.heap.size = w.heap.size + 1 + 1 + 1 + 1 := by rw [← hW1]; simp [hz0]
  have hI1 : CnI w (w.heap.size + 3) (w.heap.size + 1 + 1) (w.heap.size + 1) (FdO (w.heap.size + 1 + 1) (w.heap.size + 1) (.slice none 0 0)) [] W1 := by
    refine ⟨none, 0, rfl, ?_, hb1⟩
    rw [← hW1]
    exact hF0.alloc _
  rw [hz0] at hst
  have HI1 := Lib.hid hI1
  have HST : Hid (∀ o1 o2, ((W1.alloc o1).alloc o2).heap[w.heap.size + 1 + 1 + 1]? = some (.cells #[.int .i64 T.k, .int .i64 T.n, .slice la T.ls.len lc, .slice ka T.ks.len kc] 30 (0, 0)) ∧ SlIn ((W1.alloc o1).alloc o2) (· < B) T.ls la lc ∧ TlIn ((W1.alloc o1).alloc o2) (· < B) T.ks ka kc) := Lib.hid (fun o1 o2 => by
    have hb2 : Below w.heap.size w ((W1.alloc o1).alloc o2) := (hb1.alloc hb1.size _).alloc (by simp; omega) _
    exact ⟨(heap_old _ _ (by simp; omega)).trans ((heap_old _ _ (by omega)).trans hst), hls.below (hb2.mono hB), hsl.below (hb2.mono hB)⟩)
  have HKS : Hid (T.ks.size ≤ 1000) := Lib.hid hT
  have HW0 := Lib.hid hW0
  have HW1 := Lib.hid hW1
  have HZ1 := Lib.hid hz1
  have HM : Hid (T.cons = onceL (conL (prT T)) []) := Lib.hid (by rw [conL_prT]; rfl)
  rw [HM.out]
  clear hT hls hsl hb0 hF0 hst hb1 hI1 hW0 hW1 hz0 hz1 HM
  have hdd : ∀ k : Nat, (Fence.wide.depth.isSome = true → 1 ≤ k) := fun k h => by cases h
  have hmm := @run_makeMap Tryz.prog
  refine callsIn_of_wp_marks Tryz.func64 rfl trivial ?_ rfl
  simp only [Tryz.ntmps64, List.size_toArray, List.length_cons, List.length_nil, Nat.reduceAdd, Nat.reduceSub, Array.replicate_succ, Array.replicate_zero, List.push_toArray, List.append_toArray, List.nil_append, List.cons_append]
  gi_wp2_with (refine ⟨trivial, hdd _, ?_⟩; gi_at_call 82; refine (parts_in _ T.k T.n la ka T.ls.len lc T.ks.len kc _).mono ?_; rintro e w' ⟨rfl, rfl⟩)
  clear hmm
  rw [HW0.out, HW1.out]
  have hB0 : B ≤ W1.heap.size := by have := HZ1.out; omega
  refine loop_tellsV (TpV.keepV B) (gf := 98) (lb := #[.pointer (some ⟨w.heap.size + 1 + 1 + 1, 0, none⟩)]) rfl (enters_of Tryz.func98 (by kernel_rfl) rfl) rfl (xs := prT T) (D := PtD (w.heap.size + 1 + 1 + 1) B) (O := FdO (w.heap.size + 1 + 1) (w.heap.size + 1) (.slice none 0 0)) hB0 ?hD
    (fun o1 o2 => parts1_tells T la ka lc kc (w.heap.size + 1 + 1 + 1) B _ (HST.out o1 o2).1 (HST.out o1 o2).2.1 (HST.out o1 o2).2.2 (by omega) HKS.out) (CnI w (w.heap.size + 3) (w.heap.size + 1 + 1) (w.heap.size + 1)) (CnI.inv (by have := HZ1.out; omega)) HI1.out ?round ?done
  case hD =>
    rintro b hb h
    rcases hb with hb | hb
    · rcases h with rfl | rfl | h
      · omega
      · omega
      · cases h
    · rcases h with rfl | rfl | h
      · omega
      · omega
      · cases h
  case round =>
    rintro l2 m2 P pre ⟨xk, xn, xl, xf⟩ v X hI hv hpre
    have hdd2 : ∀ k : Nat, ((Fence.wide.inRound l2).depth.isSome = true → 1 ≤ k) := fun k h => by cases h
    obtain ⟨a9, c9, b9, d9, rfl, hs9⟩ := id hv
    have HXI := Lib.hid hI
    clear hI
    gi_wp2
    refine ⟨_, rfl, ?_⟩
    rintro Wb hI2 hvb hzb hob
    obtain ⟨o0, o1, o2, o3⟩ := cells4 hob
    have hWb : w.heap.size + 3 ≤ Wb.heap.size := by
      obtain ⟨x, c, _, hA, _⟩ := hI2
      have := hA.lt _ (.inl rfl)
      omega
    by_cases hk : xk = 3
    · have dk : (xk == 3) = true := beq_iff_eq.2 hk
      obtain ⟨Q, hq1, hq2⟩ := hI2.step (Nat.le_refl _) hWb (by omega) (by omega) hpre HKS.out hk
      have HQ1 := Lib.hid hq1
      have HQ2 := Lib.hid hq2
      clear hI2 hv hvb hs9 hob hzb hpre hk hq1 hq2
      gi_wp2_with (refine ⟨trivial, hdd2 _, ?_⟩; gi_at_call 83; refine (CallsIn.inRound l2 (callsIn_wide.2 HQ1.out)).mono ?_; intro e w3 hq; obtain ⟨rfl, hq3⟩ := HQ2.out e w3 hq; have HQ3 := Lib.hid hq3; clear hq hq3)
      exact HQ3.out
    · have dk : (xk == 3) = false := beq_eq_false_iff_ne.2 hk
      have HN := Lib.hid (hI2.skip (x := ⟨xk, xn, xl, xf⟩) hk)
      clear hI2 hv hvb hs9 hob hzb hpre hk
      gi_wp2
      exact ⟨P, HN.out, Turn.refl _ _⟩
  case done =>
    rintro d O' X hd hI hk hnd ht
    have hI2 := (CnI.inv (w := w) (base := w.heap.size + 3) (FB := w.heap.size + 1 + 1) (MB := w.heap.size + 1) (Bv := w.heap.size) (Nat.le_refl _)).put (.deferred none) hI (by have := HZ1.out; omega) hnd
    obtain ⟨x, c, hO, h1, h2⟩ := hI
    obtain ⟨x', c', hO', h1', h2'⟩ := hI2
    have c3 := cell_at h1.1 1
    simp at c3
    have hne : w.heap.size + 1 + 1 ≠ d := fun e => by rw [← e, h1.1] at hk; cases hk
    have h33 := (World.putObj_heap_other (w := X) (r := d) (o := .deferred none) hne).trans h1.1
    have h34 := h1'.1
    rw [h33] at h34
    have hxx : x = x' ∧ c = c' := by injection h34 with h; injection h with h; injection h with h; injection h with _ h; injection h with h; injection h with e1 _ e3; exact ⟨e1, e3⟩
    obtain ⟨rfl, rfl⟩ := hxx
    have HF : Hid (RnPost (onceL (conL (prT T)) []) w (.returned (.slice x (onceL (conL (prT T)) []).length c)) (X.putObj d (.deferred none))) := Lib.hid ⟨x, c, rfl, h1'.2.2.1.ints, h2'⟩
    clear h1 h2 h1' h2' h33 h34 hO hO'
    gi_wp2
    refine ⟨by simp, .inl ⟨_, _, rfl, run_takeDeferred hk, ?_⟩⟩
    refine ⟨_, results_tmp rfl _ _ _, ?_⟩
    exact HF.out
theorem qConsts_any (T : Tm) (la ka : Option Addr) (lc kc B : Nat) (w : World) (hT : T.ks.size ≤ 1000) (hls : SlIn w (· < B) T.ls la lc) (hsl : TlIn w (· < B) T.ks ka kc) (hB : B ≤ w.heap.size) :
    Calls Tryz.prog 64 #[.agg #[.int .i64 T.k, .int .i64 T.n, .slice la T.ls.len lc, .slice ka T.ks.len kc]] w (RnPost T.cons w) := (callsIn_wide (n := 0)).1 (qConsts_in 0 T la ka lc kc B w hT hls hsl hB)
end Go.Proofs.YtnfhpombnbpdcaaGreat
namespace Go.Proofs.YtnfhpombnbpdcaaGreat
open Go.RowKit
set_option maxRecDepth 100000 in
set_option maxHeartbeats 4000000 in
theorem uFits_any (p k n k' n' : Int) (ks ks' : Fo) (a a' : Option Addr) (c c' B : Nat) (w : World) (h1 : SlIn w (· < B) ks a c) (h2 : SlIn w (· < B) ks' a' c') (hB : B ≤ w.heap.size) :
    Calls Tryz.prog 63 #[.agg #[.int .i64 k, .int .i64 n, .slice a ks.len c, .int .i64 k', .int .i64 n', .slice a' ks'.len c'], .int .i64 p] w fun e w' => e = .returned (.bool (rightB p 0 k n ks && rightB p 0 k' n' ks')) ∧ Below w.heap.size w w' := by
  obtain ⟨W, hW⟩ : ∃ W, w.alloc (.cells #[.int .i64 k, .int .i64 n, .slice a ks.len c, .int .i64 k', .int .i64 n', .slice a' ks'.len c'] 47) = W := ⟨_, rfl⟩
  have hb : Below w.heap.size w W := by rw [← hW]; exact (Below.refl _ _).alloc (Nat.le_refl _) _
  have hx : W.heap[w.heap.size]? = some (.cells #[.int .i64 k, .int .i64 n, .slice a ks.len c, .int .i64 k', .int .i64 n', .slice a' ks'.len c'] 47 (0, 0)) := by rw [← hW]; exact heap_new _ _
  have C1 := Lib.hid (Right_any p 0 k n ks a c B W (h1.below (hb.mono hB)) (Nat.le_trans hB hb.size))
  have C2 : Hid (∀ V, Below W.heap.size W V → Calls Tryz.prog 81 #[.agg #[.int .i64 k', .int .i64 n', .slice a' ks'.len c'], .int .i64 p, .int .i64 0] V fun e w' => e = .returned (.bool (rightB p 0 k' n' ks')) ∧ Below V.heap.size V w') := Lib.hid (fun V hV => Right_any p 0 k' n' ks' a' c' B V (h2.below ((Below.step hb hV (Nat.le_refl _)).mono hB)) (Nat.le_trans hB (Nat.le_trans hb.size hV.size)))
  have HX := Lib.hid hx
  have HB := Lib.hid hb
  have HW := Lib.hid hW
  generalize rightB p 0 k n ks = v1 at C1 ⊢
  generalize rightB p 0 k' n' ks' = v2 at C2 ⊢
  have x0 := cell_at hx 0
  have x1 := cell_at hx 1
  have x2 := cell_at hx 2
  clear hW hb hx h1 h2
  go_enter Tryz.func63, Tryz.ntmps63
  go_upto_region 1 with fail
  rw [HW.out]
  clear HW
  go_wp2_with fail
  refine C1.out.mono ?_
  rintro e w1 ⟨rfl, hb1⟩
  have hx1 := (hb1.block _ (lt_of_block HX.out)).trans HX.out
  have x3 := cell_at hx1 3
  have x4 := cell_at hx1 4
  have x5 := cell_at hx1 5
  have HB1 := Lib.hid hb1
  have HBW := Lib.hid (Below.step HB.out hb1 (Nat.le_refl _))
  clear hb1 hx1 x0 x1 x2
  cases v1 with
  | false =>
    go_wp2_with fail
    go_ret
    exact ⟨rfl, HBW.out⟩
  | true =>
    go_wp2_with fail
    refine (C2.out _ HB1.out).mono ?_
    rintro e w2 ⟨rfl, hb2⟩
    have HB2 := Lib.hid (Below.step HBW.out hb2 (Nat.le_refl _))
    clear hb2
    go_wp2_with fail
    go_ret
    exact ⟨by rw [Bool.true_and]; rfl, HB2.out⟩
set_option maxRecDepth 100000 in
set_option maxHeartbeats 4000000 in
theorem uRight_any (p : Int) (cs : Fo) (ca : Option Addr) (cl cc B : Nat) (w : World) (hc : ConIn w (· < B) cs ca cl cc) (hB : B ≤ w.heap.size) :
    Calls Tryz.prog 40 #[.slice ca cl cc, .int .i64 p] w fun e w' => e = .returned (.bool (conB p cs cl)) ∧ Below w.heap.size w w' := by
  obtain ⟨hl, hcc, hm, _, hget⟩ := hc
  have hcl : cl ≤ 9223372036854775807 := by unfold maxLen at hm; omega
  have HG := Lib.hid hget
  have HL := Lib.hid hl
  clear hget hl hm hcc
  by_cases h1 : p < 0
  · have HV : Hid (conB p cs cl = false) := Lib.hid (by unfold conB; rw [decide_eq_false (p := 0 ≤ p) (by omega)]; simp)
    go_enter Tryz.func40, Tryz.ntmps40
    go_wp2_with fail
    go_ret
    exact ⟨by rw [HV.out]; rfl, Below.refl _ _⟩
  by_cases h2 : 5 < p
  · have HV : Hid (conB p cs cl = false) := Lib.hid (by unfold conB; rw [decide_eq_false (p := p ≤ 5) (by omega)]; simp)
    go_enter Tryz.func40, Tryz.ntmps40
    go_wp2_with fail
    go_ret
    exact ⟨by rw [HV.out]; rfl, Below.refl _ _⟩
  by_cases h3 : 8 < cl
  · have HV : Hid (conB p cs cl = false) := Lib.hid (by unfold conB; rw [decide_eq_false (p := cl ≤ 8) (by omega)]; simp)
    have d3 : (8 : Int) < (cl : Int) := by omega
    go_enter Tryz.func40, Tryz.ntmps40
    go_wp2_with fail
    go_ret
    exact ⟨by rw [HV.out]; rfl, Below.refl _ _⟩
  have HV : Hid (conB p cs cl = lvB p 0 cs) := Lib.hid (by unfold conB; rw [decide_eq_true (p := 0 ≤ p) (by omega), decide_eq_true (p := p ≤ 5) (by omega), decide_eq_true (p := cl ≤ 8) (by omega)]; simp)
  have d3 : ¬ ((8 : Int) < (cl : Int)) := by omega
  go_enter Tryz.func40, Tryz.ntmps40
  go_wp2_with fail
  go_loopw [20] (fun iv wr => ∃ (j : Nat) (G rest : Fo), iv = .int .i64 j ∧ Hid (cs = G.app rest) ∧ Hid (G.len = 2 * j) ∧ Hid (lvB p 0 G = true) ∧ Hid (Below w.heap.size w wr)) (fun iv _ => cl - (intOf iv).toNat)
  case atStart => exact ⟨0, .nil, cs, rfl, Lib.hid rfl, Lib.hid rfl, Lib.hid rfl, Lib.hid (Below.refl _ _)⟩
  case round =>
    obtain ⟨j, G, rest, rfl, hf, hj, hok, hb⟩ := hrel
    match rest with
    | .nil =>
      have hjc : j = cl := by have h1 := HL.out; rw [hf.out, foNil3, hj.out] at h1; omega
      subst hjc
      have dj : decide ((j : Int) < (j : Int)) = false := by simp
      have HV2 : Hid (conB p cs j = true) := Lib.hid (by rw [HV.out, hf.out, foNil3]; exact hok.out)
      clear hf hj hok
      go_wp2_with fail
      go_ret
      exact ⟨by rw [HV2.out]; rfl, hb.out⟩
    | .cons k n ks .nil =>
      exfalso
      have h1 := HL.out
      rw [hf.out, Fo.app_len, hj.out] at h1
      simp only [Fo.len] at h1
      omega
    | .cons k n ks (.cons k' n' ks' r') =>
      have hjl : j < cl := by
        have h1 := HL.out
        rw [hf.out, Fo.app_len, hj.out] at h1
        simp only [Fo.len] at h1
        omega
      have hjl2 : (j : Int) < (cl : Int) := by omega
      obtain ⟨b, o, rfl, hbB, hf0⟩ := HG.out (by omega)
      have hfa : FoIn wr (· < B) (.cons k n ks (.cons k' n' ks' r')) b (o + j * 6) := by
        have h1 := FoIn.below (hb.out.mono hB) _ _ _ hbB hf0
        rw [hf.out] at h1
        have h2 := FoIn.behind3 G _ b o h1
        rw [hj.out] at h2
        rw [show o + j * 6 = o + 2 * j * 3 by omega]
        exact h2
      obtain ⟨e0, e1, ⟨a1, c1, e2, s1⟩, hr⟩ := hfa.first
      obtain ⟨g0, g1, ⟨a2, c2, g2, s2⟩, _⟩ := hr.first
      have hBr : B ≤ wr.heap.size := Nat.le_trans hB hb.out.size
      have hal : Below wr.heap.size wr (wr.alloc (.cells #[.int .i64 k, .int .i64 n, .slice a1 ks.len c1, .int .i64 k', .int .i64 n', .slice a2 ks'.len c2] 47)) := (Below.refl _ _).alloc (Nat.le_refl _) _
      have HC1 := Lib.hid (uFits_any p k n k' n' ks ks' a1 a2 c1 c2 B _ (s1.below (hal.mono hBr)) (s2.below (hal.mono hBr)) (Nat.le_trans hBr hal.size))
      have HNX : Hid ((rightB p 0 k n ks && rightB p 0 k' n' ks') = true → lvB p 0 (G.app (.cons k n ks (.cons k' n' ks' .nil))) = true) := Lib.hid (fun h => by
        rw [Bool.and_eq_true] at h
        rw [lvB_app9, hok.out]; simp [lvB, h.1, h.2])
      have HNO : Hid ((rightB p 0 k n ks && rightB p 0 k' n' ks') = false → conB p cs cl = false) := Lib.hid (fun h => by
        rw [HV.out, hf.out, lvB_app9]
        show (lvB p 0 G && (rightB p 0 k n ks && (rightB p 0 k' n' ks' && lvB p 0 r'))) = false
        rw [← Bool.and_assoc (rightB p 0 k n ks), h]; simp)
      have HSN : Hid (cs = (G.app (.cons k n ks (.cons k' n' ks' .nil))).app r') := Lib.hid (by rw [hf.out, foAss3]; rfl)
      have HJ : Hid ((G.app (.cons k n ks (.cons k' n' ks' .nil))).len = 2 * (j + 1)) := Lib.hid (by rw [Fo.app_len, hj.out]; simp only [Fo.len]; omega)
      have HBA := Lib.hid (Below.step hb.out hal (Nat.le_refl _))
      have n0 := heap_new wr (.cells #[.int .i64 k, .int .i64 n, .slice a1 ks.len c1, .int .i64 k', .int .i64 n', .slice a2 ks'.len c2] 47)
      have y0 := cell_at n0 0
      have y1 := cell_at n0 1
      have y2 := cell_at n0 2
      have y3 := cell_at n0 3
      have y4 := cell_at n0 4
      have y5 := cell_at n0 5
      generalize (rightB p 0 k n ks && rightB p 0 k' n' ks') = v1 at HC1 HNX HNO
      clear hf hj hok hfa hr s1 s2 hf0 hjl hal n0
      go_wp2_with fail
      refine HC1.out.mono ?_
      rintro e w1 ⟨rfl, hb1⟩
      have HBW := Lib.hid (Below.step HBA.out hb1 (Nat.le_refl _))
      clear hb1 y0 y1 y2 y3 y4 y5
      cases v1 with
      | false =>
        have HF := Lib.hid (HNO.out rfl)
        go_wp2_with fail
        go_ret
        exact ⟨by rw [HF.out]; rfl, HBW.out⟩
      | true =>
        have HX : Hid (lvB p 0 (G.app (.cons k n ks (.cons k' n' ks' .nil))) = true) := Lib.hid (HNX.out (by first | rfl | trivial))
        go_wp2_with fail
        go_roundw
        case rel => exact ⟨j + 1, _, r', by go_num, HSN, HJ, HX, HBW⟩
        case measure => simp [intOf]; omega
def closedB (p : Int) (T : Tm) (at' : Int) : Bool := tRightB p 0 0 T.k T.n T.ls T.ks && belowB T at'
set_option maxRecDepth 100000 in
set_option maxHeartbeats 4000000 in
theorem yClosed_any (p : Int) (T : Tm) (at' : Int) (la ka : Option Addr) (lc kc B : Nat) (w : World) (hls : SlIn w (· < B) T.ls la lc) (hsl : TlIn w (· < B) T.ks ka kc) (hB : B ≤ w.heap.size) :
    Calls Tryz.prog 41 #[.agg #[.int .i64 T.k, .int .i64 T.n, .slice la T.ls.len lc, .slice ka T.ks.len kc], .int .i64 p, .int .i64 at'] w fun e w' => e = .returned (.bool (closedB p T at')) ∧ Below w.heap.size w w' := by
  obtain ⟨W, hW⟩ : ∃ W, w.alloc (.cells #[.int .i64 T.k, .int .i64 T.n, .slice la T.ls.len lc, .slice ka T.ks.len kc] 30) = W := ⟨_, rfl⟩
  have hb0 : Below w.heap.size w W := by rw [← hW]; exact (Below.refl _ _).alloc (Nat.le_refl _) _
  have hx : W.heap[w.heap.size]? = some (.cells #[.int .i64 T.k, .int .i64 T.n, .slice la T.ls.len lc, .slice ka T.ks.len kc] 30 (0, 0)) := by rw [← hW]; exact heap_new _ _
  have CR := Lib.hid (tRight_any p 0 0 T.k T.n T.ls T.ks la ka lc kc B W (hls.below (hb0.mono hB)) (hsl.below (hb0.mono hB)) (Nat.le_trans hB hb0.size))
  have HC : Hid (T.ks.size ≤ 1000 → ∀ V, Below W.heap.size W V → Calls Tryz.prog 64 #[.agg #[.int .i64 T.k, .int .i64 T.n, .slice la T.ls.len lc, .slice ka T.ks.len kc]] V (RnPost T.cons V)) := Lib.hid (fun hz V hV => by
    have hc := Below.step hb0 hV (Nat.le_refl _)
    exact qConsts_any T la ka lc kc B V hz (hls.below (hc.mono hB)) (hsl.below (hc.mono hB)) (Nat.le_trans hB hc.size))
  have HSZ : Hid (tRightB p 0 0 T.k T.n T.ls T.ks = true → T.ks.size ≤ 1000) := Lib.hid rightB_size
  have HV : Hid (closedB p T at' = (tRightB p 0 0 T.k T.n T.ls T.ks && belowB T at')) := Lib.hid rfl
  have HV2 : Hid (belowB T at' = T.cons.all fun x => decide (x < at')) := Lib.hid rfl
  have HLEN : Hid (T.ks.size ≤ 1000 → T.cons.length ≤ 2000) := Lib.hid (fun hz => by
    have hlen := once_len (cs1 T.k T.n T.ks) []
    have hcl := cs1_len T.k T.n T.ks
    show (onceL (cs1 T.k T.n T.ks) []).length ≤ 2000
    simp at hlen; omega)
  have HX := Lib.hid hx
  have HB0 := Lib.hid hb0
  have HW := Lib.hid hW
  obtain ⟨x0, x1, x2, x3⟩ := cells4 hx
  generalize tRightB p 0 0 T.k T.n T.ls T.ks = v at CR HSZ HV
  generalize T.cons = zs at HC HV2 HLEN
  clear hW hb0 hx hls hsl
  go_enter Tryz.func41, Tryz.ntmps41
  go_upto_region 1 with fail
  rw [HW.out]
  clear HW
  go_wp2_with fail
  refine CR.out.mono ?_
  rintro e w1 ⟨rfl, hb1⟩
  have HB1 := Lib.hid hb1
  have HBW := Lib.hid (Below.step HB0.out hb1 (Nat.le_refl _))
  have hx1 := (hb1.block _ (lt_of_block HX.out)).trans HX.out
  clear x0 x1 x2 x3
  obtain ⟨x0, x1, x2, x3⟩ := cells4 hx1
  clear hb1 hx1
  cases v with
  | false =>
    go_wp2_with fail
    go_ret
    exact ⟨by rw [HV.out]; rfl, HBW.out⟩
  | true =>
    have hz := HSZ.out (by first | rfl | trivial)
    have HC' := Lib.hid (HC.out hz _ HB1.out)
    have hzl : zs.length ≤ 2000 := HLEN.out hz
    clear HC HLEN hz
    go_wp2_with fail
    refine HC'.out.mono ?_
    rintro e w2 ⟨x, c, rfl, hi, hb2⟩
    have HB2 := Lib.hid (Below.step HBW.out hb2 (Nat.le_refl _))
    have HI := Lib.hid hi
    clear hi hb2 x0 x1 x2 x3
    go_wp2_with fail
    go_loopw [16] (fun iv wr => ∃ (j : Nat), iv = .int .i64 j ∧ j ≤ zs.length ∧ wr = w2 ∧ Hid ((zs.take j).all (fun x => decide (x < at')) = true)) (fun iv _ => zs.length - (intOf iv).toNat)
    case atStart => exact ⟨0, rfl, Nat.zero_le _, rfl, Lib.hid rfl⟩
    case round =>
      obtain ⟨j, rfl, hj, rfl, hall⟩ := hrel
      by_cases hlt : j < zs.length
      · have hjl : (j : Int) < (zs.length : Int) := by omega
        obtain ⟨b, o, rfl, hbl, hcs⟩ := HI.out.some (by omega)
        have e0 := hcs j hlt
        have htk : zs.take (j + 1) = zs.take j ++ [zs.getD j 0] := by rw [List.take_add_one, List.getElem?_eq_getElem hlt, List.getD_eq_getElem?_getD, List.getElem?_eq_getElem hlt]; rfl
        have HNX : Hid (zs.getD j 0 < at' → (zs.take (j + 1)).all (fun x => decide (x < at')) = true) := Lib.hid (fun h => by rw [htk, List.all_append, hall.out]; simpa using h)
        have HNO : Hid (¬ zs.getD j 0 < at' → belowB T at' = false) := Lib.hid (fun h => by
          rw [HV2.out, List.all_eq_false]
          refine ⟨zs.getD j 0, ?_, by simpa using h⟩
          rw [List.getD_eq_getElem?_getD, List.getElem?_eq_getElem hlt]
          exact List.getElem_mem hlt)
        generalize zs.getD j 0 = z at e0 HNX HNO
        clear hcs htk hall hbl
        by_cases hz : z < at'
        · have dz : ¬ (at' ≤ z) := by omega
          have HX := Lib.hid (HNX.out hz)
          clear HNX HNO
          go_wp2_with fail
          go_roundw
          case rel => exact ⟨j + 1, by go_num, by omega, (by first | rfl | trivial), HX⟩
          case measure => simp [intOf]; omega
        · have dz : at' ≤ z := by omega
          have HX := Lib.hid (HNO.out hz)
          clear HNX HNO
          go_wp2_with fail
          go_ret
          exact ⟨by rw [HV.out, HX.out]; rfl, HB2.out⟩
      · have hjl : ¬ (j : Int) < (zs.length : Int) := by omega
        have dj : decide ((j : Int) < (zs.length : Int)) = false := by simpa using hjl
        have HX : Hid (belowB T at' = true) := Lib.hid (by rw [HV2.out]; have := hall.out; rwa [List.take_of_length_le (by omega)] at this)
        go_wp2_with fail
        go_ret
        exact ⟨by rw [HV.out, HX.out]; rfl, HB2.out⟩
end Go.Proofs.YtnfhpombnbpdcaaGreat
namespace Go.Proofs.YtnfhpombnbpdcaaGreat
open Go.RowKit
set_option maxRecDepth 100000 in
set_option maxHeartbeats 4000000 in
theorem yFits_any (d : Dc) (at' : Int) (ca : Option Addr) (cl cc : Nat) (la : Option Addr) (lc : Nat) (ka : Option Addr) (kc : Nat) (la' : Option Addr) (lc' : Nat) (ka' : Option Addr) (kc' B : Nat) (w : World) (hc : ConIn w (· < B) d.cs ca cl cc) (h1 : SlIn w (· < B) d.ty.ls la lc) (h2 : TlIn w (· < B) d.ty.ks ka kc) (h3 : SlIn w (· < B) d.va.ls la' lc') (h4 : TlIn w (· < B) d.va.ks ka' kc') (hB : B ≤ w.heap.size) :
    Calls Tryz.prog 29 #[.agg (dcV d ca cl cc la lc ka kc la' lc' ka' kc'), .int .i64 at'] w fun e w' => e = .returned (.bool (declB d at')) ∧ Below w.heap.size w w' := by
  have hcl : cl = d.cs.len / 2 := by have := hc.1; omega
  obtain ⟨W0, hW0⟩ : ∃ W0, w.alloc (.cells (dcV d ca cl cc la lc ka kc la' lc' ka' kc') 41) = W0 := ⟨_, rfl⟩
  have hb0 : Below w.heap.size w W0 := by rw [← hW0]; exact (Below.refl _ _).alloc (Nat.le_refl _) _
  have hx0 : W0.heap[w.heap.size]? = some (.cells (dcV d ca cl cc la lc ka kc la' lc' ka' kc') 41 (0, 0)) := by rw [← hW0]; exact heap_new _ _
  have HX0 := Lib.hid hx0
  have HB0 := Lib.hid hb0
  have HZ : Hid (w.heap.size < W0.heap.size) := Lib.hid (lt_of_block hx0)
  -- what is asked, in whatever world behind
  have C1 : Hid (∀ W, Below W0.heap.size W0 W → Calls Tryz.prog 40 #[.slice ca cl cc, .int .i64 d.p] W fun e w' => e = .returned (.bool (conB d.p d.cs (d.cs.len / 2))) ∧ Below W.heap.size W w') := Lib.hid (fun W h => by
    have hb := Below.step hb0 h (Nat.le_refl _)
    rw [← hcl]
    exact uRight_any d.p d.cs ca cl cc B W (hc.keep (fun q hq => hb.block q (by have : q < B := hq; omega))) (Nat.le_trans hB hb.size))
  have C2 : Hid (∀ W, Below W0.heap.size W0 W → Calls Tryz.prog 41 #[.agg #[.int .i64 d.ty.k, .int .i64 d.ty.n, .slice la d.ty.ls.len lc, .slice ka d.ty.ks.len kc], .int .i64 d.p, .int .i64 at'] W fun e w' => e = .returned (.bool (closedB d.p d.ty at')) ∧ Below W.heap.size W w') := Lib.hid (fun W h => by
    have hb := Below.step hb0 h (Nat.le_refl _)
    exact yClosed_any d.p d.ty at' la ka lc kc B W (h1.below (hb.mono hB)) (h2.below (hb.mono hB)) (Nat.le_trans hB hb.size))
  have C4 : Hid (∀ W, Below W0.heap.size W0 W → Calls Tryz.prog 41 #[.agg #[.int .i64 d.va.k, .int .i64 d.va.n, .slice la' d.va.ls.len lc', .slice ka' d.va.ks.len kc'], .int .i64 d.p, .int .i64 at'] W fun e w' => e = .returned (.bool (closedB d.p d.va at')) ∧ Below W.heap.size W w') := Lib.hid (fun W h => by
    have hb := Below.step hb0 h (Nat.le_refl _)
    exact yClosed_any d.p d.va at' la' ka' lc' kc' B W (h3.below (hb.mono hB)) (h4.below (hb.mono hB)) (Nat.le_trans hB hb.size))
  have C6 : Hid (∀ W, Below W0.heap.size W0 W → Calls Tryz.prog 42 #[.agg #[.int .i64 d.va.k, .int .i64 d.va.n, .slice la' d.va.ls.len lc', .slice ka' d.va.ks.len kc'], .agg #[.int .i64 0, .int .i64 0, .slice none 0 0, .slice none 0 0]] W fun e w' => e = .returned (.bool (decide (d.va = tZ))) ∧ Below W.heap.size W w') := Lib.hid (fun W h => by
    have hb := Below.step hb0 h (Nat.le_refl _)
    exact tSame_zero d.va la' ka' lc' kc' B W (h3.below (hb.mono hB)) (h4.below (hb.mono hB)) (Nat.le_trans hB hb.size))
  have HV : Hid (declB d at' = ((conB d.p d.cs (d.cs.len / 2) && closedB d.p d.ty at') && (if d.has = true then closedB d.p d.va at' else decide (d.va = tZ)))) := Lib.hid rfl
  have HCELL : Hid (∀ W, Below W0.heap.size W0 W → W.cell? ⟨w.heap.size, 0, none⟩ = some (.int .i64 d.p) ∧ W.cell? ⟨w.heap.size, 1, none⟩ = some (.slice ca cl cc) ∧ W.cell? ⟨w.heap.size, 2, none⟩ = some (.int .i64 d.ty.k) ∧ W.cell? ⟨w.heap.size, 3, none⟩ = some (.int .i64 d.ty.n) ∧ W.cell? ⟨w.heap.size, 4, none⟩ = some (.slice la d.ty.ls.len lc) ∧ W.cell? ⟨w.heap.size, 5, none⟩ = some (.slice ka d.ty.ks.len kc) ∧ W.cell? ⟨w.heap.size, 6, none⟩ = some (.bool d.has) ∧
      W.cell? ⟨w.heap.size, 7, none⟩ = some (.int .i64 d.va.k) ∧ W.cell? ⟨w.heap.size, 8, none⟩ = some (.int .i64 d.va.n) ∧ W.cell? ⟨w.heap.size, 9, none⟩ = some (.slice la' d.va.ls.len lc') ∧ W.cell? ⟨w.heap.size, 10, none⟩ = some (.slice ka' d.va.ks.len kc')) := Lib.hid (fun W h => by
    have hx := (h.block _ HZ.out).trans HX0.out
    exact ⟨cell_at hx 0, cell_at hx 1, cell_at hx 2, cell_at hx 3, cell_at hx 4, cell_at hx 5, cell_at hx 6, cell_at hx 7, cell_at hx 8, cell_at hx 9, cell_at hx 10⟩)
  generalize conB d.p d.cs (d.cs.len / 2) = v1 at C1 HV
  generalize closedB d.p d.ty at' = v2 at C2 HV
  generalize closedB d.p d.va at' = v4 at C4 HV
  generalize decide (d.va = tZ) = v6 at C6 HV
  have HR : Hid (∀ W (v : Bool), Below W0.heap.size W0 W → declB d at' = v → (.returned (.bool v) : Ending) = .returned (.bool (declB d at')) ∧ Below w.heap.size w W) := Lib.hid (fun W v h e => ⟨by rw [e], Below.step hb0 h (Nat.le_refl _)⟩)
  generalize hdh : d.has = hh at HV HCELL
  have hW0' := hW0
  unfold dcV at hW0'
  rw [hdh] at hW0'
  have HW0 := Lib.hid hW0'
  clear hc h1 h2 h3 h4 hB hb0 hx0 hW0 hW0' hcl
  unfold dcV
  rw [hdh]
  clear hdh
  go_enter Tryz.func29, Tryz.ntmps29
  go_upto_region 1 with fail
  rw [HW0.out]
  clear HW0
  obtain ⟨c0, c1, c2, c3, c4, c5, c6, c7, c8, c9, c10⟩ := HCELL.out W0 (Below.refl _ _)
  go_wp2_with fail
  refine (C1.out _ (Below.refl _ _)).mono ?_
  rintro e w1 ⟨rfl, hb1⟩
  have B1 := Lib.hid hb1
  clear hb1 c0 c1 c2 c3 c4 c5 c6 c7 c8 c9 c10
  obtain ⟨c0, c1, c2, c3, c4, c5, c6, c7, c8, c9, c10⟩ := HCELL.out w1 B1.out
  cases v1 with
  | false =>
    go_wp2_with fail
    go_ret
    exact HR.out _ _ B1.out (by rw [HV.out]; rfl)
  | true =>
    go_wp2_with fail
    refine (C2.out _ B1.out).mono ?_
    rintro e w2 ⟨rfl, hb2⟩
    have B2 := Lib.hid (Below.step B1.out hb2 (Nat.le_refl _))
    clear hb2 c0 c1 c2 c3 c4 c5 c6 c7 c8 c9 c10
    obtain ⟨c0, c1, c2, c3, c4, c5, c6, c7, c8, c9, c10⟩ := HCELL.out w2 B2.out
    cases v2 with
    | false =>
      go_wp2_with fail
      go_ret
      exact HR.out _ _ B2.out (by rw [HV.out]; rfl)
    | true =>
      cases hh with
      | false =>
        go_wp2_with fail
        refine (C6.out _ B2.out).mono ?_
        rintro e w4 ⟨rfl, hb4⟩
        have B4 := Lib.hid (Below.step B2.out hb4 (Nat.le_refl _))
        clear hb4 c0 c1 c2 c3 c4 c5 c6 c7 c8 c9 c10
        go_wp2_with fail
        go_ret
        exact HR.out _ _ B4.out (by rw [HV.out]; rfl)
      | true =>
        go_wp2_with fail
        refine (C4.out _ B2.out).mono ?_
        rintro e w4 ⟨rfl, hb4⟩
        have B4 := Lib.hid (Below.step B2.out hb4 (Nat.le_refl _))
        clear hb4 c0 c1 c2 c3 c4 c5 c6 c7 c8 c9 c10
        go_wp2_with fail
        go_ret
        exact HR.out _ _ B4.out (by rw [HV.out]; rfl)
set_option maxRecDepth 100000 in
set_option maxHeartbeats 4000000 in
theorem yRight_any (E : List Dc) (ea : Option Addr) (cap B : Nat) (w : World) (hE : DsIn w (· < B) E ea cap) (hB : B ≤ w.heap.size) :
    Calls Tryz.prog 21 #[.slice ea E.length cap] w fun e w' => e = .returned (.bool (envB E)) ∧ Below w.heap.size w w' := by
  have hlen := hE.len
  have HE := Lib.hid hE
  clear hE
  by_cases h20 : E.length ≤ 20
  · have d20 : ¬ ((20 : Int) < (E.length : Int)) := by omega
    have HV20 : Hid (E.length ≤ 20) := Lib.hid h20
    clear h20
    go_enter Tryz.func21, Tryz.ntmps21
    go_wp2_with fail
    go_loopw [10] (fun iv wr => ∃ (j : Nat), iv = .int .i64 j ∧ j ≤ E.length ∧ Hid (∀ (i : Nat) (h : i < E.length), i < j → declB E[i] (i : Int) = true) ∧ Hid (Below w.heap.size w wr)) (fun iv _ => E.length - (intOf iv).toNat)
    case atStart => exact ⟨0, rfl, Nat.zero_le _, Lib.hid (fun i _ h => by omega), Lib.hid (Below.refl _ _)⟩
    case round =>
      obtain ⟨j, rfl, hj, hall, hb⟩ := hrel
      by_cases hlt : j < E.length
      · have hjl : (j : Int) < (E.length : Int) := by omega
        obtain ⟨eb, eo, rfl, heb, p0, ⟨ca, cl, cc, p1, hc⟩, ⟨p2, p3, la, lc, ka, kc, p4, p5, s1, s2⟩, p6, ⟨p7, p8, la', lc', ka', kc', p9, p10, s3, s4⟩⟩ := (HE.out.below (hb.out.mono hB)).get hlt
        change wr.cell? ⟨eb, eo + j * 11 + 3, none⟩ = _ at p3
        change wr.cell? ⟨eb, eo + j * 11 + 4, none⟩ = _ at p4
        change wr.cell? ⟨eb, eo + j * 11 + 5, none⟩ = _ at p5
        change wr.cell? ⟨eb, eo + j * 11 + 8, none⟩ = _ at p8
        change wr.cell? ⟨eb, eo + j * 11 + 9, none⟩ = _ at p9
        change wr.cell? ⟨eb, eo + j * 11 + 10, none⟩ = _ at p10
        have HY : Hid (declB E[j] (j : Int) = true → ∀ (i : Nat) (h : i < E.length), i < j + 1 → declB E[i] (i : Int) = true) := Lib.hid (fun hd i h hi => by
          rcases Nat.lt_or_ge i j with h1 | h1
          · exact hall.out i h h1
          · obtain rfl : i = j := by omega
            exact hd)
        have HN : Hid (declB E[j] (j : Int) = false → envB E = false) := Lib.hid (envB_no hlt)
        have hal : Below wr.heap.size wr (wr.alloc (.cells (dcV E[j] ca cl cc la lc ka kc la' lc' ka' kc') 41)) := (Below.refl _ _).alloc (Nat.le_refl _) _
        have hBr : B ≤ wr.heap.size := Nat.le_trans hB hb.out.size
        have HC := Lib.hid (yFits_any E[j] (j : Int) ca cl cc la lc ka kc la' lc' ka' kc' B _ (hc.keep (fun q hq => hal.block q (by have : q < B := hq; omega))) (s1.below (hal.mono hBr)) (s2.below (hal.mono hBr)) (s3.below (hal.mono hBr)) (s4.below (hal.mono hBr)) (Nat.le_trans hBr hal.size))
        have HBA := Lib.hid (Below.step hb.out hal (Nat.le_refl _))
        have n0 := heap_new wr (.cells (dcV E[j] ca cl cc la lc ka kc la' lc' ka' kc') 41)
        generalize declB E[j] (j : Int) = v at HC HY HN
        generalize E[j] = d at p0 p2 p3 p4 p5 p6 p7 p8 p9 p10 HC HBA n0
        unfold dcV at HC HBA n0
        have y0 := cell_at n0 0
        have y1 := cell_at n0 1
        have y2 := cell_at n0 2
        have y3 := cell_at n0 3
        have y4 := cell_at n0 4
        have y5 := cell_at n0 5
        have y6 := cell_at n0 6
        have y7 := cell_at n0 7
        have y8 := cell_at n0 8
        have y9 := cell_at n0 9
        have y10 := cell_at n0 10
        clear hc s1 s2 s3 s4 hall heb hal n0
        go_wp2_with fail
        refine HC.out.mono ?_
        rintro e w1 ⟨rfl, hb1⟩
        have B1 := Lib.hid (Below.step HBA.out hb1 (Nat.le_refl _))
        clear hb1 p0 p1 p2 p3 p4 p5 p6 p7 p8 p9 p10 y0 y1 y2 y3 y4 y5 y6 y7 y8 y9 y10 HC HBA
        cases v with
        | false =>
          have HX := Lib.hid (HN.out (by first | rfl | trivial))
          go_wp2_with fail
          go_ret
          exact ⟨by rw [HX.out]; rfl, B1.out⟩
        | true =>
          have HX : Hid (∀ (i : Nat) (h : i < E.length), i < j + 1 → declB E[i] (i : Int) = true) := Lib.hid (HY.out (by first | rfl | trivial))
          clear HY HN
          go_wp2_with fail
          go_roundw
          case rel => exact ⟨j + 1, by go_num, by omega, HX, B1⟩
          case measure => simp [intOf]; omega
      · have hjl : ¬ (j : Int) < (E.length : Int) := by omega
        have dj : decide ((j : Int) < (E.length : Int)) = false := by simpa using hjl
        have HV : Hid (envB E = true) := Lib.hid (by
          unfold envB
          rw [declsB_all.2 (fun i h => by rw [Nat.zero_add]; exact hall.out i h (by omega)), Bool.true_and, decide_eq_true HV20.out])
        clear hall
        go_wp2_with fail
        go_ret
        exact ⟨by rw [HV.out]; rfl, hb.out⟩
  · have d20 : (20 : Int) < (E.length : Int) := by omega
    have HV : Hid (envB E = false) := Lib.hid (by unfold envB; rw [decide_eq_false h20]; simp)
    clear h20
    go_enter Tryz.func21, Tryz.ntmps21
    go_wp2_with fail
    go_ret
    exact ⟨by rw [HV.out]; rfl, Below.refl _ _⟩
theorem yRrC : RrC := fun E ea cap B w hE hB => yRight_any E ea cap B w hE hB
end Go.Proofs.YtnfhpombnbpdcaaGreat
