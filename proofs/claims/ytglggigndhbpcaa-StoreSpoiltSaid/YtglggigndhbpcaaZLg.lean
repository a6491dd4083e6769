/- The contract of the program's adding of clauses to a growing store, in place. Condition: the store lies in a variable of its own; at most 1000 clauses, values, and clauses more. -/
import Derived.Test.YtglggigndhbpcaaZJrk
import Derived.Test.YtglggigndhbpcaaZLconcat
import Derived.Test.YtglggigndhbpcaaZLpart
import Derived.Test.YtglggigndhbpcaaZKsolv
import Derived.Test.YtglggigndhbpcaaZKcore
namespace Go.Proofs.Ytglggigndhbpcaa
open Go.RowKit

/-- What the adding answers, and what the store is then. -/
def GaPost (vars : Int) (L : List Cl) (M C : List Int) (E : Int) (g : Nat) (R : Nat → Prop) (w : World) (e : Ending) (w' : World) : Prop :=
  ∃ x c xm cm xp cp, e = .returned (.tuple #[.slice xp C.length cp, .int .i64 E]) ∧ BxG w' g (.int .i64 vars) (.slice x L.length c) (.slice xm M.length cm) ∧ ClsIn w' (fun b => b < w'.heap.size ∧ b ≠ g ∧ ¬ R b) L x c ∧ IntsIn w' (fun b => b < w'.heap.size ∧ b ≠ g ∧ ¬ R b) M xm cm ∧ IntsIn w' (fun b => b < w'.heap.size ∧ b ≠ g ∧ ¬ R b) C xp cp ∧ But g w w'
theorem ga_same {vars E : Int} {L : List Cl} {M C : List Int} {g bp : Nat} {R : Nat → Prop} {x xm xp : Option Addr} {c cm cp : Nat} {w w' : World} (hg : BxG w g (.int .i64 vars) (.slice x L.length c) (.slice xm M.length cm)) (hin : ClsIn w (fun b => b < w.heap.size ∧ b ≠ g ∧ ¬ R b) L x c) (him : IntsIn w (fun b => b < w.heap.size ∧ b ≠ g ∧ ¬ R b) M xm cm) (hb : Below w.heap.size w w') (hc : IOwn w' bp (.slice xp C.length cp) C) (hbp : w.heap.size ≤ bp) (hR : ∀ b, R b → b < w.heap.size) :
    Hid (GaPost vars L M C E g R w (.returned (.tuple #[.slice xp C.length cp, .int .i64 E])) w') := by
  have hgl := lt_of_block hg
  refine Lib.hid ⟨x, c, xm, cm, xp, cp, rfl, (hb.block g hgl).trans hg, (hin.keep (fun b hb2 => hb.block b hb2.1)).weak (fun b hb2 => ⟨Nat.lt_of_lt_of_le hb2.1 hb.size, hb2.2⟩), (him.keep (fun b hb2 => hb.block b hb2.1)).weak (fun b hb2 => ⟨Nat.lt_of_lt_of_le hb2.1 hb.size, hb2.2⟩), ?_, Turn.below hb⟩
  rcases hc.2 with ⟨e, h0⟩ | ⟨q, cap, cur, e, hq, hh, _⟩
  · injection e with e1 _ e3
    subst e1 e3
    exact ⟨by omega, Nat.zero_le _, fun _ => rfl, fun hx => by omega⟩
  · obtain ⟨h1, h2, h3, h4⟩ := hc.ints
    refine ⟨h1, h2, h3, fun hx => ?_⟩
    obtain ⟨b, o, e2, hb2, hf⟩ := h4 hx
    refine ⟨b, o, e2, ⟨hb2, ?_⟩, hf⟩
    injection e with e1 _ _
    rw [e1] at e2
    injection e2 with e2
    injection e2 with e2 _ _
    exact ⟨by omega, fun hr => by have := hR _ hr; omega⟩
set_option maxRecDepth 100000 in
set_option maxHeartbeats 8000000 in
theorem sgadd_any (vars : Int) (l k : List Cl) (m : List Int) (g : Nat) (R : Nat → Prop) (a am ak : Option Addr) (cap cm ck : Nat) (w : World) (hg : BxG w g (.int .i64 vars) (.slice a l.length cap) (.slice am m.length cm)) (hin : ClsIn w (fun b => b < w.heap.size ∧ b ≠ g ∧ ¬ R b) l a cap) (him : IntsIn w (fun b => b < w.heap.size ∧ b ≠ g ∧ ¬ R b) m am cm) (hik : ClsIn w (fun b => b < w.heap.size ∧ b ≠ g ∧ ¬ R b) k ak ck) (hl : l.length ≤ 1000) (hk : k.length ≤ 1000) (hR : ∀ b, R b → b < w.heap.size) :
    Calls Try.prog 28 #[.pointer (some ⟨g, 0, none⟩), .slice ak k.length ck] w (GaPost vars (addL vars l m k) (addM vars l m k) (addC vars l m k) (addE vars l m k) g R w) := by
  have HR := Lib.hid hR
  have AD : ∀ {L M C E}, AdIs vars l m k L M C E → L = addL vars l m k ∧ M = addM vars l m k ∧ C = addC vars l m k ∧ E = addE vars l m k := fun h => h
  have HX1 := Lib.hid (fun h => AD (@ad_wrong vars l k m h))
  have HX2 := Lib.hid (fun h h2 => AD (@ad_long vars l k m h h2))
  have HX3 := Lib.hid (fun h h2 h3 => AD (@ad_right vars l k m h h2 h3))
  have HX4 := Lib.hid (fun h h2 h3 h4 => AD (@ad_loop vars l k m h h2 h3 h4))
  have HX5 := Lib.hid (fun h h2 h4 => AD (@ad_yes vars l k m h h2 h4))
  clear AD
  generalize addL vars l m k = L at HX1 HX2 HX3 HX4 HX5 ⊢
  generalize addM vars l m k = M at HX1 HX2 HX3 HX4 HX5 ⊢
  generalize addC vars l m k = C at HX1 HX2 HX3 HX4 HX5 ⊢
  generalize addE vars l m k = E at HX1 HX2 HX3 HX4 HX5 ⊢
  have hlen := hin.len
  have CR := Lib.hid (sRight_any vars l m a am cap cm w.heap.size w (hin.weak (fun b h => h.1)) (him.weak (fun b h => h.1)) (Nat.le_refl _))
  have HSAME := Lib.hid (fun (E : Int) (C : List Int) (bp : Nat) (xp : Option Addr) (cp : Nat) (w' : World) (hb : Below w.heap.size w w') (hc : IOwn w' bp (.slice xp C.length cp) C) (hbp : w.heap.size ≤ bp) => ga_same (E := E) hg hin him hb hc hbp hR)
  have CT := Lib.hid (fun (W : World) (hW : Below w.heap.size w W) => sconcat_at (R := fun b => b ≠ g ∧ ¬ R b) (n := k.length) ((hin.keep (fun b hb => hW.block b hb.1)).weak (fun b hb => ⟨Nat.lt_of_lt_of_le hb.1 hW.size, hb.2⟩)) ((hik.keep (fun b hb => hW.block b hb.1)).weak (fun b hb => ⟨Nat.lt_of_lt_of_le hb.1 hW.size, hb.2⟩)) hl hk rfl)
  have HG := Lib.hid hg
  have HGL := Lib.hid (lt_of_block hg)
  have p0 := cell_at hg 0
  have p1 := cell_at hg 1
  have p2 := cell_at hg 2
  simp at p0 p1 p2
  have hll := hl
  have hkk := hk
  clear hin him hik hg hl hk hR
  go_enter Try.func28, Try.ntmps28
  go_wp2_with fail
  refine CR.out.mono ?_
  rintro e w1 ⟨rfl, b1⟩
  have B1 := Lib.hid b1
  have hg1 : BxG w1 g _ _ _ := (b1.block g HGL.out).trans HG.out
  have q0 := cell_at hg1 0
  have q1 := cell_at hg1 1
  simp at q0 q1
  clear b1 CR hg1 p0 p1 p2
  cases hr : rgS vars l m with
  | false =>
    obtain ⟨rfl, rfl, rfl, rfl⟩ := HX1.out hr
    have HE := HSAME.out 1 [] w.heap.size none 0 w1 B1.out (IOwn.nil _ _) (Nat.le_refl _)
    clear HX1 HX2 HX3 HX4 HX5
    go_wp2_with fail
    refine bodyPost_ret (v := .tuple #[.slice none 0 0, .int .i64 1]) (by simp [results, Try.f28, go_sem]) rfl ?_
    exact HE.out
  | true =>
    by_cases hlong : 60 < l.length + k.length
    · obtain ⟨rfl, rfl, rfl, rfl⟩ := HX2.out hr hlong
      have hlong' : (60 : Int) < (l.length : Int) + (k.length : Int) := by omega
      have HE := HSAME.out 2 [] w.heap.size none 0 w1 B1.out (IOwn.nil _ _) (Nat.le_refl _)
      clear HX1 HX2 HX3 HX4 HX5
      go_wp2_with fail
      refine bodyPost_ret (v := .tuple #[.slice none 0 0, .int .i64 2]) (by simp [results, Try.f28, go_sem]) rfl ?_
      exact HE.out
    · have hlong' : ¬ (60 : Int) < (l.length : Int) + (k.length : Int) := by omega
      have HY3 := Lib.hid (HX3.out hr hlong)
      have HY4 := Lib.hid (HX4.out hr hlong)
      have HY5 := Lib.hid (HX5.out hr hlong)
      have CT1 := Lib.hid (CT.out w1 B1.out)
      clear HX1 HX2 HX3 HX4 HX5 CT
      go_wp2_with fail
      refine CT1.out.mono ?_
      rintro e w2 ⟨x3, c3, rfl, hcl, b2⟩
      have b02 : Below w.heap.size w w2 := B1.out.trans ((((Below.refl w1.heap.size w1).alloc (Nat.le_refl _) _).trans (b2.mono (by simp))).mono B1.out.size)
      have HN : Hid ((l ++ k).length = l.length + k.length) := Lib.hid List.length_append
      have HCL : Hid (ClsIn w2 (fun b => b < w2.heap.size ∧ b ≠ g ∧ ¬ R b) (l ++ k) x3 c3) := Lib.hid (hcl.weak (fun b hb => ⟨hb.1, by
        rcases hb.2 with h | h
        · have := HGL.out; have := B1.out.size; simp at h; exact ⟨by omega, fun hr => by have := HR.out _ hr; omega⟩
        · exact h⟩))
      have B2 := Lib.hid b02
      have hg2 : BxG w2 g _ _ _ := (b02.block g HGL.out).trans HG.out
      have r0 := cell_at hg2 0
      simp at r0
      clear hcl b2 b02 hg2 q0 q1 CT1
      generalize hlk : l ++ k = lk at HY3 HY4 HY5 HN HCL
      clear hlk
      go_wp2_with fail
      refine (jsolve_at (HCL.out.weak (fun b h => h.1)) (Below.refl _ _) HN.out).mono ?_
      rintro e w3 ⟨z, is, n5, er, xz, cz, rfl, hs5, hoz, b3⟩
      obtain ⟨hz, rfl, her⟩ := hs5.is
      have B3 := Lib.hid (B2.out.trans (b3.mono B2.out.size))
      have HCL3 : Hid (ClsIn w3 (fun b => b < w3.heap.size ∧ b ≠ g ∧ ¬ R b) lk x3 c3) := Lib.hid ((HCL.out.keep (fun b hb => b3.block b hb.1)).weak (fun b hb => ⟨Nat.lt_of_lt_of_le hb.1 b3.size, hb.2⟩))
      have HZ := Lib.hid hz
      have HOZ := Lib.hid hoz
      have hg3 : BxG w3 g _ _ _ := (B3.out.block g HGL.out).trans HG.out
      have HG3 := Lib.hid hg3
      have s0 := cell_at hg3 0
      have s1 := cell_at hg3 1
      have s2 := cell_at hg3 2
      have s3 := free_of hg3
      simp at s0 s1 s2
      clear hs5 hz hoz b3 hg3 r0
      cases hh : hrB vars lk with
      | false =>
        obtain ⟨rfl, rfl, rfl, rfl⟩ := HY3.out hh
        rw [hh] at her
        obtain rfl : er = 1 := her
        have HE := HSAME.out 1 [] w.heap.size none 0 w3 B3.out (IOwn.nil _ _) (Nat.le_refl _)
        clear HY3 HY4 HY5
        go_wp2_with fail
        refine bodyPost_ret (v := .tuple #[.slice none 0 0, .int .i64 1]) (by simp [results, Try.f28, go_sem]) rfl ?_
        exact HE.out
      | true =>
        rw [hh] at her
        obtain rfl : er = 0 := her
        cases hp : posB vars lk with
        | false =>
          obtain ⟨rfl, rfl, rfl, rfl⟩ := HY4.out hh hp
          have CK := coreC vars lk x3 c3 w3.heap.size w3 (HCL3.out.weak (fun b h => h.1)) (Nat.le_refl _)
          rw [HN.out] at CK
          have CK2 := Lib.hid CK
          clear HY3 HY4 HY5 CK
          go_wp2_with fail
          refine CK2.out.mono ?_
          rintro e w4 ⟨xp, cp, rfl, hown, b4⟩
          have HE := HSAME.out 30 (coreR vars lk) w3.heap.size xp cp w4 (B3.out.trans (b4.mono B3.out.size)) hown B3.out.size
          clear hown b4 CK2
          go_wp2_with fail
          refine bodyPost_ret (v := .tuple #[.slice xp (coreR vars lk).length cp, .int .i64 30]) (by simp [results, Try.f28, go_sem]) rfl ?_
          exact HE.out
        | true =>
          obtain ⟨rfl, rfl, rfl, rfl⟩ := HY5.out hp
          have HE : Hid (GaPost vars lk z [] 0 g R w (.returned (.tuple #[.slice none 0 0, .int .i64 0])) ((w3.setCell ⟨g, 1, none⟩ (.slice x3 (l.length + k.length) c3)).setCell ⟨g, 2, none⟩ (.slice xz z.length cz))) := Lib.hid (by
            have hkeep : ∀ b, b ≠ g → ((w3.setCell ⟨g, 1, none⟩ (.slice x3 (l.length + k.length) c3)).setCell ⟨g, 2, none⟩ (.slice xz z.length cz)).heap[b]? = w3.heap[b]? := fun b hb => (Below.heap_setCell _ _ _ _ (show b ≠ (⟨g, 2, none⟩ : Addr).block from hb)).trans (Below.heap_setCell _ _ _ _ (show b ≠ (⟨g, 1, none⟩ : Addr).block from hb))
            have hbx := (HG3.out.set1 (.slice x3 (l.length + k.length) c3)).set2 (.slice xz z.length cz)
            have hgl := HGL.out
            have h3 := B3.out.size
            have h2 := B2.out.size
            have hI := HOZ.out.ints
            refine ⟨x3, c3, xz, cz, none, 0, rfl, by rw [HN.out]; exact hbx, (HCL3.out.keep (fun b hb => hkeep b hb.2.1)).weak (fun b hb => by simpa using hb), ?_, ⟨Nat.le_refl _, Nat.zero_le _, fun _ => rfl, fun hx => by simp at hx⟩, ((But.below (Turn.refl _ _) B3.out).set (.inl rfl) _).set (.inl rfl) _⟩
            have hI2 : IntsIn w3 (fun b => b < w3.heap.size ∧ b ≠ g ∧ ¬ R b) z xz cz := by
              obtain ⟨h1, h2', h3', h4⟩ := hI
              refine ⟨h1, h2', h3', fun hx => ?_⟩
              obtain ⟨g', c', hv, hb1, hb2, _⟩ := HOZ.out.at hx
              obtain ⟨b, o, e2, hb3, hf⟩ := h4 hx
              refine ⟨b, o, e2, ⟨hb3, ?_⟩, hf⟩
              injection hv with e1 _ _
              rw [e1] at e2
              injection e2 with e2
              injection e2 with e2 _ _
              exact ⟨by omega, fun hr => by have := HR.out _ hr; omega⟩
            exact (hI2.keep (fun b hb => hkeep b hb.2.1)).weak (fun b hb => by simpa using hb))
          clear HY3 HY4 HY5
          go_wp2_with fail
          refine bodyPost_ret (v := .tuple #[.slice none 0 0, .int .i64 0]) (by simp [results, Try.f28, go_sem]) rfl ?_
          rw [← HZ.out]
          exact HE.out
end Go.Proofs.Ytglggigndhbpcaa
/- The contract of the program's Add. Condition: the store and the clauses lie in memory; at most 1000 clauses in all, 900 values, and 1000 atoms of each. -/
namespace Go.Proofs.Ytglggigndhbpcaa
open Go.RowKit

/-- A store, and places, and an error. -/
def SaP (vars : Int) (L : List Cl) (M C : List Int) (E : Int) (w : World) (e : Ending) (w' : World) : Prop :=
  ∃ x c xm cm xp cp, e = .returned (.tuple #[.agg #[.int .i64 vars, .slice x L.length c, .slice xm M.length cm], .slice xp C.length cp, .int .i64 E]) ∧ ClsIn w' (· < w'.heap.size) L x c ∧ IntsIn w' (· < w'.heap.size) M xm cm ∧ IntsIn w' (· < w'.heap.size) C xp cp ∧ Below w.heap.size w w'
def BxT (w : World) (g : Nat) (x y z : Value) : Prop := w.heap[g]? = some (.cells #[x, y, z] 25 (0, 0))
theorem BxT.set3 {w : World} {g : Nat} {x y z : Value} (h : BxT w g x y z) (x' y' z' : Value) : BxT (((w.setCell ⟨g, 0, none⟩ x').setCell ⟨g, 1, none⟩ y').setCell ⟨g, 2, none⟩ z') g x' y' z' := by
  have h1 := heap_setCell_same w g 0 _ _ x' h
  have h2 := heap_setCell_same _ g 1 _ _ y' h1
  exact heap_setCell_same _ g 2 _ _ z' h2
theorem set3_oldT (w : World) (g : Nat) (x y z : Value) {b : Nat} (h : b ≠ g) : (((w.setCell ⟨g, 0, none⟩ x).setCell ⟨g, 1, none⟩ y).setCell ⟨g, 2, none⟩ z).heap[b]? = w.heap[b]? :=
  (Below.heap_setCell _ _ _ _ (show b ≠ (⟨g, 2, none⟩ : Addr).block from h)).trans ((Below.heap_setCell _ _ _ _ (show b ≠ (⟨g, 1, none⟩ : Addr).block from h)).trans (Below.heap_setCell _ _ _ _ (show b ≠ (⟨g, 0, none⟩ : Addr).block from h)))
theorem adIs_all (vars : Int) (l : List Cl) (m : List Int) (k : List Cl) (hl : l.length + k.length ≤ 1000) (hm : m.length ≤ 900) (hf : ∀ c ∈ l, c.1.length ≤ 1000) (hfk : ∀ c ∈ k, c.1.length ≤ 1000) :
    (addL vars l m k).length ≤ 1000 ∧ (addM vars l m k).length ≤ 1000 ∧ ∀ c ∈ addL vars l m k, c.1.length ≤ 1000 := by
  refine ⟨Nat.le_trans addL_len hl, Nat.le_trans addM_len (by omega), fun c hc => ?_⟩
  unfold addL at hc
  split at hc
  · rcases List.mem_append.1 hc with h | h
    · exact hf c h
    · exact hfk c h
  · exact hf c hc
/-- The same, and nothing of it lies in the blocks of which R holds. -/
def SaR (R : Nat → Prop) (vars : Int) (L : List Cl) (M C : List Int) (E : Int) (w : World) (e : Ending) (w' : World) : Prop :=
  ∃ x c xm cm xp cp, e = .returned (.tuple #[.agg #[.int .i64 vars, .slice x L.length c, .slice xm M.length cm], .slice xp C.length cp, .int .i64 E]) ∧ ClsIn w' (fun b => b < w'.heap.size ∧ ¬ R b) L x c ∧ IntsIn w' (fun b => b < w'.heap.size ∧ ¬ R b) M xm cm ∧ IntsIn w' (fun b => b < w'.heap.size ∧ ¬ R b) C xp cp ∧ Below w.heap.size w w'
set_option maxRecDepth 100000 in
set_option maxHeartbeats 8000000 in
theorem sAdd_off (R : Nat → Prop) (vars : Int) (l k : List Cl) (m : List Int) (a am ak : Option Addr) (cap cm ck : Nat) (w : World) (hR : ∀ b, R b → b < w.heap.size) (hin : ClsIn w (fun b => b < w.heap.size ∧ ¬ R b) l a cap) (him : IntsIn w (fun b => b < w.heap.size ∧ ¬ R b) m am cm) (hik : ClsIn w (fun b => b < w.heap.size ∧ ¬ R b) k ak ck) (hl : l.length + k.length ≤ 1000) (hm : m.length ≤ 900) (hf : ∀ c ∈ l, c.1.length ≤ 1000) (hfk : ∀ c ∈ k, c.1.length ≤ 1000) :
    Calls Try.prog 19 #[.agg #[.int .i64 vars, .slice a l.length cap, .slice am m.length cm], .slice ak k.length ck] w (SaR R vars (addL vars l m k) (addM vars l m k) (addC vars l m k) (addE vars l m k) w) := by
  obtain ⟨hb1, hb2, hb3⟩ := adIs_all vars l m k hl hm hf hfk
  obtain ⟨W0, hW0⟩ : ∃ W, W = ((w.alloc (.cells #[.int .i64 vars, .slice a l.length cap, .slice am m.length cm] 25)).alloc (.cells #[.int .i64 0, .slice none 0 0, .slice none 0 0] 25)).alloc (.cells #[.int .i64 vars, .slice a l.length cap, .slice am m.length cm] 61) := ⟨_, rfl⟩
  have B0 : Below w.heap.size w W0 := by rw [hW0]; exact (((Below.refl _ _).alloc (Nat.le_refl _) _).alloc (by simp) _).alloc (by simp; omega) _
  have hs0 : W0.heap.size = w.heap.size + 1 + 1 + 1 := by rw [hW0]; simp
  have hg0 : BxG W0 (w.heap.size + 1 + 1) (.int .i64 vars) (.slice a l.length cap) (.slice am m.length cm) := by
    rw [hW0]
    have := heap_new ((w.alloc (.cells #[.int .i64 vars, .slice a l.length cap, .slice am m.length cm] 25)).alloc (.cells #[.int .i64 0, .slice none 0 0, .slice none 0 0] 25)) (.cells #[.int .i64 vars, .slice a l.length cap, .slice am m.length cm] 61)
    rwa [World.size_alloc, World.size_alloc] at this
  have hq0 : BxT W0 (w.heap.size + 1) (.int .i64 0) (.slice none 0 0) (.slice none 0 0) := by
    rw [hW0]
    have := heap_new (w.alloc (.cells #[.int .i64 vars, .slice a l.length cap, .slice am m.length cm] 25)) (.cells #[.int .i64 0, .slice none 0 0, .slice none 0 0] 25)
    rw [World.size_alloc] at this
    exact (heap_old _ _ (by simp)).trans this
  have hw : ∀ b, b < w.heap.size ∧ ¬ R b → b < W0.heap.size ∧ b ≠ w.heap.size + 1 + 1 ∧ ¬ (b = w.heap.size + 1 ∨ R b) := fun b hb => ⟨by have := hb.1; omega, by have := hb.1; omega, fun h => by
    rcases h with h | h
    · have := hb.1; omega
    · exact hb.2 h⟩
  have hRR : ∀ b, (b = w.heap.size + 1 ∨ R b) → b < W0.heap.size := fun b h => by
    rcases h with h | h
    · omega
    · have := hR b h; omega
  have CG := Lib.hid (sgadd_any vars l k m (w.heap.size + 1 + 1) (fun b => b = w.heap.size + 1 ∨ R b) a am ak cap cm ck W0 hg0 ((hin.keep (fun b hb => B0.block b hb.1)).weak hw) ((him.keep (fun b hb => B0.block b hb.1)).weak hw) ((hik.keep (fun b hb => B0.block b hb.1)).weak hw) (by omega) (by omega) hRR)
  generalize addL vars l m k = L at hb1 hb3 CG ⊢
  generalize addM vars l m k = M at hb2 CG ⊢
  generalize addC vars l m k = C at CG ⊢
  generalize addE vars l m k = E at CG ⊢
  have HS0 := Lib.hid hs0
  have HQ0 := Lib.hid hq0
  have HB0 := Lib.hid B0
  have H1 := Lib.hid hb1
  have H2 := Lib.hid hb2
  have H3 := Lib.hid hb3
  have hlen := hin.len
  have HRR := Lib.hid hRR
  clear hin him hik hf hfk hm B0 hs0 hg0 hq0 hw hb1 hb2 hb3 hl hR hRR
  rw [hW0] at CG
  go_enter Try.func19, Try.ntmps19
  go_wp2_with fail
  refine CG.out.mono ?_
  rintro e w1 ⟨x, c, xm, cm', xp, cp, rfl, hg1, hL, hM, hC, hbut⟩
  rw [← hW0] at hbut
  clear hW0 CG
  have hs := HS0.out
  have CP := Lib.hid (sgpart_any vars L M (w.heap.size + 1 + 1) (fun b => b = w.heap.size + 1 ∨ R b) x xm c cm' w1 hg1 hL (fun b hb => by have := hbut.size; have := HRR.out b hb; omega) (hM.weak (fun b hb => ⟨hb.1, hb.2.1⟩)) H1.out H2.out H3.out)
  have HC := Lib.hid hC
  have HBU := Lib.hid hbut
  clear hg1 hL hM hC hbut hs
  go_wp2_with fail
  refine CP.out.mono ?_
  rintro e w2 ⟨rfl, y, d, ym, dm, hg2, hL, hM, hbut2⟩
  have hs := HS0.out
  have hz1 := HBU.out.size
  have hz2 := hbut2.size
  have hq2 : BxT w2 (w.heap.size + 1) _ _ _ := (hbut2.block (by omega) (by omega)).trans ((HBU.out.block (by omega) (by omega)).trans HQ0.out)
  have hC2 : IntsIn w2 (fun b => b < w2.heap.size ∧ ¬ (b = w.heap.size + 1 ∨ R b)) C xp cp := (HC.out.keep (fun b hb => hbut2.block hb.1 hb.2.1)).weak (fun b hb => ⟨Nat.lt_of_lt_of_le hb.1 hz2, hb.2.2⟩)
  have hB2 : Below w.heap.size w w2 := by
    have t := Turn.trans HBU.out hbut2
    exact HB0.out.trans ((t.low (B := w.heap.size + 1) (by omega) (fun b hb => by omega)).mono (by omega))
  have HE : Hid (SaR R vars L M C E w (.returned (.tuple #[.agg #[.int .i64 vars, .slice y L.length d, .slice ym M.length dm], .slice xp C.length cp, .int .i64 E])) (((w2.setCell ⟨w.heap.size + 1, 0, none⟩ (.int .i64 vars)).setCell ⟨w.heap.size + 1, 1, none⟩ (.slice y L.length d)).setCell ⟨w.heap.size + 1, 2, none⟩ (.slice ym M.length dm))) :=
    Lib.hid ⟨y, d, ym, dm, xp, cp, rfl, (hL.keep (fun b hb => set3_oldT _ _ _ _ _ (fun h => hb.2 (.inl h)))).weak (fun b hb => ⟨by simpa using hb.1, fun h => hb.2 (.inr h)⟩), (hM.keep (fun b hb => set3_oldT _ _ _ _ _ (fun h => hb.2 (.inl h)))).weak (fun b hb => ⟨by simpa using hb.1, fun h => hb.2 (.inr h)⟩), (hC2.keep (fun b hb => set3_oldT _ _ _ _ _ (fun h => hb.2 (.inl h)))).weak (fun b hb => ⟨by simpa using hb.1, fun h => hb.2 (.inr h)⟩), ((hB2.setCell (p := ⟨_, 0, none⟩) (by simp) _).setCell (p := ⟨_, 1, none⟩) (by simp) _).setCell (p := ⟨_, 2, none⟩) (by simp) _⟩
  have HQ := Lib.hid (hq2.set3 (.int .i64 vars) (.slice y L.length d) (.slice ym M.length dm))
  have r0 := cell_at hg2 0
  have r1 := cell_at hg2 1
  have r2 := cell_at hg2 2
  have s0 := cell_at hq2 0
  have s1 := cell_at hq2 1
  have s2 := cell_at hq2 2
  have s3 := free_of hq2
  simp at r0 r1 r2 s0 s1 s2
  clear hq2 hC2 hB2 hL hM hg2 hbut2 hs hz1 hz2 CP
  go_wp2_with fail
  generalize ((w2.setCell ⟨w.heap.size + 1, 0, none⟩ (.int .i64 vars)).setCell ⟨w.heap.size + 1, 1, none⟩ (.slice y L.length d)).setCell ⟨w.heap.size + 1, 2, none⟩ (.slice ym M.length dm) = WE at HE HQ ⊢
  have e0 := cell_at HQ.out 0
  have e1 := cell_at HQ.out 1
  have e2 := cell_at HQ.out 2
  simp at e0 e1 e2
  refine bodyPost_ret (v := .tuple #[.agg #[.int .i64 vars, .slice y L.length d, .slice ym M.length dm], .slice xp C.length cp, .int .i64 E]) (by simp [results, Try.f19, go_sem, e0, e1, e2]) rfl ?_
  exact HE.out
theorem sAdd_any (vars : Int) (l k : List Cl) (m : List Int) (a am ak : Option Addr) (cap cm ck B : Nat) (w : World) (hin : ClsIn w (· < B) l a cap) (him : IntsIn w (· < B) m am cm) (hik : ClsIn w (· < B) k ak ck) (hB : B ≤ w.heap.size) (hl : l.length + k.length ≤ 1000) (hm : m.length ≤ 900) (hf : ∀ c ∈ l, c.1.length ≤ 1000) (hfk : ∀ c ∈ k, c.1.length ≤ 1000) :
    Calls Try.prog 19 #[.agg #[.int .i64 vars, .slice a l.length cap, .slice am m.length cm], .slice ak k.length ck] w (SaP vars (addL vars l m k) (addM vars l m k) (addC vars l m k) (addE vars l m k) w) := by
  have hw : ∀ b, b < B → b < w.heap.size ∧ ¬ False := fun b hb => ⟨Nat.lt_of_lt_of_le hb hB, id⟩
  refine (sAdd_off (fun _ => False) vars l k m a am ak cap cm ck w (fun b h => h.elim) (hin.weak hw) (him.weak hw) (hik.weak hw) hl hm hf hfk).mono ?_
  rintro e w' ⟨x, c, xm, cm', xp, cp, rfl, h1, h2, h3, b⟩
  exact ⟨x, c, xm, cm', xp, cp, rfl, h1.weak (fun _ h => h.1), h2.weak (fun _ h => h.1), h3.weak (fun _ h => h.1), b⟩
end Go.Proofs.Ytglggigndhbpcaa
