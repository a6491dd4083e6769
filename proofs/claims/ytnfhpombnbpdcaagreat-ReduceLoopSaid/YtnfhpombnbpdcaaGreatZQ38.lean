/- Yclo. No condition but those that stand in each statement. -/
import Derived.Test.YtnfhpombnbpdcaaGreatZQ37
import Derived.Test.YtnfhpombnbpdcaaGreatZQ36
import Derived.Test.YtnfhpombnbpdcaaGreatZQ35
import Derived.Test.YtnfhpombnbpdcaaGreatZQ31
namespace Go.Proofs.YtnfhpombnbpdcaaGreat
open Go.RowKit
theorem LePost.of0 {A : Tm × Int} {w w' : World} {e : Ending} (h : QrPost 0 A w e w') : LePost A w e w' := by
  obtain ⟨la, lc, x, c, he, h1, h2, h3⟩ := h
  exact ⟨la, lc, x, c, he, h1.weak (fun b hb => ⟨by omega, hb.2⟩), h2.turn (fun _ _ => rfl) (fun b hb => ⟨by omega, hb.2⟩), h3⟩
set_option maxRecDepth 100000 in
set_option maxHeartbeats 2000000 in
theorem yLet1_any (bp up : Nat) (t u : Tm) (la ka la' ka' : Option Addr) (lc kc lc' kc' N : Nat) (w : World) (ht : w.heap[bp]? = some (.cells #[.int .i64 t.k, .int .i64 t.n, .slice la t.ls.len lc, .slice ka t.ks.len kc] 30 (0, 0))) (hu : w.heap[up]? = some (.cells #[.int .i64 u.k, .int .i64 u.n, .slice la' u.ls.len lc', .slice ka' u.ks.len kc'] 30 (0, 0)))
    (hls : SlIn w (· < N) t.ls la lc) (hsl : TlIn w (· < N) t.ks ka kc) (hls' : SlIn w (· < N) u.ls la' lc') (hsl' : TlIn w (· < N) u.ks ka' kc') (hN : N ≤ w.heap.size) :
    Calls Tryz.prog 75 #[.pointer (some ⟨bp, 0, none⟩), .pointer (some ⟨up, 0, none⟩)] w (LePost (openA t u) w) := by
  obtain ⟨W, hW⟩ : ∃ W, w.alloc (.cells #[.int .i64 0, .int .i64 0, .slice none 0 0, .slice none 0 0] 30) = W := ⟨_, rfl⟩
  have hb : Below w.heap.size w W := by rw [← hW]; exact (Below.refl _ _).alloc (Nat.le_refl _) _
  have hz : W.heap[w.heap.size]? = some (.cells #[.int .i64 0, .int .i64 0, .slice none 0 0, .slice none 0 0] 30 (0, 0)) := by rw [← hW]; exact heap_new _ _
  have HC := Lib.hid (tOpen_any t u la ka la' ka' lc kc lc' kc' N W (hls.below (hb.mono hN)) (hsl.below (hb.mono hN)) (hls'.below (hb.mono hN)) (hsl'.below (hb.mono hN)) (Nat.le_trans hN hb.size))
  obtain ⟨t0, t1, t2, t3⟩ := cells4 ((hb.block _ (lt_of_block ht)).trans ht)
  obtain ⟨u0, u1, u2, u3⟩ := cells4 ((hb.block _ (lt_of_block hu)).trans hu)
  have HB := Lib.hid hb
  have HZ := Lib.hid hz
  have HW := Lib.hid hW
  generalize openA t u = A at HC ⊢
  clear hW hb hz ht hu hls hsl hls' hsl'
  go_enter Tryz.func75, Tryz.ntmps75
  go_upto_region 1 with fail
  rw [HW.out]
  clear HW
  go_wp2_with fail
  refine HC.out.mono ?_
  rintro e w3 ⟨x1, y1, x2, y2, rfl, h1, h2, h3⟩
  have hz3 := (h3.block _ (lt_of_block HZ.out)).trans HZ.out
  have HE : Hid (LePost A w _ _) := Lib.hid (LePost.store (R := w.heap.size) (T := A.1) (E := A.2) (w := w) (w3 := w3) (fun b hb => ⟨hb.2, by have := lt_of_block HZ.out; omega, by have := HB.out.size; omega⟩) h1 h2 (Below.step HB.out h3 (Nat.le_refl _)) (Nat.le_refl _))
  obtain ⟨z0, z1, z2, z3⟩ := cells4 hz3
  have zf := free_of hz3
  clear h1 h2 h3 hz3 t0 t1 t2 t3 u0 u1 u2 u3
  go_wp2_with fail
  refine bodyPost_ret (v := .tuple #[.agg #[.int .i64 A.1.k, .int .i64 A.1.n, .slice x1 A.1.ls.len y1, .slice x2 A.1.ks.len y2], .int .i64 A.2]) (by simp [results, Tryz.results75, go_sem, z0, z1, z2, z3]) rfl ?_
  exact HE.out
set_option maxRecDepth 100000 in
set_option maxHeartbeats 2000000 in
theorem yApp1_any (bp up : Nat) (t u : Tm) (la ka la' ka' : Option Addr) (lc kc lc' kc' N : Nat) (w : World) (ht : w.heap[bp]? = some (.cells #[.int .i64 t.k, .int .i64 t.n, .slice la t.ls.len lc, .slice ka t.ks.len kc] 30 (0, 0))) (hu : w.heap[up]? = some (.cells #[.int .i64 u.k, .int .i64 u.n, .slice la' u.ls.len lc', .slice ka' u.ks.len kc'] 30 (0, 0)))
    (hls : SlIn w (· < N) t.ls la lc) (hsl : TlIn w (· < N) t.ks ka kc) (hls' : SlIn w (· < N) u.ls la' lc') (hsl' : TlIn w (· < N) u.ks ka' kc') (hN : N ≤ w.heap.size) :
    Calls Tryz.prog 79 #[.pointer (some ⟨bp, 0, none⟩), .pointer (some ⟨up, 0, none⟩)] w (LePost (openA t u) w) := by
  obtain ⟨W, hW⟩ : ∃ W, w.alloc (.cells #[.int .i64 0, .int .i64 0, .slice none 0 0, .slice none 0 0] 30) = W := ⟨_, rfl⟩
  have hb : Below w.heap.size w W := by rw [← hW]; exact (Below.refl _ _).alloc (Nat.le_refl _) _
  have hz : W.heap[w.heap.size]? = some (.cells #[.int .i64 0, .int .i64 0, .slice none 0 0, .slice none 0 0] 30 (0, 0)) := by rw [← hW]; exact heap_new _ _
  have HC := Lib.hid (tOpen_any t u la ka la' ka' lc kc lc' kc' N W (hls.below (hb.mono hN)) (hsl.below (hb.mono hN)) (hls'.below (hb.mono hN)) (hsl'.below (hb.mono hN)) (Nat.le_trans hN hb.size))
  obtain ⟨t0, t1, t2, t3⟩ := cells4 ((hb.block _ (lt_of_block ht)).trans ht)
  obtain ⟨u0, u1, u2, u3⟩ := cells4 ((hb.block _ (lt_of_block hu)).trans hu)
  have HB := Lib.hid hb
  have HZ := Lib.hid hz
  have HW := Lib.hid hW
  generalize openA t u = A at HC ⊢
  clear hW hb hz ht hu hls hsl hls' hsl'
  go_enter Tryz.func79, Tryz.ntmps79
  go_upto_region 1 with fail
  rw [HW.out]
  clear HW
  go_wp2_with fail
  refine HC.out.mono ?_
  rintro e w3 ⟨x1, y1, x2, y2, rfl, h1, h2, h3⟩
  have hz3 := (h3.block _ (lt_of_block HZ.out)).trans HZ.out
  have HE : Hid (LePost A w _ _) := Lib.hid (LePost.store (R := w.heap.size) (T := A.1) (E := A.2) (w := w) (w3 := w3) (fun b hb => ⟨hb.2, by have := lt_of_block HZ.out; omega, by have := HB.out.size; omega⟩) h1 h2 (Below.step HB.out h3 (Nat.le_refl _)) (Nat.le_refl _))
  obtain ⟨z0, z1, z2, z3⟩ := cells4 hz3
  have zf := free_of hz3
  clear h1 h2 h3 hz3 t0 t1 t2 t3 u0 u1 u2 u3
  go_wp2_with fail
  refine bodyPost_ret (v := .tuple #[.agg #[.int .i64 A.1.k, .int .i64 A.1.n, .slice x1 A.1.ls.len y1, .slice x2 A.1.ks.len y2], .int .i64 A.2]) (by simp [results, Tryz.results79, go_sem, z0, z1, z2, z3]) rfl ?_
  exact HE.out
set_option maxRecDepth 100000 in
set_option maxHeartbeats 4000000 in
theorem yUnf1_any (mv nv lv MB eb eo i len cap : Nat) (t : Tm) (P : Fo) (la ka pa : Option Addr) (lc kc pc N : Nat) (w : World) (hm : w.cell? ⟨mv, 0, none⟩ = some (.pointer (some ⟨MB, 0, none⟩))) (he : w.cell? ⟨MB, 0, none⟩ = some (.slice (some ⟨eb, eo, none⟩) len cap)) (hn : w.cell? ⟨nv, 0, none⟩ = some (.int .i64 i)) (hi : i < len)
    (ht : w.cell? ⟨eb, eo + i * 11 + 7, none⟩ = some (.int .i64 t.k) ∧ w.cell? ⟨eb, eo + i * 11 + 7 + 1, none⟩ = some (.int .i64 t.n) ∧ w.cell? ⟨eb, eo + i * 11 + 7 + 2, none⟩ = some (.slice la t.ls.len lc) ∧ w.cell? ⟨eb, eo + i * 11 + 7 + 3, none⟩ = some (.slice ka t.ks.len kc)) (hl : w.cell? ⟨lv, 0, none⟩ = some (.slice pa P.len pc))
    (hls : SlIn w (· < N) t.ls la lc) (hsl : TlIn w (· < N) t.ks ka kc) (hp : SlIn w (· < N) P pa pc) (hN : N ≤ w.heap.size) :
    Calls Tryz.prog 77 #[.pointer (some ⟨mv, 0, none⟩), .pointer (some ⟨nv, 0, none⟩), .pointer (some ⟨lv, 0, none⟩)] w (LePost (qA P .nil t) w) := by
  obtain ⟨W, hW⟩ : ∃ W, w.alloc (.cells #[.int .i64 0, .int .i64 0, .slice none 0 0, .slice none 0 0] 30) = W := ⟨_, rfl⟩
  have hb : Below w.heap.size w W := by rw [← hW]; exact (Below.refl _ _).alloc (Nat.le_refl _) _
  have hz : W.heap[w.heap.size]? = some (.cells #[.int .i64 0, .int .i64 0, .slice none 0 0, .slice none 0 0] 30 (0, 0)) := by rw [← hW]; exact heap_new _ _
  have HC : Hid (∀ V, Below W.heap.size W V → Calls Tryz.prog 78 #[.agg #[.int .i64 t.k, .int .i64 t.n, .slice la t.ls.len lc, .slice ka t.ks.len kc], .slice pa P.len pc, .slice none 0 0] V (LePost (qA P .nil t) V)) := Lib.hid (fun V hV => by
    have hc := Below.step hb hV (Nat.le_refl _)
    exact (qSub_new P .nil t la ka pa none lc kc pc 0 N N V (RwIn.of (hls.below (hc.mono hN)) (Nat.le_trans hN hc.size)) (hls.below (hc.mono hN)) (hsl.below (hc.mono hN)) (hp.below (hc.mono hN)) (SlIn.none _ _) (Nat.le_trans hN hc.size) (Nat.le_refl _) (Nat.le_trans hN hc.size)).mono (fun _ _ h => LePost.of0 h))
  have HSW : Hid (∀ V, Below w.heap.size w V → (fun (w' : World) => w'.cell? ⟨mv, 0, none⟩ = some (.pointer (some ⟨MB, 0, none⟩)) ∧ w'.cell? ⟨MB, 0, none⟩ = some (.slice (some ⟨eb, eo, none⟩) len cap) ∧ w'.cell? ⟨nv, 0, none⟩ = some (.int .i64 i) ∧ w'.cell? ⟨eb, eo + i * 11 + 7, none⟩ = some (.int .i64 t.k) ∧ w'.cell? ⟨eb, eo + i * 11 + 7 + 1, none⟩ = some (.int .i64 t.n) ∧ w'.cell? ⟨eb, eo + i * 11 + 7 + 2, none⟩ = some (.slice la t.ls.len lc) ∧ w'.cell? ⟨eb, eo + i * 11 + 7 + 3, none⟩ = some (.slice ka t.ks.len kc) ∧ w'.cell? ⟨lv, 0, none⟩ = some (.slice pa P.len pc)) V) := Lib.hid (fun V hV => by
    have k : ∀ p v, w.cell? p = some v → V.cell? p = some v := fun p v h => (hV.cell (World.block_lt_of_cell? w p h)).trans h
    exact ⟨k _ _ hm, k _ _ he, k _ _ hn, k _ _ ht.1, k _ _ ht.2.1, k _ _ ht.2.2.1, k _ _ ht.2.2.2, k _ _ hl⟩)
  have HSET : Hid (∀ V x y z u, Below W.heap.size W V → (fun (w' : World) => w'.cell? ⟨mv, 0, none⟩ = some (.pointer (some ⟨MB, 0, none⟩)) ∧ w'.cell? ⟨MB, 0, none⟩ = some (.slice (some ⟨eb, eo, none⟩) len cap) ∧ w'.cell? ⟨nv, 0, none⟩ = some (.int .i64 i) ∧ w'.cell? ⟨eb, eo + i * 11 + 7, none⟩ = some (.int .i64 t.k) ∧ w'.cell? ⟨eb, eo + i * 11 + 7 + 1, none⟩ = some (.int .i64 t.n) ∧ w'.cell? ⟨eb, eo + i * 11 + 7 + 2, none⟩ = some (.slice la t.ls.len lc) ∧ w'.cell? ⟨eb, eo + i * 11 + 7 + 3, none⟩ = some (.slice ka t.ks.len kc) ∧ w'.cell? ⟨lv, 0, none⟩ = some (.slice pa P.len pc)) ((((V.setCell ⟨w.heap.size, 0, none⟩ x).setCell ⟨w.heap.size, 1, none⟩ y).setCell ⟨w.heap.size, 2, none⟩ z).setCell ⟨w.heap.size, 3, none⟩ u)) := Lib.hid (fun V x y z u hV => by
    have h2 := Below.step hb hV (Nat.le_refl _)
    exact HSW.out _ ((((h2.setCell (Nat.le_refl _) x).setCell (Nat.le_refl _) y).setCell (Nat.le_refl _) z).setCell (Nat.le_refl _) u))
  have hii : (i : Int) < (len : Int) := by omega
  have HB := Lib.hid hb
  have HZ := Lib.hid hz
  have HW := Lib.hid hW
  generalize qA P .nil t = A at HC ⊢
  clear hW hb hz hm he hn ht hl hls hsl hp
  go_enter Tryz.func77, Tryz.ntmps77
  go_upto_region 1 with fail
  rw [HW.out]
  clear HW
  refine wp_region_L (fun (w' : World) => w'.cell? ⟨mv, 0, none⟩ = some (.pointer (some ⟨MB, 0, none⟩)) ∧ w'.cell? ⟨MB, 0, none⟩ = some (.slice (some ⟨eb, eo, none⟩) len cap) ∧ w'.cell? ⟨nv, 0, none⟩ = some (.int .i64 i) ∧ w'.cell? ⟨eb, eo + i * 11 + 7, none⟩ = some (.int .i64 t.k) ∧ w'.cell? ⟨eb, eo + i * 11 + 7 + 1, none⟩ = some (.int .i64 t.n) ∧ w'.cell? ⟨eb, eo + i * 11 + 7 + 2, none⟩ = some (.slice la t.ls.len lc) ∧ w'.cell? ⟨eb, eo + i * 11 + 7 + 3, none⟩ = some (.slice ka t.ks.len kc) ∧ w'.cell? ⟨lv, 0, none⟩ = some (.slice pa P.len pc)) 13 (by kernel_rfl) ?_
  have hH := (show (fun (w' : World) => w'.cell? ⟨mv, 0, none⟩ = some (.pointer (some ⟨MB, 0, none⟩)) ∧ w'.cell? ⟨MB, 0, none⟩ = some (.slice (some ⟨eb, eo, none⟩) len cap) ∧ w'.cell? ⟨nv, 0, none⟩ = some (.int .i64 i) ∧ w'.cell? ⟨eb, eo + i * 11 + 7, none⟩ = some (.int .i64 t.k) ∧ w'.cell? ⟨eb, eo + i * 11 + 7 + 1, none⟩ = some (.int .i64 t.n) ∧ w'.cell? ⟨eb, eo + i * 11 + 7 + 2, none⟩ = some (.slice la t.ls.len lc) ∧ w'.cell? ⟨eb, eo + i * 11 + 7 + 3, none⟩ = some (.slice ka t.ks.len kc) ∧ w'.cell? ⟨lv, 0, none⟩ = some (.slice pa P.len pc)) W.drew from HSW.out _ (HB.out.drew))
  refine tkL 0 ?_ hH ?_ ?_
  rotate_left
  · intro w' hSw
    obtain ⟨s0, s1, s2, s3, s4, s5, s6, s7⟩ := hSw
    go_simp
    try with_reducible rfl
  refine tkL 1 ?_ hH ?_ ?_
  rotate_left
  · intro w' hSw
    obtain ⟨s0, s1, s2, s3, s4, s5, s6, s7⟩ := hSw
    go_simp
    try with_reducible rfl
  refine tkL 2 ?_ hH ?_ ?_
  rotate_left
  · intro w' hSw
    obtain ⟨s0, s1, s2, s3, s4, s5, s6, s7⟩ := hSw
    go_simp
    try with_reducible rfl
  refine tkL 3 ?_ hH ?_ ?_
  rotate_left
  · intro w' hSw
    obtain ⟨s0, s1, s2, s3, s4, s5, s6, s7⟩ := hSw
    go_simp
    try with_reducible rfl
  refine tkL 4 ?_ hH ?_ ?_
  rotate_left
  · intro w' hSw
    obtain ⟨s0, s1, s2, s3, s4, s5, s6, s7⟩ := hSw
    go_simp
    try with_reducible rfl
  refine tkL 5 ?_ hH ?_ ?_
  rotate_left
  · intro w' hSw
    obtain ⟨s0, s1, s2, s3, s4, s5, s6, s7⟩ := hSw
    go_simp
    try with_reducible rfl
  refine tkL 6 ?_ hH ?_ ?_
  rotate_left
  · intro w' hSw
    obtain ⟨s0, s1, s2, s3, s4, s5, s6, s7⟩ := hSw
    go_simp
    try with_reducible rfl
  refine tkL 7 ?_ hH ?_ ?_
  rotate_left
  · intro w' hSw
    obtain ⟨s0, s1, s2, s3, s4, s5, s6, s7⟩ := hSw
    go_simp
    try with_reducible rfl
  refine tkL 8 ?_ hH ?_ ?_
  rotate_left
  · intro w' hSw
    obtain ⟨s0, s1, s2, s3, s4, s5, s6, s7⟩ := hSw
    go_simp
    try with_reducible rfl
  refine oneL 9 (fun K hK => ?_)
  go_simp
  go_at_call 78
  refine (HC.out _ ?_).mono ?_
  exact (Below.refl _ _).drew
  rintro e w3 ⟨x1, y1, x2, y2, rfl, h1, h2, h3⟩
  have h3W : Below W.heap.size W w3 := Below.step ((Below.refl _ _).drew) h3 (Nat.le_refl _)
  have hz3 := (h3W.block _ (lt_of_block HZ.out)).trans HZ.out
  have HE : Hid (LePost A w _ _) := Lib.hid (LePost.store (R := w.heap.size) (T := A.1) (E := A.2) (w := w) (w3 := w3) (fun b hb => ⟨hb.2, by have h5 := lt_of_block HZ.out; have h6 : W.heap.size ≤ b := hb.1; omega, by have h5 := HB.out.size; have h6 : W.heap.size ≤ b := hb.1; omega⟩) h1 h2 (Below.step HB.out h3W (Nat.le_refl _)) (Nat.le_refl _))
  have HS3 := Lib.hid (HSET.out w3 (.int .i64 A.1.k) (.int .i64 A.1.n) (.slice x1 A.1.ls.len y1) (.slice x2 A.1.ks.len y2) h3W)
  have hS3 := HSW.out w3 (Below.step HB.out h3W (Nat.le_refl _))
  obtain ⟨z0, z1, z2, z3⟩ := cells4 hz3
  have zf := free_of hz3
  clear h1 h2 h3 h3W hz3 hH
  have hH := (show (fun (w' : World) => w'.cell? ⟨mv, 0, none⟩ = some (.pointer (some ⟨MB, 0, none⟩)) ∧ w'.cell? ⟨MB, 0, none⟩ = some (.slice (some ⟨eb, eo, none⟩) len cap) ∧ w'.cell? ⟨nv, 0, none⟩ = some (.int .i64 i) ∧ w'.cell? ⟨eb, eo + i * 11 + 7, none⟩ = some (.int .i64 t.k) ∧ w'.cell? ⟨eb, eo + i * 11 + 7 + 1, none⟩ = some (.int .i64 t.n) ∧ w'.cell? ⟨eb, eo + i * 11 + 7 + 2, none⟩ = some (.slice la t.ls.len lc) ∧ w'.cell? ⟨eb, eo + i * 11 + 7 + 3, none⟩ = some (.slice ka t.ks.len kc) ∧ w'.cell? ⟨lv, 0, none⟩ = some (.slice pa P.len pc)) w3 from hS3)
  refine hK.out _ _ hH ?_
  clear hK K hS3
  refine tkL 10 ?_ hH ?_ ?_
  rotate_left
  · intro w' hSw
    obtain ⟨s0, s1, s2, s3, s4, s5, s6, s7⟩ := hSw
    go_simp
    try with_reducible rfl
  refine tkL 11 ?_ hH ?_ ?_
  rotate_left
  · intro w' hSw
    obtain ⟨s0, s1, s2, s3, s4, s5, s6, s7⟩ := hSw
    go_simp
    try with_reducible rfl
  refine oneL 12 (fun K hK => ?_)
  go_simp
  refine hK.out _ _ HS3.out ?_
  clear hK K hH
  have hH := HS3.out
  refine lastL (fun K hK => ?_)
  go_simp
  refine hK.out _ _ ?_
  clear hK K hH
  try simp only [Act.put, List.setIfInBounds_toArray, List.set_cons_zero, List.set_cons_succ]
  refine wpAnyL_done (by kernel_rfl) ?_ _
  go_wp2_with fail
  refine bodyPost_ret (v := .tuple #[.agg #[.int .i64 A.1.k, .int .i64 A.1.n, .slice x1 A.1.ls.len y1, .slice x2 A.1.ks.len y2], .int .i64 A.2]) (by simp [results, Tryz.results77, go_sem, z0, z1, z2, z3]) rfl ?_
  exact HE.out
end Go.Proofs.YtnfhpombnbpdcaaGreat
