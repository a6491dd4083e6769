/- Made: a right level by numbers, at most five deep; it only makes new memory. -/
import Derived.Test.YtmbopdlmkbbbiaaMaker
namespace Go.Proofs.Ytmbopdlmkbbbiaa
open Go.RowKit

/-- What Made answers. -/
def MadeOk (p m : Int) (w : World) (e : Ending) (w' : World) : Prop :=
  ∃ (k n : Int) (F : Fo) (x : Option Addr) (c : Nat), e = .returned (.agg #[.int .i64 k, .int .i64 n, .slice x F.len c]) ∧ LvOk p m 5 k n F ∧ SlIn w' (fun b => w.heap.size ≤ b ∧ b < w'.heap.size) F x c ∧ Below w.heap.size w w'
set_option maxRecDepth 100000 in
set_option maxHeartbeats 2000000 in
theorem made_any (p m : Int) (hp1 : 1 ≤ p) (hp2 : p ≤ 100) (hm1 : 1 ≤ m) (hm2 : m ≤ 100) (len cap B : Nat) (a : Option Addr) (w : World) (hin : U8In w (· < B) len a cap) (hB : B ≤ w.heap.size) :
    Calls Try.prog 9 #[.slice a len cap, .int .i64 p, .int .i64 m] w (MadeOk p m w) := by
  have hb0 : Below w.heap.size w ((w.alloc (.cells #[.int .i64 0, .int .i64 0, .slice none 0 0] 30)).alloc (.cells #[.slice a len cap, .int .i64 0] 59)) := ((Below.refl _ _).alloc (Nat.le_refl _) _).alloc (by simp) _
  have hat : MkAt ((w.alloc (.cells #[.int .i64 0, .int .i64 0, .slice none 0 0] 30)).alloc (.cells #[.slice a len cap, .int .i64 0] 59)) (w.heap.size + 1) a len cap 0 := heap_second _ _ _
  have hR0 : ((w.alloc (.cells #[.int .i64 0, .int .i64 0, .slice none 0 0] 30)).alloc (.cells #[.slice a len cap, .int .i64 0] 59)).heap[w.heap.size]? = some (.cells #[.int .i64 0, .int .i64 0, .slice none 0 0] 30 (0, 0)) := (heap_old _ _ (by simp)).trans (heap_new _ _)
  have HR0 := Lib.hid hR0
  clear hR0
  go_enter Try.func9, Try.ntmps9
  go_wp2_with fail
  refine (mLevel_any p m hp1 hp2 hm1 hm2 4 (w.heap.size + 1) len cap 0 B a 5 _ hat (hin.below (hb0.mono hB)) (by omega) (by decide) (by omega) (by omega)).mono ?_
  rintro e w1 ⟨k, n, F, x, c, t', rfl, hok, hs, hat1, _, hg⟩
  have hR1 := (Only.block hg (b := w.heap.size) (by simp; omega) (by omega)).trans HR0.out
  obtain ⟨r0, r1, r2⟩ := cells3 hR1
  have rf := free_of hR1
  have hlt := lt_of_block hR1
  have hz := hg.size
  simp at hz
  have hb1 : Below w.heap.size w w1 := hb0.trans ⟨hg.os, hg.tape, hg.output, hg.size, fun b hb => Only.block hg (by simp; omega) (by omega)⟩
  have hs1 : SlIn w1 (fun b => w.heap.size + 1 ≤ b ∧ b < w1.heap.size) F x c := hs.weak (fun b hb => ⟨by have := hb.1; simp at this; omega, hb.2⟩)
  have HX := Lib.hid (⟨hok, hs1, hb1⟩ : LvOk p m 5 k n F ∧ SlIn w1 (fun b => w.heap.size + 1 ≤ b ∧ b < w1.heap.size) F x c ∧ Below w.heap.size w w1)
  clear hok hs hat1 hg hR1 hb1 hs1 hat hb0
  go_wp2_with fail
  refine bodyPost_ret (v := .agg #[.int .i64 k, .int .i64 n, .slice x F.len c]) (by simp [results, Try.results9, go_sem, r0, r1, r2]) rfl ?_
  obtain ⟨hok, hs1, hb1⟩ := HX.out
  exact ⟨k, n, F, x, c, rfl, hok, hs1.carry (set3_only _ _ _ _) (by omega) (by omega), ((hb1.setCell (Nat.le_refl _) _).setCell (Nat.le_refl _) _).setCell (Nat.le_refl _) _⟩


end Go.Proofs.Ytmbopdlmkbbbiaa
