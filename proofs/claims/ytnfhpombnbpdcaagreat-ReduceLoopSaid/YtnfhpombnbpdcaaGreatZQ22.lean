/- Tright. No condition but those that stand in each statement. -/
import Derived.Test.YtnfhpombnbpdcaaGreatZQ21
namespace Go.Proofs.YtnfhpombnbpdcaaGreat
open Go.RowKit
set_option maxRecDepth 100000 in
set_option maxHeartbeats 2000000 in
theorem twell_any (k n : Int) (ls : Fo) (f : Ft) (la ka : Option Addr) (lc kc B r : Nat) (w : World) (hls : SlIn w (· < B) ls la lc) (hsl : TlIn w (· < B) f ka kc) (hB : B ≤ w.heap.size) (hm : TabAt w r) :
    Calls Tryz.prog 36 #[.map (some r), .agg #[.int .i64 k, .int .i64 n, .slice la ls.len lc, .slice ka f.len kc]] w fun e w' => e = .returned (.bool (shB k n ls f)) ∧ Below w.heap.size w w' := by
  have hb : Below w.heap.size w (w.alloc (.cells #[.int .i64 k, .int .i64 n, .slice la ls.len lc, .slice ka f.len kc] 30)) := (Below.refl _ _).alloc (Nat.le_refl _) _
  have HC := Lib.hid (tright_any 5 10 1000 k n ls f la ka lc kc B r (w.alloc (.cells #[.int .i64 k, .int .i64 n, .slice la ls.len lc, .slice ka f.len kc] 30)) (hls.below (hb.mono hB)) (hsl.below (hb.mono hB)) (by simp; omega) (hm.alloc _))
  have HS : Hid (tRightB 5 10 1000 k n ls f = shB k n ls f) := Lib.hid rfl
  generalize tRightB 5 10 1000 k n ls f = x at HC HS
  clear hls hsl hm
  go_enter Tryz.func36, Tryz.ntmps36
  go_wp2_with fail
  refine HC.out.mono ?_
  rintro e w2 ⟨rfl, hb2⟩
  go_wp2_with fail
  go_ret
  exact ⟨by rw [HS.out]; rfl, Below.step hb hb2 (Nat.le_refl _)⟩
end Go.Proofs.YtnfhpombnbpdcaaGreat
