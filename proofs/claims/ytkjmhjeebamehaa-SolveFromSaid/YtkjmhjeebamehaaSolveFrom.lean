/- For all numbers the law SolveFrom returns true: what From tells of clauses by numbers is the least model that is no less, from what it told the same, and there is one just if there is one at all. No condition. -/
import Derived.Test.YtkjmhjeebamehaaJawake
import Derived.Test.YtkjmhjeebamehaaJfrom
import Derived.Test.YtkjmhjeebamehaaHrbroken
import Derived.Test.YtkjmhjeebamehaaHlow
import Derived.Test.YtkjmhjeebamehaaHopen
import Derived.Carry
namespace Go.Proofs.Ytkjmhjeebamehaa.solveFrom
open Go.ChangeShapes Go.WideShapes Go.ChangeAt Go.RowKit

theorem zeros_make (V : Nat) (hV : V ≤ 1000) (W : World) : ∃ W0, (Instr.makeSlice 28 (.int .i64 V) (.int .i64 V)).run Try.prog W = .ok (.slice (some ⟨W.heap.size, 0, none⟩) V V) W0 ∧ Hid (Below W.heap.size W W0) ∧ Hid (NumB W0 W.heap.size (zerosJ V)) :=
  ⟨_, make_nums V hV W, Lib.hid ((Below.refl _ _).alloc (Nat.le_refl _) _), Lib.hid (heap_new _ _)⟩
theorem from_at {V : Nat} {l : List Cl} {m : List Int} {x am : Option Addr} {c cm : Nat} {W1 W2 W : World} (hc : ClsIn W1 (· < W1.heap.size) l x c) (b1 : Below W1.heap.size W1 W) (hi : IntsIn W2 (· < W2.heap.size) m am cm) (b2 : Below W2.heap.size W2 W) (hm : m.length = V) :
    Calls Try.prog 16 #[.slice x l.length c, .slice am V cm] W (FmPost l m W) := by
  subst hm
  exact jFrom_any m l x am c cm W.heap.size W ((hc.below b1).mono b1.size) ((hi.below b2).mono b2.size) (Nat.le_refl _)
theorem broken_at {V : Nat} {l : List Cl} {m : List Int} {x am : Option Addr} {c cm : Nat} {W1 W2 W : World} (hc : ClsIn W1 (· < W1.heap.size) l x c) (b1 : Below W1.heap.size W1 W) (hi : IntsIn W2 (· < W2.heap.size) m am cm) (b2 : Below W2.heap.size W2 W) (hm : m.length = V) (hr : hrB V l = true) (hn : natsB m = true) :
    Calls Try.prog 14 #[.slice x l.length c, .slice am V cm] W (RowPost (brkL m l) 0 W) := by
  have hk := bk_ok (brkOk_mk hr hm hn)
  subst hm
  have := r8Broken_any m l x am c cm W.heap.size W ((hc.below b1).mono b1.size) ((hi.below b2).mono b2.size) (Nat.le_refl _)
  rwa [hk.1, hk.2] at this

set_option maxRecDepth 100000 in
set_option maxHeartbeats 16000000 in
theorem walk (n : Int) (h0 : 0 ≤ n) (h1 : n < 256) (ll cl lv cv lz cz B : Nat) (al av az : Option Addr) (w : World) (hl : ByIn w (· < B) ll al cl) (hv : ByIn w (· < B) lv av cv) (hz : ByIn w (· < B) lz az cz) (hB : B ≤ w.heap.size) :
    Calls Try.prog 6 #[.int .u8 n, .slice al ll cl, .slice av lv cv, .slice az lz cz] w fun e w' => e = .returned (.bool true) ∧ Below w.heap.size w w' := by
  have CM := Lib.hid (fun W (h : Below w.heap.size w W) => made8_low n h0 h1 ll cl B al W (hl.below (h.mono hB)) (Nat.le_trans hB h.size))
  have CD := Lib.hid (fun W (h : Below w.heap.size w W) => model8_any n h0 h1 lv cv B av W (hv.below (h.mono hB)) (Nat.le_trans hB h.size))
  have CZ := Lib.hid (fun W (h : Below w.heap.size w W) => model8_any n h0 h1 lz cz B az W (hz.below (h.mono hB)) (Nat.le_trans hB h.size))
  have CV := Lib.hid (fun W => vars8_any n h0 h1 W)
  have hV := varsN_bd n
  generalize varsN n = V at CM CD CZ CV hV
  obtain ⟨hV1, hV2⟩ := hV
  clear hl hv hz
  go_enter Try.func6, Try.ntmps6
  go_wp2_with fail
  refine (awake9_any _).mono ?_
  rintro e w1 ⟨rfl, b1⟩
  have B1 := Lib.hid b1
  clear b1
  go_wp2_with fail
  refine (CV.out _).mono ?_
  rintro e w' ⟨rfl, rfl⟩
  go_wp2_with fail
  refine (CM.out _ B1.out).mono ?_
  rintro e w2 ⟨l, x, c, rfl, hco, hall, h30, hto, b2⟩
  have HC := Lib.hid (hco.cls.weak (Q := (· < w2.heap.size)) (fun b hb => hb.2))
  have B2 := Lib.hid (Below.step B1.out b2 (Nat.le_refl _))
  have HR := Lib.hid (hrB_mk (V := V) (l := l) (by omega) (by omega) (by omega) hall)
  have HTO := Lib.hid hto
  clear hco b2 hall h30 hto
  go_wp2_with fail
  refine (CD.out _ B2.out).mono ?_
  rintro e w3 ⟨m, hml, hlow, rfl, hnb, b3⟩
  have HM := Lib.hid (hnb.ints (cap := V) (by omega) (by omega))
  have HML := Lib.hid hml
  have HLO := Lib.hid hlow
  have B3 := Lib.hid (Below.step B2.out b3 (Nat.le_refl _))
  have L23 := Lib.hid b3
  clear hnb b3 hlow hml
  go_wp2_with fail
  refine (CZ.out _ B3.out).mono ?_
  rintro e w4 ⟨m2, hml, hlow, rfl, hnb, b4⟩
  have HM2 := Lib.hid (hnb.ints (cap := V) (by omega) (by omega))
  have HML2 := Lib.hid hml
  have HLO2 := Lib.hid hlow
  have B4 := Lib.hid (Below.step B3.out b4 (Nat.le_refl _))
  have L34 := Lib.hid b4
  have L24 := Lib.hid (Below.step L23.out b4 (Nat.le_refl _))
  clear hnb b4 hlow hml
  go_wp2_with fail
  refine (jSolve_any V (by omega) l x c w4.heap.size w4 ((HC.out.below L24.out).mono L24.out.size) (Nat.le_refl _)).mono ?_
  rintro e w5 ⟨a, is, nn, er, xa, ca, rfl, hs, ho, b5⟩
  obtain ⟨hs1, rfl⟩ : TellJ l (zerosJ V) (((V : Int) - 1) * mostD 0 l) a is nn ∧ er = 0 := by
    rcases hs with ⟨_, ht, rfl⟩ | ⟨h, _⟩
    · exact ⟨ht, rfl⟩
    · rw [HR.out] at h; cases h
  have HS := Lib.hid hs1
  have RA := Lib.hid (RowL.of ho)
  have B5 := Lib.hid (Below.step B4.out b5 (Nat.le_refl _))
  have L25 := Lib.hid (Below.step L24.out b5 (Nat.le_refl _))
  have L35 := Lib.hid (Below.step L34.out b5 (Nat.le_refl _))
  have L45 := Lib.hid b5
  clear hs hs1 ho b5 L23 L34 L24
  obtain ⟨W0, hmk, HB0, HN0⟩ := zeros_make V (by omega) w5
  go_wp2_with fail
  refine (from_at HC.out (Below.step L25.out HB0.out (Nat.le_refl _)) (HN0.out.ints (cap := V) (by rw [zerosJ_len]; omega) (by omega)) (Below.refl _ _) (zerosJ_len V)).mono ?_
  rintro e w6 ⟨b, also, f, xb, cb, rfl, hfb, ho, b6⟩
  have HFB := Lib.hid hfb
  have RB := Lib.hid (RowL.of ho)
  have L56 := Lib.hid (Below.step HB0.out b6 (Nat.le_refl _))
  have B6 := Lib.hid (Below.step B5.out L56.out (Nat.le_refl _))
  have L26 := Lib.hid (Below.step L25.out L56.out (Nat.le_refl _))
  have L36 := Lib.hid (Below.step L35.out L56.out (Nat.le_refl _))
  have L46 := Lib.hid (Below.step L45.out L56.out (Nat.le_refl _))
  clear hfb ho b6 hmk HB0 HN0 L25 L35 L45
  go_wp2_with fail
  refine (from_at HC.out L26.out HM.out L36.out HML.out).mono ?_
  rintro e w7 ⟨y, so, g, xy, cy, rfl, hfy, ho, b7⟩
  obtain ⟨rfl, rfl, rfl, rfl, rfl, hno, hyes⟩ := from_facts (by omega) (by omega) HR.out HTO.out HML.out HLO.out HS.out HFB.out hfy
  have RY := Lib.hid (RowL.of ho)
  have B7 := Lib.hid (Below.step B6.out b7 (Nat.le_refl _))
  have L57 := Lib.hid (Below.step L56.out b7 (Nat.le_refl _))
  have L67 := Lib.hid b7
  have L27 := Lib.hid (Below.step L26.out b7 (Nat.le_refl _))
  have L37 := Lib.hid (Below.step L36.out b7 (Nat.le_refl _))
  have L47 := Lib.hid (Below.step L46.out b7 (Nat.le_refl _))
  have HNO := Lib.hid hno
  have HYES := Lib.hid hyes
  clear hfy ho b7 hno hyes L26 L36 L46 L56 HFB HS
  go_wp2_with fail
  refine (ints_eq RA.out L57.out RB.out L67.out _ rfl).mono ?_
  rintro e w8 ⟨rfl, b8⟩
  have B8 := Lib.hid (Below.step B7.out b8 (Nat.le_refl _))
  have L28 := Lib.hid (Below.step L27.out b8 (Nat.le_refl _))
  have L38 := Lib.hid (Below.step L37.out b8 (Nat.le_refl _))
  have L48 := Lib.hid (Below.step L47.out b8 (Nat.le_refl _))
  have L78 := Lib.hid b8
  clear b8 L27 L37 L47 L57 L67 RA RB CM CD CZ CV
  cases so with
  | false =>
    obtain rfl := HNO.out rfl
    clear HYES HNO RY HM HM2 HML HML2 HLO HLO2 HC HR HTO
    go_wp2_with fail
    go_ret
    exact ⟨rfl, B8.out⟩
  | true =>
    obtain ⟨hle, hyl, hyn, hymx⟩ := HYES.out rfl
    have HLE := Lib.hid hle
    have HYN := Lib.hid hyn
    have HYM := Lib.hid hymx
    have HYL := Lib.hid hyl
    rw [hyl]
    clear HYES HNO hle hyn hymx hyl HTO
    go_wp2_with fail
    refine (from_at HC.out L28.out (RY.out w7 (Below.refl _ _)).1 L78.out HYL.out).mono ?_
    rintro e w9 ⟨z, t, hh, xz, cz', rfl, hfz, ho, b9⟩
    obtain ⟨e1, rfl, rfl⟩ := from_again HR.out HYL.out HYN.out HYM.out HLE.out.2.1 hfz
    obtain rfl := e1.symm
    have RZ := Lib.hid (RowL.of ho)
    rw [HYL.out]
    have B9 := Lib.hid (Below.step B8.out b9 (Nat.le_refl _))
    have L29 := Lib.hid (Below.step L28.out b9 (Nat.le_refl _))
    have L39 := Lib.hid (Below.step L38.out b9 (Nat.le_refl _))
    have L49 := Lib.hid (Below.step L48.out b9 (Nat.le_refl _))
    have L79 := Lib.hid (Below.step L78.out b9 (Nat.le_refl _))
    clear hfz ho b9 L28 L38 L48 L78 HYM
    go_wp2_with fail
    have CB := broken_at HC.out L29.out (RY.out w7 (Below.refl _ _)).1 L79.out HYL.out HR.out HYN.out
    rw [brkL_none.2 HLE.out.2.1] at CB
    refine CB.mono ?_
    clear CB
    rintro e w10 ⟨xq, cq, rfl, _, b10⟩
    have B10 := Lib.hid (Below.step B9.out b10 (Nat.le_refl _))
    have L2 := Lib.hid (Below.step L29.out b10 (Nat.le_refl _))
    have L3 := Lib.hid (Below.step L39.out b10 (Nat.le_refl _))
    have L4 := Lib.hid (Below.step L49.out b10 (Nat.le_refl _))
    have L7 := Lib.hid (Below.step L79.out b10 (Nat.le_refl _))
    have L9 := Lib.hid b10
    clear b10 L29 L39 L49 L79
    go_wp2_with fail
    refine (broken_at HC.out L2.out HM2.out L4.out HML2.out HR.out HLO2.out.nats).mono ?_
    rintro e w11 ⟨xr, cr, rfl, hor, b11⟩
    have hlb := hor.ints.len
    have B11 := Lib.hid (Below.step B10.out b11 (Nat.le_refl _))
    have M3 := Lib.hid (Below.step L3.out b11 (Nat.le_refl _))
    have M4 := Lib.hid (Below.step L4.out b11 (Nat.le_refl _))
    have M7 := Lib.hid (Below.step L7.out b11 (Nat.le_refl _))
    have M9 := Lib.hid (Below.step L9.out b11 (Nat.le_refl _))
    have HBK : Hid ((brkL m2 l).length = 0 → ModJ l m2) := Lib.hid (fun h => brk_nil h)
    generalize (brkL m2 l).length = nb at HBK hlb
    clear hor b11 L2 L3 L4 L7 L9
    go_wp2_with fail
    refine (ints_eq RY.out M7.out RZ.out M9.out V HYL.out).mono ?_
    rintro e w12 ⟨rfl, b12⟩
    have B12 := Lib.hid (Below.step B11.out b12 (Nat.le_refl _))
    have N3 := Lib.hid (Below.step M3.out b12 (Nat.le_refl _))
    have N4 := Lib.hid (Below.step M4.out b12 (Nat.le_refl _))
    have N7 := Lib.hid (Below.step M7.out b12 (Nat.le_refl _))
    clear b12 M3 M4 M7 M9
    go_wp2_with fail
    go_loopw [31, 32] (fun mv iv wr => ∃ (i : Nat) (mo : Bool), mv = .bool mo ∧ iv = .int .i64 i ∧ i ≤ V ∧ Hid (mo = true → ∀ j, j < i → m.getD j 0 ≤ m2.getD j 0) ∧ Hid (Below w12.heap.size w12 wr)) (fun _ iv _ => V - (intOf iv).toNat)
    case atStart => exact ⟨0, true, rfl, rfl, by omega, Lib.hid (fun _ j h => absurd h (by omega)), Lib.hid (Below.refl _ _)⟩
    case round =>
      obtain ⟨i, mo, rfl, rfl, hi, hmo, hb⟩ := hrel
      by_cases hlt : i < V
      · obtain ⟨gg, o, rfl, ey⟩ := RY.out.cell (Below.step N7.out hb.out (Nat.le_refl _)) (i := i) (by rw [HYL.out]; exact hlt)
        have em := num_cell HM.out (Below.step N3.out hb.out (Nat.le_refl _)) (i := i) (by rw [HML.out]; exact hlt)
        have em2 := num_cell HM2.out (Below.step N4.out hb.out (Nat.le_refl _)) (i := i) (by rw [HML2.out]; exact hlt)
        have hge := HLE.out.1.2 i
        have hi0 : (0 : Int) ≤ (i : Int) := by omega
        have hlt' : (i : Int) < (V : Int) := by omega
        have HUP := Lib.hid (fun (hm : mo = true) (h : m.getD i 0 ≤ m2.getD i 0) => up_to (p := fun j => m.getD j 0 ≤ m2.getD j 0) (hmo.out hm) h)
        have HBN : Hid (∀ k, Below w12.heap.size w12 (wr.drewN k)) := Lib.hid (fun k => Below.draws hb.out k)
        generalize y.getD i 0 = p at ey hge
        generalize m.getD i 0 = q at em hge HUP
        generalize m2.getD i 0 = r at em2 HUP
        have d1 : decide (p < q) = false := decide_eq_false (by omega)
        have em' : ∀ k, (wr.drewN k).cell? ⟨w2.heap.size, i, none⟩ = some (.int .i64 q) := fun _ => em
        have em2' : ∀ k, (wr.drewN k).cell? ⟨w3.heap.size, i, none⟩ = some (.int .i64 r) := fun _ => em2
        cases mo with
        | false =>
          clear HUP
          go_wp2_with fail
          go_quiet (fail)
          go_wp2_with fail
          go_quiet (fail)
          go_wp2_with fail
          go_roundw
          case rel => exact ⟨i + 1, false, rfl, by go_num, by omega, Lib.hid (fun h => by cases h), Lib.hid (HBN.out _)⟩
          case measure => simp [intOf]; omega
        | true =>
          by_cases hqr : q ≤ r
          · have HN := Lib.hid (HUP.out rfl hqr)
            have d2 : decide (q ≤ r) = true := decide_eq_true hqr
            clear HUP
            go_wp2_with fail
            go_quiet (fail)
            go_wp2_with fail
            go_quiet (fail)
            go_wp2_with fail
            go_roundw
            case rel => exact ⟨i + 1, true, rfl, by go_num, by omega, Lib.hid (fun _ => HN.out), Lib.hid (HBN.out _)⟩
            case measure => simp [intOf]; omega
          · have d2 : decide (q ≤ r) = false := decide_eq_false hqr
            clear HUP
            go_wp2_with fail
            go_quiet (fail)
            go_wp2_with fail
            go_quiet (fail)
            go_wp2_with fail
            go_roundw
            case rel => exact ⟨i + 1, false, rfl, by go_num, by omega, Lib.hid (fun h => by cases h), Lib.hid (HBN.out _)⟩
            case measure => simp [intOf]; omega
      · have hlt' : ¬ (i : Int) < (V : Int) := by omega
        have HLM : Hid (mo = true → nb = 0 → ∀ j, y.getD j 0 ≤ m2.getD j 0) := Lib.hid (fun hm hn => by
          have h1 : LeM m m2 := ⟨HML.out.trans HML2.out.symm, fun j => by
            by_cases hj : j < i
            · exact hmo.out hm j hj
            · rw [getD_out (by have := HML.out; omega), getD_out (by have := HML2.out; omega)]; exact Int.le_refl _⟩
          exact (HLE.out.2.2 m2 h1 (HBK.out hn)).2)
        have HBW := Lib.hid (Below.step B12.out hb.out (Nat.le_refl _))
        have P4 := Lib.hid (Below.step N4.out hb.out (Nat.le_refl _))
        have P7 := Lib.hid (Below.step N7.out hb.out (Nat.le_refl _))
        clear hmo
        obtain ⟨wl, rfl⟩ : ∃ wl, wl = wr := ⟨_, rfl⟩
        go_wp2_with fail
        go_loopw [33] (fun iv wr => ∃ k : Nat, iv = .int .i64 k ∧ k ≤ V ∧ Hid (Below wl.heap.size wl wr)) (fun iv _ => V - (intOf iv).toNat)
        case atStart => exact ⟨0, rfl, by omega, Lib.hid (Below.refl _ _)⟩
        case round =>
          obtain ⟨k, rfl, hk, hb2⟩ := hrel
          by_cases hkl : k < V
          · obtain ⟨gg, o, rfl, ey⟩ := RY.out.cell (Below.step P7.out hb2.out (Nat.le_refl _)) (i := k) (by rw [HYL.out]; exact hkl)
            have em2 := num_cell HM2.out (Below.step P4.out hb2.out (Nat.le_refl _)) (i := k) (by rw [HML2.out]; exact hkl)
            have hk0 : (0 : Int) ≤ (k : Int) := by omega
            have hkl' : (k : Int) < (V : Int) := by omega
            have HLK := Lib.hid (fun hm hn => HLM.out hm hn k)
            have HBN : Hid (∀ k, Below wl.heap.size wl (wr.drewN k)) := Lib.hid (fun k => Below.draws hb2.out k)
            generalize y.getD k 0 = p at ey HLK
            generalize m2.getD k 0 = r at em2 HLK
            cases mo with
            | false =>
              clear HLK HLM
              go_wp2_with fail
              go_quiet (fail)
              go_wp2_with fail
              go_roundw
              case rel => exact ⟨k + 1, by go_num, by omega, Lib.hid (HBN.out _)⟩
              case measure => simp [intOf]; omega
            | true =>
              by_cases hnb : nb = 0
              · have d2 : decide (r < p) = false := decide_eq_false (by have := HLK.out rfl hnb; omega)
                clear HLK HLM
                subst hnb
                go_wp2_with fail
                go_quiet (fail)
                go_wp2_with fail
                go_roundw
                case rel => exact ⟨k + 1, by go_num, by omega, Lib.hid (HBN.out _)⟩
                case measure => simp [intOf]; omega
              · have d3 : ((nb : Int) == 0) = false := by simpa using hnb
                clear HLK HLM
                go_wp2_with fail
                go_quiet (fail)
                go_wp2_with fail
                go_roundw
                case rel => exact ⟨k + 1, by go_num, by omega, Lib.hid (HBN.out _)⟩
                case measure => simp [intOf]; omega
          · have hkl' : ¬ (k : Int) < (V : Int) := by omega
            have HE := Lib.hid (Below.step HBW.out hb2.out (Nat.le_refl _))
            go_wp2_with fail
            go_ret
            exact ⟨rfl, HE.out⟩

theorem own : ownKnob Try.prog.godebug = none := by kernel_rfl

set_option maxRecDepth 100000 in
theorem lifted (os : Os) (started : os.Started) (H : Type) (enc : TypeId × Value → H) :
    ReturnsInHanded {} Try.checked os 6 .any (Rows.solveFromSpec.pre6 enc Try.prog Try.f6 Rows.solveFromRow.domain false) (Rows.solveFromSpec.post enc Try.prog Try.f6 false true false false) := by
  refine returnsInHanded_of_change (C := Try.checked) own started (by kernel_rfl) Try.func6
    (ChangeSpec.witness6 (enc := enc) (C := Try.checked) false ⟨#[], #[.int .u8 0, .slice none 0 0, .slice none 0 0, .slice none 0 0], []⟩ 8 (by kernel_rfl) (by kernel_rfl) (by kernel_rfl) (by kernel_rfl)) ?_
  intro W base args ds gs before hval0 hW hcnd _
  have hval : ∀ (j : Nat) t v, Try.f6.params[j]? = some t → args[j]? = some v → Value.okWide Try.prog W .any base t v := hval0
  have hW' := hW
  obtain ⟨p, q, hA0, hV, rfl, hfz, hnd⟩ := hW
  have hA : DataW.TrodAll enc Try.prog W 0 (fun _ => true) true Try.f6.params.toList args.toList ds p := hA0
  rw [Try.params6] at hA hval
  obtain ⟨v0, vs0, d0, ds0, p0, q0, hargs, rfl, rfl, h0, hr0⟩ := trodAll_cons hA
  obtain ⟨v1, vs1, d1, ds1, p1, q1, rfl, rfl, rfl, h1, hr1⟩ := trodAll_cons hr0
  obtain ⟨v2, vs2, d2, ds2, p2, q2, rfl, rfl, rfl, h2, hr2⟩ := trodAll_cons hr1
  obtain ⟨v3, vs3, d3, ds3, p3, q3, rfl, rfl, rfl, h3, hr3⟩ := trodAll_cons hr2
  obtain ⟨rfl, rfl, rfl⟩ := trodAll_nil hr3
  obtain rfl : args = #[v0, v1, v2, v3] := by cases args; simp_all
  obtain ⟨rfl, rfl⟩ := trodVars_none hV
  obtain ⟨N, rfl, rfl, rfl, w0⟩ := open_int Try.underlying5 (hval 0 5 v0 rfl rfl) h0
  obtain ⟨ll, al, cl, rfl, hs1⟩ := h_arg_bytes (hval 1 22 v1 rfl rfl) h1
  obtain ⟨lv, av, cv, rfl, hs2⟩ := h_arg_bytes (hval 2 22 v2 rfl rfl) h2
  obtain ⟨lz, az, cz, rfl, hs3⟩ := h_arg_bytes (hval 3 22 v3 rfl rfl) h3
  have hN := h_u8_range w0
  have hlt := hW'.lt
  refine (walk N hN.1 hN.2 ll cl lv cv lz cz W.heap.size al av az W hs1 hs2 hs3 (Nat.le_refl _)).mono fun e W' ⟨he, hb⟩ => ?_
  subst he
  have t1 := Below.trod h_laidOut (by kernel_rfl) (of_decide_eq_true (by kernel_rfl)) h1 hb (fun x hx => hlt x (by simp [hx]))
  have t2 := Below.trod h_laidOut (by kernel_rfl) (of_decide_eq_true (by kernel_rfl)) h2 hb (fun x hx => hlt x (by simp [hx]))
  have t3 := Below.trod h_laidOut (by kernel_rfl) (of_decide_eq_true (by kernel_rfl)) h3 hb (fun x hx => hlt x (by simp [hx]))
  exact ⟨_, rfl, ⟨_, _, _, [], _, [], hW', trodAll_mk1 (shut_bool Try.underlying4 _), ⟨_, _, shut_int Try.underlying5 w0, trodAll_mk3 t1 t2 t3, rfl⟩, rfl, hb.frame _, fun h => by cases h⟩⟩

theorem over : Rows.solveFromRow.holds Try.pinned (OpenSpec.ofChange Rows.solveFromSpec) :=
  OpenClaim.holds_of_wide 6 Try.f6 rfl rfl rfl rfl rfl rfl rfl ⟨rfl, rfl, rfl, rfl, rfl⟩ rfl rfl rfl rfl rfl (by kernel_rfl) Try.func6 (by kernel_rfl)
    (of_decide_eq_true (by kernel_rfl)) (by unfold Func.isWrapper; first | (rw [if_pos (by decide +kernel)]; kernel_rfl) | (rw [if_neg (by decide +kernel)]; exact ⟨rfl, rfl⟩))
    (fun os started H enc _ => lifted os started H enc)

/-- THE STATEMENT -/
theorem proved : Rows.SolveFromSaid :=
  over
#print axioms proved
end Go.Proofs.Ytkjmhjeebamehaa.solveFrom
