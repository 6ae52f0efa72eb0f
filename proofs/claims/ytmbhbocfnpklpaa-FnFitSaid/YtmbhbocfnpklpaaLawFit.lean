/-
  The walk of the law FnFit.
-/
import Derived.Test.YtmbhbocfnpklpaaWideF
import Derived.Test.YtmbhbocfnpklpaaDrawWide
import Derived.Test.YtmbhbocfnpklpaaLawCycBase
namespace Go.Proofs.Ytmbhbocfnpklpaa
set_option maxRecDepth 20000
open Go.ChangeShapes Go.WideShapes Go.ChangeAt Go.RowKit
set_option linter.unusedVariables false
set_option linter.unusedSimpArgs false

theorem scl_neg (a : Nat → Int) : scl (-1) a = fun k => -a k := by
  funext k
  show -1 * a k = -a k
  omega
theorem okc_neg {a : Nat → Int} (h : okc a = true) : okc (scl (-1) a) = true := by
  refine inR_okc fun j hj => ?_
  have := okc_inR h j hj
  rw [scl_neg]
  show -1000000 ≤ -a j ∧ -a j ≤ 1000000
  omega
theorem cmp_neg (x y : Int) : (compare (-x) (-y) == .eq) = (compare x y == .eq) := by
  rcases Int.lt_trichotomy x y with h | h | h
  · rw [Int.compare_eq_lt.2 h, Int.compare_eq_gt.2 (show -y < -x by omega)]; rfl
  · rw [Int.compare_eq_eq.2 h, Int.compare_eq_eq.2 (show -x = -y by omega)]
  · rw [Int.compare_eq_gt.2 h, Int.compare_eq_lt.2 (show -x < -y by omega)]; rfl
theorem fitb_neg (a : Nat → Int) : fitb (scl (-1) a) = fitb a := by
  obtain ⟨e1, e2, e3, e4⟩ := neg_points a 8
  unfold fitb
  rw [scl_neg, e1, e2, e3, e4, cmp_neg, cmp_neg]

set_option maxHeartbeats 4000000 in
theorem lawFnFit_walk (v : Value) (w : World) (h : CodeAt w v) : Calls Try.prog 8 #[v] w (Fine w) := by
  have D := Lib.hid (drawPointsFit v w h)
  obtain ⟨pa, pn, pc, rfl, hpn⟩ := code_length h
  clear h
  by_cases hbig : 1048576 < pn
  · have hb : (1048576 : Int) < (pn : Int) := by omega
    go_enter Try.func8, Try.ntmps8
    go_wp2_with fail
    go_ret
    exact fine_same ⟨rfl, rfl⟩
  have hb : ¬ (1048576 : Int) < (pn : Int) := by omega
  go_enter Try.func8, Try.ntmps8
  go_wp2_with fail
  refine D.out.mono ?_; rintro e w1 ⟨a, rfl, hL⟩
  clear D hb hbig
  have SP := fun w => specPointsFit_any a w
  have IM := fun w => PointsFit_any a w
  have sa := vec_size 8 a
  go_upto_region 4 with (refine store_row rfl rfl rfl rfl (RowAt.newAt zero8 rfl) info_cyc ?_)
  show Code.wp _ _ _ _ (sole w1 a 30)
  have r_a := sole_first w1 a 30
  replace hL := sole_below hL a 30
  generalize w1.heap.size = g_a at *
  generalize sole w1 a 30 = W1 at *
  go_wp2_with ((refine load_row rfl rfl rfl r_a Try.underlying30 rfl info_cyc ?_))
  refine (IM _).mono ?_; rintro e w3 ⟨rfl, hb3⟩
  replace r_a := r_a.below hb3
  replace hL := below_next hL hb3
  clear hb3 IM
  go_wp2_with ((refine load_row rfl rfl rfl r_a Try.underlying30 rfl info_cyc ?_))
  refine (SP _).mono ?_; rintro e w4 ⟨rfl, hb4⟩
  replace r_a := r_a.below hb4
  replace hL := below_next hL hb4
  clear hb4 SP
  cases hv : (okc a && fitb a)
  · clear r_a
    go_wp2_with fail
    go_ret
    exact ⟨rfl, hL⟩
  · rw [Bool.and_eq_true] at hv
    obtain ⟨va, fa⟩ := hv
    have CS := fun w => CycScale_yes a (-1) va (by omega) w
    rw [ans_yes (okc_neg va)] at CS
    have IN := fun w => PointsFit_any (scl (-1) a) w
    rw [fitb_neg, okc_neg va, fa] at IN
    have sn := vec_size 8 (scl (-1) a)
    clear va fa
    unfold pt at *
    generalize scl (-1) a = b at *
    go_wp2_with ((refine load_row rfl rfl rfl r_a Try.underlying30 rfl info_cyc ?_))
    refine (CS _).mono ?_; rintro e w5 ⟨rfl, hb5⟩
    replace hL := below_next hL hb5
    clear hb5 CS r_a
    go_upto_region 9 with (refine store_row rfl rfl rfl rfl (RowAt.newAt zero8 rfl) info_cyc ?_)
    show Code.wp _ _ _ _ (sole w5 b 30)
    have r_b := sole_first w5 b 30
    replace hL := sole_below hL b 30
    generalize sole w5 b 30 = W2 at *
    have p0 := r_b.cell (k := 0) (by omega)
    have p1 := r_b.cell (k := 1) (by omega)
    have p2 := r_b.cell (k := 2) (by omega)
    have p3 := r_b.cell (k := 3) (by omega)
    have p4 := r_b.cell (k := 4) (by omega)
    have p5 := r_b.cell (k := 5) (by omega)
    have p6 := r_b.cell (k := 6) (by omega)
    have p7 := r_b.cell (k := 7) (by omega)
    generalize w5.heap.size = g_b at *
    go_wp2_with fail
    refine (IN _).mono ?_; rintro e w6 ⟨rfl, hb6⟩
    replace hL := below_next hL hb6
    clear hb6 IN r_b
    go_wp2_with fail
    go_ret
    exact ⟨rfl, hL⟩
end Go.Proofs.Ytmbhbocfnpklpaa
