/-
  What the laws of points say of how near both widths and floatOf are.
-/
import Derived.Test.YtmbhbocfnpklpaaWideF
import Derived.Test.YtmbhbocfnpklpaaWideN
import Derived.Test.YtmbhbocfnpklpaaFloatE
import Derived.Test.YtmbhbocfnpklpaaDrawWide
import Derived.Test.YtmbhbocfnpklpaaLawCycBase
import Derived.Test.YtmbhbocfnpklpaaSurdF
namespace Go.Proofs.Ytmbhbocfnpklpaa
set_option maxRecDepth 20000
open Go.ChangeShapes Go.WideShapes Go.ChangeAt Go.RowKit
set_option linter.unusedVariables false
set_option linter.unusedSimpArgs false

theorem run_ceqS {p q x y : Nat} {o1 o2 : Ordering} (h1 : FloatKind.f32.format.order p x = some o1) (h2 : FloatKind.f32.format.order q y = some o2) (t : TypeId) (w : World) :
    (binOp .eql t (.complex .f32 p q) (.complex .f32 x y)).run Try.prog w = .ok (.bool (o1 == .eq && o2 == .eq)) w := by
  cases o1 <;> cases o2 <;> simp [binOp, Op.complexOp, Op.Complex.cmp, Op.floatCmp, h1, h2, go_sem, asBool]
theorem ord_selfS {x : Nat} {v : Int} (h : ValS x v) : FloatKind.f32.format.order x x = some .eq := by
  have := order_val h h
  rw [Int.compare_eq_eq.2 rfl] at this
  exact this
theorem thou_succ {a : Nat → Int} {k : Nat} (h : ∀ j, j < k → -1000 ≤ a j ∧ a j ≤ 1000) (h1 : -1000 ≤ a k) (h2 : a k ≤ 1000) : ∀ j, j < k + 1 → -1000 ≤ a j ∧ a j ≤ 1000 := by
  intro j hj
  by_cases hjk : j < k
  · exact h j hjk
  · obtain rfl : j = k := by omega
    exact ⟨h1, h2⟩
def Thou (c : Nat → Int) : Prop := ∀ j, j < 8 → -1000 ≤ c j ∧ c j ≤ 1000
theorem less_hundredth {x y : Nat} {u v : Int} (hx : ValD x u) (hy : ValD y v) (h : -6490371073168534535663120411525 ≤ u - v ∧ u - v ≤ 6490371073168534535663120411525) :
    ∃ d, floatBits .sub .f64 x y = some d ∧ FloatKind.f64.format.order (mgn d) 4576918229304087675 = some .lt := by
  obtain ⟨d, hd, vd⟩ := sub_val stdD hx hy (by omega)
  refine ⟨d, hd, ?_⟩
  have hb := rnd_bound 52 (u - v) 6490371073168534535663120411525 (by omega) (by omega)
  generalize rnd 52 (u - v) = r at *
  have ho := order_val (mgn_val vd) hundredth_val
  rw [show FloatKind.f64.format = Ieee.double from rfl, ho, Int.compare_eq_lt.2 (by omega)]
theorem near_hundredth {c : Nat → Int} (hc : Thou c) {p q x y : Nat} (vp : ValD p (vsr c 8)) (vq : ValD q (vsi c 8)) (vx : ValD x (vwr c 8)) (vy : ValD y (vwi c 8)) (w : World) :
    Calls Try.prog 34 #[.complex .f64 p q, .complex .f64 x y, .float .f64 4576918229304087675] w fun e w' => e = .returned (.bool true) ∧ w' = w := by
  have a1 := wide_errr hc
  have a2 := sing_errr hc
  have a3 := wide_erri hc
  have a4 := sing_erri hc
  obtain ⟨d1, h1, o1⟩ := less_hundredth vp vx (by omega)
  obtain ⟨d2, h2, o2⟩ := less_hundredth vq vy (by omega)
  exact PointsNear_some h1 h2 o1 o2 w
theorem within_nano {x y : Nat} {u v : Int} (hx : ValD x u) (hy : ValD y v) (h : -600000000000000000000000 ≤ u - v ∧ u - v ≤ 600000000000000000000000) (w : World) :
    Calls Try.prog 21 #[.float .f64 x, .float .f64 y, .float .f64 4472406533629990549] w fun e w' => e = .returned (.bool true) ∧ w' = w := by
  obtain ⟨d, hd, vd⟩ := sub_val stdD hx hy (by omega)
  obtain ⟨d', hd', vd'⟩ := sub_val stdD hy hx (by omega)
  have b1 := rnd_bound 52 (u - v) 600000000000000000000000 (by omega) (by omega)
  have b2 := rnd_bound 52 (v - u) 600000000000000000000000 (by omega) (by omega)
  generalize rnd 52 (u - v) = r at *
  generalize rnd 52 (v - u) = r' at *
  have o1 := order_val vd nano_val
  have o2 := order_val vd' nano_val
  rw [Int.compare_eq_lt.2 (by omega)] at o1 o2
  exact within_yes hd hd' o1 o2 w
theorem floatOf_all (a b c d : Int) {x1 x2 x3 y1 y2 y3 z : Nat} (h1 : Ieee.double.mul (floatOfInt .f64 b) 4609047870845172685 = some x1) (h2 : Ieee.double.add (floatOfInt .f64 a) x1 = some y1) (h3 : Ieee.double.mul (floatOfInt .f64 c) 4610479282544200874 = some x2) (h4 : Ieee.double.add y1 x2 = some y2)
    (h5 : Ieee.double.mul (floatOfInt .f64 d) 4612698179346440494 = some x3) (h6 : Ieee.double.add y2 x3 = some y3) (h7 : Ieee.double.div y3 4616189618054758400 = some z) (w : World) :
    Calls Try.prog 30 #[sv a b c d] w fun e w' => e = .returned (.float .f64 z) ∧ Below w.heap.size w w' := by
  have R1 : ∀ t w, (binOp .mul t (.float .f64 (floatOfInt .f64 b)) (.float .f64 4609047870845172685)).run Try.prog w = .ok (.float .f64 x1) w := fun t w => run_float_arith w .mul t .f64 _ _ _ h1
  have R2 : ∀ t w, (binOp .add t (.float .f64 (floatOfInt .f64 a)) (.float .f64 x1)).run Try.prog w = .ok (.float .f64 y1) w := fun t w => run_float_arith w .add t .f64 _ _ _ h2
  have R3 : ∀ t w, (binOp .mul t (.float .f64 (floatOfInt .f64 c)) (.float .f64 4610479282544200874)).run Try.prog w = .ok (.float .f64 x2) w := fun t w => run_float_arith w .mul t .f64 _ _ _ h3
  have R4 : ∀ t w, (binOp .add t (.float .f64 (y1)) (.float .f64 x2)).run Try.prog w = .ok (.float .f64 y2) w := fun t w => run_float_arith w .add t .f64 _ _ _ h4
  have R5 : ∀ t w, (binOp .mul t (.float .f64 (floatOfInt .f64 d)) (.float .f64 4612698179346440494)).run Try.prog w = .ok (.float .f64 x3) w := fun t w => run_float_arith w .mul t .f64 _ _ _ h5
  have R6 : ∀ t w, (binOp .add t (.float .f64 (y2)) (.float .f64 x3)).run Try.prog w = .ok (.float .f64 y3) w := fun t w => run_float_arith w .add t .f64 _ _ _ h6
  have R7 : ∀ t w, (binOp .quo t (.float .f64 (y3)) (.float .f64 4616189618054758400)).run Try.prog w = .ok (.float .f64 z) w := fun t w => run_float_arith w .quo t .f64 _ _ _ h7
  clear h1 h2 h3 h4 h5 h6 h7
  unfold sv
  go_enter Try.func30, Try.ntmps30
  go_wp2_with (first | rw [R1] | rw [R2] | rw [R3] | rw [R4] | rw [R5] | rw [R6] | rw [R7])
  go_ret
  exact ⟨rfl, wb_one _ _⟩
def reaV (a : Nat → Int) : Value := sv (rea a 0) (rea a 1) (rea a 2) (rea a 3)
def imaV (a : Nat → Int) : Value := sv (ima a 0) (ima a 1) (ima a 2) (ima a 3)
theorem near_re {a : Nat → Int} (hc : Thou a) {x : Nat} (vx : ValD x (vwr a 8)) :
    ∃ z, (∀ w, Calls Try.prog 30 #[reaV a] w fun e w' => e = .returned (.float .f64 z) ∧ Below w.heap.size w w') ∧ (∀ w, Calls Try.prog 21 #[.float .f64 x, .float .f64 z, .float .f64 4472406533629990549] w fun e w' => e = .returned (.bool true) ∧ w' = w) := by
  have h0 := hc 0 (by omega); have h1 := hc 1 (by omega); have h2 := hc 2 (by omega); have h3 := hc 3 (by omega); have h4 := hc 4 (by omega); have h5 := hc 5 (by omega); have h6 := hc 6 (by omega); have h7 := hc 7 (by omega)
  have a1 := wide_errr hc
  have a2 := est_xr hc
  obtain ⟨x1, x2, x3, y1, y2, y3, z, r, m1, s1, m2, s2, m3, s3, hz, vz, r1, r2⟩ := floatOf_near (4 * a 0 + 2 * a 4) (a 1 + 2 * a 3 - a 5 + a 7) (2 * a 2) (a 1 + a 5 - a 7) (by omega) (by omega) (by omega) (by omega)
  clear h0 h1 h2 h3 h4 h5 h6 h7 hc
  refine ⟨z, fun w => floatOf_all _ _ _ _ m1 s1 m2 s2 m3 s3 hz w, fun w => within_nano vx vz ?_ w⟩
  generalize estR (4 * a 0 + 2 * a 4) (a 1 + 2 * a 3 - a 5 + a 7) (2 * a 2) (a 1 + a 5 - a 7) = E at *
  omega
theorem near_im {a : Nat → Int} (hc : Thou a) {x : Nat} (vx : ValD x (vwi a 8)) :
    ∃ z, (∀ w, Calls Try.prog 30 #[imaV a] w fun e w' => e = .returned (.float .f64 z) ∧ Below w.heap.size w w') ∧ (∀ w, Calls Try.prog 21 #[.float .f64 x, .float .f64 z, .float .f64 4472406533629990549] w fun e w' => e = .returned (.bool true) ∧ w' = w) := by
  have h0 := hc 0 (by omega); have h1 := hc 1 (by omega); have h2 := hc 2 (by omega); have h3 := hc 3 (by omega); have h4 := hc 4 (by omega); have h5 := hc 5 (by omega); have h6 := hc 6 (by omega); have h7 := hc 7 (by omega)
  have a1 := wide_erri hc
  have a2 := est_xi hc
  obtain ⟨x1, x2, x3, y1, y2, y3, z, r, m1, s1, m2, s2, m3, s3, hz, vz, r1, r2⟩ := floatOf_near (2 * a 2 + 4 * a 6) (0 - a 1 + 2 * a 3 + a 5 + a 7) (2 * a 4) (a 1 + a 5 + a 7) (by omega) (by omega) (by omega) (by omega)
  clear h0 h1 h2 h3 h4 h5 h6 h7 hc
  refine ⟨z, fun w => floatOf_all _ _ _ _ m1 s1 m2 s2 m3 s3 hz w, fun w => within_nano vx vz ?_ w⟩
  generalize estR (2 * a 2 + 4 * a 6) (0 - a 1 + 2 * a 3 + a 5 + a 7) (2 * a 4) (a 1 + a 5 + a 7) = E at *
  omega
theorem okf_re {a : Nat → Int} (va : okc a = true) : okf (rea a) = true ∧ okf (ima a) = true := by
  have ia := okc_inR va
  have h0 := ia 0 (by omega); have h1 := ia 1 (by omega); have h2 := ia 2 (by omega); have h3 := ia 3 (by omega); have h4 := ia 4 (by omega); have h5 := ia 5 (by omega); have h6 := ia 6 (by omega); have h7 := ia 7 (by omega)
  clear ia
  refine ⟨?_, ?_⟩
  · show okr (4 * a 0 + 2 * a 4) (a 1 + 2 * a 3 - a 5 + a 7) (2 * a 2) (a 1 + a 5 - a 7) = true
    unfold okr rng
    simp only [Bool.and_eq_true, decide_eq_true_eq]
    omega
  · show okr (2 * a 2 + 4 * a 6) (0 - a 1 + 2 * a 3 + a 5 + a 7) (2 * a 4) (a 1 + a 5 + a 7) = true
    unfold okr rng
    simp only [Bool.and_eq_true, decide_eq_true_eq]
    omega
theorem SurdRe_any (a : Nat → Int) (va : okc a = true) (w : World) :
    Calls Try.prog 28 #[pt a] w fun e w' => e = .returned (.tuple #[p4 (rea a), .bool true]) ∧ Below w.heap.size w w' := by
  rw [← ans_yes4 (okf_re va).1]; exact SurdRe_yes a va w
theorem SurdIm_any (a : Nat → Int) (va : okc a = true) (w : World) :
    Calls Try.prog 29 #[pt a] w fun e w' => e = .returned (.tuple #[p4 (ima a), .bool true]) ∧ Below w.heap.size w w' := by
  rw [← ans_yes4 (okf_re va).2]; exact SurdIm_yes a va w
end Go.Proofs.Ytmbhbocfnpklpaa
