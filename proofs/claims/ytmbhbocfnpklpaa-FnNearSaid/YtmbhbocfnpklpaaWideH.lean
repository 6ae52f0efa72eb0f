/-
  Contracts of WideGauss on both sides; Gaussian numbers are exact in both widths.
-/
import Derived.Test.YtmbhbocfnpklpaaWideG
namespace Go.Proofs.Ytmbhbocfnpklpaa
set_option maxRecDepth 20000
open Go.ChangeShapes Go.WideShapes Go.ChangeAt Go.RowKit
set_option linter.unusedVariables false
set_option linter.unusedSimpArgs false

theorem WideGauss_yes {x y : Nat} {i j : Int} (hx : Coef x i true) (hy : Coef y j true) (hv : okc (gau i j) = true) (w : World) :
    Calls Try.prog 36 #[cw x y] w fun e w' => e = .returned (.tuple #[pt (gau i j), .bool true]) ∧ Below w.heap.size w w' := by
  have G := fun w => CycGauss_any i j w
  rw [ans_yes hv] at G
  unfold Coef at hx hy
  have sg := vec_size 8 (gau i j)
  clear hv
  unfold pt cw at *
  generalize gau i j = c at *
  go_enter Try.func36, Try.ntmps36
  go_upto_region 1 with fail
  have hO : RowAt (w.alloc (.cells (vec 8 nul) 30)) w.heap.size 8 30 nul := RowAt.newAt rfl rfl
  have hL : Below w.heap.size w (w.alloc (.cells (vec 8 nul) 30)) := (Below.refl _ _).alloc (Nat.le_refl _) _
  show Code.wp _ _ _ _ (w.alloc (.cells (vec 8 nul) 30))
  generalize w.alloc (.cells (vec 8 nul) 30) = W at *
  go_wp2_with fail
  refine (hx _).mono ?_; rintro e w2 ⟨rfl, hb2⟩
  have hO2 := hO.below hb2
  have hL2 := wb_next hL hb2
  clear hO hL hb2 hx
  go_wp2_with fail
  refine (hy _).mono ?_; rintro e w3 ⟨rfl, hb3⟩
  have hO3 := hO2.below hb3
  have hL3 := wb_next hL2 hb3
  clear hO2 hL2 hb3 hy
  go_wp2_with fail
  refine (G _).mono ?_; rintro e w4 ⟨rfl, hb4⟩
  have hO4 := hO3.below hb4
  have hL4 := wb_next hL3 hb4
  clear hO3 hL3 hb4 G
  go_wp2_with (refine store_row rfl rfl rfl rfl hO4 info_cyc ?_)
  refine bodyPost_ret (results_row_tmp rfl rfl hO4.setRow Try.underlying30 rfl info_cyc) rfl ?_
  exact ⟨rfl, below_setRow hL4 (by omega) _⟩
theorem WideGauss_no {x y : Nat} {i j : Int} {u v : Bool} (hx : Coef x i u) (hy : Coef y j v) (hv : (u && v) = false) (w : World) :
    Calls Try.prog 36 #[cw x y] w fun e w' => e = .returned (.tuple #[pt nul, .bool false]) ∧ Below w.heap.size w w' := by
  unfold Coef at hx hy
  have sg := vec_size 8 nul
  unfold pt cw at *
  go_enter Try.func36, Try.ntmps36
  go_upto_region 1 with fail
  have hO : RowAt (w.alloc (.cells (vec 8 nul) 30)) w.heap.size 8 30 nul := RowAt.newAt rfl rfl
  have hL : Below w.heap.size w (w.alloc (.cells (vec 8 nul) 30)) := (Below.refl _ _).alloc (Nat.le_refl _) _
  show Code.wp _ _ _ _ (w.alloc (.cells (vec 8 nul) 30))
  generalize w.alloc (.cells (vec 8 nul) 30) = W at *
  go_wp2_with fail
  refine (hx _).mono ?_; rintro e w2 ⟨rfl, hb2⟩
  have hO2 := hO.below hb2
  have hL2 := wb_next hL hb2
  clear hO hL hb2 hx
  go_wp2_with fail
  refine (hy _).mono ?_; rintro e w3 ⟨rfl, hb3⟩
  have hO3 := hO2.below hb3
  have hL3 := wb_next hL2 hb3
  clear hO2 hL2 hb3 hy
  cases u
  · clear hv
    go_wp2_with (refine store_row rfl rfl rfl (show _ = Value.agg (vec 8 nul) from rfl) hO3 info_cyc ?_)
    refine bodyPost_ret (results_row_tmp rfl rfl hO3.setRow Try.underlying30 rfl info_cyc) rfl ?_
    exact ⟨rfl, below_setRow hL3 (by omega) _⟩
  · obtain rfl : v = false := by simpa using hv
    clear hv
    go_wp2_with (refine store_row rfl rfl rfl (show _ = Value.agg (vec 8 nul) from rfl) hO3 info_cyc ?_)
    refine bodyPost_ret (results_row_tmp rfl rfl hO3.setRow Try.underlying30 rfl info_cyc) rfl ?_
    exact ⟨rfl, below_setRow hL3 (by omega) _⟩
theorem run_cne {p q x y : Nat} {o1 o2 : Ordering} (h1 : FloatKind.f64.format.order p x = some o1) (h2 : FloatKind.f64.format.order q y = some o2) (t : TypeId) (w : World) :
    (binOp .neq t (.complex .f64 p q) (.complex .f64 x y)).run Try.prog w = .ok (.bool (!(o1 == .eq && o2 == .eq))) w := by
  cases o1 <;> cases o2 <;> simp [binOp, Op.complexOp, Op.Complex.cmp, Op.floatCmp, h1, h2, go_sem, asBool]
/-- A float that is a whole number in range. -/
def Wh (x : Nat) (n : Int) : Prop := FloatKind.f64.format.order x 13920209183539462144 = some .gt ∧ FloatKind.f64.format.order x 4696837146684686336 = some .lt ∧ floatToIntVal .f64 x .i64 = some n ∧ FloatKind.f64.format.order (floatOfInt .f64 n) x = some .eq
theorem specWideGauss_yes {x y : Nat} {i j : Int} (hx : Wh x i) (hy : Wh y j) (hv : okc (gau i j) = true) (w : World) :
    Calls Try.prog 37 #[cw x y] w fun e w' => e = .returned (.tuple #[pt (gau i j), .bool true]) ∧ Below w.heap.size w w' := by
  have G := fun w => specGauss_any i j w
  rw [ans_yes hv] at G
  obtain ⟨x1, x2, x3, x4⟩ := hx
  obtain ⟨y1, y2, y3, y4⟩ := hy
  have RX := fun w => run_int x3 w
  have RY := fun w => run_int y3 w
  have RN := fun t w => run_cne x4 y4 t w
  have sg := vec_size 8 (gau i j)
  clear hv x3 y3 x4 y4
  unfold pt cw at *
  generalize gau i j = c at *
  go_enter Try.func37, Try.ntmps37
  go_upto_region 1 with fail
  have hO : RowAt (w.alloc (.cells (vec 8 nul) 30)) w.heap.size 8 30 nul := RowAt.newAt rfl rfl
  have hL : Below w.heap.size w (w.alloc (.cells (vec 8 nul) 30)) := (Below.refl _ _).alloc (Nat.le_refl _) _
  show Code.wp _ _ _ _ (w.alloc (.cells (vec 8 nul) 30))
  generalize w.alloc (.cells (vec 8 nul) 30) = W at *
  go_wp2_with (first | rw [RX] | rw [RY] | rw [RN])
  refine (G _).mono ?_; rintro e w4 ⟨rfl, hb4⟩
  have hO4 := hO.below hb4
  have hL4 := wb_next hL hb4
  clear hO hL hb4 G
  go_wp2_with (refine store_row rfl rfl rfl rfl hO4 info_cyc ?_)
  refine bodyPost_ret (results_row_tmp rfl rfl hO4.setRow Try.underlying30 rfl info_cyc) rfl ?_
  exact ⟨rfl, below_setRow hL4 (by omega) _⟩
theorem specWideGauss_nan {x y : Nat} (hx : IsN x) (w : World) :
    Calls Try.prog 37 #[cw x y] w fun e w' => e = .returned (.tuple #[pt nul, .bool false]) ∧ Below w.heap.size w w' := by
  have o1 := (nan_order hx 13920209183539462144).1
  clear hx
  unfold pt cw at *
  go_enter Try.func37, Try.ntmps37
  go_upto_region 1 with fail
  have hO : RowAt (w.alloc (.cells (vec 8 nul) 30)) w.heap.size 8 30 nul := RowAt.newAt rfl rfl
  have hL : Below w.heap.size w (w.alloc (.cells (vec 8 nul) 30)) := (Below.refl _ _).alloc (Nat.le_refl _) _
  show Code.wp _ _ _ _ (w.alloc (.cells (vec 8 nul) 30))
  generalize w.alloc (.cells (vec 8 nul) 30) = W at *
  go_wp2_with (refine store_row rfl rfl rfl (show _ = Value.agg (vec 8 nul) from rfl) hO info_cyc ?_)
  refine bodyPost_ret (results_row_tmp rfl rfl hO.setRow Try.underlying30 rfl info_cyc) rfl ?_
  exact ⟨rfl, below_setRow hL (by omega) _⟩
theorem specWideGauss_great {x y : Nat} (x1 : FloatKind.f64.format.order x 13920209183539462144 = some .gt) (x2 : FloatKind.f64.format.order x 4696837146684686336 = some .lt) (y1 : FloatKind.f64.format.order y 13920209183539462144 = some .gt) (y2 : FloatKind.f64.format.order y 4696837146684686336 = some .gt) (w : World) :
    Calls Try.prog 37 #[cw x y] w fun e w' => e = .returned (.tuple #[pt nul, .bool false]) ∧ Below w.heap.size w w' := by
  unfold pt cw at *
  go_enter Try.func37, Try.ntmps37
  go_upto_region 1 with fail
  have hO : RowAt (w.alloc (.cells (vec 8 nul) 30)) w.heap.size 8 30 nul := RowAt.newAt rfl rfl
  have hL : Below w.heap.size w (w.alloc (.cells (vec 8 nul) 30)) := (Below.refl _ _).alloc (Nat.le_refl _) _
  show Code.wp _ _ _ _ (w.alloc (.cells (vec 8 nul) 30))
  generalize w.alloc (.cells (vec 8 nul) 30) = W at *
  go_wp2_with (refine store_row rfl rfl rfl (show _ = Value.agg (vec 8 nul) from rfl) hO info_cyc ?_)
  refine bodyPost_ret (results_row_tmp rfl rfl hO.setRow Try.underlying30 rfl info_cyc) rfl ?_
  exact ⟨rfl, below_setRow hL (by omega) _⟩
theorem specWideGauss_part {x y : Nat} {i j : Int} {o : Ordering} (x1 : FloatKind.f64.format.order x 13920209183539462144 = some .gt) (x2 : FloatKind.f64.format.order x 4696837146684686336 = some .lt) (x3 : floatToIntVal .f64 x .i64 = some i) (x4 : FloatKind.f64.format.order (floatOfInt .f64 i) x = some o) (ho : (o == .eq) = false) (hy : Wh y j) (w : World) :
    Calls Try.prog 37 #[cw x y] w fun e w' => e = .returned (.tuple #[pt nul, .bool false]) ∧ Below w.heap.size w w' := by
  obtain ⟨y1, y2, y3, y4⟩ := hy
  have RX := fun w => run_int x3 w
  have RY := fun w => run_int y3 w
  have RN := fun t w => run_cne x4 y4 t w
  rw [ho] at RN
  clear x3 y3 x4 y4 ho
  unfold pt cw at *
  go_enter Try.func37, Try.ntmps37
  go_upto_region 1 with fail
  have hO : RowAt (w.alloc (.cells (vec 8 nul) 30)) w.heap.size 8 30 nul := RowAt.newAt rfl rfl
  have hL : Below w.heap.size w (w.alloc (.cells (vec 8 nul) 30)) := (Below.refl _ _).alloc (Nat.le_refl _) _
  show Code.wp _ _ _ _ (w.alloc (.cells (vec 8 nul) 30))
  generalize w.alloc (.cells (vec 8 nul) 30) = W at *
  go_wp2_with (first | rw [RX] | rw [RY] | rw [RN] | (refine store_row rfl rfl rfl (show _ = Value.agg (vec 8 nul) from rfl) hO info_cyc ?_))
  refine bodyPost_ret (results_row_tmp rfl rfl hO.setRow Try.underlying30 rfl info_cyc) rfl ?_
  exact ⟨rfl, below_setRow hL (by omega) _⟩
/-! ### What is drawn -/
def intOk (i : Int) : Bool := (Ieee.double.read (floatOfInt .f64 i)).isNaN == false && FloatKind.f64.format.order (floatOfInt .f64 i) (trw (floatOfInt .f64 i)) == some .eq && FloatKind.f64.format.order (mgn (floatOfInt .f64 i)) 4696837146684686336 == some .lt && floatToIntVal .f64 (floatOfInt .f64 i) .i64 == some i &&
  FloatKind.f64.format.order (floatOfInt .f64 i) 13920209183539462144 == some .gt && FloatKind.f64.format.order (floatOfInt .f64 i) 4696837146684686336 == some .lt && FloatKind.f64.format.order (floatOfInt .f64 i) (floatOfInt .f64 i) == some .eq
theorem intOk_all : ∀ k : Nat, k < 41 → intOk ((k : Int) - 20) = true := by decide +kernel
theorem int_coef {i : Int} (h0 : -20 ≤ i) (h1 : i ≤ 20) : Coef (floatOfInt .f64 i) i true ∧ Wh (floatOfInt .f64 i) i := by
  have h := intOk_all (i + 20).toNat (by omega)
  rw [show (((i + 20).toNat : Nat) : Int) - 20 = i by omega] at h
  unfold intOk at h
  simp only [Bool.and_eq_true, beq_iff_eq] at h
  obtain ⟨⟨⟨⟨⟨⟨a1, a2⟩, a3⟩, a4⟩, a5⟩, a6⟩, a7⟩ := h
  exact ⟨coef_yes a1 a2 a3 a4, a5, a6, a4, a7⟩
theorem minus_coef : Coef 9223372036854775808 0 true ∧ Wh 9223372036854775808 0 := by
  refine ⟨coef_yes (by unfold NN; decide +kernel) (by decide +kernel) (by decide +kernel) (by decide +kernel), by decide +kernel, by decide +kernel, by decide +kernel, by decide +kernel⟩
theorem half_coef : Coef 4602678819172646912 0 false := coef_part (o := .gt) (by unfold NN; decide +kernel) (by decide +kernel) (by decide)
theorem inf_coef : Coef 9218868437227405312 0 false := coef_great (by unfold NN; decide +kernel) (by decide +kernel) (by decide +kernel)
theorem one_two : floatOfInt .f64 1 = 4607182418800017408 ∧ floatOfInt .f64 2 = 4611686018427387904 := by decide +kernel
/-- What is drawn is a Gaussian number or none. -/
theorem drawn_gauss {x y : Nat} (h : WK x y) : (∃ i j : Int, (-20 ≤ i ∧ i ≤ 20 ∧ -20 ≤ j ∧ j ≤ 20) ∧ ValD x (i * 2 ^ 110) ∧ ValD y (j * 2 ^ 110) ∧ (Coef x i true ∧ Wh x i) ∧ Coef y j true ∧ Wh y j) ∨
    ((∀ w, Calls Try.prog 36 #[cw x y] w fun e w' => e = .returned (.tuple #[pt nul, .bool false]) ∧ Below w.heap.size w w') ∧
     (∀ w, Calls Try.prog 37 #[cw x y] w fun e w' => e = .returned (.tuple #[pt nul, .bool false]) ∧ Below w.heap.size w w')) := by
  have iv : ∀ n : Int, -20 ≤ n ∧ n ≤ 20 → ValD (floatOfInt .f64 n) (n * 2 ^ 110) := fun n hn => int_val stdD (Nat.lt_of_le_of_lt (show n.natAbs ≤ 20 by omega) (by decide)) (Nat.lt_of_le_of_lt (show n.natAbs ≤ 20 by omega) (by decide))
  have c1 := int_coef (i := 1) (by decide) (by decide)
  have c2 := int_coef (i := 2) (by decide) (by decide)
  have v2 := iv 2 (by decide)
  rw [one_two.1] at c1
  rw [one_two.2] at c2 v2
  rcases h with ⟨hx, rfl⟩ | ⟨rfl, rfl⟩ | ⟨rfl, rfl⟩ | ⟨rfl, rfl⟩ | ⟨i, j, i0, i1, j0, j1, rfl, rfl⟩
  · exact Or.inr ⟨fun w => WideGauss_no (coef_nan hx) c1.1 rfl w, fun w => specWideGauss_nan hx w⟩
  · exact Or.inr ⟨fun w => WideGauss_no c1.1 inf_coef rfl w, fun w => specWideGauss_great (by decide +kernel) (by decide +kernel) (by decide +kernel) (by decide +kernel) w⟩
  · refine Or.inl ⟨0, 2, by decide, ?_, v2, minus_coef, c2⟩
    have e : (9223372036854775808 : Nat) = Ieee.double.word true 0 := by decide
    rw [e, Int.zero_mul]
    exact ⟨true, 0, 0, by rw [read_zeroN stdD, show (1074 : Nat) = tD + 110 by rw [tD_eq]]; simp, by rw [Nat.zero_mul, sgnd_zero, Int.zero_mul]⟩
  · exact Or.inr ⟨fun w => WideGauss_no half_coef c1.1 rfl w, fun w => specWideGauss_part (i := 0) (o := .lt) (by decide +kernel) (by decide +kernel) (by decide +kernel) (by decide +kernel) rfl c1.2 w⟩
  · exact Or.inl ⟨i, j, ⟨i0, i1, j0, j1⟩, iv i ⟨i0, i1⟩, iv j ⟨j0, j1⟩, int_coef i0 i1, int_coef j0 j1⟩
end Go.Proofs.Ytmbhbocfnpklpaa
