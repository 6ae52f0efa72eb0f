/-
  Contracts of impl's points in both widths.
-/
import Derived.Test.YtmbhbocfnpklpaaFloatC
import Derived.Test.YtmbhbocfnpklpaaCycE
import Derived.WalkLawsBesides
namespace Go.Proofs.Ytmbhbocfnpklpaa
set_option maxRecDepth 20000
open Go.ChangeShapes Go.WideShapes Go.ChangeAt Go.RowKit
set_option linter.unusedVariables false
set_option linter.unusedSimpArgs false

/-- A wide point as a value; a single one. -/
def cw (a b : Nat) : Value := .complex .f64 a b
def cs (a b : Nat) : Value := .complex .f32 a b
theorem WideRoot_yes (k : Nat) (hk : k < 8) (w : World) :
    Calls Try.prog 16 #[.int .i64 k] w fun e w' => e = .returned (.tuple #[cw (wDr k) (wDi k), .bool true]) ∧ w' = w := by
  rcases (show k = 0 ∨ k = 1 ∨ k = 2 ∨ k = 3 ∨ k = 4 ∨ k = 5 ∨ k = 6 ∨ k = 7 by omega) with rfl | rfl | rfl | rfl | rfl | rfl | rfl | rfl <;>
  · go_enter Try.func16, Try.ntmps16
    go_wp2
    go_ret2
    exact ⟨rfl, rfl⟩
theorem WideRoot_no (k : Int) (hk : k < 0 ∨ 7 < k) (w : World) :
    Calls Try.prog 16 #[.int .i64 k] w fun e w' => e = .returned (.tuple #[cw 0 0, .bool false]) ∧ w' = w := by
  have h0 : k ≠ 0 := by omega
  have h1 : k ≠ 1 := by omega
  have h2 : k ≠ 2 := by omega
  have h3 : k ≠ 3 := by omega
  have h4 : k ≠ 4 := by omega
  have h5 : k ≠ 5 := by omega
  have h6 : k ≠ 6 := by omega
  have h7 : k ≠ 7 := by omega
  clear hk
  go_enter Try.func16, Try.ntmps16
  go_wp2
  go_ret2
  exact ⟨rfl, rfl⟩
theorem SingleRoot_yes (k : Nat) (hk : k < 8) (w : World) :
    Calls Try.prog 23 #[.int .i64 k] w fun e w' => e = .returned (.tuple #[cs (wSr k) (wSi k), .bool true]) ∧ w' = w := by
  have R : ∀ w, (convert 24 37 (cw (wDr k) (wDi k))).run Try.prog w = .ok (cs (wSr k) (wSi k)) w := fun w =>
    run_convert_complex w _ _ .f64 .f32 _ _ _ _ (by kernel_rfl) (by kernel_rfl) (by
      rcases (show k = 0 ∨ k = 1 ∨ k = 2 ∨ k = 3 ∨ k = 4 ∨ k = 5 ∨ k = 6 ∨ k = 7 by omega) with rfl | rfl | rfl | rfl | rfl | rfl | rfl | rfl <;> decide +kernel)
  have C := WideRoot_yes k hk
  unfold cw cs at *
  generalize wDr k = a at *
  generalize wDi k = b at *
  generalize wSr k = c at *
  generalize wSi k = d at *
  go_enter Try.func23, Try.ntmps23
  go_wp2_with (first | (rw [R]) | (go_at_call 16; refine (C _).mono ?_; rintro e w2 ⟨rfl, rfl⟩))
  go_ret2
  exact ⟨rfl, rfl⟩
theorem SingleRoot_no (k : Int) (hk : k < 0 ∨ 7 < k) (w : World) :
    Calls Try.prog 23 #[.int .i64 k] w fun e w' => e = .returned (.tuple #[cs 0 0, .bool false]) ∧ w' = w := by
  have R : ∀ w, (convert 24 37 (cw 0 0)).run Try.prog w = .ok (cs 0 0) w := fun w =>
    run_convert_complex w _ _ .f64 .f32 _ _ _ _ (by kernel_rfl) (by kernel_rfl) (by decide +kernel)
  have C := WideRoot_no k hk
  clear hk
  unfold cw cs at *
  go_enter Try.func23, Try.ntmps23
  go_wp2_with (first | (rw [R]) | (go_at_call 16; refine (C _).mono ?_; rintro e w2 ⟨rfl, rfl⟩))
  go_ret2
  exact ⟨rfl, rfl⟩
theorem wideTerm_any (k : Nat) (hk : k < 8) (c : Int) (hc : -1000000 ≤ c ∧ c ≤ 1000000) (w : World) :
    Calls Try.prog 73 #[.int .i64 k, .int .i64 c] w fun e w' => e = .returned (cw (tmW .f64 c (wDr k)) (tmW .f64 c (wDi k))) ∧ w' = w := by
  have R1 : ∀ t w, (binOp .mul t (.float .f64 (floatOfInt .f64 c)) (.float .f64 (wDr k))).run Try.prog w = .ok (.float .f64 (tmW .f64 c (wDr k))) w := fun t w => run_float_arith w .mul t .f64 _ _ _ (tm_dbl hc (rootDr k hk) (sizeDr k)).1
  have R2 : ∀ t w, (binOp .mul t (.float .f64 (floatOfInt .f64 c)) (.float .f64 (wDi k))).run Try.prog w = .ok (.float .f64 (tmW .f64 c (wDi k))) w := fun t w => run_float_arith w .mul t .f64 _ _ _ (tm_dbl hc (rootDi k hk) (sizeDi k)).1
  have C := WideRoot_yes k hk
  clear hc hk
  unfold cw at *
  generalize tmW .f64 c (wDr k) = x at *
  generalize tmW .f64 c (wDi k) = y at *
  generalize wDr k = a at *
  generalize wDi k = b at *
  go_enter Try.func73, Try.ntmps73
  go_wp2_with (first | rw [R1] | rw [R2] | (go_at_call 16; refine (C _).mono ?_; rintro e w2 ⟨rfl, rfl⟩))
  go_ret
  exact ⟨rfl, rfl⟩
theorem singleTerm_any (k : Nat) (hk : k < 8) (c : Int) (hc : -1000000 ≤ c ∧ c ≤ 1000000) (w : World) :
    Calls Try.prog 79 #[.int .i64 k, .int .i64 c] w fun e w' => e = .returned (cs (tmW .f32 c (wSr k)) (tmW .f32 c (wSi k))) ∧ w' = w := by
  have R1 : ∀ t w, (binOp .mul t (.float .f32 (floatOfInt .f32 c)) (.float .f32 (wSr k))).run Try.prog w = .ok (.float .f32 (tmW .f32 c (wSr k))) w := fun t w => run_float_arith w .mul t .f32 _ _ _ (tm_sgl hc (rootSr k hk) (sizeSr k)).1
  have R2 : ∀ t w, (binOp .mul t (.float .f32 (floatOfInt .f32 c)) (.float .f32 (wSi k))).run Try.prog w = .ok (.float .f32 (tmW .f32 c (wSi k))) w := fun t w => run_float_arith w .mul t .f32 _ _ _ (tm_sgl hc (rootSi k hk) (sizeSi k)).1
  have C := SingleRoot_yes k hk
  clear hc hk
  unfold cs at *
  generalize tmW .f32 c (wSr k) = x at *
  generalize tmW .f32 c (wSi k) = y at *
  generalize wSr k = a at *
  generalize wSi k = b at *
  go_enter Try.func79, Try.ntmps79
  go_wp2_with (first | rw [R1] | rw [R2] | (go_at_call 23; refine (C _).mono ?_; rintro e w2 ⟨rfl, rfl⟩))
  go_ret
  exact ⟨rfl, rfl⟩
end Go.Proofs.Ytmbhbocfnpklpaa
