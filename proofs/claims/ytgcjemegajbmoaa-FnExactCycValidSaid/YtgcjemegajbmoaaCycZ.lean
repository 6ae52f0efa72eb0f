/-
  The exact laws of exact points of one point or of numbers: both sides answer alike, for every argument.
-/
import Derived.Test.YtgcjemegajbmoaaCycX
namespace Go.Proofs.Ytgcjemegajbmoaa
open Go.ChangeShapes Go.WideShapes Go.ChangeAt Go.RowKit
set_option linter.unusedVariables false
set_option linter.unusedSimpArgs false

theorem info_law : (Try.prog.info? 42).map (·.size) = some 8 := by kernel_rfl
theorem size_law (a : Nat → Int) : (Try.prog.info? 42).map (·.size) = some (lst 8 a).length := by rw [lst_length]; exact info_law

theorem exactCycValid_walk (a : Nat → Int) (w : World) : Calls Try.prog 14 #[pt a] w (Fine w) := by
  have sa := vec_size 8 a
  obtain ⟨v, SP, IM⟩ := both_CycValid a
  have P := fun w => toCyc_any a w
  have hne : (v != v) = false := by cases v <;> rfl
  have heq : (v == v) = true := by cases v <;> rfl
  unfold pt at *
  go_enter Try.func14, Try.ntmps14
  go_upto_region 1 with fail
  show Code.wp _ _ _ _ (box0 w a 42)
  obtain ⟨hA, hL⟩ := box0_facts w a 42
  generalize box0 w a 42 = W at *
  go_wp2_with (refine load_row rfl rfl rfl hA Try.underlying42 rfl info_law ?_)
  refine (P _).mono ?_; rintro e w2 ⟨rfl, hb2⟩
  have hA := hA.below hb2; have hL := below_next hL hb2
  clear hb2
  go_wp2_with fail
  refine (SP _).mono ?_; rintro e w3 ⟨rfl, hb2⟩
  have hA := hA.below hb2; have hL := below_next hL hb2
  clear hb2 SP
  go_wp2_with (refine load_row rfl rfl rfl hA Try.underlying42 rfl info_law ?_)
  refine (P _).mono ?_; rintro e w5 ⟨rfl, hb2⟩
  have hL := below_next hL hb2
  clear hb2 hA P
  go_wp2_with fail
  refine (IM _).mono ?_; rintro e w6 ⟨rfl, hb2⟩
  have hL := below_next hL hb2
  clear hb2 IM
  go_wp2_with fail
  go_ret
  exact ⟨rfl, hL⟩
end Go.Proofs.Ytgcjemegajbmoaa
