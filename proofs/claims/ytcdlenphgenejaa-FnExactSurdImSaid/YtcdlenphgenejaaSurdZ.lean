/-
  The exact laws of surds: both sides answer alike, for every argument.
-/
import Derived.Test.YtcdlenphgenejaaSurdY2
namespace Go.Proofs.Ytcdlenphgenejaa
set_option maxRecDepth 20000
open Go.ChangeShapes Go.WideShapes Go.ChangeAt Go.RowKit
set_option linter.unusedVariables false
set_option linter.unusedSimpArgs false


set_option maxHeartbeats 1000000 in
theorem exactSurdRe_walk (a : Nat → Int)  (w : World) : Calls Try.prog 13 #[pt a] w (Fine w) := by
  have sa := vec_size 8 a
  obtain ⟨c, v, SP, IM⟩ := both_SurdRe a
  have P := fun w => toCyc_any a w
  unfold pt at *
  go_enter Try.func13, Try.ntmps13
  go_upto_region 1 with fail
  show Code.wp _ _ _ _ (box0 w a 49)
  obtain ⟨hA, hL⟩ := box0_facts w a 49
  generalize box0 w a 49 = W at *
  go_wp2_with (refine load_row rfl rfl rfl hA Try.underlying49 rfl info_law ?_)
  refine (P _).mono ?_; rintro e w2 ⟨rfl, hb2⟩
  have hA := hA.below hb2; have hL := below_next hL hb2
  clear hb2
  go_wp2_with fail
  refine (SP _).mono ?_; rintro e w3 ⟨rfl, hb2⟩
  have hA := hA.below hb2; have hL := below_next hL hb2
  clear hb2 SP
  go_upto_region 2 with (refine store_row rfl rfl rfl rfl (RowAt.newAt zero4 rfl) info_surd ?_)
  show Code.wp _ _ _ _ (sole4 w3 c 24)
  have hA := sole_keep4 hA c 24
  have hL := sole_below4 hL c 24
  have hW := sole_first4 w3 c 24
  generalize w3.heap.size = g at *
  generalize sole4 w3 c 24 = W4 at *
  go_wp2_with (refine load_row rfl rfl rfl hA Try.underlying49 rfl info_law ?_)
  refine (P _).mono ?_; rintro e w5 ⟨rfl, hb2⟩
  have hW := hW.below hb2; have hL := below_next hL hb2
  clear hb2 hA P
  go_wp2_with fail
  refine (IM _).mono ?_; rintro e w6 ⟨rfl, hb2⟩
  have hW := hW.below hb2; have hL := below_next hL hb2
  clear hb2 IM
  go_upto_region 3 with (refine store_row rfl rfl rfl rfl (RowAt.newAt zero4 rfl) info_surd ?_)
  show Code.wp _ _ _ _ (sole4 w6 c 24)
  have hW0 := sole_keep4 hW c 24
  have hL0 := sole_below4 hL c 24
  have hI0 := sole_first4 w6 c 24
  generalize w6.heap.size = g' at *
  generalize sole4 w6 c 24 = W7 at *
  have Q := fun w => eqSurd_yes c w
  have hne : (v != v) = false := by cases v <;> rfl
  have heq : (v == v) = true := by cases v <;> rfl
  unfold pt at *
  go_wp2_with (first | (refine load_row rfl rfl rfl hI0 Try.underlying24 rfl info_surd ?_) | (refine load_row rfl rfl rfl hW0 Try.underlying24 rfl info_surd ?_))
  refine (Q _).mono ?_; rintro e w9 ⟨rfl, hb9⟩
  have hL9 := below_next hL0 hb9
  clear hI0 hW0 hL0 hb9 Q
  go_wp2_with fail
  go_ret
  exact ⟨rfl, hL9⟩

set_option maxHeartbeats 1000000 in
theorem exactSurdIm_walk (a : Nat → Int)  (w : World) : Calls Try.prog 14 #[pt a] w (Fine w) := by
  have sa := vec_size 8 a
  obtain ⟨c, v, SP, IM⟩ := both_SurdIm a
  have P := fun w => toCyc_any a w
  unfold pt at *
  go_enter Try.func14, Try.ntmps14
  go_upto_region 1 with fail
  show Code.wp _ _ _ _ (box0 w a 49)
  obtain ⟨hA, hL⟩ := box0_facts w a 49
  generalize box0 w a 49 = W at *
  go_wp2_with (refine load_row rfl rfl rfl hA Try.underlying49 rfl info_law ?_)
  refine (P _).mono ?_; rintro e w2 ⟨rfl, hb2⟩
  have hA := hA.below hb2; have hL := below_next hL hb2
  clear hb2
  go_wp2_with fail
  refine (SP _).mono ?_; rintro e w3 ⟨rfl, hb2⟩
  have hA := hA.below hb2; have hL := below_next hL hb2
  clear hb2 SP
  go_upto_region 2 with (refine store_row rfl rfl rfl rfl (RowAt.newAt zero4 rfl) info_surd ?_)
  show Code.wp _ _ _ _ (sole4 w3 c 24)
  have hA := sole_keep4 hA c 24
  have hL := sole_below4 hL c 24
  have hW := sole_first4 w3 c 24
  generalize w3.heap.size = g at *
  generalize sole4 w3 c 24 = W4 at *
  go_wp2_with (refine load_row rfl rfl rfl hA Try.underlying49 rfl info_law ?_)
  refine (P _).mono ?_; rintro e w5 ⟨rfl, hb2⟩
  have hW := hW.below hb2; have hL := below_next hL hb2
  clear hb2 hA P
  go_wp2_with fail
  refine (IM _).mono ?_; rintro e w6 ⟨rfl, hb2⟩
  have hW := hW.below hb2; have hL := below_next hL hb2
  clear hb2 IM
  go_upto_region 3 with (refine store_row rfl rfl rfl rfl (RowAt.newAt zero4 rfl) info_surd ?_)
  show Code.wp _ _ _ _ (sole4 w6 c 24)
  have hW0 := sole_keep4 hW c 24
  have hL0 := sole_below4 hL c 24
  have hI0 := sole_first4 w6 c 24
  generalize w6.heap.size = g' at *
  generalize sole4 w6 c 24 = W7 at *
  have Q := fun w => eqSurd_yes c w
  have hne : (v != v) = false := by cases v <;> rfl
  have heq : (v == v) = true := by cases v <;> rfl
  unfold pt at *
  go_wp2_with (first | (refine load_row rfl rfl rfl hI0 Try.underlying24 rfl info_surd ?_) | (refine load_row rfl rfl rfl hW0 Try.underlying24 rfl info_surd ?_))
  refine (Q _).mono ?_; rintro e w9 ⟨rfl, hb9⟩
  have hL9 := below_next hL0 hb9
  clear hI0 hW0 hL0 hb9 Q
  go_wp2_with fail
  go_ret
  exact ⟨rfl, hL9⟩

theorem exactSurdValid_walk (a : Nat → Int) (w : World) : Calls Try.prog 12 #[p4 a] w (Fine w) := by
  have sa := vec_size 4 a
  obtain ⟨v, SP, IM⟩ := both_SurdValid a
  have P := fun w => toSurd_any a w
  have hne : (v != v) = false := by cases v <;> rfl
  have heq : (v == v) = true := by cases v <;> rfl
  unfold p4 at *
  go_enter Try.func12, Try.ntmps12
  go_upto_region 1 with fail
  show Code.wp _ _ _ _ (box04 w a 46)
  obtain ⟨hA, hL⟩ := box0_facts4 w a 46
  generalize box04 w a 46 = W at *
  go_wp2_with (refine load_row rfl rfl rfl hA Try.underlying46 rfl info_lsurd ?_)
  refine (P _).mono ?_; rintro e w2 ⟨rfl, hb2⟩
  have hA := hA.below hb2; have hL := below_next hL hb2
  clear hb2
  go_wp2_with fail
  refine (SP _).mono ?_; rintro e w3 ⟨rfl, hb2⟩
  have hA := hA.below hb2; have hL := below_next hL hb2
  clear hb2 SP
  go_wp2_with (refine load_row rfl rfl rfl hA Try.underlying46 rfl info_lsurd ?_)
  refine (P _).mono ?_; rintro e w5 ⟨rfl, hb2⟩
  have hL := below_next hL hb2
  clear hb2 hA P
  go_wp2_with fail
  refine (IM _).mono ?_; rintro e w6 ⟨rfl, hb2⟩
  have hL := below_next hL hb2
  clear hb2 IM
  go_wp2_with fail
  go_ret
  exact ⟨rfl, hL⟩

end Go.Proofs.Ytcdlenphgenejaa
