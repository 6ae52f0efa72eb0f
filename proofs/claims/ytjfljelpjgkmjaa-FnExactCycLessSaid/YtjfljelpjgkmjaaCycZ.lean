/-
  The exact laws of exact points of one point or of numbers: both sides answer alike, for every argument.
-/
import Derived.Test.YtjfljelpjgkmjaaCycX
namespace Go.Proofs.Ytjfljelpjgkmjaa
set_option maxRecDepth 20000
open Go.ChangeShapes Go.WideShapes Go.ChangeAt Go.RowKit
set_option linter.unusedVariables false
set_option linter.unusedSimpArgs false

theorem info_law : (Try.prog.info? 42).map (·.size) = some 8 := by kernel_rfl
theorem size_law (a : Nat → Int) : (Try.prog.info? 42).map (·.size) = some (lst 8 a).length := by rw [lst_length]; exact info_law

set_option maxHeartbeats 1000000 in
theorem exactCycTurned_walk (a : Nat → Int) (t : Int) (w : World) : Calls Try.prog 19 #[pt a, .int .i64 t] w (Fine w) := by
  have sa := vec_size 8 a
  obtain ⟨c, v, SP, IM⟩ := both_CycTurned a t
  have P := fun w => toCyc_any a w
  unfold pt at *
  go_enter Try.func19, Try.ntmps19
  go_upto_region 1 with fail
  show Code.wp _ _ _ _ (box0 w a 42)
  obtain ⟨hA, hL⟩ := box0_facts w a 42
  generalize box0 w a 42 = W at *
  go_wp2_with (refine load_row rfl rfl rfl hA Try.underlying42 rfl info_law ?_)
  refine (P _).mono ?_; rintro e w2 ⟨rfl, hb2⟩
  have hA := hA.below hb2; have hL := below_next hL hb2
  clear hb2
  go_wp2_with fail
  refine (SP _).mono ?_; rintro e w3 ⟨rfl, hb2⟩
  have hA := hA.below hb2; have hL := below_next hL hb2
  clear hb2 SP
  go_upto_region 2 with (refine store_row rfl rfl rfl rfl (RowAt.newAt zero8 rfl) info_cyc ?_)
  show Code.wp _ _ _ _ (sole w3 c 25)
  have hA := sole_keep hA c 25
  have hL := sole_below hL c 25
  have hW := sole_first w3 c 25
  generalize w3.heap.size = g at *
  generalize sole w3 c 25 = W4 at *
  go_wp2_with (refine load_row rfl rfl rfl hA Try.underlying42 rfl info_law ?_)
  refine (P _).mono ?_; rintro e w5 ⟨rfl, hb2⟩
  have hW := hW.below hb2; have hL := below_next hL hb2
  clear hb2 hA P
  go_wp2_with fail
  refine (IM _).mono ?_; rintro e w6 ⟨rfl, hb2⟩
  have hW := hW.below hb2; have hL := below_next hL hb2
  clear hb2 IM
  go_upto_region 3 with (refine store_row rfl rfl rfl rfl (RowAt.newAt zero8 rfl) info_cyc ?_)
  show Code.wp _ _ _ _ (sole w6 c 25)
  have hW0 := sole_keep hW c 25
  have hL0 := sole_below hL c 25
  have hI0 := sole_first w6 c 25
  generalize w6.heap.size = g' at *
  generalize sole w6 c 25 = W7 at *
  have Q := fun w => eqCyc_yes c w
  have hne : (v != v) = false := by cases v <;> rfl
  have heq : (v == v) = true := by cases v <;> rfl
  unfold pt at *
  go_wp2_with (first | (refine load_row rfl rfl rfl hI0 Try.underlying25 rfl info_cyc ?_) | (refine load_row rfl rfl rfl hW0 Try.underlying25 rfl info_cyc ?_))
  refine (Q _).mono ?_; rintro e w9 ⟨rfl, hb9⟩
  have hL9 := below_next hL0 hb9
  clear hI0 hW0 hL0 hb9 Q
  go_wp2_with fail
  go_ret
  exact ⟨rfl, hL9⟩

set_option maxHeartbeats 1000000 in
theorem exactCycScale_walk (a : Nat → Int) (n : Int) (w : World) : Calls Try.prog 21 #[pt a, .int .i64 n] w (Fine w) := by
  have sa := vec_size 8 a
  obtain ⟨c, v, SP, IM⟩ := both_CycScale a n
  have P := fun w => toCyc_any a w
  unfold pt at *
  go_enter Try.func21, Try.ntmps21
  go_upto_region 1 with fail
  show Code.wp _ _ _ _ (box0 w a 42)
  obtain ⟨hA, hL⟩ := box0_facts w a 42
  generalize box0 w a 42 = W at *
  go_wp2_with (refine load_row rfl rfl rfl hA Try.underlying42 rfl info_law ?_)
  refine (P _).mono ?_; rintro e w2 ⟨rfl, hb2⟩
  have hA := hA.below hb2; have hL := below_next hL hb2
  clear hb2
  go_wp2_with fail
  refine (SP _).mono ?_; rintro e w3 ⟨rfl, hb2⟩
  have hA := hA.below hb2; have hL := below_next hL hb2
  clear hb2 SP
  go_upto_region 2 with (refine store_row rfl rfl rfl rfl (RowAt.newAt zero8 rfl) info_cyc ?_)
  show Code.wp _ _ _ _ (sole w3 c 25)
  have hA := sole_keep hA c 25
  have hL := sole_below hL c 25
  have hW := sole_first w3 c 25
  generalize w3.heap.size = g at *
  generalize sole w3 c 25 = W4 at *
  go_wp2_with (refine load_row rfl rfl rfl hA Try.underlying42 rfl info_law ?_)
  refine (P _).mono ?_; rintro e w5 ⟨rfl, hb2⟩
  have hW := hW.below hb2; have hL := below_next hL hb2
  clear hb2 hA P
  go_wp2_with fail
  refine (IM _).mono ?_; rintro e w6 ⟨rfl, hb2⟩
  have hW := hW.below hb2; have hL := below_next hL hb2
  clear hb2 IM
  go_upto_region 3 with (refine store_row rfl rfl rfl rfl (RowAt.newAt zero8 rfl) info_cyc ?_)
  show Code.wp _ _ _ _ (sole w6 c 25)
  have hW0 := sole_keep hW c 25
  have hL0 := sole_below hL c 25
  have hI0 := sole_first w6 c 25
  generalize w6.heap.size = g' at *
  generalize sole w6 c 25 = W7 at *
  have Q := fun w => eqCyc_yes c w
  have hne : (v != v) = false := by cases v <;> rfl
  have heq : (v == v) = true := by cases v <;> rfl
  unfold pt at *
  go_wp2_with (first | (refine load_row rfl rfl rfl hI0 Try.underlying25 rfl info_cyc ?_) | (refine load_row rfl rfl rfl hW0 Try.underlying25 rfl info_cyc ?_))
  refine (Q _).mono ?_; rintro e w9 ⟨rfl, hb9⟩
  have hL9 := below_next hL0 hb9
  clear hI0 hW0 hL0 hb9 Q
  go_wp2_with fail
  go_ret
  exact ⟨rfl, hL9⟩

set_option maxHeartbeats 1000000 in
theorem exactCycMirror_walk (a : Nat → Int)  (w : World) : Calls Try.prog 20 #[pt a] w (Fine w) := by
  have sa := vec_size 8 a
  obtain ⟨c, v, SP, IM⟩ := both_CycMirror a
  have P := fun w => toCyc_any a w
  unfold pt at *
  go_enter Try.func20, Try.ntmps20
  go_upto_region 1 with fail
  show Code.wp _ _ _ _ (box0 w a 42)
  obtain ⟨hA, hL⟩ := box0_facts w a 42
  generalize box0 w a 42 = W at *
  go_wp2_with (refine load_row rfl rfl rfl hA Try.underlying42 rfl info_law ?_)
  refine (P _).mono ?_; rintro e w2 ⟨rfl, hb2⟩
  have hA := hA.below hb2; have hL := below_next hL hb2
  clear hb2
  go_wp2_with fail
  refine (SP _).mono ?_; rintro e w3 ⟨rfl, hb2⟩
  have hA := hA.below hb2; have hL := below_next hL hb2
  clear hb2 SP
  go_upto_region 2 with (refine store_row rfl rfl rfl rfl (RowAt.newAt zero8 rfl) info_cyc ?_)
  show Code.wp _ _ _ _ (sole w3 c 25)
  have hA := sole_keep hA c 25
  have hL := sole_below hL c 25
  have hW := sole_first w3 c 25
  generalize w3.heap.size = g at *
  generalize sole w3 c 25 = W4 at *
  go_wp2_with (refine load_row rfl rfl rfl hA Try.underlying42 rfl info_law ?_)
  refine (P _).mono ?_; rintro e w5 ⟨rfl, hb2⟩
  have hW := hW.below hb2; have hL := below_next hL hb2
  clear hb2 hA P
  go_wp2_with fail
  refine (IM _).mono ?_; rintro e w6 ⟨rfl, hb2⟩
  have hW := hW.below hb2; have hL := below_next hL hb2
  clear hb2 IM
  go_upto_region 3 with (refine store_row rfl rfl rfl rfl (RowAt.newAt zero8 rfl) info_cyc ?_)
  show Code.wp _ _ _ _ (sole w6 c 25)
  have hW0 := sole_keep hW c 25
  have hL0 := sole_below hL c 25
  have hI0 := sole_first w6 c 25
  generalize w6.heap.size = g' at *
  generalize sole w6 c 25 = W7 at *
  have Q := fun w => eqCyc_yes c w
  have hne : (v != v) = false := by cases v <;> rfl
  have heq : (v == v) = true := by cases v <;> rfl
  unfold pt at *
  go_wp2_with (first | (refine load_row rfl rfl rfl hI0 Try.underlying25 rfl info_cyc ?_) | (refine load_row rfl rfl rfl hW0 Try.underlying25 rfl info_cyc ?_))
  refine (Q _).mono ?_; rintro e w9 ⟨rfl, hb9⟩
  have hL9 := below_next hL0 hb9
  clear hI0 hW0 hL0 hb9 Q
  go_wp2_with fail
  go_ret
  exact ⟨rfl, hL9⟩

set_option maxHeartbeats 1000000 in
theorem exactCycRoot_walk (t : Int) (w : World) : Calls Try.prog 15 #[.int .i64 t] w (Fine w) := by
  obtain ⟨c, v, SP, IM⟩ := both_CycRoot t
  go_enter Try.func15, Try.ntmps15
  go_upto_region 1 with fail
  have hL := Below.refl w.heap.size w
  go_wp2_with fail
  refine (SP _).mono ?_; rintro e w3 ⟨rfl, hb2⟩
  have hL := below_next hL hb2
  clear hb2 SP
  go_upto_region 2 with (refine store_row rfl rfl rfl rfl (RowAt.newAt zero8 rfl) info_cyc ?_)
  show Code.wp _ _ _ _ (sole w3 c 25)
  have hL := sole_below hL c 25
  have hW := sole_first w3 c 25
  generalize w3.heap.size = g at *
  generalize sole w3 c 25 = W4 at *
  go_wp2_with fail
  refine (IM _).mono ?_; rintro e w6 ⟨rfl, hb2⟩
  have hW := hW.below hb2; have hL := below_next hL hb2
  clear hb2 IM
  go_upto_region 3 with (refine store_row rfl rfl rfl rfl (RowAt.newAt zero8 rfl) info_cyc ?_)
  show Code.wp _ _ _ _ (sole w6 c 25)
  have hW0 := sole_keep hW c 25
  have hL0 := sole_below hL c 25
  have hI0 := sole_first w6 c 25
  generalize w6.heap.size = g' at *
  generalize sole w6 c 25 = W7 at *
  have Q := fun w => eqCyc_yes c w
  have hne : (v != v) = false := by cases v <;> rfl
  have heq : (v == v) = true := by cases v <;> rfl
  unfold pt at *
  go_wp2_with (first | (refine load_row rfl rfl rfl hI0 Try.underlying25 rfl info_cyc ?_) | (refine load_row rfl rfl rfl hW0 Try.underlying25 rfl info_cyc ?_))
  refine (Q _).mono ?_; rintro e w9 ⟨rfl, hb9⟩
  have hL9 := below_next hL0 hb9
  clear hI0 hW0 hL0 hb9 Q
  go_wp2_with fail
  go_ret
  exact ⟨rfl, hL9⟩

set_option maxHeartbeats 1000000 in
theorem exactCycGauss_walk (re im : Int) (w : World) : Calls Try.prog 22 #[.int .i64 re, .int .i64 im] w (Fine w) := by
  obtain ⟨c, v, SP, IM⟩ := both_CycGauss re im
  go_enter Try.func22, Try.ntmps22
  go_upto_region 1 with fail
  have hL := Below.refl w.heap.size w
  go_wp2_with fail
  refine (SP _).mono ?_; rintro e w3 ⟨rfl, hb2⟩
  have hL := below_next hL hb2
  clear hb2 SP
  go_upto_region 2 with (refine store_row rfl rfl rfl rfl (RowAt.newAt zero8 rfl) info_cyc ?_)
  show Code.wp _ _ _ _ (sole w3 c 25)
  have hL := sole_below hL c 25
  have hW := sole_first w3 c 25
  generalize w3.heap.size = g at *
  generalize sole w3 c 25 = W4 at *
  go_wp2_with fail
  refine (IM _).mono ?_; rintro e w6 ⟨rfl, hb2⟩
  have hW := hW.below hb2; have hL := below_next hL hb2
  clear hb2 IM
  go_upto_region 3 with (refine store_row rfl rfl rfl rfl (RowAt.newAt zero8 rfl) info_cyc ?_)
  show Code.wp _ _ _ _ (sole w6 c 25)
  have hW0 := sole_keep hW c 25
  have hL0 := sole_below hL c 25
  have hI0 := sole_first w6 c 25
  generalize w6.heap.size = g' at *
  generalize sole w6 c 25 = W7 at *
  have Q := fun w => eqCyc_yes c w
  have hne : (v != v) = false := by cases v <;> rfl
  have heq : (v == v) = true := by cases v <;> rfl
  unfold pt at *
  go_wp2_with (first | (refine load_row rfl rfl rfl hI0 Try.underlying25 rfl info_cyc ?_) | (refine load_row rfl rfl rfl hW0 Try.underlying25 rfl info_cyc ?_))
  refine (Q _).mono ?_; rintro e w9 ⟨rfl, hb9⟩
  have hL9 := below_next hL0 hb9
  clear hI0 hW0 hL0 hb9 Q
  go_wp2_with fail
  go_ret
  exact ⟨rfl, hL9⟩

theorem exactCycReal_walk (a : Nat → Int) (w : World) : Calls Try.prog 23 #[pt a] w (Fine w) := by
  have sa := vec_size 8 a
  obtain ⟨v, SP, IM⟩ := both_CycReal a
  have P := fun w => toCyc_any a w
  have hne : (v != v) = false := by cases v <;> rfl
  have heq : (v == v) = true := by cases v <;> rfl
  unfold pt at *
  go_enter Try.func23, Try.ntmps23
  go_upto_region 1 with fail
  show Code.wp _ _ _ _ (box0 w a 42)
  obtain ⟨hA, hL⟩ := box0_facts w a 42
  generalize box0 w a 42 = W at *
  go_wp2_with (refine load_row rfl rfl rfl hA Try.underlying42 rfl info_law ?_)
  refine (P _).mono ?_; rintro e w2 ⟨rfl, hb2⟩
  have hA := hA.below hb2; have hL := below_next hL hb2
  clear hb2
  go_wp2_with fail
  refine (SP _).mono ?_; rintro e w3 ⟨rfl, hb2⟩
  have hA := hA.below hb2; have hL := below_next hL hb2
  clear hb2 SP
  go_wp2_with (refine load_row rfl rfl rfl hA Try.underlying42 rfl info_law ?_)
  refine (P _).mono ?_; rintro e w5 ⟨rfl, hb2⟩
  have hL := below_next hL hb2
  clear hb2 hA P
  go_wp2_with fail
  refine (IM _).mono ?_; rintro e w6 ⟨rfl, hb2⟩
  have hL := below_next hL hb2
  clear hb2 IM
  go_wp2_with fail
  go_ret
  exact ⟨rfl, hL⟩

theorem exactCycValid_walk (a : Nat → Int) (w : World) : Calls Try.prog 14 #[pt a] w (Fine w) := by
  have sa := vec_size 8 a
  obtain ⟨v, SP, IM⟩ := both_CycValid a
  have P := fun w => toCyc_any a w
  have hne : (v != v) = false := by cases v <;> rfl
  have heq : (v == v) = true := by cases v <;> rfl
  unfold pt at *
  go_enter Try.func14, Try.ntmps14
  go_upto_region 1 with fail
  show Code.wp _ _ _ _ (box0 w a 42)
  obtain ⟨hA, hL⟩ := box0_facts w a 42
  generalize box0 w a 42 = W at *
  go_wp2_with (refine load_row rfl rfl rfl hA Try.underlying42 rfl info_law ?_)
  refine (P _).mono ?_; rintro e w2 ⟨rfl, hb2⟩
  have hA := hA.below hb2; have hL := below_next hL hb2
  clear hb2
  go_wp2_with fail
  refine (SP _).mono ?_; rintro e w3 ⟨rfl, hb2⟩
  have hA := hA.below hb2; have hL := below_next hL hb2
  clear hb2 SP
  go_wp2_with (refine load_row rfl rfl rfl hA Try.underlying42 rfl info_law ?_)
  refine (P _).mono ?_; rintro e w5 ⟨rfl, hb2⟩
  have hL := below_next hL hb2
  clear hb2 hA P
  go_wp2_with fail
  refine (IM _).mono ?_; rintro e w6 ⟨rfl, hb2⟩
  have hL := below_next hL hb2
  clear hb2 IM
  go_wp2_with fail
  go_ret
  exact ⟨rfl, hL⟩
end Go.Proofs.Ytjfljelpjgkmjaa
