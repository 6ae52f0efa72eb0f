/-
  Contracts of spec's surds.
-/
import Derived.Test.YtcdlenphgenejaaSurdS
import Derived.Test.YtcdlenphgenejaaSurdF
import Derived.Test.YtcdlenphgenejaaCycV
namespace Go.Proofs.Ytcdlenphgenejaa
set_option maxRecDepth 20000
open Go.ChangeShapes Go.WideShapes Go.ChangeAt Go.RowKit
set_option linter.unusedVariables false
set_option linter.unusedSimpArgs false

theorem sg4_other (a b c d : Int) : sg4 a b c d = joined (sg2 a b) (sg2 c d) (sg2 (a * a + 2 * b * b - 3 * c * c - 6 * d * d) (2 * a * b - 6 * c * d)) := by
  rw [sg4_joined, show a * a + 2 * b * b - 3 * (c * c + 2 * d * d) = a * a + 2 * b * b - 3 * c * c - 6 * d * d by grind, show 2 * a * b - 3 * (2 * c * d) = 2 * a * b - 6 * c * d by grind]
theorem sg2_three (a b : Int) : sg2 a b = 1 ∨ sg2 a b = 0 ∨ sg2 a b = -1 := by have := sg2_in a b; omega
set_option maxHeartbeats 4000000 in
theorem l3Sign_any (a b c d : Int) (ha : -100000000 ≤ a ∧ a ≤ 100000000) (hb : -100000000 ≤ b ∧ b ≤ 100000000) (hc : -100000000 ≤ c ∧ c ≤ 100000000) (hd : -100000000 ≤ d ∧ d ≤ 100000000) (w : World) :
    Calls Try.prog 74 #[sv a b c d] w fun e w' => e = .returned (.int .i64 (sg4 a b c d)) ∧ Below w.heap.size w w' := by
  have b1 := mul_in 100000000 100000000 ha ha
  have b2 := mul_in 200000000 100000000 (x := 2 * b) (by omega) hb
  have b3 := mul_in 200000000 100000000 (x := 2 * a) (by omega) hb
  have c1 := mul_in 300000000 100000000 (x := 3 * c) (by omega) hc
  have c2 := mul_in 600000000 100000000 (x := 6 * d) (by omega) hd
  have c3 := mul_in 600000000 100000000 (x := 6 * c) (by omega) hd
  simp only [Nat.reduceMul] at b1 b2 b3 c1 c2 c3
  have A := fun w => l3Two_any a b (by omega) (by omega) w
  have B := fun w => l3Two_any c d (by omega) (by omega) w
  have C := fun w => l3Two_any (a * a + 2 * b * b - 3 * c * c - 6 * d * d) (2 * a * b - 6 * c * d) (by omega) (by omega) w
  have E := sg4_other a b c d
  have hp := sg2_three a b
  have hq := sg2_three c d
  have hr := sg2_in (a * a + 2 * b * b - 3 * c * c - 6 * d * d) (2 * a * b - 6 * c * d)
  generalize sg4 a b c d = z at *
  generalize sg2 a b = p at *
  generalize sg2 c d = q at *
  generalize sg2 (a * a + 2 * b * b - 3 * c * c - 6 * d * d) (2 * a * b - 6 * c * d) = r at *
  have HE := Lib.hid E; clear E
  unfold sv
  rcases hp with rfl | rfl | rfl <;> rcases hq with rfl | rfl | rfl <;>
  · go_enter Try.func74, Try.ntmps74
    go_wp2_with (first | (go_at_call_of 94 (Value.int .i64 a); refine (A _).mono ?_; rintro e w' ⟨rfl, rfl⟩) | (go_at_call_of 94 (Value.int .i64 c); refine (B _).mono ?_; rintro e w' ⟨rfl, rfl⟩) | (go_at_call 94; refine (C _).mono ?_; rintro e w' ⟨rfl, rfl⟩))
    go_ret
    exact ⟨ret_int (by rw [HE.out]; simp [joined, sg1]), below_one _ _⟩
/-! ### Validity -/
theorem l6In_rng (n : Int) (w : World) : Calls Try.prog 52 #[.int .i64 n, .int .i64 (-10000000), .int .i64 10000000] w fun e w' => e = .returned (.bool (rng n)) ∧ w = w' := by
  by_cases h : -10000000 ≤ n ∧ n ≤ 10000000
  · rw [show rng n = true from decide_eq_true h]; exact in_yes n _ _ h.1 h.2 w
  · rw [show rng n = false from decide_eq_false h]; exact in_no n _ _ (by omega) w
set_option maxHeartbeats 2000000 in
theorem specValid_at (a b c d : Int) (w : World) :
    Calls Try.prog 17 #[sv a b c d] w fun e w' => e = .returned (.bool (okr a b c d)) ∧ w' = w.alloc (.cells #[.int .i64 a, .int .i64 b, .int .i64 c, .int .i64 d] 24) := by
  unfold sv
  cases p : rng a
  · go_enter Try.func17, Try.ntmps17
    go_wp2_with (refine (l6In_rng _ _).mono ?_; rintro e w' ⟨rfl, rfl⟩)
    go_ret
    exact ⟨ret_bool (by simp [okr, *]), rfl⟩
  cases q : rng b
  · go_enter Try.func17, Try.ntmps17
    go_wp2_with (refine (l6In_rng _ _).mono ?_; rintro e w' ⟨rfl, rfl⟩)
    go_ret
    exact ⟨ret_bool (by simp [okr, *]), rfl⟩
  cases r : rng c
  · go_enter Try.func17, Try.ntmps17
    go_wp2_with (refine (l6In_rng _ _).mono ?_; rintro e w' ⟨rfl, rfl⟩)
    go_ret
    exact ⟨ret_bool (by simp [okr, *]), rfl⟩
  go_enter Try.func17, Try.ntmps17
  go_wp2_with (refine (l6In_rng _ _).mono ?_; rintro e w' ⟨rfl, rfl⟩)
  go_ret
  exact ⟨ret_bool (by simp [okr, *]), rfl⟩
theorem specDone_at (a b c d : Int) (w : World) : Calls Try.prog 61 #[sv a b c d] w fun e w' => e = .returned (tell a b c d) ∧ ∃ o p q : Obj, w' = ((w.alloc o).alloc p).alloc q := by
  cases hv : okr a b c d
  · rw [tell_f hv]
    unfold sv
    go_enter Try.func61, Try.ntmps61
    go_wp2_with (refine (specValid_at _ _ _ _ _).mono ?_; rintro e w' ⟨rfl, rfl⟩)
    simp [bodyPost, results, Try.results61, go_sem]
    exact ⟨_, _, _, rfl⟩
  · rw [tell_t hv]
    unfold sv
    go_enter Try.func61, Try.ntmps61
    go_wp2_with (refine (specValid_at _ _ _ _ _).mono ?_; rintro e w' ⟨rfl, rfl⟩)
    simp [bodyPost, results, Try.results61, go_sem]
    exact ⟨_, _, _, rfl⟩
theorem specSum_one (a b c d a' b' c' d' : Int) (ha : -10000000 ≤ a ∧ a ≤ 10000000) (hb : -10000000 ≤ b ∧ b ≤ 10000000) (hc : -10000000 ≤ c ∧ c ≤ 10000000) (hd : -10000000 ≤ d ∧ d ≤ 10000000) (ha' : -10000000 ≤ a' ∧ a' ≤ 10000000) (hb' : -10000000 ≤ b' ∧ b' ≤ 10000000) (hc' : -10000000 ≤ c' ∧ c' ≤ 10000000) (hd' : -10000000 ≤ d' ∧ d' ≤ 10000000) (w : World) :
    Calls Try.prog 71 #[sv a b c d, .int .i64 1, sv a' b' c' d'] w fun e w' => e = .returned (sv (a + a') (b + b') (c + c') (d + d')) ∧ ∃ o p q : Obj, w' = ((w.alloc o).alloc p).alloc q := by
  unfold sv
  go_enter Try.func71, Try.ntmps71
  go_wp2
  simp [bodyPost, results, Try.results71, go_sem]
  first | exact ⟨_, _, _, rfl⟩ | exact ⟨by simp [Int.sub_eq_add_neg], _, _, _, rfl⟩
theorem specSum_less (a b c d a' b' c' d' : Int) (ha : -10000000 ≤ a ∧ a ≤ 10000000) (hb : -10000000 ≤ b ∧ b ≤ 10000000) (hc : -10000000 ≤ c ∧ c ≤ 10000000) (hd : -10000000 ≤ d ∧ d ≤ 10000000) (ha' : -10000000 ≤ a' ∧ a' ≤ 10000000) (hb' : -10000000 ≤ b' ∧ b' ≤ 10000000) (hc' : -10000000 ≤ c' ∧ c' ≤ 10000000) (hd' : -10000000 ≤ d' ∧ d' ≤ 10000000) (w : World) :
    Calls Try.prog 71 #[sv a b c d, .int .i64 (-1), sv a' b' c' d'] w fun e w' => e = .returned (sv (a - a') (b - b') (c - c') (d - d')) ∧ ∃ o p q : Obj, w' = ((w.alloc o).alloc p).alloc q := by
  unfold sv
  go_enter Try.func71, Try.ntmps71
  go_wp2
  simp [bodyPost, results, Try.results71, go_sem]
  first | exact ⟨_, _, _, rfl⟩ | exact ⟨by simp [Int.sub_eq_add_neg], _, _, _, rfl⟩
end Go.Proofs.Ytcdlenphgenejaa
