/-
  Contracts of spec's surds.
-/
import Derived.Test.YtdgbpdeimckbfaaM26
import Derived.Test.YtdgbpdeimckbfaaM01
/- Contracts of spec's surds. -/
namespace Go.Proofs.Ytdgbpdeimckbfaa
set_option maxRecDepth 20000
open Go.ChangeShapes Go.WideShapes Go.ChangeAt Go.RowKit
set_option linter.unusedVariables false
set_option linter.unusedSimpArgs false

theorem sg4_other (a b c d : Int) : sg4 a b c d = joined (sg2 a b) (sg2 c d) (sg2 (a * a + 2 * b * b - 3 * c * c - 6 * d * d) (2 * a * b - 6 * c * d)) := by
  rw [sg4_joined, show a * a + 2 * b * b - 3 * (c * c + 2 * d * d) = a * a + 2 * b * b - 3 * c * c - 6 * d * d by grind, show 2 * a * b - 3 * (2 * c * d) = 2 * a * b - 6 * c * d by grind]
theorem sg2_three (a b : Int) : sg2 a b = 1 ∨ sg2 a b = 0 ∨ sg2 a b = -1 := by have := sg2_in a b; omega
/-! ### Validity -/
theorem l6In_rng (n : Int) (w : World) : Calls Try.prog 96 #[.int .i64 n, .int .i64 (-10000000), .int .i64 10000000] w fun e w' => e = .returned (.bool (rng n)) ∧ w = w' := by
  by_cases h : -10000000 ≤ n ∧ n ≤ 10000000
  · rw [show rng n = true from decide_eq_true h]; exact in_yes n _ _ h.1 h.2 w
  · rw [show rng n = false from decide_eq_false h]; exact in_no n _ _ (by omega) w
set_option maxHeartbeats 2000000 in
theorem specValid_at (a b c d : Int) (w : World) :
    Calls Try.prog 143 #[sv a b c d] w fun e w' => e = .returned (.bool (okr a b c d)) ∧ w' = w.alloc (.cells #[.int .i64 a, .int .i64 b, .int .i64 c, .int .i64 d] 43) := by
  unfold sv
  cases p : rng a
  · go_enter Try.func143, Try.ntmps143
    go_wp2_with (refine (l6In_rng _ _).mono ?_; rintro e w' ⟨rfl, rfl⟩)
    go_ret
    exact ⟨ret_bool (by simp [okr, *]), rfl⟩
  cases q : rng b
  · go_enter Try.func143, Try.ntmps143
    go_wp2_with (refine (l6In_rng _ _).mono ?_; rintro e w' ⟨rfl, rfl⟩)
    go_ret
    exact ⟨ret_bool (by simp [okr, *]), rfl⟩
  cases r : rng c
  · go_enter Try.func143, Try.ntmps143
    go_wp2_with (refine (l6In_rng _ _).mono ?_; rintro e w' ⟨rfl, rfl⟩)
    go_ret
    exact ⟨ret_bool (by simp [okr, *]), rfl⟩
  go_enter Try.func143, Try.ntmps143
  go_wp2_with (refine (l6In_rng _ _).mono ?_; rintro e w' ⟨rfl, rfl⟩)
  go_ret
  exact ⟨ret_bool (by simp [okr, *]), rfl⟩
theorem specDone_at (a b c d : Int) (w : World) : Calls Try.prog 141 #[sv a b c d] w fun e w' => e = .returned (tell a b c d) ∧ ∃ o p q : Obj, w' = ((w.alloc o).alloc p).alloc q := by
  cases hv : okr a b c d
  · rw [tell_f hv]
    unfold sv
    go_enter Try.func141, Try.ntmps141
    go_wp2_with (refine (specValid_at _ _ _ _ _).mono ?_; rintro e w' ⟨rfl, rfl⟩)
    simp [bodyPost, results, Try.results141, go_sem]
    exact ⟨_, _, _, rfl⟩
  · rw [tell_t hv]
    unfold sv
    go_enter Try.func141, Try.ntmps141
    go_wp2_with (refine (specValid_at _ _ _ _ _).mono ?_; rintro e w' ⟨rfl, rfl⟩)
    simp [bodyPost, results, Try.results141, go_sem]
    exact ⟨_, _, _, rfl⟩
theorem specSum_one (a b c d a' b' c' d' : Int) (ha : -10000000 ≤ a ∧ a ≤ 10000000) (hb : -10000000 ≤ b ∧ b ≤ 10000000) (hc : -10000000 ≤ c ∧ c ≤ 10000000) (hd : -10000000 ≤ d ∧ d ≤ 10000000) (ha' : -10000000 ≤ a' ∧ a' ≤ 10000000) (hb' : -10000000 ≤ b' ∧ b' ≤ 10000000) (hc' : -10000000 ≤ c' ∧ c' ≤ 10000000) (hd' : -10000000 ≤ d' ∧ d' ≤ 10000000) (w : World) :
    Calls Try.prog 144 #[sv a b c d, .int .i64 1, sv a' b' c' d'] w fun e w' => e = .returned (sv (a + a') (b + b') (c + c') (d + d')) ∧ ∃ o p q : Obj, w' = ((w.alloc o).alloc p).alloc q := by
  unfold sv
  go_enter Try.func144, Try.ntmps144
  go_wp2
  simp [bodyPost, results, Try.results144, go_sem]
  first | exact ⟨_, _, _, rfl⟩ | exact ⟨by simp [Int.sub_eq_add_neg], _, _, _, rfl⟩
theorem specSum_less (a b c d a' b' c' d' : Int) (ha : -10000000 ≤ a ∧ a ≤ 10000000) (hb : -10000000 ≤ b ∧ b ≤ 10000000) (hc : -10000000 ≤ c ∧ c ≤ 10000000) (hd : -10000000 ≤ d ∧ d ≤ 10000000) (ha' : -10000000 ≤ a' ∧ a' ≤ 10000000) (hb' : -10000000 ≤ b' ∧ b' ≤ 10000000) (hc' : -10000000 ≤ c' ∧ c' ≤ 10000000) (hd' : -10000000 ≤ d' ∧ d' ≤ 10000000) (w : World) :
    Calls Try.prog 144 #[sv a b c d, .int .i64 (-1), sv a' b' c' d'] w fun e w' => e = .returned (sv (a - a') (b - b') (c - c') (d - d')) ∧ ∃ o p q : Obj, w' = ((w.alloc o).alloc p).alloc q := by
  unfold sv
  go_enter Try.func144, Try.ntmps144
  go_wp2
  simp [bodyPost, results, Try.results144, go_sem]
  first | exact ⟨_, _, _, rfl⟩ | exact ⟨by simp [Int.sub_eq_add_neg], _, _, _, rfl⟩
end Go.Proofs.Ytdgbpdeimckbfaa
