/-
  The walks of the laws on TurnOf, TurnAdd, TurnTimes and TurnOrder of every two numbers: impl's answer is spec's.
-/
import Derived.Test.YtnlbcfblfjcfnaaTurn
namespace Go.Proofs.Ytnlbcfblfjcfnaa
open Go.ChangeShapes Go.WideShapes Go.ChangeAt Go.RowKit
set_option linter.unusedVariables false
set_option linter.unusedSimpArgs false

theorem count_yes (n : Int) (h0 : -1000000 ≤ n) (h1 : n ≤ 1000000) (w : World) :
    Calls Try.prog 34 #[.int .i64 n] w fun e w' => e = .returned (.bool true) ∧ w = w' := by
  go_enter Try.func34, Try.ntmps34
  go_wp2
  go_ret
  exact ⟨rfl, rfl⟩
theorem count_no (n : Int) (h : n < -1000000 ∨ 1000000 < n) (w : World) :
    Calls Try.prog 34 #[.int .i64 n] w fun e w' => e = .returned (.bool false) ∧ w = w' := by
  by_cases h0 : -1000000 ≤ n
  · have h1 : 1000000 < n := by omega
    go_enter Try.func34, Try.ntmps34
    go_wp2
    go_ret
    exact ⟨ret_bool (decide_eq_false (by omega)), rfl⟩
  · clear h
    go_enter Try.func34, Try.ntmps34
    go_wp2
    go_ret
    exact ⟨rfl, rfl⟩

/-- What a denominator is. -/
def denOk (d : Int) : Prop := d = 1 ∨ d = 2 ∨ d = 3 ∨ d = 4 ∨ d = 6 ∨ d = 8 ∨ d = 12 ∨ d = 24
theorem den_cases (d : Int) : denOk d ∨ d < 1 ∨ (24 < d ∧ 24 % d = 24) ∨ (1 ≤ d ∧ d ≤ 24 ∧ (24 % d != 0) = true) := by
  by_cases h1 : d < 1
  · exact .inr (.inl h1)
  by_cases h2 : 24 < d
  · exact .inr (.inr (.inl ⟨h2, Int.emod_eq_of_lt (by omega) h2⟩))
  obtain ⟨k, rfl⟩ : ∃ k : Nat, d = k := ⟨d.toNat, by omega⟩
  have hk : k < 25 := by omega
  have hk1 : 1 ≤ k := by omega
  have key : ∀ j : Fin 25, 1 ≤ j.val → (denOk (j.val : Int) ∨ (24 % (j.val : Int) != 0) = true) := by unfold denOk; decide
  rcases key ⟨k, hk⟩ hk1 with h | h
  · exact .inl h
  · exact .inr (.inr (.inr ⟨by omega, by omega, h⟩))

theorem implOf_yes (n d : Int) (hd : denOk d) (h0 : -1000000 ≤ n) (h1 : n ≤ 1000000) (w : World) :
    Calls Try.prog 14 #[.int .i64 n, .int .i64 d] w fun e w' => e = .returned (.tuple #[.int .i64 (n * (24 / d) % 24), .bool true]) ∧ w = w' := by
  rcases hd with rfl | rfl | rfl | rfl | rfl | rfl | rfl | rfl
  all_goals
    go_enter Try.func14, Try.ntmps14
    go_wp2_with (first | (go_at_call 34; refine (count_yes _ h0 h1 _).mono ?_; rintro e w' ⟨rfl, rfl⟩) | (go_at_call 35; refine (within_any _ (by omega) (by omega) _).mono ?_; rintro e w' ⟨rfl, rfl⟩))
    go_ret2
    exact ⟨ret_ib (by omega) rfl, rfl⟩
theorem specOf_yes (n d : Int) (hd : denOk d) (h0 : -1000000 ≤ n) (h1 : n ≤ 1000000) (w : World) :
    Calls Try.prog 15 #[.int .i64 n, .int .i64 d] w fun e w' => e = .returned (.tuple #[.int .i64 (n * (24 / d) % 24), .bool true]) ∧ w = w' := by
  rcases hd with rfl | rfl | rfl | rfl | rfl | rfl | rfl | rfl
  all_goals
    go_enter Try.func15, Try.ntmps15
    go_wp2_with (first | (go_at_call 36; refine (in_yes _ _ _ (by omega) (by omega) _).mono ?_; rintro e w' ⟨rfl, rfl⟩) | (go_at_call 37; refine (mod_any _ (by omega) (by omega) _).mono ?_; rintro e w' ⟨rfl, rfl⟩))
    go_ret2
    exact ⟨ret_ib (by omega) rfl, rfl⟩
/-- Not a fraction of a turn as told. -/
def ofBad (n d : Int) : Prop := d < 1 ∨ (24 < d ∧ 24 % d = 24) ∨ (1 ≤ d ∧ d ≤ 24 ∧ (24 % d != 0) = true) ∨ (denOk d ∧ (n < -1000000 ∨ 1000000 < n))
theorem of_cases (n d : Int) : ofBad n d ∨ (denOk d ∧ -1000000 ≤ n ∧ n ≤ 1000000) := by
  rcases den_cases d with h | h | h | h
  · by_cases hn : n < -1000000 ∨ 1000000 < n
    · exact .inl (.inr (.inr (.inr ⟨h, hn⟩)))
    · exact .inr ⟨h, by omega, by omega⟩
  · exact .inl (.inl h)
  · exact .inl (.inr (.inl h))
  · exact .inl (.inr (.inr (.inl h)))
theorem implOf_no (n d : Int) (h : ofBad n d) (w : World) :
    Calls Try.prog 14 #[.int .i64 n, .int .i64 d] w fun e w' => e = .returned (.tuple #[.int .i64 0, .bool false]) ∧ w = w' := by
  rcases h with h | ⟨h, h2⟩ | ⟨h, h1, h2⟩ | ⟨hd, h⟩
  · go_enter Try.func14, Try.ntmps14
    go_wp2
    go_ret2
    exact ⟨rfl, rfl⟩
  · have h0 : 1 ≤ d := by omega
    go_enter Try.func14, Try.ntmps14
    go_wp2
    go_ret2
    exact ⟨rfl, rfl⟩
  · go_enter Try.func14, Try.ntmps14
    go_wp2
    go_ret2
    exact ⟨rfl, rfl⟩
  · rcases hd with rfl | rfl | rfl | rfl | rfl | rfl | rfl | rfl
    all_goals
      go_enter Try.func14, Try.ntmps14
      go_wp2_with (go_at_call 34; refine (count_no _ h _).mono ?_; rintro e w' ⟨rfl, rfl⟩)
      go_ret2
      exact ⟨rfl, rfl⟩
theorem specOf_no (n d : Int) (h : ofBad n d) (w : World) :
    Calls Try.prog 15 #[.int .i64 n, .int .i64 d] w fun e w' => e = .returned (.tuple #[.int .i64 0, .bool false]) ∧ w = w' := by
  rcases h with h | ⟨h, h2⟩ | ⟨h, h1, h2⟩ | ⟨hd, h⟩
  · go_enter Try.func15, Try.ntmps15
    go_wp2_with (go_at_call 36; refine (in_no _ _ _ (by omega) _).mono ?_; rintro e w' ⟨rfl, rfl⟩)
    go_ret2
    exact ⟨rfl, rfl⟩
  · go_enter Try.func15, Try.ntmps15
    go_wp2_with (go_at_call 36; refine (in_no _ _ _ (by omega) _).mono ?_; rintro e w' ⟨rfl, rfl⟩)
    go_ret2
    exact ⟨rfl, rfl⟩
  · go_enter Try.func15, Try.ntmps15
    go_wp2_with (go_at_call 36; refine (in_yes _ _ _ (by omega) (by omega) _).mono ?_; rintro e w' ⟨rfl, rfl⟩)
    go_ret2
    exact ⟨rfl, rfl⟩
  · rcases hd with rfl | rfl | rfl | rfl | rfl | rfl | rfl | rfl
    all_goals
      go_enter Try.func15, Try.ntmps15
      go_wp2_with fail
      refine (in_yes _ _ _ (by omega) (by omega) _).mono ?_; rintro e w' ⟨rfl, rfl⟩
      go_wp2_with fail
      refine (in_no _ _ _ (by omega) _).mono ?_; rintro e w' ⟨rfl, rfl⟩
      go_wp2_with fail
      go_ret2
      exact ⟨rfl, rfl⟩
theorem exactOf_walk (n d : Int) (w : World) :
    Calls Try.prog 8 #[.int .i64 n, .int .i64 d] w fun e w' => e = .returned (.bool true) ∧ w = w' := by
  rcases of_cases n d with h | ⟨hd, h0, h1⟩
  · go_enter Try.func8, Try.ntmps8
    go_wp2_with (first | (go_at_call 15; refine (specOf_no _ _ h _).mono ?_; rintro e w' ⟨rfl, rfl⟩) | (go_at_call 14; refine (implOf_no _ _ h _).mono ?_; rintro e w' ⟨rfl, rfl⟩))
    go_ret
    exact ⟨rfl, rfl⟩
  · go_enter Try.func8, Try.ntmps8
    go_wp2_with (first | (go_at_call 15; refine (specOf_yes _ _ hd h0 h1 _).mono ?_; rintro e w' ⟨rfl, rfl⟩) | (go_at_call 14; refine (implOf_yes _ _ hd h0 h1 _).mono ?_; rintro e w' ⟨rfl, rfl⟩))
    go_ret
    exact ⟨rfl, rfl⟩

/-! TurnAdd -/
theorem plus_any (a b : Int) (a0 : 0 ≤ a) (a1 : a ≤ 23) (b0 : 0 ≤ b) (b1 : b ≤ 23) (w : World) :
    Calls Try.prog 41 #[.int .i64 a, .int .i64 b] w fun e w' => e = .returned (.int .i64 ((a + b) % 24)) ∧ w = w' := by
  go_enter Try.func41, Try.ntmps41
  go_wp2_with (go_at_call 35; refine (within_any _ (by omega) (by omega) _).mono ?_; rintro e w' ⟨rfl, rfl⟩)
  go_ret
  exact ⟨rfl, rfl⟩
theorem implAdd_yes (a b : Int) (a0 : 0 ≤ a) (a1 : a ≤ 23) (b0 : 0 ≤ b) (b1 : b ≤ 23) (w : World) :
    Calls Try.prog 18 #[.int .i64 a, .int .i64 b] w fun e w' => e = .returned (.tuple #[.int .i64 ((a + b) % 24), .bool true]) ∧ w = w' := by
  go_enter Try.func18, Try.ntmps18
  go_wp2_with (first | (go_at_call 38; refine (isTurn_yes _ (by omega) (by omega) _).mono ?_; rintro e w' ⟨rfl, rfl⟩) | (go_at_call 41; refine (plus_any _ _ a0 a1 b0 b1 _).mono ?_; rintro e w' ⟨rfl, rfl⟩))
  go_ret2
  exact ⟨rfl, rfl⟩
theorem specAdd_yes (a b : Int) (a0 : 0 ≤ a) (a1 : a ≤ 23) (b0 : 0 ≤ b) (b1 : b ≤ 23) (w : World) :
    Calls Try.prog 19 #[.int .i64 a, .int .i64 b] w fun e w' => e = .returned (.tuple #[.int .i64 ((a + b) % 24), .bool true]) ∧ w = w' := by
  go_enter Try.func19, Try.ntmps19
  go_wp2_with (first | (go_at_call 42; refine (is_yes _ (by omega) (by omega) _).mono ?_; rintro e w' ⟨rfl, rfl⟩) | (go_at_call 37; refine (mod_any _ (by omega) (by omega) _).mono ?_; rintro e w' ⟨rfl, rfl⟩))
  go_ret2
  exact ⟨rfl, rfl⟩
/-- One of both is no turn. -/
def twoBad (a b : Int) : Prop := (a < 0 ∨ 23 < a) ∨ (0 ≤ a ∧ a ≤ 23 ∧ (b < 0 ∨ 23 < b))
theorem two_cases (a b : Int) : twoBad a b ∨ (0 ≤ a ∧ a ≤ 23 ∧ 0 ≤ b ∧ b ≤ 23) := by unfold twoBad; omega
theorem implAdd_no (a b : Int) (h : twoBad a b) (w : World) :
    Calls Try.prog 18 #[.int .i64 a, .int .i64 b] w fun e w' => e = .returned (.tuple #[.int .i64 0, .bool false]) ∧ w = w' := by
  rcases h with h | ⟨a0, a1, h⟩
  · go_enter Try.func18, Try.ntmps18
    go_wp2_with (go_at_call 38; refine (isTurn_no _ h _).mono ?_; rintro e w' ⟨rfl, rfl⟩)
    go_ret2
    exact ⟨rfl, rfl⟩
  · go_enter Try.func18, Try.ntmps18
    go_wp2_with fail
    refine (isTurn_yes _ a0 a1 _).mono ?_; rintro e w' ⟨rfl, rfl⟩
    go_wp2_with fail
    refine (isTurn_no _ h _).mono ?_; rintro e w' ⟨rfl, rfl⟩
    go_wp2_with fail
    go_ret2
    exact ⟨rfl, rfl⟩
theorem specAdd_no (a b : Int) (h : twoBad a b) (w : World) :
    Calls Try.prog 19 #[.int .i64 a, .int .i64 b] w fun e w' => e = .returned (.tuple #[.int .i64 0, .bool false]) ∧ w = w' := by
  rcases h with h | ⟨a0, a1, h⟩
  · go_enter Try.func19, Try.ntmps19
    go_wp2_with (go_at_call 42; refine (is_no _ h _).mono ?_; rintro e w' ⟨rfl, rfl⟩)
    go_ret2
    exact ⟨rfl, rfl⟩
  · go_enter Try.func19, Try.ntmps19
    go_wp2_with fail
    refine (is_yes _ a0 a1 _).mono ?_; rintro e w' ⟨rfl, rfl⟩
    go_wp2_with fail
    refine (is_no _ h _).mono ?_; rintro e w' ⟨rfl, rfl⟩
    go_wp2_with fail
    go_ret2
    exact ⟨rfl, rfl⟩
theorem exactAdd_walk (a b : Int) (w : World) :
    Calls Try.prog 9 #[.int .i64 a, .int .i64 b] w fun e w' => e = .returned (.bool true) ∧ w = w' := by
  rcases two_cases a b with h | ⟨a0, a1, b0, b1⟩
  · go_enter Try.func9, Try.ntmps9
    go_wp2_with (first | (go_at_call 19; refine (specAdd_no _ _ h _).mono ?_; rintro e w' ⟨rfl, rfl⟩) | (go_at_call 18; refine (implAdd_no _ _ h _).mono ?_; rintro e w' ⟨rfl, rfl⟩))
    go_ret
    exact ⟨rfl, rfl⟩
  · go_enter Try.func9, Try.ntmps9
    go_wp2_with (first | (go_at_call 19; refine (specAdd_yes _ _ a0 a1 b0 b1 _).mono ?_; rintro e w' ⟨rfl, rfl⟩) | (go_at_call 18; refine (implAdd_yes _ _ a0 a1 b0 b1 _).mono ?_; rintro e w' ⟨rfl, rfl⟩))
    go_ret
    exact ⟨rfl, rfl⟩

/-! TurnTimes -/
def timesBad (a n : Int) : Prop := (a < 0 ∨ 23 < a) ∨ (0 ≤ a ∧ a ≤ 23 ∧ (n < -1000000 ∨ 1000000 < n))
theorem times_cases (a n : Int) : timesBad a n ∨ (0 ≤ a ∧ a ≤ 23 ∧ -1000000 ≤ n ∧ n ≤ 1000000) := by unfold timesBad; omega
theorem mul_bound (a n : Int) (a0 : 0 ≤ a) (a1 : a ≤ 23) (h0 : -1000000 ≤ n) (h1 : n ≤ 1000000) : -23000000 ≤ a * n ∧ a * n ≤ 23000000 := by
  have key : ∀ k : Nat, k ≤ 23 → -23000000 ≤ (k : Int) * n ∧ (k : Int) * n ≤ 23000000 := by
    intro k hk
    have : -(k : Int) * 1000000 ≤ (k : Int) * n ∧ (k : Int) * n ≤ (k : Int) * 1000000 :=
      ⟨by have := Int.mul_le_mul_of_nonneg_left h0 (show (0 : Int) ≤ k by omega); omega, Int.mul_le_mul_of_nonneg_left h1 (by omega)⟩
    omega
  obtain ⟨k, rfl⟩ : ∃ k : Nat, a = k := ⟨a.toNat, by omega⟩
  exact key k (by omega)
theorem times_any (a n : Int) (a0 : 0 ≤ a) (a1 : a ≤ 23) (h0 : -1000000 ≤ n) (h1 : n ≤ 1000000) (w : World) :
    Calls Try.prog 39 #[.int .i64 a, .int .i64 n] w fun e w' => e = .returned (.int .i64 (a * n % 24)) ∧ w = w' := by
  obtain ⟨m0, m1⟩ := mul_bound a n a0 a1 h0 h1
  go_enter Try.func39, Try.ntmps39
  go_wp2_with (go_at_call 35; refine (within_any _ (by omega) (by omega) _).mono ?_; rintro e w' ⟨rfl, rfl⟩)
  go_ret
  exact ⟨rfl, rfl⟩
theorem implTimes_yes (a n : Int) (a0 : 0 ≤ a) (a1 : a ≤ 23) (h0 : -1000000 ≤ n) (h1 : n ≤ 1000000) (w : World) :
    Calls Try.prog 16 #[.int .i64 a, .int .i64 n] w fun e w' => e = .returned (.tuple #[.int .i64 (a * n % 24), .bool true]) ∧ w = w' := by
  go_enter Try.func16, Try.ntmps16
  go_wp2_with (first | (go_at_call 38; refine (isTurn_yes _ (by omega) (by omega) _).mono ?_; rintro e w' ⟨rfl, rfl⟩) | (go_at_call 34; refine (count_yes _ h0 h1 _).mono ?_; rintro e w' ⟨rfl, rfl⟩) | (go_at_call 39; refine (times_any _ _ a0 a1 h0 h1 _).mono ?_; rintro e w' ⟨rfl, rfl⟩))
  go_ret2
  exact ⟨rfl, rfl⟩
theorem specTimes_yes (a n : Int) (a0 : 0 ≤ a) (a1 : a ≤ 23) (h0 : -1000000 ≤ n) (h1 : n ≤ 1000000) (w : World) :
    Calls Try.prog 21 #[.int .i64 a, .int .i64 n] w fun e w' => e = .returned (.tuple #[.int .i64 (a * n % 24), .bool true]) ∧ w = w' := by
  obtain ⟨m0, m1⟩ := mul_bound a n a0 a1 h0 h1
  go_enter Try.func21, Try.ntmps21
  go_wp2_with (first | (go_at_call 42; refine (is_yes _ (by omega) (by omega) _).mono ?_; rintro e w' ⟨rfl, rfl⟩) | (go_at_call 36; refine (in_yes _ _ _ h0 h1 _).mono ?_; rintro e w' ⟨rfl, rfl⟩) | (go_at_call 37; refine (mod_any _ (by omega) (by omega) _).mono ?_; rintro e w' ⟨rfl, rfl⟩))
  go_ret2
  exact ⟨rfl, rfl⟩
theorem implTimes_no (a n : Int) (h : timesBad a n) (w : World) :
    Calls Try.prog 16 #[.int .i64 a, .int .i64 n] w fun e w' => e = .returned (.tuple #[.int .i64 0, .bool false]) ∧ w = w' := by
  rcases h with h | ⟨a0, a1, h⟩
  · go_enter Try.func16, Try.ntmps16
    go_wp2_with (go_at_call 38; refine (isTurn_no _ h _).mono ?_; rintro e w' ⟨rfl, rfl⟩)
    go_ret2
    exact ⟨rfl, rfl⟩
  · go_enter Try.func16, Try.ntmps16
    go_wp2_with fail
    refine (isTurn_yes _ a0 a1 _).mono ?_; rintro e w' ⟨rfl, rfl⟩
    go_wp2_with fail
    refine (count_no _ h _).mono ?_; rintro e w' ⟨rfl, rfl⟩
    go_wp2_with fail
    go_ret2
    exact ⟨rfl, rfl⟩
theorem specTimes_no (a n : Int) (h : timesBad a n) (w : World) :
    Calls Try.prog 21 #[.int .i64 a, .int .i64 n] w fun e w' => e = .returned (.tuple #[.int .i64 0, .bool false]) ∧ w = w' := by
  rcases h with h | ⟨a0, a1, h⟩
  · go_enter Try.func21, Try.ntmps21
    go_wp2_with (go_at_call 42; refine (is_no _ h _).mono ?_; rintro e w' ⟨rfl, rfl⟩)
    go_ret2
    exact ⟨rfl, rfl⟩
  · go_enter Try.func21, Try.ntmps21
    go_wp2_with fail
    refine (is_yes _ a0 a1 _).mono ?_; rintro e w' ⟨rfl, rfl⟩
    go_wp2_with fail
    refine (in_no _ _ _ h _).mono ?_; rintro e w' ⟨rfl, rfl⟩
    go_wp2_with fail
    go_ret2
    exact ⟨rfl, rfl⟩
theorem exactTimes_walk (a n : Int) (w : World) :
    Calls Try.prog 10 #[.int .i64 a, .int .i64 n] w fun e w' => e = .returned (.bool true) ∧ w = w' := by
  rcases times_cases a n with h | ⟨a0, a1, h0, h1⟩
  · go_enter Try.func10, Try.ntmps10
    go_wp2_with (first | (go_at_call 21; refine (specTimes_no _ _ h _).mono ?_; rintro e w' ⟨rfl, rfl⟩) | (go_at_call 16; refine (implTimes_no _ _ h _).mono ?_; rintro e w' ⟨rfl, rfl⟩))
    go_ret
    exact ⟨rfl, rfl⟩
  · go_enter Try.func10, Try.ntmps10
    go_wp2_with (first | (go_at_call 21; refine (specTimes_yes _ _ a0 a1 h0 h1 _).mono ?_; rintro e w' ⟨rfl, rfl⟩) | (go_at_call 16; refine (implTimes_yes _ _ a0 a1 h0 h1 _).mono ?_; rintro e w' ⟨rfl, rfl⟩))
    go_ret
    exact ⟨rfl, rfl⟩

/-! TurnOrder -/
theorem gcd_le_24 (t : Nat) (h : t ≤ 1000000) : 0 < Nat.gcd 24 t ∧ Nat.gcd 24 t ≤ 24 := ⟨Nat.gcd_pos_of_pos_left _ (by omega), Nat.le_of_dvd (by omega) (Nat.gcd_dvd_left _ _)⟩
theorem specGcd_any (a b : Nat) (ha : a ≤ 1000000) (hb : b ≤ 1000000) (w : World) :
    Calls Try.prog 45 #[.int .i64 a, .int .i64 b] w fun e w' => e = .returned (.int .i64 (Nat.gcd a b)) ∧ w = w' := by
  go_enter Try.func45, Try.ntmps45
  go_wp2
  go_loop [0, 1, 5] (fun x y _ => ∃ p q : Nat, x = .int .i64 p ∧ y = .int .i64 q ∧ p ≤ 1000000 ∧ q ≤ 1000000 ∧ Nat.gcd p q = Nat.gcd a b) (fun _ y _ => (intOf y).toNat)
  case atStart => exact ⟨a, b, rfl, rfl, ha, hb, rfl⟩
  case round =>
    obtain ⟨p, q, rfl, rfl, hp, hq, hg⟩ := hrel
    have G := Lib.hid hg; clear hg
    by_cases h : q = 0
    · subst h
      go_wp2
      go_ret
      exact ⟨ret_int (by have := G.out; simp at this; omega), rfl⟩
    · have hq0 : ((q : Int) != 0) = true := by simpa using h
      have hq1 : (0 : Int) < q := by omega
      have hq2 : ((q : Int) == 0) = false := by simpa using h
      go_wp2
      go_round
      case rel => exact ⟨q, p % q, rfl, by go_num, hq, by have := Nat.mod_lt p (Nat.pos_of_ne_zero h); omega, by rw [← G.out, Nat.gcd_comm p q, Nat.gcd_rec q p, Nat.gcd_comm]⟩
      case measure => have := Nat.mod_lt p (Nat.pos_of_ne_zero h); simp [intOf]; omega
theorem order_any (t : Nat) (h1 : t ≤ 23) (w : World) :
    Calls Try.prog 44 #[.int .i64 t] w fun e w' => e = .returned (.int .i64 ((24 / Nat.gcd 24 t : Nat))) ∧ ∃ m, w' = w.drewN m := by
  obtain ⟨g0, g1⟩ := gcd_le_24 t (by omega)
  have ec : Nat.gcd t 24 = Nat.gcd 24 t := Nat.gcd_comm _ _
  have h := gcd_any t 24 (by omega) (by omega) w
  rw [ec] at h
  clear ec
  generalize Nat.gcd 24 t = g at *
  have G := Lib.hid h; clear h
  go_enter Try.func44, Try.ntmps44
  go_wp2_with (go_at_call 46; refine G.out.mono ?_; rintro e w' ⟨rfl, m, rfl⟩)
  go_ret
  exact ⟨ret_int (by simp), m, rfl⟩
theorem implOrder_yes (t : Nat) (h1 : t ≤ 23) (w : World) :
    Calls Try.prog 23 #[.int .i64 t] w fun e w' => e = .returned (.int .i64 ((24 / Nat.gcd 24 t : Nat))) ∧ ∃ m, w' = w.drewN m := by
  go_enter Try.func23, Try.ntmps23
  go_wp2_with (first | (go_at_call 38; refine (isTurn_yes _ (by omega) (by omega) _).mono ?_; rintro e w' ⟨rfl, rfl⟩) | (go_at_call 44; refine (order_any t h1 _).mono ?_; rintro e w' ⟨rfl, m, rfl⟩))
  go_ret
  exact ⟨rfl, m, rfl⟩
theorem implOrder_no (t : Int) (h : t < 0 ∨ 23 < t) (w : World) :
    Calls Try.prog 23 #[.int .i64 t] w fun e w' => e = .returned (.int .i64 0) ∧ w = w' := by
  go_enter Try.func23, Try.ntmps23
  go_wp2_with (go_at_call 38; refine (isTurn_no _ h _).mono ?_; rintro e w' ⟨rfl, rfl⟩)
  go_ret
  exact ⟨rfl, rfl⟩
theorem specOrder_yes (t : Nat) (h1 : t ≤ 23) (w : World) :
    Calls Try.prog 24 #[.int .i64 t] w fun e w' => e = .returned (.int .i64 ((24 / Nat.gcd 24 t : Nat))) ∧ w = w' := by
  obtain ⟨g0, g1⟩ := gcd_le_24 t (by omega)
  have h := specGcd_any 24 t (by omega) (by omega) w
  generalize Nat.gcd 24 t = g at *
  have G := Lib.hid h; clear h
  go_enter Try.func24, Try.ntmps24
  go_wp2_with (first | (go_at_call 42; refine (is_yes _ (by omega) (by omega) _).mono ?_; rintro e w' ⟨rfl, rfl⟩) | (go_at_call 45; refine G.out.mono ?_; rintro e w' ⟨rfl, rfl⟩))
  go_ret
  exact ⟨ret_int (by simp), rfl⟩
theorem specOrder_no (t : Int) (h : t < 0 ∨ 23 < t) (w : World) :
    Calls Try.prog 24 #[.int .i64 t] w fun e w' => e = .returned (.int .i64 0) ∧ w = w' := by
  go_enter Try.func24, Try.ntmps24
  go_wp2_with (go_at_call 42; refine (is_no _ h _).mono ?_; rintro e w' ⟨rfl, rfl⟩)
  go_ret
  exact ⟨rfl, rfl⟩
theorem exactOrder_walk (t : Int) (w : World) :
    Calls Try.prog 11 #[.int .i64 t] w fun e w' => e = .returned (.bool true) ∧ ∃ m, w' = w.drewN m := by
  by_cases h : t < 0 ∨ 23 < t
  · go_enter Try.func11, Try.ntmps11
    go_wp2_with (first | (go_at_call 24; refine (specOrder_no _ h _).mono ?_; rintro e w' ⟨rfl, rfl⟩) | (go_at_call 23; refine (implOrder_no _ h _).mono ?_; rintro e w' ⟨rfl, rfl⟩))
    go_ret
    exact ⟨rfl, 0, rfl⟩
  · obtain ⟨k, rfl⟩ : ∃ k : Nat, t = k := ⟨t.toNat, by omega⟩
    have hk : k ≤ 23 := by omega
    clear h
    go_enter Try.func11, Try.ntmps11
    go_wp2_with (first | (go_at_call 24; refine (specOrder_yes k hk _).mono ?_; rintro e w' ⟨rfl, rfl⟩) | (go_at_call 23; refine (implOrder_yes k hk _).mono ?_; rintro e w' ⟨rfl, m, rfl⟩))
    go_ret
    exact ⟨rfl, m, rfl⟩
end Go.Proofs.Ytnlbcfblfjcfnaa
