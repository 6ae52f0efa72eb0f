/-
  Contracts of what signs are made of: comparisons, sizes, products of 128 bits, and the sign of a sum.
-/
import Derived.Test.YtcdlenphgenejaaSurdMath
import Derived.Test.YtcdlenphgenejaaTurn
import Derived.Shelf.Bits.Mul64
namespace Go.Proofs.Ytcdlenphgenejaa
set_option maxRecDepth 20000
open Go.ChangeShapes Go.WideShapes Go.ChangeAt Go.RowKit
set_option linter.unusedVariables false
set_option linter.unusedSimpArgs false

theorem sg1_neg {n : Int} (h : n < 0) : sg1 n = -1 := by unfold sg1; rw [if_neg (by omega), if_pos h]
theorem sg1_pos {n : Int} (h : 0 < n) : sg1 n = 1 := by unfold sg1; rw [if_pos h]
theorem sg1_nil {n : Int} (h : n = 0) : sg1 n = 0 := by subst h; rfl

theorem nan_int (a : Int) (w : World) : Calls Try.prog 115 #[.int .i64 a] w fun e w' => e = .returned (.bool false) ∧ w = w' := by
  go_enter Try.func115, Try.ntmps115
  go_wp2
  go_ret
  exact ⟨by simp, rfl⟩
theorem cmp_int (a b : Int) (w : World) : Calls Try.prog 101 #[.int .i64 a, .int .i64 b] w fun e w' => e = .returned (.int .i64 (sg1 (a - b))) ∧ w = w' := by
  have N1 := fun w => nan_int a w
  have N2 := fun w => nan_int b w
  by_cases h1 : a < b
  · go_enter Try.func101, Try.ntmps101
    go_wp2_with (first | (refine (N1 _).mono ?_; rintro e w' ⟨rfl, rfl⟩) | (refine (N2 _).mono ?_; rintro e w' ⟨rfl, rfl⟩))
    go_ret
    exact ⟨ret_int (sg1_neg (by omega)).symm, rfl⟩
  · by_cases h2 : b < a
    · go_enter Try.func101, Try.ntmps101
      go_wp2_with (first | (refine (N1 _).mono ?_; rintro e w' ⟨rfl, rfl⟩) | (refine (N2 _).mono ?_; rintro e w' ⟨rfl, rfl⟩))
      go_ret
      exact ⟨ret_int (sg1_pos (by omega)).symm, rfl⟩
    · obtain rfl : a = b := by omega
      clear h1 h2
      go_enter Try.func101, Try.ntmps101
      go_wp2_with (first | (refine (N1 _).mono ?_; rintro e w' ⟨rfl, rfl⟩))
      go_ret
      exact ⟨ret_int (sg1_nil (by omega)).symm, rfl⟩

theorem nan_int64 (a : Int) (w : World) : Calls Try.prog 117 #[.int .i64 a] w fun e w' => e = .returned (.bool false) ∧ w = w' := by
  go_enter Try.func117, Try.ntmps117
  go_wp2
  go_ret
  exact ⟨by simp, rfl⟩
theorem cmp_int64 (a b : Int) (w : World) : Calls Try.prog 106 #[.int .i64 a, .int .i64 b] w fun e w' => e = .returned (.int .i64 (sg1 (a - b))) ∧ w = w' := by
  have N1 := fun w => nan_int64 a w
  have N2 := fun w => nan_int64 b w
  by_cases h1 : a < b
  · go_enter Try.func106, Try.ntmps106
    go_wp2_with (first | (refine (N1 _).mono ?_; rintro e w' ⟨rfl, rfl⟩) | (refine (N2 _).mono ?_; rintro e w' ⟨rfl, rfl⟩))
    go_ret
    exact ⟨ret_int (sg1_neg (by omega)).symm, rfl⟩
  · by_cases h2 : b < a
    · go_enter Try.func106, Try.ntmps106
      go_wp2_with (first | (refine (N1 _).mono ?_; rintro e w' ⟨rfl, rfl⟩) | (refine (N2 _).mono ?_; rintro e w' ⟨rfl, rfl⟩))
      go_ret
      exact ⟨ret_int (sg1_pos (by omega)).symm, rfl⟩
    · obtain rfl : a = b := by omega
      clear h1 h2
      go_enter Try.func106, Try.ntmps106
      go_wp2_with (first | (refine (N1 _).mono ?_; rintro e w' ⟨rfl, rfl⟩))
      go_ret
      exact ⟨ret_int (sg1_nil (by omega)).symm, rfl⟩

theorem nan_uint64 (a : Int) (w : World) : Calls Try.prog 116 #[.int .u64 a] w fun e w' => e = .returned (.bool false) ∧ w = w' := by
  go_enter Try.func116, Try.ntmps116
  go_wp2
  go_ret
  exact ⟨by simp, rfl⟩
theorem cmp_uint64 (a b : Int) (w : World) : Calls Try.prog 105 #[.int .u64 a, .int .u64 b] w fun e w' => e = .returned (.int .i64 (sg1 (a - b))) ∧ w = w' := by
  have N1 := fun w => nan_uint64 a w
  have N2 := fun w => nan_uint64 b w
  by_cases h1 : a < b
  · go_enter Try.func105, Try.ntmps105
    go_wp2_with (first | (refine (N1 _).mono ?_; rintro e w' ⟨rfl, rfl⟩) | (refine (N2 _).mono ?_; rintro e w' ⟨rfl, rfl⟩))
    go_ret
    exact ⟨ret_int (sg1_neg (by omega)).symm, rfl⟩
  · by_cases h2 : b < a
    · go_enter Try.func105, Try.ntmps105
      go_wp2_with (first | (refine (N1 _).mono ?_; rintro e w' ⟨rfl, rfl⟩) | (refine (N2 _).mono ?_; rintro e w' ⟨rfl, rfl⟩))
      go_ret
      exact ⟨ret_int (sg1_pos (by omega)).symm, rfl⟩
    · obtain rfl : a = b := by omega
      clear h1 h2
      go_enter Try.func105, Try.ntmps105
      go_wp2_with (first | (refine (N1 _).mono ?_; rintro e w' ⟨rfl, rfl⟩))
      go_ret
      exact ⟨ret_int (sg1_nil (by omega)).symm, rfl⟩

/-- From -SurdMax to SurdMax. -/
def rng (n : Int) : Bool := decide (-10000000 ≤ n ∧ n ≤ 10000000)
theorem rng_in {n : Int} (h : rng n = true) : -10000000 ≤ n ∧ n ≤ 10000000 := of_decide_eq_true h
theorem inRange_any (n : Int) (w : World) : Calls Try.prog 100 #[.int .i64 n] w fun e w' => e = .returned (.bool (rng n)) ∧ w = w' := by
  unfold rng
  by_cases h1 : -10000000 ≤ n
  · go_enter Try.func100, Try.ntmps100
    go_wp2
    go_ret
    exact ⟨ret_bool (by simp [h1]), rfl⟩
  · go_enter Try.func100, Try.ntmps100
    go_wp2
    go_ret
    exact ⟨ret_bool (by simp; omega), rfl⟩
theorem sizeOf_any (n : Int) (h : -9000000000000000000 ≤ n ∧ n ≤ 9000000000000000000) (w : World) : Calls Try.prog 103 #[.int .i64 n] w fun e w' => e = .returned (.int .u64 n.natAbs) ∧ w = w' := by
  by_cases h1 : n < 0
  · go_enter Try.func103, Try.ntmps103
    go_wp2
    go_ret
    exact ⟨ret_int (by omega), rfl⟩
  · go_enter Try.func103, Try.ntmps103
    go_wp2
    go_ret
    exact ⟨ret_int (by omega), rfl⟩

/-- The product of 128 bits, in two parts. -/
theorem mul64_any (x y : Nat) (hx : x < 18446744073709551616) (hy : y < 18446744073709551616) :
    ∃ h l : Int, (x : Int) * y = h * 18446744073709551616 + l ∧ 0 ≤ l ∧ l < 18446744073709551616 ∧ ∀ w, Calls Try.prog 102 #[.int .u64 x, .int .u64 y] w fun e w' => e = .returned (.tuple #[.int .u64 h, .int .u64 l]) ∧ w = w' := by
  refine ⟨((x * y / 18446744073709551616 : Nat) : Int), ((x * y % 18446744073709551616 : Nat) : Int), ?_, by omega, by omega, fun w => ?_⟩
  · rw [← Int.natCast_mul]; omega
  obtain ⟨bd, bt, bw, hhi⟩ := Lib.mul64_hi x y hx hy
  have ba := Lib.half_mul_le (a := x / 4294967296) (b := y / 4294967296) (by omega) (by omega)
  have bb := Lib.half_mul_le (a := x / 4294967296) (b := y % 4294967296) (by omega) (by omega)
  have bc := Lib.half_mul_le (a := x % 4294967296) (b := y / 4294967296) (by omega) (by omega)
  have ba' : x / 4294967296 * (y / 4294967296) < 18446744073709551616 := by omega
  have bb' : x / 4294967296 * (y % 4294967296) < 18446744073709551616 := by omega
  have bc' : x % 4294967296 * (y / 4294967296) < 18446744073709551616 := by omega
  have bh1 : x / 4294967296 * (y / 4294967296) + (x / 4294967296 * (y % 4294967296) + x % 4294967296 * (y % 4294967296) / 4294967296) / 4294967296 < 18446744073709551616 := by omega
  have bh : x / 4294967296 * (y / 4294967296) + (x / 4294967296 * (y % 4294967296) + x % 4294967296 * (y % 4294967296) / 4294967296) / 4294967296 + ((x / 4294967296 * (y % 4294967296) + x % 4294967296 * (y % 4294967296) / 4294967296) % 4294967296 + x % 4294967296 * (y / 4294967296)) / 4294967296 < 18446744073709551616 := by omega
  go_enter Try.func102, Try.ntmps102
  go_wp2
  simp only [Mul64.maskN x hx, Mul64.maskN y hy, Mul64.divN, Mul64.mulN, Mul64.addN, Mul64.wrapN _ bd, Mul64.wrapN _ bb', Mul64.wrapN _ bt, Mul64.maskN _ bt, Mul64.wrapN _ bc', Mul64.wrapN _ bw, Mul64.wrapN _ ba', Mul64.wrapN _ bh1, Mul64.wrapN _ bh, Mul64.wrapM]
  rw [hhi]
  go_ret2
  exact ⟨rfl, rfl⟩

theorem signOfSum_any (s t u : Int) (hs : -1 ≤ s ∧ s ≤ 1) (ht : -1 ≤ t ∧ t ≤ 1) (hu : -1 ≤ u ∧ u ≤ 1) (w : World) :
    Calls Try.prog 85 #[.int .i64 s, .int .i64 t, .int .i64 u] w fun e w' => e = .returned (.int .i64 (joined s t u)) ∧ w = w' := by
  have CI := fun w => cmp_int (s + t) 0 w
  rw [Int.sub_zero] at CI
  by_cases h : s = -t
  · have b : -1 ≤ s * u ∧ s * u ≤ 1 := by
      obtain ⟨h1, h2⟩ := hs
      rcases (show s = -1 ∨ s = 0 ∨ s = 1 by omega) with e | e | e <;> rw [e] <;> omega
    have hj : joined s t u = s * u := if_pos h
    rw [hj]
    clear hj
    generalize hp : s * u = p at *
    have E := Lib.hid hp
    have h' : (s == -t) = true := by simpa using h
    clear hp h CI
    go_enter Try.func85, Try.ntmps85
    go_wp2
    go_ret
    exact ⟨ret_int (by rw [E.out]; unfold wrap64; omega), rfl⟩
  · have h' : (s == -t) = false := by simpa using h
    have hj : joined s t u = sg1 (s + t) := if_neg h
    rw [hj]
    clear hj h
    go_enter Try.func85, Try.ntmps85
    go_wp2_with (refine (CI _).mono ?_; rintro e w' ⟨rfl, rfl⟩)
    go_ret
    exact ⟨rfl, rfl⟩

/-- The first of two that is not 0. -/
theorem or_any (p q : Int) (g : Nat) (w : World) (h0 : w.cell? ⟨g, 0, none⟩ = some (.int .i64 p)) (h1 : w.cell? ⟨g, 1, none⟩ = some (.int .i64 q)) :
    Calls Try.prog 104 #[.slice (some ⟨g, 0, none⟩) 2 2] w fun e w' => e = .returned (.int .i64 (if p = 0 then q else p)) ∧ w = w' := by
  obtain ⟨r, hr⟩ : ∃ r, r = if p = 0 then q else p := ⟨_, rfl⟩
  rw [← hr]
  have hR := Lib.hid hr; clear hr
  go_enter Try.func104, Try.ntmps104
  go_wp2_with fail
  go_loopw [8] (fun i wr => ∃ k : Nat, k ≤ 2 ∧ i = .int .i64 k ∧ wr = w ∧ (k = 1 → p = 0) ∧ (k = 2 → p = 0 ∧ q = 0)) (fun i _ => 2 - (intOf i).toNat)
  case atStart => exact ⟨0, by omega, rfl, rfl, by omega, by omega⟩
  case round =>
    obtain ⟨k, hk, rfl, rfl, hp, hq⟩ := hrel
    rcases (show k = 0 ∨ k = 1 ∨ k = 2 by omega) with rfl | rfl | rfl
    · clear hp hq
      by_cases h : p = 0
      · subst h
        go_wp2_with fail
        go_roundw
        case rel => refine ⟨1, by omega, by go_num, trivial, ?_, ?_⟩ <;> simp
        case measure => simp [intOf]
      · have h' : (p != 0) = true := by simpa using h
        go_wp2_with fail
        go_ret
        exact ⟨by first | rfl | exact ret_int (by rw [hR.out]; simp [h]), by first | rfl | trivial⟩
    · obtain rfl := hp rfl
      clear hp hq
      by_cases h : q = 0
      · subst h
        go_wp2_with fail
        go_roundw
        case rel => refine ⟨2, by omega, by go_num, trivial, ?_, ?_⟩ <;> simp
        case measure => simp [intOf]
      · have h' : (q != 0) = true := by simpa using h
        go_wp2_with fail
        go_ret
        exact ⟨by first | rfl | exact ret_int (by rw [hR.out]; simp), by first | rfl | trivial⟩
    · obtain ⟨rfl, rfl⟩ := hq rfl
      clear hp hq
      go_wp2_with fail
      go_ret
      exact ⟨by first | rfl | exact ret_int (by rw [hR.out]; simp), by first | rfl | trivial⟩
end Go.Proofs.Ytcdlenphgenejaa
