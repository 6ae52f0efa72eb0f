/-
  What the walks of chapter 7's laws share.
-/
import Derived.Test.YtdbokcbbpegilaaM30
import Derived.Test.YtdbokcbbpegilaaM21
/- What the walks of chapter 7's laws share. -/
namespace Go.Proofs.Ytdbokcbbpegilaa
set_option maxRecDepth 20000
open Go.ChangeShapes Go.WideShapes Go.ChangeAt Go.RowKit
set_option linter.unusedVariables false
set_option linter.unusedSimpArgs false

/-! Remainders of small numbers. -/
theorem rem_no {a k : Nat} (ha : a ≤ 100000) (h : ¬ a % k = 0) : ∃ r : Int, (a : Int).tmod (k : Int) = r ∧ IntKind.i64.wrap r = r ∧ (r != 0) = true ∧ (r == 0) = false ∧ ¬ r = 0 := by
  refine ⟨_, rfl, ?_, ?_, ?_, ?_⟩
  all_goals rw [Int.tmod_eq_emod_of_nonneg (by omega), ← Int.natCast_emod]
  · have := Nat.mod_le a k
    rw [IntKind.wrap_i64]; omega
  · simp; omega
  · simp; omega
  · omega
theorem rem_yes {a k : Nat} (h : a % k = 0) : (a : Int).tmod (k : Int) = 0 := by
  rw [Int.tmod_eq_emod_of_nonneg (by omega), ← Int.natCast_emod, h]; rfl
theorem parts_of {k : Nat} (h1 : 1 ≤ k) (h24 : k ≤ 24) : ∃ st : Nat, 24 / k = st ∧ 1 ≤ st ∧ st ≤ 24 ∧ (24 : Int).tdiv (k : Int) = (st : Int) ∧ IntKind.i64.wrap (st : Int) = (st : Int) := by
  have a : 1 ≤ 24 / k := (Nat.le_div_iff_mul_le (by omega)).2 (by omega)
  have b : 24 / k ≤ 24 := Nat.div_le_self _ _
  refine ⟨24 / k, rfl, a, b, ?_, ?_⟩
  · rw [Int.tdiv_eq_ediv_of_nonneg (by decide)]; simp
  · rw [IntKind.wrap_i64]; omega
theorem home_of {st : Nat} (h1 : 1 ≤ st) (h24 : st ≤ 24) : ∃ u : Nat, u ≤ 23 ∧ (u : Int) % 24 = (st : Int) % 24 ∧ (st : Int).tmod 24 = (u : Int) ∧ IntKind.i64.wrap (u : Int) = (u : Int) := by
  refine ⟨st % 24, by omega, by omega, ?_, ?_⟩
  · rw [Int.tmod_eq_emod_of_nonneg (by omega)]; omega
  · rw [IntKind.wrap_i64]; omega
/-- A number brought home: ((m % 24) + 24) % 24. -/
theorem home_any (m : Int) : ∃ (m2 : Int) (t : Nat), m.tmod 24 = m2 ∧ (-24 < m2 ∧ m2 < 24) ∧ (m2 + 24).tmod 24 = (t : Int) ∧ t ≤ 23 ∧ (t : Int) % 24 = m % 24 := by
  have ht := tmod24 m
  have u1 : -24 < m.tmod 24 ∧ m.tmod 24 < 24 := by rw [ht]; split <;> omega
  have u2 : (m.tmod 24) % 24 = m % 24 := by rw [ht]; split <;> omega
  refine ⟨m.tmod 24, ((m.tmod 24 + 24) % 24).toNat, rfl, u1, ?_, by omega, by omega⟩
  rw [Int.tmod_eq_emod_of_nonneg (by omega)]; omega
theorem sameI_any {w : World} {B C T U : Nat} {v u : Value} {xs : List Int} (h : OwnL encI 1 w B T v xs) (h2 : OwnL encI 1 w C U u xs) (hl : xs.length ≤ 1000000) :
    Calls Try.prog 31 #[v, u] w fun e w' => e = .returned (.bool true) ∧ Below w.heap.size w w' := by
  refine (sameInts_yes v u xs w (intsAt_of_own (own_ints h)) (intsAt_of_own (own_ints h2)) hl).mono ?_
  rintro e w' ⟨rfl, m, rfl⟩
  exact ⟨rfl, below_drewN (Below.refl _ _) m⟩
theorem fold_small {R : List Wh} (h : Tidy R) : foldW R ≤ 2000 := by
  cases R with
  | nil => show 0 ≤ 2000; omega
  | cons c R =>
    have := fold_most h (c := c) (by simp) (c :: R).length
    rw [List.take_length] at this
    exact this
theorem per_small {R : List Wh} (h : Tidy R) : perW R ≤ 1000 := by
  have := per_most h R.length
  rw [List.take_length] at this
  exact this
theorem foldO_some {ws R : List Wh} (h : tid ws = some R) : foldO ws = ((foldW R : Nat) : Int) := by unfold foldO; rw [h]
theorem foldO_none {ws : List Wh} (h : tid ws = none) : foldO ws = -1 := by unfold foldO; rw [h]
theorem perO_some {ws R : List Wh} (h : tid ws = some R) : perO ws = ((perW R : Nat) : Int) := by unfold perO; rw [h]
theorem perO_none {ws : List Wh} (h : tid ws = none) : perO ws = -1 := by unfold perO; rw [h]
theorem spO_some {ws R : List Wh} (h : tid ws = some R) : spO ws = some (spL R) := by unfold spO; rw [h]; rfl
theorem spO_none {ws : List Wh} (h : tid ws = none) : spO ws = none := by unfold spO; rw [h]; rfl

end Go.Proofs.Ytdbokcbbpegilaa
