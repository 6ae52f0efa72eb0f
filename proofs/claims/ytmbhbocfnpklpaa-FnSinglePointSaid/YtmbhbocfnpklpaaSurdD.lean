/-
  Contracts of impl's radicals, second part: from surds and back, products, comparisons.
-/
import Derived.Test.YtmbhbocfnpklpaaSurdC
namespace Go.Proofs.Ytmbhbocfnpklpaa
set_option maxRecDepth 20000
open Go.ChangeShapes Go.WideShapes Go.ChangeAt Go.RowKit
set_option linter.unusedVariables false
set_option linter.unusedSimpArgs false

theorem okr_in {a b c d : Int} (h : okr a b c d = true) : (-10000000 ≤ a ∧ a ≤ 10000000) ∧ (-10000000 ≤ b ∧ b ≤ 10000000) ∧ (-10000000 ≤ c ∧ c ≤ 10000000) ∧ (-10000000 ≤ d ∧ d ≤ 10000000) := by
  simp only [okr, Bool.and_eq_true] at h
  exact ⟨rng_in h.1.1.1, rng_in h.1.1.2, rng_in h.1.2, rng_in h.2⟩
/-- What is told: a valid surd and true, or the zero value and false. -/
def tell (a b c d : Int) : Value := if okr a b c d then .tuple #[sv a b c d, .bool true] else .tuple #[sv 0 0 0 0, .bool false]
theorem tell_t {a b c d : Int} (h : okr a b c d = true) : tell a b c d = .tuple #[sv a b c d, .bool true] := by simp [tell, h]
theorem tell_f {a b c d : Int} (h : okr a b c d = false) : tell a b c d = .tuple #[sv 0 0 0 0, .bool false] := by simp [tell, h]
theorem below_four (w : World) (o p q r : Obj) : Below w.heap.size w ((((w.alloc o).alloc p).alloc q).alloc r) := (below_three w o p q).alloc (by simp; omega) _
theorem below_five (w : World) (o p q r s : Obj) : Below w.heap.size w (((((w.alloc o).alloc p).alloc q).alloc r).alloc s) := (below_four w o p q r).alloc (by simp; omega) _
theorem rtold_any (a b c d : Int) (w : World) : Calls Try.prog 59 #[sv a b c d] w fun e w' => e = .returned (tell a b c d) ∧ Below w.heap.size w w' := by
  cases hv : okr a b c d
  · rw [tell_f hv]
    unfold sv
    go_enter Try.func59, Try.ntmps59
    go_wp2_with (refine (rvalid_any _ _ _ _ _).mono ?_; rintro e w' ⟨rfl, rfl⟩)
    simp [bodyPost, results, Try.results59, go_sem]
    exact below_three _ _ _ _
  · rw [tell_t hv]
    unfold sv
    go_enter Try.func59, Try.ntmps59
    go_wp2_with (refine (rvalid_any _ _ _ _ _).mono ?_; rintro e w' ⟨rfl, rfl⟩)
    simp [bodyPost, results, Try.results59, go_sem]
    exact below_three _ _ _ _
end Go.Proofs.Ytmbhbocfnpklpaa
