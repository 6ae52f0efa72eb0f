/-
  Contracts of impl's radicals, second part: from surds and back, products, comparisons.
-/
import Derived.Test.YtcdlenphgenejaaSurdC
namespace Go.Proofs.Ytcdlenphgenejaa
set_option maxRecDepth 20000
open Go.ChangeShapes Go.WideShapes Go.ChangeAt Go.RowKit
set_option linter.unusedVariables false
set_option linter.unusedSimpArgs false

theorem okr_in {a b c d : Int} (h : okr a b c d = true) : (-10000000 ≤ a ∧ a ≤ 10000000) ∧ (-10000000 ≤ b ∧ b ≤ 10000000) ∧ (-10000000 ≤ c ∧ c ≤ 10000000) ∧ (-10000000 ≤ d ∧ d ≤ 10000000) := by
  simp only [okr, Bool.and_eq_true] at h
  exact ⟨rng_in h.1.1.1, rng_in h.1.1.2, rng_in h.1.2, rng_in h.2⟩
/-- What is told: a valid surd and true, or the zero value and false. -/
def tell (a b c d : Int) : Value := if okr a b c d then .tuple #[sv a b c d, .bool true] else .tuple #[sv 0 0 0 0, .bool false]
theorem tell_t {a b c d : Int} (h : okr a b c d = true) : tell a b c d = .tuple #[sv a b c d, .bool true] := by simp [tell, h]
theorem tell_f {a b c d : Int} (h : okr a b c d = false) : tell a b c d = .tuple #[sv 0 0 0 0, .bool false] := by simp [tell, h]
theorem below_four (w : World) (o p q r : Obj) : Below w.heap.size w ((((w.alloc o).alloc p).alloc q).alloc r) := (below_three w o p q).alloc (by simp; omega) _
theorem below_five (w : World) (o p q r s : Obj) : Below w.heap.size w (((((w.alloc o).alloc p).alloc q).alloc r).alloc s) := (below_four w o p q r).alloc (by simp; omega) _
theorem rtold_any (a b c d : Int) (w : World) : Calls Try.prog 56 #[sv a b c d] w fun e w' => e = .returned (tell a b c d) ∧ Below w.heap.size w w' := by
  cases hv : okr a b c d
  · rw [tell_f hv]
    unfold sv
    go_enter Try.func56, Try.ntmps56
    go_wp2_with (refine (rvalid_any _ _ _ _ _).mono ?_; rintro e w' ⟨rfl, rfl⟩)
    simp [bodyPost, results, Try.results56, go_sem]
    exact below_three _ _ _ _
  · rw [tell_t hv]
    unfold sv
    go_enter Try.func56, Try.ntmps56
    go_wp2_with (refine (rvalid_any _ _ _ _ _).mono ?_; rintro e w' ⟨rfl, rfl⟩)
    simp [bodyPost, results, Try.results56, go_sem]
    exact below_three _ _ _ _
theorem radicalOf_any (a b c d : Int) (w : World) : Calls Try.prog 51 #[sv a b c d] w fun e w' => e = .returned (tell a b c d) ∧ Below w.heap.size w w' := by
  cases hv : okr a b c d
  · rw [tell_f hv]
    unfold sv
    go_enter Try.func51, Try.ntmps51
    go_wp2_with (refine (rvalid_any _ _ _ _ _).mono ?_; rintro e w' ⟨rfl, rfl⟩)
    simp [bodyPost, results, Try.results51, go_sem]
    exact below_four _ _ _ _ _
  · rw [tell_t hv]
    unfold sv
    go_enter Try.func51, Try.ntmps51
    go_wp2_with (refine (rvalid_any _ _ _ _ _).mono ?_; rintro e w' ⟨rfl, rfl⟩)
    simp [bodyPost, results, Try.results51, go_sem]
    exact below_four _ _ _ _ _
set_option maxHeartbeats 2000000 in
theorem rtimes_any (a b c d a' b' c' d' : Int) (ha : -10000000 ≤ a ∧ a ≤ 10000000) (hb : -10000000 ≤ b ∧ b ≤ 10000000) (hc : -10000000 ≤ c ∧ c ≤ 10000000) (hd : -10000000 ≤ d ∧ d ≤ 10000000) (ha' : -10000000 ≤ a' ∧ a' ≤ 10000000) (hb' : -10000000 ≤ b' ∧ b' ≤ 10000000) (hc' : -10000000 ≤ c' ∧ c' ≤ 10000000) (hd' : -10000000 ≤ d' ∧ d' ≤ 10000000) (w : World) :
    Calls Try.prog 73 #[sv a b c d, sv a' b' c' d'] w fun e w' => e = .returned (sv (a * a' + 2 * b * b' + 3 * c * c' + 6 * d * d') (a * b' + b * a' + 3 * (c * d' + d * c')) (a * c' + c * a' + 2 * (b * d' + d * b')) (a * d' + d * a' + b * c' + c * b')) ∧ Below w.heap.size w w' := by
  have m1 := mul_in 10000000 10000000 ha ha'
  have m2 := mul_in 20000000 10000000 (x := 2 * b) (by omega) hb'
  have m3 := mul_in 30000000 10000000 (x := 3 * c) (by omega) hc'
  have m4 := mul_in 60000000 10000000 (x := 6 * d) (by omega) hd'
  have m5 := mul_in 10000000 10000000 ha hb'
  have m6 := mul_in 10000000 10000000 hb ha'
  have m7 := mul_in 10000000 10000000 hc hd'
  have m8 := mul_in 10000000 10000000 hd hc'
  have m9 := mul_in 10000000 10000000 ha hc'
  have m10 := mul_in 10000000 10000000 hc ha'
  have m11 := mul_in 10000000 10000000 hb hd'
  have m12 := mul_in 10000000 10000000 hd hb'
  have m13 := mul_in 10000000 10000000 ha hd'
  have m14 := mul_in 10000000 10000000 hd ha'
  have m15 := mul_in 10000000 10000000 hb hc'
  have m16 := mul_in 10000000 10000000 hc hb'
  simp only [Nat.reduceMul] at m1 m2 m3 m4 m5 m6 m7 m8 m9 m10 m11 m12 m13 m14 m15 m16
  unfold sv
  go_enter Try.func73, Try.ntmps73
  go_wp2
  simp [bodyPost, results, Try.results73, go_sem]
  exact below_three _ _ _ _
theorem rcompare_any (a b c d a' b' c' d' : Int) (ha : -10000000 ≤ a ∧ a ≤ 10000000) (hb : -10000000 ≤ b ∧ b ≤ 10000000) (hc : -10000000 ≤ c ∧ c ≤ 10000000) (hd : -10000000 ≤ d ∧ d ≤ 10000000) (ha' : -90000000 ≤ a' ∧ a' ≤ 90000000) (hb' : -90000000 ≤ b' ∧ b' ≤ 90000000) (hc' : -90000000 ≤ c' ∧ c' ≤ 90000000) (hd' : -90000000 ≤ d' ∧ d' ≤ 90000000) (w : World) :
    Calls Try.prog 72 #[sv a b c d, sv a' b' c' d'] w fun e w' => e = .returned (.int .i64 (sg4 (a - a') (b - b') (c - c') (d - d'))) ∧ Below w.heap.size w w' := by
  have L := fun w => rless_any a b c d a' b' c' d' (by omega) (by omega) (by omega) (by omega) (by omega) (by omega) (by omega) (by omega) w
  have S := fun w => rsign_any (a - a') (b - b') (c - c') (d - d') (by omega) (by omega) (by omega) (by omega) w
  generalize a - a' = x at *
  generalize b - b' = y at *
  generalize c - c' = z at *
  generalize d - d' = u at *
  generalize sg4 x y z u = v at *
  unfold sv at *
  go_enter Try.func72, Try.ntmps72
  go_wp2_with (refine (L _).mono ?_; rintro e w2 ⟨rfl, hb2⟩)
  refine (S _).mono ?_; rintro e w3 ⟨rfl, hb3⟩
  go_wp2_with fail
  go_ret
  exact ⟨rfl, below_next (below_next (below_two _ _ _) hb2) hb3⟩
end Go.Proofs.Ytcdlenphgenejaa
