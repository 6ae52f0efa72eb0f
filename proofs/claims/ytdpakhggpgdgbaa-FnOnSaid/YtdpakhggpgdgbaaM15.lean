/-
  Contracts of spec's functions of surds, third part: comparisons, whole numbers, real and imaginary parts.
  Contracts of spec's real and imaginary parts.
-/
import Derived.Test.YtdpakhggpgdgbaaM14
/- Contracts of spec's functions of surds, third part: comparisons, whole numbers, real and imaginary parts. -/
namespace Go.Proofs.Ytdpakhggpgdgbaa
set_option maxRecDepth 20000
open Go.ChangeShapes Go.WideShapes Go.ChangeAt Go.RowKit
set_option linter.unusedVariables false
set_option linter.unusedSimpArgs false

theorem below_three' {w W w2 : World} (h : Below w.heap.size w W) (o p q : Obj) : Below w.heap.size w (((W.alloc o).alloc p).alloc q) := below_step (below_step (below_step h o) p) q
end Go.Proofs.Ytdpakhggpgdgbaa
/- Contracts of spec's real and imaginary parts. -/
namespace Go.Proofs.Ytdpakhggpgdgbaa
set_option maxRecDepth 20000
open Go.ChangeShapes Go.WideShapes Go.ChangeAt Go.RowKit
set_option linter.unusedVariables false
set_option linter.unusedSimpArgs false

theorem specDone_some (c : Nat → Int) : ∃ c' v', (∀ w, Calls Try.prog 69 #[.agg (vec 4 c)] w fun e w' => e = .returned (.tuple #[.agg (vec 4 c'), .bool v']) ∧ Below w.heap.size w w') ∧ tls true c = .tuple #[.agg (vec 4 c'), .bool v'] := by
  have h := fun w => specDone_at (c 0) (c 1) (c 2) (c 3) w
  cases hv : okf c
  · refine ⟨nul, false, fun w => ?_, ans_bad4 hv⟩
    rw [tell_tls, ans_bad4 hv] at h
    exact (h w).mono fun _ _ ⟨he, o, p, q, hw⟩ => ⟨he, hw ▸ below_three _ _ _ _⟩
  · refine ⟨c, true, fun w => ?_, ans_yes4 hv⟩
    rw [tell_tls, ans_yes4 hv] at h
    exact (h w).mono fun _ _ ⟨he, o, p, q, hw⟩ => ⟨he, hw ▸ below_three _ _ _ _⟩
set_option maxHeartbeats 1000000 in
theorem specRe_part (a : Nat → Int) (ha : InR a) (w : World) : Calls Try.prog 77 #[.agg (vec 8 a)] w fun e w' => e = .returned (.agg (vec 4 (rea a))) ∧ Below w.heap.size w w' := by
  have h0 := ha 0 (by omega); have h1 := ha 1 (by omega); have h2 := ha 2 (by omega); have h3 := ha 3 (by omega); have h4 := ha 4 (by omega); have h5 := ha 5 (by omega); have h6 := ha 6 (by omega); have h7 := ha 7 (by omega)
  clear ha
  change Calls Try.prog 77 #[.agg #[.int .i64 (a 0), .int .i64 (a 1), .int .i64 (a 2), .int .i64 (a 3), .int .i64 (a 4), .int .i64 (a 5), .int .i64 (a 6), .int .i64 (a 7)]] w fun e w' => e = .returned (.agg #[.int .i64 (4 * a 0 + 2 * a 4), .int .i64 (a 1 + 2 * a 3 - a 5 + a 7), .int .i64 (2 * a 2), .int .i64 (a 1 + a 5 - a 7)]) ∧ Below w.heap.size w w'
  go_enter Try.func77, Try.ntmps77
  go_wp2
  simp [bodyPost, results, Try.results77, go_sem]
  exact below_three _ _ _ _
set_option maxHeartbeats 1000000 in
theorem specIm_part (a : Nat → Int) (ha : InR a) (w : World) : Calls Try.prog 89 #[.agg (vec 8 a)] w fun e w' => e = .returned (.agg (vec 4 (ima a))) ∧ Below w.heap.size w w' := by
  have h0 := ha 0 (by omega); have h1 := ha 1 (by omega); have h2 := ha 2 (by omega); have h3 := ha 3 (by omega); have h4 := ha 4 (by omega); have h5 := ha 5 (by omega); have h6 := ha 6 (by omega); have h7 := ha 7 (by omega)
  clear ha
  change Calls Try.prog 89 #[.agg #[.int .i64 (a 0), .int .i64 (a 1), .int .i64 (a 2), .int .i64 (a 3), .int .i64 (a 4), .int .i64 (a 5), .int .i64 (a 6), .int .i64 (a 7)]] w fun e w' => e = .returned (.agg #[.int .i64 (2 * a 2 + 4 * a 6), .int .i64 (0 - a 1 + 2 * a 3 + a 5 + a 7), .int .i64 (2 * a 4), .int .i64 (a 1 + a 5 + a 7)]) ∧ Below w.heap.size w w'
  go_enter Try.func89, Try.ntmps89
  go_wp2
  simp [bodyPost, results, Try.results89, go_sem]
  exact below_three _ _ _ _
end Go.Proofs.Ytdpakhggpgdgbaa
