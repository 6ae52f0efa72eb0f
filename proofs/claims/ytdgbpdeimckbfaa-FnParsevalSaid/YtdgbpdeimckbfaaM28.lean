/-
  Contracts of spec's functions of surds, second part.
  Contracts of spec's functions of surds, third part: comparisons, whole numbers, real and imaginary parts.
  Contracts of spec's real and imaginary parts.
-/
import Derived.Test.YtdgbpdeimckbfaaM27
/- Contracts of spec's functions of surds, second part. -/
namespace Go.Proofs.Ytdgbpdeimckbfaa
set_option maxRecDepth 20000
open Go.ChangeShapes Go.WideShapes Go.ChangeAt Go.RowKit
set_option linter.unusedVariables false
set_option linter.unusedSimpArgs false

theorem specSurdValid_any (a b c d : Int) (w : World) : Calls Try.prog 143 #[sv a b c d] w fun e w' => e = .returned (.bool (okr a b c d)) ∧ Below w.heap.size w w' :=
  (specValid_at a b c d w).mono fun _ _ ⟨he, hw⟩ => ⟨he, hw ▸ below_one _ _⟩
set_option maxHeartbeats 2000000 in
theorem specSurdAdd_sv (a b c d a' b' c' d' : Int) (w : World) : Calls Try.prog 107 #[sv a b c d, sv a' b' c' d'] w fun e w' => e = .returned (if okr a b c d && okr a' b' c' d' then tell (a + a') (b + b') (c + c') (d + d') else .tuple #[sv 0 0 0 0, .bool false]) ∧ Below w.heap.size w w' := by
  cases hv : okr a b c d
  · rw [if_neg (by simp)]
    unfold sv
    go_enter Try.func107, Try.ntmps107
    go_wp2_with (first | (refine (specValid_at _ _ _ _ _).mono ?_; rintro e w' ⟨rfl, rfl⟩))
    simp [bodyPost, results, Try.results107, go_sem]
    exact (by repeat (first | exact Below.refl _ _ | apply below_step))
  · cases hu : okr a' b' c' d'
    · rw [if_neg (by simp)]
      unfold sv
      go_enter Try.func107, Try.ntmps107
      go_wp2_with (first | (refine (specValid_at _ _ _ _ _).mono ?_; rintro e w' ⟨rfl, rfl⟩))
      simp [bodyPost, results, Try.results107, go_sem]
      exact (by repeat (first | exact Below.refl _ _ | apply below_step))
    · rw [if_pos (show (true && true) = true from rfl)]
      obtain ⟨ha, hb, hc, hd⟩ := okr_in hv
      obtain ⟨ha', hb', hc', hd'⟩ := okr_in hu
      have S := fun w => specSum_one a b c d a' b' c' d' ha hb hc hd ha' hb' hc' hd' w
      generalize a + a' = x at *
      generalize b + b' = y at *
      generalize c + c' = z at *
      generalize d + d' = u at *
      clear ha hb hc hd ha' hb' hc' hd'
      cases ht : okr x y z u
      · have D : ∀ w, Calls Try.prog 141 #[.agg #[.int .i64 x, .int .i64 y, .int .i64 z, .int .i64 u]] w fun e w' => e = .returned (.tuple #[.agg #[.int .i64 0, .int .i64 0, .int .i64 0, .int .i64 0], .bool false]) ∧ ∃ o p q : Obj, w' = ((w.alloc o).alloc p).alloc q := fun w => by
          have := specDone_at x y z u w
          rw [tell_f ht] at this
          exact this
        rw [tell_f ht]
        unfold sv at *
        go_enter Try.func107, Try.ntmps107
        go_wp2_with (first | (refine (specValid_at _ _ _ _ _).mono ?_; rintro e w' ⟨rfl, rfl⟩) | (go_at_call 144; refine (S _).mono ?_; rintro e w' ⟨rfl, o1, o2, o3, rfl⟩) | (go_at_call 141; refine (D _).mono ?_; rintro e w' ⟨rfl, o1, o2, o3, rfl⟩))
        simp [bodyPost, results, Try.results107, go_sem]
        exact (by repeat (first | exact Below.refl _ _ | apply below_step))
      · have D : ∀ w, Calls Try.prog 141 #[.agg #[.int .i64 x, .int .i64 y, .int .i64 z, .int .i64 u]] w fun e w' => e = .returned (.tuple #[.agg #[.int .i64 x, .int .i64 y, .int .i64 z, .int .i64 u], .bool true]) ∧ ∃ o p q : Obj, w' = ((w.alloc o).alloc p).alloc q := fun w => by
          have := specDone_at x y z u w
          rw [tell_t ht] at this
          exact this
        rw [tell_t ht]
        unfold sv at *
        go_enter Try.func107, Try.ntmps107
        go_wp2_with (first | (refine (specValid_at _ _ _ _ _).mono ?_; rintro e w' ⟨rfl, rfl⟩) | (go_at_call 144; refine (S _).mono ?_; rintro e w' ⟨rfl, o1, o2, o3, rfl⟩) | (go_at_call 141; refine (D _).mono ?_; rintro e w' ⟨rfl, o1, o2, o3, rfl⟩))
        simp [bodyPost, results, Try.results107, go_sem]
        exact (by repeat (first | exact Below.refl _ _ | apply below_step))
end Go.Proofs.Ytdgbpdeimckbfaa
/- Contracts of spec's functions of surds, third part: comparisons, whole numbers, real and imaginary parts. -/
namespace Go.Proofs.Ytdgbpdeimckbfaa
set_option maxRecDepth 20000
open Go.ChangeShapes Go.WideShapes Go.ChangeAt Go.RowKit
set_option linter.unusedVariables false
set_option linter.unusedSimpArgs false

theorem below_three' {w W w2 : World} (h : Below w.heap.size w W) (o p q : Obj) : Below w.heap.size w (((W.alloc o).alloc p).alloc q) := below_step (below_step (below_step h o) p) q
end Go.Proofs.Ytdgbpdeimckbfaa
/- Contracts of spec's real and imaginary parts. -/
namespace Go.Proofs.Ytdgbpdeimckbfaa
set_option maxRecDepth 20000
open Go.ChangeShapes Go.WideShapes Go.ChangeAt Go.RowKit
set_option linter.unusedVariables false
set_option linter.unusedSimpArgs false

theorem specDone_some (c : Nat → Int) : ∃ c' v', (∀ w, Calls Try.prog 141 #[.agg (vec 4 c)] w fun e w' => e = .returned (.tuple #[.agg (vec 4 c'), .bool v']) ∧ Below w.heap.size w w') ∧ tls true c = .tuple #[.agg (vec 4 c'), .bool v'] := by
  have h := fun w => specDone_at (c 0) (c 1) (c 2) (c 3) w
  cases hv : okf c
  · refine ⟨nul, false, fun w => ?_, ans_bad4 hv⟩
    rw [tell_tls, ans_bad4 hv] at h
    exact (h w).mono fun _ _ ⟨he, o, p, q, hw⟩ => ⟨he, hw ▸ below_three _ _ _ _⟩
  · refine ⟨c, true, fun w => ?_, ans_yes4 hv⟩
    rw [tell_tls, ans_yes4 hv] at h
    exact (h w).mono fun _ _ ⟨he, o, p, q, hw⟩ => ⟨he, hw ▸ below_three _ _ _ _⟩
set_option maxHeartbeats 1000000 in
theorem specRe_part (a : Nat → Int) (ha : InR a) (w : World) : Calls Try.prog 142 #[.agg (vec 8 a)] w fun e w' => e = .returned (.agg (vec 4 (rea a))) ∧ Below w.heap.size w w' := by
  have h0 := ha 0 (by omega); have h1 := ha 1 (by omega); have h2 := ha 2 (by omega); have h3 := ha 3 (by omega); have h4 := ha 4 (by omega); have h5 := ha 5 (by omega); have h6 := ha 6 (by omega); have h7 := ha 7 (by omega)
  clear ha
  change Calls Try.prog 142 #[.agg #[.int .i64 (a 0), .int .i64 (a 1), .int .i64 (a 2), .int .i64 (a 3), .int .i64 (a 4), .int .i64 (a 5), .int .i64 (a 6), .int .i64 (a 7)]] w fun e w' => e = .returned (.agg #[.int .i64 (4 * a 0 + 2 * a 4), .int .i64 (a 1 + 2 * a 3 - a 5 + a 7), .int .i64 (2 * a 2), .int .i64 (a 1 + a 5 - a 7)]) ∧ Below w.heap.size w w'
  go_enter Try.func142, Try.ntmps142
  go_wp2
  simp [bodyPost, results, Try.results142, go_sem]
  exact below_three _ _ _ _
end Go.Proofs.Ytdgbpdeimckbfaa
