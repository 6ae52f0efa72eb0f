/-
  Contracts of spec's functions of surds, second part.
-/
import Derived.Test.YtcdlenphgenejaaSurdT
namespace Go.Proofs.Ytcdlenphgenejaa
set_option maxRecDepth 20000
open Go.ChangeShapes Go.WideShapes Go.ChangeAt Go.RowKit
set_option linter.unusedVariables false
set_option linter.unusedSimpArgs false

theorem specSurdValid_any (a b c d : Int) (w : World) : Calls Try.prog 17 #[sv a b c d] w fun e w' => e = .returned (.bool (okr a b c d)) ∧ Below w.heap.size w w' :=
  (specValid_at a b c d w).mono fun _ _ ⟨he, hw⟩ => ⟨he, hw ▸ below_one _ _⟩
set_option maxHeartbeats 2000000 in
theorem specSurdAdd_sv (a b c d a' b' c' d' : Int) (w : World) : Calls Try.prog 30 #[sv a b c d, sv a' b' c' d'] w fun e w' => e = .returned (if okr a b c d && okr a' b' c' d' then tell (a + a') (b + b') (c + c') (d + d') else .tuple #[sv 0 0 0 0, .bool false]) ∧ Below w.heap.size w w' := by
  cases hv : okr a b c d
  · rw [if_neg (by simp)]
    unfold sv
    go_enter Try.func30, Try.ntmps30
    go_wp2_with (first | (refine (specValid_at _ _ _ _ _).mono ?_; rintro e w' ⟨rfl, rfl⟩))
    simp [bodyPost, results, Try.results30, go_sem]
    exact (by repeat (first | exact Below.refl _ _ | apply below_step))
  · cases hu : okr a' b' c' d'
    · rw [if_neg (by simp)]
      unfold sv
      go_enter Try.func30, Try.ntmps30
      go_wp2_with (first | (refine (specValid_at _ _ _ _ _).mono ?_; rintro e w' ⟨rfl, rfl⟩))
      simp [bodyPost, results, Try.results30, go_sem]
      exact (by repeat (first | exact Below.refl _ _ | apply below_step))
    · rw [if_pos (show (true && true) = true from rfl)]
      obtain ⟨ha, hb, hc, hd⟩ := okr_in hv
      obtain ⟨ha', hb', hc', hd'⟩ := okr_in hu
      have S := fun w => specSum_one a b c d a' b' c' d' ha hb hc hd ha' hb' hc' hd' w
      generalize a + a' = x at *
      generalize b + b' = y at *
      generalize c + c' = z at *
      generalize d + d' = u at *
      clear ha hb hc hd ha' hb' hc' hd'
      cases ht : okr x y z u
      · have D : ∀ w, Calls Try.prog 61 #[.agg #[.int .i64 x, .int .i64 y, .int .i64 z, .int .i64 u]] w fun e w' => e = .returned (.tuple #[.agg #[.int .i64 0, .int .i64 0, .int .i64 0, .int .i64 0], .bool false]) ∧ ∃ o p q : Obj, w' = ((w.alloc o).alloc p).alloc q := fun w => by
          have := specDone_at x y z u w
          rw [tell_f ht] at this
          exact this
        rw [tell_f ht]
        unfold sv at *
        go_enter Try.func30, Try.ntmps30
        go_wp2_with (first | (refine (specValid_at _ _ _ _ _).mono ?_; rintro e w' ⟨rfl, rfl⟩) | (go_at_call 71; refine (S _).mono ?_; rintro e w' ⟨rfl, o1, o2, o3, rfl⟩) | (go_at_call 61; refine (D _).mono ?_; rintro e w' ⟨rfl, o1, o2, o3, rfl⟩))
        simp [bodyPost, results, Try.results30, go_sem]
        exact (by repeat (first | exact Below.refl _ _ | apply below_step))
      · have D : ∀ w, Calls Try.prog 61 #[.agg #[.int .i64 x, .int .i64 y, .int .i64 z, .int .i64 u]] w fun e w' => e = .returned (.tuple #[.agg #[.int .i64 x, .int .i64 y, .int .i64 z, .int .i64 u], .bool true]) ∧ ∃ o p q : Obj, w' = ((w.alloc o).alloc p).alloc q := fun w => by
          have := specDone_at x y z u w
          rw [tell_t ht] at this
          exact this
        rw [tell_t ht]
        unfold sv at *
        go_enter Try.func30, Try.ntmps30
        go_wp2_with (first | (refine (specValid_at _ _ _ _ _).mono ?_; rintro e w' ⟨rfl, rfl⟩) | (go_at_call 71; refine (S _).mono ?_; rintro e w' ⟨rfl, o1, o2, o3, rfl⟩) | (go_at_call 61; refine (D _).mono ?_; rintro e w' ⟨rfl, o1, o2, o3, rfl⟩))
        simp [bodyPost, results, Try.results30, go_sem]
        exact (by repeat (first | exact Below.refl _ _ | apply below_step))
set_option maxHeartbeats 2000000 in
theorem specSurdTimes_sv (a b c d a' b' c' d' : Int) (w : World) : Calls Try.prog 34 #[sv a b c d, sv a' b' c' d'] w fun e w' => e = .returned (if okr a b c d && okr a' b' c' d' then tell (a * a' + 2 * b * b' + 3 * c * c' + 6 * d * d') (a * b' + b * a' + 3 * c * d' + 3 * d * c') (a * c' + c * a' + 2 * b * d' + 2 * d * b') (a * d' + d * a' + b * c' + c * b') else .tuple #[sv 0 0 0 0, .bool false]) ∧ Below w.heap.size w w' := by
  cases hv : okr a b c d
  · rw [if_neg (by simp)]
    unfold sv
    go_enter Try.func34, Try.ntmps34
    go_wp2_with (first | (refine (specValid_at _ _ _ _ _).mono ?_; rintro e w' ⟨rfl, rfl⟩))
    simp [bodyPost, results, Try.results34, go_sem]
    exact (by repeat (first | exact Below.refl _ _ | apply below_step))
  · cases hu : okr a' b' c' d'
    · rw [if_neg (by simp)]
      unfold sv
      go_enter Try.func34, Try.ntmps34
      go_wp2_with (first | (refine (specValid_at _ _ _ _ _).mono ?_; rintro e w' ⟨rfl, rfl⟩))
      simp [bodyPost, results, Try.results34, go_sem]
      exact (by repeat (first | exact Below.refl _ _ | apply below_step))
    · rw [if_pos (show (true && true) = true from rfl)]
      obtain ⟨ha, hb, hc, hd⟩ := okr_in hv
      obtain ⟨ha', hb', hc', hd'⟩ := okr_in hu
      have m1 := mul_in 10000000 10000000 ha ha'
      have m2 := mul_in 20000000 10000000 (x := 2 * b) (by omega) hb'
      have m3 := mul_in 30000000 10000000 (x := 3 * c) (by omega) hc'
      have m4 := mul_in 60000000 10000000 (x := 6 * d) (by omega) hd'
      have m5 := mul_in 10000000 10000000 ha hb'
      have m6 := mul_in 10000000 10000000 hb ha'
      have m7 := mul_in 30000000 10000000 (x := 3 * c) (by omega) hd'
      have m8 := mul_in 30000000 10000000 (x := 3 * d) (by omega) hc'
      have m9 := mul_in 10000000 10000000 ha hc'
      have m10 := mul_in 10000000 10000000 hc ha'
      have m11 := mul_in 20000000 10000000 (x := 2 * b) (by omega) hd'
      have m12 := mul_in 20000000 10000000 (x := 2 * d) (by omega) hb'
      have m13 := mul_in 10000000 10000000 ha hd'
      have m14 := mul_in 10000000 10000000 hd ha'
      have m15 := mul_in 10000000 10000000 hb hc'
      have m16 := mul_in 10000000 10000000 hc hb'
      simp only [Nat.reduceMul] at m1 m2 m3 m4 m5 m6 m7 m8 m9 m10 m11 m12 m13 m14 m15 m16
      cases ht : okr (a * a' + 2 * b * b' + 3 * c * c' + 6 * d * d') (a * b' + b * a' + 3 * c * d' + 3 * d * c') (a * c' + c * a' + 2 * b * d' + 2 * d * b') (a * d' + d * a' + b * c' + c * b')
      · have D : ∀ w, Calls Try.prog 61 #[.agg #[.int .i64 (a * a' + 2 * b * b' + 3 * c * c' + 6 * d * d'), .int .i64 (a * b' + b * a' + 3 * c * d' + 3 * d * c'), .int .i64 (a * c' + c * a' + 2 * b * d' + 2 * d * b'), .int .i64 (a * d' + d * a' + b * c' + c * b')]] w fun e w' => e = .returned (.tuple #[.agg #[.int .i64 0, .int .i64 0, .int .i64 0, .int .i64 0], .bool false]) ∧ ∃ o p q : Obj, w' = ((w.alloc o).alloc p).alloc q := fun w => by
          have := specDone_at (a * a' + 2 * b * b' + 3 * c * c' + 6 * d * d') (a * b' + b * a' + 3 * c * d' + 3 * d * c') (a * c' + c * a' + 2 * b * d' + 2 * d * b') (a * d' + d * a' + b * c' + c * b') w
          rw [tell_f ht] at this
          exact this
        rw [tell_f ht]
        unfold sv at *
        go_enter Try.func34, Try.ntmps34
        go_wp2_with (first | (refine (specValid_at _ _ _ _ _).mono ?_; rintro e w' ⟨rfl, rfl⟩) | (go_at_call 61; refine (D _).mono ?_; rintro e w' ⟨rfl, o1, o2, o3, rfl⟩))
        simp [bodyPost, results, Try.results34, go_sem]
        exact (by repeat (first | exact Below.refl _ _ | apply below_step))
      · have D : ∀ w, Calls Try.prog 61 #[.agg #[.int .i64 (a * a' + 2 * b * b' + 3 * c * c' + 6 * d * d'), .int .i64 (a * b' + b * a' + 3 * c * d' + 3 * d * c'), .int .i64 (a * c' + c * a' + 2 * b * d' + 2 * d * b'), .int .i64 (a * d' + d * a' + b * c' + c * b')]] w fun e w' => e = .returned (.tuple #[.agg #[.int .i64 (a * a' + 2 * b * b' + 3 * c * c' + 6 * d * d'), .int .i64 (a * b' + b * a' + 3 * c * d' + 3 * d * c'), .int .i64 (a * c' + c * a' + 2 * b * d' + 2 * d * b'), .int .i64 (a * d' + d * a' + b * c' + c * b')], .bool true]) ∧ ∃ o p q : Obj, w' = ((w.alloc o).alloc p).alloc q := fun w => by
          have := specDone_at (a * a' + 2 * b * b' + 3 * c * c' + 6 * d * d') (a * b' + b * a' + 3 * c * d' + 3 * d * c') (a * c' + c * a' + 2 * b * d' + 2 * d * b') (a * d' + d * a' + b * c' + c * b') w
          rw [tell_t ht] at this
          exact this
        rw [tell_t ht]
        unfold sv at *
        go_enter Try.func34, Try.ntmps34
        go_wp2_with (first | (refine (specValid_at _ _ _ _ _).mono ?_; rintro e w' ⟨rfl, rfl⟩) | (go_at_call 61; refine (D _).mono ?_; rintro e w' ⟨rfl, o1, o2, o3, rfl⟩))
        simp [bodyPost, results, Try.results34, go_sem]
        exact (by repeat (first | exact Below.refl _ _ | apply below_step))
theorem specSurdSign_any (a b c d : Int) (w : World) : Calls Try.prog 36 #[sv a b c d] w fun e w' => e = .returned (.tuple #[.int .i64 (if okr a b c d then sg4 a b c d else 0), .bool (okr a b c d)]) ∧ Below w.heap.size w w' := by
  cases hv : okr a b c d
  · rw [if_neg (by simp)]
    unfold sv
    go_enter Try.func36, Try.ntmps36
    go_wp2_with (first | (refine (specValid_at _ _ _ _ _).mono ?_; rintro e w' ⟨rfl, rfl⟩))
    go_ret2
    exact ⟨rfl, (by repeat (first | exact Below.refl _ _ | apply below_step))⟩
  · rw [if_pos rfl]
    obtain ⟨ha, hb, hc, hd⟩ := okr_in hv
    have S := fun w => l3Sign_any a b c d (by omega) (by omega) (by omega) (by omega) w
    generalize sg4 a b c d = z at *
    clear ha hb hc hd
    unfold sv at *
    go_enter Try.func36, Try.ntmps36
    go_wp2_with (first | (refine (specValid_at _ _ _ _ _).mono ?_; rintro e w' ⟨rfl, rfl⟩) | (go_at_call 74; refine (S _).mono ?_; rintro e w3 ⟨rfl, hb3⟩))
    go_ret2
    exact ⟨rfl, below_next (by repeat (first | exact Below.refl _ _ | apply below_step)) hb3⟩
end Go.Proofs.Ytcdlenphgenejaa
