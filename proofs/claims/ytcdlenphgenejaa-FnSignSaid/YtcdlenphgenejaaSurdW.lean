/-
  Contracts of spec's real and imaginary parts.
-/
import Derived.Test.YtcdlenphgenejaaSurdV
namespace Go.Proofs.Ytcdlenphgenejaa
set_option maxRecDepth 20000
open Go.ChangeShapes Go.WideShapes Go.ChangeAt Go.RowKit
set_option linter.unusedVariables false
set_option linter.unusedSimpArgs false

theorem specDone_some (c : Nat → Int) : ∃ c' v', (∀ w, Calls Try.prog 61 #[.agg (vec 4 c)] w fun e w' => e = .returned (.tuple #[.agg (vec 4 c'), .bool v']) ∧ Below w.heap.size w w') ∧ tls true c = .tuple #[.agg (vec 4 c'), .bool v'] := by
  have h := fun w => specDone_at (c 0) (c 1) (c 2) (c 3) w
  cases hv : okf c
  · refine ⟨nul, false, fun w => ?_, ans_bad4 hv⟩
    rw [tell_tls, ans_bad4 hv] at h
    exact (h w).mono fun _ _ ⟨he, o, p, q, hw⟩ => ⟨he, hw ▸ below_three _ _ _ _⟩
  · refine ⟨c, true, fun w => ?_, ans_yes4 hv⟩
    rw [tell_tls, ans_yes4 hv] at h
    exact (h w).mono fun _ _ ⟨he, o, p, q, hw⟩ => ⟨he, hw ▸ below_three _ _ _ _⟩
set_option maxHeartbeats 1000000 in
theorem specRe_part (a : Nat → Int) (ha : InR a) (w : World) : Calls Try.prog 62 #[.agg (vec 8 a)] w fun e w' => e = .returned (.agg (vec 4 (rea a))) ∧ Below w.heap.size w w' := by
  have h0 := ha 0 (by omega); have h1 := ha 1 (by omega); have h2 := ha 2 (by omega); have h3 := ha 3 (by omega); have h4 := ha 4 (by omega); have h5 := ha 5 (by omega); have h6 := ha 6 (by omega); have h7 := ha 7 (by omega)
  clear ha
  change Calls Try.prog 62 #[.agg #[.int .i64 (a 0), .int .i64 (a 1), .int .i64 (a 2), .int .i64 (a 3), .int .i64 (a 4), .int .i64 (a 5), .int .i64 (a 6), .int .i64 (a 7)]] w fun e w' => e = .returned (.agg #[.int .i64 (4 * a 0 + 2 * a 4), .int .i64 (a 1 + 2 * a 3 - a 5 + a 7), .int .i64 (2 * a 2), .int .i64 (a 1 + a 5 - a 7)]) ∧ Below w.heap.size w w'
  go_enter Try.func62, Try.ntmps62
  go_wp2
  simp [bodyPost, results, Try.results62, go_sem]
  exact below_three _ _ _ _
theorem specSurdRe_no (a : Nat → Int) (va : okc a = false) (w : World) :
    Calls Try.prog 22 #[pt a] w fun e w' => e = .returned (tls false (rea a)) ∧ Below w.heap.size w w' := by
  have sa := vec_size 8 a
  rw [ans_no4]
  have P : ∀ w, Calls Try.prog 60 #[pt a] w fun e w' => e = .returned (.bool false) ∧ Below w.heap.size w w' := fun w => by rw [← va]; exact specValid_any a w
  unfold pt at *
  clear va
  go_enter Try.func22, Try.ntmps22
  go_upto_region 1 with fail
  show Code.wp _ _ _ _ (boxP w a 34 24)
  obtain ⟨hA, hO, hL⟩ := boxP_facts w a 34 24
  generalize boxP w a 34 24 = W at *
  go_wp2_with (refine load_row rfl rfl rfl hA Try.underlying34 rfl info_cyc ?_)
  refine (P _).mono ?_; rintro e w2 ⟨rfl, hb2⟩
  have hO2 := hO.below hb2
  have hL2 := below_next hL hb2
  clear hA hO hL hb2 P
  go_wp2_with (refine store_row rfl rfl rfl (show _ = Value.agg (vec 4 nul) from rfl) hO2 info_surd ?_)
  refine bodyPost_ret (results_row_tmp rfl rfl hO2.setRow Try.underlying24 rfl info_surd) rfl ?_
  exact ⟨rfl, below_setRow hL2 (by omega) _⟩
theorem specSurdRe_yes (a : Nat → Int) (va : okc a = true) (w : World) :
    Calls Try.prog 22 #[pt a] w fun e w' => e = .returned (tls true (rea a)) ∧ Below w.heap.size w w' := by
  have sa := vec_size 8 a
  have P : ∀ w, Calls Try.prog 60 #[pt a] w fun e w' => e = .returned (.bool true) ∧ Below w.heap.size w w' := fun w => by rw [← va]; exact specValid_any a w
  have M := fun w => specRe_part a (okc_inR va) w
  obtain ⟨c', v', T, eT⟩ := specDone_some (rea a)
  rw [eT]
  unfold pt at *
  clear va eT
  generalize rea a = r at *
  go_enter Try.func22, Try.ntmps22
  go_upto_region 1 with fail
  show Code.wp _ _ _ _ (boxP w a 34 24)
  obtain ⟨hA, hO, hL⟩ := boxP_facts w a 34 24
  generalize boxP w a 34 24 = W at *
  go_wp2_with (refine load_row rfl rfl rfl hA Try.underlying34 rfl info_cyc ?_)
  refine (P _).mono ?_; rintro e w2 ⟨rfl, hb2⟩
  have hA2 := hA.below hb2
  have hO2 := hO.below hb2
  have hL2 := below_next hL hb2
  clear hA hO hL hb2 P
  go_wp2_with (refine load_row rfl rfl rfl hA2 Try.underlying34 rfl info_cyc ?_)
  refine (M _).mono ?_; rintro e w3 ⟨rfl, hb3⟩
  have hO3 := hO2.below hb3
  have hL3 := below_next hL2 hb3
  clear hA2 hO2 hL2 hb3 M
  go_wp2_with fail
  refine (T _).mono ?_; rintro e w4 ⟨rfl, hb4⟩
  have hO4 := hO3.below hb4
  have hL4 := below_next hL3 hb4
  clear hO3 hL3 hb4 T
  go_wp2_with (refine store_row rfl rfl rfl rfl hO4 info_surd ?_)
  refine bodyPost_ret (results_row_tmp rfl rfl hO4.setRow Try.underlying24 rfl info_surd) rfl ?_
  exact ⟨rfl, below_setRow hL4 (by omega) _⟩
set_option maxHeartbeats 1000000 in
theorem specIm_part (a : Nat → Int) (ha : InR a) (w : World) : Calls Try.prog 68 #[.agg (vec 8 a)] w fun e w' => e = .returned (.agg (vec 4 (ima a))) ∧ Below w.heap.size w w' := by
  have h0 := ha 0 (by omega); have h1 := ha 1 (by omega); have h2 := ha 2 (by omega); have h3 := ha 3 (by omega); have h4 := ha 4 (by omega); have h5 := ha 5 (by omega); have h6 := ha 6 (by omega); have h7 := ha 7 (by omega)
  clear ha
  change Calls Try.prog 68 #[.agg #[.int .i64 (a 0), .int .i64 (a 1), .int .i64 (a 2), .int .i64 (a 3), .int .i64 (a 4), .int .i64 (a 5), .int .i64 (a 6), .int .i64 (a 7)]] w fun e w' => e = .returned (.agg #[.int .i64 (2 * a 2 + 4 * a 6), .int .i64 (0 - a 1 + 2 * a 3 + a 5 + a 7), .int .i64 (2 * a 4), .int .i64 (a 1 + a 5 + a 7)]) ∧ Below w.heap.size w w'
  go_enter Try.func68, Try.ntmps68
  go_wp2
  simp [bodyPost, results, Try.results68, go_sem]
  exact below_three _ _ _ _
theorem specSurdIm_no (a : Nat → Int) (va : okc a = false) (w : World) :
    Calls Try.prog 27 #[pt a] w fun e w' => e = .returned (tls false (ima a)) ∧ Below w.heap.size w w' := by
  have sa := vec_size 8 a
  rw [ans_no4]
  have P : ∀ w, Calls Try.prog 60 #[pt a] w fun e w' => e = .returned (.bool false) ∧ Below w.heap.size w w' := fun w => by rw [← va]; exact specValid_any a w
  unfold pt at *
  clear va
  go_enter Try.func27, Try.ntmps27
  go_upto_region 1 with fail
  show Code.wp _ _ _ _ (boxP w a 34 24)
  obtain ⟨hA, hO, hL⟩ := boxP_facts w a 34 24
  generalize boxP w a 34 24 = W at *
  go_wp2_with (refine load_row rfl rfl rfl hA Try.underlying34 rfl info_cyc ?_)
  refine (P _).mono ?_; rintro e w2 ⟨rfl, hb2⟩
  have hO2 := hO.below hb2
  have hL2 := below_next hL hb2
  clear hA hO hL hb2 P
  go_wp2_with (refine store_row rfl rfl rfl (show _ = Value.agg (vec 4 nul) from rfl) hO2 info_surd ?_)
  refine bodyPost_ret (results_row_tmp rfl rfl hO2.setRow Try.underlying24 rfl info_surd) rfl ?_
  exact ⟨rfl, below_setRow hL2 (by omega) _⟩
theorem specSurdIm_yes (a : Nat → Int) (va : okc a = true) (w : World) :
    Calls Try.prog 27 #[pt a] w fun e w' => e = .returned (tls true (ima a)) ∧ Below w.heap.size w w' := by
  have sa := vec_size 8 a
  have P : ∀ w, Calls Try.prog 60 #[pt a] w fun e w' => e = .returned (.bool true) ∧ Below w.heap.size w w' := fun w => by rw [← va]; exact specValid_any a w
  have M := fun w => specIm_part a (okc_inR va) w
  obtain ⟨c', v', T, eT⟩ := specDone_some (ima a)
  rw [eT]
  unfold pt at *
  clear va eT
  generalize ima a = r at *
  go_enter Try.func27, Try.ntmps27
  go_upto_region 1 with fail
  show Code.wp _ _ _ _ (boxP w a 34 24)
  obtain ⟨hA, hO, hL⟩ := boxP_facts w a 34 24
  generalize boxP w a 34 24 = W at *
  go_wp2_with (refine load_row rfl rfl rfl hA Try.underlying34 rfl info_cyc ?_)
  refine (P _).mono ?_; rintro e w2 ⟨rfl, hb2⟩
  have hA2 := hA.below hb2
  have hO2 := hO.below hb2
  have hL2 := below_next hL hb2
  clear hA hO hL hb2 P
  go_wp2_with (refine load_row rfl rfl rfl hA2 Try.underlying34 rfl info_cyc ?_)
  refine (M _).mono ?_; rintro e w3 ⟨rfl, hb3⟩
  have hO3 := hO2.below hb3
  have hL3 := below_next hL2 hb3
  clear hA2 hO2 hL2 hb3 M
  go_wp2_with fail
  refine (T _).mono ?_; rintro e w4 ⟨rfl, hb4⟩
  have hO4 := hO3.below hb4
  have hL4 := below_next hL3 hb4
  clear hO3 hL3 hb4 T
  go_wp2_with (refine store_row rfl rfl rfl rfl hO4 info_surd ?_)
  refine bodyPost_ret (results_row_tmp rfl rfl hO4.setRow Try.underlying24 rfl info_surd) rfl ?_
  exact ⟨rfl, below_setRow hL4 (by omega) _⟩
end Go.Proofs.Ytcdlenphgenejaa
