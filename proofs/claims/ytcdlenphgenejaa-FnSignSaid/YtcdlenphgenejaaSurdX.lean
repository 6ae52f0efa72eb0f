/-
  Both sides of every function of surds, and what a true answer means.
-/
import Derived.Test.YtcdlenphgenejaaSurdW
import Derived.Test.YtcdlenphgenejaaLawCycBase
namespace Go.Proofs.Ytcdlenphgenejaa
set_option maxRecDepth 20000
open Go.ChangeShapes Go.WideShapes Go.ChangeAt Go.RowKit
set_option linter.unusedVariables false
set_option linter.unusedSimpArgs false

set_option maxHeartbeats 2000000 in
theorem norm_impl (a c d r : Nat → Int) (p q t : Bool) (M : ∀ w, Calls Try.prog 23 #[.agg (vec 8 a)] w fun e w' => e = .returned (.tuple #[.agg (vec 8 c), .bool p]) ∧ Below w.heap.size w w')
    (T : ∀ w, Calls Try.prog 75 #[.agg (vec 8 a), .agg (vec 8 c)] w fun e w' => e = .returned (.tuple #[.agg (vec 8 d), .bool q]) ∧ Below w.heap.size w w')
    (R : q = true → ∀ w, Calls Try.prog 21 #[.agg (vec 8 d)] w fun e w' => e = .returned (.tuple #[.agg (vec 4 r), .bool t]) ∧ Below w.heap.size w w') (w : World) :
    Calls Try.prog 41 #[.agg (vec 8 a)] w fun e w' => e = .returned (if p && q then .tuple #[.agg (vec 4 r), .bool t] else .tuple #[.agg (vec 4 nul), .bool false]) ∧ Below w.heap.size w w' := by
  have sa := vec_size 8 a
  cases p <;> cases q
  · try rw [if_neg (by decide)]
    go_enter Try.func41, Try.ntmps41
    go_upto_region 1 with fail
    show Code.wp _ _ _ _ (boxP w a 34 24)
    obtain ⟨hA, hO, hL⟩ := boxP_facts w a 34 24
    generalize boxP w a 34 24 = W at *
    go_wp2_with (refine load_row rfl rfl rfl hA Try.underlying34 rfl info_cyc ?_)
    refine (M _).mono ?_; rintro e w2 ⟨rfl, hb2⟩
    have hA2 := hA.below hb2
    have hO2 := hO.below hb2
    have hL2 := below_next hL hb2
    clear hA hO hL hb2 M
    go_upto_region 2 with (refine store_row rfl rfl rfl rfl (RowAt.newAt zero8 rfl) info_cyc ?_)
    show Code.wp _ _ _ _ (sole w2 c 34)
    have hC3 := sole_first w2 c 34
    have hA3 := sole_keep hA2 c 34
    have hO3 := sole_keep hO2 c 34
    have hL3 := sole_below hL2 c 34
    clear hA2 hO2 hL2
    generalize w2.heap.size = gC at *
    generalize sole w2 c 34 = W3 at *
    go_wp2_with (first | (refine load_row (g := w.heap.size) rfl rfl rfl hA3 Try.underlying34 rfl info_cyc ?_) | (refine load_row (g := gC) rfl rfl rfl hC3 Try.underlying34 rfl info_cyc ?_))
    refine (T _).mono ?_; rintro e w4 ⟨rfl, hb4⟩
    have hO4 := hO3.below hb4
    have hL4 := below_next hL3 hb4
    clear hA3 hC3 hO3 hL3 hb4 T
    go_upto_region 3 with (refine store_row rfl rfl rfl rfl (RowAt.newAt zero8 rfl) info_cyc ?_)
    show Code.wp _ _ _ _ (sole w4 d 34)
    have hD5 := sole_first w4 d 34
    have hO5 := sole_keep hO4 d 34
    have hL5 := sole_below hL4 d 34
    clear hO4 hL4
    generalize sole w4 d 34 = W5 at *
    go_wp2_with (refine store_row rfl rfl rfl (show _ = Value.agg (vec 4 nul) from rfl) hO5 info_surd ?_)
    refine bodyPost_ret (results_row_tmp rfl rfl hO5.setRow Try.underlying24 rfl info_surd) rfl ?_
    exact ⟨rfl, below_setRow hL5 (by omega) _⟩
  · try rw [if_neg (by decide)]
    go_enter Try.func41, Try.ntmps41
    go_upto_region 1 with fail
    show Code.wp _ _ _ _ (boxP w a 34 24)
    obtain ⟨hA, hO, hL⟩ := boxP_facts w a 34 24
    generalize boxP w a 34 24 = W at *
    go_wp2_with (refine load_row rfl rfl rfl hA Try.underlying34 rfl info_cyc ?_)
    refine (M _).mono ?_; rintro e w2 ⟨rfl, hb2⟩
    have hA2 := hA.below hb2
    have hO2 := hO.below hb2
    have hL2 := below_next hL hb2
    clear hA hO hL hb2 M
    go_upto_region 2 with (refine store_row rfl rfl rfl rfl (RowAt.newAt zero8 rfl) info_cyc ?_)
    show Code.wp _ _ _ _ (sole w2 c 34)
    have hC3 := sole_first w2 c 34
    have hA3 := sole_keep hA2 c 34
    have hO3 := sole_keep hO2 c 34
    have hL3 := sole_below hL2 c 34
    clear hA2 hO2 hL2
    generalize w2.heap.size = gC at *
    generalize sole w2 c 34 = W3 at *
    go_wp2_with (first | (refine load_row (g := w.heap.size) rfl rfl rfl hA3 Try.underlying34 rfl info_cyc ?_) | (refine load_row (g := gC) rfl rfl rfl hC3 Try.underlying34 rfl info_cyc ?_))
    refine (T _).mono ?_; rintro e w4 ⟨rfl, hb4⟩
    have hO4 := hO3.below hb4
    have hL4 := below_next hL3 hb4
    clear hA3 hC3 hO3 hL3 hb4 T
    go_upto_region 3 with (refine store_row rfl rfl rfl rfl (RowAt.newAt zero8 rfl) info_cyc ?_)
    show Code.wp _ _ _ _ (sole w4 d 34)
    have hD5 := sole_first w4 d 34
    have hO5 := sole_keep hO4 d 34
    have hL5 := sole_below hL4 d 34
    clear hO4 hL4
    generalize sole w4 d 34 = W5 at *
    go_wp2_with (refine store_row rfl rfl rfl (show _ = Value.agg (vec 4 nul) from rfl) hO5 info_surd ?_)
    refine bodyPost_ret (results_row_tmp rfl rfl hO5.setRow Try.underlying24 rfl info_surd) rfl ?_
    exact ⟨rfl, below_setRow hL5 (by omega) _⟩
  · try rw [if_neg (by decide)]
    go_enter Try.func41, Try.ntmps41
    go_upto_region 1 with fail
    show Code.wp _ _ _ _ (boxP w a 34 24)
    obtain ⟨hA, hO, hL⟩ := boxP_facts w a 34 24
    generalize boxP w a 34 24 = W at *
    go_wp2_with (refine load_row rfl rfl rfl hA Try.underlying34 rfl info_cyc ?_)
    refine (M _).mono ?_; rintro e w2 ⟨rfl, hb2⟩
    have hA2 := hA.below hb2
    have hO2 := hO.below hb2
    have hL2 := below_next hL hb2
    clear hA hO hL hb2 M
    go_upto_region 2 with (refine store_row rfl rfl rfl rfl (RowAt.newAt zero8 rfl) info_cyc ?_)
    show Code.wp _ _ _ _ (sole w2 c 34)
    have hC3 := sole_first w2 c 34
    have hA3 := sole_keep hA2 c 34
    have hO3 := sole_keep hO2 c 34
    have hL3 := sole_below hL2 c 34
    clear hA2 hO2 hL2
    generalize w2.heap.size = gC at *
    generalize sole w2 c 34 = W3 at *
    go_wp2_with (first | (refine load_row (g := w.heap.size) rfl rfl rfl hA3 Try.underlying34 rfl info_cyc ?_) | (refine load_row (g := gC) rfl rfl rfl hC3 Try.underlying34 rfl info_cyc ?_))
    refine (T _).mono ?_; rintro e w4 ⟨rfl, hb4⟩
    have hO4 := hO3.below hb4
    have hL4 := below_next hL3 hb4
    clear hA3 hC3 hO3 hL3 hb4 T
    go_upto_region 3 with (refine store_row rfl rfl rfl rfl (RowAt.newAt zero8 rfl) info_cyc ?_)
    show Code.wp _ _ _ _ (sole w4 d 34)
    have hD5 := sole_first w4 d 34
    have hO5 := sole_keep hO4 d 34
    have hL5 := sole_below hL4 d 34
    clear hO4 hL4
    generalize sole w4 d 34 = W5 at *
    go_wp2_with (refine store_row rfl rfl rfl (show _ = Value.agg (vec 4 nul) from rfl) hO5 info_surd ?_)
    refine bodyPost_ret (results_row_tmp rfl rfl hO5.setRow Try.underlying24 rfl info_surd) rfl ?_
    exact ⟨rfl, below_setRow hL5 (by omega) _⟩
  · rw [if_pos (show (true && true) = true from rfl)]
    have RR := R rfl
    clear R
    go_enter Try.func41, Try.ntmps41
    go_upto_region 1 with fail
    show Code.wp _ _ _ _ (boxP w a 34 24)
    obtain ⟨hA, hO, hL⟩ := boxP_facts w a 34 24
    generalize boxP w a 34 24 = W at *
    go_wp2_with (refine load_row rfl rfl rfl hA Try.underlying34 rfl info_cyc ?_)
    refine (M _).mono ?_; rintro e w2 ⟨rfl, hb2⟩
    have hA2 := hA.below hb2
    have hO2 := hO.below hb2
    have hL2 := below_next hL hb2
    clear hA hO hL hb2 M
    go_upto_region 2 with (refine store_row rfl rfl rfl rfl (RowAt.newAt zero8 rfl) info_cyc ?_)
    show Code.wp _ _ _ _ (sole w2 c 34)
    have hC3 := sole_first w2 c 34
    have hA3 := sole_keep hA2 c 34
    have hO3 := sole_keep hO2 c 34
    have hL3 := sole_below hL2 c 34
    clear hA2 hO2 hL2
    generalize w2.heap.size = gC at *
    generalize sole w2 c 34 = W3 at *
    go_wp2_with (first | (refine load_row (g := w.heap.size) rfl rfl rfl hA3 Try.underlying34 rfl info_cyc ?_) | (refine load_row (g := gC) rfl rfl rfl hC3 Try.underlying34 rfl info_cyc ?_))
    refine (T _).mono ?_; rintro e w4 ⟨rfl, hb4⟩
    have hO4 := hO3.below hb4
    have hL4 := below_next hL3 hb4
    clear hA3 hC3 hO3 hL3 hb4 T
    go_upto_region 3 with (refine store_row rfl rfl rfl rfl (RowAt.newAt zero8 rfl) info_cyc ?_)
    show Code.wp _ _ _ _ (sole w4 d 34)
    have hD5 := sole_first w4 d 34
    have hO5 := sole_keep hO4 d 34
    have hL5 := sole_below hL4 d 34
    clear hO4 hL4
    generalize sole w4 d 34 = W5 at *
    go_wp2_with (refine load_row rfl rfl rfl hD5 Try.underlying34 rfl info_cyc ?_)
    refine (RR _).mono ?_; rintro e w6 ⟨rfl, hb6⟩
    have hO6 := hO5.below hb6
    have hL6 := below_next hL5 hb6
    clear hD5 hO5 hL5 hb6
    go_wp2_with (refine store_row rfl rfl rfl rfl hO6 info_surd ?_)
    refine bodyPost_ret (results_row_tmp rfl rfl hO6.setRow Try.underlying24 rfl info_surd) rfl ?_
    exact ⟨rfl, below_setRow hL6 (by omega) _⟩
set_option maxHeartbeats 2000000 in
theorem norm_spec (a c d r : Nat → Int) (p q t : Bool) (M : ∀ w, Calls Try.prog 76 #[.agg (vec 8 a)] w fun e w' => e = .returned (.tuple #[.agg (vec 8 c), .bool p]) ∧ Below w.heap.size w w')
    (T : ∀ w, Calls Try.prog 77 #[.agg (vec 8 a), .agg (vec 8 c)] w fun e w' => e = .returned (.tuple #[.agg (vec 8 d), .bool q]) ∧ Below w.heap.size w w')
    (R : q = true → (∀ w, Calls Try.prog 62 #[.agg (vec 8 d)] w fun e w' => e = .returned (.agg (vec 4 (rea d))) ∧ Below w.heap.size w w') ∧ ∀ w, Calls Try.prog 61 #[.agg (vec 4 (rea d))] w fun e w' => e = .returned (.tuple #[.agg (vec 4 r), .bool t]) ∧ Below w.heap.size w w') (w : World) :
    Calls Try.prog 42 #[.agg (vec 8 a)] w fun e w' => e = .returned (if p && q then .tuple #[.agg (vec 4 r), .bool t] else .tuple #[.agg (vec 4 nul), .bool false]) ∧ Below w.heap.size w w' := by
  have sa := vec_size 8 a
  cases p <;> cases q
  · try rw [if_neg (by decide)]
    go_enter Try.func42, Try.ntmps42
    go_upto_region 1 with fail
    show Code.wp _ _ _ _ (boxP w a 34 24)
    obtain ⟨hA, hO, hL⟩ := boxP_facts w a 34 24
    generalize boxP w a 34 24 = W at *
    go_wp2_with (refine load_row rfl rfl rfl hA Try.underlying34 rfl info_cyc ?_)
    refine (M _).mono ?_; rintro e w2 ⟨rfl, hb2⟩
    have hA2 := hA.below hb2
    have hO2 := hO.below hb2
    have hL2 := below_next hL hb2
    clear hA hO hL hb2 M
    go_upto_region 2 with (refine store_row rfl rfl rfl rfl (RowAt.newAt zero8 rfl) info_cyc ?_)
    show Code.wp _ _ _ _ (sole w2 c 34)
    have hC3 := sole_first w2 c 34
    have hA3 := sole_keep hA2 c 34
    have hO3 := sole_keep hO2 c 34
    have hL3 := sole_below hL2 c 34
    clear hA2 hO2 hL2
    generalize w2.heap.size = gC at *
    generalize sole w2 c 34 = W3 at *
    go_wp2_with (first | (refine load_row (g := w.heap.size) rfl rfl rfl hA3 Try.underlying34 rfl info_cyc ?_) | (refine load_row (g := gC) rfl rfl rfl hC3 Try.underlying34 rfl info_cyc ?_))
    refine (T _).mono ?_; rintro e w4 ⟨rfl, hb4⟩
    have hO4 := hO3.below hb4
    have hL4 := below_next hL3 hb4
    clear hA3 hC3 hO3 hL3 hb4 T
    go_upto_region 3 with (refine store_row rfl rfl rfl rfl (RowAt.newAt zero8 rfl) info_cyc ?_)
    show Code.wp _ _ _ _ (sole w4 d 34)
    have hD5 := sole_first w4 d 34
    have hO5 := sole_keep hO4 d 34
    have hL5 := sole_below hL4 d 34
    clear hO4 hL4
    generalize sole w4 d 34 = W5 at *
    go_wp2_with (refine store_row rfl rfl rfl (show _ = Value.agg (vec 4 nul) from rfl) hO5 info_surd ?_)
    refine bodyPost_ret (results_row_tmp rfl rfl hO5.setRow Try.underlying24 rfl info_surd) rfl ?_
    exact ⟨rfl, below_setRow hL5 (by omega) _⟩
  · try rw [if_neg (by decide)]
    go_enter Try.func42, Try.ntmps42
    go_upto_region 1 with fail
    show Code.wp _ _ _ _ (boxP w a 34 24)
    obtain ⟨hA, hO, hL⟩ := boxP_facts w a 34 24
    generalize boxP w a 34 24 = W at *
    go_wp2_with (refine load_row rfl rfl rfl hA Try.underlying34 rfl info_cyc ?_)
    refine (M _).mono ?_; rintro e w2 ⟨rfl, hb2⟩
    have hA2 := hA.below hb2
    have hO2 := hO.below hb2
    have hL2 := below_next hL hb2
    clear hA hO hL hb2 M
    go_upto_region 2 with (refine store_row rfl rfl rfl rfl (RowAt.newAt zero8 rfl) info_cyc ?_)
    show Code.wp _ _ _ _ (sole w2 c 34)
    have hC3 := sole_first w2 c 34
    have hA3 := sole_keep hA2 c 34
    have hO3 := sole_keep hO2 c 34
    have hL3 := sole_below hL2 c 34
    clear hA2 hO2 hL2
    generalize w2.heap.size = gC at *
    generalize sole w2 c 34 = W3 at *
    go_wp2_with (first | (refine load_row (g := w.heap.size) rfl rfl rfl hA3 Try.underlying34 rfl info_cyc ?_) | (refine load_row (g := gC) rfl rfl rfl hC3 Try.underlying34 rfl info_cyc ?_))
    refine (T _).mono ?_; rintro e w4 ⟨rfl, hb4⟩
    have hO4 := hO3.below hb4
    have hL4 := below_next hL3 hb4
    clear hA3 hC3 hO3 hL3 hb4 T
    go_upto_region 3 with (refine store_row rfl rfl rfl rfl (RowAt.newAt zero8 rfl) info_cyc ?_)
    show Code.wp _ _ _ _ (sole w4 d 34)
    have hD5 := sole_first w4 d 34
    have hO5 := sole_keep hO4 d 34
    have hL5 := sole_below hL4 d 34
    clear hO4 hL4
    generalize sole w4 d 34 = W5 at *
    go_wp2_with (refine store_row rfl rfl rfl (show _ = Value.agg (vec 4 nul) from rfl) hO5 info_surd ?_)
    refine bodyPost_ret (results_row_tmp rfl rfl hO5.setRow Try.underlying24 rfl info_surd) rfl ?_
    exact ⟨rfl, below_setRow hL5 (by omega) _⟩
  · try rw [if_neg (by decide)]
    go_enter Try.func42, Try.ntmps42
    go_upto_region 1 with fail
    show Code.wp _ _ _ _ (boxP w a 34 24)
    obtain ⟨hA, hO, hL⟩ := boxP_facts w a 34 24
    generalize boxP w a 34 24 = W at *
    go_wp2_with (refine load_row rfl rfl rfl hA Try.underlying34 rfl info_cyc ?_)
    refine (M _).mono ?_; rintro e w2 ⟨rfl, hb2⟩
    have hA2 := hA.below hb2
    have hO2 := hO.below hb2
    have hL2 := below_next hL hb2
    clear hA hO hL hb2 M
    go_upto_region 2 with (refine store_row rfl rfl rfl rfl (RowAt.newAt zero8 rfl) info_cyc ?_)
    show Code.wp _ _ _ _ (sole w2 c 34)
    have hC3 := sole_first w2 c 34
    have hA3 := sole_keep hA2 c 34
    have hO3 := sole_keep hO2 c 34
    have hL3 := sole_below hL2 c 34
    clear hA2 hO2 hL2
    generalize w2.heap.size = gC at *
    generalize sole w2 c 34 = W3 at *
    go_wp2_with (first | (refine load_row (g := w.heap.size) rfl rfl rfl hA3 Try.underlying34 rfl info_cyc ?_) | (refine load_row (g := gC) rfl rfl rfl hC3 Try.underlying34 rfl info_cyc ?_))
    refine (T _).mono ?_; rintro e w4 ⟨rfl, hb4⟩
    have hO4 := hO3.below hb4
    have hL4 := below_next hL3 hb4
    clear hA3 hC3 hO3 hL3 hb4 T
    go_upto_region 3 with (refine store_row rfl rfl rfl rfl (RowAt.newAt zero8 rfl) info_cyc ?_)
    show Code.wp _ _ _ _ (sole w4 d 34)
    have hD5 := sole_first w4 d 34
    have hO5 := sole_keep hO4 d 34
    have hL5 := sole_below hL4 d 34
    clear hO4 hL4
    generalize sole w4 d 34 = W5 at *
    go_wp2_with (refine store_row rfl rfl rfl (show _ = Value.agg (vec 4 nul) from rfl) hO5 info_surd ?_)
    refine bodyPost_ret (results_row_tmp rfl rfl hO5.setRow Try.underlying24 rfl info_surd) rfl ?_
    exact ⟨rfl, below_setRow hL5 (by omega) _⟩
  · rw [if_pos (show (true && true) = true from rfl)]
    have RR := R rfl
    clear R
    go_enter Try.func42, Try.ntmps42
    go_upto_region 1 with fail
    show Code.wp _ _ _ _ (boxP w a 34 24)
    obtain ⟨hA, hO, hL⟩ := boxP_facts w a 34 24
    generalize boxP w a 34 24 = W at *
    go_wp2_with (refine load_row rfl rfl rfl hA Try.underlying34 rfl info_cyc ?_)
    refine (M _).mono ?_; rintro e w2 ⟨rfl, hb2⟩
    have hA2 := hA.below hb2
    have hO2 := hO.below hb2
    have hL2 := below_next hL hb2
    clear hA hO hL hb2 M
    go_upto_region 2 with (refine store_row rfl rfl rfl rfl (RowAt.newAt zero8 rfl) info_cyc ?_)
    show Code.wp _ _ _ _ (sole w2 c 34)
    have hC3 := sole_first w2 c 34
    have hA3 := sole_keep hA2 c 34
    have hO3 := sole_keep hO2 c 34
    have hL3 := sole_below hL2 c 34
    clear hA2 hO2 hL2
    generalize w2.heap.size = gC at *
    generalize sole w2 c 34 = W3 at *
    go_wp2_with (first | (refine load_row (g := w.heap.size) rfl rfl rfl hA3 Try.underlying34 rfl info_cyc ?_) | (refine load_row (g := gC) rfl rfl rfl hC3 Try.underlying34 rfl info_cyc ?_))
    refine (T _).mono ?_; rintro e w4 ⟨rfl, hb4⟩
    have hO4 := hO3.below hb4
    have hL4 := below_next hL3 hb4
    clear hA3 hC3 hO3 hL3 hb4 T
    go_upto_region 3 with (refine store_row rfl rfl rfl rfl (RowAt.newAt zero8 rfl) info_cyc ?_)
    show Code.wp _ _ _ _ (sole w4 d 34)
    have hD5 := sole_first w4 d 34
    have hO5 := sole_keep hO4 d 34
    have hL5 := sole_below hL4 d 34
    clear hO4 hL4
    generalize sole w4 d 34 = W5 at *
    go_wp2_with (refine load_row rfl rfl rfl hD5 Try.underlying34 rfl info_cyc ?_)
    refine (RR.1 _).mono ?_; rintro e w7 ⟨rfl, hb7⟩
    have hO7 := hO5.below hb7
    have hL7 := below_next hL5 hb7
    clear hD5 hO5 hL5 hb7
    go_wp2_with fail
    refine (RR.2 _).mono ?_; rintro e w6 ⟨rfl, hb6⟩
    have hO6 := hO7.below hb6
    have hL6 := below_next hL7 hb6
    clear hO7 hL7 hb6
    go_wp2_with (refine store_row rfl rfl rfl rfl hO6 info_surd ?_)
    refine bodyPost_ret (results_row_tmp rfl rfl hO6.setRow Try.underlying24 rfl info_surd) rfl ?_
    exact ⟨rfl, below_setRow hL6 (by omega) _⟩
theorem tls_some (v : Bool) (f : Nat → Int) : ∃ c u, tls v f = .tuple #[.agg (vec 4 c), .bool u] ∧ (u = true → v = true ∧ okf f = true ∧ c = f) := by
  by_cases h : (v && okf f) = true
  · exact ⟨f, true, by simp [tls, h], fun _ => by simp only [Bool.and_eq_true] at h; exact ⟨h.1, h.2, rfl⟩⟩
  · exact ⟨nul, false, by simp [tls, h], fun h => by cases h⟩
theorem specAdd_at (a b : Nat → Int) (w : World) : Calls Try.prog 30 #[.agg (vec 4 a), .agg (vec 4 b)] w fun e w' => e = .returned (tls (okf a && okf b) (add a b)) ∧ Below w.heap.size w w' := by
  have h := specSurdAdd_sv (a 0) (a 1) (a 2) (a 3) (b 0) (b 1) (b 2) (b 3) w
  have e : (if okf a && okf b then tell (add a b 0) (add a b 1) (add a b 2) (add a b 3) else .tuple #[sv 0 0 0 0, .bool false]) = tls (okf a && okf b) (add a b) := by
    rw [tell_tls]
    cases okf a && okf b <;> rfl
  rw [← e]; exact h
theorem specTimes_at (a b : Nat → Int) (w : World) : Calls Try.prog 34 #[.agg (vec 4 a), .agg (vec 4 b)] w fun e w' => e = .returned (tls (okf a && okf b) (stm a b)) ∧ Below w.heap.size w w' := by
  have h := specSurdTimes_sv (a 0) (a 1) (a 2) (a 3) (b 0) (b 1) (b 2) (b 3) w
  rw [show a 0 * b 1 + a 1 * b 0 + 3 * a 2 * b 3 + 3 * a 3 * b 2 = a 0 * b 1 + a 1 * b 0 + 3 * (a 2 * b 3 + a 3 * b 2) by grind,
    show a 0 * b 2 + a 2 * b 0 + 2 * a 1 * b 3 + 2 * a 3 * b 1 = a 0 * b 2 + a 2 * b 0 + 2 * (a 1 * b 3 + a 3 * b 1) by grind] at h
  have e : (if okf a && okf b then tell (stm a b 0) (stm a b 1) (stm a b 2) (stm a b 3) else .tuple #[sv 0 0 0 0, .bool false]) = tls (okf a && okf b) (stm a b) := by
    rw [tell_tls]
    cases okf a && okf b <;> rfl
  rw [← e]; exact h
theorem know_SurdAdd (a b : Nat → Int) : ∃ c v, (∀ w, Calls Try.prog 30 #[.agg (vec 4 a), .agg (vec 4 b)] w fun e w' => e = .returned (.tuple #[.agg (vec 4 c), .bool v]) ∧ Below w.heap.size w w') ∧ (∀ w, Calls Try.prog 19 #[.agg (vec 4 a), .agg (vec 4 b)] w fun e w' => e = .returned (.tuple #[.agg (vec 4 c), .bool v]) ∧ Below w.heap.size w w') ∧ (v = true → okf a = true ∧ okf b = true ∧ okf c = true ∧ c = add a b) := by
  obtain ⟨c, u, e, h⟩ := tls_some (okf a && okf b) (add a b)
  refine ⟨c, u, fun w => ?_, fun w => ?_, fun hu => ?_⟩
  · rw [← e]; exact specAdd_at a b w
  · rw [← e]; exact SurdAdd_any a b w
  · obtain ⟨h1, h2, rfl⟩ := h hu
    simp only [Bool.and_eq_true] at h1
    exact ⟨h1.1, h1.2, h2, rfl⟩
theorem know_SurdTimes (a b : Nat → Int) : ∃ c v, (∀ w, Calls Try.prog 34 #[.agg (vec 4 a), .agg (vec 4 b)] w fun e w' => e = .returned (.tuple #[.agg (vec 4 c), .bool v]) ∧ Below w.heap.size w w') ∧ (∀ w, Calls Try.prog 33 #[.agg (vec 4 a), .agg (vec 4 b)] w fun e w' => e = .returned (.tuple #[.agg (vec 4 c), .bool v]) ∧ Below w.heap.size w w') ∧ (v = true → okf a = true ∧ okf b = true ∧ okf c = true ∧ c = stm a b) := by
  obtain ⟨c, u, e, h⟩ := tls_some (okf a && okf b) (stm a b)
  refine ⟨c, u, fun w => ?_, fun w => ?_, fun hu => ?_⟩
  · rw [← e]; exact specTimes_at a b w
  · rw [← e]; exact SurdTimes_any a b w
  · obtain ⟨h1, h2, rfl⟩ := h hu
    simp only [Bool.and_eq_true] at h1
    exact ⟨h1.1, h1.2, h2, rfl⟩
theorem know_SurdValid (a : Nat → Int) : (∀ w, Calls Try.prog 17 #[.agg (vec 4 a)] w fun e w' => e = .returned (.bool (okf a)) ∧ Below w.heap.size w w') ∧ (∀ w, Calls Try.prog 16 #[.agg (vec 4 a)] w fun e w' => e = .returned (.bool (okf a)) ∧ Below w.heap.size w w') ∧ True := ⟨fun w => specSurdValid_any (a 0) (a 1) (a 2) (a 3) w, fun w => SurdValid_any (a 0) (a 1) (a 2) (a 3) w, trivial⟩
theorem know_SurdSign (a : Nat → Int) : ∃ z v, (∀ w, Calls Try.prog 36 #[.agg (vec 4 a)] w fun e w' => e = .returned (.tuple #[.int .i64 z, .bool v]) ∧ Below w.heap.size w w') ∧ (∀ w, Calls Try.prog 18 #[.agg (vec 4 a)] w fun e w' => e = .returned (.tuple #[.int .i64 z, .bool v]) ∧ Below w.heap.size w w') ∧ (v = okf a) ∧ (v = true → z = sgf a) := 
  ⟨if okf a then sgf a else 0, okf a, fun w => specSurdSign_any (a 0) (a 1) (a 2) (a 3) w, fun w => SurdSign_any (a 0) (a 1) (a 2) (a 3) w, rfl, fun h => by rw [h]; rfl⟩
theorem know_SurdCompare (a b : Nat → Int) : ∃ z v, (∀ w, Calls Try.prog 39 #[.agg (vec 4 a), .agg (vec 4 b)] w fun e w' => e = .returned (.tuple #[.int .i64 z, .bool v]) ∧ Below w.heap.size w w') ∧ (∀ w, Calls Try.prog 31 #[.agg (vec 4 a), .agg (vec 4 b)] w fun e w' => e = .returned (.tuple #[.int .i64 z, .bool v]) ∧ Below w.heap.size w w') ∧ (v = (okf a && okf b)) ∧ (v = true → z = sgf (sub a b)) := 
  ⟨if okf a && okf b then sgf (sub a b) else 0, okf a && okf b, fun w => specSurdCompare_sv (a 0) (a 1) (a 2) (a 3) (b 0) (b 1) (b 2) (b 3) w, fun w => SurdCompare_any a b w, rfl, fun h => by rw [h]; rfl⟩
theorem know_SurdWhole (a : Nat → Int) : ∃ z v, (∀ w, Calls Try.prog 45 #[.agg (vec 4 a)] w fun e w' => e = .returned (.tuple #[.int .i64 z, .bool v]) ∧ Below w.heap.size w w') ∧ (∀ w, Calls Try.prog 44 #[.agg (vec 4 a)] w fun e w' => e = .returned (.tuple #[.int .i64 z, .bool v]) ∧ Below w.heap.size w w') ∧ (v = true → okf a = true ∧ Wh (a 0) (a 1) (a 2) (a 3) z) := by
  cases h : okf a
  · have e : (if okf a then (0 : Int) else 0) = 0 := by rw [h]; rfl
    have hn : okr (a 0) (a 1) (a 2) (a 3) = true → Wh (a 0) (a 1) (a 2) (a 3) 0 := fun k => by rw [show okr (a 0) (a 1) (a 2) (a 3) = false from h] at k; cases k
    refine ⟨0, false, fun w => ?_, fun w => ?_, fun h => by cases h⟩
    · have := specSurdWhole_any (a 0) (a 1) (a 2) (a 3) 0 hn w
      rw [show okr (a 0) (a 1) (a 2) (a 3) = false from h] at this
      exact this
    · have := SurdWhole_any (a 0) (a 1) (a 2) (a 3) 0 hn w
      rw [show okr (a 0) (a 1) (a 2) (a 3) = false from h] at this
      exact this
  · obtain ⟨h0, h1, h2, h3⟩ := okf_in h
    obtain ⟨n, hn⟩ := wh_some h0 h1 h2 h3
    refine ⟨n, true, fun w => ?_, fun w => ?_, fun _ => ⟨rfl, hn⟩⟩
    · have := specSurdWhole_any (a 0) (a 1) (a 2) (a 3) n (fun _ => hn) w
      rw [show okr (a 0) (a 1) (a 2) (a 3) = true from h] at this
      exact this
    · have := SurdWhole_any (a 0) (a 1) (a 2) (a 3) n (fun _ => hn) w
      rw [show okr (a 0) (a 1) (a 2) (a 3) = true from h] at this
      exact this
theorem know_SurdRe (a : Nat → Int) : ∃ c v, (∀ w, Calls Try.prog 22 #[.agg (vec 8 a)] w fun e w' => e = .returned (.tuple #[.agg (vec 4 c), .bool v]) ∧ Below w.heap.size w w') ∧ (∀ w, Calls Try.prog 21 #[.agg (vec 8 a)] w fun e w' => e = .returned (.tuple #[.agg (vec 4 c), .bool v]) ∧ Below w.heap.size w w') ∧ (v = true → okc a = true ∧ okf c = true ∧ c = rea a) := by
  cases h : okc a
  · obtain ⟨c, u, e, k⟩ := tls_some false (rea a)
    refine ⟨c, u, fun w => ?_, fun w => ?_, fun hu => by have := (k hu).1; cases this⟩
    · rw [← e]; exact specSurdRe_no a h w
    · rw [← e]; exact SurdRe_no a h w
  · obtain ⟨c, u, e, k⟩ := tls_some true (rea a)
    refine ⟨c, u, fun w => ?_, fun w => ?_, fun hu => ⟨rfl, by have := k hu; rw [this.2.2]; exact this.2.1, (k hu).2.2⟩⟩
    · rw [← e]; exact specSurdRe_yes a h w
    · rw [← e]; exact SurdRe_yes a h w
theorem know_SurdIm (a : Nat → Int) : ∃ c v, (∀ w, Calls Try.prog 27 #[.agg (vec 8 a)] w fun e w' => e = .returned (.tuple #[.agg (vec 4 c), .bool v]) ∧ Below w.heap.size w w') ∧ (∀ w, Calls Try.prog 25 #[.agg (vec 8 a)] w fun e w' => e = .returned (.tuple #[.agg (vec 4 c), .bool v]) ∧ Below w.heap.size w w') ∧ (v = true → okc a = true ∧ okf c = true ∧ c = ima a) := by
  cases h : okc a
  · obtain ⟨c, u, e, k⟩ := tls_some false (ima a)
    refine ⟨c, u, fun w => ?_, fun w => ?_, fun hu => by have := (k hu).1; cases this⟩
    · rw [← e]; exact specSurdIm_no a h w
    · rw [← e]; exact SurdIm_no a h w
  · obtain ⟨c, u, e, k⟩ := tls_some true (ima a)
    refine ⟨c, u, fun w => ?_, fun w => ?_, fun hu => ⟨rfl, by have := k hu; rw [this.2.2]; exact this.2.1, (k hu).2.2⟩⟩
    · rw [← e]; exact specSurdIm_yes a h w
    · rw [← e]; exact SurdIm_yes a h w
theorem know_SurdNorm (a : Nat → Int) : ∃ c v, (∀ w, Calls Try.prog 42 #[.agg (vec 8 a)] w fun e w' => e = .returned (.tuple #[.agg (vec 4 c), .bool v]) ∧ Below w.heap.size w w') ∧ (∀ w, Calls Try.prog 41 #[.agg (vec 8 a)] w fun e w' => e = .returned (.tuple #[.agg (vec 4 c), .bool v]) ∧ Below w.heap.size w w') ∧ (v = true → okc a = true ∧ okc (mir a) = true ∧ okc (prd a (mir a)) = true ∧ okf c = true ∧ c = rea (prd a (mir a))) := by
  obtain ⟨m, p, S1, I1, k1⟩ := know_CycMirror a
  obtain ⟨d, q, S2, I2, k2⟩ := know_CycTimes a m
  obtain ⟨c, u, e, k⟩ := tls_some (okc d) (rea d)
  have hS : q = true → (∀ w, Calls Try.prog 62 #[.agg (vec 8 d)] w fun e w' => e = .returned (.agg (vec 4 (rea d))) ∧ Below w.heap.size w w') ∧ ∀ w, Calls Try.prog 61 #[.agg (vec 4 (rea d))] w fun e w' => e = .returned (.tuple #[.agg (vec 4 c), .bool u]) ∧ Below w.heap.size w w' := fun hq => by
    have hd := (k2 hq).2.2.1
    rw [hd] at e
    refine ⟨fun w => specRe_part d (okc_inR hd) w, fun w => ?_⟩
    obtain ⟨c', v', T, eT⟩ := specDone_some (rea d)
    rw [eT] at e
    rw [← e]; exact T w
  have hI : q = true → ∀ w, Calls Try.prog 21 #[.agg (vec 8 d)] w fun e w' => e = .returned (.tuple #[.agg (vec 4 c), .bool u]) ∧ Below w.heap.size w w' := fun hq w => by
    have hd := (k2 hq).2.2.1
    rw [hd] at e
    rw [← e]; exact SurdRe_yes d hd w
  by_cases h : (p && q) = true
  · refine ⟨c, u, fun w => ?_, fun w => ?_, fun hu => ?_⟩
    · have := norm_spec a m d c p q u S1 S2 hS w
      rw [if_pos h] at this
      exact this
    · have := norm_impl a m d c p q u I1 I2 hI w
      rw [if_pos h] at this
      exact this
    · simp only [Bool.and_eq_true] at h
      obtain ⟨a1, a2, rfl⟩ := k1 h.1
      obtain ⟨b1, b2, b3, rfl⟩ := k2 h.2
      obtain ⟨c1, c2, rfl⟩ := k hu
      exact ⟨a1, a2, b3, c2, rfl⟩
  · refine ⟨nul, false, fun w => ?_, fun w => ?_, fun h => by cases h⟩
    · have := norm_spec a m d c p q u S1 S2 hS w
      rw [if_neg h] at this
      exact this
    · have := norm_impl a m d c p q u I1 I2 hI w
      rw [if_neg h] at this
      exact this
end Go.Proofs.Ytcdlenphgenejaa
