/-
  Both sides of every function of surds, and what a true answer means.
-/
import Derived.Test.YtdgbpdeimckbfaaM28
import Derived.Test.YtdgbpdeimckbfaaM32
/- Both sides of every function of surds, and what a true answer means. -/
namespace Go.Proofs.Ytdgbpdeimckbfaa
set_option maxRecDepth 20000
open Go.ChangeShapes Go.WideShapes Go.ChangeAt Go.RowKit
set_option linter.unusedVariables false
set_option linter.unusedSimpArgs false

set_option maxHeartbeats 2000000 in
theorem norm_spec (a c d r : Nat → Int) (p q t : Bool) (M : ∀ w, Calls Try.prog 140 #[.agg (vec 8 a)] w fun e w' => e = .returned (.tuple #[.agg (vec 8 c), .bool p]) ∧ Below w.heap.size w w')
    (T : ∀ w, Calls Try.prog 103 #[.agg (vec 8 a), .agg (vec 8 c)] w fun e w' => e = .returned (.tuple #[.agg (vec 8 d), .bool q]) ∧ Below w.heap.size w w')
    (R : q = true → (∀ w, Calls Try.prog 142 #[.agg (vec 8 d)] w fun e w' => e = .returned (.agg (vec 4 (rea d))) ∧ Below w.heap.size w w') ∧ ∀ w, Calls Try.prog 141 #[.agg (vec 4 (rea d))] w fun e w' => e = .returned (.tuple #[.agg (vec 4 r), .bool t]) ∧ Below w.heap.size w w') (w : World) :
    Calls Try.prog 106 #[.agg (vec 8 a)] w fun e w' => e = .returned (if p && q then .tuple #[.agg (vec 4 r), .bool t] else .tuple #[.agg (vec 4 nul), .bool false]) ∧ Below w.heap.size w w' := by
  have sa := vec_size 8 a
  cases p <;> cases q
  · try rw [if_neg (by decide)]
    go_enter Try.func106, Try.ntmps106
    go_upto_region 1 with fail
    show Code.wp _ _ _ _ (boxP w a 36 43)
    obtain ⟨hA, hO, hL⟩ := boxP_facts w a 36 43
    generalize boxP w a 36 43 = W at *
    go_wp2_with (refine load_row rfl rfl rfl hA Try.underlying36 rfl info_cyc ?_)
    refine (M _).mono ?_; rintro e w2 ⟨rfl, hb2⟩
    have hA2 := hA.below hb2
    have hO2 := hO.below hb2
    have hL2 := below_next hL hb2
    clear hA hO hL hb2 M
    go_upto_region 2 with (refine store_row rfl rfl rfl rfl (RowAt.newAt zero8 rfl) info_cyc ?_)
    show Code.wp _ _ _ _ (sole w2 c 36)
    have hC3 := sole_first w2 c 36
    have hA3 := sole_keep hA2 c 36
    have hO3 := sole_keep hO2 c 36
    have hL3 := sole_below hL2 c 36
    clear hA2 hO2 hL2
    generalize w2.heap.size = gC at *
    generalize sole w2 c 36 = W3 at *
    go_wp2_with (first | (refine load_row (g := w.heap.size) rfl rfl rfl hA3 Try.underlying36 rfl info_cyc ?_) | (refine load_row (g := gC) rfl rfl rfl hC3 Try.underlying36 rfl info_cyc ?_))
    refine (T _).mono ?_; rintro e w4 ⟨rfl, hb4⟩
    have hO4 := hO3.below hb4
    have hL4 := below_next hL3 hb4
    clear hA3 hC3 hO3 hL3 hb4 T
    go_upto_region 3 with (refine store_row rfl rfl rfl rfl (RowAt.newAt zero8 rfl) info_cyc ?_)
    show Code.wp _ _ _ _ (sole w4 d 36)
    have hD5 := sole_first w4 d 36
    have hO5 := sole_keep hO4 d 36
    have hL5 := sole_below hL4 d 36
    clear hO4 hL4
    generalize sole w4 d 36 = W5 at *
    go_wp2_with (refine store_row rfl rfl rfl (show _ = Value.agg (vec 4 nul) from rfl) hO5 info_surd ?_)
    refine bodyPost_ret (results_row_tmp rfl rfl hO5.setRow Try.underlying43 rfl info_surd) rfl ?_
    exact ⟨rfl, below_setRow hL5 (by omega) _⟩
  · try rw [if_neg (by decide)]
    go_enter Try.func106, Try.ntmps106
    go_upto_region 1 with fail
    show Code.wp _ _ _ _ (boxP w a 36 43)
    obtain ⟨hA, hO, hL⟩ := boxP_facts w a 36 43
    generalize boxP w a 36 43 = W at *
    go_wp2_with (refine load_row rfl rfl rfl hA Try.underlying36 rfl info_cyc ?_)
    refine (M _).mono ?_; rintro e w2 ⟨rfl, hb2⟩
    have hA2 := hA.below hb2
    have hO2 := hO.below hb2
    have hL2 := below_next hL hb2
    clear hA hO hL hb2 M
    go_upto_region 2 with (refine store_row rfl rfl rfl rfl (RowAt.newAt zero8 rfl) info_cyc ?_)
    show Code.wp _ _ _ _ (sole w2 c 36)
    have hC3 := sole_first w2 c 36
    have hA3 := sole_keep hA2 c 36
    have hO3 := sole_keep hO2 c 36
    have hL3 := sole_below hL2 c 36
    clear hA2 hO2 hL2
    generalize w2.heap.size = gC at *
    generalize sole w2 c 36 = W3 at *
    go_wp2_with (first | (refine load_row (g := w.heap.size) rfl rfl rfl hA3 Try.underlying36 rfl info_cyc ?_) | (refine load_row (g := gC) rfl rfl rfl hC3 Try.underlying36 rfl info_cyc ?_))
    refine (T _).mono ?_; rintro e w4 ⟨rfl, hb4⟩
    have hO4 := hO3.below hb4
    have hL4 := below_next hL3 hb4
    clear hA3 hC3 hO3 hL3 hb4 T
    go_upto_region 3 with (refine store_row rfl rfl rfl rfl (RowAt.newAt zero8 rfl) info_cyc ?_)
    show Code.wp _ _ _ _ (sole w4 d 36)
    have hD5 := sole_first w4 d 36
    have hO5 := sole_keep hO4 d 36
    have hL5 := sole_below hL4 d 36
    clear hO4 hL4
    generalize sole w4 d 36 = W5 at *
    go_wp2_with (refine store_row rfl rfl rfl (show _ = Value.agg (vec 4 nul) from rfl) hO5 info_surd ?_)
    refine bodyPost_ret (results_row_tmp rfl rfl hO5.setRow Try.underlying43 rfl info_surd) rfl ?_
    exact ⟨rfl, below_setRow hL5 (by omega) _⟩
  · try rw [if_neg (by decide)]
    go_enter Try.func106, Try.ntmps106
    go_upto_region 1 with fail
    show Code.wp _ _ _ _ (boxP w a 36 43)
    obtain ⟨hA, hO, hL⟩ := boxP_facts w a 36 43
    generalize boxP w a 36 43 = W at *
    go_wp2_with (refine load_row rfl rfl rfl hA Try.underlying36 rfl info_cyc ?_)
    refine (M _).mono ?_; rintro e w2 ⟨rfl, hb2⟩
    have hA2 := hA.below hb2
    have hO2 := hO.below hb2
    have hL2 := below_next hL hb2
    clear hA hO hL hb2 M
    go_upto_region 2 with (refine store_row rfl rfl rfl rfl (RowAt.newAt zero8 rfl) info_cyc ?_)
    show Code.wp _ _ _ _ (sole w2 c 36)
    have hC3 := sole_first w2 c 36
    have hA3 := sole_keep hA2 c 36
    have hO3 := sole_keep hO2 c 36
    have hL3 := sole_below hL2 c 36
    clear hA2 hO2 hL2
    generalize w2.heap.size = gC at *
    generalize sole w2 c 36 = W3 at *
    go_wp2_with (first | (refine load_row (g := w.heap.size) rfl rfl rfl hA3 Try.underlying36 rfl info_cyc ?_) | (refine load_row (g := gC) rfl rfl rfl hC3 Try.underlying36 rfl info_cyc ?_))
    refine (T _).mono ?_; rintro e w4 ⟨rfl, hb4⟩
    have hO4 := hO3.below hb4
    have hL4 := below_next hL3 hb4
    clear hA3 hC3 hO3 hL3 hb4 T
    go_upto_region 3 with (refine store_row rfl rfl rfl rfl (RowAt.newAt zero8 rfl) info_cyc ?_)
    show Code.wp _ _ _ _ (sole w4 d 36)
    have hD5 := sole_first w4 d 36
    have hO5 := sole_keep hO4 d 36
    have hL5 := sole_below hL4 d 36
    clear hO4 hL4
    generalize sole w4 d 36 = W5 at *
    go_wp2_with (refine store_row rfl rfl rfl (show _ = Value.agg (vec 4 nul) from rfl) hO5 info_surd ?_)
    refine bodyPost_ret (results_row_tmp rfl rfl hO5.setRow Try.underlying43 rfl info_surd) rfl ?_
    exact ⟨rfl, below_setRow hL5 (by omega) _⟩
  · rw [if_pos (show (true && true) = true from rfl)]
    have RR := R rfl
    clear R
    go_enter Try.func106, Try.ntmps106
    go_upto_region 1 with fail
    show Code.wp _ _ _ _ (boxP w a 36 43)
    obtain ⟨hA, hO, hL⟩ := boxP_facts w a 36 43
    generalize boxP w a 36 43 = W at *
    go_wp2_with (refine load_row rfl rfl rfl hA Try.underlying36 rfl info_cyc ?_)
    refine (M _).mono ?_; rintro e w2 ⟨rfl, hb2⟩
    have hA2 := hA.below hb2
    have hO2 := hO.below hb2
    have hL2 := below_next hL hb2
    clear hA hO hL hb2 M
    go_upto_region 2 with (refine store_row rfl rfl rfl rfl (RowAt.newAt zero8 rfl) info_cyc ?_)
    show Code.wp _ _ _ _ (sole w2 c 36)
    have hC3 := sole_first w2 c 36
    have hA3 := sole_keep hA2 c 36
    have hO3 := sole_keep hO2 c 36
    have hL3 := sole_below hL2 c 36
    clear hA2 hO2 hL2
    generalize w2.heap.size = gC at *
    generalize sole w2 c 36 = W3 at *
    go_wp2_with (first | (refine load_row (g := w.heap.size) rfl rfl rfl hA3 Try.underlying36 rfl info_cyc ?_) | (refine load_row (g := gC) rfl rfl rfl hC3 Try.underlying36 rfl info_cyc ?_))
    refine (T _).mono ?_; rintro e w4 ⟨rfl, hb4⟩
    have hO4 := hO3.below hb4
    have hL4 := below_next hL3 hb4
    clear hA3 hC3 hO3 hL3 hb4 T
    go_upto_region 3 with (refine store_row rfl rfl rfl rfl (RowAt.newAt zero8 rfl) info_cyc ?_)
    show Code.wp _ _ _ _ (sole w4 d 36)
    have hD5 := sole_first w4 d 36
    have hO5 := sole_keep hO4 d 36
    have hL5 := sole_below hL4 d 36
    clear hO4 hL4
    generalize sole w4 d 36 = W5 at *
    go_wp2_with (refine load_row rfl rfl rfl hD5 Try.underlying36 rfl info_cyc ?_)
    refine (RR.1 _).mono ?_; rintro e w7 ⟨rfl, hb7⟩
    have hO7 := hO5.below hb7
    have hL7 := below_next hL5 hb7
    clear hD5 hO5 hL5 hb7
    go_wp2_with fail
    refine (RR.2 _).mono ?_; rintro e w6 ⟨rfl, hb6⟩
    have hO6 := hO7.below hb6
    have hL6 := below_next hL7 hb6
    clear hO7 hL7 hb6
    go_wp2_with (refine store_row rfl rfl rfl rfl hO6 info_surd ?_)
    refine bodyPost_ret (results_row_tmp rfl rfl hO6.setRow Try.underlying43 rfl info_surd) rfl ?_
    exact ⟨rfl, below_setRow hL6 (by omega) _⟩
theorem tls_some (v : Bool) (f : Nat → Int) : ∃ c u, tls v f = .tuple #[.agg (vec 4 c), .bool u] ∧ (u = true → v = true ∧ okf f = true ∧ c = f) := by
  by_cases h : (v && okf f) = true
  · exact ⟨f, true, by simp [tls, h], fun _ => by simp only [Bool.and_eq_true] at h; exact ⟨h.1, h.2, rfl⟩⟩
  · exact ⟨nul, false, by simp [tls, h], fun h => by cases h⟩
theorem specAdd_at (a b : Nat → Int) (w : World) : Calls Try.prog 107 #[.agg (vec 4 a), .agg (vec 4 b)] w fun e w' => e = .returned (tls (okf a && okf b) (add a b)) ∧ Below w.heap.size w w' := by
  have h := specSurdAdd_sv (a 0) (a 1) (a 2) (a 3) (b 0) (b 1) (b 2) (b 3) w
  have e : (if okf a && okf b then tell (add a b 0) (add a b 1) (add a b 2) (add a b 3) else .tuple #[sv 0 0 0 0, .bool false]) = tls (okf a && okf b) (add a b) := by
    rw [tell_tls]
    cases okf a && okf b <;> rfl
  rw [← e]; exact h
end Go.Proofs.Ytdgbpdeimckbfaa
