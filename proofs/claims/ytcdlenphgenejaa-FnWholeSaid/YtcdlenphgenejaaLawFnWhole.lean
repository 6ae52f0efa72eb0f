/-
  The walk of the law FnWhole.
-/
import Derived.Test.YtcdlenphgenejaaLawSurdBase
namespace Go.Proofs.Ytcdlenphgenejaa
set_option maxRecDepth 20000
open Go.ChangeShapes Go.WideShapes Go.ChangeAt Go.RowKit
set_option linter.unusedVariables false
set_option linter.unusedSimpArgs false

set_option maxHeartbeats 4000000 in
theorem lawFnWhole_walk (v : Value) (w : World) (h : CodeAt w v) : Calls Try.prog 11 #[v] w (Fine w) := by
  have D := Lib.hid (drawSurdWhole v w h)
  obtain ⟨pa, pn, pc, rfl, hpn⟩ := code_length h
  clear h
  by_cases hbig : 1048576 < pn
  · have hb : (1048576 : Int) < (pn : Int) := by omega
    go_enter Try.func11, Try.ntmps11
    go_wp2_with fail
    go_ret
    exact fine_same ⟨rfl, rfl⟩
  have hb : ¬ (1048576 : Int) < (pn : Int) := by omega
  go_enter Try.func11, Try.ntmps11
  go_wp2_with fail
  refine D.out.mono ?_; rintro e w1 ⟨a, rfl, -, hL⟩
  clear D
  go_upto_region 4 with (refine store_row rfl rfl rfl rfl (RowAt.newAt zero4 rfl) info_surd ?_)
  show Code.wp _ _ _ _ (sole4 w1 a 24)
  have r_a := sole_first4 w1 a 24
  replace hL := sole_below4 hL a 24
  generalize w1.heap.size = g_a at *
  generalize sole4 w1 a 24 = W1 at *
  obtain ⟨z, v, SP, IM, hk⟩ := know_SurdWhole a
  have HK := Lib.hid hk; clear hk
  go_wp2_with ((refine load_row (g := g_a) rfl rfl rfl r_a Try.underlying24 rfl info_surd ?_))
  refine (IM _).mono ?_; rintro e w2 ⟨rfl, hb2⟩
  replace r_a := r_a.below hb2
  replace hL := below_next hL hb2
  clear hb2 IM
  go_upto_region 5 with fail
  go_wp2_with ((refine load_row (g := g_a) rfl rfl rfl r_a Try.underlying24 rfl info_surd ?_))
  refine (SP _).mono ?_; rintro e w3 ⟨rfl, hb3⟩
  replace r_a := r_a.below hb3
  replace hL := below_next hL hb3
  clear hb3 SP
  go_upto_region 6 with fail
  cases v
  · go_wp2_with fail
    go_ret
    exact ⟨rfl, hL⟩
  go_upto_region 8 with fail
  obtain ⟨va, hw⟩ := HK.out rfl
  obtain ⟨b0, b1, b2, b3⟩ := okf_in va
  have z0 : z ≤ 19999999 := wh_less hw.1 (far_high b0 b1 b2 b3)
  have z1 : -20000000 ≤ z := wh_less (far_low b0 b1 b2 b3) hw.2
  obtain ⟨x, v1, K1, k1⟩ : ∃ x v1, (∀ w, Calls Try.prog 31 #[.agg (vec 4 a), .agg #[.int .i64 (4 * z), .int .i64 0, .int .i64 0, .int .i64 0]] w fun e w' => e = .returned (.tuple #[.int .i64 x, .bool v1]) ∧ Below w.heap.size w w') ∧ (v1 = true → 0 ≤ x) := by
    obtain ⟨x, v1, -, K, hv, hx⟩ := know_SurdCompare a (f4 (4 * z) 0 0 0)
    refine ⟨x, v1, K, fun e => ?_⟩
    rw [hx e]
    have e2 : sgf (sub a (f4 (4 * z) 0 0 0)) = sg4 (a 0 - 4 * z) (a 1) (a 2) (a 3) := by simp [sgf, sub, f4]
    rw [e2]; exact hw.1
  obtain ⟨y, v2, K2, k2⟩ : ∃ y v2, (∀ w, Calls Try.prog 31 #[.agg (vec 4 a), .agg #[.int .i64 (4 * z + 4), .int .i64 0, .int .i64 0, .int .i64 0]] w fun e w' => e = .returned (.tuple #[.int .i64 y, .bool v2]) ∧ Below w.heap.size w w') ∧ (v2 = true → y < 0) := by
    obtain ⟨x, v1, -, K, hv, hx⟩ := know_SurdCompare a (f4 (4 * z + 4) 0 0 0)
    refine ⟨x, v1, K, fun e => ?_⟩
    rw [hx e]
    have e2 : sgf (sub a (f4 (4 * z + 4) 0 0 0)) = sg4 (a 0 - 4 * (z + 1)) (a 1) (a 2) (a 3) := by
      rw [show a 0 - 4 * (z + 1) = a 0 - (4 * z + 4) by omega]; simp [sgf, sub, f4]
    rw [e2]; exact hw.2
  have H1 := Lib.hid k1; have H2 := Lib.hid k2
  clear HK hw va b0 b1 b2 b3 k1 k2
  go_wp2_with ((refine load_row (g := g_a) rfl rfl rfl r_a Try.underlying24 rfl info_surd ?_))
  refine (K1 _).mono ?_; rintro e w4 ⟨rfl, hb4⟩
  replace r_a := r_a.below hb4
  replace hL := below_next hL hb4
  clear hb4 K1
  go_upto_region 9 with fail
  go_wp2_with ((refine load_row (g := g_a) rfl rfl rfl r_a Try.underlying24 rfl info_surd ?_))
  refine (K2 _).mono ?_; rintro e w5 ⟨rfl, hb5⟩
  replace r_a := r_a.below hb5
  replace hL := below_next hL hb5
  clear hb5 K2
  go_upto_region 10 with fail
  cases v1 <;> cases v2
  · clear H1 H2
    go_wp2_with fail
    go_ret
    exact ⟨rfl, hL⟩
  · have y0 := H2.out rfl
    clear H1 H2
    go_wp2_with fail
    go_ret
    exact ⟨rfl, hL⟩
  · have x0 := H1.out rfl
    clear H1 H2
    go_wp2_with fail
    go_ret
    exact ⟨rfl, hL⟩
  · have x0 := H1.out rfl
    have y0 := H2.out rfl
    clear H1 H2
    go_wp2_with fail
    go_ret
    exact ⟨rfl, hL⟩
end Go.Proofs.Ytcdlenphgenejaa
