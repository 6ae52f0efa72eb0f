/-
  The walk of the law FnReal.
-/
import Derived.Test.YtjfljelpjgkmjaaLawCycBase
namespace Go.Proofs.Ytjfljelpjgkmjaa
set_option maxRecDepth 20000
open Go.ChangeShapes Go.WideShapes Go.ChangeAt Go.RowKit
set_option linter.unusedVariables false
set_option linter.unusedSimpArgs false

set_option maxHeartbeats 4000000 in
theorem lawFnReal_walk (v : Value) (w : World) (h : CodeAt w v) : Calls Try.prog 13 #[v] w (Fine w) := by
  have D := Lib.hid (drawCycReal v w h)
  obtain ⟨pa, pn, pc, rfl, hpn⟩ := code_length h
  clear h
  by_cases hbig : 1048576 < pn
  · have hb : (1048576 : Int) < (pn : Int) := by omega
    go_enter Try.func13, Try.ntmps13
    go_wp2_with fail
    go_ret
    exact fine_same ⟨rfl, rfl⟩
  have hb : ¬ (1048576 : Int) < (pn : Int) := by omega
  go_enter Try.func13, Try.ntmps13
  go_wp2_with fail
  refine D.out.mono ?_; rintro e w1 ⟨a, rfl, hL⟩
  clear D
  go_upto_region 4 with (refine store_row rfl rfl rfl rfl (RowAt.newAt zero8 rfl) info_cyc ?_)
  show Code.wp _ _ _ _ (sole w1 a 25)
  have r_a := sole_first w1 a 25
  replace hL := sole_below hL a 25
  generalize w1.heap.size = g_a at *
  generalize sole w1 a 25 = W1 at *
  obtain ⟨v, SP, IM, hk⟩ := know_CycReal a
  go_wp2_with ((refine load_row rfl rfl rfl r_a Try.underlying25 rfl info_cyc ?_))
  refine (IM _).mono ?_; rintro e w3 ⟨rfl, hb3⟩
  replace r_a := r_a.below hb3
  replace hL := below_next hL hb3
  clear hb3 IM
  go_upto_region 5 with fail
  go_wp2_with ((refine load_row rfl rfl rfl r_a Try.underlying25 rfl info_cyc ?_))
  refine (SP _).mono ?_; rintro e w4 ⟨rfl, hb4⟩
  replace r_a := r_a.below hb4
  replace hL := below_next hL hb4
  clear hb4 SP
  go_upto_region 6 with fail
  cases v
  · clear hk
    go_wp2_with fail
    go_ret
    exact ⟨rfl, hL⟩
  obtain ⟨va, ra⟩ := hk rfl; clear hk
  go_upto_region 8 with fail
  obtain ⟨x, v1, -, K1, h_x⟩ := know_CycTimes a a
  have K2 : ∀ w, Calls Try.prog 32 #[.agg (vec 8 a)] w fun e w' => e = .returned (.tuple #[.agg (vec 8 a), .bool true]) ∧ Below w.heap.size w w' := fun w => by
    rw [← ans_is (v := true) (c := mir a) (d := a) (rl_same ra) (by simp [va])]; exact CycMirror_yes a va w
  have hE : v1 = true → ∀ w, Calls Try.prog 46 #[.agg (vec 8 x)] w fun e w' => e = .returned (.bool true) ∧ Below w.heap.size w w' := fun e1 w => by
    have hy : rl x = true := rl_true (by rw [(h_x e1).2.2.2]; exact prd_both (rl_same ra))
    rw [← hy]; exact CycReal_yes x (h_x e1).2.2.1 w
  clear h_x va ra
  go_wp2_with ((refine load_row rfl rfl rfl r_a Try.underlying25 rfl info_cyc ?_))
  refine (K1 _).mono ?_; rintro e w5 ⟨rfl, hb5⟩
  replace r_a := r_a.below hb5
  replace hL := below_next hL hb5
  clear hb5 K1
  go_upto_region 9 with (refine store_row rfl rfl rfl rfl (RowAt.newAt zero8 rfl) info_cyc ?_)
  show Code.wp _ _ _ _ (sole w5 (x) 25)
  replace r_a := sole_keep r_a (x) 25
  have r_x := sole_first w5 (x) 25
  replace hL := sole_below hL (x) 25
  generalize w5.heap.size = g_x at *
  generalize sole w5 (x) 25 = W5 at *
  go_wp2_with ((refine load_row rfl rfl rfl r_a Try.underlying25 rfl info_cyc ?_))
  refine (K2 _).mono ?_; rintro e w6 ⟨rfl, hb6⟩
  replace r_a := r_a.below hb6
  replace r_x := r_x.below hb6
  replace hL := below_next hL hb6
  clear hb6 K2
  go_upto_region 10 with (refine store_row rfl rfl rfl rfl (RowAt.newAt zero8 rfl) info_cyc ?_)
  show Code.wp _ _ _ _ (sole w6 (a) 25)
  replace r_a := sole_keep r_a (a) 25
  replace r_x := sole_keep r_x (a) 25
  have r_m := sole_first w6 (a) 25
  replace hL := sole_below hL (a) 25
  generalize w6.heap.size = g_m at *
  generalize sole w6 (a) 25 = W6 at *
  have m0 := r_m.cell (k := 0) (by omega)
  have m1 := r_m.cell (k := 1) (by omega)
  have m2 := r_m.cell (k := 2) (by omega)
  have m3 := r_m.cell (k := 3) (by omega)
  have m4 := r_m.cell (k := 4) (by omega)
  have m5 := r_m.cell (k := 5) (by omega)
  have m6 := r_m.cell (k := 6) (by omega)
  have m7 := r_m.cell (k := 7) (by omega)
  have a0 := r_a.cell (k := 0) (by omega)
  have a1 := r_a.cell (k := 1) (by omega)
  have a2 := r_a.cell (k := 2) (by omega)
  have a3 := r_a.cell (k := 3) (by omega)
  have a4 := r_a.cell (k := 4) (by omega)
  have a5 := r_a.cell (k := 5) (by omega)
  have a6 := r_a.cell (k := 6) (by omega)
  have a7 := r_a.cell (k := 7) (by omega)
  have x0 := r_x.cell (k := 0) (by omega)
  have x1 := r_x.cell (k := 1) (by omega)
  have x2 := r_x.cell (k := 2) (by omega)
  have x3 := r_x.cell (k := 3) (by omega)
  have x4 := r_x.cell (k := 4) (by omega)
  have x5 := r_x.cell (k := 5) (by omega)
  have x6 := r_x.cell (k := 6) (by omega)
  have x7 := r_x.cell (k := 7) (by omega)
  have EQ0 := fun w => eq_cells a w
  have HE := Lib.hid hE; clear hE
  cases v1
  · clear HE
    go_wp2_with fail
    go_ret
    exact ⟨rfl, hL⟩
  have R := HE.out rfl
  clear HE
  go_wp2_with fail
  refine (R _).mono ?_; rintro e w9 ⟨rfl, hb9⟩
  have hL9 := below_next hL hb9
  go_wp2_with fail
  go_ret
  exact ⟨rfl, hL9⟩
end Go.Proofs.Ytjfljelpjgkmjaa
