/-
  The walk of the law FnCycLess.
-/
import Derived.Test.YtjfljelpjgkmjaaLawCycBase
namespace Go.Proofs.Ytjfljelpjgkmjaa
set_option maxRecDepth 20000
open Go.ChangeShapes Go.WideShapes Go.ChangeAt Go.RowKit
set_option linter.unusedVariables false
set_option linter.unusedSimpArgs false

set_option maxHeartbeats 4000000 in
theorem lawFnCycLess_walk (v : Value) (w : World) (h : CodeAt w v) : Calls Try.prog 6 #[v] w (Fine w) := by
  have D := Lib.hid (drawCycLess v w h)
  obtain ⟨pa, pn, pc, rfl, hpn⟩ := code_length h
  clear h
  by_cases hbig : 1048576 < pn
  · have hb : (1048576 : Int) < (pn : Int) := by omega
    go_enter Try.func6, Try.ntmps6
    go_wp2_with fail
    go_ret
    exact fine_same ⟨rfl, rfl⟩
  have hb : ¬ (1048576 : Int) < (pn : Int) := by omega
  go_enter Try.func6, Try.ntmps6
  go_wp2_with fail
  refine D.out.mono ?_; rintro e w1 ⟨a, b, rfl, hL⟩
  clear D
  have hS6 := pair_first w1 25
  have hS7 := pair_second w1 a 25
  go_upto_region 4 with (first | (refine store_row (g := w1.heap.size) rfl rfl rfl rfl hS6 info_cyc ?_) | (refine store_row (g := w1.heap.size + 1) rfl rfl rfl rfl hS7 info_cyc ?_))
  clear hS6 hS7
  show Code.wp _ _ _ _ (two w1 a b 25)
  have r_a := two_first w1 a b 25
  have r_b := two_second w1 a b 25
  replace hL := two_below hL a b 25
  generalize w1.heap.size = g_a at *
  generalize two w1 a b 25 = W1 at *
  obtain ⟨c, v, SP, IM, hk⟩ := know_CycLess a b
  go_wp2_with (first | (refine load_row rfl rfl rfl r_a Try.underlying25 rfl info_cyc ?_) | (refine load_row rfl rfl rfl r_b Try.underlying25 rfl info_cyc ?_))
  refine (IM _).mono ?_; rintro e w3 ⟨rfl, hb3⟩
  replace r_a := r_a.below hb3
  replace r_b := r_b.below hb3
  replace hL := below_next hL hb3
  clear hb3 IM
  go_upto_region 5 with (refine store_row rfl rfl rfl rfl (RowAt.newAt zero8 rfl) info_cyc ?_)
  show Code.wp _ _ _ _ (sole w3 (c) 25)
  replace r_a := sole_keep r_a (c) 25
  replace r_b := sole_keep r_b (c) 25
  have r_out := sole_first w3 (c) 25
  replace hL := sole_below hL (c) 25
  generalize w3.heap.size = g_out at *
  generalize sole w3 (c) 25 = W3 at *
  go_wp2_with (first | (refine load_row rfl rfl rfl r_a Try.underlying25 rfl info_cyc ?_) | (refine load_row rfl rfl rfl r_b Try.underlying25 rfl info_cyc ?_))
  refine (SP _).mono ?_; rintro e w4 ⟨rfl, hb4⟩
  replace r_a := r_a.below hb4
  replace r_b := r_b.below hb4
  replace r_out := r_out.below hb4
  replace hL := below_next hL hb4
  clear hb4 SP
  go_upto_region 6 with (refine store_row rfl rfl rfl rfl (RowAt.newAt zero8 rfl) info_cyc ?_)
  show Code.wp _ _ _ _ (sole w4 (c) 25)
  replace r_a := sole_keep r_a (c) 25
  replace r_b := sole_keep r_b (c) 25
  replace r_out := sole_keep r_out (c) 25
  have r_want := sole_first w4 (c) 25
  replace hL := sole_below hL (c) 25
  generalize w4.heap.size = g_want at *
  generalize sole w4 (c) 25 = W4 at *
  have p0 := r_out.cell (k := 0) (by omega)
  have q0 := r_want.cell (k := 0) (by omega)
  have p1 := r_out.cell (k := 1) (by omega)
  have q1 := r_want.cell (k := 1) (by omega)
  have p2 := r_out.cell (k := 2) (by omega)
  have q2 := r_want.cell (k := 2) (by omega)
  have p3 := r_out.cell (k := 3) (by omega)
  have q3 := r_want.cell (k := 3) (by omega)
  have p4 := r_out.cell (k := 4) (by omega)
  have q4 := r_want.cell (k := 4) (by omega)
  have p5 := r_out.cell (k := 5) (by omega)
  have q5 := r_want.cell (k := 5) (by omega)
  have p6 := r_out.cell (k := 6) (by omega)
  have q6 := r_want.cell (k := 6) (by omega)
  have p7 := r_out.cell (k := 7) (by omega)
  have q7 := r_want.cell (k := 7) (by omega)
  have EQ := fun w => eq_cells c w
  cases v
  · clear hk
    go_wp2_with fail
    go_ret
    exact ⟨rfl, hL⟩
  obtain ⟨va, vb, vc, hc⟩ := hk rfl
  have HC := Lib.hid hc; clear hc hk
  go_upto_region 8 with fail
  clear EQ p0 q0 p1 q1 p2 q2 p3 q3 p4 q4 p5 q5 p6 q6 p7 q7 r_want
  obtain ⟨d, hd⟩ : ∃ d, d = scl (-1) c := ⟨_, rfl⟩
  have vd : okc d = true := by rw [hd]; exact okc_scl vc
  have K1 : ∀ w, Calls Try.prog 28 #[.agg (vec 8 c), .agg (vec 8 b)] w fun e w' => e = .returned (.tuple #[.agg (vec 8 a), .bool true]) ∧ Below w.heap.size w w' := fun w => by
    rw [← ans_is (v := okc c && okc b) (c := add c b) (d := a) (fun j _ => by rw [HC.out]; simp only [add, sub]; omega) (by simp [va, vb, vc])]; exact CycAdd_any c b w
  have K2 : ∀ w, Calls Try.prog 37 #[.agg (vec 8 b), .agg (vec 8 a)] w fun e w' => e = .returned (.tuple #[.agg (vec 8 d), .bool true]) ∧ Below w.heap.size w w' := fun w => by
    rw [← ans_is (v := okc b && okc a) (c := sub b a) (d := d) (fun j _ => by rw [hd, HC.out]; simp only [sub, scl]; omega) (by simp [va, vb, vd])]; exact CycLess_any b a w
  have K3 : ∀ w, Calls Try.prog 27 #[.agg (vec 8 c), .int .i64 (-1)] w fun e w' => e = .returned (.tuple #[.agg (vec 8 d), .bool true]) ∧ Below w.heap.size w w' := fun w => by
    rw [← ans_yes vd, hd]; exact CycScale_yes c (-1) vc (by omega) w
  clear hd vd va vb vc
  go_wp2_with (first | (refine load_row rfl rfl rfl r_out Try.underlying25 rfl info_cyc ?_) | (refine load_row rfl rfl rfl r_b Try.underlying25 rfl info_cyc ?_))
  refine (K1 _).mono ?_; rintro e w5 ⟨rfl, hb5⟩
  replace r_a := r_a.below hb5
  replace r_b := r_b.below hb5
  replace r_out := r_out.below hb5
  replace hL := below_next hL hb5
  clear hb5 K1
  go_upto_region 9 with (refine store_row rfl rfl rfl rfl (RowAt.newAt zero8 rfl) info_cyc ?_)
  show Code.wp _ _ _ _ (sole w5 (a) 25)
  replace r_a := sole_keep r_a (a) 25
  replace r_b := sole_keep r_b (a) 25
  replace r_out := sole_keep r_out (a) 25
  have r_x := sole_first w5 (a) 25
  replace hL := sole_below hL (a) 25
  generalize w5.heap.size = g_x at *
  generalize sole w5 (a) 25 = W5 at *
  go_wp2_with (first | (refine load_row rfl rfl rfl r_b Try.underlying25 rfl info_cyc ?_) | (refine load_row rfl rfl rfl r_a Try.underlying25 rfl info_cyc ?_))
  refine (K2 _).mono ?_; rintro e w6 ⟨rfl, hb6⟩
  replace r_a := r_a.below hb6
  replace r_b := r_b.below hb6
  replace r_out := r_out.below hb6
  replace r_x := r_x.below hb6
  replace hL := below_next hL hb6
  clear hb6 K2
  go_upto_region 10 with (refine store_row rfl rfl rfl rfl (RowAt.newAt zero8 rfl) info_cyc ?_)
  show Code.wp _ _ _ _ (sole w6 (d) 25)
  replace r_a := sole_keep r_a (d) 25
  replace r_b := sole_keep r_b (d) 25
  replace r_out := sole_keep r_out (d) 25
  replace r_x := sole_keep r_x (d) 25
  have r_y := sole_first w6 (d) 25
  replace hL := sole_below hL (d) 25
  generalize w6.heap.size = g_y at *
  generalize sole w6 (d) 25 = W6 at *
  go_wp2_with ((refine load_row rfl rfl rfl r_out Try.underlying25 rfl info_cyc ?_))
  refine (K3 _).mono ?_; rintro e w7 ⟨rfl, hb7⟩
  replace r_a := r_a.below hb7
  replace r_b := r_b.below hb7
  replace r_out := r_out.below hb7
  replace r_x := r_x.below hb7
  replace r_y := r_y.below hb7
  replace hL := below_next hL hb7
  clear hb7 K3
  go_upto_region 11 with (refine store_row rfl rfl rfl rfl (RowAt.newAt zero8 rfl) info_cyc ?_)
  show Code.wp _ _ _ _ (sole w7 (d) 25)
  replace r_a := sole_keep r_a (d) 25
  replace r_b := sole_keep r_b (d) 25
  replace r_out := sole_keep r_out (d) 25
  replace r_x := sole_keep r_x (d) 25
  replace r_y := sole_keep r_y (d) 25
  have r_z := sole_first w7 (d) 25
  replace hL := sole_below hL (d) 25
  generalize w7.heap.size = g_z at *
  generalize sole w7 (d) 25 = W7 at *
  have x0 := r_x.cell (k := 0) (by omega)
  have x1 := r_x.cell (k := 1) (by omega)
  have x2 := r_x.cell (k := 2) (by omega)
  have x3 := r_x.cell (k := 3) (by omega)
  have x4 := r_x.cell (k := 4) (by omega)
  have x5 := r_x.cell (k := 5) (by omega)
  have x6 := r_x.cell (k := 6) (by omega)
  have x7 := r_x.cell (k := 7) (by omega)
  have a0 := r_a.cell (k := 0) (by omega)
  have a1 := r_a.cell (k := 1) (by omega)
  have a2 := r_a.cell (k := 2) (by omega)
  have a3 := r_a.cell (k := 3) (by omega)
  have a4 := r_a.cell (k := 4) (by omega)
  have a5 := r_a.cell (k := 5) (by omega)
  have a6 := r_a.cell (k := 6) (by omega)
  have a7 := r_a.cell (k := 7) (by omega)
  have y0 := r_y.cell (k := 0) (by omega)
  have y1 := r_y.cell (k := 1) (by omega)
  have y2 := r_y.cell (k := 2) (by omega)
  have y3 := r_y.cell (k := 3) (by omega)
  have y4 := r_y.cell (k := 4) (by omega)
  have y5 := r_y.cell (k := 5) (by omega)
  have y6 := r_y.cell (k := 6) (by omega)
  have y7 := r_y.cell (k := 7) (by omega)
  have z0 := r_z.cell (k := 0) (by omega)
  have z1 := r_z.cell (k := 1) (by omega)
  have z2 := r_z.cell (k := 2) (by omega)
  have z3 := r_z.cell (k := 3) (by omega)
  have z4 := r_z.cell (k := 4) (by omega)
  have z5 := r_z.cell (k := 5) (by omega)
  have z6 := r_z.cell (k := 6) (by omega)
  have z7 := r_z.cell (k := 7) (by omega)
  have EQ0 := fun w => eq_cells a w
  have EQ1 := fun w => eq_cells d w
  go_wp2_with fail
  go_ret
  exact ⟨rfl, hL⟩
end Go.Proofs.Ytjfljelpjgkmjaa
