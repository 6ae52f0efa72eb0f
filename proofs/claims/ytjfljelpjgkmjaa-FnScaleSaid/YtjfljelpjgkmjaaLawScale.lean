/-
  The walk of the law FnScale.
-/
import Derived.Test.YtjfljelpjgkmjaaLawCycBase
namespace Go.Proofs.Ytjfljelpjgkmjaa
set_option maxRecDepth 20000
open Go.ChangeShapes Go.WideShapes Go.ChangeAt Go.RowKit
set_option linter.unusedVariables false
set_option linter.unusedSimpArgs false

set_option maxHeartbeats 4000000 in
theorem lawFnScale_walk (v : Value) (w : World) (h : CodeAt w v) : Calls Try.prog 11 #[v] w (Fine w) := by
  have D := Lib.hid (drawCycScale v w h)
  obtain ⟨pa, pn, pc, rfl, hpn⟩ := code_length h
  clear h
  by_cases hbig : 1048576 < pn
  · have hb : (1048576 : Int) < (pn : Int) := by omega
    go_enter Try.func11, Try.ntmps11
    go_wp2_with fail
    go_ret
    exact fine_same ⟨rfl, rfl⟩
  have hb : ¬ (1048576 : Int) < (pn : Int) := by omega
  go_enter Try.func11, Try.ntmps11
  go_wp2_with fail
  refine D.out.mono ?_; rintro e w1 ⟨a, n, rfl, n0, n1, hL⟩
  clear D
  go_upto_region 4 with (refine store_row rfl rfl rfl rfl (RowAt.newAt zero8 rfl) info_cyc ?_)
  show Code.wp _ _ _ _ (sole w1 a 25)
  have r_a := sole_first w1 a 25
  replace hL := sole_below hL a 25
  generalize w1.heap.size = g_a at *
  generalize sole w1 a 25 = W1 at *
  obtain ⟨c, v, SP, IM, hk⟩ := know_CycScale a n
  go_wp2_with ((refine load_row rfl rfl rfl r_a Try.underlying25 rfl info_cyc ?_))
  refine (IM _).mono ?_; rintro e w3 ⟨rfl, hb3⟩
  replace r_a := r_a.below hb3
  replace hL := below_next hL hb3
  clear hb3 IM
  go_upto_region 5 with (refine store_row rfl rfl rfl rfl (RowAt.newAt zero8 rfl) info_cyc ?_)
  show Code.wp _ _ _ _ (sole w3 (c) 25)
  replace r_a := sole_keep r_a (c) 25
  have r_out := sole_first w3 (c) 25
  replace hL := sole_below hL (c) 25
  generalize w3.heap.size = g_out at *
  generalize sole w3 (c) 25 = W3 at *
  go_wp2_with ((refine load_row rfl rfl rfl r_a Try.underlying25 rfl info_cyc ?_))
  refine (SP _).mono ?_; rintro e w4 ⟨rfl, hb4⟩
  replace r_a := r_a.below hb4
  replace r_out := r_out.below hb4
  replace hL := below_next hL hb4
  clear hb4 SP
  go_upto_region 6 with (refine store_row rfl rfl rfl rfl (RowAt.newAt zero8 rfl) info_cyc ?_)
  show Code.wp _ _ _ _ (sole w4 (c) 25)
  replace r_a := sole_keep r_a (c) 25
  replace r_out := sole_keep r_out (c) 25
  have r_want := sole_first w4 (c) 25
  replace hL := sole_below hL (c) 25
  generalize w4.heap.size = g_want at *
  generalize sole w4 (c) 25 = W4 at *
  have p0 := r_out.cell (k := 0) (by omega)
  have q0 := r_want.cell (k := 0) (by omega)
  have p1 := r_out.cell (k := 1) (by omega)
  have q1 := r_want.cell (k := 1) (by omega)
  have p2 := r_out.cell (k := 2) (by omega)
  have q2 := r_want.cell (k := 2) (by omega)
  have p3 := r_out.cell (k := 3) (by omega)
  have q3 := r_want.cell (k := 3) (by omega)
  have p4 := r_out.cell (k := 4) (by omega)
  have q4 := r_want.cell (k := 4) (by omega)
  have p5 := r_out.cell (k := 5) (by omega)
  have q5 := r_want.cell (k := 5) (by omega)
  have p6 := r_out.cell (k := 6) (by omega)
  have q6 := r_want.cell (k := 6) (by omega)
  have p7 := r_out.cell (k := 7) (by omega)
  have q7 := r_want.cell (k := 7) (by omega)
  have EQ := fun w => eq_cells c w
  cases v
  · clear hk
    go_wp2_with fail
    go_ret
    exact ⟨rfl, hL⟩
  obtain ⟨va, vc, hc⟩ := hk rfl
  have HC := Lib.hid hc; clear hc hk
  go_upto_region 8 with fail
  clear EQ p0 q0 p1 q1 p2 q2 p3 q3 p4 q4 p5 q5 p6 q6 p7 q7 r_want
  have e1 : IntKind.i64.wrap (n + 1) = n + 1 := by rw [IntKind.wrap_i64]; omega
  obtain ⟨x, v1, -, K1, h_x⟩ := know_CycScale a (n + 1)
  obtain ⟨y, v2, -, K2, h_y⟩ := know_CycAdd c a
  have hE : v1 = true → v2 = true → Eight y x := fun e1 e2 j hj => by
    rw [(h_y e2).2.2.2, (h_x e1).2.2, HC.out]; simp only [add, scl]; rw [Int.add_mul, Int.one_mul]
  clear h_x h_y va vc
  go_wp2_with ((refine load_row rfl rfl rfl r_a Try.underlying25 rfl info_cyc ?_))
  refine (K1 _).mono ?_; rintro e w5 ⟨rfl, hb5⟩
  replace r_a := r_a.below hb5
  replace r_out := r_out.below hb5
  replace hL := below_next hL hb5
  clear hb5 K1
  go_upto_region 9 with (refine store_row rfl rfl rfl rfl (RowAt.newAt zero8 rfl) info_cyc ?_)
  show Code.wp _ _ _ _ (sole w5 (x) 25)
  replace r_a := sole_keep r_a (x) 25
  replace r_out := sole_keep r_out (x) 25
  have r_x := sole_first w5 (x) 25
  replace hL := sole_below hL (x) 25
  generalize w5.heap.size = g_x at *
  generalize sole w5 (x) 25 = W5 at *
  go_wp2_with (first | (refine load_row rfl rfl rfl r_out Try.underlying25 rfl info_cyc ?_) | (refine load_row rfl rfl rfl r_a Try.underlying25 rfl info_cyc ?_))
  refine (K2 _).mono ?_; rintro e w6 ⟨rfl, hb6⟩
  replace r_a := r_a.below hb6
  replace r_out := r_out.below hb6
  replace r_x := r_x.below hb6
  replace hL := below_next hL hb6
  clear hb6 K2
  go_upto_region 10 with (refine store_row rfl rfl rfl rfl (RowAt.newAt zero8 rfl) info_cyc ?_)
  show Code.wp _ _ _ _ (sole w6 (y) 25)
  replace r_a := sole_keep r_a (y) 25
  replace r_out := sole_keep r_out (y) 25
  replace r_x := sole_keep r_x (y) 25
  have r_y := sole_first w6 (y) 25
  replace hL := sole_below hL (y) 25
  generalize w6.heap.size = g_y at *
  generalize sole w6 (y) 25 = W6 at *
  have x0 := r_x.cell (k := 0) (by omega)
  have x1 := r_x.cell (k := 1) (by omega)
  have x2 := r_x.cell (k := 2) (by omega)
  have x3 := r_x.cell (k := 3) (by omega)
  have x4 := r_x.cell (k := 4) (by omega)
  have x5 := r_x.cell (k := 5) (by omega)
  have x6 := r_x.cell (k := 6) (by omega)
  have x7 := r_x.cell (k := 7) (by omega)
  have EQ0 := fun w => eq_cells x w
  have HE := Lib.hid hE; clear hE
  cases v1 <;> cases v2
  rotate_left 3
  · have r_y := r_y.same (HE.out rfl rfl)
    have y0 := r_y.cell (k := 0) (by omega)
    have y1 := r_y.cell (k := 1) (by omega)
    have y2 := r_y.cell (k := 2) (by omega)
    have y3 := r_y.cell (k := 3) (by omega)
    have y4 := r_y.cell (k := 4) (by omega)
    have y5 := r_y.cell (k := 5) (by omega)
    have y6 := r_y.cell (k := 6) (by omega)
    have y7 := r_y.cell (k := 7) (by omega)
    clear HE
    go_wp2_with fail
    go_ret
    exact ⟨rfl, hL⟩
  all_goals
    clear HE
    go_wp2_with fail
    go_ret
    exact ⟨rfl, hL⟩
end Go.Proofs.Ytjfljelpjgkmjaa
