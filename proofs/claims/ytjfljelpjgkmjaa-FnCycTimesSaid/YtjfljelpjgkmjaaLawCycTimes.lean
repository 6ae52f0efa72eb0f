/-
  The walk of the law FnCycTimes.
-/
import Derived.Test.YtjfljelpjgkmjaaLawCycBase
namespace Go.Proofs.Ytjfljelpjgkmjaa
set_option maxRecDepth 20000
open Go.ChangeShapes Go.WideShapes Go.ChangeAt Go.RowKit
set_option linter.unusedVariables false
set_option linter.unusedSimpArgs false

set_option maxHeartbeats 4000000 in
theorem lawFnCycTimes_walk (v : Value) (w : World) (h : CodeAt w v) : Calls Try.prog 7 #[v] w (Fine w) := by
  have D := Lib.hid (drawCycTimes v w h)
  obtain ⟨pa, pn, pc, rfl, hpn⟩ := code_length h
  clear h
  by_cases hbig : 1048576 < pn
  · have hb : (1048576 : Int) < (pn : Int) := by omega
    go_enter Try.func7, Try.ntmps7
    go_wp2_with fail
    go_ret
    exact fine_same ⟨rfl, rfl⟩
  have hb : ¬ (1048576 : Int) < (pn : Int) := by omega
  go_enter Try.func7, Try.ntmps7
  go_wp2_with fail
  refine D.out.mono ?_; rintro e w1 ⟨a, b, rfl, hL⟩
  clear D
  have hS6 := pair_first w1 25
  have hS7 := pair_second w1 a 25
  go_upto_region 4 with (first | (refine store_row (g := w1.heap.size) rfl rfl rfl rfl hS6 info_cyc ?_) | (refine store_row (g := w1.heap.size + 1) rfl rfl rfl rfl hS7 info_cyc ?_))
  clear hS6 hS7
  show Code.wp _ _ _ _ (two w1 a b 25)
  have r_a := two_first w1 a b 25
  have r_b := two_second w1 a b 25
  replace hL := two_below hL a b 25
  generalize w1.heap.size = g_a at *
  generalize two w1 a b 25 = W1 at *
  obtain ⟨c, v, SP, IM, hk⟩ := know_CycTimes a b
  go_wp2_with (first | (refine load_row rfl rfl rfl r_a Try.underlying25 rfl info_cyc ?_) | (refine load_row rfl rfl rfl r_b Try.underlying25 rfl info_cyc ?_))
  refine (IM _).mono ?_; rintro e w3 ⟨rfl, hb3⟩
  replace r_a := r_a.below hb3
  replace r_b := r_b.below hb3
  replace hL := below_next hL hb3
  clear hb3 IM
  go_upto_region 5 with (refine store_row rfl rfl rfl rfl (RowAt.newAt zero8 rfl) info_cyc ?_)
  show Code.wp _ _ _ _ (sole w3 (c) 25)
  replace r_a := sole_keep r_a (c) 25
  replace r_b := sole_keep r_b (c) 25
  have r_out := sole_first w3 (c) 25
  replace hL := sole_below hL (c) 25
  generalize w3.heap.size = g_out at *
  generalize sole w3 (c) 25 = W3 at *
  go_wp2_with (first | (refine load_row rfl rfl rfl r_a Try.underlying25 rfl info_cyc ?_) | (refine load_row rfl rfl rfl r_b Try.underlying25 rfl info_cyc ?_))
  refine (SP _).mono ?_; rintro e w4 ⟨rfl, hb4⟩
  replace r_a := r_a.below hb4
  replace r_b := r_b.below hb4
  replace r_out := r_out.below hb4
  replace hL := below_next hL hb4
  clear hb4 SP
  go_upto_region 6 with (refine store_row rfl rfl rfl rfl (RowAt.newAt zero8 rfl) info_cyc ?_)
  show Code.wp _ _ _ _ (sole w4 (c) 25)
  replace r_a := sole_keep r_a (c) 25
  replace r_b := sole_keep r_b (c) 25
  replace r_out := sole_keep r_out (c) 25
  have r_want := sole_first w4 (c) 25
  replace hL := sole_below hL (c) 25
  generalize w4.heap.size = g_want at *
  generalize sole w4 (c) 25 = W4 at *
  have p0 := r_out.cell (k := 0) (by omega)
  have q0 := r_want.cell (k := 0) (by omega)
  have p1 := r_out.cell (k := 1) (by omega)
  have q1 := r_want.cell (k := 1) (by omega)
  have p2 := r_out.cell (k := 2) (by omega)
  have q2 := r_want.cell (k := 2) (by omega)
  have p3 := r_out.cell (k := 3) (by omega)
  have q3 := r_want.cell (k := 3) (by omega)
  have p4 := r_out.cell (k := 4) (by omega)
  have q4 := r_want.cell (k := 4) (by omega)
  have p5 := r_out.cell (k := 5) (by omega)
  have q5 := r_want.cell (k := 5) (by omega)
  have p6 := r_out.cell (k := 6) (by omega)
  have q6 := r_want.cell (k := 6) (by omega)
  have p7 := r_out.cell (k := 7) (by omega)
  have q7 := r_want.cell (k := 7) (by omega)
  have EQ := fun w => eq_cells c w
  cases v
  · clear hk
    go_wp2_with fail
    go_ret
    exact ⟨rfl, hL⟩
  obtain ⟨va, vb, vc, hc⟩ := hk rfl
  have HC := Lib.hid hc; clear hc hk
  go_upto_region 8 with fail
  clear EQ p0 q0 p1 q1 p2 q2 p3 q3 p4 q4 p5 q5 p6 q6 p7 q7 r_want
  have K1 : ∀ w, Calls Try.prog 33 #[.agg (vec 8 b), .agg (vec 8 a)] w fun e w' => e = .returned (.tuple #[.agg (vec 8 c), .bool true]) ∧ Below w.heap.size w w' := fun w => by
    rw [← ans_is (v := okc b && okc a) (c := prd b a) (d := c) (fun j hj => by rw [HC.out]; exact prd_comm a b j hj) (by simp [va, vb, vc])]; exact CycTimes_any b a w
  obtain ⟨m, v1, -, K2, h_m⟩ := know_CycMirror c
  obtain ⟨u, v2, -, K3, h_u⟩ := know_CycMirror a
  obtain ⟨s, v3, -, K4, h_s⟩ := know_CycMirror b
  obtain ⟨z, v4, -, K5, h_z⟩ := know_CycTimes u s
  have hE : v1 = true → v2 = true → v3 = true → v4 = true → Eight z m := fun e1 e2 e3 e4 j hj => by
    rw [(h_m e1).2.2, (h_z e4).2.2.2, (h_u e2).2.2, (h_s e3).2.2, HC.out]; exact (mir_prd a b j hj).symm
  clear h_m h_u h_s h_z va vb vc
  go_wp2_with (first | (refine load_row rfl rfl rfl r_b Try.underlying25 rfl info_cyc ?_) | (refine load_row rfl rfl rfl r_a Try.underlying25 rfl info_cyc ?_))
  refine (K1 _).mono ?_; rintro e w5 ⟨rfl, hb5⟩
  replace r_a := r_a.below hb5
  replace r_b := r_b.below hb5
  replace r_out := r_out.below hb5
  replace hL := below_next hL hb5
  clear hb5 K1
  go_upto_region 9 with (refine store_row rfl rfl rfl rfl (RowAt.newAt zero8 rfl) info_cyc ?_)
  show Code.wp _ _ _ _ (sole w5 (c) 25)
  replace r_a := sole_keep r_a (c) 25
  replace r_b := sole_keep r_b (c) 25
  replace r_out := sole_keep r_out (c) 25
  have r_x := sole_first w5 (c) 25
  replace hL := sole_below hL (c) 25
  generalize w5.heap.size = g_x at *
  generalize sole w5 (c) 25 = W5 at *
  go_wp2_with ((refine load_row rfl rfl rfl r_out Try.underlying25 rfl info_cyc ?_))
  refine (K2 _).mono ?_; rintro e w6 ⟨rfl, hb6⟩
  replace r_a := r_a.below hb6
  replace r_b := r_b.below hb6
  replace r_out := r_out.below hb6
  replace r_x := r_x.below hb6
  replace hL := below_next hL hb6
  clear hb6 K2
  go_upto_region 10 with (refine store_row rfl rfl rfl rfl (RowAt.newAt zero8 rfl) info_cyc ?_)
  show Code.wp _ _ _ _ (sole w6 (m) 25)
  replace r_a := sole_keep r_a (m) 25
  replace r_b := sole_keep r_b (m) 25
  replace r_out := sole_keep r_out (m) 25
  replace r_x := sole_keep r_x (m) 25
  have r_m := sole_first w6 (m) 25
  replace hL := sole_below hL (m) 25
  generalize w6.heap.size = g_m at *
  generalize sole w6 (m) 25 = W6 at *
  go_wp2_with ((refine load_row rfl rfl rfl r_a Try.underlying25 rfl info_cyc ?_))
  refine (K3 _).mono ?_; rintro e w7 ⟨rfl, hb7⟩
  replace r_a := r_a.below hb7
  replace r_b := r_b.below hb7
  replace r_out := r_out.below hb7
  replace r_x := r_x.below hb7
  replace r_m := r_m.below hb7
  replace hL := below_next hL hb7
  clear hb7 K3
  go_upto_region 11 with (refine store_row rfl rfl rfl rfl (RowAt.newAt zero8 rfl) info_cyc ?_)
  show Code.wp _ _ _ _ (sole w7 (u) 25)
  replace r_a := sole_keep r_a (u) 25
  replace r_b := sole_keep r_b (u) 25
  replace r_out := sole_keep r_out (u) 25
  replace r_x := sole_keep r_x (u) 25
  replace r_m := sole_keep r_m (u) 25
  have r_u := sole_first w7 (u) 25
  replace hL := sole_below hL (u) 25
  generalize w7.heap.size = g_u at *
  generalize sole w7 (u) 25 = W7 at *
  go_wp2_with ((refine load_row rfl rfl rfl r_b Try.underlying25 rfl info_cyc ?_))
  refine (K4 _).mono ?_; rintro e w8 ⟨rfl, hb8⟩
  replace r_a := r_a.below hb8
  replace r_b := r_b.below hb8
  replace r_out := r_out.below hb8
  replace r_x := r_x.below hb8
  replace r_m := r_m.below hb8
  replace r_u := r_u.below hb8
  replace hL := below_next hL hb8
  clear hb8 K4
  go_upto_region 12 with (refine store_row rfl rfl rfl rfl (RowAt.newAt zero8 rfl) info_cyc ?_)
  show Code.wp _ _ _ _ (sole w8 (s) 25)
  replace r_a := sole_keep r_a (s) 25
  replace r_b := sole_keep r_b (s) 25
  replace r_out := sole_keep r_out (s) 25
  replace r_x := sole_keep r_x (s) 25
  replace r_m := sole_keep r_m (s) 25
  replace r_u := sole_keep r_u (s) 25
  have r_vv := sole_first w8 (s) 25
  replace hL := sole_below hL (s) 25
  generalize w8.heap.size = g_vv at *
  generalize sole w8 (s) 25 = W8 at *
  go_wp2_with (first | (refine load_row rfl rfl rfl r_u Try.underlying25 rfl info_cyc ?_) | (refine load_row rfl rfl rfl r_vv Try.underlying25 rfl info_cyc ?_))
  refine (K5 _).mono ?_; rintro e w9 ⟨rfl, hb9⟩
  replace r_a := r_a.below hb9
  replace r_b := r_b.below hb9
  replace r_out := r_out.below hb9
  replace r_x := r_x.below hb9
  replace r_m := r_m.below hb9
  replace r_u := r_u.below hb9
  replace r_vv := r_vv.below hb9
  replace hL := below_next hL hb9
  clear hb9 K5
  go_upto_region 13 with (refine store_row rfl rfl rfl rfl (RowAt.newAt zero8 rfl) info_cyc ?_)
  show Code.wp _ _ _ _ (sole w9 (z) 25)
  replace r_a := sole_keep r_a (z) 25
  replace r_b := sole_keep r_b (z) 25
  replace r_out := sole_keep r_out (z) 25
  replace r_x := sole_keep r_x (z) 25
  replace r_m := sole_keep r_m (z) 25
  replace r_u := sole_keep r_u (z) 25
  replace r_vv := sole_keep r_vv (z) 25
  have r_z := sole_first w9 (z) 25
  replace hL := sole_below hL (z) 25
  generalize w9.heap.size = g_z at *
  generalize sole w9 (z) 25 = W9 at *
  have x0 := r_x.cell (k := 0) (by omega)
  have x1 := r_x.cell (k := 1) (by omega)
  have x2 := r_x.cell (k := 2) (by omega)
  have x3 := r_x.cell (k := 3) (by omega)
  have x4 := r_x.cell (k := 4) (by omega)
  have x5 := r_x.cell (k := 5) (by omega)
  have x6 := r_x.cell (k := 6) (by omega)
  have x7 := r_x.cell (k := 7) (by omega)
  have o0 := r_out.cell (k := 0) (by omega)
  have o1 := r_out.cell (k := 1) (by omega)
  have o2 := r_out.cell (k := 2) (by omega)
  have o3 := r_out.cell (k := 3) (by omega)
  have o4 := r_out.cell (k := 4) (by omega)
  have o5 := r_out.cell (k := 5) (by omega)
  have o6 := r_out.cell (k := 6) (by omega)
  have o7 := r_out.cell (k := 7) (by omega)
  have m0 := r_m.cell (k := 0) (by omega)
  have m1 := r_m.cell (k := 1) (by omega)
  have m2 := r_m.cell (k := 2) (by omega)
  have m3 := r_m.cell (k := 3) (by omega)
  have m4 := r_m.cell (k := 4) (by omega)
  have m5 := r_m.cell (k := 5) (by omega)
  have m6 := r_m.cell (k := 6) (by omega)
  have m7 := r_m.cell (k := 7) (by omega)
  have EQ0 := fun w => eq_cells c w
  have EQ1 := fun w => eq_cells m w
  have HE := Lib.hid hE; clear hE
  cases v1 <;> cases v2 <;> cases v3 <;> cases v4
  rotate_left 15
  · have r_z := r_z.same (HE.out rfl rfl rfl rfl)
    have z0 := r_z.cell (k := 0) (by omega)
    have z1 := r_z.cell (k := 1) (by omega)
    have z2 := r_z.cell (k := 2) (by omega)
    have z3 := r_z.cell (k := 3) (by omega)
    have z4 := r_z.cell (k := 4) (by omega)
    have z5 := r_z.cell (k := 5) (by omega)
    have z6 := r_z.cell (k := 6) (by omega)
    have z7 := r_z.cell (k := 7) (by omega)
    clear HE
    go_wp2_with fail
    go_ret
    exact ⟨rfl, hL⟩
  all_goals
    clear HE
    go_wp2_with fail
    go_ret
    exact ⟨rfl, hL⟩
end Go.Proofs.Ytjfljelpjgkmjaa
