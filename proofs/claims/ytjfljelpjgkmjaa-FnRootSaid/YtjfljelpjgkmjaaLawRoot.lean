/-
  The walk of the law FnRoot.
-/
import Derived.Test.YtjfljelpjgkmjaaLawCycBase
namespace Go.Proofs.Ytjfljelpjgkmjaa
set_option maxRecDepth 20000
open Go.ChangeShapes Go.WideShapes Go.ChangeAt Go.RowKit
set_option linter.unusedVariables false
set_option linter.unusedSimpArgs false

set_option maxHeartbeats 4000000 in
theorem lawFnRoot_walk (v : Value) (w : World) (h : CodeAt w v) : Calls Try.prog 4 #[v] w (Fine w) := by
  have D := Lib.hid (drawRoot v w h)
  obtain ⟨pa, pn, pc, rfl, hpn⟩ := code_length h
  clear h
  by_cases hbig : 1048576 < pn
  · have hb : (1048576 : Int) < (pn : Int) := by omega
    go_enter Try.func4, Try.ntmps4
    go_wp2_with fail
    go_ret
    exact fine_same ⟨rfl, rfl⟩
  have hb : ¬ (1048576 : Int) < (pn : Int) := by omega
  go_enter Try.func4, Try.ntmps4
  go_wp2_with fail
  refine D.out.mono ?_; rintro e w1 ⟨t, rfl, t0, t1, hL⟩
  clear D
  go_upto_region 4 with fail
  obtain ⟨c, v, SP, IM, hk⟩ := know_CycRoot t
  go_wp2_with (fail)
  refine (IM _).mono ?_; rintro e w3 ⟨rfl, hb3⟩
  replace hL := below_next hL hb3
  clear hb3 IM
  go_upto_region 5 with (refine store_row rfl rfl rfl rfl (RowAt.newAt zero8 rfl) info_cyc ?_)
  show Code.wp _ _ _ _ (sole w3 (c) 25)
  have r_out := sole_first w3 (c) 25
  replace hL := sole_below hL (c) 25
  generalize w3.heap.size = g_out at *
  generalize sole w3 (c) 25 = W3 at *
  go_wp2_with (fail)
  refine (SP _).mono ?_; rintro e w4 ⟨rfl, hb4⟩
  replace r_out := r_out.below hb4
  replace hL := below_next hL hb4
  clear hb4 SP
  go_upto_region 6 with (refine store_row rfl rfl rfl rfl (RowAt.newAt zero8 rfl) info_cyc ?_)
  show Code.wp _ _ _ _ (sole w4 (c) 25)
  replace r_out := sole_keep r_out (c) 25
  have r_want := sole_first w4 (c) 25
  replace hL := sole_below hL (c) 25
  generalize w4.heap.size = g_want at *
  generalize sole w4 (c) 25 = W4 at *
  have p0 := r_out.cell (k := 0) (by omega)
  have q0 := r_want.cell (k := 0) (by omega)
  have p1 := r_out.cell (k := 1) (by omega)
  have q1 := r_want.cell (k := 1) (by omega)
  have p2 := r_out.cell (k := 2) (by omega)
  have q2 := r_want.cell (k := 2) (by omega)
  have p3 := r_out.cell (k := 3) (by omega)
  have q3 := r_want.cell (k := 3) (by omega)
  have p4 := r_out.cell (k := 4) (by omega)
  have q4 := r_want.cell (k := 4) (by omega)
  have p5 := r_out.cell (k := 5) (by omega)
  have q5 := r_want.cell (k := 5) (by omega)
  have p6 := r_out.cell (k := 6) (by omega)
  have q6 := r_want.cell (k := 6) (by omega)
  have p7 := r_out.cell (k := 7) (by omega)
  have q7 := r_want.cell (k := 7) (by omega)
  have EQ := fun w => eq_cells c w
  cases v
  · clear hk
    go_wp2_with fail
    go_ret
    exact ⟨rfl, hL⟩
  obtain ⟨n, rfl, hn, vc, hc⟩ := hk rfl
  have HC := Lib.hid hc; clear hc hk
  go_upto_region 8 with fail
  clear EQ p0 q0 p1 q1 p2 q2 p3 q3 p4 q4 p5 q5 p6 q6 p7 q7 r_want
  obtain ⟨m, hm⟩ : ∃ m, m = mir c := ⟨_, rfl⟩
  have vm : okc m = true := by rw [hm, HC.out]; exact okc_mroot hn
  obtain ⟨u, hu⟩ : ∃ u, u = (n + 1) % 24 := ⟨_, rfl⟩
  obtain ⟨d, hd⟩ : ∃ d, d = trn one u := ⟨_, rfl⟩
  have vd : okc d = true := by rw [hd]; exact okc_root (by omega)
  have e1 : IntKind.i64.wrap ((n : Int) + 1) = (n : Int) + 1 := by rw [IntKind.wrap_i64]; omega
  have e2 : ((n : Int) + 1) % 24 = (u : Int) := by omega
  have e3 : ((n : Int) + 1).tmod 24 = (u : Int) := by rw [Int.tmod_eq_emod_of_nonneg (by omega)]; exact e2
  have e4 : IntKind.i64.wrap (u : Int) = (u : Int) := by rw [IntKind.wrap_i64]; omega
  have hu0 : (0 : Int) ≤ (n : Int) + 1 := by omega
  have K1 : ∀ w, Calls Try.prog 30 #[.int .i64 0] w fun e w' => e = .returned (.tuple #[.agg (vec 8 one), .bool true]) ∧ Below w.heap.size w w' := fun w => by
    rw [← ans_is (v := true) (c := trn one 0) (d := one) (trn_zero one) (by simp [okc_one])]; exact CycRoot_yes 0 (by omega) w
  have K2 : ∀ w, Calls Try.prog 32 #[.agg (vec 8 c)] w fun e w' => e = .returned (.tuple #[.agg (vec 8 m), .bool true]) ∧ Below w.heap.size w w' := fun w => by
    rw [← ans_yes vm, hm]; exact CycMirror_yes c vc w
  have K3 : ∀ w, Calls Try.prog 33 #[.agg (vec 8 c), .agg (vec 8 m)] w fun e w' => e = .returned (.tuple #[.agg (vec 8 one), .bool true]) ∧ Below w.heap.size w w' := fun w => by
    rw [← ans_is (v := okc c && okc m) (c := prd c m) (d := one) (fun j hj => by rw [hm, HC.out]; exact (root_facts n hn j hj).2.2) (by simp [vc, vm, okc_one])]; exact CycTimes_any c m w
  have K4 : ∀ w, Calls Try.prog 34 #[.agg (vec 8 c), .int .i64 1] w fun e w' => e = .returned (.tuple #[.agg (vec 8 d), .bool true]) ∧ Below w.heap.size w w' := fun w => by
    rw [← ans_is (v := true) (c := trn c 1) (d := d) (fun j hj => by rw [HC.out, hd, hu]; exact trn_next one n hn j hj) (by simp [vd])]; exact CycTurned_yes c 1 vc (by omega) w
  have K5 : ∀ w, Calls Try.prog 30 #[.int .i64 u] w fun e w' => e = .returned (.tuple #[.agg (vec 8 d), .bool true]) ∧ Below w.heap.size w w' := fun w => by
    rw [← ans_yes vd, hd]; exact CycRoot_yes u (by omega) w
  clear hd vd hm vm hu vc e2
  go_wp2_with (fail)
  refine (K1 _).mono ?_; rintro e w5 ⟨rfl, hb5⟩
  replace r_out := r_out.below hb5
  replace hL := below_next hL hb5
  clear hb5 K1
  go_upto_region 9 with (refine store_row rfl rfl rfl rfl (RowAt.newAt zero8 rfl) info_cyc ?_)
  show Code.wp _ _ _ _ (sole w5 (one) 25)
  replace r_out := sole_keep r_out (one) 25
  have r_e := sole_first w5 (one) 25
  replace hL := sole_below hL (one) 25
  generalize w5.heap.size = g_e at *
  generalize sole w5 (one) 25 = W5 at *
  go_wp2_with ((refine load_row rfl rfl rfl r_out Try.underlying25 rfl info_cyc ?_))
  refine (K2 _).mono ?_; rintro e w6 ⟨rfl, hb6⟩
  replace r_out := r_out.below hb6
  replace r_e := r_e.below hb6
  replace hL := below_next hL hb6
  clear hb6 K2
  go_upto_region 10 with (refine store_row rfl rfl rfl rfl (RowAt.newAt zero8 rfl) info_cyc ?_)
  show Code.wp _ _ _ _ (sole w6 (m) 25)
  replace r_out := sole_keep r_out (m) 25
  replace r_e := sole_keep r_e (m) 25
  have r_m := sole_first w6 (m) 25
  replace hL := sole_below hL (m) 25
  generalize w6.heap.size = g_m at *
  generalize sole w6 (m) 25 = W6 at *
  go_wp2_with (first | (refine load_row rfl rfl rfl r_out Try.underlying25 rfl info_cyc ?_) | (refine load_row rfl rfl rfl r_m Try.underlying25 rfl info_cyc ?_))
  refine (K3 _).mono ?_; rintro e w7 ⟨rfl, hb7⟩
  replace r_out := r_out.below hb7
  replace r_e := r_e.below hb7
  replace r_m := r_m.below hb7
  replace hL := below_next hL hb7
  clear hb7 K3
  go_upto_region 11 with (refine store_row rfl rfl rfl rfl (RowAt.newAt zero8 rfl) info_cyc ?_)
  show Code.wp _ _ _ _ (sole w7 (one) 25)
  replace r_out := sole_keep r_out (one) 25
  replace r_e := sole_keep r_e (one) 25
  replace r_m := sole_keep r_m (one) 25
  have r_x := sole_first w7 (one) 25
  replace hL := sole_below hL (one) 25
  generalize w7.heap.size = g_x at *
  generalize sole w7 (one) 25 = W7 at *
  go_wp2_with ((refine load_row rfl rfl rfl r_out Try.underlying25 rfl info_cyc ?_))
  refine (K4 _).mono ?_; rintro e w8 ⟨rfl, hb8⟩
  replace r_out := r_out.below hb8
  replace r_e := r_e.below hb8
  replace r_m := r_m.below hb8
  replace r_x := r_x.below hb8
  replace hL := below_next hL hb8
  clear hb8 K4
  go_upto_region 12 with (refine store_row rfl rfl rfl rfl (RowAt.newAt zero8 rfl) info_cyc ?_)
  show Code.wp _ _ _ _ (sole w8 (d) 25)
  replace r_out := sole_keep r_out (d) 25
  replace r_e := sole_keep r_e (d) 25
  replace r_m := sole_keep r_m (d) 25
  replace r_x := sole_keep r_x (d) 25
  have r_y := sole_first w8 (d) 25
  replace hL := sole_below hL (d) 25
  generalize w8.heap.size = g_y at *
  generalize sole w8 (d) 25 = W8 at *
  go_wp2_with (fail)
  refine (K5 _).mono ?_; rintro e w9 ⟨rfl, hb9⟩
  replace r_out := r_out.below hb9
  replace r_e := r_e.below hb9
  replace r_m := r_m.below hb9
  replace r_x := r_x.below hb9
  replace r_y := r_y.below hb9
  replace hL := below_next hL hb9
  clear hb9 K5
  go_upto_region 13 with (refine store_row rfl rfl rfl rfl (RowAt.newAt zero8 rfl) info_cyc ?_)
  show Code.wp _ _ _ _ (sole w9 (d) 25)
  replace r_out := sole_keep r_out (d) 25
  replace r_e := sole_keep r_e (d) 25
  replace r_m := sole_keep r_m (d) 25
  replace r_x := sole_keep r_x (d) 25
  replace r_y := sole_keep r_y (d) 25
  have r_z := sole_first w9 (d) 25
  replace hL := sole_below hL (d) 25
  generalize w9.heap.size = g_z at *
  generalize sole w9 (d) 25 = W9 at *
  have x0 := r_x.cell (k := 0) (by omega)
  have x1 := r_x.cell (k := 1) (by omega)
  have x2 := r_x.cell (k := 2) (by omega)
  have x3 := r_x.cell (k := 3) (by omega)
  have x4 := r_x.cell (k := 4) (by omega)
  have x5 := r_x.cell (k := 5) (by omega)
  have x6 := r_x.cell (k := 6) (by omega)
  have x7 := r_x.cell (k := 7) (by omega)
  have e0 := r_e.cell (k := 0) (by omega)
  have e1 := r_e.cell (k := 1) (by omega)
  have e2 := r_e.cell (k := 2) (by omega)
  have e3 := r_e.cell (k := 3) (by omega)
  have e4 := r_e.cell (k := 4) (by omega)
  have e5 := r_e.cell (k := 5) (by omega)
  have e6 := r_e.cell (k := 6) (by omega)
  have e7 := r_e.cell (k := 7) (by omega)
  have y0 := r_y.cell (k := 0) (by omega)
  have y1 := r_y.cell (k := 1) (by omega)
  have y2 := r_y.cell (k := 2) (by omega)
  have y3 := r_y.cell (k := 3) (by omega)
  have y4 := r_y.cell (k := 4) (by omega)
  have y5 := r_y.cell (k := 5) (by omega)
  have y6 := r_y.cell (k := 6) (by omega)
  have y7 := r_y.cell (k := 7) (by omega)
  have z0 := r_z.cell (k := 0) (by omega)
  have z1 := r_z.cell (k := 1) (by omega)
  have z2 := r_z.cell (k := 2) (by omega)
  have z3 := r_z.cell (k := 3) (by omega)
  have z4 := r_z.cell (k := 4) (by omega)
  have z5 := r_z.cell (k := 5) (by omega)
  have z6 := r_z.cell (k := 6) (by omega)
  have z7 := r_z.cell (k := 7) (by omega)
  have EQ0 := fun w => eq_cells one w
  have EQ1 := fun w => eq_cells d w
  go_wp2_with fail
  go_ret
  exact ⟨rfl, hL⟩
end Go.Proofs.Ytjfljelpjgkmjaa
