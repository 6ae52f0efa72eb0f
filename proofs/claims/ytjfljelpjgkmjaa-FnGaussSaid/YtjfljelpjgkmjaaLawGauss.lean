/-
  The walk of the law FnGauss.
-/
import Derived.Test.YtjfljelpjgkmjaaLawCycBase
namespace Go.Proofs.Ytjfljelpjgkmjaa
set_option maxRecDepth 20000
open Go.ChangeShapes Go.WideShapes Go.ChangeAt Go.RowKit
set_option linter.unusedVariables false
set_option linter.unusedSimpArgs false

set_option maxHeartbeats 4000000 in
theorem lawFnGauss_walk (v : Value) (w : World) (h : CodeAt w v) : Calls Try.prog 12 #[v] w (Fine w) := by
  have D := Lib.hid (drawCycGauss v w h)
  obtain ⟨pa, pn, pc, rfl, hpn⟩ := code_length h
  clear h
  by_cases hbig : 1048576 < pn
  · have hb : (1048576 : Int) < (pn : Int) := by omega
    go_enter Try.func12, Try.ntmps12
    go_wp2_with fail
    go_ret
    exact fine_same ⟨rfl, rfl⟩
  have hb : ¬ (1048576 : Int) < (pn : Int) := by omega
  go_enter Try.func12, Try.ntmps12
  go_wp2_with fail
  refine D.out.mono ?_; rintro e w1 ⟨re, im, rfl, x0, x1, y0, y1, hL⟩
  clear D
  go_upto_region 4 with fail
  obtain ⟨c, v, SP, IM, hk⟩ := know_CycGauss re im
  go_wp2_with (fail)
  refine (IM _).mono ?_; rintro e w3 ⟨rfl, hb3⟩
  replace hL := below_next hL hb3
  clear hb3 IM
  go_upto_region 5 with (refine store_row rfl rfl rfl rfl (RowAt.newAt zero8 rfl) info_cyc ?_)
  show Code.wp _ _ _ _ (sole w3 (c) 25)
  have r_out := sole_first w3 (c) 25
  replace hL := sole_below hL (c) 25
  generalize w3.heap.size = g_out at *
  generalize sole w3 (c) 25 = W3 at *
  go_wp2_with (fail)
  refine (SP _).mono ?_; rintro e w4 ⟨rfl, hb4⟩
  replace r_out := r_out.below hb4
  replace hL := below_next hL hb4
  clear hb4 SP
  go_upto_region 6 with (refine store_row rfl rfl rfl rfl (RowAt.newAt zero8 rfl) info_cyc ?_)
  show Code.wp _ _ _ _ (sole w4 (c) 25)
  replace r_out := sole_keep r_out (c) 25
  have r_want := sole_first w4 (c) 25
  replace hL := sole_below hL (c) 25
  generalize w4.heap.size = g_want at *
  generalize sole w4 (c) 25 = W4 at *
  have p0 := r_out.cell (k := 0) (by omega)
  have q0 := r_want.cell (k := 0) (by omega)
  have p1 := r_out.cell (k := 1) (by omega)
  have q1 := r_want.cell (k := 1) (by omega)
  have p2 := r_out.cell (k := 2) (by omega)
  have q2 := r_want.cell (k := 2) (by omega)
  have p3 := r_out.cell (k := 3) (by omega)
  have q3 := r_want.cell (k := 3) (by omega)
  have p4 := r_out.cell (k := 4) (by omega)
  have q4 := r_want.cell (k := 4) (by omega)
  have p5 := r_out.cell (k := 5) (by omega)
  have q5 := r_want.cell (k := 5) (by omega)
  have p6 := r_out.cell (k := 6) (by omega)
  have q6 := r_want.cell (k := 6) (by omega)
  have p7 := r_out.cell (k := 7) (by omega)
  have q7 := r_want.cell (k := 7) (by omega)
  have EQ := fun w => eq_cells c w
  cases v
  · clear hk
    go_wp2_with fail
    go_ret
    exact ⟨rfl, hL⟩
  obtain ⟨vc, hc⟩ := hk rfl
  have HC := Lib.hid hc; clear hc hk
  go_upto_region 8 with fail
  clear EQ p0 q0 p1 q1 p2 q2 p3 q3 p4 q4 p5 q5 p6 q6 p7 q7 r_want
  obtain ⟨d, hd⟩ : ∃ d, d = gau (-im) re := ⟨_, rfl⟩
  have vd : okc d = true := inR_okc fun j hj => by
    have h0 := okc_inR vc 0 (by omega)
    have h6 := okc_inR vc 6 (by omega)
    rw [HC.out] at h0 h6
    simp [gau] at h0 h6
    rw [hd]
    simp only [gau]
    split
    · omega
    · split <;> omega
  have e1 : IntKind.i64.wrap (0 - im) = -im := by rw [IntKind.wrap_i64]; omega
  have e2 : IntKind.i64.wrap (-im) = -im := by rw [IntKind.wrap_i64]; omega
  have K1 : ∀ w, Calls Try.prog 34 #[.agg (vec 8 c), .int .i64 6] w fun e w' => e = .returned (.tuple #[.agg (vec 8 d), .bool true]) ∧ Below w.heap.size w w' := fun w => by
    rw [← ans_is (v := true) (c := trn c 6) (d := d) (fun j hj => by rw [HC.out, hd]; exact gau_turned re im j hj) (by simp [vd])]; exact CycTurned_yes c 6 vc (by omega) w
  have K2 : ∀ w, Calls Try.prog 50 #[.int .i64 (-im), .int .i64 re] w fun e w' => e = .returned (.tuple #[.agg (vec 8 d), .bool true]) ∧ Below w.heap.size w w' := fun w => by
    rw [← ans_yes vd, hd]; exact CycGauss_any (-im) re w
  clear hd vd
  go_wp2_with ((refine load_row rfl rfl rfl r_out Try.underlying25 rfl info_cyc ?_))
  refine (K1 _).mono ?_; rintro e w5 ⟨rfl, hb5⟩
  replace r_out := r_out.below hb5
  replace hL := below_next hL hb5
  clear hb5 K1
  go_upto_region 9 with (refine store_row rfl rfl rfl rfl (RowAt.newAt zero8 rfl) info_cyc ?_)
  show Code.wp _ _ _ _ (sole w5 (d) 25)
  replace r_out := sole_keep r_out (d) 25
  have r_x := sole_first w5 (d) 25
  replace hL := sole_below hL (d) 25
  generalize w5.heap.size = g_x at *
  generalize sole w5 (d) 25 = W5 at *
  go_wp2_with (fail)
  refine (K2 _).mono ?_; rintro e w6 ⟨rfl, hb6⟩
  replace r_out := r_out.below hb6
  replace r_x := r_x.below hb6
  replace hL := below_next hL hb6
  clear hb6 K2
  go_upto_region 10 with (refine store_row rfl rfl rfl rfl (RowAt.newAt zero8 rfl) info_cyc ?_)
  show Code.wp _ _ _ _ (sole w6 (d) 25)
  replace r_out := sole_keep r_out (d) 25
  replace r_x := sole_keep r_x (d) 25
  have r_y := sole_first w6 (d) 25
  replace hL := sole_below hL (d) 25
  generalize w6.heap.size = g_y at *
  generalize sole w6 (d) 25 = W6 at *
  have x0 := r_x.cell (k := 0) (by omega)
  have x1 := r_x.cell (k := 1) (by omega)
  have x2 := r_x.cell (k := 2) (by omega)
  have x3 := r_x.cell (k := 3) (by omega)
  have x4 := r_x.cell (k := 4) (by omega)
  have x5 := r_x.cell (k := 5) (by omega)
  have x6 := r_x.cell (k := 6) (by omega)
  have x7 := r_x.cell (k := 7) (by omega)
  have y0 := r_y.cell (k := 0) (by omega)
  have y1 := r_y.cell (k := 1) (by omega)
  have y2 := r_y.cell (k := 2) (by omega)
  have y3 := r_y.cell (k := 3) (by omega)
  have y4 := r_y.cell (k := 4) (by omega)
  have y5 := r_y.cell (k := 5) (by omega)
  have y6 := r_y.cell (k := 6) (by omega)
  have y7 := r_y.cell (k := 7) (by omega)
  have o0 := r_out.cell (k := 0) (by omega)
  have o1 := r_out.cell (k := 1) (by omega)
  have o2 := r_out.cell (k := 2) (by omega)
  have o3 := r_out.cell (k := 3) (by omega)
  have o4 := r_out.cell (k := 4) (by omega)
  have o5 := r_out.cell (k := 5) (by omega)
  have o6 := r_out.cell (k := 6) (by omega)
  have o7 := r_out.cell (k := 7) (by omega)
  have EQ0 := fun w => eq_cells d w
  by_cases hi : im = 0
  · have R : ∀ w, Calls Try.prog 46 #[.agg (vec 8 c)] w fun e w' => e = .returned (.bool true) ∧ Below w.heap.size w w' := fun w => by
      have hy : rl c = true := rl_true (by rw [HC.out]; exact (gau_real re im).2 hi)
      rw [← hy]; exact CycReal_yes c vc w
    have hi' : (im == 0) = true := by simpa using hi
    clear hi HC vc
    go_wp2_with fail
    refine (R _).mono ?_; rintro e w9 ⟨rfl, hb9⟩
    have hL9 := below_next hL hb9
    go_wp2_with fail
    go_ret
    exact ⟨by first | rfl | (rw [hi']; rfl) | (simp [hi']), hL9⟩
  · have R : ∀ w, Calls Try.prog 46 #[.agg (vec 8 c)] w fun e w' => e = .returned (.bool false) ∧ Below w.heap.size w w' := fun w => by
      have hy : rl c = false := by
        cases h : rl c
        · rfl
        · exact absurd ((gau_real re im).1 (by have := rl_same h; rw [HC.out] at this; exact this)) hi
      rw [← hy]; exact CycReal_yes c vc w
    have hi' : (im == 0) = false := by simpa using hi
    clear hi HC vc
    go_wp2_with fail
    refine (R _).mono ?_; rintro e w9 ⟨rfl, hb9⟩
    have hL9 := below_next hL hb9
    go_wp2_with fail
    go_ret
    exact ⟨by first | rfl | (rw [hi']; rfl) | (simp [hi']), hL9⟩
end Go.Proofs.Ytjfljelpjgkmjaa
