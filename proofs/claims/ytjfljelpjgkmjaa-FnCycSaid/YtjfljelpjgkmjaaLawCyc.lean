/-
  The walk of the law FnCyc.
-/
import Derived.Test.YtjfljelpjgkmjaaLawCycBase
namespace Go.Proofs.Ytjfljelpjgkmjaa
set_option maxRecDepth 20000
open Go.ChangeShapes Go.WideShapes Go.ChangeAt Go.RowKit
set_option linter.unusedVariables false
set_option linter.unusedSimpArgs false

set_option maxHeartbeats 4000000 in
theorem lawFnCyc_walk (v : Value) (w : World) (h : CodeAt w v) : Calls Try.prog 3 #[v] w (Fine w) := by
  have D := Lib.hid (drawCycValid v w h)
  obtain ⟨pa, pn, pc, rfl, hpn⟩ := code_length h
  clear h
  by_cases hbig : 1048576 < pn
  · have hb : (1048576 : Int) < (pn : Int) := by omega
    go_enter Try.func3, Try.ntmps3
    go_wp2_with fail
    go_ret
    exact fine_same ⟨rfl, rfl⟩
  have hb : ¬ (1048576 : Int) < (pn : Int) := by omega
  go_enter Try.func3, Try.ntmps3
  go_wp2_with fail
  refine D.out.mono ?_; rintro e w1 ⟨a, rfl, hL⟩
  clear D
  go_upto_region 4 with (refine store_row rfl rfl rfl rfl (RowAt.newAt zero8 rfl) info_cyc ?_)
  show Code.wp _ _ _ _ (sole w1 a 25)
  have r_a := sole_first w1 a 25
  replace hL := sole_below hL a 25
  generalize w1.heap.size = g_a at *
  generalize sole w1 a 25 = W1 at *
  obtain ⟨v, SP, IM, hk⟩ := know_CycValid a
  go_wp2_with ((refine load_row rfl rfl rfl r_a Try.underlying25 rfl info_cyc ?_))
  refine (IM _).mono ?_; rintro e w3 ⟨rfl, hb3⟩
  replace r_a := r_a.below hb3
  replace hL := below_next hL hb3
  clear hb3 IM
  go_upto_region 5 with fail
  go_wp2_with ((refine load_row rfl rfl rfl r_a Try.underlying25 rfl info_cyc ?_))
  refine (SP _).mono ?_; rintro e w4 ⟨rfl, hb4⟩
  replace r_a := r_a.below hb4
  replace hL := below_next hL hb4
  clear hb4 SP
  go_upto_region 6 with fail
  cases v
  · clear hk
    go_wp2_with fail
    go_ret
    exact ⟨rfl, hL⟩
  have va := hk rfl; clear hk
  go_upto_region 8 with fail
  obtain ⟨d, hd⟩ : ∃ d, d = scl (-1) a := ⟨_, rfl⟩
  have vd : okc d = true := by rw [hd]; exact okc_scl va
  have K1 : ∀ w, Calls Try.prog 27 #[.agg (vec 8 a), .int .i64 (-1)] w fun e w' => e = .returned (.tuple #[.agg (vec 8 d), .bool true]) ∧ Below w.heap.size w w' := fun w => by
    rw [← ans_yes vd, hd]; exact CycScale_yes a (-1) va (by omega) w
  have K2 : ∀ w, Calls Try.prog 28 #[.agg (vec 8 a), .agg (vec 8 d)] w fun e w' => e = .returned (.tuple #[.agg (vec 8 nul), .bool true]) ∧ Below w.heap.size w w' := fun w => by
    rw [← ans_is (v := okc a && okc d) (c := add a d) (d := nul) (fun j _ => by rw [hd]; simp only [add, scl, nul]; omega) (by simp [va, vd, okc_nul])]; exact CycAdd_any a d w
  clear hd va vd
  go_wp2_with ((refine load_row rfl rfl rfl r_a Try.underlying25 rfl info_cyc ?_))
  refine (K1 _).mono ?_; rintro e w5 ⟨rfl, hb5⟩
  replace r_a := r_a.below hb5
  replace hL := below_next hL hb5
  clear hb5 K1
  go_upto_region 9 with (refine store_row rfl rfl rfl rfl (RowAt.newAt zero8 rfl) info_cyc ?_)
  show Code.wp _ _ _ _ (sole w5 (d) 25)
  replace r_a := sole_keep r_a (d) 25
  have r_d := sole_first w5 (d) 25
  replace hL := sole_below hL (d) 25
  generalize w5.heap.size = g_d at *
  generalize sole w5 (d) 25 = W5 at *
  go_wp2_with (first | (refine load_row rfl rfl rfl r_a Try.underlying25 rfl info_cyc ?_) | (refine load_row rfl rfl rfl r_d Try.underlying25 rfl info_cyc ?_))
  refine (K2 _).mono ?_; rintro e w6 ⟨rfl, hb6⟩
  replace r_a := r_a.below hb6
  replace r_d := r_d.below hb6
  replace hL := below_next hL hb6
  clear hb6 K2
  go_upto_region 10 with (refine store_row rfl rfl rfl rfl (RowAt.newAt zero8 rfl) info_cyc ?_)
  show Code.wp _ _ _ _ (sole w6 (nul) 25)
  replace r_a := sole_keep r_a (nul) 25
  replace r_d := sole_keep r_d (nul) 25
  have r_x := sole_first w6 (nul) 25
  replace hL := sole_below hL (nul) 25
  generalize w6.heap.size = g_x at *
  generalize sole w6 (nul) 25 = W6 at *
  have x0 := r_x.cell (k := 0) (by omega)
  have x1 := r_x.cell (k := 1) (by omega)
  have x2 := r_x.cell (k := 2) (by omega)
  have x3 := r_x.cell (k := 3) (by omega)
  have x4 := r_x.cell (k := 4) (by omega)
  have x5 := r_x.cell (k := 5) (by omega)
  have x6 := r_x.cell (k := 6) (by omega)
  have x7 := r_x.cell (k := 7) (by omega)
  have EQ0 := fun w => eq_nul w
  go_wp2_with fail
  go_ret
  exact ⟨rfl, hL⟩
end Go.Proofs.Ytjfljelpjgkmjaa
