/-
  The walk of the law FnSurdAdd.
-/
import Derived.Test.YtcdlenphgenejaaLawSurdBase
namespace Go.Proofs.Ytcdlenphgenejaa
set_option maxRecDepth 20000
open Go.ChangeShapes Go.WideShapes Go.ChangeAt Go.RowKit
set_option linter.unusedVariables false
set_option linter.unusedSimpArgs false

set_option maxHeartbeats 4000000 in
theorem lawFnSurdAdd_walk (v : Value) (w : World) (h : CodeAt w v) : Calls Try.prog 6 #[v] w (Fine w) := by
  have D := Lib.hid (drawSurdAdd v w h)
  obtain ⟨pa, pn, pc, rfl, hpn⟩ := code_length h
  clear h
  by_cases hbig : 1048576 < pn
  · have hb : (1048576 : Int) < (pn : Int) := by omega
    go_enter Try.func6, Try.ntmps6
    go_wp2_with fail
    go_ret
    exact fine_same ⟨rfl, rfl⟩
  have hb : ¬ (1048576 : Int) < (pn : Int) := by omega
  go_enter Try.func6, Try.ntmps6
  go_wp2_with fail
  refine D.out.mono ?_; rintro e w1 ⟨a, b, rfl, hL⟩
  clear D
  have hS6 := pair_first4 w1 24
  have hS7 := pair_second4 w1 a 24
  go_upto_region 4 with (first | (refine store_row (g := w1.heap.size) rfl rfl rfl rfl hS6 info_surd ?_) | (refine store_row (g := w1.heap.size + 1) rfl rfl rfl rfl hS7 info_surd ?_))
  clear hS6 hS7
  show Code.wp _ _ _ _ (two4 w1 a b 24)
  have r_a := two_first4 w1 a b 24
  have r_b := two_second4 w1 a b 24
  replace hL := two_below4 hL a b 24
  generalize w1.heap.size = g_a at *
  generalize two4 w1 a b 24 = W1 at *
  obtain ⟨c, v, SP, IM, hk⟩ := know_SurdAdd a b
  have HK := Lib.hid hk; clear hk
  go_wp2_with (first | (refine load_row (g := g_a) rfl rfl rfl r_a Try.underlying24 rfl info_surd ?_) | (refine load_row rfl rfl rfl r_b Try.underlying24 rfl info_surd ?_))
  refine (IM _).mono ?_; rintro e w2 ⟨rfl, hb2⟩
  replace r_a := r_a.below hb2
  replace r_b := r_b.below hb2
  replace hL := below_next hL hb2
  clear hb2 IM
  go_upto_region 5 with (refine store_row rfl rfl rfl rfl (RowAt.newAt zero4 rfl) info_surd ?_)
  show Code.wp _ _ _ _ (sole4 w2 c 24)
  replace r_a := sole_keep4 r_a c 24
  replace r_b := sole_keep4 r_b c 24
  have r_out := sole_first4 w2 c 24
  replace hL := sole_below4 hL c 24
  generalize w2.heap.size = g_out at *
  generalize sole4 w2 c 24 = W2 at *
  go_wp2_with (first | (refine load_row (g := g_a) rfl rfl rfl r_a Try.underlying24 rfl info_surd ?_) | (refine load_row rfl rfl rfl r_b Try.underlying24 rfl info_surd ?_))
  refine (SP _).mono ?_; rintro e w3 ⟨rfl, hb3⟩
  replace r_a := r_a.below hb3
  replace r_b := r_b.below hb3
  replace r_out := r_out.below hb3
  replace hL := below_next hL hb3
  clear hb3 SP
  go_upto_region 6 with (refine store_row rfl rfl rfl rfl (RowAt.newAt zero4 rfl) info_surd ?_)
  show Code.wp _ _ _ _ (sole4 w3 c 24)
  replace r_a := sole_keep4 r_a c 24
  replace r_b := sole_keep4 r_b c 24
  replace r_out := sole_keep4 r_out c 24
  have r_want := sole_first4 w3 c 24
  replace hL := sole_below4 hL c 24
  generalize w3.heap.size = g_want at *
  generalize sole4 w3 c 24 = W3 at *
  have p0 := r_out.cell (k := 0) (by omega)
  have p1 := r_out.cell (k := 1) (by omega)
  have p2 := r_out.cell (k := 2) (by omega)
  have p3 := r_out.cell (k := 3) (by omega)
  have q0 := r_want.cell (k := 0) (by omega)
  have q1 := r_want.cell (k := 1) (by omega)
  have q2 := r_want.cell (k := 2) (by omega)
  have q3 := r_want.cell (k := 3) (by omega)
  have EQ := fun w => eqs_cells c w
  cases v
  · go_wp2_with fail
    go_ret
    exact ⟨rfl, hL⟩
  go_upto_region 8 with fail
  clear EQ p0 q0 p1 q1 p2 q2 p3 q3 r_want
  obtain ⟨va, vb, vc, hc⟩ := HK.out rfl
  have K1 : ∀ w, Calls Try.prog 19 #[.agg (vec 4 b), .agg (vec 4 a)] w fun e w' => e = .returned (.tuple #[.agg (vec 4 c), .bool true]) ∧ Below w.heap.size w w' := fun w => by
    rw [← tls_is (v := okf b && okf a) (c := add b a) (d := c) (fun j _ => by rw [hc]; simp only [add]; omega) (by simp [va, vb, vc])]; exact SurdAdd_any b a w
  obtain ⟨s, hs⟩ : ∃ s, s = sgf b := ⟨_, rfl⟩
  have K2 := fun w => SurdCompare_yes (z := s) vc va (by rw [hs, hc]; exact sgf_same fun j _ => by simp only [sub, add]; omega) w
  have K3 := fun w => SurdSign_yes (z := s) vb hs.symm w
  clear hs hc va vb vc HK
  go_wp2_with (first | (refine load_row rfl rfl rfl r_b Try.underlying24 rfl info_surd ?_) | (refine load_row (g := g_a) rfl rfl rfl r_a Try.underlying24 rfl info_surd ?_))
  refine (K1 _).mono ?_; rintro e w4 ⟨rfl, hb4⟩
  replace r_a := r_a.below hb4
  replace r_b := r_b.below hb4
  replace r_out := r_out.below hb4
  replace hL := below_next hL hb4
  clear hb4 K1
  go_upto_region 9 with (refine store_row rfl rfl rfl rfl (RowAt.newAt zero4 rfl) info_surd ?_)
  show Code.wp _ _ _ _ (sole4 w4 c 24)
  replace r_a := sole_keep4 r_a c 24
  replace r_b := sole_keep4 r_b c 24
  replace r_out := sole_keep4 r_out c 24
  have r_x := sole_first4 w4 c 24
  replace hL := sole_below4 hL c 24
  generalize w4.heap.size = g_x at *
  generalize sole4 w4 c 24 = W4 at *
  go_wp2_with (first | (refine load_row (g := g_out) rfl rfl rfl r_out Try.underlying24 rfl info_surd ?_) | (refine load_row (g := g_a) rfl rfl rfl r_a Try.underlying24 rfl info_surd ?_))
  refine (K2 _).mono ?_; rintro e w5 ⟨rfl, hb5⟩
  replace r_a := r_a.below hb5
  replace r_b := r_b.below hb5
  replace r_out := r_out.below hb5
  replace r_x := r_x.below hb5
  replace hL := below_next hL hb5
  clear hb5 K2
  go_upto_region 10 with fail
  go_wp2_with ((refine load_row rfl rfl rfl r_b Try.underlying24 rfl info_surd ?_))
  refine (K3 _).mono ?_; rintro e w6 ⟨rfl, hb6⟩
  replace r_a := r_a.below hb6
  replace r_b := r_b.below hb6
  replace r_out := r_out.below hb6
  replace r_x := r_x.below hb6
  replace hL := below_next hL hb6
  clear hb6 K3
  go_upto_region 11 with fail
  have p0 := r_x.cell (k := 0) (by omega)
  have p1 := r_x.cell (k := 1) (by omega)
  have p2 := r_x.cell (k := 2) (by omega)
  have p3 := r_x.cell (k := 3) (by omega)
  have q0 := r_out.cell (k := 0) (by omega)
  have q1 := r_out.cell (k := 1) (by omega)
  have q2 := r_out.cell (k := 2) (by omega)
  have q3 := r_out.cell (k := 3) (by omega)
  have EQ := fun w => eqs_cells c w
  go_wp2_with fail
  go_ret
  exact ⟨rfl, hL⟩
end Go.Proofs.Ytcdlenphgenejaa
