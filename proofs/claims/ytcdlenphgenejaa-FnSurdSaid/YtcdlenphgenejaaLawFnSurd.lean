/-
  The walk of the law FnSurd.
-/
import Derived.Test.YtcdlenphgenejaaLawSurdBase
namespace Go.Proofs.Ytcdlenphgenejaa
set_option maxRecDepth 20000
open Go.ChangeShapes Go.WideShapes Go.ChangeAt Go.RowKit
set_option linter.unusedVariables false
set_option linter.unusedSimpArgs false

set_option maxHeartbeats 4000000 in
theorem lawFnSurd_walk (v : Value) (w : World) (h : CodeAt w v) : Calls Try.prog 3 #[v] w (Fine w) := by
  have D := Lib.hid (drawSurdValid v w h)
  obtain ⟨pa, pn, pc, rfl, hpn⟩ := code_length h
  clear h
  by_cases hbig : 1048576 < pn
  · have hb : (1048576 : Int) < (pn : Int) := by omega
    go_enter Try.func3, Try.ntmps3
    go_wp2_with fail
    go_ret
    exact fine_same ⟨rfl, rfl⟩
  have hb : ¬ (1048576 : Int) < (pn : Int) := by omega
  go_enter Try.func3, Try.ntmps3
  go_wp2_with fail
  refine D.out.mono ?_; rintro e w1 ⟨a, rfl, -, hL⟩
  clear D
  go_upto_region 4 with (refine store_row rfl rfl rfl rfl (RowAt.newAt zero4 rfl) info_surd ?_)
  show Code.wp _ _ _ _ (sole4 w1 a 24)
  have r_a := sole_first4 w1 a 24
  replace hL := sole_below4 hL a 24
  generalize w1.heap.size = g_a at *
  generalize sole4 w1 a 24 = W1 at *
  obtain ⟨SP, IM, -⟩ := know_SurdValid a
  generalize hv : okf a = v at *
  have HV := Lib.hid hv; clear hv
  go_wp2_with ((refine load_row (g := g_a) rfl rfl rfl r_a Try.underlying24 rfl info_surd ?_))
  refine (IM _).mono ?_; rintro e w2 ⟨rfl, hb2⟩
  replace r_a := r_a.below hb2
  replace hL := below_next hL hb2
  clear hb2 IM
  go_upto_region 5 with fail
  go_wp2_with ((refine load_row (g := g_a) rfl rfl rfl r_a Try.underlying24 rfl info_surd ?_))
  refine (SP _).mono ?_; rintro e w3 ⟨rfl, hb3⟩
  replace r_a := r_a.below hb3
  replace hL := below_next hL hb3
  clear hb3 SP
  go_upto_region 6 with fail
  cases v
  · go_wp2_with fail
    go_ret
    exact ⟨rfl, hL⟩
  go_upto_region 8 with fail
  have va := HV.out
  obtain ⟨b0, b1, b2, b3⟩ := okf_in va
  obtain ⟨m, hm⟩ : ∃ m, m = f4 (-a 0) (-a 1) (-a 2) (-a 3) := ⟨_, rfl⟩
  have m0 : m 0 = -a 0 := by rw [hm]; rfl
  have m1 : m 1 = -a 1 := by rw [hm]; rfl
  have m2 : m 2 = -a 2 := by rw [hm]; rfl
  have m3 : m 3 = -a 3 := by rw [hm]; rfl
  have vm : okf m = true := okf_of (by omega) (by omega) (by omega) (by omega)
  obtain ⟨s, hs⟩ : ∃ s, s = sgf a := ⟨_, rfl⟩
  obtain ⟨t, ht⟩ : ∃ t, t = -s := ⟨_, rfl⟩
  have K1 := fun w => SurdSign_yes (z := s) va hs.symm w
  have K2 := fun w => SurdSign_yes (z := t) vm (by rw [ht, hs]; exact sgf_neg (four_cases m0 m1 m2 m3)) w
  have K3 : ∀ w, Calls Try.prog 19 #[.agg (vec 4 a), .agg (vec 4 m)] w fun e w' => e = .returned (.tuple #[.agg (vec 4 nul), .bool true]) ∧ Below w.heap.size w w' := fun w => by
    rw [← tls_is (v := okf a && okf m) (c := add a m) (d := nul) (four_cases (by simp only [add, nul]; omega) (by simp only [add, nul]; omega) (by simp only [add, nul]; omega) (by simp only [add, nul]; omega)) (by rw [va, vm]; decide)]; exact SurdAdd_any a m w
  have ss := sgf_in a
  rw [← hs] at ss
  have st : (s == -t) = true := by rw [ht]; simp
  have tt : -1 ≤ t ∧ t ≤ 1 := by omega
  have HM := Lib.hid hm
  clear HV va vm hs ht m0 m1 m2 m3 hm
  have p0 := r_a.cell (k := 0) (by omega)
  have p1 := r_a.cell (k := 1) (by omega)
  have p2 := r_a.cell (k := 2) (by omega)
  have p3 := r_a.cell (k := 3) (by omega)
  go_upto_region 9 with (refine store_row rfl rfl rfl (show _ = Value.agg (vec 4 m) from by rw [HM.out]; rfl) (RowAt.newAt zero4 rfl) info_surd ?_)
  clear p0 p1 p2 p3
  show Code.wp _ _ _ _ (sole4 _ m 24)
  have hLs := hL.size
  have zr := r_a.lt
  have r_m : RowAt (sole4 w3 m 24) w3.heap.size 4 24 m := sole_first4 w3 m 24
  replace r_a := sole_keep4 r_a m 24
  replace hL := sole_below4 hL m 24
  generalize w3.heap.size = g_m at *
  generalize sole4 w3 m 24 = W9 at *
  go_wp2_with ((refine load_row (g := g_a) rfl rfl rfl r_a Try.underlying24 rfl info_surd ?_))
  refine (K1 _).mono ?_; rintro e w4 ⟨rfl, hb4⟩
  replace r_a := r_a.below hb4
  replace r_m := r_m.below hb4
  replace hL := below_next hL hb4
  clear hb4 K1
  go_upto_region 10 with fail
  go_wp2_with ((refine load_row (g := g_m) rfl rfl rfl r_m Try.underlying24 rfl info_surd ?_))
  refine (K2 _).mono ?_; rintro e w5 ⟨rfl, hb5⟩
  replace r_a := r_a.below hb5
  replace r_m := r_m.below hb5
  replace hL := below_next hL hb5
  clear hb5 K2
  go_upto_region 11 with fail
  go_wp2_with (first | (refine load_row (g := g_a) rfl rfl rfl r_a Try.underlying24 rfl info_surd ?_) | (refine load_row (g := g_m) rfl rfl rfl r_m Try.underlying24 rfl info_surd ?_))
  refine (K3 _).mono ?_; rintro e w6 ⟨rfl, hb6⟩
  replace r_a := r_a.below hb6
  replace r_m := r_m.below hb6
  replace hL := below_next hL hb6
  clear hb6 K3
  go_upto_region 12 with (refine store_row rfl rfl rfl rfl (RowAt.newAt zero4 rfl) info_surd ?_)
  show Code.wp _ _ _ _ (sole4 w6 nul 24)
  replace r_a := sole_keep4 r_a nul 24
  replace r_m := sole_keep4 r_m nul 24
  have r_x := sole_first4 w6 nul 24
  replace hL := sole_below4 hL nul 24
  generalize w6.heap.size = g_x at *
  generalize sole4 w6 nul 24 = W6 at *
  have p0 := r_x.cell (k := 0) (by omega)
  have p1 := r_x.cell (k := 1) (by omega)
  have p2 := r_x.cell (k := 2) (by omega)
  have p3 := r_x.cell (k := 3) (by omega)
  have EQ := fun w => eqs_nul w
  go_wp2_with fail
  go_ret
  exact ⟨rfl, hL⟩
end Go.Proofs.Ytcdlenphgenejaa
