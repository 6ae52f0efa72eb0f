/-
  The walk of the law FnNorm.
-/
import Derived.Test.YtcdlenphgenejaaLawSurdBase
namespace Go.Proofs.Ytcdlenphgenejaa
set_option maxRecDepth 20000
open Go.ChangeShapes Go.WideShapes Go.ChangeAt Go.RowKit
set_option linter.unusedVariables false
set_option linter.unusedSimpArgs false

set_option maxHeartbeats 4000000 in
theorem lawFnNorm_walk (v : Value) (w : World) (h : CodeAt w v) : Calls Try.prog 10 #[v] w (Fine w) := by
  have D := Lib.hid (drawSurdNorm v w h)
  obtain ⟨pa, pn, pc, rfl, hpn⟩ := code_length h
  clear h
  by_cases hbig : 1048576 < pn
  · have hb : (1048576 : Int) < (pn : Int) := by omega
    go_enter Try.func10, Try.ntmps10
    go_wp2_with fail
    go_ret
    exact fine_same ⟨rfl, rfl⟩
  have hb : ¬ (1048576 : Int) < (pn : Int) := by omega
  go_enter Try.func10, Try.ntmps10
  go_wp2_with fail
  refine D.out.mono ?_; rintro e w1 ⟨a, rfl, hL⟩
  clear D
  go_upto_region 4 with (refine store_row rfl rfl rfl rfl (RowAt.newAt zero8 rfl) info_cyc ?_)
  show Code.wp _ _ _ _ (sole w1 a 34)
  have r_a := sole_first w1 a 34
  replace hL := sole_below hL a 34
  generalize w1.heap.size = g_a at *
  generalize sole w1 a 34 = W1 at *
  obtain ⟨c, v, SP, IM, hk⟩ := know_SurdNorm a
  have HK := Lib.hid hk; clear hk
  go_wp2_with ((refine load_row (g := g_a) rfl rfl rfl r_a Try.underlying34 rfl info_cyc ?_))
  refine (IM _).mono ?_; rintro e w2 ⟨rfl, hb2⟩
  replace r_a := r_a.below hb2
  replace hL := below_next hL hb2
  clear hb2 IM
  go_upto_region 5 with (refine store_row rfl rfl rfl rfl (RowAt.newAt zero4 rfl) info_surd ?_)
  show Code.wp _ _ _ _ (sole4 w2 c 24)
  replace r_a := sole_keep4 r_a c 24
  have r_out := sole_first4 w2 c 24
  replace hL := sole_below4 hL c 24
  generalize w2.heap.size = g_out at *
  generalize sole4 w2 c 24 = W2 at *
  go_wp2_with ((refine load_row (g := g_a) rfl rfl rfl r_a Try.underlying34 rfl info_cyc ?_))
  refine (SP _).mono ?_; rintro e w3 ⟨rfl, hb3⟩
  replace r_a := r_a.below hb3
  replace r_out := r_out.below hb3
  replace hL := below_next hL hb3
  clear hb3 SP
  go_upto_region 6 with (refine store_row rfl rfl rfl rfl (RowAt.newAt zero4 rfl) info_surd ?_)
  show Code.wp _ _ _ _ (sole4 w3 c 24)
  replace r_a := sole_keep4 r_a c 24
  replace r_out := sole_keep4 r_out c 24
  have r_want := sole_first4 w3 c 24
  replace hL := sole_below4 hL c 24
  generalize w3.heap.size = g_want at *
  generalize sole4 w3 c 24 = W3 at *
  have p0 := r_out.cell (k := 0) (by omega)
  have p1 := r_out.cell (k := 1) (by omega)
  have p2 := r_out.cell (k := 2) (by omega)
  have p3 := r_out.cell (k := 3) (by omega)
  have q0 := r_want.cell (k := 0) (by omega)
  have q1 := r_want.cell (k := 1) (by omega)
  have q2 := r_want.cell (k := 2) (by omega)
  have q3 := r_want.cell (k := 3) (by omega)
  have EQ := fun w => eqs_cells c w
  cases v
  · go_wp2_with fail
    go_ret
    exact ⟨rfl, hL⟩
  go_upto_region 8 with fail
  clear EQ p0 q0 p1 q1 p2 q2 p3 q3 r_want
  obtain ⟨va, _, _, vc, hc⟩ := HK.out rfl
  replace hc : c = nrm a := hc
  obtain ⟨z, hz⟩ : ∃ z, z = sgf c := ⟨_, rfl⟩
  have K1 := fun w => SurdSign_yes (z := z) vc hz.symm w
  obtain ⟨d, v1, K2, k2⟩ := know_turned a 5 (by omega)
  obtain ⟨x, v2, K3, E1⟩ := Norm_same (m := d) a v1 (fun e => by rw [(k2 e).2.2]; exact nrm_trn a 5 (by omega)) hc
  obtain ⟨m, v3, -, K4, k4⟩ := know_CycMirror a
  obtain ⟨y, v4, K5, E2⟩ := Norm_same (m := m) a v3 (fun e => by rw [(k4 e).2.2]; exact nrm_mir a) hc
  have HE1 := Lib.hid E1; have HE2 := Lib.hid E2
  obtain ⟨q, hq⟩ : ∃ q : Bool, q = eqv 8 a nul := ⟨_, rfl⟩
  have z1 : (z == 1) = !q := by rw [hz, hq, hc]; exact norm_is a
  have z0 : 0 ≤ z := by rw [hz, hc]; exact norm_least a
  have EC := fun w => eqc_nul a w
  rw [← hq] at EC
  clear E1 E2 k2 k4 hc va vc HK hz hq
  have HZ := Lib.hid z1; have HEC := Lib.hid EC; clear z1 EC
  go_wp2_with ((refine load_row (g := g_out) rfl rfl rfl r_out Try.underlying24 rfl info_surd ?_))
  refine (K1 _).mono ?_; rintro e w4 ⟨rfl, hb4⟩
  replace r_a := r_a.below hb4
  replace r_out := r_out.below hb4
  replace hL := below_next hL hb4
  clear hb4 K1
  go_upto_region 9 with fail
  go_wp2_with ((refine load_row (g := g_a) rfl rfl rfl r_a Try.underlying34 rfl info_cyc ?_))
  refine (K2 _).mono ?_; rintro e w5 ⟨rfl, hb5⟩
  replace r_a := r_a.below hb5
  replace r_out := r_out.below hb5
  replace hL := below_next hL hb5
  clear hb5 K2
  go_upto_region 10 with (refine store_row rfl rfl rfl rfl (RowAt.newAt zero8 rfl) info_cyc ?_)
  show Code.wp _ _ _ _ (sole w5 d 34)
  replace r_a := sole_keep r_a d 34
  replace r_out := sole_keep r_out d 34
  have r_d := sole_first w5 d 34
  replace hL := sole_below hL d 34
  generalize w5.heap.size = g_d at *
  generalize sole w5 d 34 = W5 at *
  go_wp2_with ((refine load_row (g := g_d) rfl rfl rfl r_d Try.underlying34 rfl info_cyc ?_))
  refine (K3 _).mono ?_; rintro e w6 ⟨rfl, hb6⟩
  replace r_a := r_a.below hb6
  replace r_out := r_out.below hb6
  replace r_d := r_d.below hb6
  replace hL := below_next hL hb6
  clear hb6 K3
  go_upto_region 11 with (refine store_row rfl rfl rfl rfl (RowAt.newAt zero4 rfl) info_surd ?_)
  show Code.wp _ _ _ _ (sole4 w6 x 24)
  replace r_a := sole_keep4 r_a x 24
  replace r_out := sole_keep4 r_out x 24
  replace r_d := sole_keep4 r_d x 24
  have r_x := sole_first4 w6 x 24
  replace hL := sole_below4 hL x 24
  generalize w6.heap.size = g_x at *
  generalize sole4 w6 x 24 = W6 at *
  go_wp2_with ((refine load_row (g := g_a) rfl rfl rfl r_a Try.underlying34 rfl info_cyc ?_))
  refine (K4 _).mono ?_; rintro e w7 ⟨rfl, hb7⟩
  replace r_a := r_a.below hb7
  replace r_out := r_out.below hb7
  replace r_d := r_d.below hb7
  replace r_x := r_x.below hb7
  replace hL := below_next hL hb7
  clear hb7 K4
  go_upto_region 12 with (refine store_row rfl rfl rfl rfl (RowAt.newAt zero8 rfl) info_cyc ?_)
  show Code.wp _ _ _ _ (sole w7 m 34)
  replace r_a := sole_keep r_a m 34
  replace r_out := sole_keep r_out m 34
  replace r_d := sole_keep r_d m 34
  replace r_x := sole_keep r_x m 34
  have r_m := sole_first w7 m 34
  replace hL := sole_below hL m 34
  generalize w7.heap.size = g_m at *
  generalize sole w7 m 34 = W7 at *
  go_wp2_with ((refine load_row (g := g_m) rfl rfl rfl r_m Try.underlying34 rfl info_cyc ?_))
  refine (K5 _).mono ?_; rintro e w8 ⟨rfl, hb8⟩
  replace r_a := r_a.below hb8
  replace r_out := r_out.below hb8
  replace r_d := r_d.below hb8
  replace r_x := r_x.below hb8
  replace r_m := r_m.below hb8
  replace hL := below_next hL hb8
  clear hb8 K5
  go_upto_region 13 with (refine store_row rfl rfl rfl rfl (RowAt.newAt zero4 rfl) info_surd ?_)
  show Code.wp _ _ _ _ (sole4 w8 y 24)
  replace r_a := sole_keep4 r_a y 24
  replace r_out := sole_keep4 r_out y 24
  replace r_d := sole_keep4 r_d y 24
  replace r_x := sole_keep4 r_x y 24
  replace r_m := sole_keep4 r_m y 24
  have r_y := sole_first4 w8 y 24
  replace hL := sole_below4 hL y 24
  generalize w8.heap.size = g_y at *
  generalize sole4 w8 y 24 = W8 at *
  have q0 := r_out.cell (k := 0) (by omega)
  have q1 := r_out.cell (k := 1) (by omega)
  have q2 := r_out.cell (k := 2) (by omega)
  have q3 := r_out.cell (k := 3) (by omega)
  have s0 := r_a.cell (k := 0) (by omega)
  have s1 := r_a.cell (k := 1) (by omega)
  have s2 := r_a.cell (k := 2) (by omega)
  have s3 := r_a.cell (k := 3) (by omega)
  have s4 := r_a.cell (k := 4) (by omega)
  have s5 := r_a.cell (k := 5) (by omega)
  have s6 := r_a.cell (k := 6) (by omega)
  have s7 := r_a.cell (k := 7) (by omega)
  have EQ := fun w => eqs_cells c w
  have EC := HEC.out
  clear HEC
  cases v1
  · cases v3
    · clear HE1 HE2
      have z1 := HZ.out
      clear HZ
      cases q
      · have z2 : z = 1 := by simpa using z1
        subst z2
        clear z1
        go_wp2_with fail
        go_ret
        exact ⟨rfl, hL⟩
      · go_wp2_with fail
        go_ret
        exact ⟨rfl, hL⟩
    cases v4
    · clear HE1 HE2
      have z1 := HZ.out
      clear HZ
      cases q
      · have z2 : z = 1 := by simpa using z1
        subst z2
        clear z1
        go_wp2_with fail
        go_ret
        exact ⟨rfl, hL⟩
      · go_wp2_with fail
        go_ret
        exact ⟨rfl, hL⟩
    obtain rfl := HE2.out rfl rfl
    have t0 := r_y.cell (k := 0) (by omega)
    have t1 := r_y.cell (k := 1) (by omega)
    have t2 := r_y.cell (k := 2) (by omega)
    have t3 := r_y.cell (k := 3) (by omega)
    clear HE1 HE2
    have z1 := HZ.out
    clear HZ
    cases q
    · have z2 : z = 1 := by simpa using z1
      subst z2
      clear z1
      go_wp2_with fail
      go_ret
      exact ⟨rfl, hL⟩
    · go_wp2_with fail
      go_ret
      exact ⟨rfl, hL⟩
  cases v2
  · cases v3
    · clear HE1 HE2
      have z1 := HZ.out
      clear HZ
      cases q
      · have z2 : z = 1 := by simpa using z1
        subst z2
        clear z1
        go_wp2_with fail
        go_ret
        exact ⟨rfl, hL⟩
      · go_wp2_with fail
        go_ret
        exact ⟨rfl, hL⟩
    cases v4
    · clear HE1 HE2
      have z1 := HZ.out
      clear HZ
      cases q
      · have z2 : z = 1 := by simpa using z1
        subst z2
        clear z1
        go_wp2_with fail
        go_ret
        exact ⟨rfl, hL⟩
      · go_wp2_with fail
        go_ret
        exact ⟨rfl, hL⟩
    obtain rfl := HE2.out rfl rfl
    have t0 := r_y.cell (k := 0) (by omega)
    have t1 := r_y.cell (k := 1) (by omega)
    have t2 := r_y.cell (k := 2) (by omega)
    have t3 := r_y.cell (k := 3) (by omega)
    clear HE1 HE2
    have z1 := HZ.out
    clear HZ
    cases q
    · have z2 : z = 1 := by simpa using z1
      subst z2
      clear z1
      go_wp2_with fail
      go_ret
      exact ⟨rfl, hL⟩
    · go_wp2_with fail
      go_ret
      exact ⟨rfl, hL⟩
  obtain rfl := HE1.out rfl rfl
  have p0 := r_x.cell (k := 0) (by omega)
  have p1 := r_x.cell (k := 1) (by omega)
  have p2 := r_x.cell (k := 2) (by omega)
  have p3 := r_x.cell (k := 3) (by omega)
  cases v3
  · clear HE1 HE2
    have z1 := HZ.out
    clear HZ
    cases q
    · have z2 : z = 1 := by simpa using z1
      subst z2
      clear z1
      go_wp2_with fail
      go_ret
      exact ⟨rfl, hL⟩
    · go_wp2_with fail
      go_ret
      exact ⟨rfl, hL⟩
  cases v4
  · clear HE1 HE2
    have z1 := HZ.out
    clear HZ
    cases q
    · have z2 : z = 1 := by simpa using z1
      subst z2
      clear z1
      go_wp2_with fail
      go_ret
      exact ⟨rfl, hL⟩
    · go_wp2_with fail
      go_ret
      exact ⟨rfl, hL⟩
  obtain rfl := HE2.out rfl rfl
  have t0 := r_y.cell (k := 0) (by omega)
  have t1 := r_y.cell (k := 1) (by omega)
  have t2 := r_y.cell (k := 2) (by omega)
  have t3 := r_y.cell (k := 3) (by omega)
  clear HE1 HE2
  have z1 := HZ.out
  clear HZ
  cases q
  · have z2 : z = 1 := by simpa using z1
    subst z2
    clear z1
    go_wp2_with fail
    go_ret
    exact ⟨rfl, hL⟩
  · go_wp2_with fail
    go_ret
    exact ⟨rfl, hL⟩
end Go.Proofs.Ytcdlenphgenejaa
