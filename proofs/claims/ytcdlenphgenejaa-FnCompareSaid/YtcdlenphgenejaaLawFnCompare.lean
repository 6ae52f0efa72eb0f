/-
  The walk of the law FnCompare.
-/
import Derived.Test.YtcdlenphgenejaaLawSurdBase
namespace Go.Proofs.Ytcdlenphgenejaa
set_option maxRecDepth 20000
open Go.ChangeShapes Go.WideShapes Go.ChangeAt Go.RowKit
set_option linter.unusedVariables false
set_option linter.unusedSimpArgs false

set_option maxHeartbeats 4000000 in
theorem lawFnCompare_walk (v : Value) (w : World) (h : CodeAt w v) : Calls Try.prog 9 #[v] w (Fine w) := by
  have D := Lib.hid (drawSurdCompare v w h)
  obtain ⟨pa, pn, pc, rfl, hpn⟩ := code_length h
  clear h
  by_cases hbig : 1048576 < pn
  · have hb : (1048576 : Int) < (pn : Int) := by omega
    go_enter Try.func9, Try.ntmps9
    go_wp2_with fail
    go_ret
    exact fine_same ⟨rfl, rfl⟩
  have hb : ¬ (1048576 : Int) < (pn : Int) := by omega
  go_enter Try.func9, Try.ntmps9
  go_wp2_with fail
  refine D.out.mono ?_; rintro e w1 ⟨a, b, rfl, hL⟩
  clear D
  have hS6 := pair_first4 w1 24
  have hS7 := pair_second4 w1 a 24
  go_upto_region 4 with (first | (refine store_row (g := w1.heap.size) rfl rfl rfl rfl hS6 info_surd ?_) | (refine store_row (g := w1.heap.size + 1) rfl rfl rfl rfl hS7 info_surd ?_))
  clear hS6 hS7
  show Code.wp _ _ _ _ (two4 w1 a b 24)
  have r_a := two_first4 w1 a b 24
  have r_b := two_second4 w1 a b 24
  replace hL := two_below4 hL a b 24
  generalize w1.heap.size = g_a at *
  generalize two4 w1 a b 24 = W1 at *
  obtain ⟨z, v, SP, IM, hk⟩ := know_SurdCompare a b
  have HK := Lib.hid hk; clear hk
  go_wp2_with (first | (refine load_row (g := g_a) rfl rfl rfl r_a Try.underlying24 rfl info_surd ?_) | (refine load_row rfl rfl rfl r_b Try.underlying24 rfl info_surd ?_))
  refine (IM _).mono ?_; rintro e w2 ⟨rfl, hb2⟩
  replace r_a := r_a.below hb2
  replace r_b := r_b.below hb2
  replace hL := below_next hL hb2
  clear hb2 IM
  go_upto_region 5 with fail
  go_wp2_with (first | (refine load_row (g := g_a) rfl rfl rfl r_a Try.underlying24 rfl info_surd ?_) | (refine load_row rfl rfl rfl r_b Try.underlying24 rfl info_surd ?_))
  refine (SP _).mono ?_; rintro e w3 ⟨rfl, hb3⟩
  replace r_a := r_a.below hb3
  replace r_b := r_b.below hb3
  replace hL := below_next hL hb3
  clear hb3 SP
  go_upto_region 6 with fail
  cases v
  · go_wp2_with fail
    go_ret
    exact ⟨rfl, hL⟩
  go_upto_region 8 with fail
  obtain ⟨hv, hz⟩ := HK.out
  replace hz := hz rfl
  obtain ⟨va, vb⟩ : okf a = true ∧ okf b = true := by simpa using hv.symm
  obtain ⟨t, ht⟩ : ∃ t, t = -z := ⟨_, rfl⟩
  have K1 := fun w => SurdCompare_yes (z := t) vb va (by rw [ht, hz]; exact sgf_neg fun j _ => by simp only [sub]; omega) w
  have zz : -1 ≤ z ∧ z ≤ 1 := by rw [hz]; exact sgf_in _
  obtain ⟨q, hq⟩ : ∃ q : Bool, q = (a 0 == b 0 && a 1 == b 1 && a 2 == b 2 && a 3 == b 3) := ⟨_, rfl⟩
  have EQ := fun w => eq_four 24 (.inl rfl) (a 0) (a 1) (a 2) (a 3) (b 0) (b 1) (b 2) (b 3) w
  rw [← hq] at EQ
  have zq : (z == 0) = q := by
    rw [hz, hq, Bool.eq_iff_iff]
    simp only [beq_iff_eq, Bool.and_eq_true]
    unfold sgf
    rw [sg4_zero]
    simp only [sub]
    constructor
    · rintro ⟨e0, e1, e2, e3⟩; exact ⟨⟨⟨by omega, by omega⟩, by omega⟩, by omega⟩
    · rintro ⟨⟨⟨e0, e1⟩, e2⟩, e3⟩; exact ⟨by omega, by omega, by omega, by omega⟩
  have tz : (t == -z) = true := by simpa using ht
  clear hz hv va vb HK ht hq
  go_wp2_with (first | (refine load_row rfl rfl rfl r_b Try.underlying24 rfl info_surd ?_) | (refine load_row (g := g_a) rfl rfl rfl r_a Try.underlying24 rfl info_surd ?_))
  refine (K1 _).mono ?_; rintro e w4 ⟨rfl, hb4⟩
  replace r_a := r_a.below hb4
  replace r_b := r_b.below hb4
  replace hL := below_next hL hb4
  clear hb4 K1
  go_upto_region 9 with fail
  have p0 := r_a.cell (k := 0) (by omega)
  have p1 := r_a.cell (k := 1) (by omega)
  have p2 := r_a.cell (k := 2) (by omega)
  have p3 := r_a.cell (k := 3) (by omega)
  have q0 := r_b.cell (k := 0) (by omega)
  have q1 := r_b.cell (k := 1) (by omega)
  have q2 := r_b.cell (k := 2) (by omega)
  have q3 := r_b.cell (k := 3) (by omega)
  cases q
  · go_wp2_with fail
    go_ret
    exact ⟨rfl, hL⟩
  · go_wp2_with fail
    go_ret
    exact ⟨rfl, hL⟩
end Go.Proofs.Ytcdlenphgenejaa
