/-
  The walk of the law FnSign.
-/
import Derived.Test.YtcdlenphgenejaaLawFnSign0
namespace Go.Proofs.Ytcdlenphgenejaa
set_option maxRecDepth 20000
open Go.ChangeShapes Go.WideShapes Go.ChangeAt Go.RowKit
set_option linter.unusedVariables false
set_option linter.unusedSimpArgs false

theorem shape_in {a : Nat → Int} (h : Shape a) (va : okf a = true) : (-100 ≤ a 0 ∧ a 0 ≤ 100) ∧ (-100 ≤ a 1 ∧ a 1 ≤ 100) ∧ (-100 ≤ a 2 ∧ a 2 ≤ 100) ∧ (-100 ≤ a 3 ∧ a 3 ≤ 100) := by
  rcases h with rfl | ⟨k, k0, k1, rfl⟩ | rfl | rfl | ⟨x, y, z, u, hx, hy, hz, hu, rfl⟩
  · simp [f4]
  · simp [f4]; omega
  · exact absurd va (by decide)
  · simp [f4]
  · simp [f4]; omega
set_option maxHeartbeats 4000000 in
theorem lawFnSign_walk (v : Value) (w : World) (h : CodeAt w v) : Calls Try.prog 8 #[v] w (Fine w) := by
  have D := Lib.hid (drawSurdSign v w h)
  obtain ⟨pa, pn, pc, rfl, hpn⟩ := code_length h
  clear h
  by_cases hbig : 1048576 < pn
  · have hb : (1048576 : Int) < (pn : Int) := by omega
    go_enter Try.func8, Try.ntmps8
    go_wp2_with fail
    go_ret
    exact fine_same ⟨rfl, rfl⟩
  have hb : ¬ (1048576 : Int) < (pn : Int) := by omega
  go_enter Try.func8, Try.ntmps8
  go_wp2_with fail
  refine D.out.mono ?_; rintro e w1 ⟨a, rfl, hsh, hL⟩
  clear D
  go_upto_region 4 with (refine store_row rfl rfl rfl rfl (RowAt.newAt zero4 rfl) info_surd ?_)
  show Code.wp _ _ _ _ (sole4 w1 a 24)
  have r_a := sole_first4 w1 a 24
  replace hL := sole_below4 hL a 24
  generalize w1.heap.size = g_a at *
  generalize sole4 w1 a 24 = W1 at *
  obtain ⟨z, v, SP, IM, hk⟩ := know_SurdSign a
  have HK := Lib.hid hk; clear hk
  go_wp2_with ((refine load_row (g := g_a) rfl rfl rfl r_a Try.underlying24 rfl info_surd ?_))
  refine (IM _).mono ?_; rintro e w2 ⟨rfl, hb2⟩
  replace r_a := r_a.below hb2
  replace hL := below_next hL hb2
  clear hb2 IM
  go_upto_region 5 with fail
  go_wp2_with ((refine load_row (g := g_a) rfl rfl rfl r_a Try.underlying24 rfl info_surd ?_))
  refine (SP _).mono ?_; rintro e w3 ⟨rfl, hb3⟩
  replace r_a := r_a.below hb3
  replace hL := below_next hL hb3
  clear hb3 SP
  go_upto_region 6 with fail
  cases v
  · go_wp2_with fail
    go_ret
    exact ⟨rfl, hL⟩
  go_upto_region 8 with fail
  obtain ⟨hv, hz⟩ := HK.out
  replace hz := hz rfl
  have va : okf a = true := hv.symm
  obtain ⟨b0, b1, b2, b3⟩ := shape_in hsh va
  obtain ⟨x1, x2, x3, y1, y2, y3, zf, r, h1, h2, h3, h4, h5, h6, h7, nz, r1, r2⟩ := flo (a 0) (a 1) (a 2) (a 3) b0 b1 b2 b3
  have K1 : ∀ w, Calls Try.prog 37 #[.agg (vec 4 a)] w fun e w' => e = .returned (.float .f64 zf) ∧ Below w.heap.size w w' := fun w => floatOf_any (a 0) (a 1) (a 2) (a 3) h1 h2 h3 h4 h5 h6 h7 w
  obtain ⟨f1, f2⟩ := far_sign (a 0) (a 1) (a 2) (a 3) r b1 b2 b3 r1 r2
  have f1' : 1298074214633706934154221846528 < r → z = 1 := fun h => by rw [hz]; exact f1 h
  have f2' : r < -1298074214633706934154221846528 → z = -1 := fun h => by rw [hz]; exact f2 h
  have o1 : FloatKind.f64.format.order zf 4562254508917369340 = some (compare r 1298074214633706934154221846528) := num_order nz milli
  have o2 : FloatKind.f64.format.order zf 13785626545772145148 = some (compare r (-1298074214633706934154221846528)) := num_order nz minus
  obtain ⟨q, hq⟩ : ∃ q : Bool, q = (a 0 == 0 && a 1 == 0 && a 2 == 0 && a 3 == 0) := ⟨_, rfl⟩
  have EQ := fun w => eq_four 24 (.inl rfl) (a 0) (a 1) (a 2) (a 3) 0 0 0 0 w
  rw [← hq] at EQ
  have zq : (z == 0) = q := by
    rw [hz, hq, Bool.eq_iff_iff]
    simp only [beq_iff_eq, Bool.and_eq_true]
    unfold sgf
    rw [sg4_zero]
    constructor
    · rintro ⟨e0, e1, e2, e3⟩; exact ⟨⟨⟨e0, e1⟩, e2⟩, e3⟩
    · rintro ⟨⟨⟨e0, e1⟩, e2⟩, e3⟩; exact ⟨e0, e1, e2, e3⟩
  have c0 : -100000 ≤ a 0 ∧ a 0 ≤ 100000 := by omega
  have c1 : -100000 ≤ a 1 ∧ a 1 ≤ 100000 := by omega
  have c2 : -100000 ≤ a 2 ∧ a 2 ≤ 100000 := by omega
  have c3 : -100000 ≤ a 3 ∧ a 3 ≤ 100000 := by omega
  obtain ⟨c0, d0⟩ := c0
  obtain ⟨c1, d1⟩ := c1
  obtain ⟨c2, d2⟩ := c2
  obtain ⟨c3, d3⟩ := c3
  have HO1 := Lib.hid o1; have HO2 := Lib.hid o2; have HF1 := Lib.hid f1'; have HF2 := Lib.hid f2'; have HZ := Lib.hid zq; have HEQ := Lib.hid EQ
  clear HK hv hz va hsh b0 b1 b2 b3 h1 h2 h3 h4 h5 h6 h7 nz r1 r2 f1 f2 f1' f2' o1 o2 hq EQ zq
  go_wp2_with ((refine load_row (g := g_a) rfl rfl rfl r_a Try.underlying24 rfl info_surd ?_))
  refine (K1 _).mono ?_; rintro e w4 ⟨rfl, hb4⟩
  replace r_a := r_a.below hb4
  replace hL := below_next hL hb4
  clear hb4 K1
  go_upto_region 9 with fail
  have p0 := r_a.cell (k := 0) (by omega)
  have p1 := r_a.cell (k := 1) (by omega)
  have p2 := r_a.cell (k := 2) (by omega)
  have p3 := r_a.cell (k := 3) (by omega)
  have zq := HZ.out; have EQ := HEQ.out
  clear HZ HEQ
  rcases (show r < -1298074214633706934154221846528 ∨ r = -1298074214633706934154221846528 ∨ (-1298074214633706934154221846528 < r ∧ r < 1298074214633706934154221846528) ∨ r = 1298074214633706934154221846528 ∨ 1298074214633706934154221846528 < r by omega) with h | h | h | h | h
  · have g1 : compare r 1298074214633706934154221846528 = Ordering.lt := Int.compare_eq_lt.2 (by omega)
    have g2 : compare r (-1298074214633706934154221846528) = Ordering.lt := Int.compare_eq_lt.2 (by omega)
    have q1 := HO1.out
    have q2 := HO2.out
    rw [g1] at q1
    rw [g2] at q2
    obtain rfl := HF2.out (by omega)
    obtain rfl : q = false := by rw [← zq]; rfl
    clear zq
    clear g1 g2 HO1 HO2 HF1 HF2 h
    go_wp2_with fail
    go_ret
    exact ⟨rfl, hL⟩
  · have g1 : compare r 1298074214633706934154221846528 = Ordering.lt := Int.compare_eq_lt.2 (by omega)
    have g2 : compare r (-1298074214633706934154221846528) = Ordering.eq := Int.compare_eq_eq.2 (by omega)
    have q1 := HO1.out
    have q2 := HO2.out
    rw [g1] at q1
    rw [g2] at q2
    clear g1 g2 HO1 HO2 HF1 HF2 h
    go_wp2_with fail
    go_ret
    exact ⟨rfl, hL⟩
  · have g1 : compare r 1298074214633706934154221846528 = Ordering.lt := Int.compare_eq_lt.2 (by omega)
    have g2 : compare r (-1298074214633706934154221846528) = Ordering.gt := Int.compare_eq_gt.2 (by omega)
    have q1 := HO1.out
    have q2 := HO2.out
    rw [g1] at q1
    rw [g2] at q2
    clear g1 g2 HO1 HO2 HF1 HF2 h
    go_wp2_with fail
    go_ret
    exact ⟨rfl, hL⟩
  · have g1 : compare r 1298074214633706934154221846528 = Ordering.eq := Int.compare_eq_eq.2 (by omega)
    have g2 : compare r (-1298074214633706934154221846528) = Ordering.gt := Int.compare_eq_gt.2 (by omega)
    have q1 := HO1.out
    have q2 := HO2.out
    rw [g1] at q1
    rw [g2] at q2
    clear g1 g2 HO1 HO2 HF1 HF2 h
    go_wp2_with fail
    go_ret
    exact ⟨rfl, hL⟩
  · have g1 : compare r 1298074214633706934154221846528 = Ordering.gt := Int.compare_eq_gt.2 (by omega)
    have g2 : compare r (-1298074214633706934154221846528) = Ordering.gt := Int.compare_eq_gt.2 (by omega)
    have q1 := HO1.out
    have q2 := HO2.out
    rw [g1] at q1
    rw [g2] at q2
    obtain rfl := HF1.out (by omega)
    obtain rfl : q = false := by rw [← zq]; rfl
    clear zq
    clear g1 g2 HO1 HO2 HF1 HF2 h
    go_wp2_with fail
    go_ret
    exact ⟨rfl, hL⟩
end Go.Proofs.Ytcdlenphgenejaa
