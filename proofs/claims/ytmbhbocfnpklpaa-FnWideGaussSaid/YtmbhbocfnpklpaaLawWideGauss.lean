/-
  The walk of the law FnWideGauss.
-/
import Derived.Test.YtmbhbocfnpklpaaWideH
import Derived.Test.YtmbhbocfnpklpaaLawCycBase
namespace Go.Proofs.Ytmbhbocfnpklpaa
set_option maxRecDepth 20000
open Go.ChangeShapes Go.WideShapes Go.ChangeAt Go.RowKit
set_option linter.unusedVariables false
set_option linter.unusedSimpArgs false

theorem rnd_int {p : Nat} {i : Int} (h : i.natAbs < 2 ^ (p + 1)) : rnd p (i * 2 ^ 110) = i * 2 ^ 110 := by
  have e : i * 2 ^ 110 = sgnd (decide (i < 0)) (i.natAbs * 2 ^ 110) := by rw [← sgnd_mul, sgnd_of, cast_powI]
  rw [e, rnd_exact h]
theorem tm_gau {p : Nat} {n r : Int} {I : Int} (hr : (n = 0 ∧ I = 0) ∨ (r = 0 ∧ I = 0) ∨ (r = 2 ^ 110 ∧ I = n * 2 ^ 110)) (h : rnd p (n * 2 ^ 110) = n * 2 ^ 110) : tmV p n r = I := by
  unfold tmV
  rcases hr with ⟨rfl, rfl⟩ | ⟨rfl, rfl⟩ | ⟨rfl, rfl⟩
  · rw [Int.zero_mul, rnd_zero]
  · rw [Int.mul_zero, rnd_zero]
  · exact h
/-- One term alone. -/
theorem sm_one {p : Nat} {h : Nat → Int} {I : Int} (hI : rnd p I = I) (k : Nat) (hk : h k = I) (h0 : ∀ j, j ≠ k → h j = 0) : ∀ n, smV p h n = if k < n then I else 0
  | 0 => by rw [if_neg (by omega)]; rfl
  | n + 1 => by
    have e : smV p h (n + 1) = rnd p (smV p h n + h n) := rfl
    rw [e, sm_one hI k hk h0 n]
    by_cases hn : n = k
    · subst hn
      rw [if_neg (by omega), if_pos (by omega), hk, Int.zero_add, hI]
    · rw [h0 n hn, Int.add_zero]
      by_cases hl : k < n
      · rw [if_pos hl, if_pos (by omega), hI]
      · rw [if_neg hl, if_neg (by omega), rnd_zero]
theorem gau_points {i j : Int} (hi : -20 ≤ i ∧ i ≤ 20) (hj : -20 ≤ j ∧ j ≤ 20) : vwr (gau i j) 8 = i * 2 ^ 110 ∧ vwi (gau i j) 8 = j * 2 ^ 110 ∧ vsr (gau i j) 8 = i * 2 ^ 110 ∧ vsi (gau i j) 8 = j * 2 ^ 110 := by
  have h2 : (2 : Int) ^ 110 = 1298074214633706907132624082305024 := by decide
  have rd : ∀ n : Int, -20 ≤ n ∧ n ≤ 20 → rnd 52 (n * 2 ^ 110) = n * 2 ^ 110 := fun n hn => rnd_int (Nat.lt_of_le_of_lt (show n.natAbs ≤ 20 by omega) (by decide))
  have rs : ∀ n : Int, -20 ≤ n ∧ n ≤ 20 → rnd 23 (n * 2 ^ 110) = n * 2 ^ 110 := fun n hn => rnd_int (Nat.lt_of_le_of_lt (show n.natAbs ≤ 20 by omega) (by decide))
  have g0 : gau i j 0 = i := rfl
  have g6 : gau i j 6 = j := rfl
  have gz : ∀ k, k ≠ 0 → k ≠ 6 → gau i j k = 0 := fun k h0 h6 => by unfold gau; rw [if_neg h0, if_neg h6]
  refine ⟨?_, ?_, ?_, ?_⟩
  · unfold vwr
    rw [sm_one (I := i * 2 ^ 110) (rd i hi) 0 (tm_gau (Or.inr (Or.inr ⟨by rw [h2]; rfl, by rw [g0]⟩)) (by rw [g0]; exact rd i hi)) (fun q hq => by
      by_cases h6 : q = 6
      · subst h6; exact tm_gau (Or.inr (Or.inl ⟨rfl, rfl⟩)) (by rw [g6]; exact rd j hj)
      · exact tm_gau (Or.inl ⟨gz q (by omega) (by omega), rfl⟩) (by rw [gz q (by omega) (by omega)]; exact rd 0 (by decide))) 8, if_pos (by decide)]
  · unfold vwi
    rw [sm_one (I := j * 2 ^ 110) (rd j hj) 6 (tm_gau (Or.inr (Or.inr ⟨by rw [h2]; rfl, by rw [g6]⟩)) (by rw [g6]; exact rd j hj)) (fun q hq => by
      by_cases h6 : q = 0
      · subst h6; exact tm_gau (Or.inr (Or.inl ⟨rfl, rfl⟩)) (by rw [g0]; exact rd i hi)
      · exact tm_gau (Or.inl ⟨gz q (by omega) (by omega), rfl⟩) (by rw [gz q (by omega) (by omega)]; exact rd 0 (by decide))) 8, if_pos (by decide)]
  · unfold vsr
    rw [sm_one (I := i * 2 ^ 110) (rs i hi) 0 (tm_gau (Or.inr (Or.inr ⟨by rw [h2]; rfl, by rw [g0]⟩)) (by rw [g0]; exact rs i hi)) (fun q hq => by
      by_cases h6 : q = 6
      · subst h6; exact tm_gau (Or.inr (Or.inl ⟨rfl, rfl⟩)) (by rw [g6]; exact rs j hj)
      · exact tm_gau (Or.inl ⟨gz q (by omega) (by omega), rfl⟩) (by rw [gz q (by omega) (by omega)]; exact rs 0 (by decide))) 8, if_pos (by decide)]
  · unfold vsi
    rw [sm_one (I := j * 2 ^ 110) (rs j hj) 6 (tm_gau (Or.inr (Or.inr ⟨by rw [h2]; rfl, by rw [g6]⟩)) (by rw [g6]; exact rs j hj)) (fun q hq => by
      by_cases h6 : q = 0
      · subst h6; exact tm_gau (Or.inr (Or.inl ⟨rfl, rfl⟩)) (by rw [g0]; exact rs i hi)
      · exact tm_gau (Or.inl ⟨gz q (by omega) (by omega), rfl⟩) (by rw [gz q (by omega) (by omega)]; exact rs 0 (by decide))) 8, if_pos (by decide)]
theorem gau_fit {i j : Int} (hi : -20 ≤ i ∧ i ≤ 20) (hj : -20 ≤ j ∧ j ≤ 20) : fitb (gau i j) = true := by
  obtain ⟨e1, e2, e3, e4⟩ := gau_points hi hj
  unfold fitb
  rw [e1, e2, e3, e4, Int.compare_eq_eq.2 rfl, Int.compare_eq_eq.2 rfl]; rfl
theorem gau_okc {i j : Int} (hi : -20 ≤ i ∧ i ≤ 20) (hj : -20 ≤ j ∧ j ≤ 20) : okc (gau i j) = true := by
  refine inR_okc fun k hk => ?_
  unfold gau
  split
  · omega
  · split <;> omega

set_option maxHeartbeats 4000000 in
theorem lawFnWideGauss_walk (v : Value) (w : World) (h : CodeAt w v) : Calls Try.prog 7 #[v] w (Fine w) := by
  have D := Lib.hid (drawWideGauss v w h)
  obtain ⟨pa, pn, pc, rfl, hpn⟩ := code_length h
  clear h
  by_cases hbig : 1048576 < pn
  · have hb : (1048576 : Int) < (pn : Int) := by omega
    go_enter Try.func7, Try.ntmps7
    go_wp2_with fail
    go_ret
    exact fine_same ⟨rfl, rfl⟩
  have hb : ¬ (1048576 : Int) < (pn : Int) := by omega
  go_enter Try.func7, Try.ntmps7
  go_wp2_with fail
  refine D.out.mono ?_; rintro e w1 ⟨x, y, rfl, hk, hL⟩
  clear D hb hbig
  have both : ∃ c v, (∀ w, Calls Try.prog 36 #[cw x y] w fun e w' => e = .returned (.tuple #[pt c, .bool v]) ∧ Below w.heap.size w w') ∧ (∀ w, Calls Try.prog 37 #[cw x y] w fun e w' => e = .returned (.tuple #[pt c, .bool v]) ∧ Below w.heap.size w w') ∧
      (v = true → ∃ a b : Nat, okc c = true ∧ fitb c = true ∧ (∀ w, Calls Try.prog 20 #[pt c] w fun e w' => e = .returned (.tuple #[cw a b, .bool true]) ∧ Below w.heap.size w w') ∧ (∀ t w, (binOp .eql t (cw a b) (cw x y)).run Try.prog w = .ok (.bool true) w)) := by
    rcases drawn_gauss hk with ⟨i, j, ⟨i0, i1, j0, j1⟩, vx, vy, ⟨cx, wx⟩, cy, wy⟩ | ⟨I, S⟩
    · have va := gau_okc ⟨i0, i1⟩ ⟨j0, j1⟩
      refine ⟨gau i j, true, fun w => WideGauss_yes cx cy va w, fun w => specWideGauss_yes wx wy va w, fun _ => ⟨wpr (gau i j) 8, wpi (gau i j) 8, va, gau_fit ⟨i0, i1⟩ ⟨j0, j1⟩, fun w => WidePoint_yes _ va w, fun t w => ?_⟩⟩
      have hv := wide_val (okc_inR va) 8 (Nat.le_refl _)
      obtain ⟨e1, e2, -, -⟩ := gau_points ⟨i0, i1⟩ ⟨j0, j1⟩
      rw [e1, e2] at hv
      exact run_ceq (by rw [show FloatKind.f64.format = Ieee.double from rfl, order_val hv.1.1 vx, Int.compare_eq_eq.2 rfl]) (by rw [show FloatKind.f64.format = Ieee.double from rfl, order_val hv.2.1 vy, Int.compare_eq_eq.2 rfl]) t w
    · exact ⟨nul, false, I, S, fun h => by cases h⟩
  obtain ⟨c, v, IM, SP, hk2⟩ := both
  clear hk
  have sc := vec_size 8 c
  unfold pt cw at *
  go_wp2_with fail
  refine (IM _).mono ?_; rintro e w3 ⟨rfl, hb3⟩
  replace hL := below_next hL hb3
  clear hb3 IM
  go_upto_region 5 with (refine store_row rfl rfl rfl rfl (RowAt.newAt zero8 rfl) info_cyc ?_)
  show Code.wp _ _ _ _ (sole w3 c 30)
  have r_out := sole_first w3 c 30
  replace hL := sole_below hL c 30
  generalize w3.heap.size = g_out at *
  generalize sole w3 c 30 = W3 at *
  go_wp2_with fail
  refine (SP _).mono ?_; rintro e w4 ⟨rfl, hb4⟩
  replace r_out := r_out.below hb4
  replace hL := below_next hL hb4
  clear hb4 SP
  go_upto_region 6 with (refine store_row rfl rfl rfl rfl (RowAt.newAt zero8 rfl) info_cyc ?_)
  show Code.wp _ _ _ _ (sole w4 c 30)
  replace r_out := sole_keep r_out c 30
  have r_want := sole_first w4 c 30
  replace hL := sole_below hL c 30
  generalize w4.heap.size = g_want at *
  generalize sole w4 c 30 = W4 at *
  have p0 := r_out.cell (k := 0) (by omega)
  have p1 := r_out.cell (k := 1) (by omega)
  have p2 := r_out.cell (k := 2) (by omega)
  have p3 := r_out.cell (k := 3) (by omega)
  have p4 := r_out.cell (k := 4) (by omega)
  have p5 := r_out.cell (k := 5) (by omega)
  have p6 := r_out.cell (k := 6) (by omega)
  have p7 := r_out.cell (k := 7) (by omega)
  have q0 := r_want.cell (k := 0) (by omega)
  have q1 := r_want.cell (k := 1) (by omega)
  have q2 := r_want.cell (k := 2) (by omega)
  have q3 := r_want.cell (k := 3) (by omega)
  have q4 := r_want.cell (k := 4) (by omega)
  have q5 := r_want.cell (k := 5) (by omega)
  have q6 := r_want.cell (k := 6) (by omega)
  have q7 := r_want.cell (k := 7) (by omega)
  have EQ := fun w => eq_cells c w
  cases v
  · clear hk2
    go_wp2_with fail
    go_ret
    exact ⟨rfl, hL⟩
  obtain ⟨a, b, va, fa, WP, CE⟩ := hk2 rfl
  have PF := fun w => PointsFit_yes c va w
  rw [fa] at PF
  unfold pt at *
  clear hk2 va fa
  go_upto_region 8 with fail
  clear EQ p0 q0 p1 q1 p2 q2 p3 q3 p4 q4 p5 q5 p6 q6 p7 q7 r_want
  go_wp2_with (refine load_row rfl rfl rfl r_out Try.underlying30 rfl info_cyc ?_)
  refine (WP _).mono ?_; rintro e w5 ⟨rfl, hb5⟩
  replace r_out := r_out.below hb5
  replace hL := below_next hL hb5
  clear hb5 WP
  have p0 := r_out.cell (k := 0) (by omega)
  have p1 := r_out.cell (k := 1) (by omega)
  have p2 := r_out.cell (k := 2) (by omega)
  have p3 := r_out.cell (k := 3) (by omega)
  have p4 := r_out.cell (k := 4) (by omega)
  have p5 := r_out.cell (k := 5) (by omega)
  have p6 := r_out.cell (k := 6) (by omega)
  have p7 := r_out.cell (k := 7) (by omega)
  go_wp2_with (rw [CE])
  refine (PF _).mono ?_; rintro e w6 ⟨rfl, hb6⟩
  replace hL := below_next hL hb6
  clear hb6 PF r_out
  go_wp2_with fail
  go_ret
  exact ⟨rfl, hL⟩
end Go.Proofs.Ytmbhbocfnpklpaa
