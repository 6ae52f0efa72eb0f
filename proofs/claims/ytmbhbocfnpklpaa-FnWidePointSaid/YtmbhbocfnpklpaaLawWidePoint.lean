/-
  The walk of the law FnWidePoint.
-/
import Derived.Test.YtmbhbocfnpklpaaLawWideBase
namespace Go.Proofs.Ytmbhbocfnpklpaa
set_option maxRecDepth 20000
open Go.ChangeShapes Go.WideShapes Go.ChangeAt Go.RowKit
set_option linter.unusedVariables false
set_option linter.unusedSimpArgs false

set_option maxHeartbeats 4000000 in
theorem lawFnWidePoint_walk (v : Value) (w : World) (h : CodeAt w v) : Calls Try.prog 5 #[v] w (Fine w) := by
  have D := Lib.hid (drawWidePoint v w h)
  obtain ⟨pa, pn, pc, rfl, hpn⟩ := code_length h
  clear h
  by_cases hbig : 1048576 < pn
  · have hb : (1048576 : Int) < (pn : Int) := by omega
    go_enter Try.func5, Try.ntmps5
    go_wp2_with fail
    go_ret
    exact fine_same ⟨rfl, rfl⟩
  have hb : ¬ (1048576 : Int) < (pn : Int) := by omega
  go_enter Try.func5, Try.ntmps5
  go_wp2_with fail
  refine D.out.mono ?_; rintro e w1 ⟨a, rfl, hL⟩
  clear D hb hbig
  have sa := vec_size 8 a
  go_upto_region 4 with (refine store_row rfl rfl rfl rfl (RowAt.newAt zero8 rfl) info_cyc ?_)
  show Code.wp _ _ _ _ (sole w1 a 30)
  have r_a := sole_first w1 a 30
  replace hL := sole_below hL a 30
  generalize w1.heap.size = g_a at *
  generalize sole w1 a 30 = W1 at *
  cases va : okc a
  · have SP := fun w => specWidePoint_no a va w
    have IM := fun w => WidePoint_no a va w
    have Q := fun w => wideAlike_same 0 0 nn_zero nn_zero w
    unfold pt cw at *
    go_wp2_with (refine load_row rfl rfl rfl r_a Try.underlying30 rfl info_cyc ?_)
    refine (IM _).mono ?_; rintro e w3 ⟨rfl, hb3⟩
    replace r_a := r_a.below hb3
    replace hL := below_next hL hb3
    clear hb3 IM
    go_wp2_with (refine load_row rfl rfl rfl r_a Try.underlying30 rfl info_cyc ?_)
    refine (SP _).mono ?_; rintro e w4 ⟨rfl, hb4⟩
    replace hL := below_next hL hb4
    clear hb4 SP r_a
    go_wp2_with fail
    refine (Q _).mono ?_; rintro e w5 ⟨rfl, rfl⟩
    go_wp2_with fail
    refine (Q _).mono ?_; rintro e w5 ⟨rfl, rfl⟩
    go_wp2_with fail
    go_ret
    exact ⟨rfl, hL⟩
  have SP := fun w => specWidePoint_yes a va w
  have IM := fun w => WidePoint_yes a va w
  have hv := wide_val (okc_inR va) 8 (Nat.le_refl _)
  have hs := sing_val (okc_inR va) 8 (Nat.le_refl _)
  have Q := fun w => wideAlike_same _ _ (nn_val hv.1.1) (nn_val hv.2.1) w
  have CE : ∀ t w, (binOp .eql t (.complex .f64 (wpr a 8) (wpi a 8)) (.complex .f64 (wpr a 8) (wpi a 8))).run Try.prog w = .ok (.bool true) w := fun t w => run_ceq (ord_self (nn_val hv.1.1)) (ord_self (nn_val hv.2.1)) t w
  have SR := fun w => SurdRe_any a va w
  have SI := fun w => SurdIm_any a va w
  have NEAR : (∀ j, j < 8 → -1000 ≤ a j ∧ a j ≤ 1000) → (∃ z, (∀ w, Calls Try.prog 30 #[reaV a] w fun e w' => e = .returned (.float .f64 z) ∧ Below w.heap.size w w') ∧ (∀ w, Calls Try.prog 21 #[.float .f64 (wpr a 8), .float .f64 z, .float .f64 4472406533629990549] w fun e w' => e = .returned (.bool true) ∧ w' = w)) ∧
      (∃ z, (∀ w, Calls Try.prog 30 #[imaV a] w fun e w' => e = .returned (.float .f64 z) ∧ Below w.heap.size w w') ∧ (∀ w, Calls Try.prog 21 #[.float .f64 (wpi a 8), .float .f64 z, .float .f64 4472406533629990549] w fun e w' => e = .returned (.bool true) ∧ w' = w)) := fun hc => ⟨near_re hc hv.1.1, near_im hc hv.2.1⟩
  clear hv hs
  generalize wpr a 8 = x2 at *
  generalize wpi a 8 = y2 at *
  have s4 := vec_size 4 (rea a)
  have t4 := vec_size 4 (ima a)
  unfold pt cw p4 reaV imaV sv at *
  go_wp2_with (refine load_row rfl rfl rfl r_a Try.underlying30 rfl info_cyc ?_)
  refine (IM _).mono ?_; rintro e w3 ⟨rfl, hb3⟩
  replace r_a := r_a.below hb3
  replace hL := below_next hL hb3
  clear hb3 IM
  go_wp2_with (refine load_row rfl rfl rfl r_a Try.underlying30 rfl info_cyc ?_)
  refine (SP _).mono ?_; rintro e w4 ⟨rfl, hb4⟩
  replace r_a := r_a.below hb4
  replace hL := below_next hL hb4
  clear hb4 SP
  go_wp2_with fail
  refine (Q _).mono ?_; rintro e w5 ⟨rfl, rfl⟩
  clear Q
  go_wp2_with fail
  go_loopw [8] (fun i wr => ∃ k : Nat, k ≤ 8 ∧ i = .int .i64 k ∧ (∀ j, j < k → -1000 ≤ a j ∧ a j ≤ 1000) ∧ RowAt wr g_a 8 30 a ∧ Below w.heap.size w wr) (fun i _ => 8 - (intOf i).toNat)
  case atStart => exact ⟨0, Nat.zero_le _, rfl, fun j hj => absurd hj (by omega), r_a, hL⟩
  case round =>
    clear r_a hL
    obtain ⟨k, hk, rfl, hin, hA, hbel⟩ := hrel
    by_cases hlt : k < 8
    · have cA := hA.cell hlt
      have fA := hA.free k
      have hlt' : (k : Int) < 8 := by omega
      have hk0 : (0 : Int) ≤ (k : Int) := by omega
      have HA := Lib.hid hA
      have HL := Lib.hid hbel
      have HI := Lib.hid hin
      have HN := Lib.hid NEAR
      clear hA hbel hin NEAR
      by_cases hc : -1000 ≤ a k ∧ a k ≤ 1000
      · obtain ⟨hc1, hc2⟩ := hc
        have hc3 : ¬ a k > 1000 := by omega
        have hc4 : ¬ a k < -1000 := by omega
        go_wp2_with fail
        go_roundw
        case rel => exact ⟨k + 1, by omega, by go_num, thou_succ HI.out hc1 hc2, HA.out, HL.out⟩
        case measure => simp [intOf]; omega
      · by_cases hc3 : a k > 1000
        · go_wp2_with (rw [CE])
          go_ret
          exact ⟨rfl, HL.out⟩
        · have hc4 : a k < -1000 := by omega
          go_wp2_with (rw [CE])
          go_ret
          exact ⟨rfl, HL.out⟩
    · obtain rfl : k = 8 := by omega
      obtain ⟨⟨z1, F1, N1⟩, z2, F2, N2⟩ := NEAR hin
      clear NEAR hin
      go_wp2_with (refine load_row rfl rfl rfl hA Try.underlying30 rfl info_cyc ?_)
      refine (SR _).mono ?_; rintro e w6 ⟨rfl, hb6⟩
      replace hA := hA.below hb6
      replace hbel := below_next hbel hb6
      clear hb6 SR
      go_upto_region 14 with (refine store_row rfl rfl rfl rfl (RowAt.newAt zero4 rfl) info_surd ?_)
      show Code.wp _ _ _ _ (sole4 w6 (rea a) 43)
      have r_x := sole_first4 w6 (rea a) 43
      replace hA := sole_keep4 hA (rea a) 43
      replace hbel := sole_below4 hbel (rea a) 43
      generalize w6.heap.size = g_x at *
      generalize sole4 w6 (rea a) 43 = W6 at *
      go_wp2_with (refine load_row rfl rfl rfl hA Try.underlying30 rfl info_cyc ?_)
      refine (SI _).mono ?_; rintro e w7 ⟨rfl, hb7⟩
      replace r_x := r_x.below hb7
      replace hbel := below_next hbel hb7
      clear hb7 SI hA
      go_upto_region 15 with (refine store_row rfl rfl rfl rfl (RowAt.newAt zero4 rfl) info_surd ?_)
      show Code.wp _ _ _ _ (sole4 w7 (ima a) 43)
      have r_y := sole_first4 w7 (ima a) 43
      replace r_x := sole_keep4 r_x (ima a) 43
      replace hbel := sole_below4 hbel (ima a) 43
      generalize w7.heap.size = g_y at *
      generalize sole4 w7 (ima a) 43 = W7 at *
      have p0 := r_x.cell (k := 0) (by omega)
      have p1 := r_x.cell (k := 1) (by omega)
      have p2 := r_x.cell (k := 2) (by omega)
      have p3 := r_x.cell (k := 3) (by omega)
      go_wp2_with fail
      refine (F1 _).mono ?_; rintro e w8 ⟨rfl, hb8⟩
      replace r_y := r_y.below hb8
      replace hbel := below_next hbel hb8
      clear p0 p1 p2 p3
      clear hb8 F1 r_x
      have q0 := r_y.cell (k := 0) (by omega)
      have q1 := r_y.cell (k := 1) (by omega)
      have q2 := r_y.cell (k := 2) (by omega)
      have q3 := r_y.cell (k := 3) (by omega)
      go_wp2_with fail
      refine (N1 _).mono ?_; rintro e w9 ⟨rfl, rfl⟩
      go_wp2_with fail
      refine (F2 _).mono ?_; rintro e w10 ⟨rfl, hb10⟩
      replace hbel := below_next hbel hb10
      clear hb10 F2 r_y
      go_wp2_with fail
      refine (N2 _).mono ?_; rintro e w11 ⟨rfl, rfl⟩
      go_wp2_with fail
      go_ret
      exact ⟨rfl, hbel⟩
end Go.Proofs.Ytmbhbocfnpklpaa
