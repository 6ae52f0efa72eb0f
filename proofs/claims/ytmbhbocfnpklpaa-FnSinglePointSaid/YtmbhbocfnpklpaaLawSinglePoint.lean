/-
  The walk of the law FnSinglePoint.
-/
import Derived.Test.YtmbhbocfnpklpaaLawWideBase
namespace Go.Proofs.Ytmbhbocfnpklpaa
set_option maxRecDepth 20000
open Go.ChangeShapes Go.WideShapes Go.ChangeAt Go.RowKit
set_option linter.unusedVariables false
set_option linter.unusedSimpArgs false

set_option maxHeartbeats 4000000 in
theorem lawFnSinglePoint_walk (v : Value) (w : World) (h : CodeAt w v) : Calls Try.prog 6 #[v] w (Fine w) := by
  have D := Lib.hid (drawSinglePoint v w h)
  obtain ⟨pa, pn, pc, rfl, hpn⟩ := code_length h
  clear h
  by_cases hbig : 1048576 < pn
  · have hb : (1048576 : Int) < (pn : Int) := by omega
    go_enter Try.func6, Try.ntmps6
    go_wp2_with fail
    go_ret
    exact fine_same ⟨rfl, rfl⟩
  have hb : ¬ (1048576 : Int) < (pn : Int) := by omega
  go_enter Try.func6, Try.ntmps6
  go_wp2_with fail
  refine D.out.mono ?_; rintro e w1 ⟨a, rfl, hL⟩
  clear D hb hbig
  have sa := vec_size 8 a
  go_upto_region 4 with (refine store_row rfl rfl rfl rfl (RowAt.newAt zero8 rfl) info_cyc ?_)
  show Code.wp _ _ _ _ (sole w1 a 30)
  have r_a := sole_first w1 a 30
  replace hL := sole_below hL a 30
  generalize w1.heap.size = g_a at *
  generalize sole w1 a 30 = W1 at *
  cases va : okc a
  · have SP := fun w => specSinglePoint_no a va w
    have IM := fun w => SinglePoint_no a va w
    have Q := fun w => singleAlike_same (a := 0) (b := 0) (x := 0) (y := 0) (by decide +kernel) (by decide +kernel) nn_zero nn_zero w
    unfold pt cs at *
    go_wp2_with (refine load_row rfl rfl rfl r_a Try.underlying30 rfl info_cyc ?_)
    refine (IM _).mono ?_; rintro e w3 ⟨rfl, hb3⟩
    replace r_a := r_a.below hb3
    replace hL := below_next hL hb3
    clear hb3 IM
    go_wp2_with (refine load_row rfl rfl rfl r_a Try.underlying30 rfl info_cyc ?_)
    refine (SP _).mono ?_; rintro e w4 ⟨rfl, hb4⟩
    replace hL := below_next hL hb4
    clear hb4 SP r_a
    go_wp2_with fail
    refine (Q _).mono ?_; rintro e w5 ⟨rfl, rfl⟩
    go_wp2_with fail
    refine (Q _).mono ?_; rintro e w5 ⟨rfl, rfl⟩
    go_wp2_with fail
    go_ret
    exact ⟨rfl, hL⟩
  have SP := fun w => specSinglePoint_yes a va w
  have IM := fun w => SinglePoint_yes a va w
  have hv := wide_val (okc_inR va) 8 (Nat.le_refl _)
  have hs := sing_val (okc_inR va) 8 (Nat.le_refl _)
  obtain ⟨p, q, hp, hq, vp, vq⟩ := single_val va
  have Q := fun w => singleAlike_same hp hq (nn_val vp) (nn_val vq) w
  have RC := fun w => run_wider hp hq w
  have CE : ∀ t w, (binOp .eql t (.complex .f32 (spr a 8) (spi a 8)) (.complex .f32 (spr a 8) (spi a 8))).run Try.prog w = .ok (.bool true) w := fun t w => run_ceqS (ord_selfS hs.1.1) (ord_selfS hs.2.1) t w
  have WP := fun w => WidePoint_yes a va w
  have NEAR : (∀ j, j < 8 → -1000 ≤ a j ∧ a j ≤ 1000) → ∀ w, Calls Try.prog 34 #[.complex .f64 p q, .complex .f64 (wpr a 8) (wpi a 8), .float .f64 4576918229304087675] w fun e w' => e = .returned (.bool true) ∧ w' = w := fun hc w => near_hundredth hc vp vq hv.1.1 hv.2.1 w
  clear hp hq vp vq hv hs
  generalize spr a 8 = x1 at *
  generalize spi a 8 = y1 at *
  generalize wpr a 8 = x2 at *
  generalize wpi a 8 = y2 at *
  unfold pt cs cw at *
  go_wp2_with (refine load_row rfl rfl rfl r_a Try.underlying30 rfl info_cyc ?_)
  refine (IM _).mono ?_; rintro e w3 ⟨rfl, hb3⟩
  replace r_a := r_a.below hb3
  replace hL := below_next hL hb3
  clear hb3 IM
  go_wp2_with (refine load_row rfl rfl rfl r_a Try.underlying30 rfl info_cyc ?_)
  refine (SP _).mono ?_; rintro e w4 ⟨rfl, hb4⟩
  replace r_a := r_a.below hb4
  replace hL := below_next hL hb4
  clear hb4 SP
  go_wp2_with fail
  refine (Q _).mono ?_; rintro e w5 ⟨rfl, rfl⟩
  clear Q
  go_wp2_with fail
  go_loopw [8] (fun i wr => ∃ k : Nat, k ≤ 8 ∧ i = .int .i64 k ∧ (∀ j, j < k → -1000 ≤ a j ∧ a j ≤ 1000) ∧ RowAt wr g_a 8 30 a ∧ Below w.heap.size w wr) (fun i _ => 8 - (intOf i).toNat)
  case atStart => exact ⟨0, Nat.zero_le _, rfl, fun j hj => absurd hj (by omega), r_a, hL⟩
  case round =>
    clear r_a hL
    obtain ⟨k, hk, rfl, hin, hA, hbel⟩ := hrel
    by_cases hlt : k < 8
    · have cA := hA.cell hlt
      have fA := hA.free k
      have hlt' : (k : Int) < 8 := by omega
      have hk0 : (0 : Int) ≤ (k : Int) := by omega
      have HA := Lib.hid hA
      have HL := Lib.hid hbel
      have HI := Lib.hid hin
      have HN := Lib.hid NEAR
      clear hA hbel hin NEAR
      by_cases hc : -1000 ≤ a k ∧ a k ≤ 1000
      · obtain ⟨hc1, hc2⟩ := hc
        have hc3 : ¬ a k > 1000 := by omega
        have hc4 : ¬ a k < -1000 := by omega
        go_wp2_with fail
        go_roundw
        case rel => exact ⟨k + 1, by omega, by go_num, thou_succ HI.out hc1 hc2, HA.out, HL.out⟩
        case measure => simp [intOf]; omega
      · by_cases hc3 : a k > 1000
        · go_wp2_with (rw [CE])
          go_ret
          exact ⟨rfl, HL.out⟩
        · have hc4 : a k < -1000 := by omega
          go_wp2_with (rw [CE])
          go_ret
          exact ⟨rfl, HL.out⟩
    · obtain rfl : k = 8 := by omega
      have NE := NEAR hin
      clear NEAR
      have HL := Lib.hid hbel
      clear hbel
      go_wp2_with (refine load_row rfl rfl rfl hA Try.underlying30 rfl info_cyc ?_)
      refine (WP _).mono ?_; rintro e w6 ⟨rfl, hb6⟩
      have HL2 := Lib.hid (below_next HL.out hb6)
      clear hb6 WP HL
      go_wp2_with (rw [RC])
      refine (NE _).mono ?_; rintro e w7 ⟨rfl, rfl⟩
      go_wp2_with fail
      go_ret
      exact ⟨rfl, HL2.out⟩
end Go.Proofs.Ytmbhbocfnpklpaa
