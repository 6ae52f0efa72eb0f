/-
  Both sides of the points in both widths; the exact laws of roots and points.
-/
import Derived.Test.YtmbhbocfnpklpaaWideS
import Derived.Test.YtmbhbocfnpklpaaWideL
import Derived.Test.YtmbhbocfnpklpaaCycZ
namespace Go.Proofs.Ytmbhbocfnpklpaa
set_option maxRecDepth 20000
open Go.ChangeShapes Go.WideShapes Go.ChangeAt Go.RowKit
set_option linter.unusedVariables false
set_option linter.unusedSimpArgs false

theorem nn_const (k : Nat) (hk : k < 8) : NN (wDr k) ∧ NN (wDi k) := ⟨nn_val (rootDr k hk), nn_val (rootDi k hk)⟩
theorem wide_small {c : Nat → Int} {n : Nat} {v : Int} (hn : n ≤ 8) (h : -bnd n ≤ v ∧ v ≤ bnd n) : -1606938044258990275541962092341162602522202993782792835301375 ≤ v ∧ v ≤ 1606938044258990275541962092341162602522202993782792835301375 := by
  have := bnd_le n hn
  omega
theorem both_WideRoot (k : Int) : ∃ x y v, NN x ∧ NN y ∧ (∀ w, Calls Try.prog 17 #[.int .i64 k] w fun e w' => e = .returned (.tuple #[cw x y, .bool v]) ∧ w' = w) ∧
    (∀ w, Calls Try.prog 16 #[.int .i64 k] w fun e w' => e = .returned (.tuple #[cw x y, .bool v]) ∧ w' = w) := by
  by_cases h : 0 ≤ k ∧ k ≤ 7
  · obtain ⟨n, rfl⟩ : ∃ n : Nat, k = n := ⟨k.toNat, by omega⟩
    have hn : n < 8 := by omega
    exact ⟨_, _, _, (nn_const n hn).1, (nn_const n hn).2, fun w => specWideRoot_yes n hn w, fun w => WideRoot_yes n hn w⟩
  · exact ⟨_, _, _, nn_zero, nn_zero, fun w => specWideRoot_no k (by omega) w, fun w => WideRoot_no k (by omega) w⟩
theorem single_wider {x y : Nat} {v u : Int} (hx : ValS x v) (hy : ValS y u) (h1 : -1606938044258990275541962092341162602522202993782792835301375 ≤ v ∧ v ≤ 1606938044258990275541962092341162602522202993782792835301375)
    (h2 : -1606938044258990275541962092341162602522202993782792835301375 ≤ u ∧ u ≤ 1606938044258990275541962092341162602522202993782792835301375) :
    ∃ p q, floatToFloatBits .f32 x .f64 = some p ∧ floatToFloatBits .f32 y .f64 = some q ∧ ValD p v ∧ ValD q u := by
  obtain ⟨p, hp, vp⟩ := wider hx h1
  obtain ⟨q, hq, vq⟩ := wider hy h2
  exact ⟨p, q, hp, hq, vp, vq⟩
theorem both_SingleRoot (k : Int) : ∃ x y p q v, floatToFloatBits .f32 x .f64 = some p ∧ floatToFloatBits .f32 y .f64 = some q ∧ NN p ∧ NN q ∧
    (∀ w, Calls Try.prog 24 #[.int .i64 k] w fun e w' => e = .returned (.tuple #[cs x y, .bool v]) ∧ w' = w) ∧
    (∀ w, Calls Try.prog 23 #[.int .i64 k] w fun e w' => e = .returned (.tuple #[cs x y, .bool v]) ∧ w' = w) := by
  by_cases h : 0 ≤ k ∧ k ≤ 7
  · obtain ⟨n, rfl⟩ : ∃ n : Nat, k = n := ⟨k.toNat, by omega⟩
    have hn : n < 8 := by omega
    have s1 := sizeSr n
    have s2 := sizeSi n
    obtain ⟨p, q, hp, hq, vp, vq⟩ := single_wider (rootSr n hn) (rootSi n hn) (by omega) (by omega)
    exact ⟨_, _, p, q, _, hp, hq, nn_val vp, nn_val vq, fun w => specSingleRoot_yes n hn w, fun w => SingleRoot_yes n hn w⟩
  · exact ⟨0, 0, 0, 0, _, by decide +kernel, by decide +kernel, nn_zero, nn_zero, fun w => specSingleRoot_no k (by omega) w, fun w => SingleRoot_no k (by omega) w⟩
theorem both_WidePoint (a : Nat → Int) : ∃ x y v, NN x ∧ NN y ∧ (∀ w, Calls Try.prog 27 #[pt a] w fun e w' => e = .returned (.tuple #[cw x y, .bool v]) ∧ Below w.heap.size w w') ∧
    (∀ w, Calls Try.prog 20 #[pt a] w fun e w' => e = .returned (.tuple #[cw x y, .bool v]) ∧ Below w.heap.size w w') := by
  cases va : okc a
  · exact ⟨_, _, _, nn_zero, nn_zero, fun w => specWidePoint_no a va w, fun w => WidePoint_no a va w⟩
  · have hv := wide_val (okc_inR va) 8 (Nat.le_refl _)
    exact ⟨_, _, _, nn_val hv.1.1, nn_val hv.2.1, fun w => specWidePoint_yes a va w, fun w => WidePoint_yes a va w⟩
theorem single_val {a : Nat → Int} (va : okc a = true) : ∃ p q, floatToFloatBits .f32 (spr a 8) .f64 = some p ∧ floatToFloatBits .f32 (spi a 8) .f64 = some q ∧ ValD p (vsr a 8) ∧ ValD q (vsi a 8) := by
  have hv := sing_val (okc_inR va) 8 (Nat.le_refl _)
  exact single_wider hv.1.1 hv.2.1 (wide_small (c := a) (Nat.le_refl 8) hv.1.2) (wide_small (c := a) (Nat.le_refl 8) hv.2.2)
theorem both_SinglePoint (a : Nat → Int) : ∃ x y p q v, floatToFloatBits .f32 x .f64 = some p ∧ floatToFloatBits .f32 y .f64 = some q ∧ NN p ∧ NN q ∧
    (∀ w, Calls Try.prog 33 #[pt a] w fun e w' => e = .returned (.tuple #[cs x y, .bool v]) ∧ Below w.heap.size w w') ∧
    (∀ w, Calls Try.prog 32 #[pt a] w fun e w' => e = .returned (.tuple #[cs x y, .bool v]) ∧ Below w.heap.size w w') := by
  cases va : okc a
  · exact ⟨0, 0, 0, 0, _, by decide +kernel, by decide +kernel, nn_zero, nn_zero, fun w => specSinglePoint_no a va w, fun w => SinglePoint_no a va w⟩
  · obtain ⟨p, q, hp, hq, vp, vq⟩ := single_val va
    exact ⟨_, _, p, q, _, hp, hq, nn_val vp, nn_val vq, fun w => specSinglePoint_yes a va w, fun w => SinglePoint_yes a va w⟩

theorem exactWideRoot_walk (t : Int) (w : World) : Calls Try.prog 10 #[.int .i64 t] w (Fine w) := by
  obtain ⟨x, y, v, nx, ny, SP, IM⟩ := both_WideRoot t
  have Q := fun w => sameComplex_same x y nx ny w
  have hne : (v != v) = false := by cases v <;> rfl
  clear nx ny
  unfold cw at *
  go_enter Try.func10, Try.ntmps10
  go_wp2_with (first | (go_at_call 17; refine (SP _).mono ?_; rintro e w2 ⟨rfl, rfl⟩) | (go_at_call 16; refine (IM _).mono ?_; rintro e w2 ⟨rfl, rfl⟩) | (go_at_call 44; refine (Q _).mono ?_; rintro e w2 ⟨rfl, rfl⟩))
  go_ret
  exact ⟨rfl, Below.refl _ _⟩
theorem exactSingleRoot_walk (t : Int) (w : World) : Calls Try.prog 11 #[.int .i64 t] w (Fine w) := by
  obtain ⟨x, y, p, q, v, h1, h2, nx, ny, SP, IM⟩ := both_SingleRoot t
  have Q := fun w => sameComplex_same p q nx ny w
  have R := fun w => run_wider h1 h2 w
  have hne : (v != v) = false := by cases v <;> rfl
  clear nx ny h1 h2
  unfold cs cw at *
  go_enter Try.func11, Try.ntmps11
  go_wp2_with (first | rw [R] | (go_at_call 24; refine (SP _).mono ?_; rintro e w2 ⟨rfl, rfl⟩) | (go_at_call 23; refine (IM _).mono ?_; rintro e w2 ⟨rfl, rfl⟩) | (go_at_call 44; refine (Q _).mono ?_; rintro e w2 ⟨rfl, rfl⟩))
  go_ret
  exact ⟨rfl, Below.refl _ _⟩
theorem exactWidePoint_walk (a : Nat → Int) (w : World) : Calls Try.prog 12 #[pt a] w (Fine w) := by
  have sa := vec_size 8 a
  obtain ⟨x, y, v, nx, ny, SP, IM⟩ := both_WidePoint a
  have Q := fun w => sameComplex_same x y nx ny w
  have hne : (v != v) = false := by cases v <;> rfl
  have P := fun w => toCyc_any a w
  clear nx ny
  unfold pt cw at *
  go_enter Try.func12, Try.ntmps12
  go_upto_region 1 with fail
  show Code.wp _ _ _ _ (box0 w a 56)
  obtain ⟨hA, hL⟩ := box0_facts w a 56
  generalize box0 w a 56 = W at *
  go_wp2_with (refine load_row rfl rfl rfl hA Try.underlying56 rfl info_law ?_)
  refine (P _).mono ?_; rintro e w2 ⟨rfl, hb2⟩
  have hA2 := hA.below hb2; have hL2 := wb_next hL hb2
  clear hb2 hA hL
  go_wp2_with fail
  refine (SP _).mono ?_; rintro e w3 ⟨rfl, hb2⟩
  have hA3 := hA2.below hb2; have hL3 := wb_next hL2 hb2
  clear hb2 SP hA2 hL2
  go_wp2_with (refine load_row rfl rfl rfl hA3 Try.underlying56 rfl info_law ?_)
  refine (P _).mono ?_; rintro e w4 ⟨rfl, hb2⟩
  have hL4 := wb_next hL3 hb2
  clear hb2 hA3 hL3 P
  go_wp2_with fail
  refine (IM _).mono ?_; rintro e w5 ⟨rfl, hb2⟩
  have hL5 := wb_next hL4 hb2
  clear hb2 IM hL4
  go_wp2_with fail
  refine (Q _).mono ?_; rintro e w6 ⟨rfl, rfl⟩
  go_wp2_with fail
  go_ret
  exact ⟨rfl, hL5⟩
theorem exactSinglePoint_walk (a : Nat → Int) (w : World) : Calls Try.prog 13 #[pt a] w (Fine w) := by
  have sa := vec_size 8 a
  obtain ⟨x, y, p, q, v, h1, h2, nx, ny, SP, IM⟩ := both_SinglePoint a
  have Q := fun w => sameComplex_same p q nx ny w
  have R := fun w => run_wider h1 h2 w
  have hne : (v != v) = false := by cases v <;> rfl
  have P := fun w => toCyc_any a w
  clear nx ny h1 h2
  unfold pt cs cw at *
  go_enter Try.func13, Try.ntmps13
  go_upto_region 1 with fail
  show Code.wp _ _ _ _ (box0 w a 56)
  obtain ⟨hA, hL⟩ := box0_facts w a 56
  generalize box0 w a 56 = W at *
  go_wp2_with (refine load_row rfl rfl rfl hA Try.underlying56 rfl info_law ?_)
  refine (P _).mono ?_; rintro e w2 ⟨rfl, hb2⟩
  have hA2 := hA.below hb2; have hL2 := wb_next hL hb2
  clear hb2 hA hL
  go_wp2_with fail
  refine (SP _).mono ?_; rintro e w3 ⟨rfl, hb2⟩
  have hA3 := hA2.below hb2; have hL3 := wb_next hL2 hb2
  clear hb2 SP hA2 hL2
  go_wp2_with (refine load_row rfl rfl rfl hA3 Try.underlying56 rfl info_law ?_)
  refine (P _).mono ?_; rintro e w4 ⟨rfl, hb2⟩
  have hL4 := wb_next hL3 hb2
  clear hb2 hA3 hL3 P
  go_wp2_with fail
  refine (IM _).mono ?_; rintro e w5 ⟨rfl, hb2⟩
  have hL5 := wb_next hL4 hb2
  clear hb2 IM hL4
  go_wp2_with (first | rw [R] | (go_at_call 44; refine (Q _).mono ?_; rintro e w6 ⟨rfl, rfl⟩))
  go_ret
  exact ⟨rfl, hL5⟩
end Go.Proofs.Ytmbhbocfnpklpaa
