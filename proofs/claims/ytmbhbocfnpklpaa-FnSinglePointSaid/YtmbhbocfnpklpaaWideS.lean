/-
  Contracts of spec's points in both widths.
-/
import Derived.Test.YtmbhbocfnpklpaaWideC
import Derived.Test.YtmbhbocfnpklpaaCycS
import Derived.Test.YtmbhbocfnpklpaaTurn
namespace Go.Proofs.Ytmbhbocfnpklpaa
set_option maxRecDepth 20000
open Go.ChangeShapes Go.WideShapes Go.ChangeAt Go.RowKit
set_option linter.unusedVariables false
set_option linter.unusedSimpArgs false

theorem l4Wide_any (k : Nat) (hk : k < 8) (w : World) :
    Calls Try.prog 49 #[.int .i64 k] w fun e w' => e = .returned (cw (wDr k) (wDi k)) ∧ w' = w := by
  rcases (show k = 0 ∨ k = 1 ∨ k = 2 ∨ k = 3 ∨ k = 4 ∨ k = 5 ∨ k = 6 ∨ k = 7 by omega) with rfl | rfl | rfl | rfl | rfl | rfl | rfl | rfl <;>
  · go_enter Try.func49, Try.ntmps49
    go_wp2
    go_ret
    exact ⟨rfl, rfl⟩
theorem narrow_root (k : Nat) (hk : k < 8) (w : World) : (convert 24 37 (cw (wDr k) (wDi k))).run Try.prog w = .ok (cs (wSr k) (wSi k)) w :=
  run_convert_complex w _ _ .f64 .f32 _ _ _ _ (by kernel_rfl) (by kernel_rfl) (by
    rcases (show k = 0 ∨ k = 1 ∨ k = 2 ∨ k = 3 ∨ k = 4 ∨ k = 5 ∨ k = 6 ∨ k = 7 by omega) with rfl | rfl | rfl | rfl | rfl | rfl | rfl | rfl <;> decide +kernel)
theorem specWideRoot_yes (k : Nat) (hk : k < 8) (w : World) :
    Calls Try.prog 17 #[.int .i64 k] w fun e w' => e = .returned (.tuple #[cw (wDr k) (wDi k), .bool true]) ∧ w' = w := by
  have I := fun w => in_yes k 0 7 (by omega) (by omega) w
  have C := fun w => l4Wide_any k hk w
  clear hk
  unfold cw at *
  generalize wDr k = a at *
  generalize wDi k = b at *
  go_enter Try.func17, Try.ntmps17
  go_wp2_with (first | (go_at_call 48; refine (I _).mono ?_; rintro e w2 ⟨rfl, rfl⟩) | (go_at_call 49; refine (C _).mono ?_; rintro e w2 ⟨rfl, rfl⟩))
  go_ret2
  exact ⟨rfl, rfl⟩
theorem specWideRoot_no (k : Int) (hk : k < 0 ∨ 7 < k) (w : World) :
    Calls Try.prog 17 #[.int .i64 k] w fun e w' => e = .returned (.tuple #[cw 0 0, .bool false]) ∧ w' = w := by
  have I := fun w => in_no k 0 7 (by omega) w
  clear hk
  unfold cw at *
  go_enter Try.func17, Try.ntmps17
  go_wp2_with (first | (go_at_call 48; refine (I _).mono ?_; rintro e w2 ⟨rfl, rfl⟩))
  go_ret2
  exact ⟨rfl, rfl⟩
theorem specSingleRoot_yes (k : Nat) (hk : k < 8) (w : World) :
    Calls Try.prog 24 #[.int .i64 k] w fun e w' => e = .returned (.tuple #[cs (wSr k) (wSi k), .bool true]) ∧ w' = w := by
  have I := fun w => in_yes k 0 7 (by omega) (by omega) w
  have C := fun w => l4Wide_any k hk w
  have R := fun w => narrow_root k hk w
  clear hk
  unfold cw cs at *
  generalize wDr k = a at *
  generalize wDi k = b at *
  generalize wSr k = c at *
  generalize wSi k = d at *
  go_enter Try.func24, Try.ntmps24
  go_wp2_with (first | rw [R] | (go_at_call 48; refine (I _).mono ?_; rintro e w2 ⟨rfl, rfl⟩) | (go_at_call 49; refine (C _).mono ?_; rintro e w2 ⟨rfl, rfl⟩))
  go_ret2
  exact ⟨rfl, rfl⟩
theorem specSingleRoot_no (k : Int) (hk : k < 0 ∨ 7 < k) (w : World) :
    Calls Try.prog 24 #[.int .i64 k] w fun e w' => e = .returned (.tuple #[cs 0 0, .bool false]) ∧ w' = w := by
  have I := fun w => in_no k 0 7 (by omega) w
  clear hk
  unfold cs at *
  go_enter Try.func24, Try.ntmps24
  go_wp2_with (first | (go_at_call 48; refine (I _).mono ?_; rintro e w2 ⟨rfl, rfl⟩))
  go_ret2
  exact ⟨rfl, rfl⟩
theorem specWidePoint_no (a : Nat → Int) (va : okc a = false) (w : World) :
    Calls Try.prog 27 #[pt a] w fun e w' => e = .returned (.tuple #[cw 0 0, .bool false]) ∧ Below w.heap.size w w' := by
  have sa := vec_size 8 a
  have P : ∀ w, Calls Try.prog 57 #[pt a] w fun e w' => e = .returned (.bool false) ∧ Below w.heap.size w w' := fun w => by rw [← va]; exact specValid_any a w
  unfold pt cw at *
  go_enter Try.func27, Try.ntmps27
  go_wp2_with (refine load_row rfl rfl rfl (RowAt.newAt rfl rfl) Try.underlying30 rfl info_cyc ?_)
  refine (P _).mono ?_; rintro e w2 ⟨rfl, hb2⟩
  have hL2 := wb_next (wb_one _ _) hb2
  clear hb2 P
  go_wp2_with fail
  go_ret2
  exact ⟨rfl, hL2⟩
theorem specWidePoint_yes (a : Nat → Int) (va : okc a = true) (w : World) :
    Calls Try.prog 27 #[pt a] w fun e w' => e = .returned (.tuple #[cw (wpr a 8) (wpi a 8), .bool true]) ∧ Below w.heap.size w w' := by
  have sa := vec_size 8 a
  have hc : Okc a := okc_inR va
  have P : ∀ w, Calls Try.prog 57 #[pt a] w fun e w' => e = .returned (.bool true) ∧ Below w.heap.size w w' := fun w => by rw [← va]; exact specValid_any a w
  clear va
  unfold pt at *
  go_enter Try.func27, Try.ntmps27
  go_wp2_with (refine load_row rfl rfl rfl (RowAt.newAt rfl rfl) Try.underlying30 rfl info_cyc ?_)
  refine (P _).mono ?_; rintro e w2 ⟨rfl, hb2⟩
  have hA2 : RowAt w2 w.heap.size 8 30 a := (RowAt.newAt rfl rfl : RowAt (w.alloc (.cells (vec 8 a) 30)) w.heap.size 8 30 a).below hb2
  have hL2 := wb_next (wb_one _ _) hb2
  clear hb2 P
  go_wp2_with fail
  go_loopw [4, 5, 6, 7] (fun x i _ _ wr => ∃ k : Nat, k ≤ 8 ∧ i = .int .i64 k ∧ x = cw (wpr a k) (wpi a k) ∧ RowAt wr w.heap.size 8 30 a ∧ Below w.heap.size w wr) (fun _ i _ _ _ => 8 - (intOf i).toNat)
  case atStart => exact ⟨0, Nat.zero_le _, rfl, rfl, hA2, hL2⟩
  case round =>
    clear hA2 hL2
    obtain ⟨k, hk, rfl, rfl, hA, hbel⟩ := hrel
    by_cases hlt : k < 8
    · have cA := hA.cell hlt
      have fA := hA.free k
      have hlt' : (k : Int) < 8 := by omega
      have hk0 : (0 : Int) ≤ (k : Int) := by omega
      obtain ⟨s1, s2⟩ := wide_step hc k hlt
      have R : ∀ t w, (binOp .add t (cw (wpr a k) (wpi a k)) (cw (tmW .f64 (a k) (wDr k)) (tmW .f64 (a k) (wDi k)))).run Try.prog w = .ok (cw (wpr a (k + 1)) (wpi a (k + 1))) w := fun t w => run_complex_sum w .add (Or.inl rfl) t .f64 _ _ _ _ _ _ (by unfold cSumBits; rw [s1, s2]; rfl)
      have R1 : ∀ t w, (binOp .mul t (.float .f64 (floatOfInt .f64 (a k))) (.float .f64 (wDr k))).run Try.prog w = .ok (.float .f64 (tmW .f64 (a k) (wDr k))) w := fun t w => run_float_arith w .mul t .f64 _ _ _ (tm_dbl (hc k hlt) (rootDr k hlt) (sizeDr k)).1
      have R2 : ∀ t w, (binOp .mul t (.float .f64 (floatOfInt .f64 (a k))) (.float .f64 (wDi k))).run Try.prog w = .ok (.float .f64 (tmW .f64 (a k) (wDi k))) w := fun t w => run_float_arith w .mul t .f64 _ _ _ (tm_dbl (hc k hlt) (rootDi k hlt) (sizeDi k)).1
      clear s1 s2
      have C := fun w => l4Wide_any k hlt w
      unfold cw at *
      generalize tmW .f64 (a k) (wDr k) = x at *
      generalize tmW .f64 (a k) (wDi k) = y at *
      generalize wDr k = rx at *
      generalize wDi k = ry at *
      have HA := Lib.hid hA
      have HL := Lib.hid hbel
      clear hA hbel
      go_wp2_with (first | rw [R1] | rw [R2] | rw [R] | (go_at_call 49; refine (C _).mono ?_; rintro e w2 ⟨rfl, rfl⟩))
      go_roundw
      case rel => exact ⟨k + 1, by omega, by go_num, rfl, HA.out, HL.out⟩
      case measure => simp [intOf]; omega
    · obtain rfl : k = 8 := by omega
      have HL := Lib.hid hbel
      clear hA hbel
      unfold cw at *
      go_wp2_with fail
      go_ret2
      exact ⟨rfl, HL.out⟩
theorem specSinglePoint_no (a : Nat → Int) (va : okc a = false) (w : World) :
    Calls Try.prog 33 #[pt a] w fun e w' => e = .returned (.tuple #[cs 0 0, .bool false]) ∧ Below w.heap.size w w' := by
  have sa := vec_size 8 a
  have P : ∀ w, Calls Try.prog 57 #[pt a] w fun e w' => e = .returned (.bool false) ∧ Below w.heap.size w w' := fun w => by rw [← va]; exact specValid_any a w
  unfold pt cs at *
  go_enter Try.func33, Try.ntmps33
  go_wp2_with (refine load_row rfl rfl rfl (RowAt.newAt rfl rfl) Try.underlying30 rfl info_cyc ?_)
  refine (P _).mono ?_; rintro e w2 ⟨rfl, hb2⟩
  have hL2 := wb_next (wb_one _ _) hb2
  clear hb2 P
  go_wp2_with fail
  go_ret2
  exact ⟨rfl, hL2⟩
theorem specSinglePoint_yes (a : Nat → Int) (va : okc a = true) (w : World) :
    Calls Try.prog 33 #[pt a] w fun e w' => e = .returned (.tuple #[cs (spr a 8) (spi a 8), .bool true]) ∧ Below w.heap.size w w' := by
  have sa := vec_size 8 a
  have hc : Okc a := okc_inR va
  have P : ∀ w, Calls Try.prog 57 #[pt a] w fun e w' => e = .returned (.bool true) ∧ Below w.heap.size w w' := fun w => by rw [← va]; exact specValid_any a w
  clear va
  unfold pt at *
  go_enter Try.func33, Try.ntmps33
  go_wp2_with (refine load_row rfl rfl rfl (RowAt.newAt rfl rfl) Try.underlying30 rfl info_cyc ?_)
  refine (P _).mono ?_; rintro e w2 ⟨rfl, hb2⟩
  have hA2 : RowAt w2 w.heap.size 8 30 a := (RowAt.newAt rfl rfl : RowAt (w.alloc (.cells (vec 8 a) 30)) w.heap.size 8 30 a).below hb2
  have hL2 := wb_next (wb_one _ _) hb2
  clear hb2 P
  go_wp2_with fail
  go_loopw [4, 5, 6, 7] (fun x i _ _ wr => ∃ k : Nat, k ≤ 8 ∧ i = .int .i64 k ∧ x = cs (spr a k) (spi a k) ∧ RowAt wr w.heap.size 8 30 a ∧ Below w.heap.size w wr) (fun _ i _ _ _ => 8 - (intOf i).toNat)
  case atStart => exact ⟨0, Nat.zero_le _, rfl, rfl, hA2, hL2⟩
  case round =>
    clear hA2 hL2
    obtain ⟨k, hk, rfl, rfl, hA, hbel⟩ := hrel
    by_cases hlt : k < 8
    · have cA := hA.cell hlt
      have fA := hA.free k
      have hlt' : (k : Int) < 8 := by omega
      have hk0 : (0 : Int) ≤ (k : Int) := by omega
      obtain ⟨s1, s2⟩ := sing_step hc k hlt
      have R : ∀ t w, (binOp .add t (cs (spr a k) (spi a k)) (cs (tmW .f32 (a k) (wSr k)) (tmW .f32 (a k) (wSi k)))).run Try.prog w = .ok (cs (spr a (k + 1)) (spi a (k + 1))) w := fun t w => run_complex_sum w .add (Or.inl rfl) t .f32 _ _ _ _ _ _ (by unfold cSumBits; rw [s1, s2]; rfl)
      have R1 : ∀ t w, (binOp .mul t (.float .f32 (floatOfInt .f32 (a k))) (.float .f32 (wSr k))).run Try.prog w = .ok (.float .f32 (tmW .f32 (a k) (wSr k))) w := fun t w => run_float_arith w .mul t .f32 _ _ _ (tm_sgl (hc k hlt) (rootSr k hlt) (sizeSr k)).1
      have R2 : ∀ t w, (binOp .mul t (.float .f32 (floatOfInt .f32 (a k))) (.float .f32 (wSi k))).run Try.prog w = .ok (.float .f32 (tmW .f32 (a k) (wSi k))) w := fun t w => run_float_arith w .mul t .f32 _ _ _ (tm_sgl (hc k hlt) (rootSi k hlt) (sizeSi k)).1
      clear s1 s2
      have C := fun w => l4Wide_any k hlt w
      have RN := fun w => narrow_root k hlt w
      unfold cs cw at *
      generalize tmW .f32 (a k) (wSr k) = x at *
      generalize tmW .f32 (a k) (wSi k) = y at *
      generalize wSr k = rx at *
      generalize wSi k = ry at *
      generalize wDr k = dx at *
      generalize wDi k = dy at *
      have HA := Lib.hid hA
      have HL := Lib.hid hbel
      clear hA hbel
      go_wp2_with (first | rw [RN] | rw [R1] | rw [R2] | rw [R] | (go_at_call 49; refine (C _).mono ?_; rintro e w2 ⟨rfl, rfl⟩))
      go_roundw
      case rel => exact ⟨k + 1, by omega, by go_num, rfl, HA.out, HL.out⟩
      case measure => simp [intOf]; omega
    · obtain rfl : k = 8 := by omega
      have HL := Lib.hid hbel
      clear hA hbel
      unfold cs at *
      go_wp2_with fail
      go_ret2
      exact ⟨rfl, HL.out⟩
end Go.Proofs.Ytmbhbocfnpklpaa
