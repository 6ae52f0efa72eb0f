/-
  Contracts of impl's points in both widths, third part: WidePoint, SinglePoint, PointsFit.
  Contracts of spec's points in both widths.
  Both sides of the points in both widths; the exact laws of roots and points.
  Contracts of PointsFit on both sides.
-/
import Derived.Test.YtibhlaojinedoaaM07
import Derived.Test.YtibhlaojinedoaaM02
import Derived.Test.YtibhlaojinedoaaM01
import Derived.Test.YtibhlaojinedoaaM04
import Derived.Deep.RegionHeld3
/- Contracts of impl's points in both widths, third part: WidePoint, SinglePoint, PointsFit. -/
namespace Go.Proofs.Ytibhlaojinedoaa
set_option maxRecDepth 20000
open Go.ChangeShapes Go.WideShapes Go.ChangeAt Go.RowKit
set_option linter.unusedVariables false
set_option linter.unusedSimpArgs false

end Go.Proofs.Ytibhlaojinedoaa
/- Contracts of spec's points in both widths. -/
namespace Go.Proofs.Ytibhlaojinedoaa
set_option maxRecDepth 20000
open Go.ChangeShapes Go.WideShapes Go.ChangeAt Go.RowKit
set_option linter.unusedVariables false
set_option linter.unusedSimpArgs false

theorem l4Wide_any (k : Nat) (hk : k < 8) (w : World) :
    Calls Try.prog 62 #[.int .i64 k] w fun e w' => e = .returned (cw (wDr k) (wDi k)) ∧ w' = w := by
  rcases (show k = 0 ∨ k = 1 ∨ k = 2 ∨ k = 3 ∨ k = 4 ∨ k = 5 ∨ k = 6 ∨ k = 7 by omega) with rfl | rfl | rfl | rfl | rfl | rfl | rfl | rfl <;>
  · go_enter Try.func62, Try.ntmps62
    go_wp2
    go_ret
    exact ⟨rfl, rfl⟩
theorem narrow_root (k : Nat) (hk : k < 8) (w : World) : (convert 44 23 (cw (wDr k) (wDi k))).run Try.prog w = .ok (cs (wSr k) (wSi k)) w :=
  run_convert_complex w _ _ .f64 .f32 _ _ _ _ (by kernel_rfl) (by kernel_rfl) (by
    rcases (show k = 0 ∨ k = 1 ∨ k = 2 ∨ k = 3 ∨ k = 4 ∨ k = 5 ∨ k = 6 ∨ k = 7 by omega) with rfl | rfl | rfl | rfl | rfl | rfl | rfl | rfl <;> decide +kernel)
theorem specSinglePoint_no (a : Nat → Int) (va : okc a = false) (w : World) :
    Calls Try.prog 46 #[pt a] w fun e w' => e = .returned (.tuple #[cs 0 0, .bool false]) ∧ Below w.heap.size w w' := by
  have sa := vec_size 8 a
  have P : ∀ w, Calls Try.prog 52 #[pt a] w fun e w' => e = .returned (.bool false) ∧ Below w.heap.size w w' := fun w => by rw [← va]; exact specValid_any a w
  unfold pt cs at *
  go_enter Try.func46, Try.ntmps46
  go_wp2_with (refine load_row rfl rfl rfl (RowAt.newAt rfl rfl) Try.underlying80 rfl info_cyc ?_)
  refine (P _).mono ?_; rintro e w2 ⟨rfl, hb2⟩
  have hL2 := wb_next (wb_one _ _) hb2
  clear hb2 P
  go_wp2_with fail
  go_ret2
  exact ⟨rfl, hL2⟩
theorem specSinglePoint_yes (a : Nat → Int) (va : okc a = true) (w : World) :
    Calls Try.prog 46 #[pt a] w fun e w' => e = .returned (.tuple #[cs (spr a 8) (spi a 8), .bool true]) ∧ Below w.heap.size w w' := by
  have sa := vec_size 8 a
  have hc : Okc a := okc_inR va
  have P : ∀ w, Calls Try.prog 52 #[pt a] w fun e w' => e = .returned (.bool true) ∧ Below w.heap.size w w' := fun w => by rw [← va]; exact specValid_any a w
  clear va
  unfold pt at *
  go_enter Try.func46, Try.ntmps46
  go_wp2_with (refine load_row rfl rfl rfl (RowAt.newAt rfl rfl) Try.underlying80 rfl info_cyc ?_)
  refine (P _).mono ?_; rintro e w2 ⟨rfl, hb2⟩
  have hA2 : RowAt w2 w.heap.size 8 80 a := (RowAt.newAt rfl rfl : RowAt (w.alloc (.cells (vec 8 a) 80)) w.heap.size 8 80 a).below hb2
  have hL2 := wb_next (wb_one _ _) hb2
  clear hb2 P
  go_wp2_with fail
  go_loopw [4, 5, 6, 7] (fun x i _ _ wr => ∃ k : Nat, k ≤ 8 ∧ i = .int .i64 k ∧ x = cs (spr a k) (spi a k) ∧ RowAt wr w.heap.size 8 80 a ∧ Below w.heap.size w wr) (fun _ i _ _ _ => 8 - (intOf i).toNat)
  case atStart => exact ⟨0, Nat.zero_le _, rfl, rfl, hA2, hL2⟩
  case round =>
    clear hA2 hL2
    obtain ⟨k, hk, rfl, rfl, hA, hbel⟩ := hrel
    by_cases hlt : k < 8
    · have cA := hA.cell hlt
      have fA := hA.free k
      have hlt' : (k : Int) < 8 := by omega
      have hk0 : (0 : Int) ≤ (k : Int) := by omega
      obtain ⟨s1, s2⟩ := sing_step hc k hlt
      have R : ∀ t w, (binOp .add t (cs (spr a k) (spi a k)) (cs (tmW .f32 (a k) (wSr k)) (tmW .f32 (a k) (wSi k)))).run Try.prog w = .ok (cs (spr a (k + 1)) (spi a (k + 1))) w := fun t w => run_complex_sum w .add (Or.inl rfl) t .f32 _ _ _ _ _ _ (by unfold cSumBits; rw [s1, s2]; rfl)
      have R1 : ∀ t w, (binOp .mul t (.float .f32 (floatOfInt .f32 (a k))) (.float .f32 (wSr k))).run Try.prog w = .ok (.float .f32 (tmW .f32 (a k) (wSr k))) w := fun t w => run_float_arith w .mul t .f32 _ _ _ (tm_sgl (hc k hlt) (rootSr k hlt) (sizeSr k)).1
      have R2 : ∀ t w, (binOp .mul t (.float .f32 (floatOfInt .f32 (a k))) (.float .f32 (wSi k))).run Try.prog w = .ok (.float .f32 (tmW .f32 (a k) (wSi k))) w := fun t w => run_float_arith w .mul t .f32 _ _ _ (tm_sgl (hc k hlt) (rootSi k hlt) (sizeSi k)).1
      clear s1 s2
      have C := fun w => l4Wide_any k hlt w
      have RN := fun w => narrow_root k hlt w
      unfold cs cw at *
      generalize tmW .f32 (a k) (wSr k) = x at *
      generalize tmW .f32 (a k) (wSi k) = y at *
      generalize wSr k = rx at *
      generalize wSi k = ry at *
      generalize wDr k = dx at *
      generalize wDi k = dy at *
      have HA := Lib.hid hA
      have HL := Lib.hid hbel
      clear hA hbel
      go_wp2_with (first | rw [RN] | rw [R1] | rw [R2] | rw [R] | (go_at_call 62; refine (C _).mono ?_; rintro e w2 ⟨rfl, rfl⟩))
      go_roundw
      case rel => exact ⟨k + 1, by omega, by go_num, rfl, HA.out, HL.out⟩
      case measure => simp [intOf]; omega
    · obtain rfl : k = 8 := by omega
      have HL := Lib.hid hbel
      clear hA hbel
      unfold cs at *
      go_wp2_with fail
      go_ret2
      exact ⟨rfl, HL.out⟩
end Go.Proofs.Ytibhlaojinedoaa
/- Both sides of the points in both widths; the exact laws of roots and points. -/
namespace Go.Proofs.Ytibhlaojinedoaa
set_option maxRecDepth 20000
open Go.ChangeShapes Go.WideShapes Go.ChangeAt Go.RowKit
set_option linter.unusedVariables false
set_option linter.unusedSimpArgs false

theorem nn_const (k : Nat) (hk : k < 8) : NN (wDr k) ∧ NN (wDi k) := ⟨nn_val (rootDr k hk), nn_val (rootDi k hk)⟩
theorem wide_small {c : Nat → Int} {n : Nat} {v : Int} (hn : n ≤ 8) (h : -bnd n ≤ v ∧ v ≤ bnd n) : -1606938044258990275541962092341162602522202993782792835301375 ≤ v ∧ v ≤ 1606938044258990275541962092341162602522202993782792835301375 := by
  have := bnd_le n hn
  omega
theorem single_wider {x y : Nat} {v u : Int} (hx : ValS x v) (hy : ValS y u) (h1 : -1606938044258990275541962092341162602522202993782792835301375 ≤ v ∧ v ≤ 1606938044258990275541962092341162602522202993782792835301375)
    (h2 : -1606938044258990275541962092341162602522202993782792835301375 ≤ u ∧ u ≤ 1606938044258990275541962092341162602522202993782792835301375) :
    ∃ p q, floatToFloatBits .f32 x .f64 = some p ∧ floatToFloatBits .f32 y .f64 = some q ∧ ValD p v ∧ ValD q u := by
  obtain ⟨p, hp, vp⟩ := wider hx h1
  obtain ⟨q, hq, vq⟩ := wider hy h2
  exact ⟨p, q, hp, hq, vp, vq⟩
theorem single_val {a : Nat → Int} (va : okc a = true) : ∃ p q, floatToFloatBits .f32 (spr a 8) .f64 = some p ∧ floatToFloatBits .f32 (spi a 8) .f64 = some q ∧ ValD p (vsr a 8) ∧ ValD q (vsi a 8) := by
  have hv := sing_val (okc_inR va) 8 (Nat.le_refl _)
  exact single_wider hv.1.1 hv.2.1 (wide_small (c := a) (Nat.le_refl 8) hv.1.2) (wide_small (c := a) (Nat.le_refl 8) hv.2.2)
end Go.Proofs.Ytibhlaojinedoaa
/- Contracts of PointsFit on both sides. -/
namespace Go.Proofs.Ytibhlaojinedoaa
set_option maxRecDepth 20000
open Go.ChangeShapes Go.WideShapes Go.ChangeAt Go.RowKit
set_option linter.unusedVariables false
set_option linter.unusedSimpArgs false

/-- What a point's two widths say of each other. -/
def fitb (a : Nat → Int) : Bool := compare (vsr a 8) (vwr a 8) == .eq && compare (vsi a 8) (vwi a 8) == .eq
theorem fit_eq {a : Nat → Int} (va : okc a = true) : ∃ p q, (∀ w, (convert 23 44 (cs (spr a 8) (spi a 8))).run Try.prog w = .ok (cw p q) w) ∧
    (∀ t w, (binOp .eql t (cw p q) (cw (wpr a 8) (wpi a 8))).run Try.prog w = .ok (.bool (fitb a)) w) := by
  obtain ⟨p, q, hp, hq, vp, vq⟩ := single_val va
  have hv := wide_val (okc_inR va) 8 (Nat.le_refl _)
  exact ⟨p, q, fun w => run_wider hp hq w, fun t w => run_ceq (order_val vp hv.1.1) (order_val vq hv.2.1) t w⟩
end Go.Proofs.Ytibhlaojinedoaa
