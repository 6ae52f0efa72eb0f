/-
  Contracts of impl's points in both widths, third part: WidePoint, SinglePoint, PointsFit.
  Contracts of spec's points in both widths.
  Both sides of the points in both widths; the exact laws of roots and points.
  Contracts of PointsFit on both sides.
-/
import Derived.Test.YtpbppgaohfgpbaaM07
import Derived.Test.YtpbppgaohfgpbaaM03
import Derived.Test.YtpbppgaohfgpbaaM01
import Derived.Test.YtpbppgaohfgpbaaM05
import Derived.Deep.RegionHeld3
/- Contracts of impl's points in both widths, third part: WidePoint, SinglePoint, PointsFit. -/
namespace Go.Proofs.Ytpbppgaohfgpbaa
set_option maxRecDepth 20000
open Go.ChangeShapes Go.WideShapes Go.ChangeAt Go.RowKit
set_option linter.unusedVariables false
set_option linter.unusedSimpArgs false

end Go.Proofs.Ytpbppgaohfgpbaa
/- Contracts of spec's points in both widths. -/
namespace Go.Proofs.Ytpbppgaohfgpbaa
set_option maxRecDepth 20000
open Go.ChangeShapes Go.WideShapes Go.ChangeAt Go.RowKit
set_option linter.unusedVariables false
set_option linter.unusedSimpArgs false

theorem narrow_root (k : Nat) (hk : k < 8) (w : World) : (convert 34 23 (cw (wDr k) (wDi k))).run Try.prog w = .ok (cs (wSr k) (wSi k)) w :=
  run_convert_complex w _ _ .f64 .f32 _ _ _ _ (by kernel_rfl) (by kernel_rfl) (by
    rcases (show k = 0 ∨ k = 1 ∨ k = 2 ∨ k = 3 ∨ k = 4 ∨ k = 5 ∨ k = 6 ∨ k = 7 by omega) with rfl | rfl | rfl | rfl | rfl | rfl | rfl | rfl <;> decide +kernel)
end Go.Proofs.Ytpbppgaohfgpbaa
/- Both sides of the points in both widths; the exact laws of roots and points. -/
namespace Go.Proofs.Ytpbppgaohfgpbaa
set_option maxRecDepth 20000
open Go.ChangeShapes Go.WideShapes Go.ChangeAt Go.RowKit
set_option linter.unusedVariables false
set_option linter.unusedSimpArgs false

theorem nn_const (k : Nat) (hk : k < 8) : NN (wDr k) ∧ NN (wDi k) := ⟨nn_val (rootDr k hk), nn_val (rootDi k hk)⟩
theorem wide_small {c : Nat → Int} {n : Nat} {v : Int} (hn : n ≤ 8) (h : -bnd n ≤ v ∧ v ≤ bnd n) : -1606938044258990275541962092341162602522202993782792835301375 ≤ v ∧ v ≤ 1606938044258990275541962092341162602522202993782792835301375 := by
  have := bnd_le n hn
  omega
theorem single_wider {x y : Nat} {v u : Int} (hx : ValS x v) (hy : ValS y u) (h1 : -1606938044258990275541962092341162602522202993782792835301375 ≤ v ∧ v ≤ 1606938044258990275541962092341162602522202993782792835301375)
    (h2 : -1606938044258990275541962092341162602522202993782792835301375 ≤ u ∧ u ≤ 1606938044258990275541962092341162602522202993782792835301375) :
    ∃ p q, floatToFloatBits .f32 x .f64 = some p ∧ floatToFloatBits .f32 y .f64 = some q ∧ ValD p v ∧ ValD q u := by
  obtain ⟨p, hp, vp⟩ := wider hx h1
  obtain ⟨q, hq, vq⟩ := wider hy h2
  exact ⟨p, q, hp, hq, vp, vq⟩
theorem single_val {a : Nat → Int} (va : okc a = true) : ∃ p q, floatToFloatBits .f32 (spr a 8) .f64 = some p ∧ floatToFloatBits .f32 (spi a 8) .f64 = some q ∧ ValD p (vsr a 8) ∧ ValD q (vsi a 8) := by
  have hv := sing_val (okc_inR va) 8 (Nat.le_refl _)
  exact single_wider hv.1.1 hv.2.1 (wide_small (c := a) (Nat.le_refl 8) hv.1.2) (wide_small (c := a) (Nat.le_refl 8) hv.2.2)
end Go.Proofs.Ytpbppgaohfgpbaa
/- Contracts of PointsFit on both sides. -/
namespace Go.Proofs.Ytpbppgaohfgpbaa
set_option maxRecDepth 20000
open Go.ChangeShapes Go.WideShapes Go.ChangeAt Go.RowKit
set_option linter.unusedVariables false
set_option linter.unusedSimpArgs false

/-- What a point's two widths say of each other. -/
def fitb (a : Nat → Int) : Bool := compare (vsr a 8) (vwr a 8) == .eq && compare (vsi a 8) (vwi a 8) == .eq
theorem fit_eq {a : Nat → Int} (va : okc a = true) : ∃ p q, (∀ w, (convert 23 34 (cs (spr a 8) (spi a 8))).run Try.prog w = .ok (cw p q) w) ∧
    (∀ t w, (binOp .eql t (cw p q) (cw (wpr a 8) (wpi a 8))).run Try.prog w = .ok (.bool (fitb a)) w) := by
  obtain ⟨p, q, hp, hq, vp, vq⟩ := single_val va
  have hv := wide_val (okc_inR va) 8 (Nat.le_refl _)
  exact ⟨p, q, fun w => run_wider hp hq w, fun t w => run_ceq (order_val vp hv.1.1) (order_val vq hv.2.1) t w⟩
end Go.Proofs.Ytpbppgaohfgpbaa
