/-
  What the walks of the laws of rows with loops share.
-/
import Derived.Test.YtdgbpdeimckbfaaLawRowBase
namespace Go.Proofs.Ytdgbpdeimckbfaa
set_option maxRecDepth 20000
open Go.ChangeShapes Go.WideShapes Go.ChangeAt Go.RowKit
set_option linter.unusedVariables false
set_option linter.unusedSimpArgs false

theorem turn_small {n r : Nat} (h1 : 1 ≤ n) (h24 : n ≤ 24) (hr : r < n) : r * (24 / n) ≤ 23 := by
  have h2 : n * (24 / n) ≤ 24 := Nat.mul_div_le 24 n
  have h3 : 1 ≤ 24 / n := (Nat.le_div_iff_mul_le (by omega)).2 (by omega)
  have h4 : (r + 1) * (24 / n) ≤ n * (24 / n) := Nat.mul_le_mul_right _ hr
  rw [Nat.succ_mul] at h4
  omega
theorem CycTurnedV (a : V) {t : Nat} (ht : t ≤ 23) (ha : okv a = true) (hb : okv (tV t a) = true) (w : World) : Calls Try.prog 42 #[pt a.up, .int .i64 t] w fun e w' => e = .returned (.tuple #[pt (tV t a).up, .bool true]) ∧ Below w.heap.size w w' := by
  have h := CycTurned_yes a.up t ha ht w
  have e := pt_tV a ht
  have k : okc (trn a.up t) = true := by rw [← okv_dn, tV_trn a ht]; exact hb
  rw [ans_yes k, e] at h
  exact h
end Go.Proofs.Ytdgbpdeimckbfaa
