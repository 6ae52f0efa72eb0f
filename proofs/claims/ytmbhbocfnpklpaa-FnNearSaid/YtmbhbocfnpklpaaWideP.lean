/-
  Contracts of PointsNear on both sides, for whatever is drawn.
-/
import Derived.Test.YtmbhbocfnpklpaaDrawNear
import Derived.Test.YtmbhbocfnpklpaaFloatE
namespace Go.Proofs.Ytmbhbocfnpklpaa
set_option maxRecDepth 20000
open Go.ChangeShapes Go.WideShapes Go.ChangeAt Go.RowKit
set_option linter.unusedVariables false
set_option linter.unusedSimpArgs false

/-- A difference: the one there is, or some NaN. -/
def DiffOf (x x' d : Nat) : Prop := floatBits .sub .f64 x x' = some d ∨ (floatBits .sub .f64 x x' = none ∧ IsN d)
theorem run_sub1 (x x' : Nat) (w : World) : ∃ d w', (Op.Complex.arith .sub .f64 x x').run Try.prog w = .ok d w' ∧ Below w.heap.size w w' ∧ DiffOf x x' d := by
  cases h : floatBits .sub .f64 x x' with
  | some r => exact ⟨r, w, run_carith w h, Below.refl _ _, Or.inl h⟩
  | none =>
    have h0 := h
    unfold floatBits at h0
    simp only at h0
    refine ⟨_, w.drew, ?_, (Below.refl _ _).drew, Or.inr ⟨h, nan_cut x x' (w.tape w.drawn (.nanBits .f64 x x'))⟩⟩
    simp [Op.Complex.arith, Op.floatArith, h0, choose, Sem.run, Question.forced]
theorem run_csub (x y x' y' : Nat) (t : TypeId) (w : World) : ∃ d1 d2 w', (binOp .sub t (.complex .f64 x y) (.complex .f64 x' y')).run Try.prog w = .ok (.complex .f64 d1 d2) w' ∧ Below w.heap.size w w' ∧ DiffOf x x' d1 ∧ DiffOf y y' d2 := by
  obtain ⟨d1, w1, r1, b1, k1⟩ := run_sub1 x x' w
  obtain ⟨d2, w2, r2, b2, k2⟩ := run_sub1 y y' w1
  refine ⟨d1, d2, w2, ?_, below_next b1 b2, k1, k2⟩
  simp [binOp, Op.complexOp, Sem.run_bind, r1, r2]
theorem nan_mgn {x : Nat} (h : IsN x) : IsN (mgn x) := by
  have e1 : Ieee.double.signWeight = 9223372036854775808 := by decide
  have e2 : Ieee.double.infRung = 9218868437227405312 := by decide
  have e3 : Ieee.double.binade = 4503599627370496 := by decide
  unfold IsN Ieee.Format.read at h
  rw [e1, e2, e3] at h
  simp only at h
  refine nan_word _ ?_
  unfold mgn
  rw [Nat.mod_mod]
  split at h
  · cases h
  · split at h
    · cases h
    · split at h
      · cases h
      · omega
/-- Whether a part is near. -/
def nb (x x' m : Nat) : Bool := match floatBits .sub .f64 x x' with | some d => leq (FloatKind.f64.format.order (mgn d) m) | none => false
theorem diff_nb {x x' d : Nat} (h : DiffOf x x' d) (m : Nat) : leq (FloatKind.f64.format.order (mgn d) m) = nb x x' m := by
  unfold nb
  rcases h with h | ⟨h, hn⟩
  · rw [h]
  · rw [h, (nan_order (nan_mgn hn) m).1]; rfl
theorem PointsNear_all (x y x' y' m : Nat) (w : World) :
    Calls Try.prog 34 #[cw x y, cw x' y', .float .f64 m] w fun e w' => e = .returned (.bool (nb x x' m && nb y y' m)) ∧ Below w.heap.size w w' := by
  obtain ⟨d1, d2, w2, R, hb, k1, k2⟩ := run_csub x y x' y' 24 w
  have A1 := fun w => abs_any d1 w
  have A2 := fun w => abs_any d2 w
  rw [← diff_nb k1 m, ← diff_nb k2 m]
  clear k1 k2
  unfold cw leq
  generalize mgn d1 = e1 at *
  generalize mgn d2 = e2 at *
  have HB := Lib.hid hb
  clear hb
  cases hc : (FloatKind.f64.format.order e1 m == some .lt || FloatKind.f64.format.order e1 m == some .eq)
  · go_enter Try.func34, Try.ntmps34
    go_wp2_with (rw [R])
    refine (A1 _).mono ?_; rintro e w3 ⟨rfl, rfl⟩
    go_wp2_with fail
    go_ret
    exact ⟨rfl, HB.out⟩
  · go_enter Try.func34, Try.ntmps34
    go_wp2_with (rw [R])
    refine (A1 _).mono ?_; rintro e w3 ⟨rfl, rfl⟩
    go_wp2_with fail
    refine (A2 _).mono ?_; rintro e w3 ⟨rfl, rfl⟩
    go_wp2_with fail
    go_ret
    exact ⟨rfl, HB.out⟩
def geq (c : Option Ordering) : Bool := c == some .gt || c == some .eq
theorem specPointsNear_all {x y x' y' m n : Nat} (hn : Op.negFloat .f64 m = n) (hx : ∀ d, DiffOf x x' d → (leq (FloatKind.f64.format.order d m) && geq (FloatKind.f64.format.order d n)) = nb x x' m)
    (hy : ∀ d, DiffOf y y' d → (leq (FloatKind.f64.format.order d m) && geq (FloatKind.f64.format.order d n)) = nb y y' m) (w : World) :
    Calls Try.prog 43 #[cw x y, cw x' y', .float .f64 m] w fun e w' => e = .returned (.bool (nb x x' m && nb y y' m)) ∧ Below w.heap.size w w' := by
  obtain ⟨d1, d2, w2, R, hb, k1, k2⟩ := run_csub x y x' y' 24 w
  rw [← hx d1 k1, ← hy d2 k2]
  have N : ∀ w, (Op.unary .neg (.float .f64 m)).run Try.prog w = .ok (.float .f64 n) w := fun w => by simp only [Op.unary, hn]; rfl
  clear k1 k2 hx hy hn
  unfold cw leq geq
  have HB := Lib.hid hb
  clear hb
  cases c1 : (FloatKind.f64.format.order d1 m == some .lt || FloatKind.f64.format.order d1 m == some .eq)
  · go_enter Try.func43, Try.ntmps43
    go_wp2_with (first | rw [R] | rw [N])
    go_ret
    exact ⟨rfl, HB.out⟩
  cases c2 : (FloatKind.f64.format.order d1 n == some .gt || FloatKind.f64.format.order d1 n == some .eq)
  · go_enter Try.func43, Try.ntmps43
    go_wp2_with (first | rw [R] | rw [N])
    go_ret
    exact ⟨rfl, HB.out⟩
  cases c3 : (FloatKind.f64.format.order d2 m == some .lt || FloatKind.f64.format.order d2 m == some .eq)
  · go_enter Try.func43, Try.ntmps43
    go_wp2_with (first | rw [R] | rw [N])
    go_ret
    exact ⟨rfl, HB.out⟩
  · go_enter Try.func43, Try.ntmps43
    go_wp2_with (first | rw [R] | rw [N])
    go_ret
    exact ⟨rfl, HB.out⟩
end Go.Proofs.Ytmbhbocfnpklpaa
