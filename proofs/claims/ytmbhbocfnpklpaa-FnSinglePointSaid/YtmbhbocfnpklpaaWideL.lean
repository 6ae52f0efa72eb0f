/-
  Contracts of what the laws compare floats with.
-/
import Derived.Test.YtmbhbocfnpklpaaWideA
namespace Go.Proofs.Ytmbhbocfnpklpaa
set_option maxRecDepth 20000
open Go.ChangeShapes Go.WideShapes Go.ChangeAt Go.RowKit
set_option linter.unusedVariables false
set_option linter.unusedSimpArgs false

/-- A word of 64 bits that is no NaN. -/
def NN (x : Nat) : Prop := (Ieee.double.read x).isNaN = false
theorem nn_val {x : Nat} {v : Int} (h : ValD x v) : NN x := by
  obtain ⟨s, m, b, r, -⟩ := h
  unfold NN
  rw [r]; rfl
theorem ord_self {x : Nat} (h : NN x) : FloatKind.f64.format.order x x = some .eq := by
  unfold NN at h
  show (Ieee.double.read x).order (Ieee.double.read x) = some .eq
  generalize Ieee.double.read x = d at *
  cases d with
  | number s m e => simp [Ieee.Datum.order]
  | infinity s => cases s <;> rfl
  | nan s t => cases h
theorem ord_some {x y : Nat} (h : NN x) (k : NN y) : ∃ o, FloatKind.f64.format.order x y = some o := by
  unfold NN at *
  show ∃ o, (Ieee.double.read x).order (Ieee.double.read y) = some o
  generalize Ieee.double.read x = d at *
  generalize Ieee.double.read y = d' at *
  cases d <;> cases d' <;> first | (cases h; done) | (cases k; done) | exact ⟨_, rfl⟩
theorem nn_word (s : Bool) (rung : Nat) (h : rung ≤ 9218868437227405312) : NN (Ieee.double.word s rung) := by
  have e1 : Ieee.double.signWeight = 9223372036854775808 := by decide
  have e2 : Ieee.double.infRung = 9218868437227405312 := by decide
  have e3 : Ieee.double.binade = 4503599627370496 := by decide
  unfold NN Ieee.Format.read Ieee.Format.word
  rw [e1, e2, e3]
  have e4 : (if s = true then 9223372036854775808 + rung else rung) % 9223372036854775808 = rung := by cases s <;> simp <;> omega
  simp only [e4]
  split
  · rfl
  · split
    · rfl
    · rw [if_pos (by omega)]; rfl
theorem nn_write {d : Ieee.Datum} (h : d.isNaN = false) : NN (Ieee.double.write d) := by
  have e2 : Ieee.double.infRung = 9218868437227405312 := by decide
  cases d with
  | number s m e =>
    show NN (Ieee.double.nearest s m e)
    unfold Ieee.Format.nearest
    split
    · exact nn_word _ _ (by omega)
    · refine nn_word _ _ ?_
      rw [e2]; exact Nat.min_le_right _ _
  | infinity s => exact nn_word _ _ (by rw [e2]; exact Nat.le_refl _)
  | nan s t => cases h
theorem nn_zero : NN 0 := by unfold NN; decide +kernel
/-- One by a word that is no NaN. -/
theorem quo_nn {x : Nat} (h : NN x) : ∃ r, floatBits .quo .f64 4607182418800017408 x = some r ∧ NN r := by
  have h1 : Ieee.double.read 4607182418800017408 = .number false 4503599627370496 (-52) := by decide +kernel
  unfold NN at h
  show ∃ r, ((Ieee.double.read 4607182418800017408).quotient (Ieee.double.fractionBits + 2) (Ieee.double.read x)).map Ieee.double.write = some r ∧ NN r
  rw [h1]
  generalize Ieee.double.read x = d at *
  cases d with
  | number s m e =>
    unfold Ieee.Datum.quotient
    by_cases h0 : m = 0
    · simp only [h0, if_true]
      rw [if_neg (by decide)]
      exact ⟨_, rfl, nn_write rfl⟩
    · simp only [h0, if_false]
      exact ⟨_, rfl, nn_write rfl⟩
  | infinity s => exact ⟨_, rfl, nn_write rfl⟩
  | nan s t => cases h
theorem zeroAlike_same (x : Nat) (h : NN x) (w : World) : Calls Try.prog 50 #[.float .f64 x, .float .f64 x] w fun e w' => e = .returned (.bool true) ∧ w' = w := by
  obtain ⟨r, hr, nr⟩ := quo_nn h
  have O1 := ord_self h
  have O2 := ord_self nr
  have R : ∀ t w, (binOp .quo t (.float .f64 4607182418800017408) (.float .f64 x)).run Try.prog w = .ok (.float .f64 r) w := fun t w => run_float_arith w .quo t .f64 _ _ _ hr
  clear h hr nr
  go_enter Try.func50, Try.ntmps50
  go_wp2_with (rw [R])
  go_ret
  exact ⟨rfl, rfl⟩
theorem wideAlike_same (x y : Nat) (hx : NN x) (hy : NN y) (w : World) : Calls Try.prog 18 #[cw x y, cw x y] w fun e w' => e = .returned (.bool true) ∧ w' = w := by
  have C1 := fun w => zeroAlike_same x hx w
  have C2 := fun w => zeroAlike_same y hy w
  clear hx hy
  unfold cw
  go_enter Try.func18, Try.ntmps18
  go_wp2_with fail
  refine (C1 _).mono ?_; rintro e w2 ⟨rfl, rfl⟩
  go_wp2_with fail
  refine (C2 _).mono ?_; rintro e w3 ⟨rfl, rfl⟩
  go_wp2_with fail
  go_ret
  exact ⟨rfl, rfl⟩
theorem run_wider {a b x y : Nat} (h1 : floatToFloatBits .f32 a .f64 = some x) (h2 : floatToFloatBits .f32 b .f64 = some y) (w : World) :
    (convert 37 24 (cs a b)).run Try.prog w = .ok (cw x y) w :=
  run_convert_complex w _ _ .f32 .f64 _ _ _ _ (by kernel_rfl) (by kernel_rfl) (by unfold cConvBits; rw [h1, h2]; rfl)
theorem singleAlike_same {a b x y : Nat} (h1 : floatToFloatBits .f32 a .f64 = some x) (h2 : floatToFloatBits .f32 b .f64 = some y) (hx : NN x) (hy : NN y) (w : World) :
    Calls Try.prog 25 #[cs a b, cs a b] w fun e w' => e = .returned (.bool true) ∧ w' = w := by
  have C := fun w => wideAlike_same x y hx hy w
  have R := fun w => run_wider h1 h2 w
  clear h1 h2 hx hy
  unfold cw cs at *
  go_enter Try.func25, Try.ntmps25
  go_wp2_with (first | rw [R] | (go_at_call 18; refine (C _).mono ?_; rintro e w2 ⟨rfl, rfl⟩))
  go_ret
  exact ⟨rfl, rfl⟩
theorem sameFloat_same (x : Nat) (h : NN x) (w : World) : Calls Try.prog 69 #[.float .f64 x, .float .f64 x] w fun e w' => e = .returned (.bool true) ∧ w' = w := by
  obtain ⟨r, hr, nr⟩ := quo_nn h
  have O1 := ord_self h
  obtain ⟨o, O2⟩ := ord_some h nn_zero
  obtain ⟨p, O3⟩ := ord_some nr nn_zero
  have R : ∀ t w, (binOp .quo t (.float .f64 4607182418800017408) (.float .f64 x)).run Try.prog w = .ok (.float .f64 r) w := fun t w => run_float_arith w .quo t .f64 _ _ _ hr
  clear h hr nr
  cases o <;> cases p <;>
  · go_enter Try.func69, Try.ntmps69
    go_wp2_with (rw [R])
    go_ret
    exact ⟨rfl, rfl⟩
theorem sameComplex_same (x y : Nat) (hx : NN x) (hy : NN y) (w : World) : Calls Try.prog 44 #[cw x y, cw x y] w fun e w' => e = .returned (.bool true) ∧ w' = w := by
  have C1 := fun w => sameFloat_same x hx w
  have C2 := fun w => sameFloat_same y hy w
  clear hx hy
  unfold cw
  go_enter Try.func44, Try.ntmps44
  go_wp2_with fail
  refine (C1 _).mono ?_; rintro e w2 ⟨rfl, rfl⟩
  go_wp2_with fail
  refine (C2 _).mono ?_; rintro e w3 ⟨rfl, rfl⟩
  go_wp2_with fail
  go_ret
  exact ⟨rfl, rfl⟩
theorem within_yes {x y m p q : Nat} (h1 : floatBits .sub .f64 x y = some p) (h2 : floatBits .sub .f64 y x = some q) (O1 : FloatKind.f64.format.order p m = some .lt) (O2 : FloatKind.f64.format.order q m = some .lt) (w : World) :
    Calls Try.prog 21 #[.float .f64 x, .float .f64 y, .float .f64 m] w fun e w' => e = .returned (.bool true) ∧ w' = w := by
  have R1 : ∀ t w, (binOp .sub t (.float .f64 x) (.float .f64 y)).run Try.prog w = .ok (.float .f64 p) w := fun t w => run_float_arith w .sub t .f64 _ _ _ h1
  have R2 : ∀ t w, (binOp .sub t (.float .f64 y) (.float .f64 x)).run Try.prog w = .ok (.float .f64 q) w := fun t w => run_float_arith w .sub t .f64 _ _ _ h2
  clear h1 h2
  go_enter Try.func21, Try.ntmps21
  go_wp2_with (first | rw [R1] | rw [R2])
  go_ret
  exact ⟨rfl, rfl⟩
theorem run_ceq {p q x y : Nat} {o1 o2 : Ordering} (h1 : FloatKind.f64.format.order p x = some o1) (h2 : FloatKind.f64.format.order q y = some o2) (t : TypeId) (w : World) :
    (binOp .eql t (.complex .f64 p q) (.complex .f64 x y)).run Try.prog w = .ok (.bool (o1 == .eq && o2 == .eq)) w := by
  cases o1 <;> cases o2 <;> simp [binOp, Op.complexOp, Op.Complex.cmp, Op.floatCmp, h1, h2, go_sem, asBool]
end Go.Proofs.Ytmbhbocfnpklpaa
