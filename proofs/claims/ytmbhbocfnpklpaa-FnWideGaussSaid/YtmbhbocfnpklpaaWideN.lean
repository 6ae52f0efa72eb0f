/-
  Contracts: the size of a float, PointsNear.
-/
import Derived.Test.YtmbhbocfnpklpaaWideL
import Derived.Laws.Externs
import GoSem.Extern.MathFloatBits
namespace Go.Proofs.Ytmbhbocfnpklpaa
set_option maxRecDepth 20000
open Go.ChangeShapes Go.WideShapes Go.ChangeAt Go.RowKit
set_option linter.unusedVariables false
set_option linter.unusedSimpArgs false

/-- A word without its sign. -/
def mgn (x : Nat) : Nat := x % 9223372036854775808
theorem mgn_bits (x : Nat) : bits .andNot .u64 (x : Int) 9223372036854775808 = ((mgn x : Nat) : Int) := by
  unfold bits mgn
  have h1 : ~~~(BitVec.ofInt IntKind.u64.bits 9223372036854775808) = BitVec.ofNat 64 (2 ^ 63 - 1) := by
    show ~~~(BitVec.ofInt 64 9223372036854775808) = BitVec.ofNat 64 (2 ^ 63 - 1)
    decide
  have h2 : (BitVec.ofInt IntKind.u64.bits (x : Int) &&& ~~~(BitVec.ofInt IntKind.u64.bits 9223372036854775808)).toNat = x % 9223372036854775808 := by
    rw [h1]
    show (BitVec.ofInt 64 (x : Int) &&& BitVec.ofNat 64 (2 ^ 63 - 1)).toNat = _
    rw [BitVec.toNat_and, BitVec.ofInt_natCast, BitVec.toNat_ofNat, BitVec.toNat_ofNat, show (2 ^ 63 - 1) % 2 ^ 64 = 2 ^ 63 - 1 by decide, Nat.and_two_pow_sub_one_eq_mod]
    omega
  simp only [h2]
  have h3 := Nat.mod_lt x (show 0 < 9223372036854775808 by decide)
  have : ((x % 9223372036854775808 : Nat) : Int) < 9223372036854775808 := by omega
  generalize x % 9223372036854775808 = y at *
  show IntKind.u64.wrap (y : Int) = y
  have e : IntKind.u64.wrap (y : Int) = (y : Int) % 18446744073709551616 := by
    unfold IntKind.wrap
    rw [show IntKind.u64.signed = false from rfl]
    simp only [Bool.false_and, Bool.false_eq_true, if_false]
    rfl
  rw [e]; omega
theorem mgn_val {x : Nat} {v : Int} (h : ValD x v) : ValD (mgn x) v.natAbs := by
  unfold ValD Val at h
  obtain ⟨s, m, b, r, e⟩ := h
  have e1 : Ieee.double.signWeight = 9223372036854775808 := by decide
  have e2 : Ieee.double.infRung = 9218868437227405312 := by decide
  have e3 : Ieee.double.binade = 4503599627370496 := by decide
  have ha := abs_mul_pow e
  refine ⟨false, m, b, ?_, ?_⟩
  · unfold Ieee.Format.read at r ⊢
    unfold mgn
    rw [e1] at r ⊢
    have h3 := Nat.mod_lt x (show 0 < 9223372036854775808 by decide)
    rw [Nat.mod_mod, Nat.div_eq_of_lt h3]
    simp only at r ⊢
    split at r
    · rename_i k; rw [if_pos k]; injection r with _ r1 r2; rw [r1, r2]; rfl
    · rename_i k
      rw [if_neg k]
      split at r
      · rename_i k2; rw [if_pos k2]; injection r with _ r1 r2; rw [r1, r2]; rfl
      · split at r <;> cases r
  · rw [ha]
    show ((v.natAbs * 2 ^ tD : Nat) : Int) = _
    rw [Int.natCast_mul, cast_powI]
theorem bits_of (x : Nat) (w : World) : (callFunc 81 #[.float .f64 x]).run Try.prog w = .ok (.value (.int .u64 (x : Int))) w := by
  rw [run_callFunc_extern (e := Extern.MathFloatBits.float64bits) Try.func81 (by kernel_rfl) (by kernel_rfl) (by kernel_rfl) (by kernel_rfl)]
  rfl
theorem of_bits (x : Nat) (w : World) : (callFunc 80 #[.int .u64 (x : Int)]).run Try.prog w = .ok (.value (.float .f64 x)) w := by
  rw [run_callFunc_extern (e := Extern.MathFloatBits.float64frombits) Try.func80 (by kernel_rfl) (by kernel_rfl) (by kernel_rfl) (by kernel_rfl)]
  rfl
theorem abs_any (x : Nat) (w : World) : Calls Try.prog 62 #[.float .f64 x] w fun e w' => e = .returned (.float .f64 (mgn x)) ∧ w' = w := by
  have B := fun w => bits_of x w
  have M := mgn_bits x
  have F := fun w => of_bits (mgn x) w
  generalize mgn x = y at *
  go_enter Try.func62, Try.ntmps62
  go_wp2_with (first | rw [B] | rw [F])
  go_ret
  exact ⟨rfl, rfl⟩
/-- At most: what a comparison told. -/
def leq (c : Option Ordering) : Bool := c == some .lt || c == some .eq
theorem PointsNear_some {x y x' y' m d1 d2 : Nat} {c1 c2 : Option Ordering} (h1 : floatBits .sub .f64 x x' = some d1) (h2 : floatBits .sub .f64 y y' = some d2) (O1 : FloatKind.f64.format.order (mgn d1) m = c1) (O2 : FloatKind.f64.format.order (mgn d2) m = c2) (w : World) :
    Calls Try.prog 34 #[cw x y, cw x' y', .float .f64 m] w fun e w' => e = .returned (.bool (leq c1 && leq c2)) ∧ w' = w := by
  have R : ∀ t w, (binOp .sub t (cw x y) (cw x' y')).run Try.prog w = .ok (cw d1 d2) w := fun t w => run_complex_sum w .sub (Or.inr rfl) t .f64 _ _ _ _ _ _ (by unfold cSumBits; rw [h1, h2]; rfl)
  have A1 := fun w => abs_any d1 w
  have A2 := fun w => abs_any d2 w
  clear h1 h2
  unfold cw at *
  generalize mgn d1 = e1 at *
  generalize mgn d2 = e2 at *
  subst O1
  subst O2
  unfold leq
  cases hc : (FloatKind.f64.format.order e1 m == some .lt || FloatKind.f64.format.order e1 m == some .eq)
  · go_enter Try.func34, Try.ntmps34
    go_wp2_with (rw [R])
    refine (A1 _).mono ?_; rintro e w2 ⟨rfl, rfl⟩
    go_wp2_with fail
    go_ret
    exact ⟨rfl, rfl⟩
  · go_enter Try.func34, Try.ntmps34
    go_wp2_with (rw [R])
    refine (A1 _).mono ?_; rintro e w2 ⟨rfl, rfl⟩
    go_wp2_with fail
    refine (A2 _).mono ?_; rintro e w2 ⟨rfl, rfl⟩
    go_wp2_with fail
    go_ret
    exact ⟨rfl, rfl⟩
end Go.Proofs.Ytmbhbocfnpklpaa
