/-
  Contracts of impl's points in both widths.
  Contracts of what the laws compare floats with.
  Contracts: the size of a float, PointsNear.
  Contracts of impl's points in both widths, second part: the sum of eight terms, the points.
-/
import Derived.Test.YtibhlaojinedoaaM06
import Derived.Test.YtibhlaojinedoaaM02
import Derived.WalkLawsBesides
import Derived.Laws.Externs
import GoSem.Extern.MathFloatBits
import Derived.StillTailTactics
/- Contracts of impl's points in both widths. -/
namespace Go.Proofs.Ytibhlaojinedoaa
set_option maxRecDepth 20000
open Go.ChangeShapes Go.WideShapes Go.ChangeAt Go.RowKit
set_option linter.unusedVariables false
set_option linter.unusedSimpArgs false

/-- A wide point as a value; a single one. -/
def cw (a b : Nat) : Value := .complex .f64 a b
def cs (a b : Nat) : Value := .complex .f32 a b
end Go.Proofs.Ytibhlaojinedoaa
/- Contracts of what the laws compare floats with. -/
namespace Go.Proofs.Ytibhlaojinedoaa
set_option maxRecDepth 20000
open Go.ChangeShapes Go.WideShapes Go.ChangeAt Go.RowKit
set_option linter.unusedVariables false
set_option linter.unusedSimpArgs false

/-- A word of 64 bits that is no NaN. -/
def NN (x : Nat) : Prop := (Ieee.double.read x).isNaN = false
theorem nn_val {x : Nat} {v : Int} (h : ValD x v) : NN x := by
  obtain ⟨s, m, b, r, -⟩ := h
  unfold NN
  rw [r]; rfl
theorem ord_self {x : Nat} (h : NN x) : FloatKind.f64.format.order x x = some .eq := by
  unfold NN at h
  show (Ieee.double.read x).order (Ieee.double.read x) = some .eq
  generalize Ieee.double.read x = d at *
  cases d with
  | number s m e => simp [Ieee.Datum.order]
  | infinity s => cases s <;> rfl
  | nan s t => cases h
theorem ord_some {x y : Nat} (h : NN x) (k : NN y) : ∃ o, FloatKind.f64.format.order x y = some o := by
  unfold NN at *
  show ∃ o, (Ieee.double.read x).order (Ieee.double.read y) = some o
  generalize Ieee.double.read x = d at *
  generalize Ieee.double.read y = d' at *
  cases d <;> cases d' <;> first | (cases h; done) | (cases k; done) | exact ⟨_, rfl⟩
theorem nn_word (s : Bool) (rung : Nat) (h : rung ≤ 9218868437227405312) : NN (Ieee.double.word s rung) := by
  have e1 : Ieee.double.signWeight = 9223372036854775808 := by decide
  have e2 : Ieee.double.infRung = 9218868437227405312 := by decide
  have e3 : Ieee.double.binade = 4503599627370496 := by decide
  unfold NN Ieee.Format.read Ieee.Format.word
  rw [e1, e2, e3]
  have e4 : (if s = true then 9223372036854775808 + rung else rung) % 9223372036854775808 = rung := by cases s <;> simp <;> omega
  simp only [e4]
  split
  · rfl
  · split
    · rfl
    · rw [if_pos (by omega)]; rfl
theorem nn_write {d : Ieee.Datum} (h : d.isNaN = false) : NN (Ieee.double.write d) := by
  have e2 : Ieee.double.infRung = 9218868437227405312 := by decide
  cases d with
  | number s m e =>
    show NN (Ieee.double.nearest s m e)
    unfold Ieee.Format.nearest
    split
    · exact nn_word _ _ (by omega)
    · refine nn_word _ _ ?_
      rw [e2]; exact Nat.min_le_right _ _
  | infinity s => exact nn_word _ _ (by rw [e2]; exact Nat.le_refl _)
  | nan s t => cases h
theorem nn_zero : NN 0 := by unfold NN; decide +kernel
/-- One by a word that is no NaN. -/
theorem quo_nn {x : Nat} (h : NN x) : ∃ r, floatBits .quo .f64 4607182418800017408 x = some r ∧ NN r := by
  have h1 : Ieee.double.read 4607182418800017408 = .number false 4503599627370496 (-52) := by decide +kernel
  unfold NN at h
  show ∃ r, ((Ieee.double.read 4607182418800017408).quotient (Ieee.double.fractionBits + 2) (Ieee.double.read x)).map Ieee.double.write = some r ∧ NN r
  rw [h1]
  generalize Ieee.double.read x = d at *
  cases d with
  | number s m e =>
    unfold Ieee.Datum.quotient
    by_cases h0 : m = 0
    · simp only [h0, if_true]
      rw [if_neg (by decide)]
      exact ⟨_, rfl, nn_write rfl⟩
    · simp only [h0, if_false]
      exact ⟨_, rfl, nn_write rfl⟩
  | infinity s => exact ⟨_, rfl, nn_write rfl⟩
  | nan s t => cases h
theorem run_wider {a b x y : Nat} (h1 : floatToFloatBits .f32 a .f64 = some x) (h2 : floatToFloatBits .f32 b .f64 = some y) (w : World) :
    (convert 23 44 (cs a b)).run Try.prog w = .ok (cw x y) w :=
  run_convert_complex w _ _ .f32 .f64 _ _ _ _ (by kernel_rfl) (by kernel_rfl) (by unfold cConvBits; rw [h1, h2]; rfl)
theorem within_yes {x y m p q : Nat} (h1 : floatBits .sub .f64 x y = some p) (h2 : floatBits .sub .f64 y x = some q) (O1 : FloatKind.f64.format.order p m = some .lt) (O2 : FloatKind.f64.format.order q m = some .lt) (w : World) :
    Calls Try.prog 8 #[.float .f64 x, .float .f64 y, .float .f64 m] w fun e w' => e = .returned (.bool true) ∧ w' = w := by
  have R1 : ∀ t w, (binOp .sub t (.float .f64 x) (.float .f64 y)).run Try.prog w = .ok (.float .f64 p) w := fun t w => run_float_arith w .sub t .f64 _ _ _ h1
  have R2 : ∀ t w, (binOp .sub t (.float .f64 y) (.float .f64 x)).run Try.prog w = .ok (.float .f64 q) w := fun t w => run_float_arith w .sub t .f64 _ _ _ h2
  clear h1 h2
  go_enter Try.func8, Try.ntmps8
  go_wp2_with (first | rw [R1] | rw [R2])
  go_ret
  exact ⟨rfl, rfl⟩
theorem run_ceq {p q x y : Nat} {o1 o2 : Ordering} (h1 : FloatKind.f64.format.order p x = some o1) (h2 : FloatKind.f64.format.order q y = some o2) (t : TypeId) (w : World) :
    (binOp .eql t (.complex .f64 p q) (.complex .f64 x y)).run Try.prog w = .ok (.bool (o1 == .eq && o2 == .eq)) w := by
  cases o1 <;> cases o2 <;> simp [binOp, Op.complexOp, Op.Complex.cmp, Op.floatCmp, h1, h2, go_sem, asBool]
end Go.Proofs.Ytibhlaojinedoaa
/- Contracts: the size of a float, PointsNear. -/
namespace Go.Proofs.Ytibhlaojinedoaa
set_option maxRecDepth 20000
open Go.ChangeShapes Go.WideShapes Go.ChangeAt Go.RowKit
set_option linter.unusedVariables false
set_option linter.unusedSimpArgs false

/-- A word without its sign. -/
def mgn (x : Nat) : Nat := x % 9223372036854775808
theorem mgn_bits (x : Nat) : bits .andNot .u64 (x : Int) 9223372036854775808 = ((mgn x : Nat) : Int) := by
  unfold bits mgn
  have h1 : ~~~(BitVec.ofInt IntKind.u64.bits 9223372036854775808) = BitVec.ofNat 64 (2 ^ 63 - 1) := by
    show ~~~(BitVec.ofInt 64 9223372036854775808) = BitVec.ofNat 64 (2 ^ 63 - 1)
    decide
  have h2 : (BitVec.ofInt IntKind.u64.bits (x : Int) &&& ~~~(BitVec.ofInt IntKind.u64.bits 9223372036854775808)).toNat = x % 9223372036854775808 := by
    rw [h1]
    show (BitVec.ofInt 64 (x : Int) &&& BitVec.ofNat 64 (2 ^ 63 - 1)).toNat = _
    rw [BitVec.toNat_and, BitVec.ofInt_natCast, BitVec.toNat_ofNat, BitVec.toNat_ofNat, show (2 ^ 63 - 1) % 2 ^ 64 = 2 ^ 63 - 1 by decide, Nat.and_two_pow_sub_one_eq_mod]
    omega
  simp only [h2]
  have h3 := Nat.mod_lt x (show 0 < 9223372036854775808 by decide)
  have : ((x % 9223372036854775808 : Nat) : Int) < 9223372036854775808 := by omega
  generalize x % 9223372036854775808 = y at *
  show IntKind.u64.wrap (y : Int) = y
  have e : IntKind.u64.wrap (y : Int) = (y : Int) % 18446744073709551616 := by
    unfold IntKind.wrap
    rw [show IntKind.u64.signed = false from rfl]
    simp only [Bool.false_and, Bool.false_eq_true, if_false]
    rfl
  rw [e]; omega
theorem mgn_val {x : Nat} {v : Int} (h : ValD x v) : ValD (mgn x) v.natAbs := by
  unfold ValD Val at h
  obtain ⟨s, m, b, r, e⟩ := h
  have e1 : Ieee.double.signWeight = 9223372036854775808 := by decide
  have e2 : Ieee.double.infRung = 9218868437227405312 := by decide
  have e3 : Ieee.double.binade = 4503599627370496 := by decide
  have ha := abs_mul_pow e
  refine ⟨false, m, b, ?_, ?_⟩
  · unfold Ieee.Format.read at r ⊢
    unfold mgn
    rw [e1] at r ⊢
    have h3 := Nat.mod_lt x (show 0 < 9223372036854775808 by decide)
    rw [Nat.mod_mod, Nat.div_eq_of_lt h3]
    simp only at r ⊢
    split at r
    · rename_i k; rw [if_pos k]; injection r with _ r1 r2; rw [r1, r2]; rfl
    · rename_i k
      rw [if_neg k]
      split at r
      · rename_i k2; rw [if_pos k2]; injection r with _ r1 r2; rw [r1, r2]; rfl
      · split at r <;> cases r
  · rw [ha]
    show ((v.natAbs * 2 ^ tD : Nat) : Int) = _
    rw [Int.natCast_mul, cast_powI]
theorem bits_of (x : Nat) (w : World) : (callFunc 49 #[.float .f64 x]).run Try.prog w = .ok (.value (.int .u64 (x : Int))) w := by
  rw [run_callFunc_extern (e := Extern.MathFloatBits.float64bits) Try.func49 (by kernel_rfl) (by kernel_rfl) (by kernel_rfl) (by kernel_rfl)]
  rfl
theorem of_bits (x : Nat) (w : World) : (callFunc 48 #[.int .u64 (x : Int)]).run Try.prog w = .ok (.value (.float .f64 x)) w := by
  rw [run_callFunc_extern (e := Extern.MathFloatBits.float64frombits) Try.func48 (by kernel_rfl) (by kernel_rfl) (by kernel_rfl) (by kernel_rfl)]
  rfl
theorem abs_any (x : Nat) (w : World) : Calls Try.prog 36 #[.float .f64 x] w fun e w' => e = .returned (.float .f64 (mgn x)) ∧ w' = w := by
  have B := fun w => bits_of x w
  have M := mgn_bits x
  have F := fun w => of_bits (mgn x) w
  generalize mgn x = y at *
  go_enter Try.func36, Try.ntmps36
  go_wp2_with (first | rw [B] | rw [F])
  go_ret
  exact ⟨rfl, rfl⟩
/-- At most: what a comparison told. -/
def leq (c : Option Ordering) : Bool := c == some .lt || c == some .eq
end Go.Proofs.Ytibhlaojinedoaa
/- Contracts of impl's points in both widths, second part: the sum of eight terms, the points. -/
namespace Go.Proofs.Ytibhlaojinedoaa
set_option maxRecDepth 20000
open Go.ChangeShapes Go.WideShapes Go.ChangeAt Go.RowKit
set_option linter.unusedVariables false
set_option linter.unusedSimpArgs false

theorem wb_one (w : World) (o : Obj) : Below w.heap.size w (w.alloc o) := (Below.refl _ _).alloc (Nat.le_refl _) _
theorem wb_step {w W : World} (h : Below w.heap.size w W) (o : Obj) : Below w.heap.size w (W.alloc o) := h.alloc h.size o
theorem wb_next {w W W' : World} (h : Below w.heap.size w W) (k : Below W.heap.size W W') : Below w.heap.size w W' := h.trans (k.mono h.size)
end Go.Proofs.Ytibhlaojinedoaa
