/-
  Contracts: whole parts of floats, WideGauss on both sides; Gaussian numbers are exact in both widths.
-/
import Derived.Test.YtmbhbocfnpklpaaWideD
import Derived.Test.YtmbhbocfnpklpaaWideF
import Derived.Test.YtmbhbocfnpklpaaCycU
import GoSem.Extern.MathFloor
namespace Go.Proofs.Ytmbhbocfnpklpaa
set_option maxRecDepth 20000
open Go.ChangeShapes Go.WideShapes Go.ChangeAt Go.RowKit
set_option linter.unusedVariables false
set_option linter.unusedSimpArgs false

/-- What stands for the cut towards zero: the third of its kin. -/
def cutFn : Array Value → Sem Value := match Extern.MathFloor.rows with | [_, _, r, _] => r.2 | _ => fun a => pure (.tuple a)
/-- A word cut towards zero. -/
def trw (x : Nat) : Nat := Ieee.double.write ((Ieee.double.read x).integral .zero)
theorem arch_fine {x : Nat} (h : NN x) (w : World) : (callFunc 88 #[.float .f64 x]).run Try.prog w = .ok (.value (.float .f64 (trw x))) w := by
  rw [run_callFunc_extern (e := cutFn) Try.func88 (by kernel_rfl) (by kernel_rfl) (by kernel_rfl) (by kernel_rfl)]
  unfold NN at h
  unfold trw
  show ((match Ieee.double.read x with | .nan s t => _ | d => _ : Sem Value).run Try.prog w).andThen _ = _
  generalize Ieee.double.read x = d at *
  cases d with
  | number s m e => rfl
  | infinity s => rfl
  | nan s t => cases h
/-- What a NaN's cut is. -/
def trI (ask : Question) (d : Ieee.Datum) (x : Nat) : Sem Value :=
  match d with
  | .nan s t => if FloatKind.f64.format.quiet t = t then pure (.float .f64 x) else do
    let kept ← choose ask
    pure (.float .f64 (if kept == 1 then x else FloatKind.f64.encode (.nan s (FloatKind.f64.format.quiet t))))
  | d => pure (.float .f64 (FloatKind.f64.encode (d.integral .zero)))
theorem nan_quiet {x s t} (hr : Ieee.double.read x = .nan s t) : IsN (Ieee.double.write (.nan s (Ieee.double.quiet t))) := by
  have e1 : Ieee.double.signWeight = 9223372036854775808 := by decide
  have e2 : Ieee.double.infRung = 9218868437227405312 := by decide
  have e3 : Ieee.double.binade = 4503599627370496 := by decide
  have ht : t < 4503599627370496 ∧ 0 < t := by
    unfold Ieee.Format.read at hr
    rw [e1, e2, e3] at hr
    simp only at hr
    have hm := Nat.mod_lt x (show 0 < 9223372036854775808 by decide)
    split at hr
    · cases hr
    · split at hr
      · cases hr
      · split at hr
        · cases hr
        · injection hr with _ r1; omega
  have hq : 0 < Ieee.double.quiet t ∧ Ieee.double.quiet t < 4503599627370496 := by
    have e : Ieee.double.quiet t = t ||| 2251799813685248 := rfl
    rw [e]
    have hl : t ||| 2251799813685248 < 2 ^ 52 := Nat.or_lt_two_pow (by omega) (by decide)
    have hg : t ≤ t ||| 2251799813685248 := Nat.left_le_or
    omega
  show IsN (Ieee.double.word s (Ieee.double.infRung + Ieee.double.quiet t % Ieee.double.binade))
  rw [e2, e3, Nat.mod_eq_of_lt hq.2]
  unfold Ieee.Format.word
  rw [e1]
  refine nan_word _ ?_
  cases s <;> simp <;> omega
theorem run_ask (ask : Question) (w : World) : ∃ k w', (choose ask).run Try.prog w = .ok k w' ∧ Below w.heap.size w w' := by
  by_cases h : ask.forced = true
  · exact ⟨0, w, by simp [choose, Sem.run, h], Below.refl _ _⟩
  · exact ⟨ask.cut (w.tape w.drawn ask), w.drew, by simp [choose, Sem.run, h], (Below.refl _ _).drew⟩
theorem trI_nan {x : Nat} (h : IsN x) (ask : Question) (w : World) : ∃ y w', IsN y ∧ Below w.heap.size w w' ∧ ((trI ask (Ieee.double.read x) x).run Try.prog w).andThen (fun v w' => .ok (.value v) w') = .ok (Next.value (.float .f64 y)) w' := by
  have h0 := h
  unfold IsN at h
  have hn : ∃ s t, Ieee.double.read x = .nan s t := by
    generalize Ieee.double.read x = d at *
    cases d with
    | number s m e => cases h
    | infinity s => cases h
    | nan s t => exact ⟨s, t, rfl⟩
  obtain ⟨s, t, hr⟩ := hn
  have hnq := nan_quiet hr
  rw [hr]
  by_cases hq : FloatKind.f64.format.quiet t = t
  · refine ⟨x, w, h0, Below.refl _ _, ?_⟩
    simp only [trI, hq, if_true]; rfl
  · obtain ⟨k, w', hk, hb⟩ := run_ask ask w
    refine ⟨if k == 1 then x else FloatKind.f64.encode (.nan s (FloatKind.f64.format.quiet t)), w', ?_, hb, ?_⟩
    · by_cases h1 : (k == 1) = true
      · rw [if_pos h1]; exact h0
      · rw [if_neg h1]; exact hnq
    · simp only [trI, hq, if_false, Sem.run_bind, hk]; rfl
theorem arch_nan {x : Nat} (h : IsN x) (w : World) : ∃ y w', IsN y ∧ Below w.heap.size w w' ∧ (callFunc 88 #[.float .f64 x]).run Try.prog w = .ok (.value (.float .f64 y)) w' := by
  rw [run_callFunc_extern (e := cutFn) Try.func88 (by kernel_rfl) (by kernel_rfl) (by kernel_rfl) (by kernel_rfl)]
  exact trI_nan h _ w
theorem trunc_fine {x : Nat} (h : NN x) (w : World) : Calls Try.prog 82 #[.float .f64 x] w fun e w' => e = .returned (.float .f64 (trw x)) ∧ w' = w := by
  have F := fun w => arch_fine h w
  clear h
  generalize trw x = y at *
  go_enter Try.func82, Try.ntmps82
  go_wp2_with (rw [F])
  go_ret
  exact ⟨rfl, rfl⟩
theorem trunc_nan {x : Nat} (h : IsN x) (w : World) : Calls Try.prog 82 #[.float .f64 x] w fun e w' => ∃ y, IsN y ∧ e = .returned (.float .f64 y) ∧ Below w.heap.size w w' := by
  obtain ⟨y, w2, ny, hb, F⟩ := arch_nan h w
  clear h
  go_enter Try.func82, Try.ntmps82
  go_wp2_with (rw [F])
  go_ret
  exact ⟨y, ny, rfl, hb⟩
/-- What coefOf tells of a float. -/
def Coef (x : Nat) (n : Int) (v : Bool) : Prop := ∀ w, Calls Try.prog 64 #[.float .f64 x] w fun e w' => e = .returned (.tuple #[.int .i64 n, .bool v]) ∧ Below w.heap.size w w'
theorem run_int {x : Nat} {n : Int} (h : floatToIntVal .f64 x .i64 = some n) (w : World) : (convert 34 3 (.float .f64 x)).run Try.prog w = .ok (.int .i64 n) w :=
  run_convert_float_int w _ _ .f64 .i64 _ _ (by kernel_rfl) (by kernel_rfl) h
theorem coef_yes {x : Nat} {n : Int} (h : NN x) (o1 : FloatKind.f64.format.order x (trw x) = some .eq) (o2 : FloatKind.f64.format.order (mgn x) 4696837146684686336 = some .lt) (hi : floatToIntVal .f64 x .i64 = some n) : Coef x n true := by
  intro w
  have T := fun w => trunc_fine h w
  have A := fun w => abs_any x w
  have R := fun w => run_int hi w
  clear h hi
  generalize trw x = y at *
  generalize mgn x = z at *
  go_enter Try.func64, Try.ntmps64
  go_wp2_with (first | rw [R] | (go_at_call 82; refine (T _).mono ?_; rintro e w2 ⟨rfl, rfl⟩) | (go_at_call 62; refine (A _).mono ?_; rintro e w2 ⟨rfl, rfl⟩))
  go_ret2
  exact ⟨rfl, Below.refl _ _⟩
theorem coef_part {x : Nat} {o : Ordering} (h : NN x) (o1 : FloatKind.f64.format.order x (trw x) = some o) (ho : o ≠ .eq) : Coef x 0 false := by
  intro w
  have T := fun w => trunc_fine h w
  clear h
  generalize trw x = y at *
  cases o
  · go_enter Try.func64, Try.ntmps64
    go_wp2_with (first | (go_at_call 82; refine (T _).mono ?_; rintro e w2 ⟨rfl, rfl⟩))
    go_ret2
    exact ⟨rfl, Below.refl _ _⟩
  · exact absurd rfl ho
  · go_enter Try.func64, Try.ntmps64
    go_wp2_with (first | (go_at_call 82; refine (T _).mono ?_; rintro e w2 ⟨rfl, rfl⟩))
    go_ret2
    exact ⟨rfl, Below.refl _ _⟩
theorem coef_great {x : Nat} (h : NN x) (o1 : FloatKind.f64.format.order x (trw x) = some .eq) (o2 : FloatKind.f64.format.order (mgn x) 4696837146684686336 = some .gt) : Coef x 0 false := by
  intro w
  have T := fun w => trunc_fine h w
  have A := fun w => abs_any x w
  clear h
  generalize trw x = y at *
  generalize mgn x = z at *
  go_enter Try.func64, Try.ntmps64
  go_wp2_with (first | (go_at_call 82; refine (T _).mono ?_; rintro e w2 ⟨rfl, rfl⟩) | (go_at_call 62; refine (A _).mono ?_; rintro e w2 ⟨rfl, rfl⟩))
  go_ret2
  exact ⟨rfl, Below.refl _ _⟩
theorem coef_nan {x : Nat} (h : IsN x) : Coef x 0 false := by
  intro w
  have T := fun w => trunc_nan h w
  have O := fun y => (nan_order h y).1
  clear h
  go_enter Try.func64, Try.ntmps64
  go_wp2_with fail
  refine (T _).mono ?_; rintro e w2 ⟨y, ny, rfl, hb⟩
  have O1 := O y
  have HB := Lib.hid hb
  clear O hb ny T
  go_wp2_with fail
  go_ret2
  exact ⟨rfl, HB.out⟩
end Go.Proofs.Ytmbhbocfnpklpaa
