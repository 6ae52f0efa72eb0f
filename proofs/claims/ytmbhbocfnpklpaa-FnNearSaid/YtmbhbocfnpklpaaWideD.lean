/-
  NaNs; how spec draws complex numbers.
-/
import Derived.Test.YtmbhbocfnpklpaaWideN
import Derived.Test.YtmbhbocfnpklpaaDrawCyc
namespace Go.Proofs.Ytmbhbocfnpklpaa
set_option maxRecDepth 20000
open Go.ChangeShapes Go.WideShapes Go.ChangeAt Go.RowKit
set_option linter.unusedVariables false
set_option linter.unusedSimpArgs false

/-- A word of 64 bits that is a NaN. -/
def IsN (x : Nat) : Prop := (Ieee.double.read x).isNaN = true
theorem nan_order {x : Nat} (h : IsN x) (y : Nat) : FloatKind.f64.format.order x y = none ∧ FloatKind.f64.format.order y x = none := by
  unfold IsN at h
  show (Ieee.double.read x).order (Ieee.double.read y) = none ∧ (Ieee.double.read y).order (Ieee.double.read x) = none
  generalize Ieee.double.read x = d at *
  generalize Ieee.double.read y = d' at *
  cases d with
  | number s m e => cases h
  | infinity s => cases h
  | nan s t => cases d' <;> exact ⟨rfl, rfl⟩
theorem nan_word (k : Nat) (h : 9218868437227405313 ≤ k % 9223372036854775808) : IsN k := by
  have e1 : Ieee.double.signWeight = 9223372036854775808 := by decide
  have e2 : Ieee.double.infRung = 9218868437227405312 := by decide
  have e3 : Ieee.double.binade = 4503599627370496 := by decide
  unfold IsN Ieee.Format.read
  rw [e1, e2, e3]
  simp only
  rw [if_neg (by omega), if_neg (by omega), if_neg (by omega)]
  rfl
theorem nan_cut (x y t : Nat) : IsN (Question.cut (.nanBits .f64 x y) t) := by
  show IsN ((t % 2) * 2 ^ 63 + 0x7ff0000000000000 + 1 + (t / 2) % (2 ^ 52 - 1))
  refine nan_word _ ?_
  have h1 := Nat.mod_lt (t / 2) (show 0 < 2 ^ 52 - 1 by decide)
  have h2 := Nat.mod_lt t (show 0 < 2 by decide)
  have e4 : (2 : Nat) ^ 63 = 9223372036854775808 := by decide
  have e5 : (2 : Nat) ^ 52 - 1 = 4503599627370495 := by decide
  rw [e5] at *
  rw [e4]
  generalize t / 2 % 4503599627370495 = a at *
  rcases (show t % 2 = 0 ∨ t % 2 = 1 by omega) with h | h <;> rw [h] <;> omega
/-- An operation without an answer: some NaN, out of one draw. -/
theorem run_arith_nan {op : BinOp} {x y : Nat} (h : floatBits op .f64 x y = none) (hop : op = .add ∨ op = .sub ∨ op = .mul ∨ op = .quo) (t : TypeId) (w : World) :
    ∃ r, IsN r ∧ (binOp op t (.float .f64 x) (.float .f64 y)).run Try.prog w = .ok (.float .f64 r) w.drew := by
  refine ⟨_, nan_cut x y (w.tape w.drawn (.nanBits .f64 x y)), ?_⟩
  unfold floatBits at h
  rcases hop with rfl | rfl | rfl | rfl <;> simp only at h <;> simp [binOp, Op.floatArith, h, choose, Sem.run, Question.forced] <;> rfl
/-- What l91Wide draws. -/
def WK (x y : Nat) : Prop :=
  (IsN x ∧ y = 4607182418800017408) ∨ (x = 4607182418800017408 ∧ y = 9218868437227405312) ∨ (x = 9223372036854775808 ∧ y = 4611686018427387904) ∨ (x = 4602678819172646912 ∧ y = 4607182418800017408) ∨
  ∃ i j : Int, -20 ≤ i ∧ i ≤ 20 ∧ -20 ≤ j ∧ j ≤ 20 ∧ x = floatOfInt .f64 i ∧ y = floatOfInt .f64 j
def DrewW (w : World) (R p : Nat) (e : Ending) (w' : World) : Prop := ∃ x y q, e = .returned (cw x y) ∧ WK x y ∧ q ≤ p + 3 ∧ Rd w' R q ∧ w.grownBy w' (some R)
theorem Rd.drew {w : World} {R p : Nat} (h : Rd w R p) : Rd w.drew R p := h.keep (row := none) ⟨rfl, rfl, rfl, Nat.le_refl _, fun _ _ _ => rfl⟩ (fun g e => by cases e)
theorem only_drew {a w : World} {row : Option Nat} (h : a.grownBy w row) : a.grownBy w.drew row := ⟨h.os, h.tape, h.output, h.size, h.block⟩
set_option maxHeartbeats 2000000 in
theorem wide_drawn (R p : Nat) (w : World) (h : Rd w R p) (hp : p ≤ 900000) : Calls Try.prog 63 #[.pointer (some ⟨R, 0, none⟩)] w (DrewW w R p) := by
  have T1 := Lib.hid (pick_any _ _ 10 w h (by omega) (by omega))
  clear h
  go_enter Try.func63, Try.ntmps63
  go_wp2_with fail
  refine T1.out.mono ?_; rintro e w2 ⟨k, rfl, k0, k1, hr2, hg2⟩
  clear T1
  rcases (show k = 0 ∨ k = 1 ∨ k = 2 ∨ k = 3 ∨ 4 ≤ k by omega) with rfl | rfl | rfl | rfl | hk
  · obtain ⟨r, nr, R1⟩ := run_arith_nan (op := .quo) (x := 0) (y := 0) (by decide +kernel) (by simp) 34 w2
    have HR := Lib.hid (hr2.drew)
    have HG := Lib.hid (only_drew hg2)
    clear hr2 hg2
    go_wp2_with (rw [R1])
    go_ret
    exact ⟨_, _, _, rfl, Or.inl ⟨nr, rfl⟩, by omega, HR.out, HG.out⟩
  · have R1 : ∀ t w, (binOp .quo t (.float .f64 4607182418800017408) (.float .f64 0)).run Try.prog w = .ok (.float .f64 9218868437227405312) w := fun t w => run_float_arith w .quo t .f64 _ _ _ (by decide +kernel)
    have HR := Lib.hid hr2
    have HG := Lib.hid hg2
    clear hr2 hg2
    go_wp2_with (rw [R1])
    go_ret
    exact ⟨_, _, _, rfl, Or.inr (Or.inl ⟨rfl, rfl⟩), by omega, HR.out, HG.out⟩
  · have R1 : ∀ t w, (binOp .mul t (.float .f64 9223372036854775808) (.float .f64 4607182418800017408)).run Try.prog w = .ok (.float .f64 9223372036854775808) w := fun t w => run_float_arith w .mul t .f64 _ _ _ (by decide +kernel)
    have R0 : ∀ w, (Op.unary .neg (.float .f64 0)).run Try.prog w = .ok (.float .f64 9223372036854775808) w := fun w => by simp only [Op.unary, show Op.negFloat .f64 0 = 9223372036854775808 by decide +kernel]; rfl
    have HR := Lib.hid hr2
    have HG := Lib.hid hg2
    clear hr2 hg2
    go_wp2_with (first | rw [R1] | rw [R0])
    go_ret
    exact ⟨_, _, _, rfl, Or.inr (Or.inr (Or.inl ⟨rfl, rfl⟩)), by omega, HR.out, HG.out⟩
  · have HR := Lib.hid hr2
    have HG := Lib.hid hg2
    clear hr2 hg2
    go_wp2_with fail
    go_ret
    exact ⟨_, _, _, rfl, Or.inr (Or.inr (Or.inr (Or.inl ⟨rfl, rfl⟩))), by omega, HR.out, HG.out⟩
  · have T2 := Lib.hid (pick_any _ _ 41 w2 hr2 (by omega) (by omega))
    have HG := Lib.hid hg2
    have z2 := hg2.size
    clear hr2 hg2
    have n0 : k ≠ 0 := by omega
    have n1 : k ≠ 1 := by omega
    have n2 : k ≠ 2 := by omega
    have n3 : k ≠ 3 := by omega
    go_wp2_with fail
    refine T2.out.mono ?_; rintro e w3 ⟨i, rfl, i0, i1, hr3, hg3⟩
    have T3 := Lib.hid (pick_any _ _ 41 w3 hr3 (by omega) (by omega))
    have HG3 := Lib.hid (only_trans' HG.out hg3)
    clear T2 HG hr3 hg3
    go_wp2_with fail
    refine T3.out.mono ?_; rintro e w4 ⟨j, rfl, j0, j1, hr4, hg4⟩
    have HG4 := Lib.hid (only_trans' HG3.out hg4)
    have HR := Lib.hid hr4
    clear T3 HG3 hr4 hg4
    go_wp2_with fail
    go_ret
    exact ⟨_, _, _, rfl, Or.inr (Or.inr (Or.inr (Or.inr ⟨i - 20, j - 20, by omega, by omega, by omega, by omega, rfl, rfl⟩))), by omega, HR.out, HG4.out⟩
theorem drawWideGauss (v : Value) (w : World) (h : CodeAt w v) : Calls Try.prog 35 #[v] w fun e w' => ∃ x y, e = .returned (cw x y) ∧ WK x y ∧ Below w.heap.size w w' := by
  have O := Lib.hid (open_any v w h)
  clear h
  go_enter Try.func35, Try.ntmps35
  go_wp2_with fail
  refine O.out.mono ?_; rintro e w1 ⟨rfl, hr, hb⟩
  have z1 := hr.lt
  have T1 := Lib.hid (wide_drawn _ _ w1 hr (by omega))
  clear hr O
  go_wp2_with fail
  refine T1.out.mono ?_; rintro e w2 ⟨x, y, q, rfl, hk, hq, hr2, hg2⟩
  clear T1
  go_wp2_with fail
  go_ret
  exact ⟨_, _, rfl, hk, below_only hb hg2 (by omega) (Nat.le_refl _)⟩
end Go.Proofs.Ytmbhbocfnpklpaa
