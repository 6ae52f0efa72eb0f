/-
  What the walks of the laws of a row's squares share.
-/
import Derived.Test.YtdgbpdeimckbfaaLawRowBase
import Derived.Test.YtdgbpdeimckbfaaM34
namespace Go.Proofs.Ytdgbpdeimckbfaa
set_option maxRecDepth 20000
open Go.ChangeShapes Go.WideShapes Go.ChangeAt Go.RowKit
set_option linter.unusedVariables false
set_option linter.unusedSimpArgs false

section
variable {P : Program} {ops : Array Oper} {rest : List Oper} {o : Oper} {a : Act} {Q : Exit → Act → World → Prop} {w : World}
theorem load4_on {T ty : TypeId} {d : TypeDesc} {g : Nat} {f : Nat → Int} (hw : Region.wanted o (yielded ops a.tmps) = true) {x : Operand} (ho : o.op = .load T x) (hx : a.eval x = .pointer (some ⟨g, 0, none⟩)) (hr : RowAt w g 4 ty f)
    (hu : P.underlying T = some d) (hd : d.isRow = true) (hi : (P.info? T).map (·.size) = some 4)
    (h : wpList P ops Q rest (a.put o.dst (.agg (vec 4 f))) w) : wpList P ops Q (o :: rest) a w :=
  wpList_step fun K hK => by
    rw [if_pos hw]
    exact wp_load_mid T x ho g 0 hx (lst 4 f) d hr.range hu hd (by rw [lst_length]; exact hi) (hK _ _ h)
end
theorem eqS (f : Nat → Int) (w : World) : (Op.equalIn 10000 43 (.agg (vec 4 f)) (.agg (vec 4 f))).run Try.prog w = .ok true w := by
  have h := eq_four 43 (.inl rfl) (f 0) (f 1) (f 2) (f 3) (f 0) (f 1) (f 2) (f 3) w
  have e : (f 0 == f 0 && f 1 == f 1 && f 2 == f 2 && f 3 == f 3) = true := by simp
  rw [e] at h
  exact h
theorem RowAt.same4 {w : World} {g : Nat} {T : TypeId} {f f' : Nat → Int} (h : RowAt w g 4 T f) (e : vec 4 f = vec 4 f') : RowAt w g 4 T f' := by
  unfold RowAt at *
  rw [← e]; exact h
theorem SurdSign_yes {a : Nat → Int} {z : Int} (va : okf a = true) (h : sgf a = z) (w : World) : Calls Try.prog 51 #[.agg (vec 4 a)] w fun e w' => e = .returned (.tuple #[.int .i64 z, .bool true]) ∧ Below w.heap.size w w' := by
  have := SurdSign_any (a 0) (a 1) (a 2) (a 3) w
  rw [show okr (a 0) (a 1) (a 2) (a 3) = true from va, if_pos rfl, show sg4 (a 0) (a 1) (a 2) (a 3) = z from h] at this
  exact this
theorem shO_one {xs : List V} (hk : rowOk xs = true) : shO 1 xs = some (shL 1 xs) := by
  unfold shO
  rw [hk]; rfl
theorem sqR_bound (xs : List V) (j : Nat) (hj : j < 4) : -10000000 ≤ (sqR xs).getD nul j ∧ (sqR xs).getD nul j ≤ 10000000 := by
  cases h : sqR xs with
  | none => simp [nul]
  | some f =>
    have k := sqR_ok h
    simp only [okf, okr, Bool.and_eq_true, rng, decide_eq_true_eq] at k
    simp only [Option.getD_some]
    rcases (show j = 0 ∨ j = 1 ∨ j = 2 ∨ j = 3 by omega) with rfl | rfl | rfl | rfl
    · exact k.1.1.1
    · exact k.1.1.2
    · exact k.1.2
    · exact k.2
theorem len_times {n : Nat} {x : Int} (hn : n ≤ 24) (h1 : -10000000 ≤ x) (h2 : x ≤ 10000000) : -240000000 ≤ (n : Int) * x ∧ (n : Int) * x ≤ 240000000 := by
  have a : (n : Int) * x ≤ n * 10000000 := Int.mul_le_mul_of_nonneg_left h2 (by omega)
  have b : (n : Int) * -10000000 ≤ n * x := Int.mul_le_mul_of_nonneg_left h1 (by omega)
  omega
end Go.Proofs.Ytdgbpdeimckbfaa
