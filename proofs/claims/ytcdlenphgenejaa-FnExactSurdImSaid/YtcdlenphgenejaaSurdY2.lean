/-
  What the exact laws of surds share: both sides answer alike.
-/
import Derived.Test.YtcdlenphgenejaaSurdY
import Derived.Test.YtcdlenphgenejaaCycZ
namespace Go.Proofs.Ytcdlenphgenejaa
set_option maxRecDepth 20000
open Go.ChangeShapes Go.WideShapes Go.ChangeAt Go.RowKit
set_option linter.unusedVariables false
set_option linter.unusedSimpArgs false

theorem both_SurdAdd (a b : Nat → Int) : ∃ c v, (∀ w, Calls Try.prog 30 #[.agg (vec 4 a), .agg (vec 4 b)] w fun e w' => e = .returned (.tuple #[.agg (vec 4 c), .bool v]) ∧ Below w.heap.size w w') ∧ (∀ w, Calls Try.prog 19 #[.agg (vec 4 a), .agg (vec 4 b)] w fun e w' => e = .returned (.tuple #[.agg (vec 4 c), .bool v]) ∧ Below w.heap.size w w') := by
  obtain ⟨c, v, h1, h2, _⟩ := know_SurdAdd a b
  exact ⟨c, v, h1, h2⟩
theorem both_SurdTimes (a b : Nat → Int) : ∃ c v, (∀ w, Calls Try.prog 34 #[.agg (vec 4 a), .agg (vec 4 b)] w fun e w' => e = .returned (.tuple #[.agg (vec 4 c), .bool v]) ∧ Below w.heap.size w w') ∧ (∀ w, Calls Try.prog 33 #[.agg (vec 4 a), .agg (vec 4 b)] w fun e w' => e = .returned (.tuple #[.agg (vec 4 c), .bool v]) ∧ Below w.heap.size w w') := by
  obtain ⟨c, v, h1, h2, _⟩ := know_SurdTimes a b
  exact ⟨c, v, h1, h2⟩
theorem both_SurdCompare (a b : Nat → Int) : ∃ z v, (∀ w, Calls Try.prog 39 #[.agg (vec 4 a), .agg (vec 4 b)] w fun e w' => e = .returned (.tuple #[.int .i64 z, .bool v]) ∧ Below w.heap.size w w') ∧ (∀ w, Calls Try.prog 31 #[.agg (vec 4 a), .agg (vec 4 b)] w fun e w' => e = .returned (.tuple #[.int .i64 z, .bool v]) ∧ Below w.heap.size w w') := by
  obtain ⟨c, v, h1, h2, _⟩ := know_SurdCompare a b
  exact ⟨c, v, h1, h2⟩
theorem both_SurdSign (a : Nat → Int) : ∃ z v, (∀ w, Calls Try.prog 36 #[.agg (vec 4 a)] w fun e w' => e = .returned (.tuple #[.int .i64 z, .bool v]) ∧ Below w.heap.size w w') ∧ (∀ w, Calls Try.prog 18 #[.agg (vec 4 a)] w fun e w' => e = .returned (.tuple #[.int .i64 z, .bool v]) ∧ Below w.heap.size w w') := by
  obtain ⟨c, v, h1, h2, _⟩ := know_SurdSign a
  exact ⟨c, v, h1, h2⟩
theorem both_SurdWhole (a : Nat → Int) : ∃ z v, (∀ w, Calls Try.prog 45 #[.agg (vec 4 a)] w fun e w' => e = .returned (.tuple #[.int .i64 z, .bool v]) ∧ Below w.heap.size w w') ∧ (∀ w, Calls Try.prog 44 #[.agg (vec 4 a)] w fun e w' => e = .returned (.tuple #[.int .i64 z, .bool v]) ∧ Below w.heap.size w w') := by
  obtain ⟨c, v, h1, h2, _⟩ := know_SurdWhole a
  exact ⟨c, v, h1, h2⟩
theorem both_SurdRe (a : Nat → Int) : ∃ c v, (∀ w, Calls Try.prog 22 #[.agg (vec 8 a)] w fun e w' => e = .returned (.tuple #[.agg (vec 4 c), .bool v]) ∧ Below w.heap.size w w') ∧ (∀ w, Calls Try.prog 21 #[.agg (vec 8 a)] w fun e w' => e = .returned (.tuple #[.agg (vec 4 c), .bool v]) ∧ Below w.heap.size w w') := by
  obtain ⟨c, v, h1, h2, _⟩ := know_SurdRe a
  exact ⟨c, v, h1, h2⟩
theorem both_SurdIm (a : Nat → Int) : ∃ c v, (∀ w, Calls Try.prog 27 #[.agg (vec 8 a)] w fun e w' => e = .returned (.tuple #[.agg (vec 4 c), .bool v]) ∧ Below w.heap.size w w') ∧ (∀ w, Calls Try.prog 25 #[.agg (vec 8 a)] w fun e w' => e = .returned (.tuple #[.agg (vec 4 c), .bool v]) ∧ Below w.heap.size w w') := by
  obtain ⟨c, v, h1, h2, _⟩ := know_SurdIm a
  exact ⟨c, v, h1, h2⟩
theorem both_SurdNorm (a : Nat → Int) : ∃ c v, (∀ w, Calls Try.prog 42 #[.agg (vec 8 a)] w fun e w' => e = .returned (.tuple #[.agg (vec 4 c), .bool v]) ∧ Below w.heap.size w w') ∧ (∀ w, Calls Try.prog 41 #[.agg (vec 8 a)] w fun e w' => e = .returned (.tuple #[.agg (vec 4 c), .bool v]) ∧ Below w.heap.size w w') := by
  obtain ⟨c, v, h1, h2, _⟩ := know_SurdNorm a
  exact ⟨c, v, h1, h2⟩
theorem both_SurdValid (a : Nat → Int) : ∃ v, (∀ w, Calls Try.prog 17 #[.agg (vec 4 a)] w fun e w' => e = .returned (.bool v) ∧ Below w.heap.size w w') ∧ (∀ w, Calls Try.prog 16 #[.agg (vec 4 a)] w fun e w' => e = .returned (.bool v) ∧ Below w.heap.size w w') :=
  ⟨okf a, (know_SurdValid a).1, (know_SurdValid a).2.1⟩
def boxAB4 (w : World) (a b : Nat → Int) (T : TypeId) : World := (w.alloc (.cells (vec 4 a) T)).alloc (.cells (vec 4 b) T)
theorem boxAB_facts4 (w : World) (a b : Nat → Int) (T : TypeId) : RowAt (boxAB4 w a b T) w.heap.size 4 T a ∧ RowAt (boxAB4 w a b T) (w.heap.size + 1) 4 T b ∧ Below w.heap.size w (boxAB4 w a b T) ∧ (boxAB4 w a b T).heap.size = w.heap.size + 1 + 1 :=
  ⟨(RowAt.newAt rfl rfl).alloc _, RowAt.newAt rfl (by simp), ((Below.refl _ _).alloc (Nat.le_refl _) _).alloc (by simp) _, by simp [boxAB4]⟩
end Go.Proofs.Ytcdlenphgenejaa
