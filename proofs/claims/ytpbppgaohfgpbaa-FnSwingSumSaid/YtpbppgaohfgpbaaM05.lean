/-
  The laws' helpers on exact points: copying and comparing; and what both sides answer.
  The exact laws of exact points of one point or of numbers: both sides answer alike, for every argument.
  The laws' own small functions on slices of int: equal, marked, held.
-/
import Derived.Test.YtpbppgaohfgpbaaM03
import Derived.Test.YtpbppgaohfgpbaaM04
import Derived.Deep.QuietTactic
import Derived.BigQuiet
import Derived.Test.YtpbppgaohfgpbaaM01
import Derived.OwnWalk
import Derived.Laws.AppendOwn
import Derived.Laws.OwnMore
import Derived.Deep.Onto
import Derived.Deep.WholeRow
/- The laws' helpers on exact points: copying and comparing; and what both sides answer. -/
namespace Go.Proofs.Ytpbppgaohfgpbaa
set_option maxRecDepth 20000
open Go.ChangeShapes Go.WideShapes Go.ChangeAt Go.RowKit
set_option linter.unusedVariables false
set_option linter.unusedSimpArgs false

end Go.Proofs.Ytpbppgaohfgpbaa
/- The exact laws of exact points of one point or of numbers: both sides answer alike, for every argument. -/
namespace Go.Proofs.Ytpbppgaohfgpbaa
set_option maxRecDepth 20000
open Go.ChangeShapes Go.WideShapes Go.ChangeAt Go.RowKit
set_option linter.unusedVariables false
set_option linter.unusedSimpArgs false

end Go.Proofs.Ytpbppgaohfgpbaa
/- The laws' own small functions on slices of int: equal, marked, held. -/
namespace Go.Proofs.Ytpbppgaohfgpbaa
set_option maxRecDepth 20000
open Go.ChangeShapes Go.WideShapes Go.ChangeAt Go.RowKit
set_option linter.unusedVariables false
set_option linter.unusedSimpArgs false

/-- A slice value reads as a list of ints. -/
def IntsAt (w : World) (v : Value) (xs : List Int) : Prop :=
  ∃ (p : Option Addr) (cap : Nat), v = .slice p xs.length cap ∧ (xs ≠ [] → ∃ g off, p = some ⟨g, off, none⟩ ∧ ∀ i, i < xs.length → w.cell? ⟨g, off + i, none⟩ = some (.int .i64 (xs.getD i 0)))

theorem getD_of_getElem? {xs : List Int} {i : Nat} (h : i < xs.length) : (xs.map (Value.int .i64))[i]? = some (.int .i64 (xs.getD i 0)) := by
  simp [List.getD_eq_getElem?_getD, h]
theorem intsAt_of_own {w : World} {B n : Nat} {t : TypeId} {v : Value} {xs : List Int} (h : w.ownsRow B t 1 v n (xs.map (Value.int .i64))) : IntsAt w v xs := by
  have hl : xs.length = n := by simpa using h.1
  rcases h.2 with ⟨rfl, rfl⟩ | ⟨g, cap, cur, rfl, _⟩
  · have : xs = [] := List.length_eq_zero_iff.1 hl
    subst this
    exact ⟨none, 0, rfl, fun hne => absurd rfl hne⟩
  · refine ⟨some ⟨g, 0, none⟩, cap, by rw [hl], fun _ => ⟨g, 0, rfl, fun i hi => ?_⟩⟩
    rw [Nat.zero_add, h.cellAt i (by omega)]
    exact getD_of_getElem? hi

/-- The marks k, k + 1, .. -/
def marks (k : Int) (n : Nat) : List Int := (List.range n).map (fun i => k + (i : Nat))
theorem marks_len (k : Int) (n : Nat) : (marks k n).length = n := by simp [marks]
theorem marks_get (k : Int) (n i : Nat) (h : i < n) : (marks k n).getD i 0 = k + i := by
  simp [marks, List.getD_eq_getElem?_getD, h]
theorem mark_step (k : Int) (xs : List Int) (j : Nat) (h : j < xs.length) :
    (((marks k j ++ xs.drop j).map (Value.int .i64)).set j (.int .i64 (k + j))) = (marks k (j + 1) ++ xs.drop (j + 1)).map (Value.int .i64) := by
  have e : xs.drop j = xs[j] :: xs.drop (j + 1) := List.drop_eq_getElem_cons h
  rw [e]
  have hm : marks k (j + 1) = marks k j ++ [k + j] := by simp [marks, List.range_succ]
  rw [hm, List.map_append, List.set_append_right _ _ (by simp [marks_len])]
  simp only [List.map_append, List.map_cons, List.length_map, marks_len, Nat.sub_self, List.set_cons_zero, List.append_assoc, List.cons_append, List.nil_append, List.map_nil]
theorem only_trans {a b c : World} {row : Option Nat} (h : a.grownBy b row) (k : b.grownBy c row) : a.grownBy c row :=
  ⟨k.os.trans h.os, k.tape.trans h.tape, k.output.trans h.output, Nat.le_trans h.size k.size, fun i hi hne => (k.block i (Nat.lt_of_lt_of_le hi h.size) hne).trans (h.block i hi hne)⟩

end Go.Proofs.Ytpbppgaohfgpbaa
