/-
  What the exact laws of chapter 10 need of the results: a bit, finite words, short lists.
-/
import Derived.Test.YtnidiikcnplebaaM27
import Derived.Test.YtnidiikcnplebaaM28
/- What the exact laws of chapter 10 need of the results: a bit, finite words, short lists. -/
namespace Go.Proofs.Ytnidiikcnplebaa
set_option maxRecDepth 20000
open Go.ChangeShapes Go.WideShapes Go.ChangeAt Go.RowKit
set_option linter.unusedVariables false
set_option linter.unusedSimpArgs false

def BitC (w : World) (o : Option (List Pn)) (bit : Bool) (e : Ending) (w' : World) : Prop :=
  Below w.heap.size w w' ∧ ∃ v', e = .returned (.tuple #[v', .bool bit]) ∧ OwnL encC 1 w' w.heap.size 35 v' (o.getD [])
theorem told_bitC {w w' : World} {o : Option (List Pn)} {bit : Bool} {e : Ending} (hb : o.isSome = bit) (h : ToldC w o e w') : BitC w o bit e w' := by
  subst hb
  exact h
def BitM (w : World) (o : Option (List Mv)) (bit : Bool) (e : Ending) (w' : World) : Prop :=
  Below w.heap.size w w' ∧ ∃ v', e = .returned (.tuple #[v', .bool bit]) ∧ OwnL encM 2 w' w.heap.size 45 v' (o.getD [])
theorem told_bitM {w w' : World} {o : Option (List Mv)} {bit : Bool} {e : Ending} (hb : o.isSome = bit) (h : ToldM w o e w') : BitM w o bit e w' := by
  subst hb
  exact h
theorem pathO_short (xs : List V) : ((pathO xs).getD []).length ≤ 100 := by
  unfold pathO
  split
  · next h => rw [Bool.and_eq_true] at h; exact (pvB_parts h.2).2.1
  · simp
theorem pathO_fin (xs : List V) : ∀ a ∈ (pathO xs).getD [], ptF a = true := by
  unfold pathO
  split
  · next h => rw [Bool.and_eq_true] at h; exact fun a ha => ptR_fin ((pvB_parts h.2).2.2 a ha)
  · intro a ha; simp at ha
theorem mpO_short (xs : List Mv) (g : Int) : ((mpO xs g).getD []).length ≤ 100 := by
  unfold mpO
  split
  · next h => rw [Bool.and_eq_true] at h; exact (pvB_parts h.2).2.1
  · simp
theorem mpO_fin (xs : List Mv) (g : Int) : ∀ a ∈ (mpO xs g).getD [], ptF a = true := by
  unfold mpO
  split
  · next h => rw [Bool.and_eq_true] at h; exact fun a ha => ptR_fin ((pvB_parts h.2).2.2 a ha)
  · intro a ha; simp at ha
theorem tdO_short (xs : List Mv) : ((tdO xs).getD []).length ≤ 100 := by
  unfold tdO
  split
  · next h => rw [Bool.and_eq_true] at h; exact (mvB_parts h.2).1
  · simp

end Go.Proofs.Ytnidiikcnplebaa
