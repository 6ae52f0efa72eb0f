/-
  Contracts of impl's signs of radicals, and how surds become radicals.
-/
import Derived.Test.YtmbhbocfnpklpaaSurdB
import Derived.Test.YtmbhbocfnpklpaaCycD
import Derived.Deep.DeepCutAuto
namespace Go.Proofs.Ytmbhbocfnpklpaa
set_option maxRecDepth 20000
open Go.ChangeShapes Go.WideShapes Go.ChangeAt Go.RowKit
set_option linter.unusedVariables false
set_option linter.unusedSimpArgs false

def Gives (F : FuncId) (args : Array Value) (v : Value) : Prop := ∀ w, Calls Try.prog F args w fun e w' => e = .returned v ∧ Below w.heap.size w w'
theorem Gives.same {F : FuncId} {args : Array Value} {v : Value} (h : ∀ w, Calls Try.prog F args w fun e w' => e = .returned v ∧ w = w') : Gives F args v := fun w => (h w).mono fun _ _ ⟨he, hw⟩ => ⟨he, hw ▸ Below.refl _ _⟩
abbrev h2 (a b : Int) : Value := .agg (vec 2 (f2 a b))
theorem eq_four (T : TypeId) (hT : T = 43 ∨ T = 76) (a b c d x y z u : Int) (w : World) :
    (Op.equalIn 10000 T (.agg #[.int .i64 a, .int .i64 b, .int .i64 c, .int .i64 d]) (.agg #[.int .i64 x, .int .i64 y, .int .i64 z, .int .i64 u])).run Try.prog w = .ok (a == x && b == y && c == z && d == u) w := by
  by_cases ha : a = x
  · by_cases hb : b = y
    · by_cases hc : c = z
      · by_cases hd : d = u
        · subst ha; subst hb; subst hc; subst hd
          rcases hT with rfl | rfl <;> go_simp
        · have hd' : (d == u) = false := by simpa using hd
          subst ha; subst hb; subst hc
          rcases hT with rfl | rfl <;> go_simp
      · have hc' : (c == z) = false := by simpa using hc
        subst ha; subst hb
        rcases hT with rfl | rfl <;> go_simp
    · have hb' : (b == y) = false := by simpa using hb
      subst ha
      rcases hT with rfl | rfl <;> go_simp
  · have ha' : (a == x) = false := by simpa using ha
    rcases hT with rfl | rfl <;> go_simp
theorem rows_fresh (w : World) (o : Obj) (f g : Nat → Int) (T : TypeId) :
    RowAt (((w.alloc o).alloc (.cells (vec 2 f) T)).alloc (.cells (vec 2 g) T)).drew (w.heap.size + 1) 2 T f ∧ RowAt (((w.alloc o).alloc (.cells (vec 2 f) T)).alloc (.cells (vec 2 g) T)).drew (w.heap.size + 1 + 1) 2 T g ∧
      Below w.heap.size w (((w.alloc o).alloc (.cells (vec 2 f) T)).alloc (.cells (vec 2 g) T)).drew := by
  have h1 : RowAt ((w.alloc o).alloc (.cells (vec 2 f) T)) (w.heap.size + 1) 2 T f := RowAt.newAt rfl (by simp)
  have h2 : RowAt (((w.alloc o).alloc (.cells (vec 2 f) T)).alloc (.cells (vec 2 g) T)) (w.heap.size + 1 + 1) 2 T g := RowAt.newAt rfl (by simp)
  exact ⟨(h1.alloc _).drew1, h2.drew1, (below_three _ _ _ _).drew⟩
end Go.Proofs.Ytmbhbocfnpklpaa
