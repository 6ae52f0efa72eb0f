/-
  impl's functions of surds.
-/
import Derived.Test.YtmbhbocfnpklpaaSurdD
import Derived.Test.YtmbhbocfnpklpaaCycF
namespace Go.Proofs.Ytmbhbocfnpklpaa
set_option maxRecDepth 20000
open Go.ChangeShapes Go.WideShapes Go.ChangeAt Go.RowKit
set_option linter.unusedVariables false
set_option linter.unusedSimpArgs false

theorem zero4 : (#[.int .i64 0, .int .i64 0, .int .i64 0, .int .i64 0] : Array Value) = vec 4 (fun _ => 0) := rfl
/-- A surd as a value, by its four numbers. -/
abbrev p4 (f : Nat → Int) : Value := .agg (vec 4 f)
def okf (f : Nat → Int) : Bool := okr (f 0) (f 1) (f 2) (f 3)
/-- What is told of a surd. -/
def tls (v : Bool) (f : Nat → Int) : Value := if v && okf f then .tuple #[p4 f, .bool true] else .tuple #[p4 nul, .bool false]
theorem tls_no4 (f : Nat → Int) : tls false f = .tuple #[p4 nul, .bool false] := rfl
theorem ans_no4 (f : Nat → Int) : tls false f = .tuple #[p4 nul, .bool false] := rfl
theorem ans_yes4 {f : Nat → Int} (h : okf f = true) : tls true f = .tuple #[p4 f, .bool true] := by simp [tls, h]
theorem ans_bad4 {f : Nat → Int} (h : okf f = false) : tls true f = .tuple #[p4 nul, .bool false] := by simp [tls, h]
theorem tell_tls (f : Nat → Int) : tell (f 0) (f 1) (f 2) (f 3) = tls true f := by
  cases h : okf f
  · rw [ans_bad4 h, tell_f h]; rfl
  · rw [ans_yes4 h, tell_t h]; rfl
theorem okf_in {f : Nat → Int} (h : okf f = true) : (-10000000 ≤ f 0 ∧ f 0 ≤ 10000000) ∧ (-10000000 ≤ f 1 ∧ f 1 ≤ 10000000) ∧ (-10000000 ≤ f 2 ∧ f 2 ≤ 10000000) ∧ (-10000000 ≤ f 3 ∧ f 3 ≤ 10000000) := okr_in h
theorem rtold_at (a : Nat → Int) (w : World) : Calls Try.prog 59 #[p4 a] w fun e w' => e = .returned (tls true a) ∧ Below w.heap.size w w' := by
  rw [← tell_tls]; exact rtold_any (a 0) (a 1) (a 2) (a 3) w
def box24 (w : World) (a b : Nat → Int) (T O : TypeId) : World := ((w.alloc (.cells (vec 4 a) T)).alloc (.cells (vec 4 b) T)).alloc (.cells (vec 4 nul) O)
theorem box2_facts4 (w : World) (a b : Nat → Int) (T O : TypeId) : RowAt (box24 w a b T O) w.heap.size 4 T a ∧ RowAt (box24 w a b T O) (w.heap.size + 1) 4 T b ∧ RowAt (box24 w a b T O) (w.heap.size + 1 + 1) 4 O nul ∧ Below w.heap.size w (box24 w a b T O) :=
  ⟨((RowAt.newAt rfl rfl).alloc _).alloc _, (RowAt.newAt rfl (by simp)).alloc _, RowAt.newAt rfl (by simp), (((Below.refl _ _).alloc (Nat.le_refl _) _).alloc (by simp) _).alloc (by simp; omega) _⟩
def box14 (w : World) (a : Nat → Int) (T O : TypeId) : World := (w.alloc (.cells (vec 4 a) T)).alloc (.cells (vec 4 nul) O)
theorem box1_facts4 (w : World) (a : Nat → Int) (T O : TypeId) : RowAt (box14 w a T O) w.heap.size 4 T a ∧ RowAt (box14 w a T O) (w.heap.size + 1) 4 O nul ∧ Below w.heap.size w (box14 w a T O) :=
  ⟨(RowAt.newAt rfl rfl).alloc _, RowAt.newAt rfl (by simp), ((Below.refl _ _).alloc (Nat.le_refl _) _).alloc (by simp) _⟩
def box04 (w : World) (a : Nat → Int) (T : TypeId) : World := w.alloc (.cells (vec 4 a) T)
theorem box0_facts4 (w : World) (a : Nat → Int) (T : TypeId) : RowAt (box04 w a T) w.heap.size 4 T a ∧ Below w.heap.size w (box04 w a T) := ⟨RowAt.newAt rfl rfl, (Below.refl _ _).alloc (Nat.le_refl _) _⟩
theorem pair_first4 (w : World) (E : TypeId) : RowAt ((w.alloc (.cells (vec 4 nul) E)).alloc (.cells (vec 4 nul) E)) w.heap.size 4 E nul := (RowAt.newAt rfl rfl : RowAt _ _ 4 E nul).alloc _
theorem pair_second4 (w : World) (a : Nat → Int) (E : TypeId) : RowAt (((w.alloc (.cells (vec 4 nul) E)).alloc (.cells (vec 4 nul) E)).setRow w.heap.size (vec 4 a)) (w.heap.size + 1) 4 E nul :=
  (RowAt.newAt rfl (by simp) : RowAt _ _ 4 E nul).rowOther _ _ (by omega)
def two4 (w : World) (a b : Nat → Int) (E : TypeId) : World := (((w.alloc (.cells (vec 4 nul) E)).alloc (.cells (vec 4 nul) E)).setRow w.heap.size (vec 4 a)).setRow (w.heap.size + 1) (vec 4 b)
theorem two_first4 (w : World) (a b : Nat → Int) (E : TypeId) : RowAt (two4 w a b E) w.heap.size 4 E a := (((RowAt.newAt rfl rfl : RowAt _ _ 4 E nul).alloc _).setRow).rowOther _ _ (by omega)
theorem two_second4 (w : World) (a b : Nat → Int) (E : TypeId) : RowAt (two4 w a b E) (w.heap.size + 1) 4 E b := ((RowAt.newAt rfl (by simp) : RowAt _ _ 4 E nul).rowOther _ _ (by omega)).setRow
theorem two_keep4 {w : World} {g n : Nat} {T : TypeId} {f : Nat → Int} (h : RowAt w g n T f) (a b : Nat → Int) (E : TypeId) : RowAt (two4 w a b E) g n T f :=
  have := h.lt
  (((h.alloc _).alloc _).rowOther _ _ (by omega)).rowOther _ _ (by omega)
theorem two_below4 {w W : World} (h : Below w.heap.size w W) (a b : Nat → Int) (E : TypeId) : Below w.heap.size w (two4 W a b E) :=
  have := h.size
  below_setRow (below_setRow ((h.alloc this _).alloc (by simp; omega) _) this _) (by omega) _
def sole4 (w : World) (a : Nat → Int) (E : TypeId) : World := (w.alloc (.cells (vec 4 nul) E)).setRow w.heap.size (vec 4 a)
theorem sole_first4 (w : World) (a : Nat → Int) (E : TypeId) : RowAt (sole4 w a E) w.heap.size 4 E a := (RowAt.newAt rfl rfl : RowAt _ _ 4 E nul).setRow
theorem sole_keep4 {w : World} {g n : Nat} {T : TypeId} {f : Nat → Int} (h : RowAt w g n T f) (a : Nat → Int) (E : TypeId) : RowAt (sole4 w a E) g n T f :=
  have := h.lt
  (h.alloc _).rowOther _ _ (by omega)
theorem sole_below4 {w W : World} (h : Below w.heap.size w W) (a : Nat → Int) (E : TypeId) : Below w.heap.size w (sole4 W a E) :=
  have := h.size
  below_setRow (h.alloc this _) this _
theorem told_yes4 (a : Nat → Int) (h : okf a = true) (w : World) :
    Calls Try.prog 59 #[p4 a] w fun e w' => e = .returned (.tuple #[p4 a, .bool true]) ∧ Below w.heap.size w w' := by
  rw [← ans_yes4 h]; exact rtold_at a w
theorem told_no4 (a : Nat → Int) (h : okf a = false) (w : World) :
    Calls Try.prog 59 #[p4 a] w fun e w' => e = .returned (.tuple #[p4 nul, .bool false]) ∧ Below w.heap.size w w' := by
  rw [← ans_bad4 h]; exact rtold_at a w

theorem told_two4 (a : Nat → Int) (w : World) :
    Calls Try.prog 59 #[p4 a] w fun e w' => e = .returned (.tuple #[p4 (if okf a then a else nul), .bool (okf a)]) ∧ Below w.heap.size w w' := by
  cases h : okf a
  · exact told_no4 a h w
  · exact told_yes4 a h w

theorem told_some4 (c : Nat → Int) : ∃ c' v', (∀ w, Calls Try.prog 59 #[.agg (vec 4 c)] w fun e w' => e = .returned (.tuple #[.agg (vec 4 c'), .bool v']) ∧ Below w.heap.size w w') ∧ tls true c = .tuple #[.agg (vec 4 c'), .bool v'] :=
  ⟨if okf c then c else nul, okf c, told_two4 c, by cases h : okf c <;> simp [tls, h]⟩
/-- Four times a product. -/
def stm (a b : Nat → Int) : Nat → Int := f4 (a 0 * b 0 + 2 * a 1 * b 1 + 3 * a 2 * b 2 + 6 * a 3 * b 3) (a 0 * b 1 + a 1 * b 0 + 3 * (a 2 * b 3 + a 3 * b 2)) (a 0 * b 2 + a 2 * b 0 + 2 * (a 1 * b 3 + a 3 * b 1)) (a 0 * b 3 + a 3 * b 0 + a 1 * b 2 + a 2 * b 1)
end Go.Proofs.Ytmbhbocfnpklpaa
