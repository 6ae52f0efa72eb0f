/-
  Equality of wheels and of designs.
-/
import Derived.Test.YteicmnoafoekcaaWheelT
namespace Go.Proofs.Yteicmnoafoekcaa
set_option maxRecDepth 20000
open Go.ChangeShapes Go.WideShapes Go.ChangeAt Go.RowKit
set_option linter.unusedVariables false
set_option linter.unusedSimpArgs false

theorem equal_cyc9 (a b : Nat → Int) (w : World) : (Op.equalIn 9999 32 (.agg (vec 8 a)) (.agg (vec 8 b))).run Try.prog w = .ok (eqv 8 a b) w := by
  obtain ⟨i, hi⟩ := Option.isSome_iff_exists.1 some_int
  obtain ⟨j, hj⟩ := Option.isSome_iff_exists.1 some_arr8
  exact equal_one (d := 9996) Try.underlying32 (by kernel_rfl) (fun d xs ys => by unfold Op.eqFields; exact if_pos (by decide)) rfl rfl Try.underlying30 hj cells_arr8 hi cells_int Try.underlying3 key_int w
theorem vec_tail (f : Nat → Int) : (vec 9 f).extract 1 (1 + 8) = vec 8 (fun j => f (j + 1)) := by
  refine Array.ext (by simp [vec_size]) fun i h1 h2 => ?_
  rw [vec_size] at h2
  have e1 := vec_at f (k := 1 + i) (n := 9) (by omega)
  have e2 := vec_at (fun j => f (j + 1)) (k := i) (n := 8) h2
  rw [Array.getElem_extract]
  have := (Array.getElem?_eq_some_iff.1 e1).2
  have h3 := (Array.getElem?_eq_some_iff.1 e2).2
  rw [this, h3, Nat.add_comm]
theorem agg_cyc (w : World) : (isAgg 32).run Try.prog w = .ok true w := by rfl
theorem sizeof_cyc (w : World) : (Go.sizeOf 32).run Try.prog w = .ok 8 w := by rfl
theorem part_cyc (f : Nat → Int) (w : World) : (part 32 (vec 9 f) 1).run Try.prog w = .ok (.agg (vec 8 (fun j => f (j + 1)))) w := by
  simp [part, Sem.run_bind, agg_cyc, sizeof_cyc, vec_tail]
theorem eqv_nine (f g : Nat → Int) : eqv 9 f g = (f 0 == g 0 && eqv 8 (fun j => f (j + 1)) (fun j => g (j + 1))) := by
  have e : List.range 9 = 0 :: (List.range 8).map (· + 1) := by decide
  unfold eqv
  rw [e, List.all_cons, List.all_map]
  rfl
theorem equal_wheel (f g : Nat → Int) (w : World) : (Op.equalIn 10000 34 (.agg (vec 9 f)) (.agg (vec 9 g))).run Try.prog w = .ok (eqv 9 f g) w := by
  have hF := Try.underlying34
  have hf : Try.prog.underlying 34 = some (.struct (Try.prog.fieldsOf 34)) := by simp [Program.fieldsOf, hF]
  rw [run_equalIn_struct w 9999 34 _ _ hf (by kernel_rfl)]
  simp only [Program.fieldsOf, hF]
  simp only [Op.eqFields]
  rw [if_pos (by decide), if_pos (by decide)]
  simp only [Sem.run_bind, run_part_plain (w := w) key_int (vec_at f (k := 0) (n := 9) (by omega)), run_part_plain (w := w) key_int (vec_at g (k := 0) (n := 9) (by omega)), Result.andThen_ok, run_equalIn_int w 9998 3 .i64 .i64 (f 0) (g 0) Try.underlying3]
  rw [eqv_nine]
  cases h : (f 0 == g 0)
  · simp
  · simp [part_cyc, equal_cyc9]
    cases eqv 8 (fun j => f (j + 1)) (fun j => g (j + 1)) <;> simp
/-- Whether two wheels are the same. -/
def eqW (a b : Wh) : Bool := eqv 9 (wf a) (wf b)
theorem eqW_true {a b : Wh} : eqW a b = true ↔ a = b := by
  constructor
  · intro h
    have h' := eqv_same h
    refine Wh.same (h' 0 (by omega)) (V.ext fun j hj => ?_)
    have := h' (j + 1) (by omega)
    simpa [wf] using this
  · rintro rfl
    exact eqv_true fun _ _ => rfl
theorem equal_wh (a b : Wh) (w : World) : (Op.equalIn 10000 34 (wh a) (wh b)).run Try.prog w = .ok (eqW a b) w := equal_wheel _ _ w
/-- Whether two lists are the same. -/
def eqL : List Wh → List Wh → Bool
  | [], [] => true
  | a :: l, b :: m => eqW a b && eqL l m
  | _, _ => false
theorem eqL_true : ∀ {a b : List Wh}, eqL a b = true ↔ a = b
  | [], [] => by simp [eqL]
  | [], b :: m => by simp [eqL]
  | a :: l, [] => by simp [eqL]
  | a :: l, b :: m => by
    unfold eqL
    rw [Bool.and_eq_true, eqW_true, eqL_true (a := l) (b := m)]
    simp
theorem eqL_same {a b : List Wh} (h : a = b) : eqL a b = true := eqL_true.2 h
theorem eqL_not {a b : List Wh} (h : ¬ a = b) : eqL a b = false := by
  cases e : eqL a b
  · rfl
  · exact absurd (eqL_true.1 e) h

end Go.Proofs.Yteicmnoafoekcaa
