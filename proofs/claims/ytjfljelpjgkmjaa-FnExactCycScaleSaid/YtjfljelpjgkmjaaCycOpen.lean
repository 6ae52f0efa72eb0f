/-
  Exact points as a law's arguments: what their cells are.
-/
import Derived.Test.YtjfljelpjgkmjaaStep
import Derived.Test.YtjfljelpjgkmjaaVec
import Derived.Lib.SmallJoins
import Derived.Deep.DeepHandedRow
namespace Go.Proofs.Ytjfljelpjgkmjaa
open Go.Joins Go.ChangeShapes Go.WideShapes Go.RowKit Go.Deep
set_option maxRecDepth 20000
set_option linter.unusedVariables false
set_option linter.unusedSimpArgs false

section
variable {H : Type} {enc : TypeId × Value → H} {P : Program} {w : World} {base : Nat} {spare : Nat → Bool} {held : Bool}
/-- The cells of an array of whole numbers are numbers. -/
theorem cells_of_array {fuel : Nat} {t e : TypeId} {n : Nat} {cs : List Value} {x : DataW H × List MemPlace} (ht : P.underlying t = some (.array n e)) (he : P.underlying e = some (.int .i64)) (hce : P.cellsOf e = 1) (hct : P.cellsOf t = n)
    (h : DataW.trod enc P w base spare held fuel t cs = some x) (hl : cs.length = n) : ∃ f, cs = lst n f := by
  cases fuel with
  | zero => simp [DataW.trod] at h
  | succ fuel =>
    simp only [DataW.trod, ht, hce, hct, Nat.mul_one, hl, if_true] at h
    · obtain ⟨xs, hm, hx⟩ := Option.map_eq_some_iff.1 h
      have key : ∀ i, i < n → ∃ z, cs[i]? = some (.int .i64 z) := by
        intro i hi
        have hxl : xs.length = n := by simpa using Lib.mapM_length hm
        obtain ⟨b, hb, hf⟩ := Lib.mapM_at hm i i (by simp [hi])
        obtain ⟨z, hc, _, _⟩ := DataW.trod_int he hf
        refine ⟨z, ?_⟩
        have := congrArg (·[0]?) hc
        simpa [List.getElem?_take, List.getElem?_drop] using this
      refine ⟨fun i => match cs[i]? with | some (.int _ z) => z | _ => 0, ?_⟩
      apply List.ext_getElem?
      intro i
      by_cases hi : i < n
      · obtain ⟨z, hz⟩ := key i hi
        simp [lst, hi, hz]
      · rw [List.getElem?_eq_none (by omega), List.getElem?_eq_none (by rw [lst_length]; omega)]
theorem open_one {r : Reach} {b0 : Nat} {t u e : TypeId} {n : Nat} {f0 : Field} {v : Value} {d : DataW H} {p : List MemPlace} (hs : P.underlying t = some (.struct #[f0])) (hft : f0.type = u) (hfo : f0.offset = 0)
    (hu : P.underlying u = some (.array n e)) (he : P.underlying e = some (.int .i64)) (hce : P.cellsOf e = 1) (hcu : P.cellsOf u = n) (hC : P.cellsOf t = n)
    (hv : Value.okWide P w r b0 t v) (h : DataW.Trod enc P w base spare held t v d p) : ∃ f, v = .agg (vec n f) := by
  obtain ⟨cs, rfl, hsz⟩ := okWide_struct hs hv
  obtain ⟨l⟩ := cs
  obtain ⟨fuel, hf⟩ := h
  obtain ⟨xs, m, _, hx, _, hlen, hg⟩ := DataW.trod_struct hs hf
  have h0 := hg 0 f0 rfl
  have hl : l.length = n := by rw [← hC, ← hsz]; simp
  rw [hft, hfo, hcu] at h0
  have e1 : ((Value.agg ⟨l⟩).cells.toList.drop 0).take n = l := by simp [Value.cells, ← hl]
  rw [e1] at h0
  obtain ⟨y, hy⟩ : ∃ y, xs[0]? = some y := ⟨_, List.getElem?_eq_getElem (by rw [hlen]; simp)⟩
  rw [hy] at h0
  obtain ⟨f, hfe⟩ := cells_of_array hu he hce hcu h0 hl
  exact ⟨f, by rw [hfe]; rfl⟩
end
theorem cells_int' : Try.prog.cellsOf 3 = 1 := by kernel_rfl
theorem cells_arr8' : Try.prog.cellsOf 23 = 8 := by kernel_rfl
theorem cells_law : Try.prog.cellsOf 42 = 8 := by kernel_rfl
section
variable {H : Type} {enc : TypeId × Value → H} {fn : Func}
theorem law_cyc {w : World} {base b0 : Nat} {spare : Nat → Bool} {held : Bool} {r : Reach} {v : Value} {d : DataW H} {p : List MemPlace} (hv : Value.okWide Try.prog w r b0 42 v) (h : DataW.Trod enc Try.prog w base spare held 42 v d p) : ∃ f, v = pt f :=
  open_one Try.underlying42 rfl rfl Try.underlying23 Try.underlying3 cells_int' cells_arr8' cells_law hv h
/-- What the one point of a law is. -/
theorem cyc_open {W : World} {args : Array Value} {ds gs : List (DataW H)} {before : List MemPlace} {base : Nat} {vars : List String} (hpar : fn.params = #[42])
    (hval : ∀ (j : Nat) t v, fn.params[j]? = some t → args[j]? = some v → Value.okWide Try.prog W .any base t v)
    (hW : DataW.Whole enc Try.prog fn.params.toList vars false W args.toList ds gs before) : ∃ a d, args = #[pt a] ∧ ds = [d] := by
  obtain ⟨p, q, hA, hV, rfl, hfz, hnd⟩ := hW
  rw [hpar] at hA hval
  obtain ⟨v0, d0, rfl, rfl, h0⟩ := trodAll_one hA
  obtain ⟨f, rfl⟩ := law_cyc (hval 0 42 v0 rfl rfl) h0
  exact ⟨f, _, rfl, rfl⟩
/-- What the two points of a law are. -/
theorem cyc2_open {W : World} {args : Array Value} {ds gs : List (DataW H)} {before : List MemPlace} {base : Nat} {vars : List String} (hpar : fn.params = #[42, 42])
    (hval : ∀ (j : Nat) t v, fn.params[j]? = some t → args[j]? = some v → Value.okWide Try.prog W .any base t v)
    (hW : DataW.Whole enc Try.prog fn.params.toList vars false W args.toList ds gs before) : ∃ a b d d', args = #[pt a, pt b] ∧ ds = [d, d'] := by
  obtain ⟨p, q, hA, hV, rfl, hfz, hnd⟩ := hW
  rw [hpar] at hA hval
  obtain ⟨v0, v1, d0, d1, p0, p1, rfl, rfl, rfl, h0, h1⟩ := trodAll_two hA
  obtain ⟨f, rfl⟩ := law_cyc (hval 0 42 v0 rfl rfl) h0
  obtain ⟨g, rfl⟩ := law_cyc (hval 1 42 v1 rfl rfl) h1
  exact ⟨f, g, _, _, rfl, rfl⟩
/-- What the point and the number of a law are. -/
theorem cycint_open {W : World} {args : Array Value} {ds gs : List (DataW H)} {before : List MemPlace} {base : Nat} {vars : List String} (hpar : fn.params = #[42, 3])
    (hval : ∀ (j : Nat) t v, fn.params[j]? = some t → args[j]? = some v → Value.okWide Try.prog W .any base t v)
    (hW : DataW.Whole enc Try.prog fn.params.toList vars false W args.toList ds gs before) : ∃ a n d d', args = #[pt a, .int .i64 n] ∧ ds = [d, d'] := by
  obtain ⟨p, q, hA, hV, rfl, hfz, hnd⟩ := hW
  rw [hpar] at hA hval
  obtain ⟨v0, v1, d0, d1, p0, p1, rfl, rfl, rfl, h0, h1⟩ := trodAll_two hA
  obtain ⟨f, rfl⟩ := law_cyc (hval 0 42 v0 rfl rfl) h0
  obtain ⟨a1, rfl, rfl, rfl, w1⟩ := open_int Try.underlying3 (hval 1 3 v1 rfl rfl) h1
  exact ⟨f, a1, _, _, rfl, rfl⟩
end
end Go.Proofs.Ytjfljelpjgkmjaa
