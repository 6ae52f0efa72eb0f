/-
  What the arguments of the exact laws of surds are.
-/
import Derived.Test.YtcdlenphgenejaaShell
import Derived.Test.YtcdlenphgenejaaSurdY
import Derived.Lib.SmallJoins
namespace Go.Proofs.Ytcdlenphgenejaa
set_option maxRecDepth 20000
open Go.ChangeShapes Go.WideShapes Go.ChangeAt Go.RowKit
set_option linter.unusedVariables false
set_option linter.unusedSimpArgs false

theorem cells_lsurd : Try.prog.cellsOf 46 = 4 := by kernel_rfl
section
variable {H : Type} {enc : TypeId × Value → H} {fn : Func}
theorem trod_one {w : World} {base n : Nat} {spare : Nat → Bool} {held : Bool} {v : Value} {y : DataW H × List MemPlace} (h : DataW.trod enc Try.prog w base spare held n 3 [v] = some y) : ∃ z, v = .int .i64 z := by
  cases n with
  | zero => simp [DataW.trod] at h
  | succ n =>
    obtain ⟨z, hc, _, _⟩ := DataW.trod_int Try.underlying3 h
    exact ⟨z, by simpa using hc⟩
theorem law_surd {w : World} {base b0 : Nat} {spare : Nat → Bool} {held : Bool} {r : Reach} {v : Value} {d : DataW H} {p : List MemPlace} (hv : Value.okWide Try.prog w r b0 46 v) (h : DataW.Trod enc Try.prog w base spare held 46 v d p) : ∃ f, v = p4 f := by
  obtain ⟨v0, v1, v2, v3, y0, y1, y2, y3, n, rfl, _, _, t0, t1, t2, t3⟩ := Go.Joins.open_agg4 Try.underlying46 (by kernel_rfl) cells_lsurd hv h
  obtain ⟨a, rfl⟩ := trod_one t0
  obtain ⟨b, rfl⟩ := trod_one t1
  obtain ⟨c, rfl⟩ := trod_one t2
  obtain ⟨e, rfl⟩ := trod_one t3
  exact ⟨f4 a b c e, rfl⟩
/-- What the one surd of a law is. -/
theorem surd_open {W : World} {args : Array Value} {ds gs : List (DataW H)} {before : List MemPlace} {base : Nat} {vars : List String} (hpar : fn.params = #[46])
    (hval : ∀ (j : Nat) t v, fn.params[j]? = some t → args[j]? = some v → Value.okWide Try.prog W .any base t v)
    (hW : DataW.Whole enc Try.prog fn.params.toList vars false W args.toList ds gs before) : ∃ a d, args = #[p4 a] ∧ ds = [d] := by
  obtain ⟨p, q, hA, hV, rfl, hfz, hnd⟩ := hW
  rw [hpar] at hA hval
  obtain ⟨v0, d0, rfl, rfl, h0⟩ := trodAll_one hA
  obtain ⟨f, rfl⟩ := law_surd (hval 0 46 v0 rfl rfl) h0
  exact ⟨f, _, rfl, rfl⟩
/-- What the two surds of a law are. -/
theorem surd2_open {W : World} {args : Array Value} {ds gs : List (DataW H)} {before : List MemPlace} {base : Nat} {vars : List String} (hpar : fn.params = #[46, 46])
    (hval : ∀ (j : Nat) t v, fn.params[j]? = some t → args[j]? = some v → Value.okWide Try.prog W .any base t v)
    (hW : DataW.Whole enc Try.prog fn.params.toList vars false W args.toList ds gs before) : ∃ a b d d', args = #[p4 a, p4 b] ∧ ds = [d, d'] := by
  obtain ⟨p, q, hA, hV, rfl, hfz, hnd⟩ := hW
  rw [hpar] at hA hval
  obtain ⟨v0, v1, d0, d1, p0, p1, rfl, rfl, rfl, h0, h1⟩ := trodAll_two hA
  obtain ⟨f, rfl⟩ := law_surd (hval 0 46 v0 rfl rfl) h0
  obtain ⟨g, rfl⟩ := law_surd (hval 1 46 v1 rfl rfl) h1
  exact ⟨f, g, _, _, rfl, rfl⟩
end
end Go.Proofs.Ytcdlenphgenejaa
