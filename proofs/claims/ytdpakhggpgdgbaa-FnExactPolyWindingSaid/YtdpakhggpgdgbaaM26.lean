/-
  What the list and the point of a law are.
-/
import Derived.Test.YtdpakhggpgdgbaaM11
import Derived.Test.YtdpakhggpgdgbaaM01
/- What the list and the point of a law are. -/
namespace Go.Proofs.Ytdpakhggpgdgbaa
set_option maxRecDepth 20000
open Go.ChangeShapes Go.WideShapes Go.ChangeAt
set_option linter.unusedVariables false
set_option linter.unusedSimpArgs false

section
variable {H : Type} {en : TypeId × Value → H} {fn : Func}
theorem pt_dn (f : Nat → Int) : pt f = pt (dn f).up := by
  unfold pt
  rw [vec_same fun j h => (up_dn f j h).symm]
theorem cycspt_open {W : World} {args : Array Value} {ds gs : List (DataW H)} {before : List MemPlace} {base : Nat} {vars : List String} (hpar : fn.params = #[50, 54])
    (hval : ∀ (j : Nat) t v, fn.params[j]? = some t → args[j]? = some v → Value.okWide Try.prog W .any base t v)
    (hW : DataW.Whole en Try.prog fn.params.toList vars false W args.toList ds gs before) : ∃ v ws, ∃ c : V, ∃ d d', args = #[v, pt c.up] ∧ ds = [d, d'] ∧ LiesL encV W v ws := by
  obtain ⟨p, q, hA, hV, rfl, hfz, hnd⟩ := hW
  rw [hpar] at hA hval
  have hlt := hA.lt
  obtain ⟨v0, v1, d0, d1, p0, p1, rfl, rfl, rfl, h0, h1⟩ := trodAll_two hA
  obtain ⟨ws, hL⟩ := law_cycs (hval 0 50 v0 rfl rfl) h0 (fun y hy => hlt y (List.mem_append_left _ hy))
  obtain ⟨f, rfl⟩ := law_cyc (hval 1 54 v1 rfl rfl) h1
  exact ⟨v0, ws, dn f, _, _, by rw [← pt_dn], rfl, hL⟩
end
end Go.Proofs.Ytdpakhggpgdgbaa
