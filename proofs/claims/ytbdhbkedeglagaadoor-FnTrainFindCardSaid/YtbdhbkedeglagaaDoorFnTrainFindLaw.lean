/-
  Of every code the law FnTrainFind is true: both sides answer alike; the found train has the ratio, where the listed errors hold what the program's text lays. The card ties them to the text.
-/
import Derived.Test.YtbdhbkedeglagaaDoorCards
import Derived.Test.YtbdhbkedeglagaaDoorTie
import Derived.Test.YtbdhbkedeglagaaDoorStep
import Derived.Test.YtbdhbkedeglagaaDoorGearLaid
import Derived.OpenShut
import Derived.Test.YtbdhbkedeglagaaDoorLawGear
namespace Go.Proofs.YtbdhbkedeglagaaDoor.fnTrainFind
open Go.ChangeShapes Go.WideShapes Go.ChangeAt Go.RowKit Go.Proofs.YtbdhbkedeglagaaDoor
set_option linter.unusedVariables false
set_option linter.unusedSimpArgs false

set_option maxRecDepth 100000 in
theorem contract (H : Type) (enc : TypeId × Value → H) (W : World) (base : Nat) (args : Array Value) (ds gs : List (DataW H)) (before : List MemPlace)
    (hval : ∀ (j : Nat) t v, Tryd.f5.params[j]? = some t → args[j]? = some v → Value.okWide Tryd.prog W .any base t v)
    (hW : DataW.Whole enc Tryd.prog Tryd.f5.params.toList Rows.fnTrainFindSpec.vars false W args.toList ds gs before) (hL : laidMetH Tryd.prog Rows.fnTrainFindRow.laid W) :
    Calls Tryd.prog 5 args W fun e W' => ∃ v, e = .returned v ∧ Rows.fnTrainFindSpec.post enc Tryd.prog Tryd.f5 false true false false W args v W' := by
  obtain ⟨v, d, rfl, rfl, hc⟩ := code_open (base := base) Tryd.params5 hval hW
  obtain ⟨g, g2, rfl⟩ : ∃ g g2, gs = [g, g2] := by
    obtain ⟨p, q, _, hV, _⟩ := hW
    obtain ⟨_, _, _, _, g, _, _, _, _, _, g2, _, rfl, _⟩ := trodVars_two hV
    exact ⟨g, g2, rfl⟩
  exact any_step (by kernel_rfl) (by kernel_rfl) (by kernel_rfl) rfl hW (lawFnTrainFind_walk v W hc (sentinel_at hL (i := 0) rfl gLen tLen) (sentinel_at hL (i := 1) rfl gFar tFar) (type_at hL (i := 0) rfl))

theorem laid_met (os : Os) : laidMetH Tryd.prog Rows.fnTrainFindRow.laid ((laidWorld os).forCall (fun _ _ => 0) ⟨#[], #[.slice none 0 0], []⟩).memory :=
  laidMetH_of_parts (laidMet_of_run' 8 (by kernel_rfl) (by kernel_rfl)) (by kernel_rfl)
theorem reads (os : Os) {H : Type} (enc : TypeId × Value → H) : ∃ places, DataW.whole enc Tryd.prog ((laidWorld os).forCall (fun _ _ => 0) ⟨#[], #[.slice none 0 0], []⟩).memory Tryd.f5.params.toList Rows.fnTrainFindSpec.vars false (#[.slice none 0 0] : Array Value).toList 8
    = some ([.nil], [.held (enc (92, .pointer (some ⟨(World.settled Tryd.prog os).heap.size, 0, none⟩))), .held (enc (92, .pointer (some ⟨(World.settled Tryd.prog os).heap.size + 1, 0, none⟩)))], places) :=
  ⟨MemPlace.row ⟨1, 0, none⟩ 1 ++ MemPlace.row ⟨0, 0, none⟩ 1, by kernel_rfl⟩

set_option maxRecDepth 100000 in
theorem lifted (os : Os) (started : os.Started) (H : Type) (enc : TypeId × Value → H) (F : Stop.Interp) :
    ReturnsInHanded {} Tryd.checked os 5 .any ((OpenSpec.ofChange Rows.fnTrainFindSpec).preRow enc Tryd.prog Tryd.f5 Rows.fnTrainFindRow.domain false Rows.fnTrainFindRow.laid) (((OpenSpec.ofChange Rows.fnTrainFindSpec).at F).post enc Tryd.prog Tryd.f5 false true false false) := by
  obtain ⟨places, hx⟩ := reads os enc
  refine returnsInHanded_of_row (C := Tryd.checked) (s := OpenSpec.ofChange Rows.fnTrainFindSpec) own started (by kernel_rfl) Tryd.func5
    (witness_row_atRef (enc := enc) (C := Tryd.checked) false (laidWorld os) #[.slice none 0 0] rfl (by kernel_rfl) (by kernel_rfl) (by kernel_rfl)
      (OpenSpec.preRow_of_cond 8 hx (by kernel_rfl) (fun k hk => by cases hk) (by kernel_rfl) (laid_met os))) ?_
  intro W base args ds gs before hval hW _ _ _ hL _ _
  exact contract H enc W base args ds gs before hval hW hL

theorem said : Rows.FnTrainFindSaid :=
  OpenClaim.holds_of_cond 5 Tryd.f5 rfl rfl rfl rfl rfl rfl rfl ⟨rfl, rfl, rfl, rfl, rfl⟩ rfl rfl rfl rfl rfl (by kernel_rfl) Tryd.func5 (by kernel_rfl)
    (of_decide_eq_true (by kernel_rfl)) (by unfold Func.isWrapper; first | (rw [if_pos (by decide +kernel)]; kernel_rfl) | (rw [if_neg (by decide +kernel)]; exact ⟨rfl, rfl⟩))
    (fun os started H enc _ F => by rw [OpenClaim.pre_eq_preRow]; exact lifted os started H enc F)

/-- No parameter wants a stand-in; the program's own looks are off: what the card asks. -/
theorem plain (f : FuncId) (fn : Func) (hf : Tryd.pinned.checked.prog.funcNamed Rows.fnTrainFindRow.func = some f) (hfn : Tryd.pinned.checked.prog.funcs[f]? = some fn) :
    true = Tryd.pinned.checked.prog.looks [] ∧ ∀ (j : Nat) t, fn.params[j]? = some t → Tryd.pinned.checked.prog.wantsStandIn t = false := by
  obtain rfl : f = 5 := Option.some.inj ((show Tryd.prog.funcNamed Rows.fnTrainFindRow.func = some 5 by kernel_rfl).symm.trans hf) |>.symm
  obtain rfl : fn = Tryd.f5 := (Option.some.inj (Tryd.func5.symm.trans hfn)).symm
  refine ⟨by kernel_rfl, fun j t ht => ?_⟩
  have key : (∀ t ∈ Tryd.f5.params, Tryd.prog.wantsStandIn t = false) := by
    rw [Tryd.params5]
    intro t ht
    simp only [List.mem_toArray, List.mem_cons, List.not_mem_nil, or_false, or_self] at ht
    subst ht
    kernel_rfl
  exact key t (Array.mem_of_getElem? ht)

theorem card : Rows.FnTrainFindCardSaid :=
  Claim7.holds_tied_plain_at .later [] _ _ _ _ said (fun _ h => by cases h) (by kernel_rfl) (fun _ h => by cases h) fnTrainFind_row_tie rfl ⟨rfl, rfl⟩ (by kernel_rfl) rfl plain (by kernel_rfl)
#print axioms card
end Go.Proofs.YtbdhbkedeglagaaDoor.fnTrainFind
