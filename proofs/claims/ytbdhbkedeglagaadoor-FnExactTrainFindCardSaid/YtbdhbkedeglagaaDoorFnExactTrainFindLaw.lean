/-
  Of all two numbers the law FnExactTrainFind is true: both sides answer alike, and what is answered is its own, where the listed errors hold what the program's text lays. The card ties them to the text.
-/
import Derived.Test.YtbdhbkedeglagaaDoorCards
import Derived.Test.YtbdhbkedeglagaaDoorTie
import Derived.Test.YtbdhbkedeglagaaDoorStep
import Derived.Test.YtbdhbkedeglagaaDoorGearLaid
import Derived.OpenShut
import Derived.Test.YtbdhbkedeglagaaDoorExactGear
namespace Go.Proofs.YtbdhbkedeglagaaDoor.fnExactTrainFind
open Go.ChangeShapes Go.WideShapes Go.ChangeAt Go.RowKit Go.Proofs.YtbdhbkedeglagaaDoor
set_option linter.unusedVariables false
set_option linter.unusedSimpArgs false

set_option maxRecDepth 100000 in
theorem contract (H : Type) (enc : TypeId × Value → H) (W : World) (base : Nat) (args : Array Value) (ds gs : List (DataW H)) (before : List MemPlace)
    (hval : ∀ (j : Nat) t v, Tryd.f8.params[j]? = some t → args[j]? = some v → Value.okWide Tryd.prog W .any base t v)
    (hW : DataW.Whole enc Tryd.prog Tryd.f8.params.toList Rows.fnExactTrainFindSpec.vars false W args.toList ds gs before) (hL : laidMetH Tryd.prog Rows.fnExactTrainFindRow.laid W) :
    Calls Tryd.prog 8 args W fun e W' => ∃ v, e = .returned v ∧ Rows.fnExactTrainFindSpec.post enc Tryd.prog Tryd.f8 false true false false W args v W' := by
  obtain ⟨t, u, d, d2, rfl, rfl, -, -⟩ := int2_open (base := base) Tryd.params8 hval hW
  obtain ⟨g, rfl⟩ : ∃ g, gs = [g] := by
    obtain ⟨p, q, _, hV, _⟩ := hW
    obtain ⟨_, _, _, _, g, _, rfl, _⟩ := trodVars_one hV
    exact ⟨g, rfl⟩
  exact any_step (by kernel_rfl) (by kernel_rfl) (by kernel_rfl) rfl hW (exactTrainFind_walk t u W (type_at hL (i := 0) rfl))

theorem laid_met (os : Os) : laidMetH Tryd.prog Rows.fnExactTrainFindRow.laid ((laidWorld os).forCall (fun _ _ => 0) ⟨#[], #[.int .i64 0, .int .i64 0], []⟩).memory :=
  laidMetH_of_parts (laidMet_of_run' 8 (by kernel_rfl) (by kernel_rfl)) (by kernel_rfl)
theorem reads (os : Os) {H : Type} (enc : TypeId × Value → H) : ∃ places, DataW.whole enc Tryd.prog ((laidWorld os).forCall (fun _ _ => 0) ⟨#[], #[.int .i64 0, .int .i64 0], []⟩).memory Tryd.f8.params.toList Rows.fnExactTrainFindSpec.vars false (#[.int .i64 0, .int .i64 0] : Array Value).toList 8
    = some ([.lit (.int .i64 0), .lit (.int .i64 0)], [.held (enc (92, .pointer (some ⟨(World.settled Tryd.prog os).heap.size, 0, none⟩)))], places) :=
  ⟨MemPlace.row ⟨1, 0, none⟩ 1, by kernel_rfl⟩

set_option maxRecDepth 100000 in
theorem lifted (os : Os) (started : os.Started) (H : Type) (enc : TypeId × Value → H) (F : Stop.Interp) :
    ReturnsInHanded {} Tryd.checked os 8 .any ((OpenSpec.ofChange Rows.fnExactTrainFindSpec).preRow enc Tryd.prog Tryd.f8 Rows.fnExactTrainFindRow.domain false Rows.fnExactTrainFindRow.laid) (((OpenSpec.ofChange Rows.fnExactTrainFindSpec).at F).post enc Tryd.prog Tryd.f8 false true false false) := by
  obtain ⟨places, hx⟩ := reads os enc
  refine returnsInHanded_of_row (C := Tryd.checked) (s := OpenSpec.ofChange Rows.fnExactTrainFindSpec) own started (by kernel_rfl) Tryd.func8
    (witness_row_atRef (enc := enc) (C := Tryd.checked) false (laidWorld os) #[.int .i64 0, .int .i64 0] rfl (by kernel_rfl) (by kernel_rfl) (by kernel_rfl)
      (OpenSpec.preRow_of_cond 8 hx (by kernel_rfl) (fun k hk => by cases hk) (by kernel_rfl) (laid_met os))) ?_
  intro W base args ds gs before hval hW _ _ _ hL _ _
  exact contract H enc W base args ds gs before hval hW hL

theorem said : Rows.FnExactTrainFindSaid :=
  OpenClaim.holds_of_cond 8 Tryd.f8 rfl rfl rfl rfl rfl rfl rfl ⟨rfl, rfl, rfl, rfl, rfl⟩ rfl rfl rfl rfl rfl (by kernel_rfl) Tryd.func8 (by kernel_rfl)
    (of_decide_eq_true (by kernel_rfl)) (by unfold Func.isWrapper; first | (rw [if_pos (by decide +kernel)]; kernel_rfl) | (rw [if_neg (by decide +kernel)]; exact ⟨rfl, rfl⟩))
    (fun os started H enc _ F => by rw [OpenClaim.pre_eq_preRow]; exact lifted os started H enc F)

/-- No parameter wants a stand-in; the program's own looks are off: what the card asks. -/
theorem plain (f : FuncId) (fn : Func) (hf : Tryd.pinned.checked.prog.funcNamed Rows.fnExactTrainFindRow.func = some f) (hfn : Tryd.pinned.checked.prog.funcs[f]? = some fn) :
    true = Tryd.pinned.checked.prog.looks [] ∧ ∀ (j : Nat) t, fn.params[j]? = some t → Tryd.pinned.checked.prog.wantsStandIn t = false := by
  obtain rfl : f = 8 := Option.some.inj ((show Tryd.prog.funcNamed Rows.fnExactTrainFindRow.func = some 8 by kernel_rfl).symm.trans hf) |>.symm
  obtain rfl : fn = Tryd.f8 := (Option.some.inj (Tryd.func8.symm.trans hfn)).symm
  refine ⟨by kernel_rfl, fun j t ht => ?_⟩
  have key : (∀ t ∈ Tryd.f8.params, Tryd.prog.wantsStandIn t = false) := by
    rw [Tryd.params8]
    intro t ht
    simp only [List.mem_toArray, List.mem_cons, List.not_mem_nil, or_false, or_self] at ht
    subst ht
    kernel_rfl
  exact key t (Array.mem_of_getElem? ht)

theorem card : Rows.FnExactTrainFindCardSaid :=
  Claim7.holds_tied_plain_at .later [] _ _ _ _ said (fun _ h => by cases h) (by kernel_rfl) (fun _ h => by cases h) fnExactTrainFind_row_tie rfl ⟨rfl, rfl⟩ (by kernel_rfl) rfl plain (by kernel_rfl)
#print axioms card
end Go.Proofs.YtbdhbkedeglagaaDoor.fnExactTrainFind
