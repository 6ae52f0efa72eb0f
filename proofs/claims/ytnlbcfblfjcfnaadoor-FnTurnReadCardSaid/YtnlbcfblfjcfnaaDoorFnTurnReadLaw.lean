/-
  Of every code, where the table of names holds what the program's text lays: the law FnTurnRead answers true: what is read has its text. The card ties the table to the text.
-/
import Derived.Test.YtnlbcfblfjcfnaaDoorCards
import Derived.Test.YtnlbcfblfjcfnaaDoorTie
import Derived.Test.YtnlbcfblfjcfnaaDoorStep
import Derived.Test.YtnlbcfblfjcfnaaDoorLawRead
namespace Go.Proofs.YtnlbcfblfjcfnaaDoor.fnTurnRead
open Go.ChangeShapes Go.WideShapes Go.ChangeAt Go.RowKit Go.Proofs.YtnlbcfblfjcfnaaDoor
set_option linter.unusedVariables false
set_option linter.unusedSimpArgs false

theorem contract (H : Type) (enc : TypeId × Value → H) (W : World) (base : Nat) (args : Array Value) (ds gs : List (DataW H)) (before : List MemPlace)
    (hval : ∀ (j : Nat) t v, Tryd.f4.params[j]? = some t → args[j]? = some v → Value.okWide Tryd.prog W .any base t v)
    (hW : DataW.Whole enc Tryd.prog Tryd.f4.params.toList Rows.fnTurnReadSpec.vars false W args.toList ds gs before) (hL : laidMetH Tryd.prog Rows.fnTurnReadRow.laid W) :
    Calls Tryd.prog 4 args W fun e W' => ∃ v, e = .returned v ∧ Rows.fnTurnReadSpec.post enc Tryd.prog Tryd.f4 false true false false W args v W' := by
  obtain ⟨v, d, rfl, rfl, hc⟩ := code_open (base := base) Tryd.params4 hval hW
  obtain ⟨g, rfl⟩ : ∃ g, gs = [g] := by
    obtain ⟨p, q, _, hV, _⟩ := hW
    obtain ⟨_, _, _, _, g, _, rfl, _⟩ := trodVars_one hV
    exact ⟨g, rfl⟩
  exact any_step (by kernel_rfl) (by kernel_rfl) (by kernel_rfl) rfl hW ((fun v W hc hN => lawRead_walk v W hc hN) v W hc (names_at hL))

/-- A world for the witness: the settled one, the table holding what its initialiser lays. -/
noncomputable def laidWorld (os : Os) : World :=
  { World.holding Tryd.prog os ⟨#[], #[], []⟩ with heap := (World.holding Tryd.prog os ⟨#[], #[], []⟩).heap.modify 0 fun
      | .cells _ t frozen => .cells nameCells t frozen
      | o => o }
theorem laid_met (os : Os) : laidMet Tryd.prog Rows.fnTurnReadRow.laid ((laidWorld os).forCall (fun _ _ => 0) ⟨#[], #[.slice none 0 0], []⟩).memory :=
  laidMet_of_run' 8 (by kernel_rfl) (by kernel_rfl)
theorem reads (os : Os) {H : Type} (enc : TypeId × Value → H) : ∃ places, DataW.whole enc Tryd.prog ((laidWorld os).forCall (fun _ _ => 0) ⟨#[], #[.slice none 0 0], []⟩).memory Tryd.f4.params.toList Rows.fnTurnReadSpec.vars false #[(.slice none 0 0 : Value)].toList 8 = some ([.nil], [Rows.laid_loop_example_turningwheels_impl_turnNames], places) :=
  ⟨MemPlace.row ⟨0, 0, none⟩ 24, by kernel_rfl⟩

set_option maxRecDepth 100000 in
theorem lifted (os : Os) (started : os.Started) (H : Type) (enc : TypeId × Value → H) (F : Stop.Interp) :
    ReturnsInHanded {} Tryd.checked os 4 .any ((OpenSpec.ofChange Rows.fnTurnReadSpec).preRow enc Tryd.prog Tryd.f4 Rows.fnTurnReadRow.domain false Rows.fnTurnReadRow.laid) (((OpenSpec.ofChange Rows.fnTurnReadSpec).at F).post enc Tryd.prog Tryd.f4 false true false false) := by
  obtain ⟨places, hx⟩ := reads os enc
  refine returnsInHanded_of_row (C := Tryd.checked) (s := OpenSpec.ofChange Rows.fnTurnReadSpec) own started (by kernel_rfl) Tryd.func4
    (witness_row_at (enc := enc) (C := Tryd.checked) false (laidWorld os) #[.slice none 0 0] rfl (by kernel_rfl) (by kernel_rfl) (by kernel_rfl)
      (OpenSpec.preRow_of_cond 8 hx (by kernel_rfl) (fun k hk => by cases hk) (by kernel_rfl) (laid_met os))) ?_
  intro W base args ds gs before hval hW _ _ _ hL _ _
  exact contract H enc W base args ds gs before hval hW hL

theorem said : Rows.FnTurnReadSaid :=
  OpenClaim.holds_of_cond 4 Tryd.f4 rfl rfl rfl rfl rfl rfl rfl ⟨rfl, rfl, rfl, rfl, rfl⟩ rfl rfl rfl rfl rfl (by kernel_rfl) Tryd.func4 (by kernel_rfl)
    (of_decide_eq_true (by kernel_rfl)) (by unfold Func.isWrapper; first | (rw [if_pos (by decide +kernel)]; kernel_rfl) | (rw [if_neg (by decide +kernel)]; exact ⟨rfl, rfl⟩))
    (fun os started H enc _ F => by rw [OpenClaim.pre_eq_preRow]; exact lifted os started H enc F)

/-- No parameter wants a stand-in; the program's own looks are off: what the card asks. -/
theorem plain (f : FuncId) (fn : Func) (hf : Tryd.pinned.checked.prog.funcNamed Rows.fnTurnReadRow.func = some f) (hfn : Tryd.pinned.checked.prog.funcs[f]? = some fn) :
    false = Tryd.pinned.checked.prog.looks [] ∧ ∀ (j : Nat) t, fn.params[j]? = some t → Tryd.pinned.checked.prog.wantsStandIn t = false := by
  obtain rfl : f = 4 := Option.some.inj ((show Tryd.prog.funcNamed Rows.fnTurnReadRow.func = some 4 by kernel_rfl).symm.trans hf) |>.symm
  obtain rfl : fn = Tryd.f4 := (Option.some.inj (Tryd.func4.symm.trans hfn)).symm
  refine ⟨by kernel_rfl, fun j t ht => ?_⟩
  have key : (∀ t ∈ Tryd.f4.params, Tryd.prog.wantsStandIn t = false) := by
    rw [Tryd.params4]
    intro t ht
    simp only [List.mem_toArray, List.mem_cons, List.not_mem_nil, or_false] at ht
    subst ht
    kernel_rfl
  exact key t (Array.mem_of_getElem? ht)

theorem card : Rows.FnTurnReadCardSaid :=
  Claim7.holds_tied_plain_at .later [] _ _ _ _ said (fun _ h => by cases h) (by kernel_rfl) (fun _ h => by cases h) fnTurnRead_row_tie rfl ⟨rfl, rfl⟩ (by kernel_rfl) rfl plain (by kernel_rfl)
#print axioms card
end Go.Proofs.YtnlbcfblfjcfnaaDoor.fnTurnRead
