/-
  No cell of these rows narrows 'for every input' (looked for: loops, veiled, ifaces, maps, wideKeys, modest, calm, conditions, laid).
  DERIVED. THE GIVEN ROWS OF THIS SEAT. 21 by the template 'for every input the law returns true; each argument reads behind the call as it read before'; 0 by the template 'total and deterministic' (their statements: YtjfljelpjgkmjaaTotals.lean).
  GIVEN WITH THE SEED: the statements are not yours to turn. If you find one false, say at which input.
  Laid BY PROGRAM, IN A SANDBOX (cutbox-rows.mjs): the forced cells as the released guide's own fill.sh prints them over the translation 7775526f7859a436… (all of the seat's roots in one cut). By AI agents, Wed Nov 11 2026. No macro, syntax, notation, axiom, sorry.
-/
import Derived.Test.YtjfljelpjgkmjaaChecked
import GoSem.Claim
import GoSem.ClaimJoined
import GoSem.ClaimMapViews
import Derived.JoinedTies
import Derived.KernelRfl
namespace Go.Proofs.Ytjfljelpjgkmjaa
/- THE CELL 'sum', in the pinned program and in every row, IS THE sha256 OF THE DUMP (.gsa) THAT YtjfljelpjgkmjaaProg.lean LOADS. Nothing in Lean hashes anything: it is a label: what it is worth is what the hold of that sum in a sandbox is worth. -/
noncomputable def Try.pinned : Pinned := { name := "ytjfljelpjgkmjaa", sum := "7775526f7859a4366becd846fd6c4dfabb6edc4e7402c8f2bef21a29d61cd845", checked := Try.checked }
namespace Rows
def none {H : Type} : Left H := { results := [], args := [] }

/-- 'laws.FnCyc': WHATEVER THE INPUT: true; the input reads as it did. -/
def fnCycSpec : ChangeSpec := { name := "fnCyc", fn := fun _ => fun
  | [d] => { results := [.lit (.bool true)], args := [d] }
  | _ => none }
def fnCycRow : OpenClaim := { program := "ytjfljelpjgkmjaa", sum := "7775526f7859a4366becd846fd6c4dfabb6edc4e7402c8f2bef21a29d61cd845", func := "loop.example/turningwheels/laws.FnCyc", spec := "fnCyc", apart := false }
def FnCycSaid : Prop := fnCycRow.holds Try.pinned (OpenSpec.ofChange fnCycSpec)

/-- ITS FALSE NEIGHBOUR: 'it returns false'. Refute it at one input. -/
def fnCycWrong : ChangeSpec := { name := "fnCyc", fn := fun _ => fun
  | [d] => { results := [.lit (.bool false)], args := [d] }
  | _ => none }
def FnCycWrongFalsely : Prop := fnCycRow.holds Try.pinned (OpenSpec.ofChange fnCycWrong)

/-- 'laws.FnRoot': WHATEVER THE INPUT: true; the input reads as it did. -/
def fnRootSpec : ChangeSpec := { name := "fnRoot", fn := fun _ => fun
  | [d] => { results := [.lit (.bool true)], args := [d] }
  | _ => none }
def fnRootRow : OpenClaim := { program := "ytjfljelpjgkmjaa", sum := "7775526f7859a4366becd846fd6c4dfabb6edc4e7402c8f2bef21a29d61cd845", func := "loop.example/turningwheels/laws.FnRoot", spec := "fnRoot", apart := false }
def FnRootSaid : Prop := fnRootRow.holds Try.pinned (OpenSpec.ofChange fnRootSpec)

/-- ITS FALSE NEIGHBOUR: 'it returns false'. Refute it at one input. -/
def fnRootWrong : ChangeSpec := { name := "fnRoot", fn := fun _ => fun
  | [d] => { results := [.lit (.bool false)], args := [d] }
  | _ => none }
def FnRootWrongFalsely : Prop := fnRootRow.holds Try.pinned (OpenSpec.ofChange fnRootWrong)

/-- 'laws.FnCycAdd': WHATEVER THE INPUT: true; the input reads as it did. -/
def fnCycAddSpec : ChangeSpec := { name := "fnCycAdd", fn := fun _ => fun
  | [d] => { results := [.lit (.bool true)], args := [d] }
  | _ => none }
def fnCycAddRow : OpenClaim := { program := "ytjfljelpjgkmjaa", sum := "7775526f7859a4366becd846fd6c4dfabb6edc4e7402c8f2bef21a29d61cd845", func := "loop.example/turningwheels/laws.FnCycAdd", spec := "fnCycAdd", apart := false }
def FnCycAddSaid : Prop := fnCycAddRow.holds Try.pinned (OpenSpec.ofChange fnCycAddSpec)

/-- ITS FALSE NEIGHBOUR: 'it returns false'. Refute it at one input. -/
def fnCycAddWrong : ChangeSpec := { name := "fnCycAdd", fn := fun _ => fun
  | [d] => { results := [.lit (.bool false)], args := [d] }
  | _ => none }
def FnCycAddWrongFalsely : Prop := fnCycAddRow.holds Try.pinned (OpenSpec.ofChange fnCycAddWrong)

/-- 'laws.FnCycLess': WHATEVER THE INPUT: true; the input reads as it did. -/
def fnCycLessSpec : ChangeSpec := { name := "fnCycLess", fn := fun _ => fun
  | [d] => { results := [.lit (.bool true)], args := [d] }
  | _ => none }
def fnCycLessRow : OpenClaim := { program := "ytjfljelpjgkmjaa", sum := "7775526f7859a4366becd846fd6c4dfabb6edc4e7402c8f2bef21a29d61cd845", func := "loop.example/turningwheels/laws.FnCycLess", spec := "fnCycLess", apart := false }
def FnCycLessSaid : Prop := fnCycLessRow.holds Try.pinned (OpenSpec.ofChange fnCycLessSpec)

/-- ITS FALSE NEIGHBOUR: 'it returns false'. Refute it at one input. -/
def fnCycLessWrong : ChangeSpec := { name := "fnCycLess", fn := fun _ => fun
  | [d] => { results := [.lit (.bool false)], args := [d] }
  | _ => none }
def FnCycLessWrongFalsely : Prop := fnCycLessRow.holds Try.pinned (OpenSpec.ofChange fnCycLessWrong)

/-- 'laws.FnCycTimes': WHATEVER THE INPUT: true; the input reads as it did. -/
def fnCycTimesSpec : ChangeSpec := { name := "fnCycTimes", fn := fun _ => fun
  | [d] => { results := [.lit (.bool true)], args := [d] }
  | _ => none }
def fnCycTimesRow : OpenClaim := { program := "ytjfljelpjgkmjaa", sum := "7775526f7859a4366becd846fd6c4dfabb6edc4e7402c8f2bef21a29d61cd845", func := "loop.example/turningwheels/laws.FnCycTimes", spec := "fnCycTimes", apart := false }
def FnCycTimesSaid : Prop := fnCycTimesRow.holds Try.pinned (OpenSpec.ofChange fnCycTimesSpec)

/-- ITS FALSE NEIGHBOUR: 'it returns false'. Refute it at one input. -/
def fnCycTimesWrong : ChangeSpec := { name := "fnCycTimes", fn := fun _ => fun
  | [d] => { results := [.lit (.bool false)], args := [d] }
  | _ => none }
def FnCycTimesWrongFalsely : Prop := fnCycTimesRow.holds Try.pinned (OpenSpec.ofChange fnCycTimesWrong)

/-- 'laws.FnDistribute': WHATEVER THE INPUT: true; the input reads as it did. -/
def fnDistributeSpec : ChangeSpec := { name := "fnDistribute", fn := fun _ => fun
  | [d] => { results := [.lit (.bool true)], args := [d] }
  | _ => none }
def fnDistributeRow : OpenClaim := { program := "ytjfljelpjgkmjaa", sum := "7775526f7859a4366becd846fd6c4dfabb6edc4e7402c8f2bef21a29d61cd845", func := "loop.example/turningwheels/laws.FnDistribute", spec := "fnDistribute", apart := false }
def FnDistributeSaid : Prop := fnDistributeRow.holds Try.pinned (OpenSpec.ofChange fnDistributeSpec)

/-- ITS FALSE NEIGHBOUR: 'it returns false'. Refute it at one input. -/
def fnDistributeWrong : ChangeSpec := { name := "fnDistribute", fn := fun _ => fun
  | [d] => { results := [.lit (.bool false)], args := [d] }
  | _ => none }
def FnDistributeWrongFalsely : Prop := fnDistributeRow.holds Try.pinned (OpenSpec.ofChange fnDistributeWrong)

/-- 'laws.FnTurned': WHATEVER THE INPUT: true; the input reads as it did. -/
def fnTurnedSpec : ChangeSpec := { name := "fnTurned", fn := fun _ => fun
  | [d] => { results := [.lit (.bool true)], args := [d] }
  | _ => none }
def fnTurnedRow : OpenClaim := { program := "ytjfljelpjgkmjaa", sum := "7775526f7859a4366becd846fd6c4dfabb6edc4e7402c8f2bef21a29d61cd845", func := "loop.example/turningwheels/laws.FnTurned", spec := "fnTurned", apart := false }
def FnTurnedSaid : Prop := fnTurnedRow.holds Try.pinned (OpenSpec.ofChange fnTurnedSpec)

/-- ITS FALSE NEIGHBOUR: 'it returns false'. Refute it at one input. -/
def fnTurnedWrong : ChangeSpec := { name := "fnTurned", fn := fun _ => fun
  | [d] => { results := [.lit (.bool false)], args := [d] }
  | _ => none }
def FnTurnedWrongFalsely : Prop := fnTurnedRow.holds Try.pinned (OpenSpec.ofChange fnTurnedWrong)

/-- 'laws.FnCycMirror': WHATEVER THE INPUT: true; the input reads as it did. -/
def fnCycMirrorSpec : ChangeSpec := { name := "fnCycMirror", fn := fun _ => fun
  | [d] => { results := [.lit (.bool true)], args := [d] }
  | _ => none }
def fnCycMirrorRow : OpenClaim := { program := "ytjfljelpjgkmjaa", sum := "7775526f7859a4366becd846fd6c4dfabb6edc4e7402c8f2bef21a29d61cd845", func := "loop.example/turningwheels/laws.FnCycMirror", spec := "fnCycMirror", apart := false }
def FnCycMirrorSaid : Prop := fnCycMirrorRow.holds Try.pinned (OpenSpec.ofChange fnCycMirrorSpec)

/-- ITS FALSE NEIGHBOUR: 'it returns false'. Refute it at one input. -/
def fnCycMirrorWrong : ChangeSpec := { name := "fnCycMirror", fn := fun _ => fun
  | [d] => { results := [.lit (.bool false)], args := [d] }
  | _ => none }
def FnCycMirrorWrongFalsely : Prop := fnCycMirrorRow.holds Try.pinned (OpenSpec.ofChange fnCycMirrorWrong)

/-- 'laws.FnScale': WHATEVER THE INPUT: true; the input reads as it did. -/
def fnScaleSpec : ChangeSpec := { name := "fnScale", fn := fun _ => fun
  | [d] => { results := [.lit (.bool true)], args := [d] }
  | _ => none }
def fnScaleRow : OpenClaim := { program := "ytjfljelpjgkmjaa", sum := "7775526f7859a4366becd846fd6c4dfabb6edc4e7402c8f2bef21a29d61cd845", func := "loop.example/turningwheels/laws.FnScale", spec := "fnScale", apart := false }
def FnScaleSaid : Prop := fnScaleRow.holds Try.pinned (OpenSpec.ofChange fnScaleSpec)

/-- ITS FALSE NEIGHBOUR: 'it returns false'. Refute it at one input. -/
def fnScaleWrong : ChangeSpec := { name := "fnScale", fn := fun _ => fun
  | [d] => { results := [.lit (.bool false)], args := [d] }
  | _ => none }
def FnScaleWrongFalsely : Prop := fnScaleRow.holds Try.pinned (OpenSpec.ofChange fnScaleWrong)

/-- 'laws.FnGauss': WHATEVER THE INPUT: true; the input reads as it did. -/
def fnGaussSpec : ChangeSpec := { name := "fnGauss", fn := fun _ => fun
  | [d] => { results := [.lit (.bool true)], args := [d] }
  | _ => none }
def fnGaussRow : OpenClaim := { program := "ytjfljelpjgkmjaa", sum := "7775526f7859a4366becd846fd6c4dfabb6edc4e7402c8f2bef21a29d61cd845", func := "loop.example/turningwheels/laws.FnGauss", spec := "fnGauss", apart := false }
def FnGaussSaid : Prop := fnGaussRow.holds Try.pinned (OpenSpec.ofChange fnGaussSpec)

/-- ITS FALSE NEIGHBOUR: 'it returns false'. Refute it at one input. -/
def fnGaussWrong : ChangeSpec := { name := "fnGauss", fn := fun _ => fun
  | [d] => { results := [.lit (.bool false)], args := [d] }
  | _ => none }
def FnGaussWrongFalsely : Prop := fnGaussRow.holds Try.pinned (OpenSpec.ofChange fnGaussWrong)

/-- 'laws.FnReal': WHATEVER THE INPUT: true; the input reads as it did. -/
def fnRealSpec : ChangeSpec := { name := "fnReal", fn := fun _ => fun
  | [d] => { results := [.lit (.bool true)], args := [d] }
  | _ => none }
def fnRealRow : OpenClaim := { program := "ytjfljelpjgkmjaa", sum := "7775526f7859a4366becd846fd6c4dfabb6edc4e7402c8f2bef21a29d61cd845", func := "loop.example/turningwheels/laws.FnReal", spec := "fnReal", apart := false }
def FnRealSaid : Prop := fnRealRow.holds Try.pinned (OpenSpec.ofChange fnRealSpec)

/-- ITS FALSE NEIGHBOUR: 'it returns false'. Refute it at one input. -/
def fnRealWrong : ChangeSpec := { name := "fnReal", fn := fun _ => fun
  | [d] => { results := [.lit (.bool false)], args := [d] }
  | _ => none }
def FnRealWrongFalsely : Prop := fnRealRow.holds Try.pinned (OpenSpec.ofChange fnRealWrong)

/-- 'laws.FnExactCycValid': WHATEVER THE INPUT: true; the input reads as it did. -/
def fnExactCycValidSpec : ChangeSpec := { name := "fnExactCycValid", fn := fun _ => fun
  | [d] => { results := [.lit (.bool true)], args := [d] }
  | _ => none }
def fnExactCycValidRow : OpenClaim := { program := "ytjfljelpjgkmjaa", sum := "7775526f7859a4366becd846fd6c4dfabb6edc4e7402c8f2bef21a29d61cd845", func := "loop.example/turningwheels/laws.FnExactCycValid", spec := "fnExactCycValid", apart := false }
def FnExactCycValidSaid : Prop := fnExactCycValidRow.holds Try.pinned (OpenSpec.ofChange fnExactCycValidSpec)

/-- ITS FALSE NEIGHBOUR: 'it returns false'. Refute it at one input. -/
def fnExactCycValidWrong : ChangeSpec := { name := "fnExactCycValid", fn := fun _ => fun
  | [d] => { results := [.lit (.bool false)], args := [d] }
  | _ => none }
def FnExactCycValidWrongFalsely : Prop := fnExactCycValidRow.holds Try.pinned (OpenSpec.ofChange fnExactCycValidWrong)

/-- 'laws.FnExactCycRoot': WHATEVER THE INPUT: true; the input reads as it did. -/
def fnExactCycRootSpec : ChangeSpec := { name := "fnExactCycRoot", fn := fun _ => fun
  | [d] => { results := [.lit (.bool true)], args := [d] }
  | _ => none }
def fnExactCycRootRow : OpenClaim := { program := "ytjfljelpjgkmjaa", sum := "7775526f7859a4366becd846fd6c4dfabb6edc4e7402c8f2bef21a29d61cd845", func := "loop.example/turningwheels/laws.FnExactCycRoot", spec := "fnExactCycRoot", apart := false }
def FnExactCycRootSaid : Prop := fnExactCycRootRow.holds Try.pinned (OpenSpec.ofChange fnExactCycRootSpec)

/-- ITS FALSE NEIGHBOUR: 'it returns false'. Refute it at one input. -/
def fnExactCycRootWrong : ChangeSpec := { name := "fnExactCycRoot", fn := fun _ => fun
  | [d] => { results := [.lit (.bool false)], args := [d] }
  | _ => none }
def FnExactCycRootWrongFalsely : Prop := fnExactCycRootRow.holds Try.pinned (OpenSpec.ofChange fnExactCycRootWrong)

/-- 'laws.FnExactCycAdd': WHATEVER THE INPUT: true; the input reads as it did. -/
def fnExactCycAddSpec : ChangeSpec := { name := "fnExactCycAdd", fn := fun _ => fun
  | [d1, d2] => { results := [.lit (.bool true)], args := [d1, d2] }
  | _ => none }
def fnExactCycAddRow : OpenClaim := { program := "ytjfljelpjgkmjaa", sum := "7775526f7859a4366becd846fd6c4dfabb6edc4e7402c8f2bef21a29d61cd845", func := "loop.example/turningwheels/laws.FnExactCycAdd", spec := "fnExactCycAdd", apart := false }
def FnExactCycAddSaid : Prop := fnExactCycAddRow.holds Try.pinned (OpenSpec.ofChange fnExactCycAddSpec)

/-- ITS FALSE NEIGHBOUR: 'it returns false'. Refute it at one input. -/
def fnExactCycAddWrong : ChangeSpec := { name := "fnExactCycAdd", fn := fun _ => fun
  | [d1, d2] => { results := [.lit (.bool false)], args := [d1, d2] }
  | _ => none }
def FnExactCycAddWrongFalsely : Prop := fnExactCycAddRow.holds Try.pinned (OpenSpec.ofChange fnExactCycAddWrong)

/-- 'laws.FnExactCycLess': WHATEVER THE INPUT: true; the input reads as it did. -/
def fnExactCycLessSpec : ChangeSpec := { name := "fnExactCycLess", fn := fun _ => fun
  | [d1, d2] => { results := [.lit (.bool true)], args := [d1, d2] }
  | _ => none }
def fnExactCycLessRow : OpenClaim := { program := "ytjfljelpjgkmjaa", sum := "7775526f7859a4366becd846fd6c4dfabb6edc4e7402c8f2bef21a29d61cd845", func := "loop.example/turningwheels/laws.FnExactCycLess", spec := "fnExactCycLess", apart := false }
def FnExactCycLessSaid : Prop := fnExactCycLessRow.holds Try.pinned (OpenSpec.ofChange fnExactCycLessSpec)

/-- ITS FALSE NEIGHBOUR: 'it returns false'. Refute it at one input. -/
def fnExactCycLessWrong : ChangeSpec := { name := "fnExactCycLess", fn := fun _ => fun
  | [d1, d2] => { results := [.lit (.bool false)], args := [d1, d2] }
  | _ => none }
def FnExactCycLessWrongFalsely : Prop := fnExactCycLessRow.holds Try.pinned (OpenSpec.ofChange fnExactCycLessWrong)

/-- 'laws.FnExactCycTimes': WHATEVER THE INPUT: true; the input reads as it did. -/
def fnExactCycTimesSpec : ChangeSpec := { name := "fnExactCycTimes", fn := fun _ => fun
  | [d1, d2] => { results := [.lit (.bool true)], args := [d1, d2] }
  | _ => none }
def fnExactCycTimesRow : OpenClaim := { program := "ytjfljelpjgkmjaa", sum := "7775526f7859a4366becd846fd6c4dfabb6edc4e7402c8f2bef21a29d61cd845", func := "loop.example/turningwheels/laws.FnExactCycTimes", spec := "fnExactCycTimes", apart := false }
def FnExactCycTimesSaid : Prop := fnExactCycTimesRow.holds Try.pinned (OpenSpec.ofChange fnExactCycTimesSpec)

/-- ITS FALSE NEIGHBOUR: 'it returns false'. Refute it at one input. -/
def fnExactCycTimesWrong : ChangeSpec := { name := "fnExactCycTimes", fn := fun _ => fun
  | [d1, d2] => { results := [.lit (.bool false)], args := [d1, d2] }
  | _ => none }
def FnExactCycTimesWrongFalsely : Prop := fnExactCycTimesRow.holds Try.pinned (OpenSpec.ofChange fnExactCycTimesWrong)

/-- 'laws.FnExactCycTurned': WHATEVER THE INPUT: true; the input reads as it did. -/
def fnExactCycTurnedSpec : ChangeSpec := { name := "fnExactCycTurned", fn := fun _ => fun
  | [d1, d2] => { results := [.lit (.bool true)], args := [d1, d2] }
  | _ => none }
def fnExactCycTurnedRow : OpenClaim := { program := "ytjfljelpjgkmjaa", sum := "7775526f7859a4366becd846fd6c4dfabb6edc4e7402c8f2bef21a29d61cd845", func := "loop.example/turningwheels/laws.FnExactCycTurned", spec := "fnExactCycTurned", apart := false }
def FnExactCycTurnedSaid : Prop := fnExactCycTurnedRow.holds Try.pinned (OpenSpec.ofChange fnExactCycTurnedSpec)

/-- ITS FALSE NEIGHBOUR: 'it returns false'. Refute it at one input. -/
def fnExactCycTurnedWrong : ChangeSpec := { name := "fnExactCycTurned", fn := fun _ => fun
  | [d1, d2] => { results := [.lit (.bool false)], args := [d1, d2] }
  | _ => none }
def FnExactCycTurnedWrongFalsely : Prop := fnExactCycTurnedRow.holds Try.pinned (OpenSpec.ofChange fnExactCycTurnedWrong)

/-- 'laws.FnExactCycMirror': WHATEVER THE INPUT: true; the input reads as it did. -/
def fnExactCycMirrorSpec : ChangeSpec := { name := "fnExactCycMirror", fn := fun _ => fun
  | [d] => { results := [.lit (.bool true)], args := [d] }
  | _ => none }
def fnExactCycMirrorRow : OpenClaim := { program := "ytjfljelpjgkmjaa", sum := "7775526f7859a4366becd846fd6c4dfabb6edc4e7402c8f2bef21a29d61cd845", func := "loop.example/turningwheels/laws.FnExactCycMirror", spec := "fnExactCycMirror", apart := false }
def FnExactCycMirrorSaid : Prop := fnExactCycMirrorRow.holds Try.pinned (OpenSpec.ofChange fnExactCycMirrorSpec)

/-- ITS FALSE NEIGHBOUR: 'it returns false'. Refute it at one input. -/
def fnExactCycMirrorWrong : ChangeSpec := { name := "fnExactCycMirror", fn := fun _ => fun
  | [d] => { results := [.lit (.bool false)], args := [d] }
  | _ => none }
def FnExactCycMirrorWrongFalsely : Prop := fnExactCycMirrorRow.holds Try.pinned (OpenSpec.ofChange fnExactCycMirrorWrong)

/-- 'laws.FnExactCycScale': WHATEVER THE INPUT: true; the input reads as it did. -/
def fnExactCycScaleSpec : ChangeSpec := { name := "fnExactCycScale", fn := fun _ => fun
  | [d1, d2] => { results := [.lit (.bool true)], args := [d1, d2] }
  | _ => none }
def fnExactCycScaleRow : OpenClaim := { program := "ytjfljelpjgkmjaa", sum := "7775526f7859a4366becd846fd6c4dfabb6edc4e7402c8f2bef21a29d61cd845", func := "loop.example/turningwheels/laws.FnExactCycScale", spec := "fnExactCycScale", apart := false }
def FnExactCycScaleSaid : Prop := fnExactCycScaleRow.holds Try.pinned (OpenSpec.ofChange fnExactCycScaleSpec)

/-- ITS FALSE NEIGHBOUR: 'it returns false'. Refute it at one input. -/
def fnExactCycScaleWrong : ChangeSpec := { name := "fnExactCycScale", fn := fun _ => fun
  | [d1, d2] => { results := [.lit (.bool false)], args := [d1, d2] }
  | _ => none }
def FnExactCycScaleWrongFalsely : Prop := fnExactCycScaleRow.holds Try.pinned (OpenSpec.ofChange fnExactCycScaleWrong)

/-- 'laws.FnExactCycGauss': WHATEVER THE INPUT: true; the input reads as it did. -/
def fnExactCycGaussSpec : ChangeSpec := { name := "fnExactCycGauss", fn := fun _ => fun
  | [d1, d2] => { results := [.lit (.bool true)], args := [d1, d2] }
  | _ => none }
def fnExactCycGaussRow : OpenClaim := { program := "ytjfljelpjgkmjaa", sum := "7775526f7859a4366becd846fd6c4dfabb6edc4e7402c8f2bef21a29d61cd845", func := "loop.example/turningwheels/laws.FnExactCycGauss", spec := "fnExactCycGauss", apart := false }
def FnExactCycGaussSaid : Prop := fnExactCycGaussRow.holds Try.pinned (OpenSpec.ofChange fnExactCycGaussSpec)

/-- ITS FALSE NEIGHBOUR: 'it returns false'. Refute it at one input. -/
def fnExactCycGaussWrong : ChangeSpec := { name := "fnExactCycGauss", fn := fun _ => fun
  | [d1, d2] => { results := [.lit (.bool false)], args := [d1, d2] }
  | _ => none }
def FnExactCycGaussWrongFalsely : Prop := fnExactCycGaussRow.holds Try.pinned (OpenSpec.ofChange fnExactCycGaussWrong)

/-- 'laws.FnExactCycReal': WHATEVER THE INPUT: true; the input reads as it did. -/
def fnExactCycRealSpec : ChangeSpec := { name := "fnExactCycReal", fn := fun _ => fun
  | [d] => { results := [.lit (.bool true)], args := [d] }
  | _ => none }
def fnExactCycRealRow : OpenClaim := { program := "ytjfljelpjgkmjaa", sum := "7775526f7859a4366becd846fd6c4dfabb6edc4e7402c8f2bef21a29d61cd845", func := "loop.example/turningwheels/laws.FnExactCycReal", spec := "fnExactCycReal", apart := false }
def FnExactCycRealSaid : Prop := fnExactCycRealRow.holds Try.pinned (OpenSpec.ofChange fnExactCycRealSpec)

/-- ITS FALSE NEIGHBOUR: 'it returns false'. Refute it at one input. -/
def fnExactCycRealWrong : ChangeSpec := { name := "fnExactCycReal", fn := fun _ => fun
  | [d] => { results := [.lit (.bool false)], args := [d] }
  | _ => none }
def FnExactCycRealWrongFalsely : Prop := fnExactCycRealRow.holds Try.pinned (OpenSpec.ofChange fnExactCycRealWrong)

/- THE SECOND FORM. 'bulk': how many values and letters a reading holds, each counted each time it is reached (what is shared counts as often as it is met; a slice's spare places count too). A statement '..UptoSaid' is the law's where the arguments, and the package variables that the reading takes, are together of bulk at most 1048576: NARROWER than '..Said'. Prove '..Said' where nothing that the law and all that it calls make is longer than what came in: it says more and counts as full. Else prove '..UptoSaid'. A law counts once. -/
mutual
def uptoBulk {H : Type} : DataW H → Nat
  | .lit (.string bytes) => bytes.length + 1
  | .lit _ => 1
  | .nil => 1
  | .ptr d => uptoBulk d + 1
  | .slice elems spare => uptoBulkAll elems + uptoBulkAll spare + 1
  | .agg parts => uptoBulkAll parts + 1
  | .iface _ d => uptoBulk d + 1
  | .map entries => uptoBulkEntries entries + 1
  | .held _ => 1
def uptoBulkAll {H : Type} : List (DataW H) → Nat
  | [] => 0
  | d :: r => uptoBulk d + uptoBulkAll r
def uptoBulkEntries {H : Type} : List (Lit × DataW H) → Nat
  | [] => 0
  | x :: r => uptoBulkEntry x + uptoBulkEntries r
def uptoBulkEntry {H : Type} : Lit × DataW H → Nat
  | (.string bytes, d) => bytes.length + uptoBulk d + 1
  | (_, d) => uptoBulk d + 1
 end
def uptoSmall : (H : Type) → List (DataW H) → Bool := fun _ ds => decide (uptoBulkAll ds ≤ 1048576)
def OpenSpec.upto (s : _root_.Go.ChangeSpec) : _root_.Go.OpenSpec := { _root_.Go.OpenSpec.ofChange s with cond := some uptoSmall }

/-- 'laws.FnCyc', WHERE WHAT IT READS IS OF BULK AT MOST 1048576: true; the input reads as it did. -/
def fnCycUptoRow : OpenClaim := { program := "ytjfljelpjgkmjaa", sum := "7775526f7859a4366becd846fd6c4dfabb6edc4e7402c8f2bef21a29d61cd845", func := "loop.example/turningwheels/laws.FnCyc", spec := "fnCyc", apart := false, narrowed := true }
def FnCycUptoSaid : Prop := fnCycUptoRow.holds Try.pinned (OpenSpec.upto fnCycSpec)

/-- 'laws.FnRoot', WHERE WHAT IT READS IS OF BULK AT MOST 1048576: true; the input reads as it did. -/
def fnRootUptoRow : OpenClaim := { program := "ytjfljelpjgkmjaa", sum := "7775526f7859a4366becd846fd6c4dfabb6edc4e7402c8f2bef21a29d61cd845", func := "loop.example/turningwheels/laws.FnRoot", spec := "fnRoot", apart := false, narrowed := true }
def FnRootUptoSaid : Prop := fnRootUptoRow.holds Try.pinned (OpenSpec.upto fnRootSpec)

/-- 'laws.FnCycAdd', WHERE WHAT IT READS IS OF BULK AT MOST 1048576: true; the input reads as it did. -/
def fnCycAddUptoRow : OpenClaim := { program := "ytjfljelpjgkmjaa", sum := "7775526f7859a4366becd846fd6c4dfabb6edc4e7402c8f2bef21a29d61cd845", func := "loop.example/turningwheels/laws.FnCycAdd", spec := "fnCycAdd", apart := false, narrowed := true }
def FnCycAddUptoSaid : Prop := fnCycAddUptoRow.holds Try.pinned (OpenSpec.upto fnCycAddSpec)

/-- 'laws.FnCycLess', WHERE WHAT IT READS IS OF BULK AT MOST 1048576: true; the input reads as it did. -/
def fnCycLessUptoRow : OpenClaim := { program := "ytjfljelpjgkmjaa", sum := "7775526f7859a4366becd846fd6c4dfabb6edc4e7402c8f2bef21a29d61cd845", func := "loop.example/turningwheels/laws.FnCycLess", spec := "fnCycLess", apart := false, narrowed := true }
def FnCycLessUptoSaid : Prop := fnCycLessUptoRow.holds Try.pinned (OpenSpec.upto fnCycLessSpec)

/-- 'laws.FnCycTimes', WHERE WHAT IT READS IS OF BULK AT MOST 1048576: true; the input reads as it did. -/
def fnCycTimesUptoRow : OpenClaim := { program := "ytjfljelpjgkmjaa", sum := "7775526f7859a4366becd846fd6c4dfabb6edc4e7402c8f2bef21a29d61cd845", func := "loop.example/turningwheels/laws.FnCycTimes", spec := "fnCycTimes", apart := false, narrowed := true }
def FnCycTimesUptoSaid : Prop := fnCycTimesUptoRow.holds Try.pinned (OpenSpec.upto fnCycTimesSpec)

/-- 'laws.FnDistribute', WHERE WHAT IT READS IS OF BULK AT MOST 1048576: true; the input reads as it did. -/
def fnDistributeUptoRow : OpenClaim := { program := "ytjfljelpjgkmjaa", sum := "7775526f7859a4366becd846fd6c4dfabb6edc4e7402c8f2bef21a29d61cd845", func := "loop.example/turningwheels/laws.FnDistribute", spec := "fnDistribute", apart := false, narrowed := true }
def FnDistributeUptoSaid : Prop := fnDistributeUptoRow.holds Try.pinned (OpenSpec.upto fnDistributeSpec)

/-- 'laws.FnTurned', WHERE WHAT IT READS IS OF BULK AT MOST 1048576: true; the input reads as it did. -/
def fnTurnedUptoRow : OpenClaim := { program := "ytjfljelpjgkmjaa", sum := "7775526f7859a4366becd846fd6c4dfabb6edc4e7402c8f2bef21a29d61cd845", func := "loop.example/turningwheels/laws.FnTurned", spec := "fnTurned", apart := false, narrowed := true }
def FnTurnedUptoSaid : Prop := fnTurnedUptoRow.holds Try.pinned (OpenSpec.upto fnTurnedSpec)

/-- 'laws.FnCycMirror', WHERE WHAT IT READS IS OF BULK AT MOST 1048576: true; the input reads as it did. -/
def fnCycMirrorUptoRow : OpenClaim := { program := "ytjfljelpjgkmjaa", sum := "7775526f7859a4366becd846fd6c4dfabb6edc4e7402c8f2bef21a29d61cd845", func := "loop.example/turningwheels/laws.FnCycMirror", spec := "fnCycMirror", apart := false, narrowed := true }
def FnCycMirrorUptoSaid : Prop := fnCycMirrorUptoRow.holds Try.pinned (OpenSpec.upto fnCycMirrorSpec)

/-- 'laws.FnScale', WHERE WHAT IT READS IS OF BULK AT MOST 1048576: true; the input reads as it did. -/
def fnScaleUptoRow : OpenClaim := { program := "ytjfljelpjgkmjaa", sum := "7775526f7859a4366becd846fd6c4dfabb6edc4e7402c8f2bef21a29d61cd845", func := "loop.example/turningwheels/laws.FnScale", spec := "fnScale", apart := false, narrowed := true }
def FnScaleUptoSaid : Prop := fnScaleUptoRow.holds Try.pinned (OpenSpec.upto fnScaleSpec)

/-- 'laws.FnGauss', WHERE WHAT IT READS IS OF BULK AT MOST 1048576: true; the input reads as it did. -/
def fnGaussUptoRow : OpenClaim := { program := "ytjfljelpjgkmjaa", sum := "7775526f7859a4366becd846fd6c4dfabb6edc4e7402c8f2bef21a29d61cd845", func := "loop.example/turningwheels/laws.FnGauss", spec := "fnGauss", apart := false, narrowed := true }
def FnGaussUptoSaid : Prop := fnGaussUptoRow.holds Try.pinned (OpenSpec.upto fnGaussSpec)

/-- 'laws.FnReal', WHERE WHAT IT READS IS OF BULK AT MOST 1048576: true; the input reads as it did. -/
def fnRealUptoRow : OpenClaim := { program := "ytjfljelpjgkmjaa", sum := "7775526f7859a4366becd846fd6c4dfabb6edc4e7402c8f2bef21a29d61cd845", func := "loop.example/turningwheels/laws.FnReal", spec := "fnReal", apart := false, narrowed := true }
def FnRealUptoSaid : Prop := fnRealUptoRow.holds Try.pinned (OpenSpec.upto fnRealSpec)

/-- 'laws.FnExactCycValid', WHERE WHAT IT READS IS OF BULK AT MOST 1048576: true; the input reads as it did. -/
def fnExactCycValidUptoRow : OpenClaim := { program := "ytjfljelpjgkmjaa", sum := "7775526f7859a4366becd846fd6c4dfabb6edc4e7402c8f2bef21a29d61cd845", func := "loop.example/turningwheels/laws.FnExactCycValid", spec := "fnExactCycValid", apart := false, narrowed := true }
def FnExactCycValidUptoSaid : Prop := fnExactCycValidUptoRow.holds Try.pinned (OpenSpec.upto fnExactCycValidSpec)

/-- 'laws.FnExactCycRoot', WHERE WHAT IT READS IS OF BULK AT MOST 1048576: true; the input reads as it did. -/
def fnExactCycRootUptoRow : OpenClaim := { program := "ytjfljelpjgkmjaa", sum := "7775526f7859a4366becd846fd6c4dfabb6edc4e7402c8f2bef21a29d61cd845", func := "loop.example/turningwheels/laws.FnExactCycRoot", spec := "fnExactCycRoot", apart := false, narrowed := true }
def FnExactCycRootUptoSaid : Prop := fnExactCycRootUptoRow.holds Try.pinned (OpenSpec.upto fnExactCycRootSpec)

/-- 'laws.FnExactCycAdd', WHERE WHAT IT READS IS OF BULK AT MOST 1048576: true; the input reads as it did. -/
def fnExactCycAddUptoRow : OpenClaim := { program := "ytjfljelpjgkmjaa", sum := "7775526f7859a4366becd846fd6c4dfabb6edc4e7402c8f2bef21a29d61cd845", func := "loop.example/turningwheels/laws.FnExactCycAdd", spec := "fnExactCycAdd", apart := false, narrowed := true }
def FnExactCycAddUptoSaid : Prop := fnExactCycAddUptoRow.holds Try.pinned (OpenSpec.upto fnExactCycAddSpec)

/-- 'laws.FnExactCycLess', WHERE WHAT IT READS IS OF BULK AT MOST 1048576: true; the input reads as it did. -/
def fnExactCycLessUptoRow : OpenClaim := { program := "ytjfljelpjgkmjaa", sum := "7775526f7859a4366becd846fd6c4dfabb6edc4e7402c8f2bef21a29d61cd845", func := "loop.example/turningwheels/laws.FnExactCycLess", spec := "fnExactCycLess", apart := false, narrowed := true }
def FnExactCycLessUptoSaid : Prop := fnExactCycLessUptoRow.holds Try.pinned (OpenSpec.upto fnExactCycLessSpec)

/-- 'laws.FnExactCycTimes', WHERE WHAT IT READS IS OF BULK AT MOST 1048576: true; the input reads as it did. -/
def fnExactCycTimesUptoRow : OpenClaim := { program := "ytjfljelpjgkmjaa", sum := "7775526f7859a4366becd846fd6c4dfabb6edc4e7402c8f2bef21a29d61cd845", func := "loop.example/turningwheels/laws.FnExactCycTimes", spec := "fnExactCycTimes", apart := false, narrowed := true }
def FnExactCycTimesUptoSaid : Prop := fnExactCycTimesUptoRow.holds Try.pinned (OpenSpec.upto fnExactCycTimesSpec)

/-- 'laws.FnExactCycTurned', WHERE WHAT IT READS IS OF BULK AT MOST 1048576: true; the input reads as it did. -/
def fnExactCycTurnedUptoRow : OpenClaim := { program := "ytjfljelpjgkmjaa", sum := "7775526f7859a4366becd846fd6c4dfabb6edc4e7402c8f2bef21a29d61cd845", func := "loop.example/turningwheels/laws.FnExactCycTurned", spec := "fnExactCycTurned", apart := false, narrowed := true }
def FnExactCycTurnedUptoSaid : Prop := fnExactCycTurnedUptoRow.holds Try.pinned (OpenSpec.upto fnExactCycTurnedSpec)

/-- 'laws.FnExactCycMirror', WHERE WHAT IT READS IS OF BULK AT MOST 1048576: true; the input reads as it did. -/
def fnExactCycMirrorUptoRow : OpenClaim := { program := "ytjfljelpjgkmjaa", sum := "7775526f7859a4366becd846fd6c4dfabb6edc4e7402c8f2bef21a29d61cd845", func := "loop.example/turningwheels/laws.FnExactCycMirror", spec := "fnExactCycMirror", apart := false, narrowed := true }
def FnExactCycMirrorUptoSaid : Prop := fnExactCycMirrorUptoRow.holds Try.pinned (OpenSpec.upto fnExactCycMirrorSpec)

/-- 'laws.FnExactCycScale', WHERE WHAT IT READS IS OF BULK AT MOST 1048576: true; the input reads as it did. -/
def fnExactCycScaleUptoRow : OpenClaim := { program := "ytjfljelpjgkmjaa", sum := "7775526f7859a4366becd846fd6c4dfabb6edc4e7402c8f2bef21a29d61cd845", func := "loop.example/turningwheels/laws.FnExactCycScale", spec := "fnExactCycScale", apart := false, narrowed := true }
def FnExactCycScaleUptoSaid : Prop := fnExactCycScaleUptoRow.holds Try.pinned (OpenSpec.upto fnExactCycScaleSpec)

/-- 'laws.FnExactCycGauss', WHERE WHAT IT READS IS OF BULK AT MOST 1048576: true; the input reads as it did. -/
def fnExactCycGaussUptoRow : OpenClaim := { program := "ytjfljelpjgkmjaa", sum := "7775526f7859a4366becd846fd6c4dfabb6edc4e7402c8f2bef21a29d61cd845", func := "loop.example/turningwheels/laws.FnExactCycGauss", spec := "fnExactCycGauss", apart := false, narrowed := true }
def FnExactCycGaussUptoSaid : Prop := fnExactCycGaussUptoRow.holds Try.pinned (OpenSpec.upto fnExactCycGaussSpec)

/-- 'laws.FnExactCycReal', WHERE WHAT IT READS IS OF BULK AT MOST 1048576: true; the input reads as it did. -/
def fnExactCycRealUptoRow : OpenClaim := { program := "ytjfljelpjgkmjaa", sum := "7775526f7859a4366becd846fd6c4dfabb6edc4e7402c8f2bef21a29d61cd845", func := "loop.example/turningwheels/laws.FnExactCycReal", spec := "fnExactCycReal", apart := false, narrowed := true }
def FnExactCycRealUptoSaid : Prop := fnExactCycRealUptoRow.holds Try.pinned (OpenSpec.upto fnExactCycRealSpec)

end Rows
end Go.Proofs.Ytjfljelpjgkmjaa
