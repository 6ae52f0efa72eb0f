/-
  No cell of these rows narrows 'for every input' (looked for: loops, veiled, ifaces, maps, wideKeys, modest, calm, conditions, laid).
  DERIVED. THE GIVEN ROWS OF THIS SEAT. 9 by the template 'for every input the law returns true; each argument reads behind the call as it read before'; 0 by the template 'total and deterministic' (their statements: YtgcjemegajbmoabTotals.lean).
  GIVEN WITH THE SEED: the statements are not yours to turn. If you find one false, say at which input.
  Laid BY PROGRAM, IN A SANDBOX (cutbox-rows.mjs): the forced cells as the released guide's own fill.sh prints them over the translation 9cc1492125cd3c13… (all of the seat's roots in one cut). By AI agents, Wed Nov 11 2026. No macro, syntax, notation, axiom, sorry.
-/
import Derived.Test.YtgcjemegajbmoabChecked
import GoSem.Claim
import GoSem.ClaimJoined
import GoSem.ClaimMapViews
import Derived.JoinedTies
import Derived.KernelRfl
namespace Go.Proofs.Ytgcjemegajbmoab
/- THE CELL 'sum', in the pinned program and in every row, IS THE sha256 OF THE DUMP (.gsa) THAT YtgcjemegajbmoabProg.lean LOADS. Nothing in Lean hashes anything: it is a label: what it is worth is what the hold of that sum in a sandbox is worth. -/
noncomputable def Try.pinned : Pinned := { name := "ytgcjemegajbmoab", sum := "9cc1492125cd3c13a66344117e7eef7d992b4224012e6c080a4884df75e28028", checked := Try.checked }
namespace Rows
def none {H : Type} : Left H := { results := [], args := [] }

/-- 'laws.FnExactCycRoot': WHATEVER THE INPUT: true; the input reads as it did. -/
def fnExactCycRootSpec : ChangeSpec := { name := "fnExactCycRoot", fn := fun _ => fun
  | [d] => { results := [.lit (.bool true)], args := [d] }
  | _ => none }
def fnExactCycRootRow : OpenClaim := { program := "ytgcjemegajbmoab", sum := "9cc1492125cd3c13a66344117e7eef7d992b4224012e6c080a4884df75e28028", func := "loop.example/turningwheels/laws.FnExactCycRoot", spec := "fnExactCycRoot", apart := false }
def FnExactCycRootSaid : Prop := fnExactCycRootRow.holds Try.pinned (OpenSpec.ofChange fnExactCycRootSpec)

/-- ITS FALSE NEIGHBOUR: 'it returns false'. Refute it at one input. -/
def fnExactCycRootWrong : ChangeSpec := { name := "fnExactCycRoot", fn := fun _ => fun
  | [d] => { results := [.lit (.bool false)], args := [d] }
  | _ => none }
def FnExactCycRootWrongFalsely : Prop := fnExactCycRootRow.holds Try.pinned (OpenSpec.ofChange fnExactCycRootWrong)

/-- 'laws.FnExactCycAdd': WHATEVER THE INPUT: true; the input reads as it did. -/
def fnExactCycAddSpec : ChangeSpec := { name := "fnExactCycAdd", fn := fun _ => fun
  | [d1, d2] => { results := [.lit (.bool true)], args := [d1, d2] }
  | _ => none }
def fnExactCycAddRow : OpenClaim := { program := "ytgcjemegajbmoab", sum := "9cc1492125cd3c13a66344117e7eef7d992b4224012e6c080a4884df75e28028", func := "loop.example/turningwheels/laws.FnExactCycAdd", spec := "fnExactCycAdd", apart := false }
def FnExactCycAddSaid : Prop := fnExactCycAddRow.holds Try.pinned (OpenSpec.ofChange fnExactCycAddSpec)

/-- ITS FALSE NEIGHBOUR: 'it returns false'. Refute it at one input. -/
def fnExactCycAddWrong : ChangeSpec := { name := "fnExactCycAdd", fn := fun _ => fun
  | [d1, d2] => { results := [.lit (.bool false)], args := [d1, d2] }
  | _ => none }
def FnExactCycAddWrongFalsely : Prop := fnExactCycAddRow.holds Try.pinned (OpenSpec.ofChange fnExactCycAddWrong)

/-- 'laws.FnExactCycLess': WHATEVER THE INPUT: true; the input reads as it did. -/
def fnExactCycLessSpec : ChangeSpec := { name := "fnExactCycLess", fn := fun _ => fun
  | [d1, d2] => { results := [.lit (.bool true)], args := [d1, d2] }
  | _ => none }
def fnExactCycLessRow : OpenClaim := { program := "ytgcjemegajbmoab", sum := "9cc1492125cd3c13a66344117e7eef7d992b4224012e6c080a4884df75e28028", func := "loop.example/turningwheels/laws.FnExactCycLess", spec := "fnExactCycLess", apart := false }
def FnExactCycLessSaid : Prop := fnExactCycLessRow.holds Try.pinned (OpenSpec.ofChange fnExactCycLessSpec)

/-- ITS FALSE NEIGHBOUR: 'it returns false'. Refute it at one input. -/
def fnExactCycLessWrong : ChangeSpec := { name := "fnExactCycLess", fn := fun _ => fun
  | [d1, d2] => { results := [.lit (.bool false)], args := [d1, d2] }
  | _ => none }
def FnExactCycLessWrongFalsely : Prop := fnExactCycLessRow.holds Try.pinned (OpenSpec.ofChange fnExactCycLessWrong)

/-- 'laws.FnExactCycTimes': WHATEVER THE INPUT: true; the input reads as it did. -/
def fnExactCycTimesSpec : ChangeSpec := { name := "fnExactCycTimes", fn := fun _ => fun
  | [d1, d2] => { results := [.lit (.bool true)], args := [d1, d2] }
  | _ => none }
def fnExactCycTimesRow : OpenClaim := { program := "ytgcjemegajbmoab", sum := "9cc1492125cd3c13a66344117e7eef7d992b4224012e6c080a4884df75e28028", func := "loop.example/turningwheels/laws.FnExactCycTimes", spec := "fnExactCycTimes", apart := false }
def FnExactCycTimesSaid : Prop := fnExactCycTimesRow.holds Try.pinned (OpenSpec.ofChange fnExactCycTimesSpec)

/-- ITS FALSE NEIGHBOUR: 'it returns false'. Refute it at one input. -/
def fnExactCycTimesWrong : ChangeSpec := { name := "fnExactCycTimes", fn := fun _ => fun
  | [d1, d2] => { results := [.lit (.bool false)], args := [d1, d2] }
  | _ => none }
def FnExactCycTimesWrongFalsely : Prop := fnExactCycTimesRow.holds Try.pinned (OpenSpec.ofChange fnExactCycTimesWrong)

/-- 'laws.FnExactCycTurned': WHATEVER THE INPUT: true; the input reads as it did. -/
def fnExactCycTurnedSpec : ChangeSpec := { name := "fnExactCycTurned", fn := fun _ => fun
  | [d1, d2] => { results := [.lit (.bool true)], args := [d1, d2] }
  | _ => none }
def fnExactCycTurnedRow : OpenClaim := { program := "ytgcjemegajbmoab", sum := "9cc1492125cd3c13a66344117e7eef7d992b4224012e6c080a4884df75e28028", func := "loop.example/turningwheels/laws.FnExactCycTurned", spec := "fnExactCycTurned", apart := false }
def FnExactCycTurnedSaid : Prop := fnExactCycTurnedRow.holds Try.pinned (OpenSpec.ofChange fnExactCycTurnedSpec)

/-- ITS FALSE NEIGHBOUR: 'it returns false'. Refute it at one input. -/
def fnExactCycTurnedWrong : ChangeSpec := { name := "fnExactCycTurned", fn := fun _ => fun
  | [d1, d2] => { results := [.lit (.bool false)], args := [d1, d2] }
  | _ => none }
def FnExactCycTurnedWrongFalsely : Prop := fnExactCycTurnedRow.holds Try.pinned (OpenSpec.ofChange fnExactCycTurnedWrong)

/-- 'laws.FnExactCycMirror': WHATEVER THE INPUT: true; the input reads as it did. -/
def fnExactCycMirrorSpec : ChangeSpec := { name := "fnExactCycMirror", fn := fun _ => fun
  | [d] => { results := [.lit (.bool true)], args := [d] }
  | _ => none }
def fnExactCycMirrorRow : OpenClaim := { program := "ytgcjemegajbmoab", sum := "9cc1492125cd3c13a66344117e7eef7d992b4224012e6c080a4884df75e28028", func := "loop.example/turningwheels/laws.FnExactCycMirror", spec := "fnExactCycMirror", apart := false }
def FnExactCycMirrorSaid : Prop := fnExactCycMirrorRow.holds Try.pinned (OpenSpec.ofChange fnExactCycMirrorSpec)

/-- ITS FALSE NEIGHBOUR: 'it returns false'. Refute it at one input. -/
def fnExactCycMirrorWrong : ChangeSpec := { name := "fnExactCycMirror", fn := fun _ => fun
  | [d] => { results := [.lit (.bool false)], args := [d] }
  | _ => none }
def FnExactCycMirrorWrongFalsely : Prop := fnExactCycMirrorRow.holds Try.pinned (OpenSpec.ofChange fnExactCycMirrorWrong)

/-- 'laws.FnExactCycScale': WHATEVER THE INPUT: true; the input reads as it did. -/
def fnExactCycScaleSpec : ChangeSpec := { name := "fnExactCycScale", fn := fun _ => fun
  | [d1, d2] => { results := [.lit (.bool true)], args := [d1, d2] }
  | _ => none }
def fnExactCycScaleRow : OpenClaim := { program := "ytgcjemegajbmoab", sum := "9cc1492125cd3c13a66344117e7eef7d992b4224012e6c080a4884df75e28028", func := "loop.example/turningwheels/laws.FnExactCycScale", spec := "fnExactCycScale", apart := false }
def FnExactCycScaleSaid : Prop := fnExactCycScaleRow.holds Try.pinned (OpenSpec.ofChange fnExactCycScaleSpec)

/-- ITS FALSE NEIGHBOUR: 'it returns false'. Refute it at one input. -/
def fnExactCycScaleWrong : ChangeSpec := { name := "fnExactCycScale", fn := fun _ => fun
  | [d1, d2] => { results := [.lit (.bool false)], args := [d1, d2] }
  | _ => none }
def FnExactCycScaleWrongFalsely : Prop := fnExactCycScaleRow.holds Try.pinned (OpenSpec.ofChange fnExactCycScaleWrong)

/-- 'laws.FnExactCycGauss': WHATEVER THE INPUT: true; the input reads as it did. -/
def fnExactCycGaussSpec : ChangeSpec := { name := "fnExactCycGauss", fn := fun _ => fun
  | [d1, d2] => { results := [.lit (.bool true)], args := [d1, d2] }
  | _ => none }
def fnExactCycGaussRow : OpenClaim := { program := "ytgcjemegajbmoab", sum := "9cc1492125cd3c13a66344117e7eef7d992b4224012e6c080a4884df75e28028", func := "loop.example/turningwheels/laws.FnExactCycGauss", spec := "fnExactCycGauss", apart := false }
def FnExactCycGaussSaid : Prop := fnExactCycGaussRow.holds Try.pinned (OpenSpec.ofChange fnExactCycGaussSpec)

/-- ITS FALSE NEIGHBOUR: 'it returns false'. Refute it at one input. -/
def fnExactCycGaussWrong : ChangeSpec := { name := "fnExactCycGauss", fn := fun _ => fun
  | [d1, d2] => { results := [.lit (.bool false)], args := [d1, d2] }
  | _ => none }
def FnExactCycGaussWrongFalsely : Prop := fnExactCycGaussRow.holds Try.pinned (OpenSpec.ofChange fnExactCycGaussWrong)

/-- 'laws.FnExactCycReal': WHATEVER THE INPUT: true; the input reads as it did. -/
def fnExactCycRealSpec : ChangeSpec := { name := "fnExactCycReal", fn := fun _ => fun
  | [d] => { results := [.lit (.bool true)], args := [d] }
  | _ => none }
def fnExactCycRealRow : OpenClaim := { program := "ytgcjemegajbmoab", sum := "9cc1492125cd3c13a66344117e7eef7d992b4224012e6c080a4884df75e28028", func := "loop.example/turningwheels/laws.FnExactCycReal", spec := "fnExactCycReal", apart := false }
def FnExactCycRealSaid : Prop := fnExactCycRealRow.holds Try.pinned (OpenSpec.ofChange fnExactCycRealSpec)

/-- ITS FALSE NEIGHBOUR: 'it returns false'. Refute it at one input. -/
def fnExactCycRealWrong : ChangeSpec := { name := "fnExactCycReal", fn := fun _ => fun
  | [d] => { results := [.lit (.bool false)], args := [d] }
  | _ => none }
def FnExactCycRealWrongFalsely : Prop := fnExactCycRealRow.holds Try.pinned (OpenSpec.ofChange fnExactCycRealWrong)

/- THE SECOND FORM. 'bulk': how many values and letters a reading holds, each counted each time it is reached (what is shared counts as often as it is met; a slice's spare places count too). A statement '..UptoSaid' is the law's where the arguments, and the package variables that the reading takes, are together of bulk at most 1048576: NARROWER than '..Said'. Prove '..Said' where nothing that the law and all that it calls make is longer than what came in: it says more and counts as full. Else prove '..UptoSaid'. A law counts once. -/
mutual
def uptoBulk {H : Type} : DataW H → Nat
  | .lit (.string bytes) => bytes.length + 1
  | .lit _ => 1
  | .nil => 1
  | .ptr d => uptoBulk d + 1
  | .slice elems spare => uptoBulkAll elems + uptoBulkAll spare + 1
  | .agg parts => uptoBulkAll parts + 1
  | .iface _ d => uptoBulk d + 1
  | .map entries => uptoBulkEntries entries + 1
  | .held _ => 1
def uptoBulkAll {H : Type} : List (DataW H) → Nat
  | [] => 0
  | d :: r => uptoBulk d + uptoBulkAll r
def uptoBulkEntries {H : Type} : List (Lit × DataW H) → Nat
  | [] => 0
  | x :: r => uptoBulkEntry x + uptoBulkEntries r
def uptoBulkEntry {H : Type} : Lit × DataW H → Nat
  | (.string bytes, d) => bytes.length + uptoBulk d + 1
  | (_, d) => uptoBulk d + 1
 end
def uptoSmall : (H : Type) → List (DataW H) → Bool := fun _ ds => decide (uptoBulkAll ds ≤ 1048576)
def OpenSpec.upto (s : _root_.Go.ChangeSpec) : _root_.Go.OpenSpec := { _root_.Go.OpenSpec.ofChange s with cond := some uptoSmall }

/-- 'laws.FnExactCycRoot', WHERE WHAT IT READS IS OF BULK AT MOST 1048576: true; the input reads as it did. -/
def fnExactCycRootUptoRow : OpenClaim := { program := "ytgcjemegajbmoab", sum := "9cc1492125cd3c13a66344117e7eef7d992b4224012e6c080a4884df75e28028", func := "loop.example/turningwheels/laws.FnExactCycRoot", spec := "fnExactCycRoot", apart := false, narrowed := true }
def FnExactCycRootUptoSaid : Prop := fnExactCycRootUptoRow.holds Try.pinned (OpenSpec.upto fnExactCycRootSpec)

/-- 'laws.FnExactCycAdd', WHERE WHAT IT READS IS OF BULK AT MOST 1048576: true; the input reads as it did. -/
def fnExactCycAddUptoRow : OpenClaim := { program := "ytgcjemegajbmoab", sum := "9cc1492125cd3c13a66344117e7eef7d992b4224012e6c080a4884df75e28028", func := "loop.example/turningwheels/laws.FnExactCycAdd", spec := "fnExactCycAdd", apart := false, narrowed := true }
def FnExactCycAddUptoSaid : Prop := fnExactCycAddUptoRow.holds Try.pinned (OpenSpec.upto fnExactCycAddSpec)

/-- 'laws.FnExactCycLess', WHERE WHAT IT READS IS OF BULK AT MOST 1048576: true; the input reads as it did. -/
def fnExactCycLessUptoRow : OpenClaim := { program := "ytgcjemegajbmoab", sum := "9cc1492125cd3c13a66344117e7eef7d992b4224012e6c080a4884df75e28028", func := "loop.example/turningwheels/laws.FnExactCycLess", spec := "fnExactCycLess", apart := false, narrowed := true }
def FnExactCycLessUptoSaid : Prop := fnExactCycLessUptoRow.holds Try.pinned (OpenSpec.upto fnExactCycLessSpec)

/-- 'laws.FnExactCycTimes', WHERE WHAT IT READS IS OF BULK AT MOST 1048576: true; the input reads as it did. -/
def fnExactCycTimesUptoRow : OpenClaim := { program := "ytgcjemegajbmoab", sum := "9cc1492125cd3c13a66344117e7eef7d992b4224012e6c080a4884df75e28028", func := "loop.example/turningwheels/laws.FnExactCycTimes", spec := "fnExactCycTimes", apart := false, narrowed := true }
def FnExactCycTimesUptoSaid : Prop := fnExactCycTimesUptoRow.holds Try.pinned (OpenSpec.upto fnExactCycTimesSpec)

/-- 'laws.FnExactCycTurned', WHERE WHAT IT READS IS OF BULK AT MOST 1048576: true; the input reads as it did. -/
def fnExactCycTurnedUptoRow : OpenClaim := { program := "ytgcjemegajbmoab", sum := "9cc1492125cd3c13a66344117e7eef7d992b4224012e6c080a4884df75e28028", func := "loop.example/turningwheels/laws.FnExactCycTurned", spec := "fnExactCycTurned", apart := false, narrowed := true }
def FnExactCycTurnedUptoSaid : Prop := fnExactCycTurnedUptoRow.holds Try.pinned (OpenSpec.upto fnExactCycTurnedSpec)

/-- 'laws.FnExactCycMirror', WHERE WHAT IT READS IS OF BULK AT MOST 1048576: true; the input reads as it did. -/
def fnExactCycMirrorUptoRow : OpenClaim := { program := "ytgcjemegajbmoab", sum := "9cc1492125cd3c13a66344117e7eef7d992b4224012e6c080a4884df75e28028", func := "loop.example/turningwheels/laws.FnExactCycMirror", spec := "fnExactCycMirror", apart := false, narrowed := true }
def FnExactCycMirrorUptoSaid : Prop := fnExactCycMirrorUptoRow.holds Try.pinned (OpenSpec.upto fnExactCycMirrorSpec)

/-- 'laws.FnExactCycScale', WHERE WHAT IT READS IS OF BULK AT MOST 1048576: true; the input reads as it did. -/
def fnExactCycScaleUptoRow : OpenClaim := { program := "ytgcjemegajbmoab", sum := "9cc1492125cd3c13a66344117e7eef7d992b4224012e6c080a4884df75e28028", func := "loop.example/turningwheels/laws.FnExactCycScale", spec := "fnExactCycScale", apart := false, narrowed := true }
def FnExactCycScaleUptoSaid : Prop := fnExactCycScaleUptoRow.holds Try.pinned (OpenSpec.upto fnExactCycScaleSpec)

/-- 'laws.FnExactCycGauss', WHERE WHAT IT READS IS OF BULK AT MOST 1048576: true; the input reads as it did. -/
def fnExactCycGaussUptoRow : OpenClaim := { program := "ytgcjemegajbmoab", sum := "9cc1492125cd3c13a66344117e7eef7d992b4224012e6c080a4884df75e28028", func := "loop.example/turningwheels/laws.FnExactCycGauss", spec := "fnExactCycGauss", apart := false, narrowed := true }
def FnExactCycGaussUptoSaid : Prop := fnExactCycGaussUptoRow.holds Try.pinned (OpenSpec.upto fnExactCycGaussSpec)

/-- 'laws.FnExactCycReal', WHERE WHAT IT READS IS OF BULK AT MOST 1048576: true; the input reads as it did. -/
def fnExactCycRealUptoRow : OpenClaim := { program := "ytgcjemegajbmoab", sum := "9cc1492125cd3c13a66344117e7eef7d992b4224012e6c080a4884df75e28028", func := "loop.example/turningwheels/laws.FnExactCycReal", spec := "fnExactCycReal", apart := false, narrowed := true }
def FnExactCycRealUptoSaid : Prop := fnExactCycRealUptoRow.holds Try.pinned (OpenSpec.upto fnExactCycRealSpec)

end Rows
end Go.Proofs.Ytgcjemegajbmoab
