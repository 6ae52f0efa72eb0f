/-
  No cell of these rows narrows 'for every input' (looked for: loops, veiled, ifaces, maps, wideKeys, modest, calm, conditions, laid).
  DERIVED. THE GIVEN ROWS OF THIS SEAT. 13 by the template 'for every input the law returns true; each argument reads behind the call as it read before'; 0 by the template 'total and deterministic' (their statements: YtnidiikcnplebaaTotals.lean).
  GIVEN WITH THE SEED: the statements are not yours to turn. If you find one false, say at which input.
  Laid BY PROGRAM, IN A SANDBOX (cutbox-rows.mjs): the forced cells as the released guide's own fill.sh prints them over the translation 649036c6e514bb5e… (all of the seat's roots in one cut). By AI agents, Wed Nov 11 2026. No macro, syntax, notation, axiom, sorry.
-/
import Derived.Test.YtnidiikcnplebaaChecked
import GoSem.Claim
import GoSem.ClaimJoined
import GoSem.ClaimMapViews
import Derived.JoinedTies
import Derived.KernelRfl
namespace Go.Proofs.Ytnidiikcnplebaa
/- THE CELL 'sum', in the pinned program and in every row, IS THE sha256 OF THE DUMP (.gsa) THAT YtnidiikcnplebaaProg.lean LOADS. Nothing in Lean hashes anything: it is a label: what it is worth is what the hold of that sum in a sandbox is worth. -/
noncomputable def Try.pinned : Pinned := { name := "ytnidiikcnplebaa", sum := "649036c6e514bb5ef40b2ebb15b382e1f6cb4d98b4f7837569cfde6bdb7af2b6", checked := Try.checked }
namespace Rows
def none {H : Type} : Left H := { results := [], args := [] }

/-- 'laws.FnPath': WHATEVER THE INPUT: true; the input reads as it did. -/
def fnPathSpec : ChangeSpec := { name := "fnPath", fn := fun _ => fun
  | [d] => { results := [.lit (.bool true)], args := [d] }
  | _ => none }
def fnPathRow : OpenClaim := { program := "ytnidiikcnplebaa", sum := "649036c6e514bb5ef40b2ebb15b382e1f6cb4d98b4f7837569cfde6bdb7af2b6", func := "loop.example/turningwheels/laws.FnPath", spec := "fnPath", inPlace := ["math.Float64bits", "math.Float64frombits"], apart := false }
def FnPathSaid : Prop := fnPathRow.holds Try.pinned (OpenSpec.ofChange fnPathSpec)

/-- ITS FALSE NEIGHBOUR: 'it returns false'. Refute it at one input. -/
def fnPathWrong : ChangeSpec := { name := "fnPath", fn := fun _ => fun
  | [d] => { results := [.lit (.bool false)], args := [d] }
  | _ => none }
def FnPathWrongFalsely : Prop := fnPathRow.holds Try.pinned (OpenSpec.ofChange fnPathWrong)

/-- 'laws.FnPathOf': WHATEVER THE INPUT: true; the input reads as it did. -/
def fnPathOfSpec : ChangeSpec := { name := "fnPathOf", fn := fun _ => fun
  | [d] => { results := [.lit (.bool true)], args := [d] }
  | _ => none }
def fnPathOfRow : OpenClaim := { program := "ytnidiikcnplebaa", sum := "649036c6e514bb5ef40b2ebb15b382e1f6cb4d98b4f7837569cfde6bdb7af2b6", func := "loop.example/turningwheels/laws.FnPathOf", spec := "fnPathOf", inPlace := ["math.Float64bits", "math.Float64frombits"], unfollowed := true, recurses := true, apart := false }
def FnPathOfSaid : Prop := fnPathOfRow.holds Try.pinned (OpenSpec.ofChange fnPathOfSpec)

/-- ITS FALSE NEIGHBOUR: 'it returns false'. Refute it at one input. -/
def fnPathOfWrong : ChangeSpec := { name := "fnPathOf", fn := fun _ => fun
  | [d] => { results := [.lit (.bool false)], args := [d] }
  | _ => none }
def FnPathOfWrongFalsely : Prop := fnPathOfRow.holds Try.pinned (OpenSpec.ofChange fnPathOfWrong)

/-- 'laws.FnGrid': WHATEVER THE INPUT: true; the input reads as it did. -/
def fnGridSpec : ChangeSpec := { name := "fnGrid", fn := fun _ => fun
  | [d] => { results := [.lit (.bool true)], args := [d] }
  | _ => none }
def fnGridRow : OpenClaim := { program := "ytnidiikcnplebaa", sum := "649036c6e514bb5ef40b2ebb15b382e1f6cb4d98b4f7837569cfde6bdb7af2b6", func := "loop.example/turningwheels/laws.FnGrid", spec := "fnGrid", inPlace := ["math.Float64bits", "math.Float64frombits", "math.archFloor", "math.archTrunc"], apart := false }
def FnGridSaid : Prop := fnGridRow.holds Try.pinned (OpenSpec.ofChange fnGridSpec)

/-- ITS FALSE NEIGHBOUR: 'it returns false'. Refute it at one input. -/
def fnGridWrong : ChangeSpec := { name := "fnGrid", fn := fun _ => fun
  | [d] => { results := [.lit (.bool false)], args := [d] }
  | _ => none }
def FnGridWrongFalsely : Prop := fnGridRow.holds Try.pinned (OpenSpec.ofChange fnGridWrong)

/-- 'laws.FnPathMoves': WHATEVER THE INPUT: true; the input reads as it did. -/
def fnPathMovesSpec : ChangeSpec := { name := "fnPathMoves", fn := fun _ => fun
  | [d] => { results := [.lit (.bool true)], args := [d] }
  | _ => none }
def fnPathMovesRow : OpenClaim := { program := "ytnidiikcnplebaa", sum := "649036c6e514bb5ef40b2ebb15b382e1f6cb4d98b4f7837569cfde6bdb7af2b6", func := "loop.example/turningwheels/laws.FnPathMoves", spec := "fnPathMoves", inPlace := ["math.Float64bits", "math.Float64frombits", "math.archFloor", "math.archTrunc"], apart := false }
def FnPathMovesSaid : Prop := fnPathMovesRow.holds Try.pinned (OpenSpec.ofChange fnPathMovesSpec)

/-- ITS FALSE NEIGHBOUR: 'it returns false'. Refute it at one input. -/
def fnPathMovesWrong : ChangeSpec := { name := "fnPathMoves", fn := fun _ => fun
  | [d] => { results := [.lit (.bool false)], args := [d] }
  | _ => none }
def FnPathMovesWrongFalsely : Prop := fnPathMovesRow.holds Try.pinned (OpenSpec.ofChange fnPathMovesWrong)

/-- 'laws.FnMovesPath': WHATEVER THE INPUT: true; the input reads as it did. -/
def fnMovesPathSpec : ChangeSpec := { name := "fnMovesPath", fn := fun _ => fun
  | [d] => { results := [.lit (.bool true)], args := [d] }
  | _ => none }
def fnMovesPathRow : OpenClaim := { program := "ytnidiikcnplebaa", sum := "649036c6e514bb5ef40b2ebb15b382e1f6cb4d98b4f7837569cfde6bdb7af2b6", func := "loop.example/turningwheels/laws.FnMovesPath", spec := "fnMovesPath", inPlace := ["math.Float64bits", "math.Float64frombits", "math.archFloor", "math.archTrunc"], apart := false }
def FnMovesPathSaid : Prop := fnMovesPathRow.holds Try.pinned (OpenSpec.ofChange fnMovesPathSpec)

/-- ITS FALSE NEIGHBOUR: 'it returns false'. Refute it at one input. -/
def fnMovesPathWrong : ChangeSpec := { name := "fnMovesPath", fn := fun _ => fun
  | [d] => { results := [.lit (.bool false)], args := [d] }
  | _ => none }
def FnMovesPathWrongFalsely : Prop := fnMovesPathRow.holds Try.pinned (OpenSpec.ofChange fnMovesPathWrong)

/-- 'laws.FnMovesTidy': WHATEVER THE INPUT: true; the input reads as it did. -/
def fnMovesTidySpec : ChangeSpec := { name := "fnMovesTidy", fn := fun _ => fun
  | [d] => { results := [.lit (.bool true)], args := [d] }
  | _ => none }
def fnMovesTidyRow : OpenClaim := { program := "ytnidiikcnplebaa", sum := "649036c6e514bb5ef40b2ebb15b382e1f6cb4d98b4f7837569cfde6bdb7af2b6", func := "loop.example/turningwheels/laws.FnMovesTidy", spec := "fnMovesTidy", apart := false }
def FnMovesTidySaid : Prop := fnMovesTidyRow.holds Try.pinned (OpenSpec.ofChange fnMovesTidySpec)

/-- ITS FALSE NEIGHBOUR: 'it returns false'. Refute it at one input. -/
def fnMovesTidyWrong : ChangeSpec := { name := "fnMovesTidy", fn := fun _ => fun
  | [d] => { results := [.lit (.bool false)], args := [d] }
  | _ => none }
def FnMovesTidyWrongFalsely : Prop := fnMovesTidyRow.holds Try.pinned (OpenSpec.ofChange fnMovesTidyWrong)

/-- 'laws.FnLength': WHATEVER THE INPUT: true; the input reads as it did. -/
def fnLengthSpec : ChangeSpec := { name := "fnLength", fn := fun _ => fun
  | [d] => { results := [.lit (.bool true)], args := [d] }
  | _ => none }
def fnLengthRow : OpenClaim := { program := "ytnidiikcnplebaa", sum := "649036c6e514bb5ef40b2ebb15b382e1f6cb4d98b4f7837569cfde6bdb7af2b6", func := "loop.example/turningwheels/laws.FnLength", spec := "fnLength", apart := false }
def FnLengthSaid : Prop := fnLengthRow.holds Try.pinned (OpenSpec.ofChange fnLengthSpec)

/-- ITS FALSE NEIGHBOUR: 'it returns false'. Refute it at one input. -/
def fnLengthWrong : ChangeSpec := { name := "fnLength", fn := fun _ => fun
  | [d] => { results := [.lit (.bool false)], args := [d] }
  | _ => none }
def FnLengthWrongFalsely : Prop := fnLengthRow.holds Try.pinned (OpenSpec.ofChange fnLengthWrong)

/-- 'laws.FnBox': WHATEVER THE INPUT: true; the input reads as it did. -/
def fnBoxSpec : ChangeSpec := { name := "fnBox", fn := fun _ => fun
  | [d] => { results := [.lit (.bool true)], args := [d] }
  | _ => none }
def fnBoxRow : OpenClaim := { program := "ytnidiikcnplebaa", sum := "649036c6e514bb5ef40b2ebb15b382e1f6cb4d98b4f7837569cfde6bdb7af2b6", func := "loop.example/turningwheels/laws.FnBox", spec := "fnBox", inPlace := ["math.Float64bits", "math.Float64frombits"], apart := false }
def FnBoxSaid : Prop := fnBoxRow.holds Try.pinned (OpenSpec.ofChange fnBoxSpec)

/-- ITS FALSE NEIGHBOUR: 'it returns false'. Refute it at one input. -/
def fnBoxWrong : ChangeSpec := { name := "fnBox", fn := fun _ => fun
  | [d] => { results := [.lit (.bool false)], args := [d] }
  | _ => none }
def FnBoxWrongFalsely : Prop := fnBoxRow.holds Try.pinned (OpenSpec.ofChange fnBoxWrong)

/-- 'laws.FnFar': WHATEVER THE INPUT: true; the input reads as it did. -/
def fnFarSpec : ChangeSpec := { name := "fnFar", fn := fun _ => fun
  | [d] => { results := [.lit (.bool true)], args := [d] }
  | _ => none }
def fnFarRow : OpenClaim := { program := "ytnidiikcnplebaa", sum := "649036c6e514bb5ef40b2ebb15b382e1f6cb4d98b4f7837569cfde6bdb7af2b6", func := "loop.example/turningwheels/laws.FnFar", spec := "fnFar", inPlace := ["math.Float64bits", "math.Float64frombits"], apart := false }
def FnFarSaid : Prop := fnFarRow.holds Try.pinned (OpenSpec.ofChange fnFarSpec)

/-- ITS FALSE NEIGHBOUR: 'it returns false'. Refute it at one input. -/
def fnFarWrong : ChangeSpec := { name := "fnFar", fn := fun _ => fun
  | [d] => { results := [.lit (.bool false)], args := [d] }
  | _ => none }
def FnFarWrongFalsely : Prop := fnFarRow.holds Try.pinned (OpenSpec.ofChange fnFarWrong)

/-- 'laws.FnExactPathOf': WHATEVER THE INPUT: true; the input reads as it did. -/
def fnExactPathOfSpec : ChangeSpec := { name := "fnExactPathOf", fn := fun _ => fun
  | [d] => { results := [.lit (.bool true)], args := [d] }
  | _ => none }
def fnExactPathOfRow : OpenClaim := { program := "ytnidiikcnplebaa", sum := "649036c6e514bb5ef40b2ebb15b382e1f6cb4d98b4f7837569cfde6bdb7af2b6", func := "loop.example/turningwheels/laws.FnExactPathOf", spec := "fnExactPathOf", inPlace := ["math.Float64bits", "math.Float64frombits"], unfollowed := true, recurses := true, apart := false }
def FnExactPathOfSaid : Prop := fnExactPathOfRow.holds Try.pinned (OpenSpec.ofChange fnExactPathOfSpec)

/-- ITS FALSE NEIGHBOUR: 'it returns false'. Refute it at one input. -/
def fnExactPathOfWrong : ChangeSpec := { name := "fnExactPathOf", fn := fun _ => fun
  | [d] => { results := [.lit (.bool false)], args := [d] }
  | _ => none }
def FnExactPathOfWrongFalsely : Prop := fnExactPathOfRow.holds Try.pinned (OpenSpec.ofChange fnExactPathOfWrong)

/-- 'laws.FnExactMovesPath': WHATEVER THE INPUT: true; the input reads as it did. -/
def fnExactMovesPathSpec : ChangeSpec := { name := "fnExactMovesPath", fn := fun _ => fun
  | [d1, d2] => { results := [.lit (.bool true)], args := [d1, d2] }
  | _ => none }
def fnExactMovesPathRow : OpenClaim := { program := "ytnidiikcnplebaa", sum := "649036c6e514bb5ef40b2ebb15b382e1f6cb4d98b4f7837569cfde6bdb7af2b6", func := "loop.example/turningwheels/laws.FnExactMovesPath", spec := "fnExactMovesPath", inPlace := ["math.Float64bits", "math.Float64frombits"], apart := false }
def FnExactMovesPathSaid : Prop := fnExactMovesPathRow.holds Try.pinned (OpenSpec.ofChange fnExactMovesPathSpec)

/-- ITS FALSE NEIGHBOUR: 'it returns false'. Refute it at one input. -/
def fnExactMovesPathWrong : ChangeSpec := { name := "fnExactMovesPath", fn := fun _ => fun
  | [d1, d2] => { results := [.lit (.bool false)], args := [d1, d2] }
  | _ => none }
def FnExactMovesPathWrongFalsely : Prop := fnExactMovesPathRow.holds Try.pinned (OpenSpec.ofChange fnExactMovesPathWrong)

/-- 'laws.FnExactMovesTidy': WHATEVER THE INPUT: true; the input reads as it did. -/
def fnExactMovesTidySpec : ChangeSpec := { name := "fnExactMovesTidy", fn := fun _ => fun
  | [d] => { results := [.lit (.bool true)], args := [d] }
  | _ => none }
def fnExactMovesTidyRow : OpenClaim := { program := "ytnidiikcnplebaa", sum := "649036c6e514bb5ef40b2ebb15b382e1f6cb4d98b4f7837569cfde6bdb7af2b6", func := "loop.example/turningwheels/laws.FnExactMovesTidy", spec := "fnExactMovesTidy", apart := false }
def FnExactMovesTidySaid : Prop := fnExactMovesTidyRow.holds Try.pinned (OpenSpec.ofChange fnExactMovesTidySpec)

/-- ITS FALSE NEIGHBOUR: 'it returns false'. Refute it at one input. -/
def fnExactMovesTidyWrong : ChangeSpec := { name := "fnExactMovesTidy", fn := fun _ => fun
  | [d] => { results := [.lit (.bool false)], args := [d] }
  | _ => none }
def FnExactMovesTidyWrongFalsely : Prop := fnExactMovesTidyRow.holds Try.pinned (OpenSpec.ofChange fnExactMovesTidyWrong)

/-- 'laws.FnExactMovesLength': WHATEVER THE INPUT: true; the input reads as it did. -/
def fnExactMovesLengthSpec : ChangeSpec := { name := "fnExactMovesLength", fn := fun _ => fun
  | [d] => { results := [.lit (.bool true)], args := [d] }
  | _ => none }
def fnExactMovesLengthRow : OpenClaim := { program := "ytnidiikcnplebaa", sum := "649036c6e514bb5ef40b2ebb15b382e1f6cb4d98b4f7837569cfde6bdb7af2b6", func := "loop.example/turningwheels/laws.FnExactMovesLength", spec := "fnExactMovesLength", apart := false }
def FnExactMovesLengthSaid : Prop := fnExactMovesLengthRow.holds Try.pinned (OpenSpec.ofChange fnExactMovesLengthSpec)

/-- ITS FALSE NEIGHBOUR: 'it returns false'. Refute it at one input. -/
def fnExactMovesLengthWrong : ChangeSpec := { name := "fnExactMovesLength", fn := fun _ => fun
  | [d] => { results := [.lit (.bool false)], args := [d] }
  | _ => none }
def FnExactMovesLengthWrongFalsely : Prop := fnExactMovesLengthRow.holds Try.pinned (OpenSpec.ofChange fnExactMovesLengthWrong)

/- THE SECOND FORM. 'bulk': how many values and letters a reading holds, each counted each time it is reached (what is shared counts as often as it is met; a slice's spare places count too). A statement '..UptoSaid' is the law's where the arguments, and the package variables that the reading takes, are together of bulk at most 1048576: NARROWER than '..Said'. Prove '..Said' where nothing that the law and all that it calls make is longer than what came in: it says more and counts as full. Else prove '..UptoSaid'. A law counts once. -/
mutual
def uptoBulk {H : Type} : DataW H → Nat
  | .lit (.string bytes) => bytes.length + 1
  | .lit _ => 1
  | .nil => 1
  | .ptr d => uptoBulk d + 1
  | .slice elems spare => uptoBulkAll elems + uptoBulkAll spare + 1
  | .agg parts => uptoBulkAll parts + 1
  | .iface _ d => uptoBulk d + 1
  | .map entries => uptoBulkEntries entries + 1
  | .held _ => 1
def uptoBulkAll {H : Type} : List (DataW H) → Nat
  | [] => 0
  | d :: r => uptoBulk d + uptoBulkAll r
def uptoBulkEntries {H : Type} : List (Lit × DataW H) → Nat
  | [] => 0
  | x :: r => uptoBulkEntry x + uptoBulkEntries r
def uptoBulkEntry {H : Type} : Lit × DataW H → Nat
  | (.string bytes, d) => bytes.length + uptoBulk d + 1
  | (_, d) => uptoBulk d + 1
 end
def uptoSmall : (H : Type) → List (DataW H) → Bool := fun _ ds => decide (uptoBulkAll ds ≤ 1048576)
def OpenSpec.upto (s : _root_.Go.ChangeSpec) : _root_.Go.OpenSpec := { _root_.Go.OpenSpec.ofChange s with cond := some uptoSmall }

/-- 'laws.FnPath', WHERE WHAT IT READS IS OF BULK AT MOST 1048576: true; the input reads as it did. -/
def fnPathUptoRow : OpenClaim := { program := "ytnidiikcnplebaa", sum := "649036c6e514bb5ef40b2ebb15b382e1f6cb4d98b4f7837569cfde6bdb7af2b6", func := "loop.example/turningwheels/laws.FnPath", spec := "fnPath", inPlace := ["math.Float64bits", "math.Float64frombits"], apart := false, narrowed := true }
def FnPathUptoSaid : Prop := fnPathUptoRow.holds Try.pinned (OpenSpec.upto fnPathSpec)

/-- 'laws.FnPathOf', WHERE WHAT IT READS IS OF BULK AT MOST 1048576: true; the input reads as it did. -/
def fnPathOfUptoRow : OpenClaim := { program := "ytnidiikcnplebaa", sum := "649036c6e514bb5ef40b2ebb15b382e1f6cb4d98b4f7837569cfde6bdb7af2b6", func := "loop.example/turningwheels/laws.FnPathOf", spec := "fnPathOf", inPlace := ["math.Float64bits", "math.Float64frombits"], unfollowed := true, recurses := true, apart := false, narrowed := true }
def FnPathOfUptoSaid : Prop := fnPathOfUptoRow.holds Try.pinned (OpenSpec.upto fnPathOfSpec)

/-- 'laws.FnGrid', WHERE WHAT IT READS IS OF BULK AT MOST 1048576: true; the input reads as it did. -/
def fnGridUptoRow : OpenClaim := { program := "ytnidiikcnplebaa", sum := "649036c6e514bb5ef40b2ebb15b382e1f6cb4d98b4f7837569cfde6bdb7af2b6", func := "loop.example/turningwheels/laws.FnGrid", spec := "fnGrid", inPlace := ["math.Float64bits", "math.Float64frombits", "math.archFloor", "math.archTrunc"], apart := false, narrowed := true }
def FnGridUptoSaid : Prop := fnGridUptoRow.holds Try.pinned (OpenSpec.upto fnGridSpec)

/-- 'laws.FnPathMoves', WHERE WHAT IT READS IS OF BULK AT MOST 1048576: true; the input reads as it did. -/
def fnPathMovesUptoRow : OpenClaim := { program := "ytnidiikcnplebaa", sum := "649036c6e514bb5ef40b2ebb15b382e1f6cb4d98b4f7837569cfde6bdb7af2b6", func := "loop.example/turningwheels/laws.FnPathMoves", spec := "fnPathMoves", inPlace := ["math.Float64bits", "math.Float64frombits", "math.archFloor", "math.archTrunc"], apart := false, narrowed := true }
def FnPathMovesUptoSaid : Prop := fnPathMovesUptoRow.holds Try.pinned (OpenSpec.upto fnPathMovesSpec)

/-- 'laws.FnMovesPath', WHERE WHAT IT READS IS OF BULK AT MOST 1048576: true; the input reads as it did. -/
def fnMovesPathUptoRow : OpenClaim := { program := "ytnidiikcnplebaa", sum := "649036c6e514bb5ef40b2ebb15b382e1f6cb4d98b4f7837569cfde6bdb7af2b6", func := "loop.example/turningwheels/laws.FnMovesPath", spec := "fnMovesPath", inPlace := ["math.Float64bits", "math.Float64frombits", "math.archFloor", "math.archTrunc"], apart := false, narrowed := true }
def FnMovesPathUptoSaid : Prop := fnMovesPathUptoRow.holds Try.pinned (OpenSpec.upto fnMovesPathSpec)

/-- 'laws.FnMovesTidy', WHERE WHAT IT READS IS OF BULK AT MOST 1048576: true; the input reads as it did. -/
def fnMovesTidyUptoRow : OpenClaim := { program := "ytnidiikcnplebaa", sum := "649036c6e514bb5ef40b2ebb15b382e1f6cb4d98b4f7837569cfde6bdb7af2b6", func := "loop.example/turningwheels/laws.FnMovesTidy", spec := "fnMovesTidy", apart := false, narrowed := true }
def FnMovesTidyUptoSaid : Prop := fnMovesTidyUptoRow.holds Try.pinned (OpenSpec.upto fnMovesTidySpec)

/-- 'laws.FnLength', WHERE WHAT IT READS IS OF BULK AT MOST 1048576: true; the input reads as it did. -/
def fnLengthUptoRow : OpenClaim := { program := "ytnidiikcnplebaa", sum := "649036c6e514bb5ef40b2ebb15b382e1f6cb4d98b4f7837569cfde6bdb7af2b6", func := "loop.example/turningwheels/laws.FnLength", spec := "fnLength", apart := false, narrowed := true }
def FnLengthUptoSaid : Prop := fnLengthUptoRow.holds Try.pinned (OpenSpec.upto fnLengthSpec)

/-- 'laws.FnBox', WHERE WHAT IT READS IS OF BULK AT MOST 1048576: true; the input reads as it did. -/
def fnBoxUptoRow : OpenClaim := { program := "ytnidiikcnplebaa", sum := "649036c6e514bb5ef40b2ebb15b382e1f6cb4d98b4f7837569cfde6bdb7af2b6", func := "loop.example/turningwheels/laws.FnBox", spec := "fnBox", inPlace := ["math.Float64bits", "math.Float64frombits"], apart := false, narrowed := true }
def FnBoxUptoSaid : Prop := fnBoxUptoRow.holds Try.pinned (OpenSpec.upto fnBoxSpec)

/-- 'laws.FnFar', WHERE WHAT IT READS IS OF BULK AT MOST 1048576: true; the input reads as it did. -/
def fnFarUptoRow : OpenClaim := { program := "ytnidiikcnplebaa", sum := "649036c6e514bb5ef40b2ebb15b382e1f6cb4d98b4f7837569cfde6bdb7af2b6", func := "loop.example/turningwheels/laws.FnFar", spec := "fnFar", inPlace := ["math.Float64bits", "math.Float64frombits"], apart := false, narrowed := true }
def FnFarUptoSaid : Prop := fnFarUptoRow.holds Try.pinned (OpenSpec.upto fnFarSpec)

/-- 'laws.FnExactPathOf', WHERE WHAT IT READS IS OF BULK AT MOST 1048576: true; the input reads as it did. -/
def fnExactPathOfUptoRow : OpenClaim := { program := "ytnidiikcnplebaa", sum := "649036c6e514bb5ef40b2ebb15b382e1f6cb4d98b4f7837569cfde6bdb7af2b6", func := "loop.example/turningwheels/laws.FnExactPathOf", spec := "fnExactPathOf", inPlace := ["math.Float64bits", "math.Float64frombits"], unfollowed := true, recurses := true, apart := false, narrowed := true }
def FnExactPathOfUptoSaid : Prop := fnExactPathOfUptoRow.holds Try.pinned (OpenSpec.upto fnExactPathOfSpec)

/-- 'laws.FnExactMovesPath', WHERE WHAT IT READS IS OF BULK AT MOST 1048576: true; the input reads as it did. -/
def fnExactMovesPathUptoRow : OpenClaim := { program := "ytnidiikcnplebaa", sum := "649036c6e514bb5ef40b2ebb15b382e1f6cb4d98b4f7837569cfde6bdb7af2b6", func := "loop.example/turningwheels/laws.FnExactMovesPath", spec := "fnExactMovesPath", inPlace := ["math.Float64bits", "math.Float64frombits"], apart := false, narrowed := true }
def FnExactMovesPathUptoSaid : Prop := fnExactMovesPathUptoRow.holds Try.pinned (OpenSpec.upto fnExactMovesPathSpec)

/-- 'laws.FnExactMovesTidy', WHERE WHAT IT READS IS OF BULK AT MOST 1048576: true; the input reads as it did. -/
def fnExactMovesTidyUptoRow : OpenClaim := { program := "ytnidiikcnplebaa", sum := "649036c6e514bb5ef40b2ebb15b382e1f6cb4d98b4f7837569cfde6bdb7af2b6", func := "loop.example/turningwheels/laws.FnExactMovesTidy", spec := "fnExactMovesTidy", apart := false, narrowed := true }
def FnExactMovesTidyUptoSaid : Prop := fnExactMovesTidyUptoRow.holds Try.pinned (OpenSpec.upto fnExactMovesTidySpec)

/-- 'laws.FnExactMovesLength', WHERE WHAT IT READS IS OF BULK AT MOST 1048576: true; the input reads as it did. -/
def fnExactMovesLengthUptoRow : OpenClaim := { program := "ytnidiikcnplebaa", sum := "649036c6e514bb5ef40b2ebb15b382e1f6cb4d98b4f7837569cfde6bdb7af2b6", func := "loop.example/turningwheels/laws.FnExactMovesLength", spec := "fnExactMovesLength", apart := false, narrowed := true }
def FnExactMovesLengthUptoSaid : Prop := fnExactMovesLengthUptoRow.holds Try.pinned (OpenSpec.upto fnExactMovesLengthSpec)

end Rows
end Go.Proofs.Ytnidiikcnplebaa
