/-
  No cell of these rows narrows 'for every input' (looked for: loops, veiled, ifaces, maps, wideKeys, modest, calm, conditions, laid).
  DERIVED. THE GIVEN ROWS OF THIS SEAT. 19 by the template 'for every input the law returns true; each argument reads behind the call as it read before'; 0 by the template 'total and deterministic' (their statements: YtdgbpdeimckbfaaTotals.lean).
  GIVEN WITH THE SEED: the statements are not yours to turn. If you find one false, say at which input.
  Laid BY PROGRAM, IN A SANDBOX (cutbox-rows.mjs): the forced cells as the released guide's own fill.sh prints them over the translation 09e2afe8220e71e6… (all of the seat's roots in one cut). By AI agents, Wed Nov 11 2026. No macro, syntax, notation, axiom, sorry.
-/
import Derived.Test.YtdgbpdeimckbfaaChecked
import GoSem.Claim
import GoSem.ClaimJoined
import GoSem.ClaimMapViews
import Derived.JoinedTies
import Derived.KernelRfl
namespace Go.Proofs.Ytdgbpdeimckbfaa
/- THE CELL 'sum', in the pinned program and in every row, IS THE sha256 OF THE DUMP (.gsa) THAT YtdgbpdeimckbfaaProg.lean LOADS. Nothing in Lean hashes anything: it is a label: what it is worth is what the hold of that sum in a sandbox is worth. -/
noncomputable def Try.pinned : Pinned := { name := "ytdgbpdeimckbfaa", sum := "09e2afe8220e71e6de268b3aa8ff73f78b3ff4da6af17745d3d0a5f0e7a0bb3d", checked := Try.checked }
namespace Rows
def none {H : Type} : Left H := { results := [], args := [] }

/-- 'laws.FnRow': WHATEVER THE INPUT: true; the input reads as it did. -/
def fnRowSpec : ChangeSpec := { name := "fnRow", fn := fun _ => fun
  | [d] => { results := [.lit (.bool true)], args := [d] }
  | _ => none }
def fnRowRow : OpenClaim := { program := "ytdgbpdeimckbfaa", sum := "09e2afe8220e71e6de268b3aa8ff73f78b3ff4da6af17745d3d0a5f0e7a0bb3d", func := "loop.example/turningwheels/laws.FnRow", spec := "fnRow", apart := false }
def FnRowSaid : Prop := fnRowRow.holds Try.pinned (OpenSpec.ofChange fnRowSpec)

/-- ITS FALSE NEIGHBOUR: 'it returns false'. Refute it at one input. -/
def fnRowWrong : ChangeSpec := { name := "fnRow", fn := fun _ => fun
  | [d] => { results := [.lit (.bool false)], args := [d] }
  | _ => none }
def FnRowWrongFalsely : Prop := fnRowRow.holds Try.pinned (OpenSpec.ofChange fnRowWrong)

/-- 'laws.FnRowOf': WHATEVER THE INPUT: true; the input reads as it did. -/
def fnRowOfSpec : ChangeSpec := { name := "fnRowOf", fn := fun _ => fun
  | [d] => { results := [.lit (.bool true)], args := [d] }
  | _ => none }
def fnRowOfRow : OpenClaim := { program := "ytdgbpdeimckbfaa", sum := "09e2afe8220e71e6de268b3aa8ff73f78b3ff4da6af17745d3d0a5f0e7a0bb3d", func := "loop.example/turningwheels/laws.FnRowOf", spec := "fnRowOf", unfollowed := true, recurses := true, apart := false }
def FnRowOfSaid : Prop := fnRowOfRow.holds Try.pinned (OpenSpec.ofChange fnRowOfSpec)

/-- ITS FALSE NEIGHBOUR: 'it returns false'. Refute it at one input. -/
def fnRowOfWrong : ChangeSpec := { name := "fnRowOf", fn := fun _ => fun
  | [d] => { results := [.lit (.bool false)], args := [d] }
  | _ => none }
def FnRowOfWrongFalsely : Prop := fnRowOfRow.holds Try.pinned (OpenSpec.ofChange fnRowOfWrong)

/-- 'laws.FnTransform': WHATEVER THE INPUT: true; the input reads as it did. -/
def fnTransformSpec : ChangeSpec := { name := "fnTransform", fn := fun _ => fun
  | [d] => { results := [.lit (.bool true)], args := [d] }
  | _ => none }
def fnTransformRow : OpenClaim := { program := "ytdgbpdeimckbfaa", sum := "09e2afe8220e71e6de268b3aa8ff73f78b3ff4da6af17745d3d0a5f0e7a0bb3d", func := "loop.example/turningwheels/laws.FnTransform", spec := "fnTransform", unfollowed := true, recurses := true, apart := false }
def FnTransformSaid : Prop := fnTransformRow.holds Try.pinned (OpenSpec.ofChange fnTransformSpec)

/-- ITS FALSE NEIGHBOUR: 'it returns false'. Refute it at one input. -/
def fnTransformWrong : ChangeSpec := { name := "fnTransform", fn := fun _ => fun
  | [d] => { results := [.lit (.bool false)], args := [d] }
  | _ => none }
def FnTransformWrongFalsely : Prop := fnTransformRow.holds Try.pinned (OpenSpec.ofChange fnTransformWrong)

/-- 'laws.FnParseval': WHATEVER THE INPUT: true; the input reads as it did. -/
def fnParsevalSpec : ChangeSpec := { name := "fnParseval", fn := fun _ => fun
  | [d] => { results := [.lit (.bool true)], args := [d] }
  | _ => none }
def fnParsevalRow : OpenClaim := { program := "ytdgbpdeimckbfaa", sum := "09e2afe8220e71e6de268b3aa8ff73f78b3ff4da6af17745d3d0a5f0e7a0bb3d", func := "loop.example/turningwheels/laws.FnParseval", spec := "fnParseval", unfollowed := true, recurses := true, apart := false }
def FnParsevalSaid : Prop := fnParsevalRow.holds Try.pinned (OpenSpec.ofChange fnParsevalSpec)

/-- ITS FALSE NEIGHBOUR: 'it returns false'. Refute it at one input. -/
def fnParsevalWrong : ChangeSpec := { name := "fnParseval", fn := fun _ => fun
  | [d] => { results := [.lit (.bool false)], args := [d] }
  | _ => none }
def FnParsevalWrongFalsely : Prop := fnParsevalRow.holds Try.pinned (OpenSpec.ofChange fnParsevalWrong)

/-- 'laws.FnTransformBack': WHATEVER THE INPUT: true; the input reads as it did. -/
def fnTransformBackSpec : ChangeSpec := { name := "fnTransformBack", fn := fun _ => fun
  | [d] => { results := [.lit (.bool true)], args := [d] }
  | _ => none }
def fnTransformBackRow : OpenClaim := { program := "ytdgbpdeimckbfaa", sum := "09e2afe8220e71e6de268b3aa8ff73f78b3ff4da6af17745d3d0a5f0e7a0bb3d", func := "loop.example/turningwheels/laws.FnTransformBack", spec := "fnTransformBack", unfollowed := true, recurses := true, apart := false }
def FnTransformBackSaid : Prop := fnTransformBackRow.holds Try.pinned (OpenSpec.ofChange fnTransformBackSpec)

/-- ITS FALSE NEIGHBOUR: 'it returns false'. Refute it at one input. -/
def fnTransformBackWrong : ChangeSpec := { name := "fnTransformBack", fn := fun _ => fun
  | [d] => { results := [.lit (.bool false)], args := [d] }
  | _ => none }
def FnTransformBackWrongFalsely : Prop := fnTransformBackRow.holds Try.pinned (OpenSpec.ofChange fnTransformBackWrong)

/-- 'laws.FnShift': WHATEVER THE INPUT: true; the input reads as it did. -/
def fnShiftSpec : ChangeSpec := { name := "fnShift", fn := fun _ => fun
  | [d] => { results := [.lit (.bool true)], args := [d] }
  | _ => none }
def fnShiftRow : OpenClaim := { program := "ytdgbpdeimckbfaa", sum := "09e2afe8220e71e6de268b3aa8ff73f78b3ff4da6af17745d3d0a5f0e7a0bb3d", func := "loop.example/turningwheels/laws.FnShift", spec := "fnShift", unfollowed := true, recurses := true, apart := false }
def FnShiftSaid : Prop := fnShiftRow.holds Try.pinned (OpenSpec.ofChange fnShiftSpec)

/-- ITS FALSE NEIGHBOUR: 'it returns false'. Refute it at one input. -/
def fnShiftWrong : ChangeSpec := { name := "fnShift", fn := fun _ => fun
  | [d] => { results := [.lit (.bool false)], args := [d] }
  | _ => none }
def FnShiftWrongFalsely : Prop := fnShiftRow.holds Try.pinned (OpenSpec.ofChange fnShiftWrong)

/-- 'laws.FnRowTimes': WHATEVER THE INPUT: true; the input reads as it did. -/
def fnRowTimesSpec : ChangeSpec := { name := "fnRowTimes", fn := fun _ => fun
  | [d] => { results := [.lit (.bool true)], args := [d] }
  | _ => none }
def fnRowTimesRow : OpenClaim := { program := "ytdgbpdeimckbfaa", sum := "09e2afe8220e71e6de268b3aa8ff73f78b3ff4da6af17745d3d0a5f0e7a0bb3d", func := "loop.example/turningwheels/laws.FnRowTimes", spec := "fnRowTimes", unfollowed := true, recurses := true, apart := false }
def FnRowTimesSaid : Prop := fnRowTimesRow.holds Try.pinned (OpenSpec.ofChange fnRowTimesSpec)

/-- ITS FALSE NEIGHBOUR: 'it returns false'. Refute it at one input. -/
def fnRowTimesWrong : ChangeSpec := { name := "fnRowTimes", fn := fun _ => fun
  | [d] => { results := [.lit (.bool false)], args := [d] }
  | _ => none }
def FnRowTimesWrongFalsely : Prop := fnRowTimesRow.holds Try.pinned (OpenSpec.ofChange fnRowTimesWrong)

/-- 'laws.FnCircular': WHATEVER THE INPUT: true; the input reads as it did. -/
def fnCircularSpec : ChangeSpec := { name := "fnCircular", fn := fun _ => fun
  | [d] => { results := [.lit (.bool true)], args := [d] }
  | _ => none }
def fnCircularRow : OpenClaim := { program := "ytdgbpdeimckbfaa", sum := "09e2afe8220e71e6de268b3aa8ff73f78b3ff4da6af17745d3d0a5f0e7a0bb3d", func := "loop.example/turningwheels/laws.FnCircular", spec := "fnCircular", unfollowed := true, recurses := true, apart := false }
def FnCircularSaid : Prop := fnCircularRow.holds Try.pinned (OpenSpec.ofChange fnCircularSpec)

/-- ITS FALSE NEIGHBOUR: 'it returns false'. Refute it at one input. -/
def fnCircularWrong : ChangeSpec := { name := "fnCircular", fn := fun _ => fun
  | [d] => { results := [.lit (.bool false)], args := [d] }
  | _ => none }
def FnCircularWrongFalsely : Prop := fnCircularRow.holds Try.pinned (OpenSpec.ofChange fnCircularWrong)

/-- 'laws.FnSquares': WHATEVER THE INPUT: true; the input reads as it did. -/
def fnSquaresSpec : ChangeSpec := { name := "fnSquares", fn := fun _ => fun
  | [d] => { results := [.lit (.bool true)], args := [d] }
  | _ => none }
def fnSquaresRow : OpenClaim := { program := "ytdgbpdeimckbfaa", sum := "09e2afe8220e71e6de268b3aa8ff73f78b3ff4da6af17745d3d0a5f0e7a0bb3d", func := "loop.example/turningwheels/laws.FnSquares", spec := "fnSquares", unfollowed := true, recurses := true, apart := false }
def FnSquaresSaid : Prop := fnSquaresRow.holds Try.pinned (OpenSpec.ofChange fnSquaresSpec)

/-- ITS FALSE NEIGHBOUR: 'it returns false'. Refute it at one input. -/
def fnSquaresWrong : ChangeSpec := { name := "fnSquares", fn := fun _ => fun
  | [d] => { results := [.lit (.bool false)], args := [d] }
  | _ => none }
def FnSquaresWrongFalsely : Prop := fnSquaresRow.holds Try.pinned (OpenSpec.ofChange fnSquaresWrong)

/-- 'laws.FnRowDesign': WHATEVER THE INPUT: true; the input reads as it did. -/
def fnRowDesignSpec : ChangeSpec := { name := "fnRowDesign", fn := fun _ => fun
  | [d] => { results := [.lit (.bool true)], args := [d] }
  | _ => none }
def fnRowDesignRow : OpenClaim := { program := "ytdgbpdeimckbfaa", sum := "09e2afe8220e71e6de268b3aa8ff73f78b3ff4da6af17745d3d0a5f0e7a0bb3d", func := "loop.example/turningwheels/laws.FnRowDesign", spec := "fnRowDesign", unfollowed := true, recurses := true, apart := false }
def FnRowDesignSaid : Prop := fnRowDesignRow.holds Try.pinned (OpenSpec.ofChange fnRowDesignSpec)

/-- ITS FALSE NEIGHBOUR: 'it returns false'. Refute it at one input. -/
def fnRowDesignWrong : ChangeSpec := { name := "fnRowDesign", fn := fun _ => fun
  | [d] => { results := [.lit (.bool false)], args := [d] }
  | _ => none }
def FnRowDesignWrongFalsely : Prop := fnRowDesignRow.holds Try.pinned (OpenSpec.ofChange fnRowDesignWrong)

/-- 'laws.FnExactRowValid': WHATEVER THE INPUT: true; the input reads as it did. -/
def fnExactRowValidSpec : ChangeSpec := { name := "fnExactRowValid", fn := fun _ => fun
  | [d] => { results := [.lit (.bool true)], args := [d] }
  | _ => none }
def fnExactRowValidRow : OpenClaim := { program := "ytdgbpdeimckbfaa", sum := "09e2afe8220e71e6de268b3aa8ff73f78b3ff4da6af17745d3d0a5f0e7a0bb3d", func := "loop.example/turningwheels/laws.FnExactRowValid", spec := "fnExactRowValid", apart := false }
def FnExactRowValidSaid : Prop := fnExactRowValidRow.holds Try.pinned (OpenSpec.ofChange fnExactRowValidSpec)

/-- ITS FALSE NEIGHBOUR: 'it returns false'. Refute it at one input. -/
def fnExactRowValidWrong : ChangeSpec := { name := "fnExactRowValid", fn := fun _ => fun
  | [d] => { results := [.lit (.bool false)], args := [d] }
  | _ => none }
def FnExactRowValidWrongFalsely : Prop := fnExactRowValidRow.holds Try.pinned (OpenSpec.ofChange fnExactRowValidWrong)

/-- 'laws.FnExactRowOf': WHATEVER THE INPUT: true; the input reads as it did. -/
def fnExactRowOfSpec : ChangeSpec := { name := "fnExactRowOf", fn := fun _ => fun
  | [d1, d2] => { results := [.lit (.bool true)], args := [d1, d2] }
  | _ => none }
def fnExactRowOfRow : OpenClaim := { program := "ytdgbpdeimckbfaa", sum := "09e2afe8220e71e6de268b3aa8ff73f78b3ff4da6af17745d3d0a5f0e7a0bb3d", func := "loop.example/turningwheels/laws.FnExactRowOf", spec := "fnExactRowOf", apart := false }
def FnExactRowOfSaid : Prop := fnExactRowOfRow.holds Try.pinned (OpenSpec.ofChange fnExactRowOfSpec)

/-- ITS FALSE NEIGHBOUR: 'it returns false'. Refute it at one input. -/
def fnExactRowOfWrong : ChangeSpec := { name := "fnExactRowOf", fn := fun _ => fun
  | [d1, d2] => { results := [.lit (.bool false)], args := [d1, d2] }
  | _ => none }
def FnExactRowOfWrongFalsely : Prop := fnExactRowOfRow.holds Try.pinned (OpenSpec.ofChange fnExactRowOfWrong)

/-- 'laws.FnExactTransformOf': WHATEVER THE INPUT: true; the input reads as it did. -/
def fnExactTransformOfSpec : ChangeSpec := { name := "fnExactTransformOf", fn := fun _ => fun
  | [d] => { results := [.lit (.bool true)], args := [d] }
  | _ => none }
def fnExactTransformOfRow : OpenClaim := { program := "ytdgbpdeimckbfaa", sum := "09e2afe8220e71e6de268b3aa8ff73f78b3ff4da6af17745d3d0a5f0e7a0bb3d", func := "loop.example/turningwheels/laws.FnExactTransformOf", spec := "fnExactTransformOf", unfollowed := true, recurses := true, apart := false }
def FnExactTransformOfSaid : Prop := fnExactTransformOfRow.holds Try.pinned (OpenSpec.ofChange fnExactTransformOfSpec)

/-- ITS FALSE NEIGHBOUR: 'it returns false'. Refute it at one input. -/
def fnExactTransformOfWrong : ChangeSpec := { name := "fnExactTransformOf", fn := fun _ => fun
  | [d] => { results := [.lit (.bool false)], args := [d] }
  | _ => none }
def FnExactTransformOfWrongFalsely : Prop := fnExactTransformOfRow.holds Try.pinned (OpenSpec.ofChange fnExactTransformOfWrong)

/-- 'laws.FnExactTransformBack': WHATEVER THE INPUT: true; the input reads as it did. -/
def fnExactTransformBackSpec : ChangeSpec := { name := "fnExactTransformBack", fn := fun _ => fun
  | [d] => { results := [.lit (.bool true)], args := [d] }
  | _ => none }
def fnExactTransformBackRow : OpenClaim := { program := "ytdgbpdeimckbfaa", sum := "09e2afe8220e71e6de268b3aa8ff73f78b3ff4da6af17745d3d0a5f0e7a0bb3d", func := "loop.example/turningwheels/laws.FnExactTransformBack", spec := "fnExactTransformBack", unfollowed := true, recurses := true, apart := false }
def FnExactTransformBackSaid : Prop := fnExactTransformBackRow.holds Try.pinned (OpenSpec.ofChange fnExactTransformBackSpec)

/-- ITS FALSE NEIGHBOUR: 'it returns false'. Refute it at one input. -/
def fnExactTransformBackWrong : ChangeSpec := { name := "fnExactTransformBack", fn := fun _ => fun
  | [d] => { results := [.lit (.bool false)], args := [d] }
  | _ => none }
def FnExactTransformBackWrongFalsely : Prop := fnExactTransformBackRow.holds Try.pinned (OpenSpec.ofChange fnExactTransformBackWrong)

/-- 'laws.FnExactRowShift': WHATEVER THE INPUT: true; the input reads as it did. -/
def fnExactRowShiftSpec : ChangeSpec := { name := "fnExactRowShift", fn := fun _ => fun
  | [d1, d2] => { results := [.lit (.bool true)], args := [d1, d2] }
  | _ => none }
def fnExactRowShiftRow : OpenClaim := { program := "ytdgbpdeimckbfaa", sum := "09e2afe8220e71e6de268b3aa8ff73f78b3ff4da6af17745d3d0a5f0e7a0bb3d", func := "loop.example/turningwheels/laws.FnExactRowShift", spec := "fnExactRowShift", apart := false }
def FnExactRowShiftSaid : Prop := fnExactRowShiftRow.holds Try.pinned (OpenSpec.ofChange fnExactRowShiftSpec)

/-- ITS FALSE NEIGHBOUR: 'it returns false'. Refute it at one input. -/
def fnExactRowShiftWrong : ChangeSpec := { name := "fnExactRowShift", fn := fun _ => fun
  | [d1, d2] => { results := [.lit (.bool false)], args := [d1, d2] }
  | _ => none }
def FnExactRowShiftWrongFalsely : Prop := fnExactRowShiftRow.holds Try.pinned (OpenSpec.ofChange fnExactRowShiftWrong)

/-- 'laws.FnExactRowTimes': WHATEVER THE INPUT: true; the input reads as it did. -/
def fnExactRowTimesSpec : ChangeSpec := { name := "fnExactRowTimes", fn := fun _ => fun
  | [d1, d2] => { results := [.lit (.bool true)], args := [d1, d2] }
  | _ => none }
def fnExactRowTimesRow : OpenClaim := { program := "ytdgbpdeimckbfaa", sum := "09e2afe8220e71e6de268b3aa8ff73f78b3ff4da6af17745d3d0a5f0e7a0bb3d", func := "loop.example/turningwheels/laws.FnExactRowTimes", spec := "fnExactRowTimes", unfollowed := true, recurses := true, apart := false }
def FnExactRowTimesSaid : Prop := fnExactRowTimesRow.holds Try.pinned (OpenSpec.ofChange fnExactRowTimesSpec)

/-- ITS FALSE NEIGHBOUR: 'it returns false'. Refute it at one input. -/
def fnExactRowTimesWrong : ChangeSpec := { name := "fnExactRowTimes", fn := fun _ => fun
  | [d1, d2] => { results := [.lit (.bool false)], args := [d1, d2] }
  | _ => none }
def FnExactRowTimesWrongFalsely : Prop := fnExactRowTimesRow.holds Try.pinned (OpenSpec.ofChange fnExactRowTimesWrong)

/-- 'laws.FnExactRowCircular': WHATEVER THE INPUT: true; the input reads as it did. -/
def fnExactRowCircularSpec : ChangeSpec := { name := "fnExactRowCircular", fn := fun _ => fun
  | [d1, d2] => { results := [.lit (.bool true)], args := [d1, d2] }
  | _ => none }
def fnExactRowCircularRow : OpenClaim := { program := "ytdgbpdeimckbfaa", sum := "09e2afe8220e71e6de268b3aa8ff73f78b3ff4da6af17745d3d0a5f0e7a0bb3d", func := "loop.example/turningwheels/laws.FnExactRowCircular", spec := "fnExactRowCircular", unfollowed := true, recurses := true, apart := false }
def FnExactRowCircularSaid : Prop := fnExactRowCircularRow.holds Try.pinned (OpenSpec.ofChange fnExactRowCircularSpec)

/-- ITS FALSE NEIGHBOUR: 'it returns false'. Refute it at one input. -/
def fnExactRowCircularWrong : ChangeSpec := { name := "fnExactRowCircular", fn := fun _ => fun
  | [d1, d2] => { results := [.lit (.bool false)], args := [d1, d2] }
  | _ => none }
def FnExactRowCircularWrongFalsely : Prop := fnExactRowCircularRow.holds Try.pinned (OpenSpec.ofChange fnExactRowCircularWrong)

/-- 'laws.FnExactRowSquares': WHATEVER THE INPUT: true; the input reads as it did. -/
def fnExactRowSquaresSpec : ChangeSpec := { name := "fnExactRowSquares", fn := fun _ => fun
  | [d] => { results := [.lit (.bool true)], args := [d] }
  | _ => none }
def fnExactRowSquaresRow : OpenClaim := { program := "ytdgbpdeimckbfaa", sum := "09e2afe8220e71e6de268b3aa8ff73f78b3ff4da6af17745d3d0a5f0e7a0bb3d", func := "loop.example/turningwheels/laws.FnExactRowSquares", spec := "fnExactRowSquares", unfollowed := true, recurses := true, apart := false }
def FnExactRowSquaresSaid : Prop := fnExactRowSquaresRow.holds Try.pinned (OpenSpec.ofChange fnExactRowSquaresSpec)

/-- ITS FALSE NEIGHBOUR: 'it returns false'. Refute it at one input. -/
def fnExactRowSquaresWrong : ChangeSpec := { name := "fnExactRowSquares", fn := fun _ => fun
  | [d] => { results := [.lit (.bool false)], args := [d] }
  | _ => none }
def FnExactRowSquaresWrongFalsely : Prop := fnExactRowSquaresRow.holds Try.pinned (OpenSpec.ofChange fnExactRowSquaresWrong)

/-- 'laws.FnExactRowDesign': WHATEVER THE INPUT: true; the input reads as it did. -/
def fnExactRowDesignSpec : ChangeSpec := { name := "fnExactRowDesign", fn := fun _ => fun
  | [d] => { results := [.lit (.bool true)], args := [d] }
  | _ => none }
def fnExactRowDesignRow : OpenClaim := { program := "ytdgbpdeimckbfaa", sum := "09e2afe8220e71e6de268b3aa8ff73f78b3ff4da6af17745d3d0a5f0e7a0bb3d", func := "loop.example/turningwheels/laws.FnExactRowDesign", spec := "fnExactRowDesign", unfollowed := true, recurses := true, apart := false }
def FnExactRowDesignSaid : Prop := fnExactRowDesignRow.holds Try.pinned (OpenSpec.ofChange fnExactRowDesignSpec)

/-- ITS FALSE NEIGHBOUR: 'it returns false'. Refute it at one input. -/
def fnExactRowDesignWrong : ChangeSpec := { name := "fnExactRowDesign", fn := fun _ => fun
  | [d] => { results := [.lit (.bool false)], args := [d] }
  | _ => none }
def FnExactRowDesignWrongFalsely : Prop := fnExactRowDesignRow.holds Try.pinned (OpenSpec.ofChange fnExactRowDesignWrong)

/- THE SECOND FORM. 'bulk': how many values and letters a reading holds, each counted each time it is reached (what is shared counts as often as it is met; a slice's spare places count too). A statement '..UptoSaid' is the law's where the arguments, and the package variables that the reading takes, are together of bulk at most 1048576: NARROWER than '..Said'. Prove '..Said' where nothing that the law and all that it calls make is longer than what came in: it says more and counts as full. Else prove '..UptoSaid'. A law counts once. -/
mutual
def uptoBulk {H : Type} : DataW H → Nat
  | .lit (.string bytes) => bytes.length + 1
  | .lit _ => 1
  | .nil => 1
  | .ptr d => uptoBulk d + 1
  | .slice elems spare => uptoBulkAll elems + uptoBulkAll spare + 1
  | .agg parts => uptoBulkAll parts + 1
  | .iface _ d => uptoBulk d + 1
  | .map entries => uptoBulkEntries entries + 1
  | .held _ => 1
def uptoBulkAll {H : Type} : List (DataW H) → Nat
  | [] => 0
  | d :: r => uptoBulk d + uptoBulkAll r
def uptoBulkEntries {H : Type} : List (Lit × DataW H) → Nat
  | [] => 0
  | x :: r => uptoBulkEntry x + uptoBulkEntries r
def uptoBulkEntry {H : Type} : Lit × DataW H → Nat
  | (.string bytes, d) => bytes.length + uptoBulk d + 1
  | (_, d) => uptoBulk d + 1
 end
def uptoSmall : (H : Type) → List (DataW H) → Bool := fun _ ds => decide (uptoBulkAll ds ≤ 1048576)
def OpenSpec.upto (s : _root_.Go.ChangeSpec) : _root_.Go.OpenSpec := { _root_.Go.OpenSpec.ofChange s with cond := some uptoSmall }

/-- 'laws.FnRow', WHERE WHAT IT READS IS OF BULK AT MOST 1048576: true; the input reads as it did. -/
def fnRowUptoRow : OpenClaim := { program := "ytdgbpdeimckbfaa", sum := "09e2afe8220e71e6de268b3aa8ff73f78b3ff4da6af17745d3d0a5f0e7a0bb3d", func := "loop.example/turningwheels/laws.FnRow", spec := "fnRow", apart := false, narrowed := true }
def FnRowUptoSaid : Prop := fnRowUptoRow.holds Try.pinned (OpenSpec.upto fnRowSpec)

/-- 'laws.FnRowOf', WHERE WHAT IT READS IS OF BULK AT MOST 1048576: true; the input reads as it did. -/
def fnRowOfUptoRow : OpenClaim := { program := "ytdgbpdeimckbfaa", sum := "09e2afe8220e71e6de268b3aa8ff73f78b3ff4da6af17745d3d0a5f0e7a0bb3d", func := "loop.example/turningwheels/laws.FnRowOf", spec := "fnRowOf", unfollowed := true, recurses := true, apart := false, narrowed := true }
def FnRowOfUptoSaid : Prop := fnRowOfUptoRow.holds Try.pinned (OpenSpec.upto fnRowOfSpec)

/-- 'laws.FnTransform', WHERE WHAT IT READS IS OF BULK AT MOST 1048576: true; the input reads as it did. -/
def fnTransformUptoRow : OpenClaim := { program := "ytdgbpdeimckbfaa", sum := "09e2afe8220e71e6de268b3aa8ff73f78b3ff4da6af17745d3d0a5f0e7a0bb3d", func := "loop.example/turningwheels/laws.FnTransform", spec := "fnTransform", unfollowed := true, recurses := true, apart := false, narrowed := true }
def FnTransformUptoSaid : Prop := fnTransformUptoRow.holds Try.pinned (OpenSpec.upto fnTransformSpec)

/-- 'laws.FnParseval', WHERE WHAT IT READS IS OF BULK AT MOST 1048576: true; the input reads as it did. -/
def fnParsevalUptoRow : OpenClaim := { program := "ytdgbpdeimckbfaa", sum := "09e2afe8220e71e6de268b3aa8ff73f78b3ff4da6af17745d3d0a5f0e7a0bb3d", func := "loop.example/turningwheels/laws.FnParseval", spec := "fnParseval", unfollowed := true, recurses := true, apart := false, narrowed := true }
def FnParsevalUptoSaid : Prop := fnParsevalUptoRow.holds Try.pinned (OpenSpec.upto fnParsevalSpec)

/-- 'laws.FnTransformBack', WHERE WHAT IT READS IS OF BULK AT MOST 1048576: true; the input reads as it did. -/
def fnTransformBackUptoRow : OpenClaim := { program := "ytdgbpdeimckbfaa", sum := "09e2afe8220e71e6de268b3aa8ff73f78b3ff4da6af17745d3d0a5f0e7a0bb3d", func := "loop.example/turningwheels/laws.FnTransformBack", spec := "fnTransformBack", unfollowed := true, recurses := true, apart := false, narrowed := true }
def FnTransformBackUptoSaid : Prop := fnTransformBackUptoRow.holds Try.pinned (OpenSpec.upto fnTransformBackSpec)

/-- 'laws.FnShift', WHERE WHAT IT READS IS OF BULK AT MOST 1048576: true; the input reads as it did. -/
def fnShiftUptoRow : OpenClaim := { program := "ytdgbpdeimckbfaa", sum := "09e2afe8220e71e6de268b3aa8ff73f78b3ff4da6af17745d3d0a5f0e7a0bb3d", func := "loop.example/turningwheels/laws.FnShift", spec := "fnShift", unfollowed := true, recurses := true, apart := false, narrowed := true }
def FnShiftUptoSaid : Prop := fnShiftUptoRow.holds Try.pinned (OpenSpec.upto fnShiftSpec)

/-- 'laws.FnRowTimes', WHERE WHAT IT READS IS OF BULK AT MOST 1048576: true; the input reads as it did. -/
def fnRowTimesUptoRow : OpenClaim := { program := "ytdgbpdeimckbfaa", sum := "09e2afe8220e71e6de268b3aa8ff73f78b3ff4da6af17745d3d0a5f0e7a0bb3d", func := "loop.example/turningwheels/laws.FnRowTimes", spec := "fnRowTimes", unfollowed := true, recurses := true, apart := false, narrowed := true }
def FnRowTimesUptoSaid : Prop := fnRowTimesUptoRow.holds Try.pinned (OpenSpec.upto fnRowTimesSpec)

/-- 'laws.FnCircular', WHERE WHAT IT READS IS OF BULK AT MOST 1048576: true; the input reads as it did. -/
def fnCircularUptoRow : OpenClaim := { program := "ytdgbpdeimckbfaa", sum := "09e2afe8220e71e6de268b3aa8ff73f78b3ff4da6af17745d3d0a5f0e7a0bb3d", func := "loop.example/turningwheels/laws.FnCircular", spec := "fnCircular", unfollowed := true, recurses := true, apart := false, narrowed := true }
def FnCircularUptoSaid : Prop := fnCircularUptoRow.holds Try.pinned (OpenSpec.upto fnCircularSpec)

/-- 'laws.FnSquares', WHERE WHAT IT READS IS OF BULK AT MOST 1048576: true; the input reads as it did. -/
def fnSquaresUptoRow : OpenClaim := { program := "ytdgbpdeimckbfaa", sum := "09e2afe8220e71e6de268b3aa8ff73f78b3ff4da6af17745d3d0a5f0e7a0bb3d", func := "loop.example/turningwheels/laws.FnSquares", spec := "fnSquares", unfollowed := true, recurses := true, apart := false, narrowed := true }
def FnSquaresUptoSaid : Prop := fnSquaresUptoRow.holds Try.pinned (OpenSpec.upto fnSquaresSpec)

/-- 'laws.FnRowDesign', WHERE WHAT IT READS IS OF BULK AT MOST 1048576: true; the input reads as it did. -/
def fnRowDesignUptoRow : OpenClaim := { program := "ytdgbpdeimckbfaa", sum := "09e2afe8220e71e6de268b3aa8ff73f78b3ff4da6af17745d3d0a5f0e7a0bb3d", func := "loop.example/turningwheels/laws.FnRowDesign", spec := "fnRowDesign", unfollowed := true, recurses := true, apart := false, narrowed := true }
def FnRowDesignUptoSaid : Prop := fnRowDesignUptoRow.holds Try.pinned (OpenSpec.upto fnRowDesignSpec)

/-- 'laws.FnExactRowValid', WHERE WHAT IT READS IS OF BULK AT MOST 1048576: true; the input reads as it did. -/
def fnExactRowValidUptoRow : OpenClaim := { program := "ytdgbpdeimckbfaa", sum := "09e2afe8220e71e6de268b3aa8ff73f78b3ff4da6af17745d3d0a5f0e7a0bb3d", func := "loop.example/turningwheels/laws.FnExactRowValid", spec := "fnExactRowValid", apart := false, narrowed := true }
def FnExactRowValidUptoSaid : Prop := fnExactRowValidUptoRow.holds Try.pinned (OpenSpec.upto fnExactRowValidSpec)

/-- 'laws.FnExactRowOf', WHERE WHAT IT READS IS OF BULK AT MOST 1048576: true; the input reads as it did. -/
def fnExactRowOfUptoRow : OpenClaim := { program := "ytdgbpdeimckbfaa", sum := "09e2afe8220e71e6de268b3aa8ff73f78b3ff4da6af17745d3d0a5f0e7a0bb3d", func := "loop.example/turningwheels/laws.FnExactRowOf", spec := "fnExactRowOf", apart := false, narrowed := true }
def FnExactRowOfUptoSaid : Prop := fnExactRowOfUptoRow.holds Try.pinned (OpenSpec.upto fnExactRowOfSpec)

/-- 'laws.FnExactTransformOf', WHERE WHAT IT READS IS OF BULK AT MOST 1048576: true; the input reads as it did. -/
def fnExactTransformOfUptoRow : OpenClaim := { program := "ytdgbpdeimckbfaa", sum := "09e2afe8220e71e6de268b3aa8ff73f78b3ff4da6af17745d3d0a5f0e7a0bb3d", func := "loop.example/turningwheels/laws.FnExactTransformOf", spec := "fnExactTransformOf", unfollowed := true, recurses := true, apart := false, narrowed := true }
def FnExactTransformOfUptoSaid : Prop := fnExactTransformOfUptoRow.holds Try.pinned (OpenSpec.upto fnExactTransformOfSpec)

/-- 'laws.FnExactTransformBack', WHERE WHAT IT READS IS OF BULK AT MOST 1048576: true; the input reads as it did. -/
def fnExactTransformBackUptoRow : OpenClaim := { program := "ytdgbpdeimckbfaa", sum := "09e2afe8220e71e6de268b3aa8ff73f78b3ff4da6af17745d3d0a5f0e7a0bb3d", func := "loop.example/turningwheels/laws.FnExactTransformBack", spec := "fnExactTransformBack", unfollowed := true, recurses := true, apart := false, narrowed := true }
def FnExactTransformBackUptoSaid : Prop := fnExactTransformBackUptoRow.holds Try.pinned (OpenSpec.upto fnExactTransformBackSpec)

/-- 'laws.FnExactRowShift', WHERE WHAT IT READS IS OF BULK AT MOST 1048576: true; the input reads as it did. -/
def fnExactRowShiftUptoRow : OpenClaim := { program := "ytdgbpdeimckbfaa", sum := "09e2afe8220e71e6de268b3aa8ff73f78b3ff4da6af17745d3d0a5f0e7a0bb3d", func := "loop.example/turningwheels/laws.FnExactRowShift", spec := "fnExactRowShift", apart := false, narrowed := true }
def FnExactRowShiftUptoSaid : Prop := fnExactRowShiftUptoRow.holds Try.pinned (OpenSpec.upto fnExactRowShiftSpec)

/-- 'laws.FnExactRowTimes', WHERE WHAT IT READS IS OF BULK AT MOST 1048576: true; the input reads as it did. -/
def fnExactRowTimesUptoRow : OpenClaim := { program := "ytdgbpdeimckbfaa", sum := "09e2afe8220e71e6de268b3aa8ff73f78b3ff4da6af17745d3d0a5f0e7a0bb3d", func := "loop.example/turningwheels/laws.FnExactRowTimes", spec := "fnExactRowTimes", unfollowed := true, recurses := true, apart := false, narrowed := true }
def FnExactRowTimesUptoSaid : Prop := fnExactRowTimesUptoRow.holds Try.pinned (OpenSpec.upto fnExactRowTimesSpec)

/-- 'laws.FnExactRowCircular', WHERE WHAT IT READS IS OF BULK AT MOST 1048576: true; the input reads as it did. -/
def fnExactRowCircularUptoRow : OpenClaim := { program := "ytdgbpdeimckbfaa", sum := "09e2afe8220e71e6de268b3aa8ff73f78b3ff4da6af17745d3d0a5f0e7a0bb3d", func := "loop.example/turningwheels/laws.FnExactRowCircular", spec := "fnExactRowCircular", unfollowed := true, recurses := true, apart := false, narrowed := true }
def FnExactRowCircularUptoSaid : Prop := fnExactRowCircularUptoRow.holds Try.pinned (OpenSpec.upto fnExactRowCircularSpec)

/-- 'laws.FnExactRowSquares', WHERE WHAT IT READS IS OF BULK AT MOST 1048576: true; the input reads as it did. -/
def fnExactRowSquaresUptoRow : OpenClaim := { program := "ytdgbpdeimckbfaa", sum := "09e2afe8220e71e6de268b3aa8ff73f78b3ff4da6af17745d3d0a5f0e7a0bb3d", func := "loop.example/turningwheels/laws.FnExactRowSquares", spec := "fnExactRowSquares", unfollowed := true, recurses := true, apart := false, narrowed := true }
def FnExactRowSquaresUptoSaid : Prop := fnExactRowSquaresUptoRow.holds Try.pinned (OpenSpec.upto fnExactRowSquaresSpec)

/-- 'laws.FnExactRowDesign', WHERE WHAT IT READS IS OF BULK AT MOST 1048576: true; the input reads as it did. -/
def fnExactRowDesignUptoRow : OpenClaim := { program := "ytdgbpdeimckbfaa", sum := "09e2afe8220e71e6de268b3aa8ff73f78b3ff4da6af17745d3d0a5f0e7a0bb3d", func := "loop.example/turningwheels/laws.FnExactRowDesign", spec := "fnExactRowDesign", unfollowed := true, recurses := true, apart := false, narrowed := true }
def FnExactRowDesignUptoSaid : Prop := fnExactRowDesignUptoRow.holds Try.pinned (OpenSpec.upto fnExactRowDesignSpec)

end Rows
end Go.Proofs.Ytdgbpdeimckbfaa
