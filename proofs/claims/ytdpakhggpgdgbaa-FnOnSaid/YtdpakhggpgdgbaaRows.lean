/-
  No cell of these rows narrows 'for every input' (looked for: loops, veiled, ifaces, maps, wideKeys, modest, calm, conditions, laid).
  DERIVED. THE GIVEN ROWS OF THIS SEAT. 16 by the template 'for every input the law returns true; each argument reads behind the call as it read before'; 0 by the template 'total and deterministic' (their statements: YtdpakhggpgdgbaaTotals.lean).
  GIVEN WITH THE SEED: the statements are not yours to turn. If you find one false, say at which input.
  Laid BY PROGRAM, IN A SANDBOX (cutbox-rows.mjs): the forced cells as the released guide's own fill.sh prints them over the translation a8c783c9dd892fda… (all of the seat's roots in one cut). By AI agents, Wed Nov 11 2026. No macro, syntax, notation, axiom, sorry.
-/
import Derived.Test.YtdpakhggpgdgbaaChecked
import GoSem.Claim
import GoSem.ClaimJoined
import GoSem.ClaimMapViews
import Derived.JoinedTies
import Derived.KernelRfl
namespace Go.Proofs.Ytdpakhggpgdgbaa
/- THE CELL 'sum', in the pinned program and in every row, IS THE sha256 OF THE DUMP (.gsa) THAT YtdpakhggpgdgbaaProg.lean LOADS. Nothing in Lean hashes anything: it is a label: what it is worth is what the hold of that sum in a sandbox is worth. -/
noncomputable def Try.pinned : Pinned := { name := "ytdpakhggpgdgbaa", sum := "a8c783c9dd892fdac9f1aeca0892410cb51d3ba7b87eac32c0e0f3f9824b7702", checked := Try.checked }
namespace Rows
def none {H : Type} : Left H := { results := [], args := [] }

/-- 'laws.FnPoly': WHATEVER THE INPUT: true; the input reads as it did. -/
def fnPolySpec : ChangeSpec := { name := "fnPoly", fn := fun _ => fun
  | [d] => { results := [.lit (.bool true)], args := [d] }
  | _ => none }
def fnPolyRow : OpenClaim := { program := "ytdpakhggpgdgbaa", sum := "a8c783c9dd892fdac9f1aeca0892410cb51d3ba7b87eac32c0e0f3f9824b7702", func := "loop.example/turningwheels/laws.FnPoly", spec := "fnPoly", unfollowed := true, recurses := true, apart := false }
def FnPolySaid : Prop := fnPolyRow.holds Try.pinned (OpenSpec.ofChange fnPolySpec)

/-- ITS FALSE NEIGHBOUR: 'it returns false'. Refute it at one input. -/
def fnPolyWrong : ChangeSpec := { name := "fnPoly", fn := fun _ => fun
  | [d] => { results := [.lit (.bool false)], args := [d] }
  | _ => none }
def FnPolyWrongFalsely : Prop := fnPolyRow.holds Try.pinned (OpenSpec.ofChange fnPolyWrong)

/-- 'laws.FnCross': WHATEVER THE INPUT: true; the input reads as it did. -/
def fnCrossSpec : ChangeSpec := { name := "fnCross", fn := fun _ => fun
  | [d] => { results := [.lit (.bool true)], args := [d] }
  | _ => none }
def fnCrossRow : OpenClaim := { program := "ytdpakhggpgdgbaa", sum := "a8c783c9dd892fdac9f1aeca0892410cb51d3ba7b87eac32c0e0f3f9824b7702", func := "loop.example/turningwheels/laws.FnCross", spec := "fnCross", apart := false }
def FnCrossSaid : Prop := fnCrossRow.holds Try.pinned (OpenSpec.ofChange fnCrossSpec)

/-- ITS FALSE NEIGHBOUR: 'it returns false'. Refute it at one input. -/
def fnCrossWrong : ChangeSpec := { name := "fnCross", fn := fun _ => fun
  | [d] => { results := [.lit (.bool false)], args := [d] }
  | _ => none }
def FnCrossWrongFalsely : Prop := fnCrossRow.holds Try.pinned (OpenSpec.ofChange fnCrossWrong)

/-- 'laws.FnArea': WHATEVER THE INPUT: true; the input reads as it did. -/
def fnAreaSpec : ChangeSpec := { name := "fnArea", fn := fun _ => fun
  | [d] => { results := [.lit (.bool true)], args := [d] }
  | _ => none }
def fnAreaRow : OpenClaim := { program := "ytdpakhggpgdgbaa", sum := "a8c783c9dd892fdac9f1aeca0892410cb51d3ba7b87eac32c0e0f3f9824b7702", func := "loop.example/turningwheels/laws.FnArea", spec := "fnArea", unfollowed := true, recurses := true, apart := false }
def FnAreaSaid : Prop := fnAreaRow.holds Try.pinned (OpenSpec.ofChange fnAreaSpec)

/-- ITS FALSE NEIGHBOUR: 'it returns false'. Refute it at one input. -/
def fnAreaWrong : ChangeSpec := { name := "fnArea", fn := fun _ => fun
  | [d] => { results := [.lit (.bool false)], args := [d] }
  | _ => none }
def FnAreaWrongFalsely : Prop := fnAreaRow.holds Try.pinned (OpenSpec.ofChange fnAreaWrong)

/-- 'laws.FnBends': WHATEVER THE INPUT: true; the input reads as it did. -/
def fnBendsSpec : ChangeSpec := { name := "fnBends", fn := fun _ => fun
  | [d] => { results := [.lit (.bool true)], args := [d] }
  | _ => none }
def fnBendsRow : OpenClaim := { program := "ytdpakhggpgdgbaa", sum := "a8c783c9dd892fdac9f1aeca0892410cb51d3ba7b87eac32c0e0f3f9824b7702", func := "loop.example/turningwheels/laws.FnBends", spec := "fnBends", unfollowed := true, recurses := true, apart := false }
def FnBendsSaid : Prop := fnBendsRow.holds Try.pinned (OpenSpec.ofChange fnBendsSpec)

/-- ITS FALSE NEIGHBOUR: 'it returns false'. Refute it at one input. -/
def fnBendsWrong : ChangeSpec := { name := "fnBends", fn := fun _ => fun
  | [d] => { results := [.lit (.bool false)], args := [d] }
  | _ => none }
def FnBendsWrongFalsely : Prop := fnBendsRow.holds Try.pinned (OpenSpec.ofChange fnBendsWrong)

/-- 'laws.FnTurns': WHATEVER THE INPUT: true; the input reads as it did. -/
def fnTurnsSpec : ChangeSpec := { name := "fnTurns", fn := fun _ => fun
  | [d] => { results := [.lit (.bool true)], args := [d] }
  | _ => none }
def fnTurnsRow : OpenClaim := { program := "ytdpakhggpgdgbaa", sum := "a8c783c9dd892fdac9f1aeca0892410cb51d3ba7b87eac32c0e0f3f9824b7702", func := "loop.example/turningwheels/laws.FnTurns", spec := "fnTurns", unfollowed := true, recurses := true, apart := false }
def FnTurnsSaid : Prop := fnTurnsRow.holds Try.pinned (OpenSpec.ofChange fnTurnsSpec)

/-- ITS FALSE NEIGHBOUR: 'it returns false'. Refute it at one input. -/
def fnTurnsWrong : ChangeSpec := { name := "fnTurns", fn := fun _ => fun
  | [d] => { results := [.lit (.bool false)], args := [d] }
  | _ => none }
def FnTurnsWrongFalsely : Prop := fnTurnsRow.holds Try.pinned (OpenSpec.ofChange fnTurnsWrong)

/-- 'laws.FnOn': WHATEVER THE INPUT: true; the input reads as it did. -/
def fnOnSpec : ChangeSpec := { name := "fnOn", fn := fun _ => fun
  | [d] => { results := [.lit (.bool true)], args := [d] }
  | _ => none }
def fnOnRow : OpenClaim := { program := "ytdpakhggpgdgbaa", sum := "a8c783c9dd892fdac9f1aeca0892410cb51d3ba7b87eac32c0e0f3f9824b7702", func := "loop.example/turningwheels/laws.FnOn", spec := "fnOn", unfollowed := true, recurses := true, apart := false }
def FnOnSaid : Prop := fnOnRow.holds Try.pinned (OpenSpec.ofChange fnOnSpec)

/-- ITS FALSE NEIGHBOUR: 'it returns false'. Refute it at one input. -/
def fnOnWrong : ChangeSpec := { name := "fnOn", fn := fun _ => fun
  | [d] => { results := [.lit (.bool false)], args := [d] }
  | _ => none }
def FnOnWrongFalsely : Prop := fnOnRow.holds Try.pinned (OpenSpec.ofChange fnOnWrong)

/-- 'laws.FnPolyBack': WHATEVER THE INPUT: true; the input reads as it did. -/
def fnPolyBackSpec : ChangeSpec := { name := "fnPolyBack", fn := fun _ => fun
  | [d] => { results := [.lit (.bool true)], args := [d] }
  | _ => none }
def fnPolyBackRow : OpenClaim := { program := "ytdpakhggpgdgbaa", sum := "a8c783c9dd892fdac9f1aeca0892410cb51d3ba7b87eac32c0e0f3f9824b7702", func := "loop.example/turningwheels/laws.FnPolyBack", spec := "fnPolyBack", apart := false }
def FnPolyBackSaid : Prop := fnPolyBackRow.holds Try.pinned (OpenSpec.ofChange fnPolyBackSpec)

/-- ITS FALSE NEIGHBOUR: 'it returns false'. Refute it at one input. -/
def fnPolyBackWrong : ChangeSpec := { name := "fnPolyBack", fn := fun _ => fun
  | [d] => { results := [.lit (.bool false)], args := [d] }
  | _ => none }
def FnPolyBackWrongFalsely : Prop := fnPolyBackRow.holds Try.pinned (OpenSpec.ofChange fnPolyBackWrong)

/-- 'laws.FnExactPolyValid': WHATEVER THE INPUT: true; the input reads as it did. -/
def fnExactPolyValidSpec : ChangeSpec := { name := "fnExactPolyValid", fn := fun _ => fun
  | [d] => { results := [.lit (.bool true)], args := [d] }
  | _ => none }
def fnExactPolyValidRow : OpenClaim := { program := "ytdpakhggpgdgbaa", sum := "a8c783c9dd892fdac9f1aeca0892410cb51d3ba7b87eac32c0e0f3f9824b7702", func := "loop.example/turningwheels/laws.FnExactPolyValid", spec := "fnExactPolyValid", apart := false }
def FnExactPolyValidSaid : Prop := fnExactPolyValidRow.holds Try.pinned (OpenSpec.ofChange fnExactPolyValidSpec)

/-- ITS FALSE NEIGHBOUR: 'it returns false'. Refute it at one input. -/
def fnExactPolyValidWrong : ChangeSpec := { name := "fnExactPolyValid", fn := fun _ => fun
  | [d] => { results := [.lit (.bool false)], args := [d] }
  | _ => none }
def FnExactPolyValidWrongFalsely : Prop := fnExactPolyValidRow.holds Try.pinned (OpenSpec.ofChange fnExactPolyValidWrong)

/-- 'laws.FnExactPolyCross': WHATEVER THE INPUT: true; the input reads as it did. -/
def fnExactPolyCrossSpec : ChangeSpec := { name := "fnExactPolyCross", fn := fun _ => fun
  | [d1, d2] => { results := [.lit (.bool true)], args := [d1, d2] }
  | _ => none }
def fnExactPolyCrossRow : OpenClaim := { program := "ytdpakhggpgdgbaa", sum := "a8c783c9dd892fdac9f1aeca0892410cb51d3ba7b87eac32c0e0f3f9824b7702", func := "loop.example/turningwheels/laws.FnExactPolyCross", spec := "fnExactPolyCross", apart := false }
def FnExactPolyCrossSaid : Prop := fnExactPolyCrossRow.holds Try.pinned (OpenSpec.ofChange fnExactPolyCrossSpec)

/-- ITS FALSE NEIGHBOUR: 'it returns false'. Refute it at one input. -/
def fnExactPolyCrossWrong : ChangeSpec := { name := "fnExactPolyCross", fn := fun _ => fun
  | [d1, d2] => { results := [.lit (.bool false)], args := [d1, d2] }
  | _ => none }
def FnExactPolyCrossWrongFalsely : Prop := fnExactPolyCrossRow.holds Try.pinned (OpenSpec.ofChange fnExactPolyCrossWrong)

/-- 'laws.FnExactPolyArea': WHATEVER THE INPUT: true; the input reads as it did. -/
def fnExactPolyAreaSpec : ChangeSpec := { name := "fnExactPolyArea", fn := fun _ => fun
  | [d] => { results := [.lit (.bool true)], args := [d] }
  | _ => none }
def fnExactPolyAreaRow : OpenClaim := { program := "ytdpakhggpgdgbaa", sum := "a8c783c9dd892fdac9f1aeca0892410cb51d3ba7b87eac32c0e0f3f9824b7702", func := "loop.example/turningwheels/laws.FnExactPolyArea", spec := "fnExactPolyArea", unfollowed := true, recurses := true, apart := false }
def FnExactPolyAreaSaid : Prop := fnExactPolyAreaRow.holds Try.pinned (OpenSpec.ofChange fnExactPolyAreaSpec)

/-- ITS FALSE NEIGHBOUR: 'it returns false'. Refute it at one input. -/
def fnExactPolyAreaWrong : ChangeSpec := { name := "fnExactPolyArea", fn := fun _ => fun
  | [d] => { results := [.lit (.bool false)], args := [d] }
  | _ => none }
def FnExactPolyAreaWrongFalsely : Prop := fnExactPolyAreaRow.holds Try.pinned (OpenSpec.ofChange fnExactPolyAreaWrong)

/-- 'laws.FnExactPolyBends': WHATEVER THE INPUT: true; the input reads as it did. -/
def fnExactPolyBendsSpec : ChangeSpec := { name := "fnExactPolyBends", fn := fun _ => fun
  | [d] => { results := [.lit (.bool true)], args := [d] }
  | _ => none }
def fnExactPolyBendsRow : OpenClaim := { program := "ytdpakhggpgdgbaa", sum := "a8c783c9dd892fdac9f1aeca0892410cb51d3ba7b87eac32c0e0f3f9824b7702", func := "loop.example/turningwheels/laws.FnExactPolyBends", spec := "fnExactPolyBends", unfollowed := true, recurses := true, apart := false }
def FnExactPolyBendsSaid : Prop := fnExactPolyBendsRow.holds Try.pinned (OpenSpec.ofChange fnExactPolyBendsSpec)

/-- ITS FALSE NEIGHBOUR: 'it returns false'. Refute it at one input. -/
def fnExactPolyBendsWrong : ChangeSpec := { name := "fnExactPolyBends", fn := fun _ => fun
  | [d] => { results := [.lit (.bool false)], args := [d] }
  | _ => none }
def FnExactPolyBendsWrongFalsely : Prop := fnExactPolyBendsRow.holds Try.pinned (OpenSpec.ofChange fnExactPolyBendsWrong)

/-- 'laws.FnExactPolyTurns': WHATEVER THE INPUT: true; the input reads as it did. -/
def fnExactPolyTurnsSpec : ChangeSpec := { name := "fnExactPolyTurns", fn := fun _ => fun
  | [d] => { results := [.lit (.bool true)], args := [d] }
  | _ => none }
def fnExactPolyTurnsRow : OpenClaim := { program := "ytdpakhggpgdgbaa", sum := "a8c783c9dd892fdac9f1aeca0892410cb51d3ba7b87eac32c0e0f3f9824b7702", func := "loop.example/turningwheels/laws.FnExactPolyTurns", spec := "fnExactPolyTurns", unfollowed := true, recurses := true, apart := false }
def FnExactPolyTurnsSaid : Prop := fnExactPolyTurnsRow.holds Try.pinned (OpenSpec.ofChange fnExactPolyTurnsSpec)

/-- ITS FALSE NEIGHBOUR: 'it returns false'. Refute it at one input. -/
def fnExactPolyTurnsWrong : ChangeSpec := { name := "fnExactPolyTurns", fn := fun _ => fun
  | [d] => { results := [.lit (.bool false)], args := [d] }
  | _ => none }
def FnExactPolyTurnsWrongFalsely : Prop := fnExactPolyTurnsRow.holds Try.pinned (OpenSpec.ofChange fnExactPolyTurnsWrong)

/-- 'laws.FnExactPolyConvex': WHATEVER THE INPUT: true; the input reads as it did. -/
def fnExactPolyConvexSpec : ChangeSpec := { name := "fnExactPolyConvex", fn := fun _ => fun
  | [d] => { results := [.lit (.bool true)], args := [d] }
  | _ => none }
def fnExactPolyConvexRow : OpenClaim := { program := "ytdpakhggpgdgbaa", sum := "a8c783c9dd892fdac9f1aeca0892410cb51d3ba7b87eac32c0e0f3f9824b7702", func := "loop.example/turningwheels/laws.FnExactPolyConvex", spec := "fnExactPolyConvex", unfollowed := true, recurses := true, apart := false }
def FnExactPolyConvexSaid : Prop := fnExactPolyConvexRow.holds Try.pinned (OpenSpec.ofChange fnExactPolyConvexSpec)

/-- ITS FALSE NEIGHBOUR: 'it returns false'. Refute it at one input. -/
def fnExactPolyConvexWrong : ChangeSpec := { name := "fnExactPolyConvex", fn := fun _ => fun
  | [d] => { results := [.lit (.bool false)], args := [d] }
  | _ => none }
def FnExactPolyConvexWrongFalsely : Prop := fnExactPolyConvexRow.holds Try.pinned (OpenSpec.ofChange fnExactPolyConvexWrong)

/-- 'laws.FnExactPolyOn': WHATEVER THE INPUT: true; the input reads as it did. -/
def fnExactPolyOnSpec : ChangeSpec := { name := "fnExactPolyOn", fn := fun _ => fun
  | [d1, d2] => { results := [.lit (.bool true)], args := [d1, d2] }
  | _ => none }
def fnExactPolyOnRow : OpenClaim := { program := "ytdpakhggpgdgbaa", sum := "a8c783c9dd892fdac9f1aeca0892410cb51d3ba7b87eac32c0e0f3f9824b7702", func := "loop.example/turningwheels/laws.FnExactPolyOn", spec := "fnExactPolyOn", unfollowed := true, recurses := true, apart := false }
def FnExactPolyOnSaid : Prop := fnExactPolyOnRow.holds Try.pinned (OpenSpec.ofChange fnExactPolyOnSpec)

/-- ITS FALSE NEIGHBOUR: 'it returns false'. Refute it at one input. -/
def fnExactPolyOnWrong : ChangeSpec := { name := "fnExactPolyOn", fn := fun _ => fun
  | [d1, d2] => { results := [.lit (.bool false)], args := [d1, d2] }
  | _ => none }
def FnExactPolyOnWrongFalsely : Prop := fnExactPolyOnRow.holds Try.pinned (OpenSpec.ofChange fnExactPolyOnWrong)

/-- 'laws.FnExactPolyWinding': WHATEVER THE INPUT: true; the input reads as it did. -/
def fnExactPolyWindingSpec : ChangeSpec := { name := "fnExactPolyWinding", fn := fun _ => fun
  | [d1, d2] => { results := [.lit (.bool true)], args := [d1, d2] }
  | _ => none }
def fnExactPolyWindingRow : OpenClaim := { program := "ytdpakhggpgdgbaa", sum := "a8c783c9dd892fdac9f1aeca0892410cb51d3ba7b87eac32c0e0f3f9824b7702", func := "loop.example/turningwheels/laws.FnExactPolyWinding", spec := "fnExactPolyWinding", unfollowed := true, recurses := true, apart := false }
def FnExactPolyWindingSaid : Prop := fnExactPolyWindingRow.holds Try.pinned (OpenSpec.ofChange fnExactPolyWindingSpec)

/-- ITS FALSE NEIGHBOUR: 'it returns false'. Refute it at one input. -/
def fnExactPolyWindingWrong : ChangeSpec := { name := "fnExactPolyWinding", fn := fun _ => fun
  | [d1, d2] => { results := [.lit (.bool false)], args := [d1, d2] }
  | _ => none }
def FnExactPolyWindingWrongFalsely : Prop := fnExactPolyWindingRow.holds Try.pinned (OpenSpec.ofChange fnExactPolyWindingWrong)

/-- 'laws.FnExactPolyBack': WHATEVER THE INPUT: true; the input reads as it did. -/
def fnExactPolyBackSpec : ChangeSpec := { name := "fnExactPolyBack", fn := fun _ => fun
  | [d] => { results := [.lit (.bool true)], args := [d] }
  | _ => none }
def fnExactPolyBackRow : OpenClaim := { program := "ytdpakhggpgdgbaa", sum := "a8c783c9dd892fdac9f1aeca0892410cb51d3ba7b87eac32c0e0f3f9824b7702", func := "loop.example/turningwheels/laws.FnExactPolyBack", spec := "fnExactPolyBack", apart := false }
def FnExactPolyBackSaid : Prop := fnExactPolyBackRow.holds Try.pinned (OpenSpec.ofChange fnExactPolyBackSpec)

/-- ITS FALSE NEIGHBOUR: 'it returns false'. Refute it at one input. -/
def fnExactPolyBackWrong : ChangeSpec := { name := "fnExactPolyBack", fn := fun _ => fun
  | [d] => { results := [.lit (.bool false)], args := [d] }
  | _ => none }
def FnExactPolyBackWrongFalsely : Prop := fnExactPolyBackRow.holds Try.pinned (OpenSpec.ofChange fnExactPolyBackWrong)

/- THE SECOND FORM. 'bulk': how many values and letters a reading holds, each counted each time it is reached (what is shared counts as often as it is met; a slice's spare places count too). A statement '..UptoSaid' is the law's where the arguments, and the package variables that the reading takes, are together of bulk at most 1048576: NARROWER than '..Said'. Prove '..Said' where nothing that the law and all that it calls make is longer than what came in: it says more and counts as full. Else prove '..UptoSaid'. A law counts once. -/
mutual
def uptoBulk {H : Type} : DataW H → Nat
  | .lit (.string bytes) => bytes.length + 1
  | .lit _ => 1
  | .nil => 1
  | .ptr d => uptoBulk d + 1
  | .slice elems spare => uptoBulkAll elems + uptoBulkAll spare + 1
  | .agg parts => uptoBulkAll parts + 1
  | .iface _ d => uptoBulk d + 1
  | .map entries => uptoBulkEntries entries + 1
  | .held _ => 1
def uptoBulkAll {H : Type} : List (DataW H) → Nat
  | [] => 0
  | d :: r => uptoBulk d + uptoBulkAll r
def uptoBulkEntries {H : Type} : List (Lit × DataW H) → Nat
  | [] => 0
  | x :: r => uptoBulkEntry x + uptoBulkEntries r
def uptoBulkEntry {H : Type} : Lit × DataW H → Nat
  | (.string bytes, d) => bytes.length + uptoBulk d + 1
  | (_, d) => uptoBulk d + 1
 end
def uptoSmall : (H : Type) → List (DataW H) → Bool := fun _ ds => decide (uptoBulkAll ds ≤ 1048576)
def OpenSpec.upto (s : _root_.Go.ChangeSpec) : _root_.Go.OpenSpec := { _root_.Go.OpenSpec.ofChange s with cond := some uptoSmall }

/-- 'laws.FnPoly', WHERE WHAT IT READS IS OF BULK AT MOST 1048576: true; the input reads as it did. -/
def fnPolyUptoRow : OpenClaim := { program := "ytdpakhggpgdgbaa", sum := "a8c783c9dd892fdac9f1aeca0892410cb51d3ba7b87eac32c0e0f3f9824b7702", func := "loop.example/turningwheels/laws.FnPoly", spec := "fnPoly", unfollowed := true, recurses := true, apart := false, narrowed := true }
def FnPolyUptoSaid : Prop := fnPolyUptoRow.holds Try.pinned (OpenSpec.upto fnPolySpec)

/-- 'laws.FnCross', WHERE WHAT IT READS IS OF BULK AT MOST 1048576: true; the input reads as it did. -/
def fnCrossUptoRow : OpenClaim := { program := "ytdpakhggpgdgbaa", sum := "a8c783c9dd892fdac9f1aeca0892410cb51d3ba7b87eac32c0e0f3f9824b7702", func := "loop.example/turningwheels/laws.FnCross", spec := "fnCross", apart := false, narrowed := true }
def FnCrossUptoSaid : Prop := fnCrossUptoRow.holds Try.pinned (OpenSpec.upto fnCrossSpec)

/-- 'laws.FnArea', WHERE WHAT IT READS IS OF BULK AT MOST 1048576: true; the input reads as it did. -/
def fnAreaUptoRow : OpenClaim := { program := "ytdpakhggpgdgbaa", sum := "a8c783c9dd892fdac9f1aeca0892410cb51d3ba7b87eac32c0e0f3f9824b7702", func := "loop.example/turningwheels/laws.FnArea", spec := "fnArea", unfollowed := true, recurses := true, apart := false, narrowed := true }
def FnAreaUptoSaid : Prop := fnAreaUptoRow.holds Try.pinned (OpenSpec.upto fnAreaSpec)

/-- 'laws.FnBends', WHERE WHAT IT READS IS OF BULK AT MOST 1048576: true; the input reads as it did. -/
def fnBendsUptoRow : OpenClaim := { program := "ytdpakhggpgdgbaa", sum := "a8c783c9dd892fdac9f1aeca0892410cb51d3ba7b87eac32c0e0f3f9824b7702", func := "loop.example/turningwheels/laws.FnBends", spec := "fnBends", unfollowed := true, recurses := true, apart := false, narrowed := true }
def FnBendsUptoSaid : Prop := fnBendsUptoRow.holds Try.pinned (OpenSpec.upto fnBendsSpec)

/-- 'laws.FnTurns', WHERE WHAT IT READS IS OF BULK AT MOST 1048576: true; the input reads as it did. -/
def fnTurnsUptoRow : OpenClaim := { program := "ytdpakhggpgdgbaa", sum := "a8c783c9dd892fdac9f1aeca0892410cb51d3ba7b87eac32c0e0f3f9824b7702", func := "loop.example/turningwheels/laws.FnTurns", spec := "fnTurns", unfollowed := true, recurses := true, apart := false, narrowed := true }
def FnTurnsUptoSaid : Prop := fnTurnsUptoRow.holds Try.pinned (OpenSpec.upto fnTurnsSpec)

/-- 'laws.FnOn', WHERE WHAT IT READS IS OF BULK AT MOST 1048576: true; the input reads as it did. -/
def fnOnUptoRow : OpenClaim := { program := "ytdpakhggpgdgbaa", sum := "a8c783c9dd892fdac9f1aeca0892410cb51d3ba7b87eac32c0e0f3f9824b7702", func := "loop.example/turningwheels/laws.FnOn", spec := "fnOn", unfollowed := true, recurses := true, apart := false, narrowed := true }
def FnOnUptoSaid : Prop := fnOnUptoRow.holds Try.pinned (OpenSpec.upto fnOnSpec)

/-- 'laws.FnPolyBack', WHERE WHAT IT READS IS OF BULK AT MOST 1048576: true; the input reads as it did. -/
def fnPolyBackUptoRow : OpenClaim := { program := "ytdpakhggpgdgbaa", sum := "a8c783c9dd892fdac9f1aeca0892410cb51d3ba7b87eac32c0e0f3f9824b7702", func := "loop.example/turningwheels/laws.FnPolyBack", spec := "fnPolyBack", apart := false, narrowed := true }
def FnPolyBackUptoSaid : Prop := fnPolyBackUptoRow.holds Try.pinned (OpenSpec.upto fnPolyBackSpec)

/-- 'laws.FnExactPolyValid', WHERE WHAT IT READS IS OF BULK AT MOST 1048576: true; the input reads as it did. -/
def fnExactPolyValidUptoRow : OpenClaim := { program := "ytdpakhggpgdgbaa", sum := "a8c783c9dd892fdac9f1aeca0892410cb51d3ba7b87eac32c0e0f3f9824b7702", func := "loop.example/turningwheels/laws.FnExactPolyValid", spec := "fnExactPolyValid", apart := false, narrowed := true }
def FnExactPolyValidUptoSaid : Prop := fnExactPolyValidUptoRow.holds Try.pinned (OpenSpec.upto fnExactPolyValidSpec)

/-- 'laws.FnExactPolyCross', WHERE WHAT IT READS IS OF BULK AT MOST 1048576: true; the input reads as it did. -/
def fnExactPolyCrossUptoRow : OpenClaim := { program := "ytdpakhggpgdgbaa", sum := "a8c783c9dd892fdac9f1aeca0892410cb51d3ba7b87eac32c0e0f3f9824b7702", func := "loop.example/turningwheels/laws.FnExactPolyCross", spec := "fnExactPolyCross", apart := false, narrowed := true }
def FnExactPolyCrossUptoSaid : Prop := fnExactPolyCrossUptoRow.holds Try.pinned (OpenSpec.upto fnExactPolyCrossSpec)

/-- 'laws.FnExactPolyArea', WHERE WHAT IT READS IS OF BULK AT MOST 1048576: true; the input reads as it did. -/
def fnExactPolyAreaUptoRow : OpenClaim := { program := "ytdpakhggpgdgbaa", sum := "a8c783c9dd892fdac9f1aeca0892410cb51d3ba7b87eac32c0e0f3f9824b7702", func := "loop.example/turningwheels/laws.FnExactPolyArea", spec := "fnExactPolyArea", unfollowed := true, recurses := true, apart := false, narrowed := true }
def FnExactPolyAreaUptoSaid : Prop := fnExactPolyAreaUptoRow.holds Try.pinned (OpenSpec.upto fnExactPolyAreaSpec)

/-- 'laws.FnExactPolyBends', WHERE WHAT IT READS IS OF BULK AT MOST 1048576: true; the input reads as it did. -/
def fnExactPolyBendsUptoRow : OpenClaim := { program := "ytdpakhggpgdgbaa", sum := "a8c783c9dd892fdac9f1aeca0892410cb51d3ba7b87eac32c0e0f3f9824b7702", func := "loop.example/turningwheels/laws.FnExactPolyBends", spec := "fnExactPolyBends", unfollowed := true, recurses := true, apart := false, narrowed := true }
def FnExactPolyBendsUptoSaid : Prop := fnExactPolyBendsUptoRow.holds Try.pinned (OpenSpec.upto fnExactPolyBendsSpec)

/-- 'laws.FnExactPolyTurns', WHERE WHAT IT READS IS OF BULK AT MOST 1048576: true; the input reads as it did. -/
def fnExactPolyTurnsUptoRow : OpenClaim := { program := "ytdpakhggpgdgbaa", sum := "a8c783c9dd892fdac9f1aeca0892410cb51d3ba7b87eac32c0e0f3f9824b7702", func := "loop.example/turningwheels/laws.FnExactPolyTurns", spec := "fnExactPolyTurns", unfollowed := true, recurses := true, apart := false, narrowed := true }
def FnExactPolyTurnsUptoSaid : Prop := fnExactPolyTurnsUptoRow.holds Try.pinned (OpenSpec.upto fnExactPolyTurnsSpec)

/-- 'laws.FnExactPolyConvex', WHERE WHAT IT READS IS OF BULK AT MOST 1048576: true; the input reads as it did. -/
def fnExactPolyConvexUptoRow : OpenClaim := { program := "ytdpakhggpgdgbaa", sum := "a8c783c9dd892fdac9f1aeca0892410cb51d3ba7b87eac32c0e0f3f9824b7702", func := "loop.example/turningwheels/laws.FnExactPolyConvex", spec := "fnExactPolyConvex", unfollowed := true, recurses := true, apart := false, narrowed := true }
def FnExactPolyConvexUptoSaid : Prop := fnExactPolyConvexUptoRow.holds Try.pinned (OpenSpec.upto fnExactPolyConvexSpec)

/-- 'laws.FnExactPolyOn', WHERE WHAT IT READS IS OF BULK AT MOST 1048576: true; the input reads as it did. -/
def fnExactPolyOnUptoRow : OpenClaim := { program := "ytdpakhggpgdgbaa", sum := "a8c783c9dd892fdac9f1aeca0892410cb51d3ba7b87eac32c0e0f3f9824b7702", func := "loop.example/turningwheels/laws.FnExactPolyOn", spec := "fnExactPolyOn", unfollowed := true, recurses := true, apart := false, narrowed := true }
def FnExactPolyOnUptoSaid : Prop := fnExactPolyOnUptoRow.holds Try.pinned (OpenSpec.upto fnExactPolyOnSpec)

/-- 'laws.FnExactPolyWinding', WHERE WHAT IT READS IS OF BULK AT MOST 1048576: true; the input reads as it did. -/
def fnExactPolyWindingUptoRow : OpenClaim := { program := "ytdpakhggpgdgbaa", sum := "a8c783c9dd892fdac9f1aeca0892410cb51d3ba7b87eac32c0e0f3f9824b7702", func := "loop.example/turningwheels/laws.FnExactPolyWinding", spec := "fnExactPolyWinding", unfollowed := true, recurses := true, apart := false, narrowed := true }
def FnExactPolyWindingUptoSaid : Prop := fnExactPolyWindingUptoRow.holds Try.pinned (OpenSpec.upto fnExactPolyWindingSpec)

/-- 'laws.FnExactPolyBack', WHERE WHAT IT READS IS OF BULK AT MOST 1048576: true; the input reads as it did. -/
def fnExactPolyBackUptoRow : OpenClaim := { program := "ytdpakhggpgdgbaa", sum := "a8c783c9dd892fdac9f1aeca0892410cb51d3ba7b87eac32c0e0f3f9824b7702", func := "loop.example/turningwheels/laws.FnExactPolyBack", spec := "fnExactPolyBack", apart := false, narrowed := true }
def FnExactPolyBackUptoSaid : Prop := fnExactPolyBackUptoRow.holds Try.pinned (OpenSpec.upto fnExactPolyBackSpec)

end Rows
end Go.Proofs.Ytdpakhggpgdgbaa
