/-
  NARROWER THAN 'FOR EVERY INPUT', by the rows' own cells (each row's printed sentence says how): FnRatio: ifaces, laid · FnTrainTurns: ifaces, laid · FnTrainFind: ifaces, laid · FnExactTrainRatio: ifaces, laid · FnExactTrainTurns: ifaces, laid · FnExactTrainFind: ifaces, laid.
  DERIVED. THE GIVEN ROWS OF THIS SEAT. 6 by the template 'for every input the law returns true; each argument reads behind the call as it read before'; 0 by the template 'total and deterministic' (their statements: YtbdhbkedeglagaaDoorTotals.lean).
  GIVEN WITH THE SEED: the statements are not yours to turn. If you find one false, say at which input.
  Laid BY PROGRAM, IN A SANDBOX (cutbox-rows.mjs): the forced cells as the released guide's own fill.sh prints them over the translation 94b40d27b6ca4633… (all of the seat's roots in one cut). By AI agents, Wed Nov 11 2026. No macro, syntax, notation, axiom, sorry.
-/
import Derived.Test.YtbdhbkedeglagaaDoorChecked
import GoSem.Claim
import GoSem.ClaimJoined
import GoSem.ClaimMapViews
import Derived.JoinedTies
import Derived.KernelRfl
namespace Go.Proofs.YtbdhbkedeglagaaDoor
/- THE CELL 'sum', in the pinned program and in every row, IS THE sha256 OF THE DUMP (.gsa) THAT YtbdhbkedeglagaaDoorProg.lean LOADS. Nothing in Lean hashes anything: it is a label: what it is worth is what the hold of that sum in a sandbox is worth. -/
noncomputable def Tryd.pinned : Pinned := { name := "ytbdhbkedeglagaadoor", sum := "94b40d27b6ca4633d32eff28f20d323a639597a99c2b18e1758cfdfa3c88740a", checked := Tryd.checked }
namespace Rows
def none {H : Type} : Left H := { results := [], args := [] }

/- WHAT THE LISTED PACKAGE-LEVEL VARIABLES READ AS WHEN THE CALL BEGINS. Each datum BY PROGRAM (the guide's laid-datum.mjs) off the statement by which the dump's own 'gosem.cut.vars' lays the variable. In a bare row this is a premise. The card (YtbdhbkedeglagaaDoorCards.lean) ties it to the program's text. -/
def laid_loop_example_turningwheels_impl_errTrainLength {H : Type} : DataW H := .iface "*errors.errorString" (.ptr (.agg [.lit (.string [97, 32, 116, 114, 97, 105, 110, 32, 104, 97, 115, 32, 50, 32, 116, 111, 32, 49, 48, 32, 103, 101, 97, 114, 115, 44, 32, 97, 110, 32, 101, 118, 101, 110, 32, 110, 117, 109, 98, 101, 114])]))
def laid_loop_example_turningwheels_impl_errRatioBeyond {H : Type} : DataW H := .iface "*errors.errorString" (.ptr (.agg [.lit (.string [97, 32, 110, 117, 109, 98, 101, 114, 32, 111, 102, 32, 97, 32, 114, 97, 116, 105, 111, 32, 105, 115, 32, 103, 114, 101, 97, 116, 101, 114, 32, 116, 104, 97, 110, 32, 49, 48, 48, 48, 48, 48, 48, 48, 48, 48])]))
def laid_errors_errorType {H : Type} : DataW H := .iface "internal/reflectlite.rtype" (.agg [.ptr (.lit (.string [101, 114, 114, 111, 114]))])

/-- 'laws.FnRatio': WHATEVER THE INPUT: true; the input reads as it did. -/
def fnRatioSpec : ChangeSpec := { name := "fnRatio", vars := ["loop.example/turningwheels/impl.errRatioBeyond", "loop.example/turningwheels/impl.errTrainLength"], fn := fun _ => fun
  | [d, g1, g2] => { results := [.lit (.bool true)], args := [d], vars := [g1, g2] }
  | _ => none }
def fnRatioRow : OpenClaim := { program := "ytbdhbkedeglagaadoor", sum := "94b40d27b6ca4633d32eff28f20d323a639597a99c2b18e1758cfdfa3c88740a", func := "loop.example/turningwheels/laws.FnRatio", spec := "fnRatio", unfollowed := true, recurses := true, named := ["loop.example/turningwheels/impl.errRatioBeyond", "loop.example/turningwheels/impl.errTrainLength"], ifaces := true, apart := false, laid := [("loop.example/turningwheels/impl.errTrainLength", laid_loop_example_turningwheels_impl_errTrainLength), ("loop.example/turningwheels/impl.errRatioBeyond", laid_loop_example_turningwheels_impl_errRatioBeyond)] }
def FnRatioSaid : Prop := fnRatioRow.holds Tryd.pinned (OpenSpec.ofChange fnRatioSpec)

/-- ITS FALSE NEIGHBOUR: 'it returns false'. Refute it at one input. -/
def fnRatioWrong : ChangeSpec := { name := "fnRatio", vars := ["loop.example/turningwheels/impl.errRatioBeyond", "loop.example/turningwheels/impl.errTrainLength"], fn := fun _ => fun
  | [d, g1, g2] => { results := [.lit (.bool false)], args := [d], vars := [g1, g2] }
  | _ => none }
def FnRatioWrongFalsely : Prop := fnRatioRow.holds Tryd.pinned (OpenSpec.ofChange fnRatioWrong)

/-- 'laws.FnTrainTurns': WHATEVER THE INPUT: true; the input reads as it did. -/
def fnTrainTurnsSpec : ChangeSpec := { name := "fnTrainTurns", vars := ["loop.example/turningwheels/impl.errRatioBeyond", "loop.example/turningwheels/impl.errTrainLength"], fn := fun _ => fun
  | [d, g1, g2] => { results := [.lit (.bool true)], args := [d], vars := [g1, g2] }
  | _ => none }
def fnTrainTurnsRow : OpenClaim := { program := "ytbdhbkedeglagaadoor", sum := "94b40d27b6ca4633d32eff28f20d323a639597a99c2b18e1758cfdfa3c88740a", func := "loop.example/turningwheels/laws.FnTrainTurns", spec := "fnTrainTurns", unfollowed := true, recurses := true, named := ["loop.example/turningwheels/impl.errRatioBeyond", "loop.example/turningwheels/impl.errTrainLength"], ifaces := true, apart := false, laid := [("loop.example/turningwheels/impl.errTrainLength", laid_loop_example_turningwheels_impl_errTrainLength), ("loop.example/turningwheels/impl.errRatioBeyond", laid_loop_example_turningwheels_impl_errRatioBeyond)] }
def FnTrainTurnsSaid : Prop := fnTrainTurnsRow.holds Tryd.pinned (OpenSpec.ofChange fnTrainTurnsSpec)

/-- ITS FALSE NEIGHBOUR: 'it returns false'. Refute it at one input. -/
def fnTrainTurnsWrong : ChangeSpec := { name := "fnTrainTurns", vars := ["loop.example/turningwheels/impl.errRatioBeyond", "loop.example/turningwheels/impl.errTrainLength"], fn := fun _ => fun
  | [d, g1, g2] => { results := [.lit (.bool false)], args := [d], vars := [g1, g2] }
  | _ => none }
def FnTrainTurnsWrongFalsely : Prop := fnTrainTurnsRow.holds Tryd.pinned (OpenSpec.ofChange fnTrainTurnsWrong)

/-- 'laws.FnTrainFind': WHATEVER THE INPUT: true; the input reads as it did. -/
def fnTrainFindSpec : ChangeSpec := { name := "fnTrainFind", vars := ["loop.example/turningwheels/impl.errTrainLength", "loop.example/turningwheels/impl.errRatioBeyond"], fn := fun _ => fun
  | [d, g1, g2] => { results := [.lit (.bool true)], args := [d], vars := [g1, g2] }
  | _ => none }
def fnTrainFindRow : OpenClaim := { program := "ytbdhbkedeglagaadoor", sum := "94b40d27b6ca4633d32eff28f20d323a639597a99c2b18e1758cfdfa3c88740a", func := "loop.example/turningwheels/laws.FnTrainFind", spec := "fnTrainFind", inPlace := ["internal/reflectlite.ValueOf", "(internal/reflectlite.Value).Type", "(internal/reflectlite.Value).IsNil", "internal/reflectlite.TypeOf", "(internal/reflectlite.Value).Elem", "(internal/reflectlite.Value).Set"], unfollowed := true, recurses := true, named := ["loop.example/turningwheels/impl.errTrainLength", "errors.errorType", "loop.example/turningwheels/impl.errRatioBeyond"], ifaces := true, apart := false, laid := [("errors.errorType", laid_errors_errorType), ("loop.example/turningwheels/impl.errTrainLength", laid_loop_example_turningwheels_impl_errTrainLength), ("loop.example/turningwheels/impl.errRatioBeyond", laid_loop_example_turningwheels_impl_errRatioBeyond)] }
def FnTrainFindSaid : Prop := fnTrainFindRow.holds Tryd.pinned (OpenSpec.ofChange fnTrainFindSpec)

/-- ITS FALSE NEIGHBOUR: 'it returns false'. Refute it at one input. -/
def fnTrainFindWrong : ChangeSpec := { name := "fnTrainFind", vars := ["loop.example/turningwheels/impl.errTrainLength", "loop.example/turningwheels/impl.errRatioBeyond"], fn := fun _ => fun
  | [d, g1, g2] => { results := [.lit (.bool false)], args := [d], vars := [g1, g2] }
  | _ => none }
def FnTrainFindWrongFalsely : Prop := fnTrainFindRow.holds Tryd.pinned (OpenSpec.ofChange fnTrainFindWrong)

/-- 'laws.FnExactTrainRatio': WHATEVER THE INPUT: true; the input reads as it did. -/
def fnExactTrainRatioSpec : ChangeSpec := { name := "fnExactTrainRatio", vars := ["loop.example/turningwheels/impl.errRatioBeyond", "loop.example/turningwheels/impl.errTrainLength"], fn := fun _ => fun
  | [d, g1, g2] => { results := [.lit (.bool true)], args := [d], vars := [g1, g2] }
  | _ => none }
def fnExactTrainRatioRow : OpenClaim := { program := "ytbdhbkedeglagaadoor", sum := "94b40d27b6ca4633d32eff28f20d323a639597a99c2b18e1758cfdfa3c88740a", func := "loop.example/turningwheels/laws.FnExactTrainRatio", spec := "fnExactTrainRatio", unfollowed := true, recurses := true, named := ["loop.example/turningwheels/impl.errRatioBeyond", "loop.example/turningwheels/impl.errTrainLength"], ifaces := true, apart := false, laid := [("loop.example/turningwheels/impl.errTrainLength", laid_loop_example_turningwheels_impl_errTrainLength), ("loop.example/turningwheels/impl.errRatioBeyond", laid_loop_example_turningwheels_impl_errRatioBeyond)] }
def FnExactTrainRatioSaid : Prop := fnExactTrainRatioRow.holds Tryd.pinned (OpenSpec.ofChange fnExactTrainRatioSpec)

/-- ITS FALSE NEIGHBOUR: 'it returns false'. Refute it at one input. -/
def fnExactTrainRatioWrong : ChangeSpec := { name := "fnExactTrainRatio", vars := ["loop.example/turningwheels/impl.errRatioBeyond", "loop.example/turningwheels/impl.errTrainLength"], fn := fun _ => fun
  | [d, g1, g2] => { results := [.lit (.bool false)], args := [d], vars := [g1, g2] }
  | _ => none }
def FnExactTrainRatioWrongFalsely : Prop := fnExactTrainRatioRow.holds Tryd.pinned (OpenSpec.ofChange fnExactTrainRatioWrong)

/-- 'laws.FnExactTrainTurns': WHATEVER THE INPUT: true; the input reads as it did. -/
def fnExactTrainTurnsSpec : ChangeSpec := { name := "fnExactTrainTurns", vars := ["loop.example/turningwheels/impl.errRatioBeyond", "loop.example/turningwheels/impl.errTrainLength"], fn := fun _ => fun
  | [d, g1, g2] => { results := [.lit (.bool true)], args := [d], vars := [g1, g2] }
  | _ => none }
def fnExactTrainTurnsRow : OpenClaim := { program := "ytbdhbkedeglagaadoor", sum := "94b40d27b6ca4633d32eff28f20d323a639597a99c2b18e1758cfdfa3c88740a", func := "loop.example/turningwheels/laws.FnExactTrainTurns", spec := "fnExactTrainTurns", unfollowed := true, recurses := true, named := ["loop.example/turningwheels/impl.errRatioBeyond", "loop.example/turningwheels/impl.errTrainLength"], ifaces := true, apart := false, laid := [("loop.example/turningwheels/impl.errTrainLength", laid_loop_example_turningwheels_impl_errTrainLength), ("loop.example/turningwheels/impl.errRatioBeyond", laid_loop_example_turningwheels_impl_errRatioBeyond)] }
def FnExactTrainTurnsSaid : Prop := fnExactTrainTurnsRow.holds Tryd.pinned (OpenSpec.ofChange fnExactTrainTurnsSpec)

/-- ITS FALSE NEIGHBOUR: 'it returns false'. Refute it at one input. -/
def fnExactTrainTurnsWrong : ChangeSpec := { name := "fnExactTrainTurns", vars := ["loop.example/turningwheels/impl.errRatioBeyond", "loop.example/turningwheels/impl.errTrainLength"], fn := fun _ => fun
  | [d, g1, g2] => { results := [.lit (.bool false)], args := [d], vars := [g1, g2] }
  | _ => none }
def FnExactTrainTurnsWrongFalsely : Prop := fnExactTrainTurnsRow.holds Tryd.pinned (OpenSpec.ofChange fnExactTrainTurnsWrong)

/-- 'laws.FnExactTrainFind': WHATEVER THE INPUT: true; the input reads as it did. -/
def fnExactTrainFindSpec : ChangeSpec := { name := "fnExactTrainFind", vars := ["loop.example/turningwheels/impl.errTrainLength"], fn := fun _ => fun
  | [d1, d2, g1] => { results := [.lit (.bool true)], args := [d1, d2], vars := [g1] }
  | _ => none }
def fnExactTrainFindRow : OpenClaim := { program := "ytbdhbkedeglagaadoor", sum := "94b40d27b6ca4633d32eff28f20d323a639597a99c2b18e1758cfdfa3c88740a", func := "loop.example/turningwheels/laws.FnExactTrainFind", spec := "fnExactTrainFind", inPlace := ["internal/reflectlite.ValueOf", "(internal/reflectlite.Value).Type", "(internal/reflectlite.Value).IsNil", "internal/reflectlite.TypeOf", "(internal/reflectlite.Value).Elem", "(internal/reflectlite.Value).Set"], unfollowed := true, recurses := true, named := ["loop.example/turningwheels/impl.errTrainLength", "errors.errorType"], ifaces := true, apart := false, laid := [("errors.errorType", laid_errors_errorType), ("loop.example/turningwheels/impl.errTrainLength", laid_loop_example_turningwheels_impl_errTrainLength)] }
def FnExactTrainFindSaid : Prop := fnExactTrainFindRow.holds Tryd.pinned (OpenSpec.ofChange fnExactTrainFindSpec)

/-- ITS FALSE NEIGHBOUR: 'it returns false'. Refute it at one input. -/
def fnExactTrainFindWrong : ChangeSpec := { name := "fnExactTrainFind", vars := ["loop.example/turningwheels/impl.errTrainLength"], fn := fun _ => fun
  | [d1, d2, g1] => { results := [.lit (.bool false)], args := [d1, d2], vars := [g1] }
  | _ => none }
def FnExactTrainFindWrongFalsely : Prop := fnExactTrainFindRow.holds Tryd.pinned (OpenSpec.ofChange fnExactTrainFindWrong)

/- THE SECOND FORM. 'bulk': how many values and letters a reading holds, each counted each time it is reached (what is shared counts as often as it is met; a slice's spare places count too). A statement '..UptoSaid' is the law's where the arguments, and the package variables that the reading takes, are together of bulk at most 1048576: NARROWER than '..Said'. Prove '..Said' where nothing that the law and all that it calls make is longer than what came in: it says more and counts as full. Else prove '..UptoSaid'. A law counts once. -/
mutual
def uptoBulk {H : Type} : DataW H → Nat
  | .lit (.string bytes) => bytes.length + 1
  | .lit _ => 1
  | .nil => 1
  | .ptr d => uptoBulk d + 1
  | .slice elems spare => uptoBulkAll elems + uptoBulkAll spare + 1
  | .agg parts => uptoBulkAll parts + 1
  | .iface _ d => uptoBulk d + 1
  | .map entries => uptoBulkEntries entries + 1
  | .held _ => 1
def uptoBulkAll {H : Type} : List (DataW H) → Nat
  | [] => 0
  | d :: r => uptoBulk d + uptoBulkAll r
def uptoBulkEntries {H : Type} : List (Lit × DataW H) → Nat
  | [] => 0
  | x :: r => uptoBulkEntry x + uptoBulkEntries r
def uptoBulkEntry {H : Type} : Lit × DataW H → Nat
  | (.string bytes, d) => bytes.length + uptoBulk d + 1
  | (_, d) => uptoBulk d + 1
 end
def uptoSmall : (H : Type) → List (DataW H) → Bool := fun _ ds => decide (uptoBulkAll ds ≤ 1048576)
def OpenSpec.upto (s : _root_.Go.ChangeSpec) : _root_.Go.OpenSpec := { _root_.Go.OpenSpec.ofChange s with cond := some uptoSmall }

/-- 'laws.FnRatio', WHERE WHAT IT READS IS OF BULK AT MOST 1048576: true; the input reads as it did. -/
def fnRatioUptoRow : OpenClaim := { program := "ytbdhbkedeglagaadoor", sum := "94b40d27b6ca4633d32eff28f20d323a639597a99c2b18e1758cfdfa3c88740a", func := "loop.example/turningwheels/laws.FnRatio", spec := "fnRatio", unfollowed := true, recurses := true, named := ["loop.example/turningwheels/impl.errRatioBeyond", "loop.example/turningwheels/impl.errTrainLength"], ifaces := true, apart := false, laid := [("loop.example/turningwheels/impl.errTrainLength", laid_loop_example_turningwheels_impl_errTrainLength), ("loop.example/turningwheels/impl.errRatioBeyond", laid_loop_example_turningwheels_impl_errRatioBeyond)], narrowed := true }
def FnRatioUptoSaid : Prop := fnRatioUptoRow.holds Tryd.pinned (OpenSpec.upto fnRatioSpec)

/-- 'laws.FnTrainTurns', WHERE WHAT IT READS IS OF BULK AT MOST 1048576: true; the input reads as it did. -/
def fnTrainTurnsUptoRow : OpenClaim := { program := "ytbdhbkedeglagaadoor", sum := "94b40d27b6ca4633d32eff28f20d323a639597a99c2b18e1758cfdfa3c88740a", func := "loop.example/turningwheels/laws.FnTrainTurns", spec := "fnTrainTurns", unfollowed := true, recurses := true, named := ["loop.example/turningwheels/impl.errRatioBeyond", "loop.example/turningwheels/impl.errTrainLength"], ifaces := true, apart := false, laid := [("loop.example/turningwheels/impl.errTrainLength", laid_loop_example_turningwheels_impl_errTrainLength), ("loop.example/turningwheels/impl.errRatioBeyond", laid_loop_example_turningwheels_impl_errRatioBeyond)], narrowed := true }
def FnTrainTurnsUptoSaid : Prop := fnTrainTurnsUptoRow.holds Tryd.pinned (OpenSpec.upto fnTrainTurnsSpec)

/-- 'laws.FnTrainFind', WHERE WHAT IT READS IS OF BULK AT MOST 1048576: true; the input reads as it did. -/
def fnTrainFindUptoRow : OpenClaim := { program := "ytbdhbkedeglagaadoor", sum := "94b40d27b6ca4633d32eff28f20d323a639597a99c2b18e1758cfdfa3c88740a", func := "loop.example/turningwheels/laws.FnTrainFind", spec := "fnTrainFind", inPlace := ["internal/reflectlite.ValueOf", "(internal/reflectlite.Value).Type", "(internal/reflectlite.Value).IsNil", "internal/reflectlite.TypeOf", "(internal/reflectlite.Value).Elem", "(internal/reflectlite.Value).Set"], unfollowed := true, recurses := true, named := ["loop.example/turningwheels/impl.errTrainLength", "errors.errorType", "loop.example/turningwheels/impl.errRatioBeyond"], ifaces := true, apart := false, laid := [("errors.errorType", laid_errors_errorType), ("loop.example/turningwheels/impl.errTrainLength", laid_loop_example_turningwheels_impl_errTrainLength), ("loop.example/turningwheels/impl.errRatioBeyond", laid_loop_example_turningwheels_impl_errRatioBeyond)], narrowed := true }
def FnTrainFindUptoSaid : Prop := fnTrainFindUptoRow.holds Tryd.pinned (OpenSpec.upto fnTrainFindSpec)

/-- 'laws.FnExactTrainRatio', WHERE WHAT IT READS IS OF BULK AT MOST 1048576: true; the input reads as it did. -/
def fnExactTrainRatioUptoRow : OpenClaim := { program := "ytbdhbkedeglagaadoor", sum := "94b40d27b6ca4633d32eff28f20d323a639597a99c2b18e1758cfdfa3c88740a", func := "loop.example/turningwheels/laws.FnExactTrainRatio", spec := "fnExactTrainRatio", unfollowed := true, recurses := true, named := ["loop.example/turningwheels/impl.errRatioBeyond", "loop.example/turningwheels/impl.errTrainLength"], ifaces := true, apart := false, laid := [("loop.example/turningwheels/impl.errTrainLength", laid_loop_example_turningwheels_impl_errTrainLength), ("loop.example/turningwheels/impl.errRatioBeyond", laid_loop_example_turningwheels_impl_errRatioBeyond)], narrowed := true }
def FnExactTrainRatioUptoSaid : Prop := fnExactTrainRatioUptoRow.holds Tryd.pinned (OpenSpec.upto fnExactTrainRatioSpec)

/-- 'laws.FnExactTrainTurns', WHERE WHAT IT READS IS OF BULK AT MOST 1048576: true; the input reads as it did. -/
def fnExactTrainTurnsUptoRow : OpenClaim := { program := "ytbdhbkedeglagaadoor", sum := "94b40d27b6ca4633d32eff28f20d323a639597a99c2b18e1758cfdfa3c88740a", func := "loop.example/turningwheels/laws.FnExactTrainTurns", spec := "fnExactTrainTurns", unfollowed := true, recurses := true, named := ["loop.example/turningwheels/impl.errRatioBeyond", "loop.example/turningwheels/impl.errTrainLength"], ifaces := true, apart := false, laid := [("loop.example/turningwheels/impl.errTrainLength", laid_loop_example_turningwheels_impl_errTrainLength), ("loop.example/turningwheels/impl.errRatioBeyond", laid_loop_example_turningwheels_impl_errRatioBeyond)], narrowed := true }
def FnExactTrainTurnsUptoSaid : Prop := fnExactTrainTurnsUptoRow.holds Tryd.pinned (OpenSpec.upto fnExactTrainTurnsSpec)

/-- 'laws.FnExactTrainFind', WHERE WHAT IT READS IS OF BULK AT MOST 1048576: true; the input reads as it did. -/
def fnExactTrainFindUptoRow : OpenClaim := { program := "ytbdhbkedeglagaadoor", sum := "94b40d27b6ca4633d32eff28f20d323a639597a99c2b18e1758cfdfa3c88740a", func := "loop.example/turningwheels/laws.FnExactTrainFind", spec := "fnExactTrainFind", inPlace := ["internal/reflectlite.ValueOf", "(internal/reflectlite.Value).Type", "(internal/reflectlite.Value).IsNil", "internal/reflectlite.TypeOf", "(internal/reflectlite.Value).Elem", "(internal/reflectlite.Value).Set"], unfollowed := true, recurses := true, named := ["loop.example/turningwheels/impl.errTrainLength", "errors.errorType"], ifaces := true, apart := false, laid := [("errors.errorType", laid_errors_errorType), ("loop.example/turningwheels/impl.errTrainLength", laid_loop_example_turningwheels_impl_errTrainLength)], narrowed := true }
def FnExactTrainFindUptoSaid : Prop := fnExactTrainFindUptoRow.holds Tryd.pinned (OpenSpec.upto fnExactTrainFindSpec)

end Rows
end Go.Proofs.YtbdhbkedeglagaaDoor
