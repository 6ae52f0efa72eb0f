/-
  NARROWER THAN 'FOR EVERY INPUT', by the rows' own cells (each row's printed sentence says how): FnTurnText: laid · FnTurnRead: laid · FnExactTurnText: laid · FnExactTurnRead: laid.
  DERIVED. THE GIVEN ROWS OF THIS SEAT. 4 by the template 'for every input the law returns true; each argument reads behind the call as it read before'; 0 by the template 'total and deterministic' (their statements: YtnlbcfblfjcfnaaDoorTotals.lean).
  GIVEN WITH THE SEED: the statements are not yours to turn. If you find one false, say at which input.
  Laid BY PROGRAM, IN A SANDBOX (cutbox-rows.mjs): the forced cells as the released guide's own fill.sh prints them over the translation 4ac023110f9c787f… (all of the seat's roots in one cut). By AI agents, Wed Nov 11 2026. No macro, syntax, notation, axiom, sorry.
-/
import Derived.Test.YtnlbcfblfjcfnaaDoorChecked
import GoSem.Claim
import GoSem.ClaimJoined
import GoSem.ClaimMapViews
import Derived.JoinedTies
import Derived.KernelRfl
namespace Go.Proofs.YtnlbcfblfjcfnaaDoor
/- THE CELL 'sum', in the pinned program and in every row, IS THE sha256 OF THE DUMP (.gsa) THAT YtnlbcfblfjcfnaaDoorProg.lean LOADS. Nothing in Lean hashes anything: it is a label: what it is worth is what the hold of that sum in a sandbox is worth. -/
noncomputable def Tryd.pinned : Pinned := { name := "ytnlbcfblfjcfnaadoor", sum := "4ac023110f9c787fdcaacfe52ba887c3214805815874c1473bf9b9a8d68c42a9", checked := Tryd.checked }
namespace Rows
def none {H : Type} : Left H := { results := [], args := [] }

/- WHAT THE LISTED PACKAGE-LEVEL VARIABLES READ AS WHEN THE CALL BEGINS. Each datum BY PROGRAM (the guide's laid-datum.mjs) off the statement by which the dump's own 'gosem.cut.vars' lays the variable. In a bare row this is a premise. The card (YtnlbcfblfjcfnaaDoorCards.lean) ties it to the program's text. -/
def laid_loop_example_turningwheels_impl_turnNames {H : Type} : DataW H := .agg [.lit (.string [48]), .lit (.string [49, 47, 50, 52]), .lit (.string [49, 47, 49, 50]), .lit (.string [49, 47, 56]), .lit (.string [49, 47, 54]), .lit (.string [53, 47, 50, 52]), .lit (.string [49, 47, 52]), .lit (.string [55, 47, 50, 52]), .lit (.string [49, 47, 51]), .lit (.string [51, 47, 56]), .lit (.string [53, 47, 49, 50]), .lit (.string [49, 49, 47, 50, 52]), .lit (.string [49, 47, 50]), .lit (.string [49, 51, 47, 50, 52]), .lit (.string [55, 47, 49, 50]), .lit (.string [53, 47, 56]), .lit (.string [50, 47, 51]), .lit (.string [49, 55, 47, 50, 52]), .lit (.string [51, 47, 52]), .lit (.string [49, 57, 47, 50, 52]), .lit (.string [53, 47, 54]), .lit (.string [55, 47, 56]), .lit (.string [49, 49, 47, 49, 50]), .lit (.string [50, 51, 47, 50, 52])]

/-- 'laws.FnTurnText': WHATEVER THE INPUT: true; the input reads as it did. -/
def fnTurnTextSpec : ChangeSpec := { name := "fnTurnText", vars := ["loop.example/turningwheels/impl.turnNames"], fn := fun _ => fun
  | [d, g1] => { results := [.lit (.bool true)], args := [d], vars := [g1] }
  | _ => none }
def fnTurnTextRow : OpenClaim := { program := "ytnlbcfblfjcfnaadoor", sum := "4ac023110f9c787fdcaacfe52ba887c3214805815874c1473bf9b9a8d68c42a9", func := "loop.example/turningwheels/laws.FnTurnText", spec := "fnTurnText", recurses := true, named := ["loop.example/turningwheels/impl.turnNames"], apart := false, laid := [("loop.example/turningwheels/impl.turnNames", laid_loop_example_turningwheels_impl_turnNames)] }
def FnTurnTextSaid : Prop := fnTurnTextRow.holds Tryd.pinned (OpenSpec.ofChange fnTurnTextSpec)

/-- ITS FALSE NEIGHBOUR: 'it returns false'. Refute it at one input. -/
def fnTurnTextWrong : ChangeSpec := { name := "fnTurnText", vars := ["loop.example/turningwheels/impl.turnNames"], fn := fun _ => fun
  | [d, g1] => { results := [.lit (.bool false)], args := [d], vars := [g1] }
  | _ => none }
def FnTurnTextWrongFalsely : Prop := fnTurnTextRow.holds Tryd.pinned (OpenSpec.ofChange fnTurnTextWrong)

/-- 'laws.FnTurnRead': WHATEVER THE INPUT: true; the input reads as it did. -/
def fnTurnReadSpec : ChangeSpec := { name := "fnTurnRead", vars := ["loop.example/turningwheels/impl.turnNames"], fn := fun _ => fun
  | [d, g1] => { results := [.lit (.bool true)], args := [d], vars := [g1] }
  | _ => none }
def fnTurnReadRow : OpenClaim := { program := "ytnlbcfblfjcfnaadoor", sum := "4ac023110f9c787fdcaacfe52ba887c3214805815874c1473bf9b9a8d68c42a9", func := "loop.example/turningwheels/laws.FnTurnRead", spec := "fnTurnRead", recurses := true, named := ["loop.example/turningwheels/impl.turnNames"], apart := false, laid := [("loop.example/turningwheels/impl.turnNames", laid_loop_example_turningwheels_impl_turnNames)] }
def FnTurnReadSaid : Prop := fnTurnReadRow.holds Tryd.pinned (OpenSpec.ofChange fnTurnReadSpec)

/-- ITS FALSE NEIGHBOUR: 'it returns false'. Refute it at one input. -/
def fnTurnReadWrong : ChangeSpec := { name := "fnTurnRead", vars := ["loop.example/turningwheels/impl.turnNames"], fn := fun _ => fun
  | [d, g1] => { results := [.lit (.bool false)], args := [d], vars := [g1] }
  | _ => none }
def FnTurnReadWrongFalsely : Prop := fnTurnReadRow.holds Tryd.pinned (OpenSpec.ofChange fnTurnReadWrong)

/-- 'laws.FnExactTurnText': WHATEVER THE INPUT: true; the input reads as it did. -/
def fnExactTurnTextSpec : ChangeSpec := { name := "fnExactTurnText", vars := ["loop.example/turningwheels/impl.turnNames"], fn := fun _ => fun
  | [d, g1] => { results := [.lit (.bool true)], args := [d], vars := [g1] }
  | _ => none }
def fnExactTurnTextRow : OpenClaim := { program := "ytnlbcfblfjcfnaadoor", sum := "4ac023110f9c787fdcaacfe52ba887c3214805815874c1473bf9b9a8d68c42a9", func := "loop.example/turningwheels/laws.FnExactTurnText", spec := "fnExactTurnText", recurses := true, named := ["loop.example/turningwheels/impl.turnNames"], apart := false, laid := [("loop.example/turningwheels/impl.turnNames", laid_loop_example_turningwheels_impl_turnNames)] }
def FnExactTurnTextSaid : Prop := fnExactTurnTextRow.holds Tryd.pinned (OpenSpec.ofChange fnExactTurnTextSpec)

/-- ITS FALSE NEIGHBOUR: 'it returns false'. Refute it at one input. -/
def fnExactTurnTextWrong : ChangeSpec := { name := "fnExactTurnText", vars := ["loop.example/turningwheels/impl.turnNames"], fn := fun _ => fun
  | [d, g1] => { results := [.lit (.bool false)], args := [d], vars := [g1] }
  | _ => none }
def FnExactTurnTextWrongFalsely : Prop := fnExactTurnTextRow.holds Tryd.pinned (OpenSpec.ofChange fnExactTurnTextWrong)

/-- 'laws.FnExactTurnRead': WHATEVER THE INPUT: true; the input reads as it did. -/
def fnExactTurnReadSpec : ChangeSpec := { name := "fnExactTurnRead", vars := ["loop.example/turningwheels/impl.turnNames"], fn := fun _ => fun
  | [d, g1] => { results := [.lit (.bool true)], args := [d], vars := [g1] }
  | _ => none }
def fnExactTurnReadRow : OpenClaim := { program := "ytnlbcfblfjcfnaadoor", sum := "4ac023110f9c787fdcaacfe52ba887c3214805815874c1473bf9b9a8d68c42a9", func := "loop.example/turningwheels/laws.FnExactTurnRead", spec := "fnExactTurnRead", recurses := true, named := ["loop.example/turningwheels/impl.turnNames"], apart := false, laid := [("loop.example/turningwheels/impl.turnNames", laid_loop_example_turningwheels_impl_turnNames)] }
def FnExactTurnReadSaid : Prop := fnExactTurnReadRow.holds Tryd.pinned (OpenSpec.ofChange fnExactTurnReadSpec)

/-- ITS FALSE NEIGHBOUR: 'it returns false'. Refute it at one input. -/
def fnExactTurnReadWrong : ChangeSpec := { name := "fnExactTurnRead", vars := ["loop.example/turningwheels/impl.turnNames"], fn := fun _ => fun
  | [d, g1] => { results := [.lit (.bool false)], args := [d], vars := [g1] }
  | _ => none }
def FnExactTurnReadWrongFalsely : Prop := fnExactTurnReadRow.holds Tryd.pinned (OpenSpec.ofChange fnExactTurnReadWrong)

/- THE SECOND FORM. 'bulk': how many values and letters a reading holds, each counted each time it is reached (what is shared counts as often as it is met; a slice's spare places count too). A statement '..UptoSaid' is the law's where the arguments, and the package variables that the reading takes, are together of bulk at most 1048576: NARROWER than '..Said'. Prove '..Said' where nothing that the law and all that it calls make is longer than what came in: it says more and counts as full. Else prove '..UptoSaid'. A law counts once. -/
mutual
def uptoBulk {H : Type} : DataW H → Nat
  | .lit (.string bytes) => bytes.length + 1
  | .lit _ => 1
  | .nil => 1
  | .ptr d => uptoBulk d + 1
  | .slice elems spare => uptoBulkAll elems + uptoBulkAll spare + 1
  | .agg parts => uptoBulkAll parts + 1
  | .iface _ d => uptoBulk d + 1
  | .map entries => uptoBulkEntries entries + 1
  | .held _ => 1
def uptoBulkAll {H : Type} : List (DataW H) → Nat
  | [] => 0
  | d :: r => uptoBulk d + uptoBulkAll r
def uptoBulkEntries {H : Type} : List (Lit × DataW H) → Nat
  | [] => 0
  | x :: r => uptoBulkEntry x + uptoBulkEntries r
def uptoBulkEntry {H : Type} : Lit × DataW H → Nat
  | (.string bytes, d) => bytes.length + uptoBulk d + 1
  | (_, d) => uptoBulk d + 1
 end
def uptoSmall : (H : Type) → List (DataW H) → Bool := fun _ ds => decide (uptoBulkAll ds ≤ 1048576)
def OpenSpec.upto (s : _root_.Go.ChangeSpec) : _root_.Go.OpenSpec := { _root_.Go.OpenSpec.ofChange s with cond := some uptoSmall }

/-- 'laws.FnTurnText', WHERE WHAT IT READS IS OF BULK AT MOST 1048576: true; the input reads as it did. -/
def fnTurnTextUptoRow : OpenClaim := { program := "ytnlbcfblfjcfnaadoor", sum := "4ac023110f9c787fdcaacfe52ba887c3214805815874c1473bf9b9a8d68c42a9", func := "loop.example/turningwheels/laws.FnTurnText", spec := "fnTurnText", recurses := true, named := ["loop.example/turningwheels/impl.turnNames"], apart := false, laid := [("loop.example/turningwheels/impl.turnNames", laid_loop_example_turningwheels_impl_turnNames)], narrowed := true }
def FnTurnTextUptoSaid : Prop := fnTurnTextUptoRow.holds Tryd.pinned (OpenSpec.upto fnTurnTextSpec)

/-- 'laws.FnTurnRead', WHERE WHAT IT READS IS OF BULK AT MOST 1048576: true; the input reads as it did. -/
def fnTurnReadUptoRow : OpenClaim := { program := "ytnlbcfblfjcfnaadoor", sum := "4ac023110f9c787fdcaacfe52ba887c3214805815874c1473bf9b9a8d68c42a9", func := "loop.example/turningwheels/laws.FnTurnRead", spec := "fnTurnRead", recurses := true, named := ["loop.example/turningwheels/impl.turnNames"], apart := false, laid := [("loop.example/turningwheels/impl.turnNames", laid_loop_example_turningwheels_impl_turnNames)], narrowed := true }
def FnTurnReadUptoSaid : Prop := fnTurnReadUptoRow.holds Tryd.pinned (OpenSpec.upto fnTurnReadSpec)

/-- 'laws.FnExactTurnText', WHERE WHAT IT READS IS OF BULK AT MOST 1048576: true; the input reads as it did. -/
def fnExactTurnTextUptoRow : OpenClaim := { program := "ytnlbcfblfjcfnaadoor", sum := "4ac023110f9c787fdcaacfe52ba887c3214805815874c1473bf9b9a8d68c42a9", func := "loop.example/turningwheels/laws.FnExactTurnText", spec := "fnExactTurnText", recurses := true, named := ["loop.example/turningwheels/impl.turnNames"], apart := false, laid := [("loop.example/turningwheels/impl.turnNames", laid_loop_example_turningwheels_impl_turnNames)], narrowed := true }
def FnExactTurnTextUptoSaid : Prop := fnExactTurnTextUptoRow.holds Tryd.pinned (OpenSpec.upto fnExactTurnTextSpec)

/-- 'laws.FnExactTurnRead', WHERE WHAT IT READS IS OF BULK AT MOST 1048576: true; the input reads as it did. -/
def fnExactTurnReadUptoRow : OpenClaim := { program := "ytnlbcfblfjcfnaadoor", sum := "4ac023110f9c787fdcaacfe52ba887c3214805815874c1473bf9b9a8d68c42a9", func := "loop.example/turningwheels/laws.FnExactTurnRead", spec := "fnExactTurnRead", recurses := true, named := ["loop.example/turningwheels/impl.turnNames"], apart := false, laid := [("loop.example/turningwheels/impl.turnNames", laid_loop_example_turningwheels_impl_turnNames)], narrowed := true }
def FnExactTurnReadUptoSaid : Prop := fnExactTurnReadUptoRow.holds Tryd.pinned (OpenSpec.upto fnExactTurnReadSpec)

end Rows
end Go.Proofs.YtnlbcfblfjcfnaaDoor
