/-
  No cell of these rows narrows 'for every input' (looked for: loops, veiled, ifaces, maps, wideKeys, modest, calm, conditions, laid).
  DERIVED. THE GIVEN ROWS OF THIS SEAT. 6 by the template 'for every input the law returns true; each argument reads behind the call as it read before'; 0 by the template 'total and deterministic' (their statements: YtcdlenphgenejabTotals.lean).
  GIVEN WITH THE SEED: the statements are not yours to turn. If you find one false, say at which input.
  Laid BY PROGRAM, IN A SANDBOX (cutbox-rows.mjs): the forced cells as the released guide's own fill.sh prints them over the translation 56faae167c11bd11… (all of the seat's roots in one cut). By AI agents, Wed Nov 11 2026. No macro, syntax, notation, axiom, sorry.
-/
import Derived.Test.YtcdlenphgenejabChecked
import GoSem.Claim
import GoSem.ClaimJoined
import GoSem.ClaimMapViews
import Derived.JoinedTies
import Derived.KernelRfl
namespace Go.Proofs.Ytcdlenphgenejab
/- THE CELL 'sum', in the pinned program and in every row, IS THE sha256 OF THE DUMP (.gsa) THAT YtcdlenphgenejabProg.lean LOADS. Nothing in Lean hashes anything: it is a label: what it is worth is what the hold of that sum in a sandbox is worth. -/
noncomputable def Try.pinned : Pinned := { name := "ytcdlenphgenejab", sum := "56faae167c11bd1117a3ba9821dcdccb326d5e9548df657af96f78670fc07aaa", checked := Try.checked }
namespace Rows
def none {H : Type} : Left H := { results := [], args := [] }

/-- 'laws.FnExactSurdAdd': WHATEVER THE INPUT: true; the input reads as it did. -/
def fnExactSurdAddSpec : ChangeSpec := { name := "fnExactSurdAdd", fn := fun _ => fun
  | [d1, d2] => { results := [.lit (.bool true)], args := [d1, d2] }
  | _ => none }
def fnExactSurdAddRow : OpenClaim := { program := "ytcdlenphgenejab", sum := "56faae167c11bd1117a3ba9821dcdccb326d5e9548df657af96f78670fc07aaa", func := "loop.example/turningwheels/laws.FnExactSurdAdd", spec := "fnExactSurdAdd", apart := false }
def FnExactSurdAddSaid : Prop := fnExactSurdAddRow.holds Try.pinned (OpenSpec.ofChange fnExactSurdAddSpec)

/-- ITS FALSE NEIGHBOUR: 'it returns false'. Refute it at one input. -/
def fnExactSurdAddWrong : ChangeSpec := { name := "fnExactSurdAdd", fn := fun _ => fun
  | [d1, d2] => { results := [.lit (.bool false)], args := [d1, d2] }
  | _ => none }
def FnExactSurdAddWrongFalsely : Prop := fnExactSurdAddRow.holds Try.pinned (OpenSpec.ofChange fnExactSurdAddWrong)

/-- 'laws.FnExactSurdTimes': WHATEVER THE INPUT: true; the input reads as it did. -/
def fnExactSurdTimesSpec : ChangeSpec := { name := "fnExactSurdTimes", fn := fun _ => fun
  | [d1, d2] => { results := [.lit (.bool true)], args := [d1, d2] }
  | _ => none }
def fnExactSurdTimesRow : OpenClaim := { program := "ytcdlenphgenejab", sum := "56faae167c11bd1117a3ba9821dcdccb326d5e9548df657af96f78670fc07aaa", func := "loop.example/turningwheels/laws.FnExactSurdTimes", spec := "fnExactSurdTimes", apart := false }
def FnExactSurdTimesSaid : Prop := fnExactSurdTimesRow.holds Try.pinned (OpenSpec.ofChange fnExactSurdTimesSpec)

/-- ITS FALSE NEIGHBOUR: 'it returns false'. Refute it at one input. -/
def fnExactSurdTimesWrong : ChangeSpec := { name := "fnExactSurdTimes", fn := fun _ => fun
  | [d1, d2] => { results := [.lit (.bool false)], args := [d1, d2] }
  | _ => none }
def FnExactSurdTimesWrongFalsely : Prop := fnExactSurdTimesRow.holds Try.pinned (OpenSpec.ofChange fnExactSurdTimesWrong)

/-- 'laws.FnExactSurdSign': WHATEVER THE INPUT: true; the input reads as it did. -/
def fnExactSurdSignSpec : ChangeSpec := { name := "fnExactSurdSign", fn := fun _ => fun
  | [d] => { results := [.lit (.bool true)], args := [d] }
  | _ => none }
def fnExactSurdSignRow : OpenClaim := { program := "ytcdlenphgenejab", sum := "56faae167c11bd1117a3ba9821dcdccb326d5e9548df657af96f78670fc07aaa", func := "loop.example/turningwheels/laws.FnExactSurdSign", spec := "fnExactSurdSign", apart := false }
def FnExactSurdSignSaid : Prop := fnExactSurdSignRow.holds Try.pinned (OpenSpec.ofChange fnExactSurdSignSpec)

/-- ITS FALSE NEIGHBOUR: 'it returns false'. Refute it at one input. -/
def fnExactSurdSignWrong : ChangeSpec := { name := "fnExactSurdSign", fn := fun _ => fun
  | [d] => { results := [.lit (.bool false)], args := [d] }
  | _ => none }
def FnExactSurdSignWrongFalsely : Prop := fnExactSurdSignRow.holds Try.pinned (OpenSpec.ofChange fnExactSurdSignWrong)

/-- 'laws.FnExactSurdCompare': WHATEVER THE INPUT: true; the input reads as it did. -/
def fnExactSurdCompareSpec : ChangeSpec := { name := "fnExactSurdCompare", fn := fun _ => fun
  | [d1, d2] => { results := [.lit (.bool true)], args := [d1, d2] }
  | _ => none }
def fnExactSurdCompareRow : OpenClaim := { program := "ytcdlenphgenejab", sum := "56faae167c11bd1117a3ba9821dcdccb326d5e9548df657af96f78670fc07aaa", func := "loop.example/turningwheels/laws.FnExactSurdCompare", spec := "fnExactSurdCompare", apart := false }
def FnExactSurdCompareSaid : Prop := fnExactSurdCompareRow.holds Try.pinned (OpenSpec.ofChange fnExactSurdCompareSpec)

/-- ITS FALSE NEIGHBOUR: 'it returns false'. Refute it at one input. -/
def fnExactSurdCompareWrong : ChangeSpec := { name := "fnExactSurdCompare", fn := fun _ => fun
  | [d1, d2] => { results := [.lit (.bool false)], args := [d1, d2] }
  | _ => none }
def FnExactSurdCompareWrongFalsely : Prop := fnExactSurdCompareRow.holds Try.pinned (OpenSpec.ofChange fnExactSurdCompareWrong)

/-- 'laws.FnExactSurdNorm': WHATEVER THE INPUT: true; the input reads as it did. -/
def fnExactSurdNormSpec : ChangeSpec := { name := "fnExactSurdNorm", fn := fun _ => fun
  | [d] => { results := [.lit (.bool true)], args := [d] }
  | _ => none }
def fnExactSurdNormRow : OpenClaim := { program := "ytcdlenphgenejab", sum := "56faae167c11bd1117a3ba9821dcdccb326d5e9548df657af96f78670fc07aaa", func := "loop.example/turningwheels/laws.FnExactSurdNorm", spec := "fnExactSurdNorm", apart := false }
def FnExactSurdNormSaid : Prop := fnExactSurdNormRow.holds Try.pinned (OpenSpec.ofChange fnExactSurdNormSpec)

/-- ITS FALSE NEIGHBOUR: 'it returns false'. Refute it at one input. -/
def fnExactSurdNormWrong : ChangeSpec := { name := "fnExactSurdNorm", fn := fun _ => fun
  | [d] => { results := [.lit (.bool false)], args := [d] }
  | _ => none }
def FnExactSurdNormWrongFalsely : Prop := fnExactSurdNormRow.holds Try.pinned (OpenSpec.ofChange fnExactSurdNormWrong)

/-- 'laws.FnExactSurdWhole': WHATEVER THE INPUT: true; the input reads as it did. -/
def fnExactSurdWholeSpec : ChangeSpec := { name := "fnExactSurdWhole", fn := fun _ => fun
  | [d] => { results := [.lit (.bool true)], args := [d] }
  | _ => none }
def fnExactSurdWholeRow : OpenClaim := { program := "ytcdlenphgenejab", sum := "56faae167c11bd1117a3ba9821dcdccb326d5e9548df657af96f78670fc07aaa", func := "loop.example/turningwheels/laws.FnExactSurdWhole", spec := "fnExactSurdWhole", apart := false }
def FnExactSurdWholeSaid : Prop := fnExactSurdWholeRow.holds Try.pinned (OpenSpec.ofChange fnExactSurdWholeSpec)

/-- ITS FALSE NEIGHBOUR: 'it returns false'. Refute it at one input. -/
def fnExactSurdWholeWrong : ChangeSpec := { name := "fnExactSurdWhole", fn := fun _ => fun
  | [d] => { results := [.lit (.bool false)], args := [d] }
  | _ => none }
def FnExactSurdWholeWrongFalsely : Prop := fnExactSurdWholeRow.holds Try.pinned (OpenSpec.ofChange fnExactSurdWholeWrong)

/- THE SECOND FORM. 'bulk': how many values and letters a reading holds, each counted each time it is reached (what is shared counts as often as it is met; a slice's spare places count too). A statement '..UptoSaid' is the law's where the arguments, and the package variables that the reading takes, are together of bulk at most 1048576: NARROWER than '..Said'. Prove '..Said' where nothing that the law and all that it calls make is longer than what came in: it says more and counts as full. Else prove '..UptoSaid'. A law counts once. -/
mutual
def uptoBulk {H : Type} : DataW H → Nat
  | .lit (.string bytes) => bytes.length + 1
  | .lit _ => 1
  | .nil => 1
  | .ptr d => uptoBulk d + 1
  | .slice elems spare => uptoBulkAll elems + uptoBulkAll spare + 1
  | .agg parts => uptoBulkAll parts + 1
  | .iface _ d => uptoBulk d + 1
  | .map entries => uptoBulkEntries entries + 1
  | .held _ => 1
def uptoBulkAll {H : Type} : List (DataW H) → Nat
  | [] => 0
  | d :: r => uptoBulk d + uptoBulkAll r
def uptoBulkEntries {H : Type} : List (Lit × DataW H) → Nat
  | [] => 0
  | x :: r => uptoBulkEntry x + uptoBulkEntries r
def uptoBulkEntry {H : Type} : Lit × DataW H → Nat
  | (.string bytes, d) => bytes.length + uptoBulk d + 1
  | (_, d) => uptoBulk d + 1
 end
def uptoSmall : (H : Type) → List (DataW H) → Bool := fun _ ds => decide (uptoBulkAll ds ≤ 1048576)
def OpenSpec.upto (s : _root_.Go.ChangeSpec) : _root_.Go.OpenSpec := { _root_.Go.OpenSpec.ofChange s with cond := some uptoSmall }

/-- 'laws.FnExactSurdAdd', WHERE WHAT IT READS IS OF BULK AT MOST 1048576: true; the input reads as it did. -/
def fnExactSurdAddUptoRow : OpenClaim := { program := "ytcdlenphgenejab", sum := "56faae167c11bd1117a3ba9821dcdccb326d5e9548df657af96f78670fc07aaa", func := "loop.example/turningwheels/laws.FnExactSurdAdd", spec := "fnExactSurdAdd", apart := false, narrowed := true }
def FnExactSurdAddUptoSaid : Prop := fnExactSurdAddUptoRow.holds Try.pinned (OpenSpec.upto fnExactSurdAddSpec)

/-- 'laws.FnExactSurdTimes', WHERE WHAT IT READS IS OF BULK AT MOST 1048576: true; the input reads as it did. -/
def fnExactSurdTimesUptoRow : OpenClaim := { program := "ytcdlenphgenejab", sum := "56faae167c11bd1117a3ba9821dcdccb326d5e9548df657af96f78670fc07aaa", func := "loop.example/turningwheels/laws.FnExactSurdTimes", spec := "fnExactSurdTimes", apart := false, narrowed := true }
def FnExactSurdTimesUptoSaid : Prop := fnExactSurdTimesUptoRow.holds Try.pinned (OpenSpec.upto fnExactSurdTimesSpec)

/-- 'laws.FnExactSurdSign', WHERE WHAT IT READS IS OF BULK AT MOST 1048576: true; the input reads as it did. -/
def fnExactSurdSignUptoRow : OpenClaim := { program := "ytcdlenphgenejab", sum := "56faae167c11bd1117a3ba9821dcdccb326d5e9548df657af96f78670fc07aaa", func := "loop.example/turningwheels/laws.FnExactSurdSign", spec := "fnExactSurdSign", apart := false, narrowed := true }
def FnExactSurdSignUptoSaid : Prop := fnExactSurdSignUptoRow.holds Try.pinned (OpenSpec.upto fnExactSurdSignSpec)

/-- 'laws.FnExactSurdCompare', WHERE WHAT IT READS IS OF BULK AT MOST 1048576: true; the input reads as it did. -/
def fnExactSurdCompareUptoRow : OpenClaim := { program := "ytcdlenphgenejab", sum := "56faae167c11bd1117a3ba9821dcdccb326d5e9548df657af96f78670fc07aaa", func := "loop.example/turningwheels/laws.FnExactSurdCompare", spec := "fnExactSurdCompare", apart := false, narrowed := true }
def FnExactSurdCompareUptoSaid : Prop := fnExactSurdCompareUptoRow.holds Try.pinned (OpenSpec.upto fnExactSurdCompareSpec)

/-- 'laws.FnExactSurdNorm', WHERE WHAT IT READS IS OF BULK AT MOST 1048576: true; the input reads as it did. -/
def fnExactSurdNormUptoRow : OpenClaim := { program := "ytcdlenphgenejab", sum := "56faae167c11bd1117a3ba9821dcdccb326d5e9548df657af96f78670fc07aaa", func := "loop.example/turningwheels/laws.FnExactSurdNorm", spec := "fnExactSurdNorm", apart := false, narrowed := true }
def FnExactSurdNormUptoSaid : Prop := fnExactSurdNormUptoRow.holds Try.pinned (OpenSpec.upto fnExactSurdNormSpec)

/-- 'laws.FnExactSurdWhole', WHERE WHAT IT READS IS OF BULK AT MOST 1048576: true; the input reads as it did. -/
def fnExactSurdWholeUptoRow : OpenClaim := { program := "ytcdlenphgenejab", sum := "56faae167c11bd1117a3ba9821dcdccb326d5e9548df657af96f78670fc07aaa", func := "loop.example/turningwheels/laws.FnExactSurdWhole", spec := "fnExactSurdWhole", apart := false, narrowed := true }
def FnExactSurdWholeUptoSaid : Prop := fnExactSurdWholeUptoRow.holds Try.pinned (OpenSpec.upto fnExactSurdWholeSpec)

end Rows
end Go.Proofs.Ytcdlenphgenejab
