/-
  No cell of these rows narrows 'for every input' (looked for: loops, veiled, ifaces, maps, wideKeys, modest, calm, conditions, laid).
  DERIVED. THE GIVEN ROWS OF THIS SEAT. 12 by the template 'for every input the law returns true; each argument reads behind the call as it read before'; 0 by the template 'total and deterministic' (their statements: YtcdlenphgenejaaTotals.lean).
  GIVEN WITH THE SEED: the statements are not yours to turn. If you find one false, say at which input.
  Laid BY PROGRAM, IN A SANDBOX (cutbox-rows.mjs): the forced cells as the released guide's own fill.sh prints them over the translation b8716168606d9484… (all of the seat's roots in one cut). By AI agents, Wed Nov 11 2026. No macro, syntax, notation, axiom, sorry.
-/
import Derived.Test.YtcdlenphgenejaaChecked
import GoSem.Claim
import GoSem.ClaimJoined
import GoSem.ClaimMapViews
import Derived.JoinedTies
import Derived.KernelRfl
namespace Go.Proofs.Ytcdlenphgenejaa
/- THE CELL 'sum', in the pinned program and in every row, IS THE sha256 OF THE DUMP (.gsa) THAT YtcdlenphgenejaaProg.lean LOADS. Nothing in Lean hashes anything: it is a label: what it is worth is what the hold of that sum in a sandbox is worth. -/
noncomputable def Try.pinned : Pinned := { name := "ytcdlenphgenejaa", sum := "b8716168606d9484d35d3978e57e0e9095cfc9741875ba78fa52624242cc8188", checked := Try.checked }
namespace Rows
def none {H : Type} : Left H := { results := [], args := [] }

/-- 'laws.FnSurd': WHATEVER THE INPUT: true; the input reads as it did. -/
def fnSurdSpec : ChangeSpec := { name := "fnSurd", fn := fun _ => fun
  | [d] => { results := [.lit (.bool true)], args := [d] }
  | _ => none }
def fnSurdRow : OpenClaim := { program := "ytcdlenphgenejaa", sum := "b8716168606d9484d35d3978e57e0e9095cfc9741875ba78fa52624242cc8188", func := "loop.example/turningwheels/laws.FnSurd", spec := "fnSurd", apart := false }
def FnSurdSaid : Prop := fnSurdRow.holds Try.pinned (OpenSpec.ofChange fnSurdSpec)

/-- ITS FALSE NEIGHBOUR: 'it returns false'. Refute it at one input. -/
def fnSurdWrong : ChangeSpec := { name := "fnSurd", fn := fun _ => fun
  | [d] => { results := [.lit (.bool false)], args := [d] }
  | _ => none }
def FnSurdWrongFalsely : Prop := fnSurdRow.holds Try.pinned (OpenSpec.ofChange fnSurdWrong)

/-- 'laws.FnRe': WHATEVER THE INPUT: true; the input reads as it did. -/
def fnReSpec : ChangeSpec := { name := "fnRe", fn := fun _ => fun
  | [d] => { results := [.lit (.bool true)], args := [d] }
  | _ => none }
def fnReRow : OpenClaim := { program := "ytcdlenphgenejaa", sum := "b8716168606d9484d35d3978e57e0e9095cfc9741875ba78fa52624242cc8188", func := "loop.example/turningwheels/laws.FnRe", spec := "fnRe", apart := false }
def FnReSaid : Prop := fnReRow.holds Try.pinned (OpenSpec.ofChange fnReSpec)

/-- ITS FALSE NEIGHBOUR: 'it returns false'. Refute it at one input. -/
def fnReWrong : ChangeSpec := { name := "fnRe", fn := fun _ => fun
  | [d] => { results := [.lit (.bool false)], args := [d] }
  | _ => none }
def FnReWrongFalsely : Prop := fnReRow.holds Try.pinned (OpenSpec.ofChange fnReWrong)

/-- 'laws.FnIm': WHATEVER THE INPUT: true; the input reads as it did. -/
def fnImSpec : ChangeSpec := { name := "fnIm", fn := fun _ => fun
  | [d] => { results := [.lit (.bool true)], args := [d] }
  | _ => none }
def fnImRow : OpenClaim := { program := "ytcdlenphgenejaa", sum := "b8716168606d9484d35d3978e57e0e9095cfc9741875ba78fa52624242cc8188", func := "loop.example/turningwheels/laws.FnIm", spec := "fnIm", apart := false }
def FnImSaid : Prop := fnImRow.holds Try.pinned (OpenSpec.ofChange fnImSpec)

/-- ITS FALSE NEIGHBOUR: 'it returns false'. Refute it at one input. -/
def fnImWrong : ChangeSpec := { name := "fnIm", fn := fun _ => fun
  | [d] => { results := [.lit (.bool false)], args := [d] }
  | _ => none }
def FnImWrongFalsely : Prop := fnImRow.holds Try.pinned (OpenSpec.ofChange fnImWrong)

/-- 'laws.FnSurdAdd': WHATEVER THE INPUT: true; the input reads as it did. -/
def fnSurdAddSpec : ChangeSpec := { name := "fnSurdAdd", fn := fun _ => fun
  | [d] => { results := [.lit (.bool true)], args := [d] }
  | _ => none }
def fnSurdAddRow : OpenClaim := { program := "ytcdlenphgenejaa", sum := "b8716168606d9484d35d3978e57e0e9095cfc9741875ba78fa52624242cc8188", func := "loop.example/turningwheels/laws.FnSurdAdd", spec := "fnSurdAdd", apart := false }
def FnSurdAddSaid : Prop := fnSurdAddRow.holds Try.pinned (OpenSpec.ofChange fnSurdAddSpec)

/-- ITS FALSE NEIGHBOUR: 'it returns false'. Refute it at one input. -/
def fnSurdAddWrong : ChangeSpec := { name := "fnSurdAdd", fn := fun _ => fun
  | [d] => { results := [.lit (.bool false)], args := [d] }
  | _ => none }
def FnSurdAddWrongFalsely : Prop := fnSurdAddRow.holds Try.pinned (OpenSpec.ofChange fnSurdAddWrong)

/-- 'laws.FnSurdTimes': WHATEVER THE INPUT: true; the input reads as it did. -/
def fnSurdTimesSpec : ChangeSpec := { name := "fnSurdTimes", fn := fun _ => fun
  | [d] => { results := [.lit (.bool true)], args := [d] }
  | _ => none }
def fnSurdTimesRow : OpenClaim := { program := "ytcdlenphgenejaa", sum := "b8716168606d9484d35d3978e57e0e9095cfc9741875ba78fa52624242cc8188", func := "loop.example/turningwheels/laws.FnSurdTimes", spec := "fnSurdTimes", apart := false }
def FnSurdTimesSaid : Prop := fnSurdTimesRow.holds Try.pinned (OpenSpec.ofChange fnSurdTimesSpec)

/-- ITS FALSE NEIGHBOUR: 'it returns false'. Refute it at one input. -/
def fnSurdTimesWrong : ChangeSpec := { name := "fnSurdTimes", fn := fun _ => fun
  | [d] => { results := [.lit (.bool false)], args := [d] }
  | _ => none }
def FnSurdTimesWrongFalsely : Prop := fnSurdTimesRow.holds Try.pinned (OpenSpec.ofChange fnSurdTimesWrong)

/-- 'laws.FnSign': WHATEVER THE INPUT: true; the input reads as it did. -/
def fnSignSpec : ChangeSpec := { name := "fnSign", fn := fun _ => fun
  | [d] => { results := [.lit (.bool true)], args := [d] }
  | _ => none }
def fnSignRow : OpenClaim := { program := "ytcdlenphgenejaa", sum := "b8716168606d9484d35d3978e57e0e9095cfc9741875ba78fa52624242cc8188", func := "loop.example/turningwheels/laws.FnSign", spec := "fnSign", apart := false }
def FnSignSaid : Prop := fnSignRow.holds Try.pinned (OpenSpec.ofChange fnSignSpec)

/-- ITS FALSE NEIGHBOUR: 'it returns false'. Refute it at one input. -/
def fnSignWrong : ChangeSpec := { name := "fnSign", fn := fun _ => fun
  | [d] => { results := [.lit (.bool false)], args := [d] }
  | _ => none }
def FnSignWrongFalsely : Prop := fnSignRow.holds Try.pinned (OpenSpec.ofChange fnSignWrong)

/-- 'laws.FnCompare': WHATEVER THE INPUT: true; the input reads as it did. -/
def fnCompareSpec : ChangeSpec := { name := "fnCompare", fn := fun _ => fun
  | [d] => { results := [.lit (.bool true)], args := [d] }
  | _ => none }
def fnCompareRow : OpenClaim := { program := "ytcdlenphgenejaa", sum := "b8716168606d9484d35d3978e57e0e9095cfc9741875ba78fa52624242cc8188", func := "loop.example/turningwheels/laws.FnCompare", spec := "fnCompare", apart := false }
def FnCompareSaid : Prop := fnCompareRow.holds Try.pinned (OpenSpec.ofChange fnCompareSpec)

/-- ITS FALSE NEIGHBOUR: 'it returns false'. Refute it at one input. -/
def fnCompareWrong : ChangeSpec := { name := "fnCompare", fn := fun _ => fun
  | [d] => { results := [.lit (.bool false)], args := [d] }
  | _ => none }
def FnCompareWrongFalsely : Prop := fnCompareRow.holds Try.pinned (OpenSpec.ofChange fnCompareWrong)

/-- 'laws.FnNorm': WHATEVER THE INPUT: true; the input reads as it did. -/
def fnNormSpec : ChangeSpec := { name := "fnNorm", fn := fun _ => fun
  | [d] => { results := [.lit (.bool true)], args := [d] }
  | _ => none }
def fnNormRow : OpenClaim := { program := "ytcdlenphgenejaa", sum := "b8716168606d9484d35d3978e57e0e9095cfc9741875ba78fa52624242cc8188", func := "loop.example/turningwheels/laws.FnNorm", spec := "fnNorm", apart := false }
def FnNormSaid : Prop := fnNormRow.holds Try.pinned (OpenSpec.ofChange fnNormSpec)

/-- ITS FALSE NEIGHBOUR: 'it returns false'. Refute it at one input. -/
def fnNormWrong : ChangeSpec := { name := "fnNorm", fn := fun _ => fun
  | [d] => { results := [.lit (.bool false)], args := [d] }
  | _ => none }
def FnNormWrongFalsely : Prop := fnNormRow.holds Try.pinned (OpenSpec.ofChange fnNormWrong)

/-- 'laws.FnWhole': WHATEVER THE INPUT: true; the input reads as it did. -/
def fnWholeSpec : ChangeSpec := { name := "fnWhole", fn := fun _ => fun
  | [d] => { results := [.lit (.bool true)], args := [d] }
  | _ => none }
def fnWholeRow : OpenClaim := { program := "ytcdlenphgenejaa", sum := "b8716168606d9484d35d3978e57e0e9095cfc9741875ba78fa52624242cc8188", func := "loop.example/turningwheels/laws.FnWhole", spec := "fnWhole", apart := false }
def FnWholeSaid : Prop := fnWholeRow.holds Try.pinned (OpenSpec.ofChange fnWholeSpec)

/-- ITS FALSE NEIGHBOUR: 'it returns false'. Refute it at one input. -/
def fnWholeWrong : ChangeSpec := { name := "fnWhole", fn := fun _ => fun
  | [d] => { results := [.lit (.bool false)], args := [d] }
  | _ => none }
def FnWholeWrongFalsely : Prop := fnWholeRow.holds Try.pinned (OpenSpec.ofChange fnWholeWrong)

/-- 'laws.FnExactSurdValid': WHATEVER THE INPUT: true; the input reads as it did. -/
def fnExactSurdValidSpec : ChangeSpec := { name := "fnExactSurdValid", fn := fun _ => fun
  | [d] => { results := [.lit (.bool true)], args := [d] }
  | _ => none }
def fnExactSurdValidRow : OpenClaim := { program := "ytcdlenphgenejaa", sum := "b8716168606d9484d35d3978e57e0e9095cfc9741875ba78fa52624242cc8188", func := "loop.example/turningwheels/laws.FnExactSurdValid", spec := "fnExactSurdValid", apart := false }
def FnExactSurdValidSaid : Prop := fnExactSurdValidRow.holds Try.pinned (OpenSpec.ofChange fnExactSurdValidSpec)

/-- ITS FALSE NEIGHBOUR: 'it returns false'. Refute it at one input. -/
def fnExactSurdValidWrong : ChangeSpec := { name := "fnExactSurdValid", fn := fun _ => fun
  | [d] => { results := [.lit (.bool false)], args := [d] }
  | _ => none }
def FnExactSurdValidWrongFalsely : Prop := fnExactSurdValidRow.holds Try.pinned (OpenSpec.ofChange fnExactSurdValidWrong)

/-- 'laws.FnExactSurdRe': WHATEVER THE INPUT: true; the input reads as it did. -/
def fnExactSurdReSpec : ChangeSpec := { name := "fnExactSurdRe", fn := fun _ => fun
  | [d] => { results := [.lit (.bool true)], args := [d] }
  | _ => none }
def fnExactSurdReRow : OpenClaim := { program := "ytcdlenphgenejaa", sum := "b8716168606d9484d35d3978e57e0e9095cfc9741875ba78fa52624242cc8188", func := "loop.example/turningwheels/laws.FnExactSurdRe", spec := "fnExactSurdRe", apart := false }
def FnExactSurdReSaid : Prop := fnExactSurdReRow.holds Try.pinned (OpenSpec.ofChange fnExactSurdReSpec)

/-- ITS FALSE NEIGHBOUR: 'it returns false'. Refute it at one input. -/
def fnExactSurdReWrong : ChangeSpec := { name := "fnExactSurdRe", fn := fun _ => fun
  | [d] => { results := [.lit (.bool false)], args := [d] }
  | _ => none }
def FnExactSurdReWrongFalsely : Prop := fnExactSurdReRow.holds Try.pinned (OpenSpec.ofChange fnExactSurdReWrong)

/-- 'laws.FnExactSurdIm': WHATEVER THE INPUT: true; the input reads as it did. -/
def fnExactSurdImSpec : ChangeSpec := { name := "fnExactSurdIm", fn := fun _ => fun
  | [d] => { results := [.lit (.bool true)], args := [d] }
  | _ => none }
def fnExactSurdImRow : OpenClaim := { program := "ytcdlenphgenejaa", sum := "b8716168606d9484d35d3978e57e0e9095cfc9741875ba78fa52624242cc8188", func := "loop.example/turningwheels/laws.FnExactSurdIm", spec := "fnExactSurdIm", apart := false }
def FnExactSurdImSaid : Prop := fnExactSurdImRow.holds Try.pinned (OpenSpec.ofChange fnExactSurdImSpec)

/-- ITS FALSE NEIGHBOUR: 'it returns false'. Refute it at one input. -/
def fnExactSurdImWrong : ChangeSpec := { name := "fnExactSurdIm", fn := fun _ => fun
  | [d] => { results := [.lit (.bool false)], args := [d] }
  | _ => none }
def FnExactSurdImWrongFalsely : Prop := fnExactSurdImRow.holds Try.pinned (OpenSpec.ofChange fnExactSurdImWrong)

/- THE SECOND FORM. 'bulk': how many values and letters a reading holds, each counted each time it is reached (what is shared counts as often as it is met; a slice's spare places count too). A statement '..UptoSaid' is the law's where the arguments, and the package variables that the reading takes, are together of bulk at most 1048576: NARROWER than '..Said'. Prove '..Said' where nothing that the law and all that it calls make is longer than what came in: it says more and counts as full. Else prove '..UptoSaid'. A law counts once. -/
mutual
def uptoBulk {H : Type} : DataW H → Nat
  | .lit (.string bytes) => bytes.length + 1
  | .lit _ => 1
  | .nil => 1
  | .ptr d => uptoBulk d + 1
  | .slice elems spare => uptoBulkAll elems + uptoBulkAll spare + 1
  | .agg parts => uptoBulkAll parts + 1
  | .iface _ d => uptoBulk d + 1
  | .map entries => uptoBulkEntries entries + 1
  | .held _ => 1
def uptoBulkAll {H : Type} : List (DataW H) → Nat
  | [] => 0
  | d :: r => uptoBulk d + uptoBulkAll r
def uptoBulkEntries {H : Type} : List (Lit × DataW H) → Nat
  | [] => 0
  | x :: r => uptoBulkEntry x + uptoBulkEntries r
def uptoBulkEntry {H : Type} : Lit × DataW H → Nat
  | (.string bytes, d) => bytes.length + uptoBulk d + 1
  | (_, d) => uptoBulk d + 1
 end
def uptoSmall : (H : Type) → List (DataW H) → Bool := fun _ ds => decide (uptoBulkAll ds ≤ 1048576)
def OpenSpec.upto (s : _root_.Go.ChangeSpec) : _root_.Go.OpenSpec := { _root_.Go.OpenSpec.ofChange s with cond := some uptoSmall }

/-- 'laws.FnSurd', WHERE WHAT IT READS IS OF BULK AT MOST 1048576: true; the input reads as it did. -/
def fnSurdUptoRow : OpenClaim := { program := "ytcdlenphgenejaa", sum := "b8716168606d9484d35d3978e57e0e9095cfc9741875ba78fa52624242cc8188", func := "loop.example/turningwheels/laws.FnSurd", spec := "fnSurd", apart := false, narrowed := true }
def FnSurdUptoSaid : Prop := fnSurdUptoRow.holds Try.pinned (OpenSpec.upto fnSurdSpec)

/-- 'laws.FnRe', WHERE WHAT IT READS IS OF BULK AT MOST 1048576: true; the input reads as it did. -/
def fnReUptoRow : OpenClaim := { program := "ytcdlenphgenejaa", sum := "b8716168606d9484d35d3978e57e0e9095cfc9741875ba78fa52624242cc8188", func := "loop.example/turningwheels/laws.FnRe", spec := "fnRe", apart := false, narrowed := true }
def FnReUptoSaid : Prop := fnReUptoRow.holds Try.pinned (OpenSpec.upto fnReSpec)

/-- 'laws.FnIm', WHERE WHAT IT READS IS OF BULK AT MOST 1048576: true; the input reads as it did. -/
def fnImUptoRow : OpenClaim := { program := "ytcdlenphgenejaa", sum := "b8716168606d9484d35d3978e57e0e9095cfc9741875ba78fa52624242cc8188", func := "loop.example/turningwheels/laws.FnIm", spec := "fnIm", apart := false, narrowed := true }
def FnImUptoSaid : Prop := fnImUptoRow.holds Try.pinned (OpenSpec.upto fnImSpec)

/-- 'laws.FnSurdAdd', WHERE WHAT IT READS IS OF BULK AT MOST 1048576: true; the input reads as it did. -/
def fnSurdAddUptoRow : OpenClaim := { program := "ytcdlenphgenejaa", sum := "b8716168606d9484d35d3978e57e0e9095cfc9741875ba78fa52624242cc8188", func := "loop.example/turningwheels/laws.FnSurdAdd", spec := "fnSurdAdd", apart := false, narrowed := true }
def FnSurdAddUptoSaid : Prop := fnSurdAddUptoRow.holds Try.pinned (OpenSpec.upto fnSurdAddSpec)

/-- 'laws.FnSurdTimes', WHERE WHAT IT READS IS OF BULK AT MOST 1048576: true; the input reads as it did. -/
def fnSurdTimesUptoRow : OpenClaim := { program := "ytcdlenphgenejaa", sum := "b8716168606d9484d35d3978e57e0e9095cfc9741875ba78fa52624242cc8188", func := "loop.example/turningwheels/laws.FnSurdTimes", spec := "fnSurdTimes", apart := false, narrowed := true }
def FnSurdTimesUptoSaid : Prop := fnSurdTimesUptoRow.holds Try.pinned (OpenSpec.upto fnSurdTimesSpec)

/-- 'laws.FnSign', WHERE WHAT IT READS IS OF BULK AT MOST 1048576: true; the input reads as it did. -/
def fnSignUptoRow : OpenClaim := { program := "ytcdlenphgenejaa", sum := "b8716168606d9484d35d3978e57e0e9095cfc9741875ba78fa52624242cc8188", func := "loop.example/turningwheels/laws.FnSign", spec := "fnSign", apart := false, narrowed := true }
def FnSignUptoSaid : Prop := fnSignUptoRow.holds Try.pinned (OpenSpec.upto fnSignSpec)

/-- 'laws.FnCompare', WHERE WHAT IT READS IS OF BULK AT MOST 1048576: true; the input reads as it did. -/
def fnCompareUptoRow : OpenClaim := { program := "ytcdlenphgenejaa", sum := "b8716168606d9484d35d3978e57e0e9095cfc9741875ba78fa52624242cc8188", func := "loop.example/turningwheels/laws.FnCompare", spec := "fnCompare", apart := false, narrowed := true }
def FnCompareUptoSaid : Prop := fnCompareUptoRow.holds Try.pinned (OpenSpec.upto fnCompareSpec)

/-- 'laws.FnNorm', WHERE WHAT IT READS IS OF BULK AT MOST 1048576: true; the input reads as it did. -/
def fnNormUptoRow : OpenClaim := { program := "ytcdlenphgenejaa", sum := "b8716168606d9484d35d3978e57e0e9095cfc9741875ba78fa52624242cc8188", func := "loop.example/turningwheels/laws.FnNorm", spec := "fnNorm", apart := false, narrowed := true }
def FnNormUptoSaid : Prop := fnNormUptoRow.holds Try.pinned (OpenSpec.upto fnNormSpec)

/-- 'laws.FnWhole', WHERE WHAT IT READS IS OF BULK AT MOST 1048576: true; the input reads as it did. -/
def fnWholeUptoRow : OpenClaim := { program := "ytcdlenphgenejaa", sum := "b8716168606d9484d35d3978e57e0e9095cfc9741875ba78fa52624242cc8188", func := "loop.example/turningwheels/laws.FnWhole", spec := "fnWhole", apart := false, narrowed := true }
def FnWholeUptoSaid : Prop := fnWholeUptoRow.holds Try.pinned (OpenSpec.upto fnWholeSpec)

/-- 'laws.FnExactSurdValid', WHERE WHAT IT READS IS OF BULK AT MOST 1048576: true; the input reads as it did. -/
def fnExactSurdValidUptoRow : OpenClaim := { program := "ytcdlenphgenejaa", sum := "b8716168606d9484d35d3978e57e0e9095cfc9741875ba78fa52624242cc8188", func := "loop.example/turningwheels/laws.FnExactSurdValid", spec := "fnExactSurdValid", apart := false, narrowed := true }
def FnExactSurdValidUptoSaid : Prop := fnExactSurdValidUptoRow.holds Try.pinned (OpenSpec.upto fnExactSurdValidSpec)

/-- 'laws.FnExactSurdRe', WHERE WHAT IT READS IS OF BULK AT MOST 1048576: true; the input reads as it did. -/
def fnExactSurdReUptoRow : OpenClaim := { program := "ytcdlenphgenejaa", sum := "b8716168606d9484d35d3978e57e0e9095cfc9741875ba78fa52624242cc8188", func := "loop.example/turningwheels/laws.FnExactSurdRe", spec := "fnExactSurdRe", apart := false, narrowed := true }
def FnExactSurdReUptoSaid : Prop := fnExactSurdReUptoRow.holds Try.pinned (OpenSpec.upto fnExactSurdReSpec)

/-- 'laws.FnExactSurdIm', WHERE WHAT IT READS IS OF BULK AT MOST 1048576: true; the input reads as it did. -/
def fnExactSurdImUptoRow : OpenClaim := { program := "ytcdlenphgenejaa", sum := "b8716168606d9484d35d3978e57e0e9095cfc9741875ba78fa52624242cc8188", func := "loop.example/turningwheels/laws.FnExactSurdIm", spec := "fnExactSurdIm", apart := false, narrowed := true }
def FnExactSurdImUptoSaid : Prop := fnExactSurdImUptoRow.holds Try.pinned (OpenSpec.upto fnExactSurdImSpec)

end Rows
end Go.Proofs.Ytcdlenphgenejaa
