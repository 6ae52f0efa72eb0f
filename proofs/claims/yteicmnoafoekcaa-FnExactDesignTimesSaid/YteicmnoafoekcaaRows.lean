/-
  No cell of these rows narrows 'for every input' (looked for: loops, veiled, ifaces, maps, wideKeys, modest, calm, conditions, laid).
  DERIVED. THE GIVEN ROWS OF THIS SEAT. 16 by the template 'for every input the law returns true; each argument reads behind the call as it read before'; 0 by the template 'total and deterministic' (their statements: YteicmnoafoekcaaTotals.lean).
  GIVEN WITH THE SEED: the statements are not yours to turn. If you find one false, say at which input.
  Laid BY PROGRAM, IN A SANDBOX (cutbox-rows.mjs): the forced cells as the released guide's own fill.sh prints them over the translation da302d5edc7f6866… (all of the seat's roots in one cut). By AI agents, Wed Nov 11 2026. No macro, syntax, notation, axiom, sorry.
-/
import Derived.Test.YteicmnoafoekcaaChecked
import GoSem.Claim
import GoSem.ClaimJoined
import GoSem.ClaimMapViews
import Derived.JoinedTies
import Derived.KernelRfl
namespace Go.Proofs.Yteicmnoafoekcaa
/- THE CELL 'sum', in the pinned program and in every row, IS THE sha256 OF THE DUMP (.gsa) THAT YteicmnoafoekcaaProg.lean LOADS. Nothing in Lean hashes anything: it is a label: what it is worth is what the hold of that sum in a sandbox is worth. -/
noncomputable def Try.pinned : Pinned := { name := "yteicmnoafoekcaa", sum := "da302d5edc7f686666751a923faba40b9b8cbd4307a70fa9cb5e254f2156151b", checked := Try.checked }
namespace Rows
def none {H : Type} : Left H := { results := [], args := [] }

/-- 'laws.FnDesign': WHATEVER THE INPUT: true; the input reads as it did. -/
def fnDesignSpec : ChangeSpec := { name := "fnDesign", fn := fun _ => fun
  | [d] => { results := [.lit (.bool true)], args := [d] }
  | _ => none }
def fnDesignRow : OpenClaim := { program := "yteicmnoafoekcaa", sum := "da302d5edc7f686666751a923faba40b9b8cbd4307a70fa9cb5e254f2156151b", func := "loop.example/turningwheels/laws.FnDesign", spec := "fnDesign", apart := false }
def FnDesignSaid : Prop := fnDesignRow.holds Try.pinned (OpenSpec.ofChange fnDesignSpec)

/-- ITS FALSE NEIGHBOUR: 'it returns false'. Refute it at one input. -/
def fnDesignWrong : ChangeSpec := { name := "fnDesign", fn := fun _ => fun
  | [d] => { results := [.lit (.bool false)], args := [d] }
  | _ => none }
def FnDesignWrongFalsely : Prop := fnDesignRow.holds Try.pinned (OpenSpec.ofChange fnDesignWrong)

/-- 'laws.FnTidy': WHATEVER THE INPUT: true; the input reads as it did. -/
def fnTidySpec : ChangeSpec := { name := "fnTidy", fn := fun _ => fun
  | [d] => { results := [.lit (.bool true)], args := [d] }
  | _ => none }
def fnTidyRow : OpenClaim := { program := "yteicmnoafoekcaa", sum := "da302d5edc7f686666751a923faba40b9b8cbd4307a70fa9cb5e254f2156151b", func := "loop.example/turningwheels/laws.FnTidy", spec := "fnTidy", unfollowed := true, recurses := true, apart := false }
def FnTidySaid : Prop := fnTidyRow.holds Try.pinned (OpenSpec.ofChange fnTidySpec)

/-- ITS FALSE NEIGHBOUR: 'it returns false'. Refute it at one input. -/
def fnTidyWrong : ChangeSpec := { name := "fnTidy", fn := fun _ => fun
  | [d] => { results := [.lit (.bool false)], args := [d] }
  | _ => none }
def FnTidyWrongFalsely : Prop := fnTidyRow.holds Try.pinned (OpenSpec.ofChange fnTidyWrong)

/-- 'laws.FnDesignAt': WHATEVER THE INPUT: true; the input reads as it did. -/
def fnDesignAtSpec : ChangeSpec := { name := "fnDesignAt", fn := fun _ => fun
  | [d] => { results := [.lit (.bool true)], args := [d] }
  | _ => none }
def fnDesignAtRow : OpenClaim := { program := "yteicmnoafoekcaa", sum := "da302d5edc7f686666751a923faba40b9b8cbd4307a70fa9cb5e254f2156151b", func := "loop.example/turningwheels/laws.FnDesignAt", spec := "fnDesignAt", unfollowed := true, recurses := true, apart := false }
def FnDesignAtSaid : Prop := fnDesignAtRow.holds Try.pinned (OpenSpec.ofChange fnDesignAtSpec)

/-- ITS FALSE NEIGHBOUR: 'it returns false'. Refute it at one input. -/
def fnDesignAtWrong : ChangeSpec := { name := "fnDesignAt", fn := fun _ => fun
  | [d] => { results := [.lit (.bool false)], args := [d] }
  | _ => none }
def FnDesignAtWrongFalsely : Prop := fnDesignAtRow.holds Try.pinned (OpenSpec.ofChange fnDesignAtWrong)

/-- 'laws.FnDesignSum': WHATEVER THE INPUT: true; the input reads as it did. -/
def fnDesignSumSpec : ChangeSpec := { name := "fnDesignSum", fn := fun _ => fun
  | [d] => { results := [.lit (.bool true)], args := [d] }
  | _ => none }
def fnDesignSumRow : OpenClaim := { program := "yteicmnoafoekcaa", sum := "da302d5edc7f686666751a923faba40b9b8cbd4307a70fa9cb5e254f2156151b", func := "loop.example/turningwheels/laws.FnDesignSum", spec := "fnDesignSum", unfollowed := true, recurses := true, apart := false }
def FnDesignSumSaid : Prop := fnDesignSumRow.holds Try.pinned (OpenSpec.ofChange fnDesignSumSpec)

/-- ITS FALSE NEIGHBOUR: 'it returns false'. Refute it at one input. -/
def fnDesignSumWrong : ChangeSpec := { name := "fnDesignSum", fn := fun _ => fun
  | [d] => { results := [.lit (.bool false)], args := [d] }
  | _ => none }
def FnDesignSumWrongFalsely : Prop := fnDesignSumRow.holds Try.pinned (OpenSpec.ofChange fnDesignSumWrong)

/-- 'laws.FnDesignTimes': WHATEVER THE INPUT: true; the input reads as it did. -/
def fnDesignTimesSpec : ChangeSpec := { name := "fnDesignTimes", fn := fun _ => fun
  | [d] => { results := [.lit (.bool true)], args := [d] }
  | _ => none }
def fnDesignTimesRow : OpenClaim := { program := "yteicmnoafoekcaa", sum := "da302d5edc7f686666751a923faba40b9b8cbd4307a70fa9cb5e254f2156151b", func := "loop.example/turningwheels/laws.FnDesignTimes", spec := "fnDesignTimes", unfollowed := true, recurses := true, apart := false }
def FnDesignTimesSaid : Prop := fnDesignTimesRow.holds Try.pinned (OpenSpec.ofChange fnDesignTimesSpec)

/-- ITS FALSE NEIGHBOUR: 'it returns false'. Refute it at one input. -/
def fnDesignTimesWrong : ChangeSpec := { name := "fnDesignTimes", fn := fun _ => fun
  | [d] => { results := [.lit (.bool false)], args := [d] }
  | _ => none }
def FnDesignTimesWrongFalsely : Prop := fnDesignTimesRow.holds Try.pinned (OpenSpec.ofChange fnDesignTimesWrong)

/-- 'laws.FnDesignBack': WHATEVER THE INPUT: true; the input reads as it did. -/
def fnDesignBackSpec : ChangeSpec := { name := "fnDesignBack", fn := fun _ => fun
  | [d] => { results := [.lit (.bool true)], args := [d] }
  | _ => none }
def fnDesignBackRow : OpenClaim := { program := "yteicmnoafoekcaa", sum := "da302d5edc7f686666751a923faba40b9b8cbd4307a70fa9cb5e254f2156151b", func := "loop.example/turningwheels/laws.FnDesignBack", spec := "fnDesignBack", unfollowed := true, recurses := true, apart := false }
def FnDesignBackSaid : Prop := fnDesignBackRow.holds Try.pinned (OpenSpec.ofChange fnDesignBackSpec)

/-- ITS FALSE NEIGHBOUR: 'it returns false'. Refute it at one input. -/
def fnDesignBackWrong : ChangeSpec := { name := "fnDesignBack", fn := fun _ => fun
  | [d] => { results := [.lit (.bool false)], args := [d] }
  | _ => none }
def FnDesignBackWrongFalsely : Prop := fnDesignBackRow.holds Try.pinned (OpenSpec.ofChange fnDesignBackWrong)

/-- 'laws.FnFaster': WHATEVER THE INPUT: true; the input reads as it did. -/
def fnFasterSpec : ChangeSpec := { name := "fnFaster", fn := fun _ => fun
  | [d] => { results := [.lit (.bool true)], args := [d] }
  | _ => none }
def fnFasterRow : OpenClaim := { program := "yteicmnoafoekcaa", sum := "da302d5edc7f686666751a923faba40b9b8cbd4307a70fa9cb5e254f2156151b", func := "loop.example/turningwheels/laws.FnFaster", spec := "fnFaster", unfollowed := true, recurses := true, apart := false }
def FnFasterSaid : Prop := fnFasterRow.holds Try.pinned (OpenSpec.ofChange fnFasterSpec)

/-- ITS FALSE NEIGHBOUR: 'it returns false'. Refute it at one input. -/
def fnFasterWrong : ChangeSpec := { name := "fnFaster", fn := fun _ => fun
  | [d] => { results := [.lit (.bool false)], args := [d] }
  | _ => none }
def FnFasterWrongFalsely : Prop := fnFasterRow.holds Try.pinned (OpenSpec.ofChange fnFasterWrong)

/-- 'laws.FnSame': WHATEVER THE INPUT: true; the input reads as it did. -/
def fnSameSpec : ChangeSpec := { name := "fnSame", fn := fun _ => fun
  | [d] => { results := [.lit (.bool true)], args := [d] }
  | _ => none }
def fnSameRow : OpenClaim := { program := "yteicmnoafoekcaa", sum := "da302d5edc7f686666751a923faba40b9b8cbd4307a70fa9cb5e254f2156151b", func := "loop.example/turningwheels/laws.FnSame", spec := "fnSame", unfollowed := true, recurses := true, apart := false }
def FnSameSaid : Prop := fnSameRow.holds Try.pinned (OpenSpec.ofChange fnSameSpec)

/-- ITS FALSE NEIGHBOUR: 'it returns false'. Refute it at one input. -/
def fnSameWrong : ChangeSpec := { name := "fnSame", fn := fun _ => fun
  | [d] => { results := [.lit (.bool false)], args := [d] }
  | _ => none }
def FnSameWrongFalsely : Prop := fnSameRow.holds Try.pinned (OpenSpec.ofChange fnSameWrong)

/-- 'laws.FnExactDesignValid': WHATEVER THE INPUT: true; the input reads as it did. -/
def fnExactDesignValidSpec : ChangeSpec := { name := "fnExactDesignValid", fn := fun _ => fun
  | [d] => { results := [.lit (.bool true)], args := [d] }
  | _ => none }
def fnExactDesignValidRow : OpenClaim := { program := "yteicmnoafoekcaa", sum := "da302d5edc7f686666751a923faba40b9b8cbd4307a70fa9cb5e254f2156151b", func := "loop.example/turningwheels/laws.FnExactDesignValid", spec := "fnExactDesignValid", apart := false }
def FnExactDesignValidSaid : Prop := fnExactDesignValidRow.holds Try.pinned (OpenSpec.ofChange fnExactDesignValidSpec)

/-- ITS FALSE NEIGHBOUR: 'it returns false'. Refute it at one input. -/
def fnExactDesignValidWrong : ChangeSpec := { name := "fnExactDesignValid", fn := fun _ => fun
  | [d] => { results := [.lit (.bool false)], args := [d] }
  | _ => none }
def FnExactDesignValidWrongFalsely : Prop := fnExactDesignValidRow.holds Try.pinned (OpenSpec.ofChange fnExactDesignValidWrong)

/-- 'laws.FnExactDesignTidy': WHATEVER THE INPUT: true; the input reads as it did. -/
def fnExactDesignTidySpec : ChangeSpec := { name := "fnExactDesignTidy", fn := fun _ => fun
  | [d] => { results := [.lit (.bool true)], args := [d] }
  | _ => none }
def fnExactDesignTidyRow : OpenClaim := { program := "yteicmnoafoekcaa", sum := "da302d5edc7f686666751a923faba40b9b8cbd4307a70fa9cb5e254f2156151b", func := "loop.example/turningwheels/laws.FnExactDesignTidy", spec := "fnExactDesignTidy", unfollowed := true, recurses := true, apart := false }
def FnExactDesignTidySaid : Prop := fnExactDesignTidyRow.holds Try.pinned (OpenSpec.ofChange fnExactDesignTidySpec)

/-- ITS FALSE NEIGHBOUR: 'it returns false'. Refute it at one input. -/
def fnExactDesignTidyWrong : ChangeSpec := { name := "fnExactDesignTidy", fn := fun _ => fun
  | [d] => { results := [.lit (.bool false)], args := [d] }
  | _ => none }
def FnExactDesignTidyWrongFalsely : Prop := fnExactDesignTidyRow.holds Try.pinned (OpenSpec.ofChange fnExactDesignTidyWrong)

/-- 'laws.FnExactDesignAt': WHATEVER THE INPUT: true; the input reads as it did. -/
def fnExactDesignAtSpec : ChangeSpec := { name := "fnExactDesignAt", fn := fun _ => fun
  | [d1, d2] => { results := [.lit (.bool true)], args := [d1, d2] }
  | _ => none }
def fnExactDesignAtRow : OpenClaim := { program := "yteicmnoafoekcaa", sum := "da302d5edc7f686666751a923faba40b9b8cbd4307a70fa9cb5e254f2156151b", func := "loop.example/turningwheels/laws.FnExactDesignAt", spec := "fnExactDesignAt", apart := false }
def FnExactDesignAtSaid : Prop := fnExactDesignAtRow.holds Try.pinned (OpenSpec.ofChange fnExactDesignAtSpec)

/-- ITS FALSE NEIGHBOUR: 'it returns false'. Refute it at one input. -/
def fnExactDesignAtWrong : ChangeSpec := { name := "fnExactDesignAt", fn := fun _ => fun
  | [d1, d2] => { results := [.lit (.bool false)], args := [d1, d2] }
  | _ => none }
def FnExactDesignAtWrongFalsely : Prop := fnExactDesignAtRow.holds Try.pinned (OpenSpec.ofChange fnExactDesignAtWrong)

/-- 'laws.FnExactDesignSum': WHATEVER THE INPUT: true; the input reads as it did. -/
def fnExactDesignSumSpec : ChangeSpec := { name := "fnExactDesignSum", fn := fun _ => fun
  | [d1, d2] => { results := [.lit (.bool true)], args := [d1, d2] }
  | _ => none }
def fnExactDesignSumRow : OpenClaim := { program := "yteicmnoafoekcaa", sum := "da302d5edc7f686666751a923faba40b9b8cbd4307a70fa9cb5e254f2156151b", func := "loop.example/turningwheels/laws.FnExactDesignSum", spec := "fnExactDesignSum", unfollowed := true, recurses := true, apart := false }
def FnExactDesignSumSaid : Prop := fnExactDesignSumRow.holds Try.pinned (OpenSpec.ofChange fnExactDesignSumSpec)

/-- ITS FALSE NEIGHBOUR: 'it returns false'. Refute it at one input. -/
def fnExactDesignSumWrong : ChangeSpec := { name := "fnExactDesignSum", fn := fun _ => fun
  | [d1, d2] => { results := [.lit (.bool false)], args := [d1, d2] }
  | _ => none }
def FnExactDesignSumWrongFalsely : Prop := fnExactDesignSumRow.holds Try.pinned (OpenSpec.ofChange fnExactDesignSumWrong)

/-- 'laws.FnExactDesignTimes': WHATEVER THE INPUT: true; the input reads as it did. -/
def fnExactDesignTimesSpec : ChangeSpec := { name := "fnExactDesignTimes", fn := fun _ => fun
  | [d1, d2] => { results := [.lit (.bool true)], args := [d1, d2] }
  | _ => none }
def fnExactDesignTimesRow : OpenClaim := { program := "yteicmnoafoekcaa", sum := "da302d5edc7f686666751a923faba40b9b8cbd4307a70fa9cb5e254f2156151b", func := "loop.example/turningwheels/laws.FnExactDesignTimes", spec := "fnExactDesignTimes", unfollowed := true, recurses := true, apart := false }
def FnExactDesignTimesSaid : Prop := fnExactDesignTimesRow.holds Try.pinned (OpenSpec.ofChange fnExactDesignTimesSpec)

/-- ITS FALSE NEIGHBOUR: 'it returns false'. Refute it at one input. -/
def fnExactDesignTimesWrong : ChangeSpec := { name := "fnExactDesignTimes", fn := fun _ => fun
  | [d1, d2] => { results := [.lit (.bool false)], args := [d1, d2] }
  | _ => none }
def FnExactDesignTimesWrongFalsely : Prop := fnExactDesignTimesRow.holds Try.pinned (OpenSpec.ofChange fnExactDesignTimesWrong)

/-- 'laws.FnExactDesignBack': WHATEVER THE INPUT: true; the input reads as it did. -/
def fnExactDesignBackSpec : ChangeSpec := { name := "fnExactDesignBack", fn := fun _ => fun
  | [d] => { results := [.lit (.bool true)], args := [d] }
  | _ => none }
def fnExactDesignBackRow : OpenClaim := { program := "yteicmnoafoekcaa", sum := "da302d5edc7f686666751a923faba40b9b8cbd4307a70fa9cb5e254f2156151b", func := "loop.example/turningwheels/laws.FnExactDesignBack", spec := "fnExactDesignBack", unfollowed := true, recurses := true, apart := false }
def FnExactDesignBackSaid : Prop := fnExactDesignBackRow.holds Try.pinned (OpenSpec.ofChange fnExactDesignBackSpec)

/-- ITS FALSE NEIGHBOUR: 'it returns false'. Refute it at one input. -/
def fnExactDesignBackWrong : ChangeSpec := { name := "fnExactDesignBack", fn := fun _ => fun
  | [d] => { results := [.lit (.bool false)], args := [d] }
  | _ => none }
def FnExactDesignBackWrongFalsely : Prop := fnExactDesignBackRow.holds Try.pinned (OpenSpec.ofChange fnExactDesignBackWrong)

/-- 'laws.FnExactDesignFaster': WHATEVER THE INPUT: true; the input reads as it did. -/
def fnExactDesignFasterSpec : ChangeSpec := { name := "fnExactDesignFaster", fn := fun _ => fun
  | [d1, d2] => { results := [.lit (.bool true)], args := [d1, d2] }
  | _ => none }
def fnExactDesignFasterRow : OpenClaim := { program := "yteicmnoafoekcaa", sum := "da302d5edc7f686666751a923faba40b9b8cbd4307a70fa9cb5e254f2156151b", func := "loop.example/turningwheels/laws.FnExactDesignFaster", spec := "fnExactDesignFaster", unfollowed := true, recurses := true, apart := false }
def FnExactDesignFasterSaid : Prop := fnExactDesignFasterRow.holds Try.pinned (OpenSpec.ofChange fnExactDesignFasterSpec)

/-- ITS FALSE NEIGHBOUR: 'it returns false'. Refute it at one input. -/
def fnExactDesignFasterWrong : ChangeSpec := { name := "fnExactDesignFaster", fn := fun _ => fun
  | [d1, d2] => { results := [.lit (.bool false)], args := [d1, d2] }
  | _ => none }
def FnExactDesignFasterWrongFalsely : Prop := fnExactDesignFasterRow.holds Try.pinned (OpenSpec.ofChange fnExactDesignFasterWrong)

/-- 'laws.FnExactDesignSame': WHATEVER THE INPUT: true; the input reads as it did. -/
def fnExactDesignSameSpec : ChangeSpec := { name := "fnExactDesignSame", fn := fun _ => fun
  | [d1, d2] => { results := [.lit (.bool true)], args := [d1, d2] }
  | _ => none }
def fnExactDesignSameRow : OpenClaim := { program := "yteicmnoafoekcaa", sum := "da302d5edc7f686666751a923faba40b9b8cbd4307a70fa9cb5e254f2156151b", func := "loop.example/turningwheels/laws.FnExactDesignSame", spec := "fnExactDesignSame", unfollowed := true, recurses := true, apart := false }
def FnExactDesignSameSaid : Prop := fnExactDesignSameRow.holds Try.pinned (OpenSpec.ofChange fnExactDesignSameSpec)

/-- ITS FALSE NEIGHBOUR: 'it returns false'. Refute it at one input. -/
def fnExactDesignSameWrong : ChangeSpec := { name := "fnExactDesignSame", fn := fun _ => fun
  | [d1, d2] => { results := [.lit (.bool false)], args := [d1, d2] }
  | _ => none }
def FnExactDesignSameWrongFalsely : Prop := fnExactDesignSameRow.holds Try.pinned (OpenSpec.ofChange fnExactDesignSameWrong)

/- THE SECOND FORM. 'bulk': how many values and letters a reading holds, each counted each time it is reached (what is shared counts as often as it is met; a slice's spare places count too). A statement '..UptoSaid' is the law's where the arguments, and the package variables that the reading takes, are together of bulk at most 1048576: NARROWER than '..Said'. Prove '..Said' where nothing that the law and all that it calls make is longer than what came in: it says more and counts as full. Else prove '..UptoSaid'. A law counts once. -/
mutual
def uptoBulk {H : Type} : DataW H → Nat
  | .lit (.string bytes) => bytes.length + 1
  | .lit _ => 1
  | .nil => 1
  | .ptr d => uptoBulk d + 1
  | .slice elems spare => uptoBulkAll elems + uptoBulkAll spare + 1
  | .agg parts => uptoBulkAll parts + 1
  | .iface _ d => uptoBulk d + 1
  | .map entries => uptoBulkEntries entries + 1
  | .held _ => 1
def uptoBulkAll {H : Type} : List (DataW H) → Nat
  | [] => 0
  | d :: r => uptoBulk d + uptoBulkAll r
def uptoBulkEntries {H : Type} : List (Lit × DataW H) → Nat
  | [] => 0
  | x :: r => uptoBulkEntry x + uptoBulkEntries r
def uptoBulkEntry {H : Type} : Lit × DataW H → Nat
  | (.string bytes, d) => bytes.length + uptoBulk d + 1
  | (_, d) => uptoBulk d + 1
 end
def uptoSmall : (H : Type) → List (DataW H) → Bool := fun _ ds => decide (uptoBulkAll ds ≤ 1048576)
def OpenSpec.upto (s : _root_.Go.ChangeSpec) : _root_.Go.OpenSpec := { _root_.Go.OpenSpec.ofChange s with cond := some uptoSmall }

/-- 'laws.FnDesign', WHERE WHAT IT READS IS OF BULK AT MOST 1048576: true; the input reads as it did. -/
def fnDesignUptoRow : OpenClaim := { program := "yteicmnoafoekcaa", sum := "da302d5edc7f686666751a923faba40b9b8cbd4307a70fa9cb5e254f2156151b", func := "loop.example/turningwheels/laws.FnDesign", spec := "fnDesign", apart := false, narrowed := true }
def FnDesignUptoSaid : Prop := fnDesignUptoRow.holds Try.pinned (OpenSpec.upto fnDesignSpec)

/-- 'laws.FnTidy', WHERE WHAT IT READS IS OF BULK AT MOST 1048576: true; the input reads as it did. -/
def fnTidyUptoRow : OpenClaim := { program := "yteicmnoafoekcaa", sum := "da302d5edc7f686666751a923faba40b9b8cbd4307a70fa9cb5e254f2156151b", func := "loop.example/turningwheels/laws.FnTidy", spec := "fnTidy", unfollowed := true, recurses := true, apart := false, narrowed := true }
def FnTidyUptoSaid : Prop := fnTidyUptoRow.holds Try.pinned (OpenSpec.upto fnTidySpec)

/-- 'laws.FnDesignAt', WHERE WHAT IT READS IS OF BULK AT MOST 1048576: true; the input reads as it did. -/
def fnDesignAtUptoRow : OpenClaim := { program := "yteicmnoafoekcaa", sum := "da302d5edc7f686666751a923faba40b9b8cbd4307a70fa9cb5e254f2156151b", func := "loop.example/turningwheels/laws.FnDesignAt", spec := "fnDesignAt", unfollowed := true, recurses := true, apart := false, narrowed := true }
def FnDesignAtUptoSaid : Prop := fnDesignAtUptoRow.holds Try.pinned (OpenSpec.upto fnDesignAtSpec)

/-- 'laws.FnDesignSum', WHERE WHAT IT READS IS OF BULK AT MOST 1048576: true; the input reads as it did. -/
def fnDesignSumUptoRow : OpenClaim := { program := "yteicmnoafoekcaa", sum := "da302d5edc7f686666751a923faba40b9b8cbd4307a70fa9cb5e254f2156151b", func := "loop.example/turningwheels/laws.FnDesignSum", spec := "fnDesignSum", unfollowed := true, recurses := true, apart := false, narrowed := true }
def FnDesignSumUptoSaid : Prop := fnDesignSumUptoRow.holds Try.pinned (OpenSpec.upto fnDesignSumSpec)

/-- 'laws.FnDesignTimes', WHERE WHAT IT READS IS OF BULK AT MOST 1048576: true; the input reads as it did. -/
def fnDesignTimesUptoRow : OpenClaim := { program := "yteicmnoafoekcaa", sum := "da302d5edc7f686666751a923faba40b9b8cbd4307a70fa9cb5e254f2156151b", func := "loop.example/turningwheels/laws.FnDesignTimes", spec := "fnDesignTimes", unfollowed := true, recurses := true, apart := false, narrowed := true }
def FnDesignTimesUptoSaid : Prop := fnDesignTimesUptoRow.holds Try.pinned (OpenSpec.upto fnDesignTimesSpec)

/-- 'laws.FnDesignBack', WHERE WHAT IT READS IS OF BULK AT MOST 1048576: true; the input reads as it did. -/
def fnDesignBackUptoRow : OpenClaim := { program := "yteicmnoafoekcaa", sum := "da302d5edc7f686666751a923faba40b9b8cbd4307a70fa9cb5e254f2156151b", func := "loop.example/turningwheels/laws.FnDesignBack", spec := "fnDesignBack", unfollowed := true, recurses := true, apart := false, narrowed := true }
def FnDesignBackUptoSaid : Prop := fnDesignBackUptoRow.holds Try.pinned (OpenSpec.upto fnDesignBackSpec)

/-- 'laws.FnFaster', WHERE WHAT IT READS IS OF BULK AT MOST 1048576: true; the input reads as it did. -/
def fnFasterUptoRow : OpenClaim := { program := "yteicmnoafoekcaa", sum := "da302d5edc7f686666751a923faba40b9b8cbd4307a70fa9cb5e254f2156151b", func := "loop.example/turningwheels/laws.FnFaster", spec := "fnFaster", unfollowed := true, recurses := true, apart := false, narrowed := true }
def FnFasterUptoSaid : Prop := fnFasterUptoRow.holds Try.pinned (OpenSpec.upto fnFasterSpec)

/-- 'laws.FnSame', WHERE WHAT IT READS IS OF BULK AT MOST 1048576: true; the input reads as it did. -/
def fnSameUptoRow : OpenClaim := { program := "yteicmnoafoekcaa", sum := "da302d5edc7f686666751a923faba40b9b8cbd4307a70fa9cb5e254f2156151b", func := "loop.example/turningwheels/laws.FnSame", spec := "fnSame", unfollowed := true, recurses := true, apart := false, narrowed := true }
def FnSameUptoSaid : Prop := fnSameUptoRow.holds Try.pinned (OpenSpec.upto fnSameSpec)

/-- 'laws.FnExactDesignValid', WHERE WHAT IT READS IS OF BULK AT MOST 1048576: true; the input reads as it did. -/
def fnExactDesignValidUptoRow : OpenClaim := { program := "yteicmnoafoekcaa", sum := "da302d5edc7f686666751a923faba40b9b8cbd4307a70fa9cb5e254f2156151b", func := "loop.example/turningwheels/laws.FnExactDesignValid", spec := "fnExactDesignValid", apart := false, narrowed := true }
def FnExactDesignValidUptoSaid : Prop := fnExactDesignValidUptoRow.holds Try.pinned (OpenSpec.upto fnExactDesignValidSpec)

/-- 'laws.FnExactDesignTidy', WHERE WHAT IT READS IS OF BULK AT MOST 1048576: true; the input reads as it did. -/
def fnExactDesignTidyUptoRow : OpenClaim := { program := "yteicmnoafoekcaa", sum := "da302d5edc7f686666751a923faba40b9b8cbd4307a70fa9cb5e254f2156151b", func := "loop.example/turningwheels/laws.FnExactDesignTidy", spec := "fnExactDesignTidy", unfollowed := true, recurses := true, apart := false, narrowed := true }
def FnExactDesignTidyUptoSaid : Prop := fnExactDesignTidyUptoRow.holds Try.pinned (OpenSpec.upto fnExactDesignTidySpec)

/-- 'laws.FnExactDesignAt', WHERE WHAT IT READS IS OF BULK AT MOST 1048576: true; the input reads as it did. -/
def fnExactDesignAtUptoRow : OpenClaim := { program := "yteicmnoafoekcaa", sum := "da302d5edc7f686666751a923faba40b9b8cbd4307a70fa9cb5e254f2156151b", func := "loop.example/turningwheels/laws.FnExactDesignAt", spec := "fnExactDesignAt", apart := false, narrowed := true }
def FnExactDesignAtUptoSaid : Prop := fnExactDesignAtUptoRow.holds Try.pinned (OpenSpec.upto fnExactDesignAtSpec)

/-- 'laws.FnExactDesignSum', WHERE WHAT IT READS IS OF BULK AT MOST 1048576: true; the input reads as it did. -/
def fnExactDesignSumUptoRow : OpenClaim := { program := "yteicmnoafoekcaa", sum := "da302d5edc7f686666751a923faba40b9b8cbd4307a70fa9cb5e254f2156151b", func := "loop.example/turningwheels/laws.FnExactDesignSum", spec := "fnExactDesignSum", unfollowed := true, recurses := true, apart := false, narrowed := true }
def FnExactDesignSumUptoSaid : Prop := fnExactDesignSumUptoRow.holds Try.pinned (OpenSpec.upto fnExactDesignSumSpec)

/-- 'laws.FnExactDesignTimes', WHERE WHAT IT READS IS OF BULK AT MOST 1048576: true; the input reads as it did. -/
def fnExactDesignTimesUptoRow : OpenClaim := { program := "yteicmnoafoekcaa", sum := "da302d5edc7f686666751a923faba40b9b8cbd4307a70fa9cb5e254f2156151b", func := "loop.example/turningwheels/laws.FnExactDesignTimes", spec := "fnExactDesignTimes", unfollowed := true, recurses := true, apart := false, narrowed := true }
def FnExactDesignTimesUptoSaid : Prop := fnExactDesignTimesUptoRow.holds Try.pinned (OpenSpec.upto fnExactDesignTimesSpec)

/-- 'laws.FnExactDesignBack', WHERE WHAT IT READS IS OF BULK AT MOST 1048576: true; the input reads as it did. -/
def fnExactDesignBackUptoRow : OpenClaim := { program := "yteicmnoafoekcaa", sum := "da302d5edc7f686666751a923faba40b9b8cbd4307a70fa9cb5e254f2156151b", func := "loop.example/turningwheels/laws.FnExactDesignBack", spec := "fnExactDesignBack", unfollowed := true, recurses := true, apart := false, narrowed := true }
def FnExactDesignBackUptoSaid : Prop := fnExactDesignBackUptoRow.holds Try.pinned (OpenSpec.upto fnExactDesignBackSpec)

/-- 'laws.FnExactDesignFaster', WHERE WHAT IT READS IS OF BULK AT MOST 1048576: true; the input reads as it did. -/
def fnExactDesignFasterUptoRow : OpenClaim := { program := "yteicmnoafoekcaa", sum := "da302d5edc7f686666751a923faba40b9b8cbd4307a70fa9cb5e254f2156151b", func := "loop.example/turningwheels/laws.FnExactDesignFaster", spec := "fnExactDesignFaster", unfollowed := true, recurses := true, apart := false, narrowed := true }
def FnExactDesignFasterUptoSaid : Prop := fnExactDesignFasterUptoRow.holds Try.pinned (OpenSpec.upto fnExactDesignFasterSpec)

/-- 'laws.FnExactDesignSame', WHERE WHAT IT READS IS OF BULK AT MOST 1048576: true; the input reads as it did. -/
def fnExactDesignSameUptoRow : OpenClaim := { program := "yteicmnoafoekcaa", sum := "da302d5edc7f686666751a923faba40b9b8cbd4307a70fa9cb5e254f2156151b", func := "loop.example/turningwheels/laws.FnExactDesignSame", spec := "fnExactDesignSame", unfollowed := true, recurses := true, apart := false, narrowed := true }
def FnExactDesignSameUptoSaid : Prop := fnExactDesignSameUptoRow.holds Try.pinned (OpenSpec.upto fnExactDesignSameSpec)

end Rows
end Go.Proofs.Yteicmnoafoekcaa
