/-
  No cell of these rows narrows 'for every input' (looked for: loops, veiled, ifaces, maps, wideKeys, modest, calm, conditions, laid).
  DERIVED. THE GIVEN ROWS OF THIS SEAT. 8 by the template 'for every input the law returns true; each argument reads behind the call as it read before'; 0 by the template 'total and deterministic' (their statements: YtbdhbkedeglagaaTotals.lean).
  GIVEN WITH THE SEED: the statements are not yours to turn. If you find one false, say at which input.
  Laid BY PROGRAM, IN A SANDBOX (cutbox-rows.mjs): the forced cells as the released guide's own fill.sh prints them over the translation 25766b87e37a362a… (all of the seat's roots in one cut). By AI agents, Wed Nov 11 2026. No macro, syntax, notation, axiom, sorry.
-/
import Derived.Test.YtbdhbkedeglagaaChecked
import GoSem.Claim
import GoSem.ClaimJoined
import GoSem.ClaimMapViews
import Derived.JoinedTies
import Derived.KernelRfl
namespace Go.Proofs.Ytbdhbkedeglagaa
/- THE CELL 'sum', in the pinned program and in every row, IS THE sha256 OF THE DUMP (.gsa) THAT YtbdhbkedeglagaaProg.lean LOADS. Nothing in Lean hashes anything: it is a label: what it is worth is what the hold of that sum in a sandbox is worth. -/
noncomputable def Try.pinned : Pinned := { name := "ytbdhbkedeglagaa", sum := "25766b87e37a362a7570ffe4c2aabb5d0f97d613c0fa9be82cf9d5ae12aeb4ba", checked := Try.checked }
namespace Rows
def none {H : Type} : Left H := { results := [], args := [] }

/-- 'laws.FnCusps': WHATEVER THE INPUT: true; the input reads as it did. -/
def fnCuspsSpec : ChangeSpec := { name := "fnCusps", fn := fun _ => fun
  | [d] => { results := [.lit (.bool true)], args := [d] }
  | _ => none }
def fnCuspsRow : OpenClaim := { program := "ytbdhbkedeglagaa", sum := "25766b87e37a362a7570ffe4c2aabb5d0f97d613c0fa9be82cf9d5ae12aeb4ba", func := "loop.example/turningwheels/laws.FnCusps", spec := "fnCusps", apart := false }
def FnCuspsSaid : Prop := fnCuspsRow.holds Try.pinned (OpenSpec.ofChange fnCuspsSpec)

/-- ITS FALSE NEIGHBOUR: 'it returns false'. Refute it at one input. -/
def fnCuspsWrong : ChangeSpec := { name := "fnCusps", fn := fun _ => fun
  | [d] => { results := [.lit (.bool false)], args := [d] }
  | _ => none }
def FnCuspsWrongFalsely : Prop := fnCuspsRow.holds Try.pinned (OpenSpec.ofChange fnCuspsWrong)

/-- 'laws.FnRounds': WHATEVER THE INPUT: true; the input reads as it did. -/
def fnRoundsSpec : ChangeSpec := { name := "fnRounds", fn := fun _ => fun
  | [d] => { results := [.lit (.bool true)], args := [d] }
  | _ => none }
def fnRoundsRow : OpenClaim := { program := "ytbdhbkedeglagaa", sum := "25766b87e37a362a7570ffe4c2aabb5d0f97d613c0fa9be82cf9d5ae12aeb4ba", func := "loop.example/turningwheels/laws.FnRounds", spec := "fnRounds", apart := false }
def FnRoundsSaid : Prop := fnRoundsRow.holds Try.pinned (OpenSpec.ofChange fnRoundsSpec)

/-- ITS FALSE NEIGHBOUR: 'it returns false'. Refute it at one input. -/
def fnRoundsWrong : ChangeSpec := { name := "fnRounds", fn := fun _ => fun
  | [d] => { results := [.lit (.bool false)], args := [d] }
  | _ => none }
def FnRoundsWrongFalsely : Prop := fnRoundsRow.holds Try.pinned (OpenSpec.ofChange fnRoundsWrong)

/-- 'laws.FnRing': WHATEVER THE INPUT: true; the input reads as it did. -/
def fnRingSpec : ChangeSpec := { name := "fnRing", fn := fun _ => fun
  | [d] => { results := [.lit (.bool true)], args := [d] }
  | _ => none }
def fnRingRow : OpenClaim := { program := "ytbdhbkedeglagaa", sum := "25766b87e37a362a7570ffe4c2aabb5d0f97d613c0fa9be82cf9d5ae12aeb4ba", func := "loop.example/turningwheels/laws.FnRing", spec := "fnRing", unfollowed := true, recurses := true, apart := false }
def FnRingSaid : Prop := fnRingRow.holds Try.pinned (OpenSpec.ofChange fnRingSpec)

/-- ITS FALSE NEIGHBOUR: 'it returns false'. Refute it at one input. -/
def fnRingWrong : ChangeSpec := { name := "fnRing", fn := fun _ => fun
  | [d] => { results := [.lit (.bool false)], args := [d] }
  | _ => none }
def FnRingWrongFalsely : Prop := fnRingRow.holds Try.pinned (OpenSpec.ofChange fnRingWrong)

/-- 'laws.FnRingSame': WHATEVER THE INPUT: true; the input reads as it did. -/
def fnRingSameSpec : ChangeSpec := { name := "fnRingSame", fn := fun _ => fun
  | [d] => { results := [.lit (.bool true)], args := [d] }
  | _ => none }
def fnRingSameRow : OpenClaim := { program := "ytbdhbkedeglagaa", sum := "25766b87e37a362a7570ffe4c2aabb5d0f97d613c0fa9be82cf9d5ae12aeb4ba", func := "loop.example/turningwheels/laws.FnRingSame", spec := "fnRingSame", unfollowed := true, recurses := true, apart := false }
def FnRingSameSaid : Prop := fnRingSameRow.holds Try.pinned (OpenSpec.ofChange fnRingSameSpec)

/-- ITS FALSE NEIGHBOUR: 'it returns false'. Refute it at one input. -/
def fnRingSameWrong : ChangeSpec := { name := "fnRingSame", fn := fun _ => fun
  | [d] => { results := [.lit (.bool false)], args := [d] }
  | _ => none }
def FnRingSameWrongFalsely : Prop := fnRingSameRow.holds Try.pinned (OpenSpec.ofChange fnRingSameWrong)

/-- 'laws.FnExactRingCusps': WHATEVER THE INPUT: true; the input reads as it did. -/
def fnExactRingCuspsSpec : ChangeSpec := { name := "fnExactRingCusps", fn := fun _ => fun
  | [d1, d2, d3] => { results := [.lit (.bool true)], args := [d1, d2, d3] }
  | _ => none }
def fnExactRingCuspsRow : OpenClaim := { program := "ytbdhbkedeglagaa", sum := "25766b87e37a362a7570ffe4c2aabb5d0f97d613c0fa9be82cf9d5ae12aeb4ba", func := "loop.example/turningwheels/laws.FnExactRingCusps", spec := "fnExactRingCusps", apart := false }
def FnExactRingCuspsSaid : Prop := fnExactRingCuspsRow.holds Try.pinned (OpenSpec.ofChange fnExactRingCuspsSpec)

/-- ITS FALSE NEIGHBOUR: 'it returns false'. Refute it at one input. -/
def fnExactRingCuspsWrong : ChangeSpec := { name := "fnExactRingCusps", fn := fun _ => fun
  | [d1, d2, d3] => { results := [.lit (.bool false)], args := [d1, d2, d3] }
  | _ => none }
def FnExactRingCuspsWrongFalsely : Prop := fnExactRingCuspsRow.holds Try.pinned (OpenSpec.ofChange fnExactRingCuspsWrong)

/-- 'laws.FnExactRingRounds': WHATEVER THE INPUT: true; the input reads as it did. -/
def fnExactRingRoundsSpec : ChangeSpec := { name := "fnExactRingRounds", fn := fun _ => fun
  | [d1, d2, d3] => { results := [.lit (.bool true)], args := [d1, d2, d3] }
  | _ => none }
def fnExactRingRoundsRow : OpenClaim := { program := "ytbdhbkedeglagaa", sum := "25766b87e37a362a7570ffe4c2aabb5d0f97d613c0fa9be82cf9d5ae12aeb4ba", func := "loop.example/turningwheels/laws.FnExactRingRounds", spec := "fnExactRingRounds", apart := false }
def FnExactRingRoundsSaid : Prop := fnExactRingRoundsRow.holds Try.pinned (OpenSpec.ofChange fnExactRingRoundsSpec)

/-- ITS FALSE NEIGHBOUR: 'it returns false'. Refute it at one input. -/
def fnExactRingRoundsWrong : ChangeSpec := { name := "fnExactRingRounds", fn := fun _ => fun
  | [d1, d2, d3] => { results := [.lit (.bool false)], args := [d1, d2, d3] }
  | _ => none }
def FnExactRingRoundsWrongFalsely : Prop := fnExactRingRoundsRow.holds Try.pinned (OpenSpec.ofChange fnExactRingRoundsWrong)

/-- 'laws.FnExactRingDesign': WHATEVER THE INPUT: true; the input reads as it did. -/
def fnExactRingDesignSpec : ChangeSpec := { name := "fnExactRingDesign", fn := fun _ => fun
  | [d1, d2, d3, d4] => { results := [.lit (.bool true)], args := [d1, d2, d3, d4] }
  | _ => none }
def fnExactRingDesignRow : OpenClaim := { program := "ytbdhbkedeglagaa", sum := "25766b87e37a362a7570ffe4c2aabb5d0f97d613c0fa9be82cf9d5ae12aeb4ba", func := "loop.example/turningwheels/laws.FnExactRingDesign", spec := "fnExactRingDesign", unfollowed := true, recurses := true, apart := false }
def FnExactRingDesignSaid : Prop := fnExactRingDesignRow.holds Try.pinned (OpenSpec.ofChange fnExactRingDesignSpec)

/-- ITS FALSE NEIGHBOUR: 'it returns false'. Refute it at one input. -/
def fnExactRingDesignWrong : ChangeSpec := { name := "fnExactRingDesign", fn := fun _ => fun
  | [d1, d2, d3, d4] => { results := [.lit (.bool false)], args := [d1, d2, d3, d4] }
  | _ => none }
def FnExactRingDesignWrongFalsely : Prop := fnExactRingDesignRow.holds Try.pinned (OpenSpec.ofChange fnExactRingDesignWrong)

/-- 'laws.FnExactRingSame': WHATEVER THE INPUT: true; the input reads as it did. -/
def fnExactRingSameSpec : ChangeSpec := { name := "fnExactRingSame", fn := fun _ => fun
  | [d1, d2, d3, d4] => { results := [.lit (.bool true)], args := [d1, d2, d3, d4] }
  | _ => none }
def fnExactRingSameRow : OpenClaim := { program := "ytbdhbkedeglagaa", sum := "25766b87e37a362a7570ffe4c2aabb5d0f97d613c0fa9be82cf9d5ae12aeb4ba", func := "loop.example/turningwheels/laws.FnExactRingSame", spec := "fnExactRingSame", unfollowed := true, recurses := true, apart := false }
def FnExactRingSameSaid : Prop := fnExactRingSameRow.holds Try.pinned (OpenSpec.ofChange fnExactRingSameSpec)

/-- ITS FALSE NEIGHBOUR: 'it returns false'. Refute it at one input. -/
def fnExactRingSameWrong : ChangeSpec := { name := "fnExactRingSame", fn := fun _ => fun
  | [d1, d2, d3, d4] => { results := [.lit (.bool false)], args := [d1, d2, d3, d4] }
  | _ => none }
def FnExactRingSameWrongFalsely : Prop := fnExactRingSameRow.holds Try.pinned (OpenSpec.ofChange fnExactRingSameWrong)

/- THE SECOND FORM. 'bulk': how many values and letters a reading holds, each counted each time it is reached (what is shared counts as often as it is met; a slice's spare places count too). A statement '..UptoSaid' is the law's where the arguments, and the package variables that the reading takes, are together of bulk at most 1048576: NARROWER than '..Said'. Prove '..Said' where nothing that the law and all that it calls make is longer than what came in: it says more and counts as full. Else prove '..UptoSaid'. A law counts once. -/
mutual
def uptoBulk {H : Type} : DataW H → Nat
  | .lit (.string bytes) => bytes.length + 1
  | .lit _ => 1
  | .nil => 1
  | .ptr d => uptoBulk d + 1
  | .slice elems spare => uptoBulkAll elems + uptoBulkAll spare + 1
  | .agg parts => uptoBulkAll parts + 1
  | .iface _ d => uptoBulk d + 1
  | .map entries => uptoBulkEntries entries + 1
  | .held _ => 1
def uptoBulkAll {H : Type} : List (DataW H) → Nat
  | [] => 0
  | d :: r => uptoBulk d + uptoBulkAll r
def uptoBulkEntries {H : Type} : List (Lit × DataW H) → Nat
  | [] => 0
  | x :: r => uptoBulkEntry x + uptoBulkEntries r
def uptoBulkEntry {H : Type} : Lit × DataW H → Nat
  | (.string bytes, d) => bytes.length + uptoBulk d + 1
  | (_, d) => uptoBulk d + 1
 end
def uptoSmall : (H : Type) → List (DataW H) → Bool := fun _ ds => decide (uptoBulkAll ds ≤ 1048576)
def OpenSpec.upto (s : _root_.Go.ChangeSpec) : _root_.Go.OpenSpec := { _root_.Go.OpenSpec.ofChange s with cond := some uptoSmall }

/-- 'laws.FnCusps', WHERE WHAT IT READS IS OF BULK AT MOST 1048576: true; the input reads as it did. -/
def fnCuspsUptoRow : OpenClaim := { program := "ytbdhbkedeglagaa", sum := "25766b87e37a362a7570ffe4c2aabb5d0f97d613c0fa9be82cf9d5ae12aeb4ba", func := "loop.example/turningwheels/laws.FnCusps", spec := "fnCusps", apart := false, narrowed := true }
def FnCuspsUptoSaid : Prop := fnCuspsUptoRow.holds Try.pinned (OpenSpec.upto fnCuspsSpec)

/-- 'laws.FnRounds', WHERE WHAT IT READS IS OF BULK AT MOST 1048576: true; the input reads as it did. -/
def fnRoundsUptoRow : OpenClaim := { program := "ytbdhbkedeglagaa", sum := "25766b87e37a362a7570ffe4c2aabb5d0f97d613c0fa9be82cf9d5ae12aeb4ba", func := "loop.example/turningwheels/laws.FnRounds", spec := "fnRounds", apart := false, narrowed := true }
def FnRoundsUptoSaid : Prop := fnRoundsUptoRow.holds Try.pinned (OpenSpec.upto fnRoundsSpec)

/-- 'laws.FnRing', WHERE WHAT IT READS IS OF BULK AT MOST 1048576: true; the input reads as it did. -/
def fnRingUptoRow : OpenClaim := { program := "ytbdhbkedeglagaa", sum := "25766b87e37a362a7570ffe4c2aabb5d0f97d613c0fa9be82cf9d5ae12aeb4ba", func := "loop.example/turningwheels/laws.FnRing", spec := "fnRing", unfollowed := true, recurses := true, apart := false, narrowed := true }
def FnRingUptoSaid : Prop := fnRingUptoRow.holds Try.pinned (OpenSpec.upto fnRingSpec)

/-- 'laws.FnRingSame', WHERE WHAT IT READS IS OF BULK AT MOST 1048576: true; the input reads as it did. -/
def fnRingSameUptoRow : OpenClaim := { program := "ytbdhbkedeglagaa", sum := "25766b87e37a362a7570ffe4c2aabb5d0f97d613c0fa9be82cf9d5ae12aeb4ba", func := "loop.example/turningwheels/laws.FnRingSame", spec := "fnRingSame", unfollowed := true, recurses := true, apart := false, narrowed := true }
def FnRingSameUptoSaid : Prop := fnRingSameUptoRow.holds Try.pinned (OpenSpec.upto fnRingSameSpec)

/-- 'laws.FnExactRingCusps', WHERE WHAT IT READS IS OF BULK AT MOST 1048576: true; the input reads as it did. -/
def fnExactRingCuspsUptoRow : OpenClaim := { program := "ytbdhbkedeglagaa", sum := "25766b87e37a362a7570ffe4c2aabb5d0f97d613c0fa9be82cf9d5ae12aeb4ba", func := "loop.example/turningwheels/laws.FnExactRingCusps", spec := "fnExactRingCusps", apart := false, narrowed := true }
def FnExactRingCuspsUptoSaid : Prop := fnExactRingCuspsUptoRow.holds Try.pinned (OpenSpec.upto fnExactRingCuspsSpec)

/-- 'laws.FnExactRingRounds', WHERE WHAT IT READS IS OF BULK AT MOST 1048576: true; the input reads as it did. -/
def fnExactRingRoundsUptoRow : OpenClaim := { program := "ytbdhbkedeglagaa", sum := "25766b87e37a362a7570ffe4c2aabb5d0f97d613c0fa9be82cf9d5ae12aeb4ba", func := "loop.example/turningwheels/laws.FnExactRingRounds", spec := "fnExactRingRounds", apart := false, narrowed := true }
def FnExactRingRoundsUptoSaid : Prop := fnExactRingRoundsUptoRow.holds Try.pinned (OpenSpec.upto fnExactRingRoundsSpec)

/-- 'laws.FnExactRingDesign', WHERE WHAT IT READS IS OF BULK AT MOST 1048576: true; the input reads as it did. -/
def fnExactRingDesignUptoRow : OpenClaim := { program := "ytbdhbkedeglagaa", sum := "25766b87e37a362a7570ffe4c2aabb5d0f97d613c0fa9be82cf9d5ae12aeb4ba", func := "loop.example/turningwheels/laws.FnExactRingDesign", spec := "fnExactRingDesign", unfollowed := true, recurses := true, apart := false, narrowed := true }
def FnExactRingDesignUptoSaid : Prop := fnExactRingDesignUptoRow.holds Try.pinned (OpenSpec.upto fnExactRingDesignSpec)

/-- 'laws.FnExactRingSame', WHERE WHAT IT READS IS OF BULK AT MOST 1048576: true; the input reads as it did. -/
def fnExactRingSameUptoRow : OpenClaim := { program := "ytbdhbkedeglagaa", sum := "25766b87e37a362a7570ffe4c2aabb5d0f97d613c0fa9be82cf9d5ae12aeb4ba", func := "loop.example/turningwheels/laws.FnExactRingSame", spec := "fnExactRingSame", unfollowed := true, recurses := true, apart := false, narrowed := true }
def FnExactRingSameUptoSaid : Prop := fnExactRingSameUptoRow.holds Try.pinned (OpenSpec.upto fnExactRingSameSpec)

end Rows
end Go.Proofs.Ytbdhbkedeglagaa
