/-
  No cell of these rows narrows 'for every input' (looked for: loops, veiled, ifaces, maps, wideKeys, modest, calm, conditions, laid).
  DERIVED. THE GIVEN ROWS OF THIS SEAT. 14 by the template 'for every input the law returns true; each argument reads behind the call as it read before'; 0 by the template 'total and deterministic' (their statements: YtdbokcbbpegilaaTotals.lean).
  GIVEN WITH THE SEED: the statements are not yours to turn. If you find one false, say at which input.
  Laid BY PROGRAM, IN A SANDBOX (cutbox-rows.mjs): the forced cells as the released guide's own fill.sh prints them over the translation 7cc22c7a79b5d30f… (all of the seat's roots in one cut). By AI agents, Wed Nov 11 2026. No macro, syntax, notation, axiom, sorry.
-/
import Derived.Test.YtdbokcbbpegilaaChecked
import GoSem.Claim
import GoSem.ClaimJoined
import GoSem.ClaimMapViews
import Derived.JoinedTies
import Derived.KernelRfl
namespace Go.Proofs.Ytdbokcbbpegilaa
/- THE CELL 'sum', in the pinned program and in every row, IS THE sha256 OF THE DUMP (.gsa) THAT YtdbokcbbpegilaaProg.lean LOADS. Nothing in Lean hashes anything: it is a label: what it is worth is what the hold of that sum in a sandbox is worth. -/
noncomputable def Try.pinned : Pinned := { name := "ytdbokcbbpegilaa", sum := "7cc22c7a79b5d30f2cc74cc5ba207df9c0446b6c8369aad18a4bb0af6a135eca", checked := Try.checked }
namespace Rows
def none {H : Type} : Left H := { results := [], args := [] }

/-- 'laws.FnFold': WHATEVER THE INPUT: true; the input reads as it did. -/
def fnFoldSpec : ChangeSpec := { name := "fnFold", fn := fun _ => fun
  | [d] => { results := [.lit (.bool true)], args := [d] }
  | _ => none }
def fnFoldRow : OpenClaim := { program := "ytdbokcbbpegilaa", sum := "7cc22c7a79b5d30f2cc74cc5ba207df9c0446b6c8369aad18a4bb0af6a135eca", func := "loop.example/turningwheels/laws.FnFold", spec := "fnFold", unfollowed := true, recurses := true, apart := false }
def FnFoldSaid : Prop := fnFoldRow.holds Try.pinned (OpenSpec.ofChange fnFoldSpec)

/-- ITS FALSE NEIGHBOUR: 'it returns false'. Refute it at one input. -/
def fnFoldWrong : ChangeSpec := { name := "fnFold", fn := fun _ => fun
  | [d] => { results := [.lit (.bool false)], args := [d] }
  | _ => none }
def FnFoldWrongFalsely : Prop := fnFoldRow.holds Try.pinned (OpenSpec.ofChange fnFoldWrong)

/-- 'laws.FnPeriod': WHATEVER THE INPUT: true; the input reads as it did. -/
def fnPeriodSpec : ChangeSpec := { name := "fnPeriod", fn := fun _ => fun
  | [d] => { results := [.lit (.bool true)], args := [d] }
  | _ => none }
def fnPeriodRow : OpenClaim := { program := "ytdbokcbbpegilaa", sum := "7cc22c7a79b5d30f2cc74cc5ba207df9c0446b6c8369aad18a4bb0af6a135eca", func := "loop.example/turningwheels/laws.FnPeriod", spec := "fnPeriod", unfollowed := true, recurses := true, apart := false }
def FnPeriodSaid : Prop := fnPeriodRow.holds Try.pinned (OpenSpec.ofChange fnPeriodSpec)

/-- ITS FALSE NEIGHBOUR: 'it returns false'. Refute it at one input. -/
def fnPeriodWrong : ChangeSpec := { name := "fnPeriod", fn := fun _ => fun
  | [d] => { results := [.lit (.bool false)], args := [d] }
  | _ => none }
def FnPeriodWrongFalsely : Prop := fnPeriodRow.holds Try.pinned (OpenSpec.ofChange fnPeriodWrong)

/-- 'laws.FnSpeeds': WHATEVER THE INPUT: true; the input reads as it did. -/
def fnSpeedsSpec : ChangeSpec := { name := "fnSpeeds", fn := fun _ => fun
  | [d] => { results := [.lit (.bool true)], args := [d] }
  | _ => none }
def fnSpeedsRow : OpenClaim := { program := "ytdbokcbbpegilaa", sum := "7cc22c7a79b5d30f2cc74cc5ba207df9c0446b6c8369aad18a4bb0af6a135eca", func := "loop.example/turningwheels/laws.FnSpeeds", spec := "fnSpeeds", unfollowed := true, recurses := true, apart := false }
def FnSpeedsSaid : Prop := fnSpeedsRow.holds Try.pinned (OpenSpec.ofChange fnSpeedsSpec)

/-- ITS FALSE NEIGHBOUR: 'it returns false'. Refute it at one input. -/
def fnSpeedsWrong : ChangeSpec := { name := "fnSpeeds", fn := fun _ => fun
  | [d] => { results := [.lit (.bool false)], args := [d] }
  | _ => none }
def FnSpeedsWrongFalsely : Prop := fnSpeedsRow.holds Try.pinned (OpenSpec.ofChange fnSpeedsWrong)

/-- 'laws.FnAkin': WHATEVER THE INPUT: true; the input reads as it did. -/
def fnAkinSpec : ChangeSpec := { name := "fnAkin", fn := fun _ => fun
  | [d] => { results := [.lit (.bool true)], args := [d] }
  | _ => none }
def fnAkinRow : OpenClaim := { program := "ytdbokcbbpegilaa", sum := "7cc22c7a79b5d30f2cc74cc5ba207df9c0446b6c8369aad18a4bb0af6a135eca", func := "loop.example/turningwheels/laws.FnAkin", spec := "fnAkin", unfollowed := true, recurses := true, apart := false }
def FnAkinSaid : Prop := fnAkinRow.holds Try.pinned (OpenSpec.ofChange fnAkinSpec)

/-- ITS FALSE NEIGHBOUR: 'it returns false'. Refute it at one input. -/
def fnAkinWrong : ChangeSpec := { name := "fnAkin", fn := fun _ => fun
  | [d] => { results := [.lit (.bool false)], args := [d] }
  | _ => none }
def FnAkinWrongFalsely : Prop := fnAkinRow.holds Try.pinned (OpenSpec.ofChange fnAkinWrong)

/-- 'laws.FnStill': WHATEVER THE INPUT: true; the input reads as it did. -/
def fnStillSpec : ChangeSpec := { name := "fnStill", fn := fun _ => fun
  | [d] => { results := [.lit (.bool true)], args := [d] }
  | _ => none }
def fnStillRow : OpenClaim := { program := "ytdbokcbbpegilaa", sum := "7cc22c7a79b5d30f2cc74cc5ba207df9c0446b6c8369aad18a4bb0af6a135eca", func := "loop.example/turningwheels/laws.FnStill", spec := "fnStill", unfollowed := true, recurses := true, apart := false }
def FnStillSaid : Prop := fnStillRow.holds Try.pinned (OpenSpec.ofChange fnStillSpec)

/-- ITS FALSE NEIGHBOUR: 'it returns false'. Refute it at one input. -/
def fnStillWrong : ChangeSpec := { name := "fnStill", fn := fun _ => fun
  | [d] => { results := [.lit (.bool false)], args := [d] }
  | _ => none }
def FnStillWrongFalsely : Prop := fnStillRow.holds Try.pinned (OpenSpec.ofChange fnStillWrong)

/-- 'laws.FnClosed': WHATEVER THE INPUT: true; the input reads as it did. -/
def fnClosedSpec : ChangeSpec := { name := "fnClosed", fn := fun _ => fun
  | [d] => { results := [.lit (.bool true)], args := [d] }
  | _ => none }
def fnClosedRow : OpenClaim := { program := "ytdbokcbbpegilaa", sum := "7cc22c7a79b5d30f2cc74cc5ba207df9c0446b6c8369aad18a4bb0af6a135eca", func := "loop.example/turningwheels/laws.FnClosed", spec := "fnClosed", unfollowed := true, recurses := true, apart := false }
def FnClosedSaid : Prop := fnClosedRow.holds Try.pinned (OpenSpec.ofChange fnClosedSpec)

/-- ITS FALSE NEIGHBOUR: 'it returns false'. Refute it at one input. -/
def fnClosedWrong : ChangeSpec := { name := "fnClosed", fn := fun _ => fun
  | [d] => { results := [.lit (.bool false)], args := [d] }
  | _ => none }
def FnClosedWrongFalsely : Prop := fnClosedRow.holds Try.pinned (OpenSpec.ofChange fnClosedWrong)

/-- 'laws.FnCentre': WHATEVER THE INPUT: true; the input reads as it did. -/
def fnCentreSpec : ChangeSpec := { name := "fnCentre", fn := fun _ => fun
  | [d] => { results := [.lit (.bool true)], args := [d] }
  | _ => none }
def fnCentreRow : OpenClaim := { program := "ytdbokcbbpegilaa", sum := "7cc22c7a79b5d30f2cc74cc5ba207df9c0446b6c8369aad18a4bb0af6a135eca", func := "loop.example/turningwheels/laws.FnCentre", spec := "fnCentre", unfollowed := true, recurses := true, apart := false }
def FnCentreSaid : Prop := fnCentreRow.holds Try.pinned (OpenSpec.ofChange fnCentreSpec)

/-- ITS FALSE NEIGHBOUR: 'it returns false'. Refute it at one input. -/
def fnCentreWrong : ChangeSpec := { name := "fnCentre", fn := fun _ => fun
  | [d] => { results := [.lit (.bool false)], args := [d] }
  | _ => none }
def FnCentreWrongFalsely : Prop := fnCentreRow.holds Try.pinned (OpenSpec.ofChange fnCentreWrong)

/-- 'laws.FnExactDesignFold': WHATEVER THE INPUT: true; the input reads as it did. -/
def fnExactDesignFoldSpec : ChangeSpec := { name := "fnExactDesignFold", fn := fun _ => fun
  | [d] => { results := [.lit (.bool true)], args := [d] }
  | _ => none }
def fnExactDesignFoldRow : OpenClaim := { program := "ytdbokcbbpegilaa", sum := "7cc22c7a79b5d30f2cc74cc5ba207df9c0446b6c8369aad18a4bb0af6a135eca", func := "loop.example/turningwheels/laws.FnExactDesignFold", spec := "fnExactDesignFold", unfollowed := true, recurses := true, apart := false }
def FnExactDesignFoldSaid : Prop := fnExactDesignFoldRow.holds Try.pinned (OpenSpec.ofChange fnExactDesignFoldSpec)

/-- ITS FALSE NEIGHBOUR: 'it returns false'. Refute it at one input. -/
def fnExactDesignFoldWrong : ChangeSpec := { name := "fnExactDesignFold", fn := fun _ => fun
  | [d] => { results := [.lit (.bool false)], args := [d] }
  | _ => none }
def FnExactDesignFoldWrongFalsely : Prop := fnExactDesignFoldRow.holds Try.pinned (OpenSpec.ofChange fnExactDesignFoldWrong)

/-- 'laws.FnExactDesignPeriod': WHATEVER THE INPUT: true; the input reads as it did. -/
def fnExactDesignPeriodSpec : ChangeSpec := { name := "fnExactDesignPeriod", fn := fun _ => fun
  | [d] => { results := [.lit (.bool true)], args := [d] }
  | _ => none }
def fnExactDesignPeriodRow : OpenClaim := { program := "ytdbokcbbpegilaa", sum := "7cc22c7a79b5d30f2cc74cc5ba207df9c0446b6c8369aad18a4bb0af6a135eca", func := "loop.example/turningwheels/laws.FnExactDesignPeriod", spec := "fnExactDesignPeriod", unfollowed := true, recurses := true, apart := false }
def FnExactDesignPeriodSaid : Prop := fnExactDesignPeriodRow.holds Try.pinned (OpenSpec.ofChange fnExactDesignPeriodSpec)

/-- ITS FALSE NEIGHBOUR: 'it returns false'. Refute it at one input. -/
def fnExactDesignPeriodWrong : ChangeSpec := { name := "fnExactDesignPeriod", fn := fun _ => fun
  | [d] => { results := [.lit (.bool false)], args := [d] }
  | _ => none }
def FnExactDesignPeriodWrongFalsely : Prop := fnExactDesignPeriodRow.holds Try.pinned (OpenSpec.ofChange fnExactDesignPeriodWrong)

/-- 'laws.FnExactDesignSpeeds': WHATEVER THE INPUT: true; the input reads as it did. -/
def fnExactDesignSpeedsSpec : ChangeSpec := { name := "fnExactDesignSpeeds", fn := fun _ => fun
  | [d] => { results := [.lit (.bool true)], args := [d] }
  | _ => none }
def fnExactDesignSpeedsRow : OpenClaim := { program := "ytdbokcbbpegilaa", sum := "7cc22c7a79b5d30f2cc74cc5ba207df9c0446b6c8369aad18a4bb0af6a135eca", func := "loop.example/turningwheels/laws.FnExactDesignSpeeds", spec := "fnExactDesignSpeeds", unfollowed := true, recurses := true, apart := false }
def FnExactDesignSpeedsSaid : Prop := fnExactDesignSpeedsRow.holds Try.pinned (OpenSpec.ofChange fnExactDesignSpeedsSpec)

/-- ITS FALSE NEIGHBOUR: 'it returns false'. Refute it at one input. -/
def fnExactDesignSpeedsWrong : ChangeSpec := { name := "fnExactDesignSpeeds", fn := fun _ => fun
  | [d] => { results := [.lit (.bool false)], args := [d] }
  | _ => none }
def FnExactDesignSpeedsWrongFalsely : Prop := fnExactDesignSpeedsRow.holds Try.pinned (OpenSpec.ofChange fnExactDesignSpeedsWrong)

/-- 'laws.FnExactDesignAkin': WHATEVER THE INPUT: true; the input reads as it did. -/
def fnExactDesignAkinSpec : ChangeSpec := { name := "fnExactDesignAkin", fn := fun _ => fun
  | [d1, d2] => { results := [.lit (.bool true)], args := [d1, d2] }
  | _ => none }
def fnExactDesignAkinRow : OpenClaim := { program := "ytdbokcbbpegilaa", sum := "7cc22c7a79b5d30f2cc74cc5ba207df9c0446b6c8369aad18a4bb0af6a135eca", func := "loop.example/turningwheels/laws.FnExactDesignAkin", spec := "fnExactDesignAkin", unfollowed := true, recurses := true, apart := false }
def FnExactDesignAkinSaid : Prop := fnExactDesignAkinRow.holds Try.pinned (OpenSpec.ofChange fnExactDesignAkinSpec)

/-- ITS FALSE NEIGHBOUR: 'it returns false'. Refute it at one input. -/
def fnExactDesignAkinWrong : ChangeSpec := { name := "fnExactDesignAkin", fn := fun _ => fun
  | [d1, d2] => { results := [.lit (.bool false)], args := [d1, d2] }
  | _ => none }
def FnExactDesignAkinWrongFalsely : Prop := fnExactDesignAkinRow.holds Try.pinned (OpenSpec.ofChange fnExactDesignAkinWrong)

/-- 'laws.FnExactDesignStill': WHATEVER THE INPUT: true; the input reads as it did. -/
def fnExactDesignStillSpec : ChangeSpec := { name := "fnExactDesignStill", fn := fun _ => fun
  | [d] => { results := [.lit (.bool true)], args := [d] }
  | _ => none }
def fnExactDesignStillRow : OpenClaim := { program := "ytdbokcbbpegilaa", sum := "7cc22c7a79b5d30f2cc74cc5ba207df9c0446b6c8369aad18a4bb0af6a135eca", func := "loop.example/turningwheels/laws.FnExactDesignStill", spec := "fnExactDesignStill", unfollowed := true, recurses := true, apart := false }
def FnExactDesignStillSaid : Prop := fnExactDesignStillRow.holds Try.pinned (OpenSpec.ofChange fnExactDesignStillSpec)

/-- ITS FALSE NEIGHBOUR: 'it returns false'. Refute it at one input. -/
def fnExactDesignStillWrong : ChangeSpec := { name := "fnExactDesignStill", fn := fun _ => fun
  | [d] => { results := [.lit (.bool false)], args := [d] }
  | _ => none }
def FnExactDesignStillWrongFalsely : Prop := fnExactDesignStillRow.holds Try.pinned (OpenSpec.ofChange fnExactDesignStillWrong)

/-- 'laws.FnExactDesignClosed': WHATEVER THE INPUT: true; the input reads as it did. -/
def fnExactDesignClosedSpec : ChangeSpec := { name := "fnExactDesignClosed", fn := fun _ => fun
  | [d1, d2] => { results := [.lit (.bool true)], args := [d1, d2] }
  | _ => none }
def fnExactDesignClosedRow : OpenClaim := { program := "ytdbokcbbpegilaa", sum := "7cc22c7a79b5d30f2cc74cc5ba207df9c0446b6c8369aad18a4bb0af6a135eca", func := "loop.example/turningwheels/laws.FnExactDesignClosed", spec := "fnExactDesignClosed", unfollowed := true, recurses := true, apart := false }
def FnExactDesignClosedSaid : Prop := fnExactDesignClosedRow.holds Try.pinned (OpenSpec.ofChange fnExactDesignClosedSpec)

/-- ITS FALSE NEIGHBOUR: 'it returns false'. Refute it at one input. -/
def fnExactDesignClosedWrong : ChangeSpec := { name := "fnExactDesignClosed", fn := fun _ => fun
  | [d1, d2] => { results := [.lit (.bool false)], args := [d1, d2] }
  | _ => none }
def FnExactDesignClosedWrongFalsely : Prop := fnExactDesignClosedRow.holds Try.pinned (OpenSpec.ofChange fnExactDesignClosedWrong)

/-- 'laws.FnExactDesignCentre': WHATEVER THE INPUT: true; the input reads as it did. -/
def fnExactDesignCentreSpec : ChangeSpec := { name := "fnExactDesignCentre", fn := fun _ => fun
  | [d] => { results := [.lit (.bool true)], args := [d] }
  | _ => none }
def fnExactDesignCentreRow : OpenClaim := { program := "ytdbokcbbpegilaa", sum := "7cc22c7a79b5d30f2cc74cc5ba207df9c0446b6c8369aad18a4bb0af6a135eca", func := "loop.example/turningwheels/laws.FnExactDesignCentre", spec := "fnExactDesignCentre", unfollowed := true, recurses := true, apart := false }
def FnExactDesignCentreSaid : Prop := fnExactDesignCentreRow.holds Try.pinned (OpenSpec.ofChange fnExactDesignCentreSpec)

/-- ITS FALSE NEIGHBOUR: 'it returns false'. Refute it at one input. -/
def fnExactDesignCentreWrong : ChangeSpec := { name := "fnExactDesignCentre", fn := fun _ => fun
  | [d] => { results := [.lit (.bool false)], args := [d] }
  | _ => none }
def FnExactDesignCentreWrongFalsely : Prop := fnExactDesignCentreRow.holds Try.pinned (OpenSpec.ofChange fnExactDesignCentreWrong)

/- THE SECOND FORM. 'bulk': how many values and letters a reading holds, each counted each time it is reached (what is shared counts as often as it is met; a slice's spare places count too). A statement '..UptoSaid' is the law's where the arguments, and the package variables that the reading takes, are together of bulk at most 1048576: NARROWER than '..Said'. Prove '..Said' where nothing that the law and all that it calls make is longer than what came in: it says more and counts as full. Else prove '..UptoSaid'. A law counts once. -/
mutual
def uptoBulk {H : Type} : DataW H → Nat
  | .lit (.string bytes) => bytes.length + 1
  | .lit _ => 1
  | .nil => 1
  | .ptr d => uptoBulk d + 1
  | .slice elems spare => uptoBulkAll elems + uptoBulkAll spare + 1
  | .agg parts => uptoBulkAll parts + 1
  | .iface _ d => uptoBulk d + 1
  | .map entries => uptoBulkEntries entries + 1
  | .held _ => 1
def uptoBulkAll {H : Type} : List (DataW H) → Nat
  | [] => 0
  | d :: r => uptoBulk d + uptoBulkAll r
def uptoBulkEntries {H : Type} : List (Lit × DataW H) → Nat
  | [] => 0
  | x :: r => uptoBulkEntry x + uptoBulkEntries r
def uptoBulkEntry {H : Type} : Lit × DataW H → Nat
  | (.string bytes, d) => bytes.length + uptoBulk d + 1
  | (_, d) => uptoBulk d + 1
 end
def uptoSmall : (H : Type) → List (DataW H) → Bool := fun _ ds => decide (uptoBulkAll ds ≤ 1048576)
def OpenSpec.upto (s : _root_.Go.ChangeSpec) : _root_.Go.OpenSpec := { _root_.Go.OpenSpec.ofChange s with cond := some uptoSmall }

/-- 'laws.FnFold', WHERE WHAT IT READS IS OF BULK AT MOST 1048576: true; the input reads as it did. -/
def fnFoldUptoRow : OpenClaim := { program := "ytdbokcbbpegilaa", sum := "7cc22c7a79b5d30f2cc74cc5ba207df9c0446b6c8369aad18a4bb0af6a135eca", func := "loop.example/turningwheels/laws.FnFold", spec := "fnFold", unfollowed := true, recurses := true, apart := false, narrowed := true }
def FnFoldUptoSaid : Prop := fnFoldUptoRow.holds Try.pinned (OpenSpec.upto fnFoldSpec)

/-- 'laws.FnPeriod', WHERE WHAT IT READS IS OF BULK AT MOST 1048576: true; the input reads as it did. -/
def fnPeriodUptoRow : OpenClaim := { program := "ytdbokcbbpegilaa", sum := "7cc22c7a79b5d30f2cc74cc5ba207df9c0446b6c8369aad18a4bb0af6a135eca", func := "loop.example/turningwheels/laws.FnPeriod", spec := "fnPeriod", unfollowed := true, recurses := true, apart := false, narrowed := true }
def FnPeriodUptoSaid : Prop := fnPeriodUptoRow.holds Try.pinned (OpenSpec.upto fnPeriodSpec)

/-- 'laws.FnSpeeds', WHERE WHAT IT READS IS OF BULK AT MOST 1048576: true; the input reads as it did. -/
def fnSpeedsUptoRow : OpenClaim := { program := "ytdbokcbbpegilaa", sum := "7cc22c7a79b5d30f2cc74cc5ba207df9c0446b6c8369aad18a4bb0af6a135eca", func := "loop.example/turningwheels/laws.FnSpeeds", spec := "fnSpeeds", unfollowed := true, recurses := true, apart := false, narrowed := true }
def FnSpeedsUptoSaid : Prop := fnSpeedsUptoRow.holds Try.pinned (OpenSpec.upto fnSpeedsSpec)

/-- 'laws.FnAkin', WHERE WHAT IT READS IS OF BULK AT MOST 1048576: true; the input reads as it did. -/
def fnAkinUptoRow : OpenClaim := { program := "ytdbokcbbpegilaa", sum := "7cc22c7a79b5d30f2cc74cc5ba207df9c0446b6c8369aad18a4bb0af6a135eca", func := "loop.example/turningwheels/laws.FnAkin", spec := "fnAkin", unfollowed := true, recurses := true, apart := false, narrowed := true }
def FnAkinUptoSaid : Prop := fnAkinUptoRow.holds Try.pinned (OpenSpec.upto fnAkinSpec)

/-- 'laws.FnStill', WHERE WHAT IT READS IS OF BULK AT MOST 1048576: true; the input reads as it did. -/
def fnStillUptoRow : OpenClaim := { program := "ytdbokcbbpegilaa", sum := "7cc22c7a79b5d30f2cc74cc5ba207df9c0446b6c8369aad18a4bb0af6a135eca", func := "loop.example/turningwheels/laws.FnStill", spec := "fnStill", unfollowed := true, recurses := true, apart := false, narrowed := true }
def FnStillUptoSaid : Prop := fnStillUptoRow.holds Try.pinned (OpenSpec.upto fnStillSpec)

/-- 'laws.FnClosed', WHERE WHAT IT READS IS OF BULK AT MOST 1048576: true; the input reads as it did. -/
def fnClosedUptoRow : OpenClaim := { program := "ytdbokcbbpegilaa", sum := "7cc22c7a79b5d30f2cc74cc5ba207df9c0446b6c8369aad18a4bb0af6a135eca", func := "loop.example/turningwheels/laws.FnClosed", spec := "fnClosed", unfollowed := true, recurses := true, apart := false, narrowed := true }
def FnClosedUptoSaid : Prop := fnClosedUptoRow.holds Try.pinned (OpenSpec.upto fnClosedSpec)

/-- 'laws.FnCentre', WHERE WHAT IT READS IS OF BULK AT MOST 1048576: true; the input reads as it did. -/
def fnCentreUptoRow : OpenClaim := { program := "ytdbokcbbpegilaa", sum := "7cc22c7a79b5d30f2cc74cc5ba207df9c0446b6c8369aad18a4bb0af6a135eca", func := "loop.example/turningwheels/laws.FnCentre", spec := "fnCentre", unfollowed := true, recurses := true, apart := false, narrowed := true }
def FnCentreUptoSaid : Prop := fnCentreUptoRow.holds Try.pinned (OpenSpec.upto fnCentreSpec)

/-- 'laws.FnExactDesignFold', WHERE WHAT IT READS IS OF BULK AT MOST 1048576: true; the input reads as it did. -/
def fnExactDesignFoldUptoRow : OpenClaim := { program := "ytdbokcbbpegilaa", sum := "7cc22c7a79b5d30f2cc74cc5ba207df9c0446b6c8369aad18a4bb0af6a135eca", func := "loop.example/turningwheels/laws.FnExactDesignFold", spec := "fnExactDesignFold", unfollowed := true, recurses := true, apart := false, narrowed := true }
def FnExactDesignFoldUptoSaid : Prop := fnExactDesignFoldUptoRow.holds Try.pinned (OpenSpec.upto fnExactDesignFoldSpec)

/-- 'laws.FnExactDesignPeriod', WHERE WHAT IT READS IS OF BULK AT MOST 1048576: true; the input reads as it did. -/
def fnExactDesignPeriodUptoRow : OpenClaim := { program := "ytdbokcbbpegilaa", sum := "7cc22c7a79b5d30f2cc74cc5ba207df9c0446b6c8369aad18a4bb0af6a135eca", func := "loop.example/turningwheels/laws.FnExactDesignPeriod", spec := "fnExactDesignPeriod", unfollowed := true, recurses := true, apart := false, narrowed := true }
def FnExactDesignPeriodUptoSaid : Prop := fnExactDesignPeriodUptoRow.holds Try.pinned (OpenSpec.upto fnExactDesignPeriodSpec)

/-- 'laws.FnExactDesignSpeeds', WHERE WHAT IT READS IS OF BULK AT MOST 1048576: true; the input reads as it did. -/
def fnExactDesignSpeedsUptoRow : OpenClaim := { program := "ytdbokcbbpegilaa", sum := "7cc22c7a79b5d30f2cc74cc5ba207df9c0446b6c8369aad18a4bb0af6a135eca", func := "loop.example/turningwheels/laws.FnExactDesignSpeeds", spec := "fnExactDesignSpeeds", unfollowed := true, recurses := true, apart := false, narrowed := true }
def FnExactDesignSpeedsUptoSaid : Prop := fnExactDesignSpeedsUptoRow.holds Try.pinned (OpenSpec.upto fnExactDesignSpeedsSpec)

/-- 'laws.FnExactDesignAkin', WHERE WHAT IT READS IS OF BULK AT MOST 1048576: true; the input reads as it did. -/
def fnExactDesignAkinUptoRow : OpenClaim := { program := "ytdbokcbbpegilaa", sum := "7cc22c7a79b5d30f2cc74cc5ba207df9c0446b6c8369aad18a4bb0af6a135eca", func := "loop.example/turningwheels/laws.FnExactDesignAkin", spec := "fnExactDesignAkin", unfollowed := true, recurses := true, apart := false, narrowed := true }
def FnExactDesignAkinUptoSaid : Prop := fnExactDesignAkinUptoRow.holds Try.pinned (OpenSpec.upto fnExactDesignAkinSpec)

/-- 'laws.FnExactDesignStill', WHERE WHAT IT READS IS OF BULK AT MOST 1048576: true; the input reads as it did. -/
def fnExactDesignStillUptoRow : OpenClaim := { program := "ytdbokcbbpegilaa", sum := "7cc22c7a79b5d30f2cc74cc5ba207df9c0446b6c8369aad18a4bb0af6a135eca", func := "loop.example/turningwheels/laws.FnExactDesignStill", spec := "fnExactDesignStill", unfollowed := true, recurses := true, apart := false, narrowed := true }
def FnExactDesignStillUptoSaid : Prop := fnExactDesignStillUptoRow.holds Try.pinned (OpenSpec.upto fnExactDesignStillSpec)

/-- 'laws.FnExactDesignClosed', WHERE WHAT IT READS IS OF BULK AT MOST 1048576: true; the input reads as it did. -/
def fnExactDesignClosedUptoRow : OpenClaim := { program := "ytdbokcbbpegilaa", sum := "7cc22c7a79b5d30f2cc74cc5ba207df9c0446b6c8369aad18a4bb0af6a135eca", func := "loop.example/turningwheels/laws.FnExactDesignClosed", spec := "fnExactDesignClosed", unfollowed := true, recurses := true, apart := false, narrowed := true }
def FnExactDesignClosedUptoSaid : Prop := fnExactDesignClosedUptoRow.holds Try.pinned (OpenSpec.upto fnExactDesignClosedSpec)

/-- 'laws.FnExactDesignCentre', WHERE WHAT IT READS IS OF BULK AT MOST 1048576: true; the input reads as it did. -/
def fnExactDesignCentreUptoRow : OpenClaim := { program := "ytdbokcbbpegilaa", sum := "7cc22c7a79b5d30f2cc74cc5ba207df9c0446b6c8369aad18a4bb0af6a135eca", func := "loop.example/turningwheels/laws.FnExactDesignCentre", spec := "fnExactDesignCentre", unfollowed := true, recurses := true, apart := false, narrowed := true }
def FnExactDesignCentreUptoSaid : Prop := fnExactDesignCentreUptoRow.holds Try.pinned (OpenSpec.upto fnExactDesignCentreSpec)

end Rows
end Go.Proofs.Ytdbokcbbpegilaa
