/-
  DERIVED. GIVEN WITH THE SEED: THE CARDS: each row of YtbdhbkedeglagaaDoorRows.lean that lists a variable, with what it lists TIED to the program's text (the seventh form; the later family's looks); each row that meets fmt, with fmt's text TOLD by the authors' own Lean function (tested against real Go, not proved from fmt's source: count such statements apart). THE CARD IS WHAT COUNTS. Prove the row's statement (the work); the ties are given (YtbdhbkedeglagaaDoorTie.lean); close each card by the builder's one call (the guide's Derived/Test/ToyasCard.lean, 'card_holds'). Laid BY PROGRAM, IN A SANDBOX (cutbox-door.mjs). By AI agents, Wed Nov 11 2026. No macro, syntax, notation, axiom, sorry.
-/
import Derived.Test.YtbdhbkedeglagaaDoorRows
import GoSem.ClaimSeven
namespace Go.Proofs.YtbdhbkedeglagaaDoor
namespace Rows

/-- THE TIED CARD OF 'laws.FnRatio'. -/
def fnRatioCard : Claim7 := { stood := { row := fnRatioRow, standIns := [], harness := (true, "6a842d13d255928dd7987a03bae86b57a8c93fadb2925b92ea7db9a4b0176d32"), looks := true }, kinds := [], alts := [], laidByText := true, laidKinds := [.sentinel, .sentinel], laidTests := true, laidLooks := .later }
def FnRatioCardSaid : Prop := Claim7.holds Tryd.pinned (.plain (OpenSpec.ofChange fnRatioSpec)) fnRatioCard

/-- THE TIED CARD OF 'laws.FnTrainTurns'. -/
def fnTrainTurnsCard : Claim7 := { stood := { row := fnTrainTurnsRow, standIns := [], harness := (true, "6a842d13d255928dd7987a03bae86b57a8c93fadb2925b92ea7db9a4b0176d32"), looks := true }, kinds := [], alts := [], laidByText := true, laidKinds := [.sentinel, .sentinel], laidTests := true, laidLooks := .later }
def FnTrainTurnsCardSaid : Prop := Claim7.holds Tryd.pinned (.plain (OpenSpec.ofChange fnTrainTurnsSpec)) fnTrainTurnsCard

/-- THE TIED CARD OF 'laws.FnTrainFind'. -/
def fnTrainFindCard : Claim7 := { stood := { row := fnTrainFindRow, standIns := [], harness := (true, "6a842d13d255928dd7987a03bae86b57a8c93fadb2925b92ea7db9a4b0176d32"), looks := true }, kinds := [], alts := [], laidByText := true, laidKinds := [.handle, .sentinel, .sentinel], laidTests := true, laidLooks := .later }
def FnTrainFindCardSaid : Prop := Claim7.holds Tryd.pinned (.plain (OpenSpec.ofChange fnTrainFindSpec)) fnTrainFindCard

/-- THE TIED CARD OF 'laws.FnExactTrainRatio'. -/
def fnExactTrainRatioCard : Claim7 := { stood := { row := fnExactTrainRatioRow, standIns := [], harness := (true, "6a842d13d255928dd7987a03bae86b57a8c93fadb2925b92ea7db9a4b0176d32"), looks := true }, kinds := [], alts := [], laidByText := true, laidKinds := [.sentinel, .sentinel], laidTests := true, laidLooks := .later }
def FnExactTrainRatioCardSaid : Prop := Claim7.holds Tryd.pinned (.plain (OpenSpec.ofChange fnExactTrainRatioSpec)) fnExactTrainRatioCard

/-- THE TIED CARD OF 'laws.FnExactTrainTurns'. -/
def fnExactTrainTurnsCard : Claim7 := { stood := { row := fnExactTrainTurnsRow, standIns := [], harness := (true, "6a842d13d255928dd7987a03bae86b57a8c93fadb2925b92ea7db9a4b0176d32"), looks := true }, kinds := [], alts := [], laidByText := true, laidKinds := [.sentinel, .sentinel], laidTests := true, laidLooks := .later }
def FnExactTrainTurnsCardSaid : Prop := Claim7.holds Tryd.pinned (.plain (OpenSpec.ofChange fnExactTrainTurnsSpec)) fnExactTrainTurnsCard

/-- THE TIED CARD OF 'laws.FnExactTrainFind'. -/
def fnExactTrainFindCard : Claim7 := { stood := { row := fnExactTrainFindRow, standIns := [], harness := (true, "6a842d13d255928dd7987a03bae86b57a8c93fadb2925b92ea7db9a4b0176d32"), looks := true }, kinds := [], alts := [], laidByText := true, laidKinds := [.handle, .sentinel], laidTests := true, laidLooks := .later }
def FnExactTrainFindCardSaid : Prop := Claim7.holds Tryd.pinned (.plain (OpenSpec.ofChange fnExactTrainFindSpec)) fnExactTrainFindCard

/-- THE SECOND FORM's CARD OF 'laws.FnRatio'. -/
def fnRatioUptoCard : Claim7 := { stood := { row := fnRatioUptoRow, standIns := [], harness := (true, "6a842d13d255928dd7987a03bae86b57a8c93fadb2925b92ea7db9a4b0176d32"), looks := true }, kinds := [], alts := [], laidByText := true, laidKinds := [.sentinel, .sentinel], laidTests := true, laidLooks := .later }
def FnRatioUptoCardSaid : Prop := Claim7.holds Tryd.pinned (.plain (OpenSpec.upto fnRatioSpec)) fnRatioUptoCard

/-- THE SECOND FORM's CARD OF 'laws.FnTrainTurns'. -/
def fnTrainTurnsUptoCard : Claim7 := { stood := { row := fnTrainTurnsUptoRow, standIns := [], harness := (true, "6a842d13d255928dd7987a03bae86b57a8c93fadb2925b92ea7db9a4b0176d32"), looks := true }, kinds := [], alts := [], laidByText := true, laidKinds := [.sentinel, .sentinel], laidTests := true, laidLooks := .later }
def FnTrainTurnsUptoCardSaid : Prop := Claim7.holds Tryd.pinned (.plain (OpenSpec.upto fnTrainTurnsSpec)) fnTrainTurnsUptoCard

/-- THE SECOND FORM's CARD OF 'laws.FnTrainFind'. -/
def fnTrainFindUptoCard : Claim7 := { stood := { row := fnTrainFindUptoRow, standIns := [], harness := (true, "6a842d13d255928dd7987a03bae86b57a8c93fadb2925b92ea7db9a4b0176d32"), looks := true }, kinds := [], alts := [], laidByText := true, laidKinds := [.handle, .sentinel, .sentinel], laidTests := true, laidLooks := .later }
def FnTrainFindUptoCardSaid : Prop := Claim7.holds Tryd.pinned (.plain (OpenSpec.upto fnTrainFindSpec)) fnTrainFindUptoCard

/-- THE SECOND FORM's CARD OF 'laws.FnExactTrainRatio'. -/
def fnExactTrainRatioUptoCard : Claim7 := { stood := { row := fnExactTrainRatioUptoRow, standIns := [], harness := (true, "6a842d13d255928dd7987a03bae86b57a8c93fadb2925b92ea7db9a4b0176d32"), looks := true }, kinds := [], alts := [], laidByText := true, laidKinds := [.sentinel, .sentinel], laidTests := true, laidLooks := .later }
def FnExactTrainRatioUptoCardSaid : Prop := Claim7.holds Tryd.pinned (.plain (OpenSpec.upto fnExactTrainRatioSpec)) fnExactTrainRatioUptoCard

/-- THE SECOND FORM's CARD OF 'laws.FnExactTrainTurns'. -/
def fnExactTrainTurnsUptoCard : Claim7 := { stood := { row := fnExactTrainTurnsUptoRow, standIns := [], harness := (true, "6a842d13d255928dd7987a03bae86b57a8c93fadb2925b92ea7db9a4b0176d32"), looks := true }, kinds := [], alts := [], laidByText := true, laidKinds := [.sentinel, .sentinel], laidTests := true, laidLooks := .later }
def FnExactTrainTurnsUptoCardSaid : Prop := Claim7.holds Tryd.pinned (.plain (OpenSpec.upto fnExactTrainTurnsSpec)) fnExactTrainTurnsUptoCard

/-- THE SECOND FORM's CARD OF 'laws.FnExactTrainFind'. -/
def fnExactTrainFindUptoCard : Claim7 := { stood := { row := fnExactTrainFindUptoRow, standIns := [], harness := (true, "6a842d13d255928dd7987a03bae86b57a8c93fadb2925b92ea7db9a4b0176d32"), looks := true }, kinds := [], alts := [], laidByText := true, laidKinds := [.handle, .sentinel], laidTests := true, laidLooks := .later }
def FnExactTrainFindUptoCardSaid : Prop := Claim7.holds Tryd.pinned (.plain (OpenSpec.upto fnExactTrainFindSpec)) fnExactTrainFindUptoCard
end Rows
end Go.Proofs.YtbdhbkedeglagaaDoor
