/-
  DERIVED. GIVEN WITH THE SEED: THE CARDS: each row of YtlollcabnfncpaaDoorRows.lean that lists a variable, with what it lists TIED to the program's text (the seventh form; the later family's looks); each row that meets fmt, with fmt's text TOLD by the authors' own Lean function (tested against real Go, not proved from fmt's source: count such statements apart). THE CARD IS WHAT COUNTS. Prove the row's statement (the work); the ties are given (YtlollcabnfncpaaDoorTie.lean); close each card by the builder's one call (the guide's Derived/Test/ToyasCard.lean, 'card_holds'). Laid BY PROGRAM, IN A SANDBOX (cutbox-door.mjs). By AI agents, Wed Nov 11 2026. No macro, syntax, notation, axiom, sorry.
-/
import Derived.Test.YtlollcabnfncpaaDoorRows
import GoSem.ClaimSeven
namespace Go.Proofs.YtlollcabnfncpaaDoor
namespace Rows

/-- THE TIED CARD OF 'spadillelaw02.CutSheets'. -/
def cutSheetsCard : Claim7 := { stood := { row := cutSheetsRow, standIns := [], harness := (true, "a0a17f6a80fca574248ac9d4fcad1644fca2771dc638d65d332d3c5187759b62"), looks := false }, kinds := [], alts := [], laidByText := true, laidKinds := [.data], laidTests := true, laidLooks := .later }
def CutSheetsCardSaid : Prop := Claim7.holds Tryd.pinned (.plain (OpenSpec.ofChange cutSheetsSpec)) cutSheetsCard

/-- THE TIED CARD OF 'spadillelaw02.CutCounts'. -/
def cutCountsCard : Claim7 := { stood := { row := cutCountsRow, standIns := [], harness := (true, "a0a17f6a80fca574248ac9d4fcad1644fca2771dc638d65d332d3c5187759b62"), looks := false }, kinds := [], alts := [], laidByText := true, laidKinds := [.data], laidTests := true, laidLooks := .later }
def CutCountsCardSaid : Prop := Claim7.holds Tryd.pinned (.plain (OpenSpec.ofChange cutCountsSpec)) cutCountsCard

/-- THE TIED CARD OF 'spadillelaw02.CutFillings'. -/
def cutFillingsCard : Claim7 := { stood := { row := cutFillingsRow, standIns := [], harness := (true, "a0a17f6a80fca574248ac9d4fcad1644fca2771dc638d65d332d3c5187759b62"), looks := false }, kinds := [], alts := [], laidByText := true, laidKinds := [.data], laidTests := true, laidLooks := .later }
def CutFillingsCardSaid : Prop := Claim7.holds Tryd.pinned (.plain (OpenSpec.ofChange cutFillingsSpec)) cutFillingsCard

/-- THE TIED CARD OF 'spadillelaw02.CutAgainst'. -/
def cutAgainstCard : Claim7 := { stood := { row := cutAgainstRow, standIns := [], harness := (true, "a0a17f6a80fca574248ac9d4fcad1644fca2771dc638d65d332d3c5187759b62"), looks := false }, kinds := [], alts := [], laidByText := true, laidKinds := [.data], laidTests := true, laidLooks := .later }
def CutAgainstCardSaid : Prop := Claim7.holds Tryd.pinned (.plain (OpenSpec.ofChange cutAgainstSpec)) cutAgainstCard

/-- THE TIED CARD OF 'spadillelaw02.CutWaste'. -/
def cutWasteCard : Claim7 := { stood := { row := cutWasteRow, standIns := [], harness := (true, "a0a17f6a80fca574248ac9d4fcad1644fca2771dc638d65d332d3c5187759b62"), looks := false }, kinds := [], alts := [], laidByText := true, laidKinds := [.data], laidTests := true, laidLooks := .later }
def CutWasteCardSaid : Prop := Claim7.holds Tryd.pinned (.plain (OpenSpec.ofChange cutWasteSpec)) cutWasteCard

/-- THE TIED CARD OF 'spadillelaw02.CutColours'. -/
def cutColoursCard : Claim7 := { stood := { row := cutColoursRow, standIns := [], harness := (true, "a0a17f6a80fca574248ac9d4fcad1644fca2771dc638d65d332d3c5187759b62"), looks := false }, kinds := [], alts := [], laidByText := true, laidKinds := [.data], laidTests := true, laidLooks := .later }
def CutColoursCardSaid : Prop := Claim7.holds Tryd.pinned (.plain (OpenSpec.ofChange cutColoursSpec)) cutColoursCard

/-- THE TIED CARD OF 'spadillelaw02.CutStraight'. -/
def cutStraightCard : Claim7 := { stood := { row := cutStraightRow, standIns := [], harness := (true, "a0a17f6a80fca574248ac9d4fcad1644fca2771dc638d65d332d3c5187759b62"), looks := false }, kinds := [], alts := [], laidByText := true, laidKinds := [.data], laidTests := true, laidLooks := .later }
def CutStraightCardSaid : Prop := Claim7.holds Tryd.pinned (.plain (OpenSpec.ofChange cutStraightSpec)) cutStraightCard

/-- THE TIED CARD OF 'spadillelaw02.CutSolid'. -/
def cutSolidCard : Claim7 := { stood := { row := cutSolidRow, standIns := [], harness := (true, "a0a17f6a80fca574248ac9d4fcad1644fca2771dc638d65d332d3c5187759b62"), looks := false }, kinds := [], alts := [], laidByText := true, laidKinds := [.data], laidTests := true, laidLooks := .later }
def CutSolidCardSaid : Prop := Claim7.holds Tryd.pinned (.plain (OpenSpec.ofChange cutSolidSpec)) cutSolidCard

/-- THE TIED CARD OF 'spadillelaw02.CutUpright'. -/
def cutUprightCard : Claim7 := { stood := { row := cutUprightRow, standIns := [], harness := (true, "a0a17f6a80fca574248ac9d4fcad1644fca2771dc638d65d332d3c5187759b62"), looks := false }, kinds := [], alts := [], laidByText := true, laidKinds := [.data], laidTests := true, laidLooks := .later }
def CutUprightCardSaid : Prop := Claim7.holds Tryd.pinned (.plain (OpenSpec.ofChange cutUprightSpec)) cutUprightCard

/-- THE TIED CARD OF 'spadillelaw02.CutMore'. -/
def cutMoreCard : Claim7 := { stood := { row := cutMoreRow, standIns := [], harness := (true, "a0a17f6a80fca574248ac9d4fcad1644fca2771dc638d65d332d3c5187759b62"), looks := false }, kinds := [], alts := [], laidByText := true, laidKinds := [.data], laidTests := true, laidLooks := .later }
def CutMoreCardSaid : Prop := Claim7.holds Tryd.pinned (.plain (OpenSpec.ofChange cutMoreSpec)) cutMoreCard

/-- THE TIED CARD OF 'spadillelaw02.CutKnown'. -/
def cutKnownCard : Claim7 := { stood := { row := cutKnownRow, standIns := [], harness := (true, "a0a17f6a80fca574248ac9d4fcad1644fca2771dc638d65d332d3c5187759b62"), looks := false }, kinds := [], alts := [], laidByText := true, laidKinds := [.data], laidTests := true, laidLooks := .later }
def CutKnownCardSaid : Prop := Claim7.holds Tryd.pinned (.plain (OpenSpec.ofChange cutKnownSpec)) cutKnownCard

/-- THE TIED CARD OF 'spadilletop.TopUprights'. -/
def topUprightsCard : Claim7 := { stood := { row := topUprightsRow, standIns := [], harness := (true, "a0a17f6a80fca574248ac9d4fcad1644fca2771dc638d65d332d3c5187759b62"), looks := false }, kinds := [], alts := [], laidByText := true, laidKinds := [.data, .data], laidTests := true, laidLooks := .later }
def TopUprightsCardSaid : Prop := Claim7.holds Tryd.pinned (.plain (OpenSpec.ofChange topUprightsSpec)) topUprightsCard

/-- THE SECOND FORM's CARD OF 'spadillelaw02.CutSheets'. -/
def cutSheetsUptoCard : Claim7 := { stood := { row := cutSheetsUptoRow, standIns := [], harness := (true, "a0a17f6a80fca574248ac9d4fcad1644fca2771dc638d65d332d3c5187759b62"), looks := false }, kinds := [], alts := [], laidByText := true, laidKinds := [.data], laidTests := true, laidLooks := .later }
def CutSheetsUptoCardSaid : Prop := Claim7.holds Tryd.pinned (.plain (OpenSpec.upto cutSheetsSpec)) cutSheetsUptoCard

/-- THE SECOND FORM's CARD OF 'spadillelaw02.CutCounts'. -/
def cutCountsUptoCard : Claim7 := { stood := { row := cutCountsUptoRow, standIns := [], harness := (true, "a0a17f6a80fca574248ac9d4fcad1644fca2771dc638d65d332d3c5187759b62"), looks := false }, kinds := [], alts := [], laidByText := true, laidKinds := [.data], laidTests := true, laidLooks := .later }
def CutCountsUptoCardSaid : Prop := Claim7.holds Tryd.pinned (.plain (OpenSpec.upto cutCountsSpec)) cutCountsUptoCard

/-- THE SECOND FORM's CARD OF 'spadillelaw02.CutFillings'. -/
def cutFillingsUptoCard : Claim7 := { stood := { row := cutFillingsUptoRow, standIns := [], harness := (true, "a0a17f6a80fca574248ac9d4fcad1644fca2771dc638d65d332d3c5187759b62"), looks := false }, kinds := [], alts := [], laidByText := true, laidKinds := [.data], laidTests := true, laidLooks := .later }
def CutFillingsUptoCardSaid : Prop := Claim7.holds Tryd.pinned (.plain (OpenSpec.upto cutFillingsSpec)) cutFillingsUptoCard

/-- THE SECOND FORM's CARD OF 'spadillelaw02.CutAgainst'. -/
def cutAgainstUptoCard : Claim7 := { stood := { row := cutAgainstUptoRow, standIns := [], harness := (true, "a0a17f6a80fca574248ac9d4fcad1644fca2771dc638d65d332d3c5187759b62"), looks := false }, kinds := [], alts := [], laidByText := true, laidKinds := [.data], laidTests := true, laidLooks := .later }
def CutAgainstUptoCardSaid : Prop := Claim7.holds Tryd.pinned (.plain (OpenSpec.upto cutAgainstSpec)) cutAgainstUptoCard

/-- THE SECOND FORM's CARD OF 'spadillelaw02.CutWaste'. -/
def cutWasteUptoCard : Claim7 := { stood := { row := cutWasteUptoRow, standIns := [], harness := (true, "a0a17f6a80fca574248ac9d4fcad1644fca2771dc638d65d332d3c5187759b62"), looks := false }, kinds := [], alts := [], laidByText := true, laidKinds := [.data], laidTests := true, laidLooks := .later }
def CutWasteUptoCardSaid : Prop := Claim7.holds Tryd.pinned (.plain (OpenSpec.upto cutWasteSpec)) cutWasteUptoCard

/-- THE SECOND FORM's CARD OF 'spadillelaw02.CutColours'. -/
def cutColoursUptoCard : Claim7 := { stood := { row := cutColoursUptoRow, standIns := [], harness := (true, "a0a17f6a80fca574248ac9d4fcad1644fca2771dc638d65d332d3c5187759b62"), looks := false }, kinds := [], alts := [], laidByText := true, laidKinds := [.data], laidTests := true, laidLooks := .later }
def CutColoursUptoCardSaid : Prop := Claim7.holds Tryd.pinned (.plain (OpenSpec.upto cutColoursSpec)) cutColoursUptoCard

/-- THE SECOND FORM's CARD OF 'spadillelaw02.CutStraight'. -/
def cutStraightUptoCard : Claim7 := { stood := { row := cutStraightUptoRow, standIns := [], harness := (true, "a0a17f6a80fca574248ac9d4fcad1644fca2771dc638d65d332d3c5187759b62"), looks := false }, kinds := [], alts := [], laidByText := true, laidKinds := [.data], laidTests := true, laidLooks := .later }
def CutStraightUptoCardSaid : Prop := Claim7.holds Tryd.pinned (.plain (OpenSpec.upto cutStraightSpec)) cutStraightUptoCard

/-- THE SECOND FORM's CARD OF 'spadillelaw02.CutSolid'. -/
def cutSolidUptoCard : Claim7 := { stood := { row := cutSolidUptoRow, standIns := [], harness := (true, "a0a17f6a80fca574248ac9d4fcad1644fca2771dc638d65d332d3c5187759b62"), looks := false }, kinds := [], alts := [], laidByText := true, laidKinds := [.data], laidTests := true, laidLooks := .later }
def CutSolidUptoCardSaid : Prop := Claim7.holds Tryd.pinned (.plain (OpenSpec.upto cutSolidSpec)) cutSolidUptoCard

/-- THE SECOND FORM's CARD OF 'spadillelaw02.CutUpright'. -/
def cutUprightUptoCard : Claim7 := { stood := { row := cutUprightUptoRow, standIns := [], harness := (true, "a0a17f6a80fca574248ac9d4fcad1644fca2771dc638d65d332d3c5187759b62"), looks := false }, kinds := [], alts := [], laidByText := true, laidKinds := [.data], laidTests := true, laidLooks := .later }
def CutUprightUptoCardSaid : Prop := Claim7.holds Tryd.pinned (.plain (OpenSpec.upto cutUprightSpec)) cutUprightUptoCard

/-- THE SECOND FORM's CARD OF 'spadillelaw02.CutMore'. -/
def cutMoreUptoCard : Claim7 := { stood := { row := cutMoreUptoRow, standIns := [], harness := (true, "a0a17f6a80fca574248ac9d4fcad1644fca2771dc638d65d332d3c5187759b62"), looks := false }, kinds := [], alts := [], laidByText := true, laidKinds := [.data], laidTests := true, laidLooks := .later }
def CutMoreUptoCardSaid : Prop := Claim7.holds Tryd.pinned (.plain (OpenSpec.upto cutMoreSpec)) cutMoreUptoCard

/-- THE SECOND FORM's CARD OF 'spadillelaw02.CutKnown'. -/
def cutKnownUptoCard : Claim7 := { stood := { row := cutKnownUptoRow, standIns := [], harness := (true, "a0a17f6a80fca574248ac9d4fcad1644fca2771dc638d65d332d3c5187759b62"), looks := false }, kinds := [], alts := [], laidByText := true, laidKinds := [.data], laidTests := true, laidLooks := .later }
def CutKnownUptoCardSaid : Prop := Claim7.holds Tryd.pinned (.plain (OpenSpec.upto cutKnownSpec)) cutKnownUptoCard

/-- THE SECOND FORM's CARD OF 'spadilletop.TopUprights'. -/
def topUprightsUptoCard : Claim7 := { stood := { row := topUprightsUptoRow, standIns := [], harness := (true, "a0a17f6a80fca574248ac9d4fcad1644fca2771dc638d65d332d3c5187759b62"), looks := false }, kinds := [], alts := [], laidByText := true, laidKinds := [.data, .data], laidTests := true, laidLooks := .later }
def TopUprightsUptoCardSaid : Prop := Claim7.holds Tryd.pinned (.plain (OpenSpec.upto topUprightsSpec)) topUprightsUptoCard
end Rows
end Go.Proofs.YtlollcabnfncpaaDoor
