/-
  DERIVED. GIVEN WITH THE SEED: THE CARDS: each row of YtbcbaaapogejiaaDoorRows.lean that lists a variable, with what it lists TIED to the program's text (the seventh form; the later family's looks); each row that meets fmt, with fmt's text TOLD by the authors' own Lean function (tested against real Go, not proved from fmt's source: count such statements apart). THE CARD IS WHAT COUNTS. Prove the row's statement (the work); the ties are given (YtbcbaaapogejiaaDoorTie.lean); close each card by the builder's one call (the guide's Derived/Test/ToyasCard.lean, 'card_holds'). Laid BY PROGRAM, IN A SANDBOX (cutbox-door.mjs). By AI agents, Wed Nov 11 2026. No macro, syntax, notation, axiom, sorry.
-/
import Derived.Test.YtbcbaaapogejiaaDoorRows
import GoSem.ClaimSeven
namespace Go.Proofs.YtbcbaaapogejiaaDoor
namespace Rows

/-- THE TIED CARD OF 'spadillelaw03.BackPresses'. -/
def backPressesCard : Claim7 := { stood := { row := backPressesRow, standIns := [], harness := (true, "93af0b2ae9327e9735a31decb9c2065920ae98aba7c1caf25e8b8a22084bdbf0"), looks := false }, kinds := [], alts := [], laidByText := true, laidKinds := [.wider], laidTests := true, laidLooks := .later }
def BackPressesCardSaid : Prop := Claim7.holds Tryd.pinned (.plain (OpenSpec.ofChange backPressesSpec)) backPressesCard

/-- THE TIED CARD OF 'spadillelaw03.BackTurned'. -/
def backTurnedCard : Claim7 := { stood := { row := backTurnedRow, standIns := [], harness := (true, "93af0b2ae9327e9735a31decb9c2065920ae98aba7c1caf25e8b8a22084bdbf0"), looks := false }, kinds := [], alts := [], laidByText := true, laidKinds := [.wider], laidTests := true, laidLooks := .later }
def BackTurnedCardSaid : Prop := Claim7.holds Tryd.pinned (.plain (OpenSpec.ofChange backTurnedSpec)) backTurnedCard

/-- THE TIED CARD OF 'spadillelaw03.BackKin'. -/
def backKinCard : Claim7 := { stood := { row := backKinRow, standIns := [], harness := (true, "93af0b2ae9327e9735a31decb9c2065920ae98aba7c1caf25e8b8a22084bdbf0"), looks := false }, kinds := [], alts := [], laidByText := true, laidKinds := [.wider], laidTests := true, laidLooks := .later }
def BackKinCardSaid : Prop := Claim7.holds Tryd.pinned (.plain (OpenSpec.ofChange backKinSpec)) backKinCard

/-- THE TIED CARD OF 'spadillelaw03.BackCounts'. -/
def backCountsCard : Claim7 := { stood := { row := backCountsRow, standIns := [], harness := (true, "93af0b2ae9327e9735a31decb9c2065920ae98aba7c1caf25e8b8a22084bdbf0"), looks := false }, kinds := [], alts := [], laidByText := true, laidKinds := [.wider], laidTests := true, laidLooks := .later }
def BackCountsCardSaid : Prop := Claim7.holds Tryd.pinned (.plain (OpenSpec.ofChange backCountsSpec)) backCountsCard

/-- THE TIED CARD OF 'spadillelaw03.BackAll'. -/
def backAllCard : Claim7 := { stood := { row := backAllRow, standIns := [], harness := (true, "93af0b2ae9327e9735a31decb9c2065920ae98aba7c1caf25e8b8a22084bdbf0"), looks := false }, kinds := [], alts := [], laidByText := true, laidKinds := [.wider], laidTests := true, laidLooks := .later }
def BackAllCardSaid : Prop := Claim7.holds Tryd.pinned (.plain (OpenSpec.ofChange backAllSpec)) backAllCard

/-- THE TIED CARD OF 'spadillelaw03.BackCells'. -/
def backCellsCard : Claim7 := { stood := { row := backCellsRow, standIns := [], harness := (true, "93af0b2ae9327e9735a31decb9c2065920ae98aba7c1caf25e8b8a22084bdbf0"), looks := false }, kinds := [], alts := [], laidByText := true, laidKinds := [.wider], laidTests := true, laidLooks := .later }
def BackCellsCardSaid : Prop := Claim7.holds Tryd.pinned (.plain (OpenSpec.ofChange backCellsSpec)) backCellsCard

/-- THE TIED CARD OF 'spadillelaw03.BackBurnside'. -/
def backBurnsideCard : Claim7 := { stood := { row := backBurnsideRow, standIns := [], harness := (true, "93af0b2ae9327e9735a31decb9c2065920ae98aba7c1caf25e8b8a22084bdbf0"), looks := false }, kinds := [], alts := [], laidByText := true, laidKinds := [.wider], laidTests := true, laidLooks := .later }
def BackBurnsideCardSaid : Prop := Claim7.holds Tryd.pinned (.plain (OpenSpec.ofChange backBurnsideSpec)) backBurnsideCard

/-- THE TIED CARD OF 'spadillelaw03.BackOrbit'. -/
def backOrbitCard : Claim7 := { stood := { row := backOrbitRow, standIns := [], harness := (true, "93af0b2ae9327e9735a31decb9c2065920ae98aba7c1caf25e8b8a22084bdbf0"), looks := false }, kinds := [], alts := [], laidByText := true, laidKinds := [.wider], laidTests := true, laidLooks := .later }
def BackOrbitCardSaid : Prop := Claim7.holds Tryd.pinned (.plain (OpenSpec.ofChange backOrbitSpec)) backOrbitCard

/-- THE TIED CARD OF 'spadillelaw03.BackProducts'. -/
def backProductsCard : Claim7 := { stood := { row := backProductsRow, standIns := [], harness := (true, "93af0b2ae9327e9735a31decb9c2065920ae98aba7c1caf25e8b8a22084bdbf0"), looks := false }, kinds := [], alts := [], laidByText := true, laidKinds := [.wider], laidTests := true, laidLooks := .later }
def BackProductsCardSaid : Prop := Claim7.holds Tryd.pinned (.plain (OpenSpec.ofChange backProductsSpec)) backProductsCard

/-- THE TIED CARD OF 'spadillelaw03.BackShown'. -/
def backShownCard : Claim7 := { stood := { row := backShownRow, standIns := [], harness := (true, "93af0b2ae9327e9735a31decb9c2065920ae98aba7c1caf25e8b8a22084bdbf0"), looks := false }, kinds := [], alts := [], laidByText := true, laidKinds := [.wider], laidTests := true, laidLooks := .later }
def BackShownCardSaid : Prop := Claim7.holds Tryd.pinned (.plain (OpenSpec.ofChange backShownSpec)) backShownCard

/-- THE TIED CARD OF 'spadillelaw03.BackMore'. -/
def backMoreCard : Claim7 := { stood := { row := backMoreRow, standIns := [], harness := (true, "93af0b2ae9327e9735a31decb9c2065920ae98aba7c1caf25e8b8a22084bdbf0"), looks := false }, kinds := [], alts := [], laidByText := true, laidKinds := [.wider], laidTests := true, laidLooks := .later }
def BackMoreCardSaid : Prop := Claim7.holds Tryd.pinned (.plain (OpenSpec.ofChange backMoreSpec)) backMoreCard

/-- THE TIED CARD OF 'spadillelaw03.BackKnown'. -/
def backKnownCard : Claim7 := { stood := { row := backKnownRow, standIns := [], harness := (true, "93af0b2ae9327e9735a31decb9c2065920ae98aba7c1caf25e8b8a22084bdbf0"), looks := false }, kinds := [], alts := [], laidByText := true, laidKinds := [.wider], laidTests := true, laidLooks := .later }
def BackKnownCardSaid : Prop := Claim7.holds Tryd.pinned (.plain (OpenSpec.ofChange backKnownSpec)) backKnownCard

/-- THE TIED CARD OF 'spadilletop.TopMirrored'. -/
def topMirroredCard : Claim7 := { stood := { row := topMirroredRow, standIns := [], harness := (true, "93af0b2ae9327e9735a31decb9c2065920ae98aba7c1caf25e8b8a22084bdbf0"), looks := false }, kinds := [], alts := [], laidByText := true, laidKinds := [.data, .wider, .data], laidTests := true, laidLooks := .later }
def TopMirroredCardSaid : Prop := Claim7.holds Tryd.pinned (.plain (OpenSpec.ofChange topMirroredSpec)) topMirroredCard

/-- THE TIED CARD OF 'spadilletop.TopCounted'. -/
def topCountedCard : Claim7 := { stood := { row := topCountedRow, standIns := [], harness := (true, "93af0b2ae9327e9735a31decb9c2065920ae98aba7c1caf25e8b8a22084bdbf0"), looks := false }, kinds := [], alts := [], laidByText := true, laidKinds := [.data, .wider, .data], laidTests := true, laidLooks := .later }
def TopCountedCardSaid : Prop := Claim7.holds Tryd.pinned (.plain (OpenSpec.ofChange topCountedSpec)) topCountedCard

/-- THE SECOND FORM's CARD OF 'spadillelaw03.BackPresses'. -/
def backPressesUptoCard : Claim7 := { stood := { row := backPressesUptoRow, standIns := [], harness := (true, "93af0b2ae9327e9735a31decb9c2065920ae98aba7c1caf25e8b8a22084bdbf0"), looks := false }, kinds := [], alts := [], laidByText := true, laidKinds := [.wider], laidTests := true, laidLooks := .later }
def BackPressesUptoCardSaid : Prop := Claim7.holds Tryd.pinned (.plain (OpenSpec.upto backPressesSpec)) backPressesUptoCard

/-- THE SECOND FORM's CARD OF 'spadillelaw03.BackTurned'. -/
def backTurnedUptoCard : Claim7 := { stood := { row := backTurnedUptoRow, standIns := [], harness := (true, "93af0b2ae9327e9735a31decb9c2065920ae98aba7c1caf25e8b8a22084bdbf0"), looks := false }, kinds := [], alts := [], laidByText := true, laidKinds := [.wider], laidTests := true, laidLooks := .later }
def BackTurnedUptoCardSaid : Prop := Claim7.holds Tryd.pinned (.plain (OpenSpec.upto backTurnedSpec)) backTurnedUptoCard

/-- THE SECOND FORM's CARD OF 'spadillelaw03.BackKin'. -/
def backKinUptoCard : Claim7 := { stood := { row := backKinUptoRow, standIns := [], harness := (true, "93af0b2ae9327e9735a31decb9c2065920ae98aba7c1caf25e8b8a22084bdbf0"), looks := false }, kinds := [], alts := [], laidByText := true, laidKinds := [.wider], laidTests := true, laidLooks := .later }
def BackKinUptoCardSaid : Prop := Claim7.holds Tryd.pinned (.plain (OpenSpec.upto backKinSpec)) backKinUptoCard

/-- THE SECOND FORM's CARD OF 'spadillelaw03.BackCounts'. -/
def backCountsUptoCard : Claim7 := { stood := { row := backCountsUptoRow, standIns := [], harness := (true, "93af0b2ae9327e9735a31decb9c2065920ae98aba7c1caf25e8b8a22084bdbf0"), looks := false }, kinds := [], alts := [], laidByText := true, laidKinds := [.wider], laidTests := true, laidLooks := .later }
def BackCountsUptoCardSaid : Prop := Claim7.holds Tryd.pinned (.plain (OpenSpec.upto backCountsSpec)) backCountsUptoCard

/-- THE SECOND FORM's CARD OF 'spadillelaw03.BackAll'. -/
def backAllUptoCard : Claim7 := { stood := { row := backAllUptoRow, standIns := [], harness := (true, "93af0b2ae9327e9735a31decb9c2065920ae98aba7c1caf25e8b8a22084bdbf0"), looks := false }, kinds := [], alts := [], laidByText := true, laidKinds := [.wider], laidTests := true, laidLooks := .later }
def BackAllUptoCardSaid : Prop := Claim7.holds Tryd.pinned (.plain (OpenSpec.upto backAllSpec)) backAllUptoCard

/-- THE SECOND FORM's CARD OF 'spadillelaw03.BackCells'. -/
def backCellsUptoCard : Claim7 := { stood := { row := backCellsUptoRow, standIns := [], harness := (true, "93af0b2ae9327e9735a31decb9c2065920ae98aba7c1caf25e8b8a22084bdbf0"), looks := false }, kinds := [], alts := [], laidByText := true, laidKinds := [.wider], laidTests := true, laidLooks := .later }
def BackCellsUptoCardSaid : Prop := Claim7.holds Tryd.pinned (.plain (OpenSpec.upto backCellsSpec)) backCellsUptoCard

/-- THE SECOND FORM's CARD OF 'spadillelaw03.BackBurnside'. -/
def backBurnsideUptoCard : Claim7 := { stood := { row := backBurnsideUptoRow, standIns := [], harness := (true, "93af0b2ae9327e9735a31decb9c2065920ae98aba7c1caf25e8b8a22084bdbf0"), looks := false }, kinds := [], alts := [], laidByText := true, laidKinds := [.wider], laidTests := true, laidLooks := .later }
def BackBurnsideUptoCardSaid : Prop := Claim7.holds Tryd.pinned (.plain (OpenSpec.upto backBurnsideSpec)) backBurnsideUptoCard

/-- THE SECOND FORM's CARD OF 'spadillelaw03.BackOrbit'. -/
def backOrbitUptoCard : Claim7 := { stood := { row := backOrbitUptoRow, standIns := [], harness := (true, "93af0b2ae9327e9735a31decb9c2065920ae98aba7c1caf25e8b8a22084bdbf0"), looks := false }, kinds := [], alts := [], laidByText := true, laidKinds := [.wider], laidTests := true, laidLooks := .later }
def BackOrbitUptoCardSaid : Prop := Claim7.holds Tryd.pinned (.plain (OpenSpec.upto backOrbitSpec)) backOrbitUptoCard

/-- THE SECOND FORM's CARD OF 'spadillelaw03.BackProducts'. -/
def backProductsUptoCard : Claim7 := { stood := { row := backProductsUptoRow, standIns := [], harness := (true, "93af0b2ae9327e9735a31decb9c2065920ae98aba7c1caf25e8b8a22084bdbf0"), looks := false }, kinds := [], alts := [], laidByText := true, laidKinds := [.wider], laidTests := true, laidLooks := .later }
def BackProductsUptoCardSaid : Prop := Claim7.holds Tryd.pinned (.plain (OpenSpec.upto backProductsSpec)) backProductsUptoCard

/-- THE SECOND FORM's CARD OF 'spadillelaw03.BackShown'. -/
def backShownUptoCard : Claim7 := { stood := { row := backShownUptoRow, standIns := [], harness := (true, "93af0b2ae9327e9735a31decb9c2065920ae98aba7c1caf25e8b8a22084bdbf0"), looks := false }, kinds := [], alts := [], laidByText := true, laidKinds := [.wider], laidTests := true, laidLooks := .later }
def BackShownUptoCardSaid : Prop := Claim7.holds Tryd.pinned (.plain (OpenSpec.upto backShownSpec)) backShownUptoCard

/-- THE SECOND FORM's CARD OF 'spadillelaw03.BackMore'. -/
def backMoreUptoCard : Claim7 := { stood := { row := backMoreUptoRow, standIns := [], harness := (true, "93af0b2ae9327e9735a31decb9c2065920ae98aba7c1caf25e8b8a22084bdbf0"), looks := false }, kinds := [], alts := [], laidByText := true, laidKinds := [.wider], laidTests := true, laidLooks := .later }
def BackMoreUptoCardSaid : Prop := Claim7.holds Tryd.pinned (.plain (OpenSpec.upto backMoreSpec)) backMoreUptoCard

/-- THE SECOND FORM's CARD OF 'spadillelaw03.BackKnown'. -/
def backKnownUptoCard : Claim7 := { stood := { row := backKnownUptoRow, standIns := [], harness := (true, "93af0b2ae9327e9735a31decb9c2065920ae98aba7c1caf25e8b8a22084bdbf0"), looks := false }, kinds := [], alts := [], laidByText := true, laidKinds := [.wider], laidTests := true, laidLooks := .later }
def BackKnownUptoCardSaid : Prop := Claim7.holds Tryd.pinned (.plain (OpenSpec.upto backKnownSpec)) backKnownUptoCard

/-- THE SECOND FORM's CARD OF 'spadilletop.TopMirrored'. -/
def topMirroredUptoCard : Claim7 := { stood := { row := topMirroredUptoRow, standIns := [], harness := (true, "93af0b2ae9327e9735a31decb9c2065920ae98aba7c1caf25e8b8a22084bdbf0"), looks := false }, kinds := [], alts := [], laidByText := true, laidKinds := [.data, .wider, .data], laidTests := true, laidLooks := .later }
def TopMirroredUptoCardSaid : Prop := Claim7.holds Tryd.pinned (.plain (OpenSpec.upto topMirroredSpec)) topMirroredUptoCard

/-- THE SECOND FORM's CARD OF 'spadilletop.TopCounted'. -/
def topCountedUptoCard : Claim7 := { stood := { row := topCountedUptoRow, standIns := [], harness := (true, "93af0b2ae9327e9735a31decb9c2065920ae98aba7c1caf25e8b8a22084bdbf0"), looks := false }, kinds := [], alts := [], laidByText := true, laidKinds := [.data, .wider, .data], laidTests := true, laidLooks := .later }
def TopCountedUptoCardSaid : Prop := Claim7.holds Tryd.pinned (.plain (OpenSpec.upto topCountedSpec)) topCountedUptoCard
end Rows
end Go.Proofs.YtbcbaaapogejiaaDoor
