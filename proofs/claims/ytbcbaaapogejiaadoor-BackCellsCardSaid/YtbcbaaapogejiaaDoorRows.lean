/-
  NARROWER THAN 'FOR EVERY INPUT', by the rows' own cells (each row's printed sentence says how): BackPresses: laid · BackTurned: laid · BackKin: laid · BackCounts: laid · BackAll: laid · BackCells: laid · BackBurnside: laid · BackOrbit: laid · BackProducts: laid · BackShown: laid · BackMore: laid · BackKnown: laid · TopMirrored: laid · TopCounted: laid.
  DERIVED. THE GIVEN ROWS OF THIS SEAT. 14 by the template 'for every input the law returns true; each argument reads behind the call as it read before'; 0 by the template 'total and deterministic' (their statements: YtbcbaaapogejiaaDoorTotals.lean).
  GIVEN WITH THE SEED: the statements are not yours to turn. If you find one false, say at which input.
  Laid BY PROGRAM, IN A SANDBOX (cutbox-rows.mjs): the forced cells as the released guide's own fill.sh prints them over the translation ff2baf4964749c29… (all of the seat's roots in one cut). By AI agents, Wed Nov 11 2026. No macro, syntax, notation, axiom, sorry.
-/
import Derived.Test.YtbcbaaapogejiaaDoorChecked
import GoSem.Claim
import GoSem.ClaimJoined
import GoSem.ClaimMapViews
import Derived.JoinedTies
import Derived.KernelRfl
namespace Go.Proofs.YtbcbaaapogejiaaDoor
/- THE CELL 'sum', in the pinned program and in every row, IS THE sha256 OF THE DUMP (.gsa) THAT YtbcbaaapogejiaaDoorProg.lean LOADS. Nothing in Lean hashes anything: it is a label: what it is worth is what the hold of that sum in a sandbox is worth. -/
noncomputable def Tryd.pinned : Pinned := { name := "ytbcbaaapogejiaadoor", sum := "ff2baf4964749c29f66da81ad87b2344505356a2cfb051a59f35ebe6415153a8", checked := Tryd.checked }
namespace Rows
def none {H : Type} : Left H := { results := [], args := [] }

/- WHAT THE LISTED PACKAGE-LEVEL VARIABLES READ AS WHEN THE CALL BEGINS. Each datum BY PROGRAM (the guide's laid-datum.mjs) off the statement by which the dump's own 'gosem.cut.vars' lays the variable. In a bare row this is a premise. The card (YtbcbaaapogejiaaDoorCards.lean) ties it to the program's text. -/
def laid_spadille_back_moves {H : Type} : DataW H := .agg [.agg [.lit (.bool false), .lit (.bool false), .lit (.bool false)], .agg [.lit (.bool true), .lit (.bool true), .lit (.bool false)], .agg [.lit (.bool false), .lit (.bool true), .lit (.bool true)], .agg [.lit (.bool true), .lit (.bool false), .lit (.bool true)], .agg [.lit (.bool false), .lit (.bool false), .lit (.bool true)], .agg [.lit (.bool false), .lit (.bool true), .lit (.bool false)], .agg [.lit (.bool true), .lit (.bool false), .lit (.bool false)], .agg [.lit (.bool true), .lit (.bool true), .lit (.bool true)]]
def laid_math_bits_deBruijn64tab {H : Type} : DataW H := .agg [.lit (.int .u8 0), .lit (.int .u8 1), .lit (.int .u8 56), .lit (.int .u8 2), .lit (.int .u8 57), .lit (.int .u8 49), .lit (.int .u8 28), .lit (.int .u8 3), .lit (.int .u8 61), .lit (.int .u8 58), .lit (.int .u8 42), .lit (.int .u8 50), .lit (.int .u8 38), .lit (.int .u8 29), .lit (.int .u8 17), .lit (.int .u8 4), .lit (.int .u8 62), .lit (.int .u8 47), .lit (.int .u8 59), .lit (.int .u8 36), .lit (.int .u8 45), .lit (.int .u8 43), .lit (.int .u8 51), .lit (.int .u8 22), .lit (.int .u8 53), .lit (.int .u8 39), .lit (.int .u8 33), .lit (.int .u8 30), .lit (.int .u8 24), .lit (.int .u8 18), .lit (.int .u8 12), .lit (.int .u8 5), .lit (.int .u8 63), .lit (.int .u8 55), .lit (.int .u8 48), .lit (.int .u8 27), .lit (.int .u8 60), .lit (.int .u8 41), .lit (.int .u8 37), .lit (.int .u8 16), .lit (.int .u8 46), .lit (.int .u8 35), .lit (.int .u8 44), .lit (.int .u8 21), .lit (.int .u8 52), .lit (.int .u8 32), .lit (.int .u8 23), .lit (.int .u8 11), .lit (.int .u8 54), .lit (.int .u8 26), .lit (.int .u8 40), .lit (.int .u8 15), .lit (.int .u8 34), .lit (.int .u8 20), .lit (.int .u8 31), .lit (.int .u8 10), .lit (.int .u8 25), .lit (.int .u8 14), .lit (.int .u8 19), .lit (.int .u8 9), .lit (.int .u8 13), .lit (.int .u8 8), .lit (.int .u8 7), .lit (.int .u8 6)]
def laid_spadille_stamp_sizes {H : Type} : DataW H := .agg [.lit (.int .i64 0), .lit (.int .i64 1), .lit (.int .i64 1), .lit (.int .i64 2), .lit (.int .i64 1), .lit (.int .i64 2), .lit (.int .i64 2), .lit (.int .i64 3), .lit (.int .i64 1), .lit (.int .i64 2), .lit (.int .i64 2), .lit (.int .i64 3), .lit (.int .i64 2), .lit (.int .i64 3), .lit (.int .i64 3), .lit (.int .i64 4), .lit (.int .i64 1), .lit (.int .i64 2), .lit (.int .i64 2), .lit (.int .i64 3), .lit (.int .i64 2), .lit (.int .i64 3), .lit (.int .i64 3), .lit (.int .i64 4), .lit (.int .i64 2), .lit (.int .i64 3), .lit (.int .i64 3), .lit (.int .i64 4), .lit (.int .i64 3), .lit (.int .i64 4), .lit (.int .i64 4), .lit (.int .i64 5), .lit (.int .i64 1), .lit (.int .i64 2), .lit (.int .i64 2), .lit (.int .i64 3), .lit (.int .i64 2), .lit (.int .i64 3), .lit (.int .i64 3), .lit (.int .i64 4), .lit (.int .i64 2), .lit (.int .i64 3), .lit (.int .i64 3), .lit (.int .i64 4), .lit (.int .i64 3), .lit (.int .i64 4), .lit (.int .i64 4), .lit (.int .i64 5), .lit (.int .i64 2), .lit (.int .i64 3), .lit (.int .i64 3), .lit (.int .i64 4), .lit (.int .i64 3), .lit (.int .i64 4), .lit (.int .i64 4), .lit (.int .i64 5), .lit (.int .i64 3), .lit (.int .i64 4), .lit (.int .i64 4), .lit (.int .i64 5), .lit (.int .i64 4), .lit (.int .i64 5), .lit (.int .i64 5), .lit (.int .i64 6)]

/-- 'spadillelaw03.BackPresses': WHATEVER THE INPUT: true; the input reads as it did. -/
def backPressesSpec : ChangeSpec := { name := "backPresses", fn := fun _ => fun
  | [d1, d2, d3] => { results := [.lit (.bool true)], args := [d1, d2, d3] }
  | _ => none }
def backPressesRow : OpenClaim := { program := "ytbcbaaapogejiaadoor", sum := "ff2baf4964749c29f66da81ad87b2344505356a2cfb051a59f35ebe6415153a8", func := "spadille/spadillelaw03.BackPresses", spec := "backPresses", unfollowed := true, recurses := true, named := ["spadille/back.moves"], apart := false, laid := [("spadille/back.moves", laid_spadille_back_moves)] }
def BackPressesSaid : Prop := backPressesRow.holds Tryd.pinned (OpenSpec.ofChange backPressesSpec)

/-- ITS FALSE NEIGHBOUR: 'it returns false'. Refute it at one input. -/
def backPressesWrong : ChangeSpec := { name := "backPresses", fn := fun _ => fun
  | [d1, d2, d3] => { results := [.lit (.bool false)], args := [d1, d2, d3] }
  | _ => none }
def BackPressesWrongFalsely : Prop := backPressesRow.holds Tryd.pinned (OpenSpec.ofChange backPressesWrong)

/-- 'spadillelaw03.BackTurned': WHATEVER THE INPUT: true; the input reads as it did. -/
def backTurnedSpec : ChangeSpec := { name := "backTurned", fn := fun _ => fun
  | [d1, d2, d3, d4] => { results := [.lit (.bool true)], args := [d1, d2, d3, d4] }
  | _ => none }
def backTurnedRow : OpenClaim := { program := "ytbcbaaapogejiaadoor", sum := "ff2baf4964749c29f66da81ad87b2344505356a2cfb051a59f35ebe6415153a8", func := "spadille/spadillelaw03.BackTurned", spec := "backTurned", unfollowed := true, recurses := true, named := ["spadille/back.moves"], apart := false, laid := [("spadille/back.moves", laid_spadille_back_moves)] }
def BackTurnedSaid : Prop := backTurnedRow.holds Tryd.pinned (OpenSpec.ofChange backTurnedSpec)

/-- ITS FALSE NEIGHBOUR: 'it returns false'. Refute it at one input. -/
def backTurnedWrong : ChangeSpec := { name := "backTurned", fn := fun _ => fun
  | [d1, d2, d3, d4] => { results := [.lit (.bool false)], args := [d1, d2, d3, d4] }
  | _ => none }
def BackTurnedWrongFalsely : Prop := backTurnedRow.holds Tryd.pinned (OpenSpec.ofChange backTurnedWrong)

/-- 'spadillelaw03.BackKin': WHATEVER THE INPUT: true; the input reads as it did. -/
def backKinSpec : ChangeSpec := { name := "backKin", fn := fun _ => fun
  | [d1, d2] => { results := [.lit (.bool true)], args := [d1, d2] }
  | _ => none }
def backKinRow : OpenClaim := { program := "ytbcbaaapogejiaadoor", sum := "ff2baf4964749c29f66da81ad87b2344505356a2cfb051a59f35ebe6415153a8", func := "spadille/spadillelaw03.BackKin", spec := "backKin", unfollowed := true, recurses := true, named := ["spadille/back.moves"], apart := false, laid := [("spadille/back.moves", laid_spadille_back_moves)] }
def BackKinSaid : Prop := backKinRow.holds Tryd.pinned (OpenSpec.ofChange backKinSpec)

/-- ITS FALSE NEIGHBOUR: 'it returns false'. Refute it at one input. -/
def backKinWrong : ChangeSpec := { name := "backKin", fn := fun _ => fun
  | [d1, d2] => { results := [.lit (.bool false)], args := [d1, d2] }
  | _ => none }
def BackKinWrongFalsely : Prop := backKinRow.holds Tryd.pinned (OpenSpec.ofChange backKinWrong)

/-- 'spadillelaw03.BackCounts': WHATEVER THE INPUT: true; the input reads as it did. -/
def backCountsSpec : ChangeSpec := { name := "backCounts", fn := fun _ => fun
  | [d1, d2, d3] => { results := [.lit (.bool true)], args := [d1, d2, d3] }
  | _ => none }
def backCountsRow : OpenClaim := { program := "ytbcbaaapogejiaadoor", sum := "ff2baf4964749c29f66da81ad87b2344505356a2cfb051a59f35ebe6415153a8", func := "spadille/spadillelaw03.BackCounts", spec := "backCounts", unfollowed := true, recurses := true, named := ["spadille/back.moves"], apart := false, laid := [("spadille/back.moves", laid_spadille_back_moves)] }
def BackCountsSaid : Prop := backCountsRow.holds Tryd.pinned (OpenSpec.ofChange backCountsSpec)

/-- ITS FALSE NEIGHBOUR: 'it returns false'. Refute it at one input. -/
def backCountsWrong : ChangeSpec := { name := "backCounts", fn := fun _ => fun
  | [d1, d2, d3] => { results := [.lit (.bool false)], args := [d1, d2, d3] }
  | _ => none }
def BackCountsWrongFalsely : Prop := backCountsRow.holds Tryd.pinned (OpenSpec.ofChange backCountsWrong)

/-- 'spadillelaw03.BackAll': WHATEVER THE INPUT: true; the input reads as it did. -/
def backAllSpec : ChangeSpec := { name := "backAll", fn := fun _ => fun
  | [d] => { results := [.lit (.bool true)], args := [d] }
  | _ => none }
def backAllRow : OpenClaim := { program := "ytbcbaaapogejiaadoor", sum := "ff2baf4964749c29f66da81ad87b2344505356a2cfb051a59f35ebe6415153a8", func := "spadille/spadillelaw03.BackAll", spec := "backAll", unfollowed := true, recurses := true, named := ["spadille/back.moves"], apart := false, laid := [("spadille/back.moves", laid_spadille_back_moves)] }
def BackAllSaid : Prop := backAllRow.holds Tryd.pinned (OpenSpec.ofChange backAllSpec)

/-- ITS FALSE NEIGHBOUR: 'it returns false'. Refute it at one input. -/
def backAllWrong : ChangeSpec := { name := "backAll", fn := fun _ => fun
  | [d] => { results := [.lit (.bool false)], args := [d] }
  | _ => none }
def BackAllWrongFalsely : Prop := backAllRow.holds Tryd.pinned (OpenSpec.ofChange backAllWrong)

/-- 'spadillelaw03.BackCells': WHATEVER THE INPUT: true; the input reads as it did. -/
def backCellsSpec : ChangeSpec := { name := "backCells", fn := fun _ => fun
  | [d1, d2, d3] => { results := [.lit (.bool true)], args := [d1, d2, d3] }
  | _ => none }
def backCellsRow : OpenClaim := { program := "ytbcbaaapogejiaadoor", sum := "ff2baf4964749c29f66da81ad87b2344505356a2cfb051a59f35ebe6415153a8", func := "spadille/spadillelaw03.BackCells", spec := "backCells", unfollowed := true, recurses := true, named := ["spadille/back.moves"], apart := false, laid := [("spadille/back.moves", laid_spadille_back_moves)] }
def BackCellsSaid : Prop := backCellsRow.holds Tryd.pinned (OpenSpec.ofChange backCellsSpec)

/-- ITS FALSE NEIGHBOUR: 'it returns false'. Refute it at one input. -/
def backCellsWrong : ChangeSpec := { name := "backCells", fn := fun _ => fun
  | [d1, d2, d3] => { results := [.lit (.bool false)], args := [d1, d2, d3] }
  | _ => none }
def BackCellsWrongFalsely : Prop := backCellsRow.holds Tryd.pinned (OpenSpec.ofChange backCellsWrong)

/-- 'spadillelaw03.BackBurnside': WHATEVER THE INPUT: true; the input reads as it did. -/
def backBurnsideSpec : ChangeSpec := { name := "backBurnside", fn := fun _ => fun
  | [d1, d2] => { results := [.lit (.bool true)], args := [d1, d2] }
  | _ => none }
def backBurnsideRow : OpenClaim := { program := "ytbcbaaapogejiaadoor", sum := "ff2baf4964749c29f66da81ad87b2344505356a2cfb051a59f35ebe6415153a8", func := "spadille/spadillelaw03.BackBurnside", spec := "backBurnside", unfollowed := true, recurses := true, named := ["spadille/back.moves"], apart := false, laid := [("spadille/back.moves", laid_spadille_back_moves)] }
def BackBurnsideSaid : Prop := backBurnsideRow.holds Tryd.pinned (OpenSpec.ofChange backBurnsideSpec)

/-- ITS FALSE NEIGHBOUR: 'it returns false'. Refute it at one input. -/
def backBurnsideWrong : ChangeSpec := { name := "backBurnside", fn := fun _ => fun
  | [d1, d2] => { results := [.lit (.bool false)], args := [d1, d2] }
  | _ => none }
def BackBurnsideWrongFalsely : Prop := backBurnsideRow.holds Tryd.pinned (OpenSpec.ofChange backBurnsideWrong)

/-- 'spadillelaw03.BackOrbit': WHATEVER THE INPUT: true; the input reads as it did. -/
def backOrbitSpec : ChangeSpec := { name := "backOrbit", fn := fun _ => fun
  | [d] => { results := [.lit (.bool true)], args := [d] }
  | _ => none }
def backOrbitRow : OpenClaim := { program := "ytbcbaaapogejiaadoor", sum := "ff2baf4964749c29f66da81ad87b2344505356a2cfb051a59f35ebe6415153a8", func := "spadille/spadillelaw03.BackOrbit", spec := "backOrbit", unfollowed := true, recurses := true, named := ["spadille/back.moves"], apart := false, laid := [("spadille/back.moves", laid_spadille_back_moves)] }
def BackOrbitSaid : Prop := backOrbitRow.holds Tryd.pinned (OpenSpec.ofChange backOrbitSpec)

/-- ITS FALSE NEIGHBOUR: 'it returns false'. Refute it at one input. -/
def backOrbitWrong : ChangeSpec := { name := "backOrbit", fn := fun _ => fun
  | [d] => { results := [.lit (.bool false)], args := [d] }
  | _ => none }
def BackOrbitWrongFalsely : Prop := backOrbitRow.holds Tryd.pinned (OpenSpec.ofChange backOrbitWrong)

/-- 'spadillelaw03.BackProducts': WHATEVER THE INPUT: true; the input reads as it did. -/
def backProductsSpec : ChangeSpec := { name := "backProducts", fn := fun _ => fun
  | [d1, d2] => { results := [.lit (.bool true)], args := [d1, d2] }
  | _ => none }
def backProductsRow : OpenClaim := { program := "ytbcbaaapogejiaadoor", sum := "ff2baf4964749c29f66da81ad87b2344505356a2cfb051a59f35ebe6415153a8", func := "spadille/spadillelaw03.BackProducts", spec := "backProducts", unfollowed := true, recurses := true, named := ["spadille/back.moves"], apart := false, laid := [("spadille/back.moves", laid_spadille_back_moves)] }
def BackProductsSaid : Prop := backProductsRow.holds Tryd.pinned (OpenSpec.ofChange backProductsSpec)

/-- ITS FALSE NEIGHBOUR: 'it returns false'. Refute it at one input. -/
def backProductsWrong : ChangeSpec := { name := "backProducts", fn := fun _ => fun
  | [d1, d2] => { results := [.lit (.bool false)], args := [d1, d2] }
  | _ => none }
def BackProductsWrongFalsely : Prop := backProductsRow.holds Tryd.pinned (OpenSpec.ofChange backProductsWrong)

/-- 'spadillelaw03.BackShown': WHATEVER THE INPUT: true; the input reads as it did. -/
def backShownSpec : ChangeSpec := { name := "backShown", fn := fun _ => fun
  | [d] => { results := [.lit (.bool true)], args := [d] }
  | _ => none }
def backShownRow : OpenClaim := { program := "ytbcbaaapogejiaadoor", sum := "ff2baf4964749c29f66da81ad87b2344505356a2cfb051a59f35ebe6415153a8", func := "spadille/spadillelaw03.BackShown", spec := "backShown", unfollowed := true, recurses := true, named := ["spadille/back.moves"], apart := false, laid := [("spadille/back.moves", laid_spadille_back_moves)] }
def BackShownSaid : Prop := backShownRow.holds Tryd.pinned (OpenSpec.ofChange backShownSpec)

/-- ITS FALSE NEIGHBOUR: 'it returns false'. Refute it at one input. -/
def backShownWrong : ChangeSpec := { name := "backShown", fn := fun _ => fun
  | [d] => { results := [.lit (.bool false)], args := [d] }
  | _ => none }
def BackShownWrongFalsely : Prop := backShownRow.holds Tryd.pinned (OpenSpec.ofChange backShownWrong)

/-- 'spadillelaw03.BackMore': WHATEVER THE INPUT: true; the input reads as it did. -/
def backMoreSpec : ChangeSpec := { name := "backMore", fn := fun _ => fun
  | [d1, d2, d3] => { results := [.lit (.bool true)], args := [d1, d2, d3] }
  | _ => none }
def backMoreRow : OpenClaim := { program := "ytbcbaaapogejiaadoor", sum := "ff2baf4964749c29f66da81ad87b2344505356a2cfb051a59f35ebe6415153a8", func := "spadille/spadillelaw03.BackMore", spec := "backMore", unfollowed := true, recurses := true, named := ["spadille/back.moves"], apart := false, laid := [("spadille/back.moves", laid_spadille_back_moves)] }
def BackMoreSaid : Prop := backMoreRow.holds Tryd.pinned (OpenSpec.ofChange backMoreSpec)

/-- ITS FALSE NEIGHBOUR: 'it returns false'. Refute it at one input. -/
def backMoreWrong : ChangeSpec := { name := "backMore", fn := fun _ => fun
  | [d1, d2, d3] => { results := [.lit (.bool false)], args := [d1, d2, d3] }
  | _ => none }
def BackMoreWrongFalsely : Prop := backMoreRow.holds Tryd.pinned (OpenSpec.ofChange backMoreWrong)

/-- 'spadillelaw03.BackKnown': WHATEVER THE INPUT: true; the input reads as it did. -/
def backKnownSpec : ChangeSpec := { name := "backKnown", fn := fun _ => fun
  | [] => { results := [.lit (.bool true)], args := [] }
  | _ => none }
def backKnownRow : OpenClaim := { program := "ytbcbaaapogejiaadoor", sum := "ff2baf4964749c29f66da81ad87b2344505356a2cfb051a59f35ebe6415153a8", func := "spadille/spadillelaw03.BackKnown", spec := "backKnown", unfollowed := true, recurses := true, named := ["spadille/back.moves"], apart := false, laid := [("spadille/back.moves", laid_spadille_back_moves)] }
def BackKnownSaid : Prop := backKnownRow.holds Tryd.pinned (OpenSpec.ofChange backKnownSpec)

/-- ITS FALSE NEIGHBOUR: 'it returns false'. Refute it at one input. -/
def backKnownWrong : ChangeSpec := { name := "backKnown", fn := fun _ => fun
  | [] => { results := [.lit (.bool false)], args := [] }
  | _ => none }
def BackKnownWrongFalsely : Prop := backKnownRow.holds Tryd.pinned (OpenSpec.ofChange backKnownWrong)

/-- 'spadilletop.TopMirrored': WHATEVER THE INPUT: true; the input reads as it did. -/
def topMirroredSpec : ChangeSpec := { name := "topMirrored", fn := fun _ => fun
  | [d1, d2, d3, d4, d5] => { results := [.lit (.bool true)], args := [d1, d2, d3, d4, d5] }
  | _ => none }
def topMirroredRow : OpenClaim := { program := "ytbcbaaapogejiaadoor", sum := "ff2baf4964749c29f66da81ad87b2344505356a2cfb051a59f35ebe6415153a8", func := "spadille/spadilletop.TopMirrored", spec := "topMirrored", unfollowed := true, recurses := true, named := ["math/bits.deBruijn64tab", "spadille/back.moves", "spadille/stamp.sizes"], apart := false, laid := [("math/bits.deBruijn64tab", laid_math_bits_deBruijn64tab), ("spadille/back.moves", laid_spadille_back_moves), ("spadille/stamp.sizes", laid_spadille_stamp_sizes)] }
def TopMirroredSaid : Prop := topMirroredRow.holds Tryd.pinned (OpenSpec.ofChange topMirroredSpec)

/-- ITS FALSE NEIGHBOUR: 'it returns false'. Refute it at one input. -/
def topMirroredWrong : ChangeSpec := { name := "topMirrored", fn := fun _ => fun
  | [d1, d2, d3, d4, d5] => { results := [.lit (.bool false)], args := [d1, d2, d3, d4, d5] }
  | _ => none }
def TopMirroredWrongFalsely : Prop := topMirroredRow.holds Tryd.pinned (OpenSpec.ofChange topMirroredWrong)

/-- 'spadilletop.TopCounted': WHATEVER THE INPUT: true; the input reads as it did. -/
def topCountedSpec : ChangeSpec := { name := "topCounted", fn := fun _ => fun
  | [d1, d2] => { results := [.lit (.bool true)], args := [d1, d2] }
  | _ => none }
def topCountedRow : OpenClaim := { program := "ytbcbaaapogejiaadoor", sum := "ff2baf4964749c29f66da81ad87b2344505356a2cfb051a59f35ebe6415153a8", func := "spadille/spadilletop.TopCounted", spec := "topCounted", unfollowed := true, recurses := true, named := ["spadille/back.moves", "spadille/stamp.sizes", "math/bits.deBruijn64tab"], apart := false, laid := [("math/bits.deBruijn64tab", laid_math_bits_deBruijn64tab), ("spadille/back.moves", laid_spadille_back_moves), ("spadille/stamp.sizes", laid_spadille_stamp_sizes)] }
def TopCountedSaid : Prop := topCountedRow.holds Tryd.pinned (OpenSpec.ofChange topCountedSpec)

/-- ITS FALSE NEIGHBOUR: 'it returns false'. Refute it at one input. -/
def topCountedWrong : ChangeSpec := { name := "topCounted", fn := fun _ => fun
  | [d1, d2] => { results := [.lit (.bool false)], args := [d1, d2] }
  | _ => none }
def TopCountedWrongFalsely : Prop := topCountedRow.holds Tryd.pinned (OpenSpec.ofChange topCountedWrong)

/- THE SECOND FORM. 'bulk': how many values and letters a reading holds, each counted each time it is reached (what is shared counts as often as it is met; a slice's spare places count too). A statement '..UptoSaid' is the law's where the arguments, and the package variables that the reading takes, are together of bulk at most 1048576: NARROWER than '..Said'. Prove '..Said' where nothing that the law and all that it calls make is longer than what came in: it says more and counts as full. Else prove '..UptoSaid'. A law counts once. -/
mutual
def uptoBulk {H : Type} : DataW H → Nat
  | .lit (.string bytes) => bytes.length + 1
  | .lit _ => 1
  | .nil => 1
  | .ptr d => uptoBulk d + 1
  | .slice elems spare => uptoBulkAll elems + uptoBulkAll spare + 1
  | .agg parts => uptoBulkAll parts + 1
  | .iface _ d => uptoBulk d + 1
  | .map entries => uptoBulkEntries entries + 1
  | .held _ => 1
def uptoBulkAll {H : Type} : List (DataW H) → Nat
  | [] => 0
  | d :: r => uptoBulk d + uptoBulkAll r
def uptoBulkEntries {H : Type} : List (Lit × DataW H) → Nat
  | [] => 0
  | x :: r => uptoBulkEntry x + uptoBulkEntries r
def uptoBulkEntry {H : Type} : Lit × DataW H → Nat
  | (.string bytes, d) => bytes.length + uptoBulk d + 1
  | (_, d) => uptoBulk d + 1
 end
def uptoSmall : (H : Type) → List (DataW H) → Bool := fun _ ds => decide (uptoBulkAll ds ≤ 1048576)
def OpenSpec.upto (s : _root_.Go.ChangeSpec) : _root_.Go.OpenSpec := { _root_.Go.OpenSpec.ofChange s with cond := some uptoSmall }

/-- 'spadillelaw03.BackPresses', WHERE WHAT IT READS IS OF BULK AT MOST 1048576: true; the input reads as it did. -/
def backPressesUptoRow : OpenClaim := { program := "ytbcbaaapogejiaadoor", sum := "ff2baf4964749c29f66da81ad87b2344505356a2cfb051a59f35ebe6415153a8", func := "spadille/spadillelaw03.BackPresses", spec := "backPresses", unfollowed := true, recurses := true, named := ["spadille/back.moves"], apart := false, laid := [("spadille/back.moves", laid_spadille_back_moves)], narrowed := true }
def BackPressesUptoSaid : Prop := backPressesUptoRow.holds Tryd.pinned (OpenSpec.upto backPressesSpec)

/-- 'spadillelaw03.BackTurned', WHERE WHAT IT READS IS OF BULK AT MOST 1048576: true; the input reads as it did. -/
def backTurnedUptoRow : OpenClaim := { program := "ytbcbaaapogejiaadoor", sum := "ff2baf4964749c29f66da81ad87b2344505356a2cfb051a59f35ebe6415153a8", func := "spadille/spadillelaw03.BackTurned", spec := "backTurned", unfollowed := true, recurses := true, named := ["spadille/back.moves"], apart := false, laid := [("spadille/back.moves", laid_spadille_back_moves)], narrowed := true }
def BackTurnedUptoSaid : Prop := backTurnedUptoRow.holds Tryd.pinned (OpenSpec.upto backTurnedSpec)

/-- 'spadillelaw03.BackKin', WHERE WHAT IT READS IS OF BULK AT MOST 1048576: true; the input reads as it did. -/
def backKinUptoRow : OpenClaim := { program := "ytbcbaaapogejiaadoor", sum := "ff2baf4964749c29f66da81ad87b2344505356a2cfb051a59f35ebe6415153a8", func := "spadille/spadillelaw03.BackKin", spec := "backKin", unfollowed := true, recurses := true, named := ["spadille/back.moves"], apart := false, laid := [("spadille/back.moves", laid_spadille_back_moves)], narrowed := true }
def BackKinUptoSaid : Prop := backKinUptoRow.holds Tryd.pinned (OpenSpec.upto backKinSpec)

/-- 'spadillelaw03.BackCounts', WHERE WHAT IT READS IS OF BULK AT MOST 1048576: true; the input reads as it did. -/
def backCountsUptoRow : OpenClaim := { program := "ytbcbaaapogejiaadoor", sum := "ff2baf4964749c29f66da81ad87b2344505356a2cfb051a59f35ebe6415153a8", func := "spadille/spadillelaw03.BackCounts", spec := "backCounts", unfollowed := true, recurses := true, named := ["spadille/back.moves"], apart := false, laid := [("spadille/back.moves", laid_spadille_back_moves)], narrowed := true }
def BackCountsUptoSaid : Prop := backCountsUptoRow.holds Tryd.pinned (OpenSpec.upto backCountsSpec)

/-- 'spadillelaw03.BackAll', WHERE WHAT IT READS IS OF BULK AT MOST 1048576: true; the input reads as it did. -/
def backAllUptoRow : OpenClaim := { program := "ytbcbaaapogejiaadoor", sum := "ff2baf4964749c29f66da81ad87b2344505356a2cfb051a59f35ebe6415153a8", func := "spadille/spadillelaw03.BackAll", spec := "backAll", unfollowed := true, recurses := true, named := ["spadille/back.moves"], apart := false, laid := [("spadille/back.moves", laid_spadille_back_moves)], narrowed := true }
def BackAllUptoSaid : Prop := backAllUptoRow.holds Tryd.pinned (OpenSpec.upto backAllSpec)

/-- 'spadillelaw03.BackCells', WHERE WHAT IT READS IS OF BULK AT MOST 1048576: true; the input reads as it did. -/
def backCellsUptoRow : OpenClaim := { program := "ytbcbaaapogejiaadoor", sum := "ff2baf4964749c29f66da81ad87b2344505356a2cfb051a59f35ebe6415153a8", func := "spadille/spadillelaw03.BackCells", spec := "backCells", unfollowed := true, recurses := true, named := ["spadille/back.moves"], apart := false, laid := [("spadille/back.moves", laid_spadille_back_moves)], narrowed := true }
def BackCellsUptoSaid : Prop := backCellsUptoRow.holds Tryd.pinned (OpenSpec.upto backCellsSpec)

/-- 'spadillelaw03.BackBurnside', WHERE WHAT IT READS IS OF BULK AT MOST 1048576: true; the input reads as it did. -/
def backBurnsideUptoRow : OpenClaim := { program := "ytbcbaaapogejiaadoor", sum := "ff2baf4964749c29f66da81ad87b2344505356a2cfb051a59f35ebe6415153a8", func := "spadille/spadillelaw03.BackBurnside", spec := "backBurnside", unfollowed := true, recurses := true, named := ["spadille/back.moves"], apart := false, laid := [("spadille/back.moves", laid_spadille_back_moves)], narrowed := true }
def BackBurnsideUptoSaid : Prop := backBurnsideUptoRow.holds Tryd.pinned (OpenSpec.upto backBurnsideSpec)

/-- 'spadillelaw03.BackOrbit', WHERE WHAT IT READS IS OF BULK AT MOST 1048576: true; the input reads as it did. -/
def backOrbitUptoRow : OpenClaim := { program := "ytbcbaaapogejiaadoor", sum := "ff2baf4964749c29f66da81ad87b2344505356a2cfb051a59f35ebe6415153a8", func := "spadille/spadillelaw03.BackOrbit", spec := "backOrbit", unfollowed := true, recurses := true, named := ["spadille/back.moves"], apart := false, laid := [("spadille/back.moves", laid_spadille_back_moves)], narrowed := true }
def BackOrbitUptoSaid : Prop := backOrbitUptoRow.holds Tryd.pinned (OpenSpec.upto backOrbitSpec)

/-- 'spadillelaw03.BackProducts', WHERE WHAT IT READS IS OF BULK AT MOST 1048576: true; the input reads as it did. -/
def backProductsUptoRow : OpenClaim := { program := "ytbcbaaapogejiaadoor", sum := "ff2baf4964749c29f66da81ad87b2344505356a2cfb051a59f35ebe6415153a8", func := "spadille/spadillelaw03.BackProducts", spec := "backProducts", unfollowed := true, recurses := true, named := ["spadille/back.moves"], apart := false, laid := [("spadille/back.moves", laid_spadille_back_moves)], narrowed := true }
def BackProductsUptoSaid : Prop := backProductsUptoRow.holds Tryd.pinned (OpenSpec.upto backProductsSpec)

/-- 'spadillelaw03.BackShown', WHERE WHAT IT READS IS OF BULK AT MOST 1048576: true; the input reads as it did. -/
def backShownUptoRow : OpenClaim := { program := "ytbcbaaapogejiaadoor", sum := "ff2baf4964749c29f66da81ad87b2344505356a2cfb051a59f35ebe6415153a8", func := "spadille/spadillelaw03.BackShown", spec := "backShown", unfollowed := true, recurses := true, named := ["spadille/back.moves"], apart := false, laid := [("spadille/back.moves", laid_spadille_back_moves)], narrowed := true }
def BackShownUptoSaid : Prop := backShownUptoRow.holds Tryd.pinned (OpenSpec.upto backShownSpec)

/-- 'spadillelaw03.BackMore', WHERE WHAT IT READS IS OF BULK AT MOST 1048576: true; the input reads as it did. -/
def backMoreUptoRow : OpenClaim := { program := "ytbcbaaapogejiaadoor", sum := "ff2baf4964749c29f66da81ad87b2344505356a2cfb051a59f35ebe6415153a8", func := "spadille/spadillelaw03.BackMore", spec := "backMore", unfollowed := true, recurses := true, named := ["spadille/back.moves"], apart := false, laid := [("spadille/back.moves", laid_spadille_back_moves)], narrowed := true }
def BackMoreUptoSaid : Prop := backMoreUptoRow.holds Tryd.pinned (OpenSpec.upto backMoreSpec)

/-- 'spadillelaw03.BackKnown', WHERE WHAT IT READS IS OF BULK AT MOST 1048576: true; the input reads as it did. -/
def backKnownUptoRow : OpenClaim := { program := "ytbcbaaapogejiaadoor", sum := "ff2baf4964749c29f66da81ad87b2344505356a2cfb051a59f35ebe6415153a8", func := "spadille/spadillelaw03.BackKnown", spec := "backKnown", unfollowed := true, recurses := true, named := ["spadille/back.moves"], apart := false, laid := [("spadille/back.moves", laid_spadille_back_moves)], narrowed := true }
def BackKnownUptoSaid : Prop := backKnownUptoRow.holds Tryd.pinned (OpenSpec.upto backKnownSpec)

/-- 'spadilletop.TopMirrored', WHERE WHAT IT READS IS OF BULK AT MOST 1048576: true; the input reads as it did. -/
def topMirroredUptoRow : OpenClaim := { program := "ytbcbaaapogejiaadoor", sum := "ff2baf4964749c29f66da81ad87b2344505356a2cfb051a59f35ebe6415153a8", func := "spadille/spadilletop.TopMirrored", spec := "topMirrored", unfollowed := true, recurses := true, named := ["math/bits.deBruijn64tab", "spadille/back.moves", "spadille/stamp.sizes"], apart := false, laid := [("math/bits.deBruijn64tab", laid_math_bits_deBruijn64tab), ("spadille/back.moves", laid_spadille_back_moves), ("spadille/stamp.sizes", laid_spadille_stamp_sizes)], narrowed := true }
def TopMirroredUptoSaid : Prop := topMirroredUptoRow.holds Tryd.pinned (OpenSpec.upto topMirroredSpec)

/-- 'spadilletop.TopCounted', WHERE WHAT IT READS IS OF BULK AT MOST 1048576: true; the input reads as it did. -/
def topCountedUptoRow : OpenClaim := { program := "ytbcbaaapogejiaadoor", sum := "ff2baf4964749c29f66da81ad87b2344505356a2cfb051a59f35ebe6415153a8", func := "spadille/spadilletop.TopCounted", spec := "topCounted", unfollowed := true, recurses := true, named := ["spadille/back.moves", "spadille/stamp.sizes", "math/bits.deBruijn64tab"], apart := false, laid := [("math/bits.deBruijn64tab", laid_math_bits_deBruijn64tab), ("spadille/back.moves", laid_spadille_back_moves), ("spadille/stamp.sizes", laid_spadille_stamp_sizes)], narrowed := true }
def TopCountedUptoSaid : Prop := topCountedUptoRow.holds Tryd.pinned (OpenSpec.upto topCountedSpec)

end Rows
end Go.Proofs.YtbcbaaapogejiaaDoor
