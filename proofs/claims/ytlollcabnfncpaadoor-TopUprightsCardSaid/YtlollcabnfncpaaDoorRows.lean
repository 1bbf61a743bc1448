/-
  NARROWER THAN 'FOR EVERY INPUT', by the rows' own cells (each row's printed sentence says how): CutSheets: laid · CutCounts: laid · CutFillings: laid · CutAgainst: laid · CutWaste: laid · CutColours: laid · CutStraight: laid · CutSolid: laid · CutUpright: laid · CutMore: laid · CutKnown: laid · TopUprights: laid.
  DERIVED. THE GIVEN ROWS OF THIS SEAT. 12 by the template 'for every input the law returns true; each argument reads behind the call as it read before'; 0 by the template 'total and deterministic' (their statements: YtlollcabnfncpaaDoorTotals.lean).
  GIVEN WITH THE SEED: the statements are not yours to turn. If you find one false, say at which input.
  Laid BY PROGRAM, IN A SANDBOX (cutbox-rows.mjs): the forced cells as the released guide's own fill.sh prints them over the translation b4abfc324b179d49… (all of the seat's roots in one cut). By AI agents, Wed Nov 11 2026. No macro, syntax, notation, axiom, sorry.
-/
import Derived.Test.YtlollcabnfncpaaDoorChecked
import GoSem.Claim
import GoSem.ClaimJoined
import GoSem.ClaimMapViews
import Derived.JoinedTies
import Derived.KernelRfl
namespace Go.Proofs.YtlollcabnfncpaaDoor
/- THE CELL 'sum', in the pinned program and in every row, IS THE sha256 OF THE DUMP (.gsa) THAT YtlollcabnfncpaaDoorProg.lean LOADS. Nothing in Lean hashes anything: it is a label: what it is worth is what the hold of that sum in a sandbox is worth. -/
noncomputable def Tryd.pinned : Pinned := { name := "ytlollcabnfncpaadoor", sum := "b4abfc324b179d49adbad68520098d21429f4817c7a4eb6dc0926e0d02175db7", checked := Tryd.checked }
namespace Rows
def none {H : Type} : Left H := { results := [], args := [] }

/- WHAT THE LISTED PACKAGE-LEVEL VARIABLES READ AS WHEN THE CALL BEGINS. Each datum BY PROGRAM (the guide's laid-datum.mjs) off the statement by which the dump's own 'gosem.cut.vars' lays the variable. In a bare row this is a premise. The card (YtlollcabnfncpaaDoorCards.lean) ties it to the program's text. -/
def laid_math_bits_deBruijn64tab {H : Type} : DataW H := .agg [.lit (.int .u8 0), .lit (.int .u8 1), .lit (.int .u8 56), .lit (.int .u8 2), .lit (.int .u8 57), .lit (.int .u8 49), .lit (.int .u8 28), .lit (.int .u8 3), .lit (.int .u8 61), .lit (.int .u8 58), .lit (.int .u8 42), .lit (.int .u8 50), .lit (.int .u8 38), .lit (.int .u8 29), .lit (.int .u8 17), .lit (.int .u8 4), .lit (.int .u8 62), .lit (.int .u8 47), .lit (.int .u8 59), .lit (.int .u8 36), .lit (.int .u8 45), .lit (.int .u8 43), .lit (.int .u8 51), .lit (.int .u8 22), .lit (.int .u8 53), .lit (.int .u8 39), .lit (.int .u8 33), .lit (.int .u8 30), .lit (.int .u8 24), .lit (.int .u8 18), .lit (.int .u8 12), .lit (.int .u8 5), .lit (.int .u8 63), .lit (.int .u8 55), .lit (.int .u8 48), .lit (.int .u8 27), .lit (.int .u8 60), .lit (.int .u8 41), .lit (.int .u8 37), .lit (.int .u8 16), .lit (.int .u8 46), .lit (.int .u8 35), .lit (.int .u8 44), .lit (.int .u8 21), .lit (.int .u8 52), .lit (.int .u8 32), .lit (.int .u8 23), .lit (.int .u8 11), .lit (.int .u8 54), .lit (.int .u8 26), .lit (.int .u8 40), .lit (.int .u8 15), .lit (.int .u8 34), .lit (.int .u8 20), .lit (.int .u8 31), .lit (.int .u8 10), .lit (.int .u8 25), .lit (.int .u8 14), .lit (.int .u8 19), .lit (.int .u8 9), .lit (.int .u8 13), .lit (.int .u8 8), .lit (.int .u8 7), .lit (.int .u8 6)]
def laid_spadille_stamp_sizes {H : Type} : DataW H := .agg [.lit (.int .i64 0), .lit (.int .i64 1), .lit (.int .i64 1), .lit (.int .i64 2), .lit (.int .i64 1), .lit (.int .i64 2), .lit (.int .i64 2), .lit (.int .i64 3), .lit (.int .i64 1), .lit (.int .i64 2), .lit (.int .i64 2), .lit (.int .i64 3), .lit (.int .i64 2), .lit (.int .i64 3), .lit (.int .i64 3), .lit (.int .i64 4), .lit (.int .i64 1), .lit (.int .i64 2), .lit (.int .i64 2), .lit (.int .i64 3), .lit (.int .i64 2), .lit (.int .i64 3), .lit (.int .i64 3), .lit (.int .i64 4), .lit (.int .i64 2), .lit (.int .i64 3), .lit (.int .i64 3), .lit (.int .i64 4), .lit (.int .i64 3), .lit (.int .i64 4), .lit (.int .i64 4), .lit (.int .i64 5), .lit (.int .i64 1), .lit (.int .i64 2), .lit (.int .i64 2), .lit (.int .i64 3), .lit (.int .i64 2), .lit (.int .i64 3), .lit (.int .i64 3), .lit (.int .i64 4), .lit (.int .i64 2), .lit (.int .i64 3), .lit (.int .i64 3), .lit (.int .i64 4), .lit (.int .i64 3), .lit (.int .i64 4), .lit (.int .i64 4), .lit (.int .i64 5), .lit (.int .i64 2), .lit (.int .i64 3), .lit (.int .i64 3), .lit (.int .i64 4), .lit (.int .i64 3), .lit (.int .i64 4), .lit (.int .i64 4), .lit (.int .i64 5), .lit (.int .i64 3), .lit (.int .i64 4), .lit (.int .i64 4), .lit (.int .i64 5), .lit (.int .i64 4), .lit (.int .i64 5), .lit (.int .i64 5), .lit (.int .i64 6)]

/-- 'spadillelaw02.CutSheets': WHATEVER THE INPUT: true; the input reads as it did. -/
def cutSheetsSpec : ChangeSpec := { name := "cutSheets", fn := fun _ => fun
  | [d] => { results := [.lit (.bool true)], args := [d] }
  | _ => none }
def cutSheetsRow : OpenClaim := { program := "ytlollcabnfncpaadoor", sum := "b4abfc324b179d49adbad68520098d21429f4817c7a4eb6dc0926e0d02175db7", func := "spadille/spadillelaw02.CutSheets", spec := "cutSheets", unfollowed := true, recurses := true, named := ["math/bits.deBruijn64tab"], plainKeys := false, apart := false, laid := [("math/bits.deBruijn64tab", laid_math_bits_deBruijn64tab)] }
def CutSheetsSaid : Prop := cutSheetsRow.holds Tryd.pinned (OpenSpec.ofChange cutSheetsSpec)

/-- ITS FALSE NEIGHBOUR: 'it returns false'. Refute it at one input. -/
def cutSheetsWrong : ChangeSpec := { name := "cutSheets", fn := fun _ => fun
  | [d] => { results := [.lit (.bool false)], args := [d] }
  | _ => none }
def CutSheetsWrongFalsely : Prop := cutSheetsRow.holds Tryd.pinned (OpenSpec.ofChange cutSheetsWrong)

/-- 'spadillelaw02.CutCounts': WHATEVER THE INPUT: true; the input reads as it did. -/
def cutCountsSpec : ChangeSpec := { name := "cutCounts", fn := fun _ => fun
  | [d] => { results := [.lit (.bool true)], args := [d] }
  | _ => none }
def cutCountsRow : OpenClaim := { program := "ytlollcabnfncpaadoor", sum := "b4abfc324b179d49adbad68520098d21429f4817c7a4eb6dc0926e0d02175db7", func := "spadille/spadillelaw02.CutCounts", spec := "cutCounts", unfollowed := true, recurses := true, named := ["math/bits.deBruijn64tab"], plainKeys := false, apart := false, laid := [("math/bits.deBruijn64tab", laid_math_bits_deBruijn64tab)] }
def CutCountsSaid : Prop := cutCountsRow.holds Tryd.pinned (OpenSpec.ofChange cutCountsSpec)

/-- ITS FALSE NEIGHBOUR: 'it returns false'. Refute it at one input. -/
def cutCountsWrong : ChangeSpec := { name := "cutCounts", fn := fun _ => fun
  | [d] => { results := [.lit (.bool false)], args := [d] }
  | _ => none }
def CutCountsWrongFalsely : Prop := cutCountsRow.holds Tryd.pinned (OpenSpec.ofChange cutCountsWrong)

/-- 'spadillelaw02.CutFillings': WHATEVER THE INPUT: true; the input reads as it did. -/
def cutFillingsSpec : ChangeSpec := { name := "cutFillings", fn := fun _ => fun
  | [d1, d2] => { results := [.lit (.bool true)], args := [d1, d2] }
  | _ => none }
def cutFillingsRow : OpenClaim := { program := "ytlollcabnfncpaadoor", sum := "b4abfc324b179d49adbad68520098d21429f4817c7a4eb6dc0926e0d02175db7", func := "spadille/spadillelaw02.CutFillings", spec := "cutFillings", unfollowed := true, recurses := true, named := ["math/bits.deBruijn64tab"], plainKeys := false, apart := false, laid := [("math/bits.deBruijn64tab", laid_math_bits_deBruijn64tab)] }
def CutFillingsSaid : Prop := cutFillingsRow.holds Tryd.pinned (OpenSpec.ofChange cutFillingsSpec)

/-- ITS FALSE NEIGHBOUR: 'it returns false'. Refute it at one input. -/
def cutFillingsWrong : ChangeSpec := { name := "cutFillings", fn := fun _ => fun
  | [d1, d2] => { results := [.lit (.bool false)], args := [d1, d2] }
  | _ => none }
def CutFillingsWrongFalsely : Prop := cutFillingsRow.holds Tryd.pinned (OpenSpec.ofChange cutFillingsWrong)

/-- 'spadillelaw02.CutAgainst': WHATEVER THE INPUT: true; the input reads as it did. -/
def cutAgainstSpec : ChangeSpec := { name := "cutAgainst", fn := fun _ => fun
  | [d1, d2] => { results := [.lit (.bool true)], args := [d1, d2] }
  | _ => none }
def cutAgainstRow : OpenClaim := { program := "ytlollcabnfncpaadoor", sum := "b4abfc324b179d49adbad68520098d21429f4817c7a4eb6dc0926e0d02175db7", func := "spadille/spadillelaw02.CutAgainst", spec := "cutAgainst", unfollowed := true, recurses := true, named := ["math/bits.deBruijn64tab"], plainKeys := false, apart := false, laid := [("math/bits.deBruijn64tab", laid_math_bits_deBruijn64tab)] }
def CutAgainstSaid : Prop := cutAgainstRow.holds Tryd.pinned (OpenSpec.ofChange cutAgainstSpec)

/-- ITS FALSE NEIGHBOUR: 'it returns false'. Refute it at one input. -/
def cutAgainstWrong : ChangeSpec := { name := "cutAgainst", fn := fun _ => fun
  | [d1, d2] => { results := [.lit (.bool false)], args := [d1, d2] }
  | _ => none }
def CutAgainstWrongFalsely : Prop := cutAgainstRow.holds Tryd.pinned (OpenSpec.ofChange cutAgainstWrong)

/-- 'spadillelaw02.CutWaste': WHATEVER THE INPUT: true; the input reads as it did. -/
def cutWasteSpec : ChangeSpec := { name := "cutWaste", fn := fun _ => fun
  | [d] => { results := [.lit (.bool true)], args := [d] }
  | _ => none }
def cutWasteRow : OpenClaim := { program := "ytlollcabnfncpaadoor", sum := "b4abfc324b179d49adbad68520098d21429f4817c7a4eb6dc0926e0d02175db7", func := "spadille/spadillelaw02.CutWaste", spec := "cutWaste", unfollowed := true, recurses := true, named := ["math/bits.deBruijn64tab"], plainKeys := false, apart := false, laid := [("math/bits.deBruijn64tab", laid_math_bits_deBruijn64tab)] }
def CutWasteSaid : Prop := cutWasteRow.holds Tryd.pinned (OpenSpec.ofChange cutWasteSpec)

/-- ITS FALSE NEIGHBOUR: 'it returns false'. Refute it at one input. -/
def cutWasteWrong : ChangeSpec := { name := "cutWaste", fn := fun _ => fun
  | [d] => { results := [.lit (.bool false)], args := [d] }
  | _ => none }
def CutWasteWrongFalsely : Prop := cutWasteRow.holds Tryd.pinned (OpenSpec.ofChange cutWasteWrong)

/-- 'spadillelaw02.CutColours': WHATEVER THE INPUT: true; the input reads as it did. -/
def cutColoursSpec : ChangeSpec := { name := "cutColours", fn := fun _ => fun
  | [d1, d2] => { results := [.lit (.bool true)], args := [d1, d2] }
  | _ => none }
def cutColoursRow : OpenClaim := { program := "ytlollcabnfncpaadoor", sum := "b4abfc324b179d49adbad68520098d21429f4817c7a4eb6dc0926e0d02175db7", func := "spadille/spadillelaw02.CutColours", spec := "cutColours", unfollowed := true, recurses := true, named := ["math/bits.deBruijn64tab"], plainKeys := false, apart := false, laid := [("math/bits.deBruijn64tab", laid_math_bits_deBruijn64tab)] }
def CutColoursSaid : Prop := cutColoursRow.holds Tryd.pinned (OpenSpec.ofChange cutColoursSpec)

/-- ITS FALSE NEIGHBOUR: 'it returns false'. Refute it at one input. -/
def cutColoursWrong : ChangeSpec := { name := "cutColours", fn := fun _ => fun
  | [d1, d2] => { results := [.lit (.bool false)], args := [d1, d2] }
  | _ => none }
def CutColoursWrongFalsely : Prop := cutColoursRow.holds Tryd.pinned (OpenSpec.ofChange cutColoursWrong)

/-- 'spadillelaw02.CutStraight': WHATEVER THE INPUT: true; the input reads as it did. -/
def cutStraightSpec : ChangeSpec := { name := "cutStraight", fn := fun _ => fun
  | [d1, d2] => { results := [.lit (.bool true)], args := [d1, d2] }
  | _ => none }
def cutStraightRow : OpenClaim := { program := "ytlollcabnfncpaadoor", sum := "b4abfc324b179d49adbad68520098d21429f4817c7a4eb6dc0926e0d02175db7", func := "spadille/spadillelaw02.CutStraight", spec := "cutStraight", unfollowed := true, recurses := true, named := ["math/bits.deBruijn64tab"], plainKeys := false, apart := false, laid := [("math/bits.deBruijn64tab", laid_math_bits_deBruijn64tab)] }
def CutStraightSaid : Prop := cutStraightRow.holds Tryd.pinned (OpenSpec.ofChange cutStraightSpec)

/-- ITS FALSE NEIGHBOUR: 'it returns false'. Refute it at one input. -/
def cutStraightWrong : ChangeSpec := { name := "cutStraight", fn := fun _ => fun
  | [d1, d2] => { results := [.lit (.bool false)], args := [d1, d2] }
  | _ => none }
def CutStraightWrongFalsely : Prop := cutStraightRow.holds Tryd.pinned (OpenSpec.ofChange cutStraightWrong)

/-- 'spadillelaw02.CutSolid': WHATEVER THE INPUT: true; the input reads as it did. -/
def cutSolidSpec : ChangeSpec := { name := "cutSolid", fn := fun _ => fun
  | [d] => { results := [.lit (.bool true)], args := [d] }
  | _ => none }
def cutSolidRow : OpenClaim := { program := "ytlollcabnfncpaadoor", sum := "b4abfc324b179d49adbad68520098d21429f4817c7a4eb6dc0926e0d02175db7", func := "spadille/spadillelaw02.CutSolid", spec := "cutSolid", unfollowed := true, recurses := true, named := ["math/bits.deBruijn64tab"], plainKeys := false, apart := false, laid := [("math/bits.deBruijn64tab", laid_math_bits_deBruijn64tab)] }
def CutSolidSaid : Prop := cutSolidRow.holds Tryd.pinned (OpenSpec.ofChange cutSolidSpec)

/-- ITS FALSE NEIGHBOUR: 'it returns false'. Refute it at one input. -/
def cutSolidWrong : ChangeSpec := { name := "cutSolid", fn := fun _ => fun
  | [d] => { results := [.lit (.bool false)], args := [d] }
  | _ => none }
def CutSolidWrongFalsely : Prop := cutSolidRow.holds Tryd.pinned (OpenSpec.ofChange cutSolidWrong)

/-- 'spadillelaw02.CutUpright': WHATEVER THE INPUT: true; the input reads as it did. -/
def cutUprightSpec : ChangeSpec := { name := "cutUpright", fn := fun _ => fun
  | [d] => { results := [.lit (.bool true)], args := [d] }
  | _ => none }
def cutUprightRow : OpenClaim := { program := "ytlollcabnfncpaadoor", sum := "b4abfc324b179d49adbad68520098d21429f4817c7a4eb6dc0926e0d02175db7", func := "spadille/spadillelaw02.CutUpright", spec := "cutUpright", unfollowed := true, recurses := true, named := ["math/bits.deBruijn64tab"], plainKeys := false, apart := false, laid := [("math/bits.deBruijn64tab", laid_math_bits_deBruijn64tab)] }
def CutUprightSaid : Prop := cutUprightRow.holds Tryd.pinned (OpenSpec.ofChange cutUprightSpec)

/-- ITS FALSE NEIGHBOUR: 'it returns false'. Refute it at one input. -/
def cutUprightWrong : ChangeSpec := { name := "cutUpright", fn := fun _ => fun
  | [d] => { results := [.lit (.bool false)], args := [d] }
  | _ => none }
def CutUprightWrongFalsely : Prop := cutUprightRow.holds Tryd.pinned (OpenSpec.ofChange cutUprightWrong)

/-- 'spadillelaw02.CutMore': WHATEVER THE INPUT: true; the input reads as it did. -/
def cutMoreSpec : ChangeSpec := { name := "cutMore", fn := fun _ => fun
  | [d1, d2] => { results := [.lit (.bool true)], args := [d1, d2] }
  | _ => none }
def cutMoreRow : OpenClaim := { program := "ytlollcabnfncpaadoor", sum := "b4abfc324b179d49adbad68520098d21429f4817c7a4eb6dc0926e0d02175db7", func := "spadille/spadillelaw02.CutMore", spec := "cutMore", unfollowed := true, recurses := true, named := ["math/bits.deBruijn64tab"], plainKeys := false, apart := false, laid := [("math/bits.deBruijn64tab", laid_math_bits_deBruijn64tab)] }
def CutMoreSaid : Prop := cutMoreRow.holds Tryd.pinned (OpenSpec.ofChange cutMoreSpec)

/-- ITS FALSE NEIGHBOUR: 'it returns false'. Refute it at one input. -/
def cutMoreWrong : ChangeSpec := { name := "cutMore", fn := fun _ => fun
  | [d1, d2] => { results := [.lit (.bool false)], args := [d1, d2] }
  | _ => none }
def CutMoreWrongFalsely : Prop := cutMoreRow.holds Tryd.pinned (OpenSpec.ofChange cutMoreWrong)

/-- 'spadillelaw02.CutKnown': WHATEVER THE INPUT: true; the input reads as it did. -/
def cutKnownSpec : ChangeSpec := { name := "cutKnown", fn := fun _ => fun
  | [] => { results := [.lit (.bool true)], args := [] }
  | _ => none }
def cutKnownRow : OpenClaim := { program := "ytlollcabnfncpaadoor", sum := "b4abfc324b179d49adbad68520098d21429f4817c7a4eb6dc0926e0d02175db7", func := "spadille/spadillelaw02.CutKnown", spec := "cutKnown", unfollowed := true, recurses := true, named := ["math/bits.deBruijn64tab"], plainKeys := false, apart := false, laid := [("math/bits.deBruijn64tab", laid_math_bits_deBruijn64tab)] }
def CutKnownSaid : Prop := cutKnownRow.holds Tryd.pinned (OpenSpec.ofChange cutKnownSpec)

/-- ITS FALSE NEIGHBOUR: 'it returns false'. Refute it at one input. -/
def cutKnownWrong : ChangeSpec := { name := "cutKnown", fn := fun _ => fun
  | [] => { results := [.lit (.bool false)], args := [] }
  | _ => none }
def CutKnownWrongFalsely : Prop := cutKnownRow.holds Tryd.pinned (OpenSpec.ofChange cutKnownWrong)

/-- 'spadilletop.TopUprights': WHATEVER THE INPUT: true; the input reads as it did. -/
def topUprightsSpec : ChangeSpec := { name := "topUprights", fn := fun _ => fun
  | [d1, d2, d3, d4] => { results := [.lit (.bool true)], args := [d1, d2, d3, d4] }
  | _ => none }
def topUprightsRow : OpenClaim := { program := "ytlollcabnfncpaadoor", sum := "b4abfc324b179d49adbad68520098d21429f4817c7a4eb6dc0926e0d02175db7", func := "spadille/spadilletop.TopUprights", spec := "topUprights", unfollowed := true, recurses := true, named := ["math/bits.deBruijn64tab", "spadille/stamp.sizes"], plainKeys := false, apart := false, laid := [("math/bits.deBruijn64tab", laid_math_bits_deBruijn64tab), ("spadille/stamp.sizes", laid_spadille_stamp_sizes)] }
def TopUprightsSaid : Prop := topUprightsRow.holds Tryd.pinned (OpenSpec.ofChange topUprightsSpec)

/-- ITS FALSE NEIGHBOUR: 'it returns false'. Refute it at one input. -/
def topUprightsWrong : ChangeSpec := { name := "topUprights", fn := fun _ => fun
  | [d1, d2, d3, d4] => { results := [.lit (.bool false)], args := [d1, d2, d3, d4] }
  | _ => none }
def TopUprightsWrongFalsely : Prop := topUprightsRow.holds Tryd.pinned (OpenSpec.ofChange topUprightsWrong)

/- THE SECOND FORM. 'bulk': how many values and letters a reading holds, each counted each time it is reached (what is shared counts as often as it is met; a slice's spare places count too). A statement '..UptoSaid' is the law's where the arguments, and the package variables that the reading takes, are together of bulk at most 1048576: NARROWER than '..Said'. Prove '..Said' where nothing that the law and all that it calls make is longer than what came in: it says more and counts as full. Else prove '..UptoSaid'. A law counts once. -/
mutual
def uptoBulk {H : Type} : DataW H → Nat
  | .lit (.string bytes) => bytes.length + 1
  | .lit _ => 1
  | .nil => 1
  | .ptr d => uptoBulk d + 1
  | .slice elems spare => uptoBulkAll elems + uptoBulkAll spare + 1
  | .agg parts => uptoBulkAll parts + 1
  | .iface _ d => uptoBulk d + 1
  | .map entries => uptoBulkEntries entries + 1
  | .held _ => 1
def uptoBulkAll {H : Type} : List (DataW H) → Nat
  | [] => 0
  | d :: r => uptoBulk d + uptoBulkAll r
def uptoBulkEntries {H : Type} : List (Lit × DataW H) → Nat
  | [] => 0
  | x :: r => uptoBulkEntry x + uptoBulkEntries r
def uptoBulkEntry {H : Type} : Lit × DataW H → Nat
  | (.string bytes, d) => bytes.length + uptoBulk d + 1
  | (_, d) => uptoBulk d + 1
 end
def uptoSmall : (H : Type) → List (DataW H) → Bool := fun _ ds => decide (uptoBulkAll ds ≤ 1048576)
def OpenSpec.upto (s : _root_.Go.ChangeSpec) : _root_.Go.OpenSpec := { _root_.Go.OpenSpec.ofChange s with cond := some uptoSmall }

/-- 'spadillelaw02.CutSheets', WHERE WHAT IT READS IS OF BULK AT MOST 1048576: true; the input reads as it did. -/
def cutSheetsUptoRow : OpenClaim := { program := "ytlollcabnfncpaadoor", sum := "b4abfc324b179d49adbad68520098d21429f4817c7a4eb6dc0926e0d02175db7", func := "spadille/spadillelaw02.CutSheets", spec := "cutSheets", unfollowed := true, recurses := true, named := ["math/bits.deBruijn64tab"], plainKeys := false, apart := false, laid := [("math/bits.deBruijn64tab", laid_math_bits_deBruijn64tab)], narrowed := true }
def CutSheetsUptoSaid : Prop := cutSheetsUptoRow.holds Tryd.pinned (OpenSpec.upto cutSheetsSpec)

/-- 'spadillelaw02.CutCounts', WHERE WHAT IT READS IS OF BULK AT MOST 1048576: true; the input reads as it did. -/
def cutCountsUptoRow : OpenClaim := { program := "ytlollcabnfncpaadoor", sum := "b4abfc324b179d49adbad68520098d21429f4817c7a4eb6dc0926e0d02175db7", func := "spadille/spadillelaw02.CutCounts", spec := "cutCounts", unfollowed := true, recurses := true, named := ["math/bits.deBruijn64tab"], plainKeys := false, apart := false, laid := [("math/bits.deBruijn64tab", laid_math_bits_deBruijn64tab)], narrowed := true }
def CutCountsUptoSaid : Prop := cutCountsUptoRow.holds Tryd.pinned (OpenSpec.upto cutCountsSpec)

/-- 'spadillelaw02.CutFillings', WHERE WHAT IT READS IS OF BULK AT MOST 1048576: true; the input reads as it did. -/
def cutFillingsUptoRow : OpenClaim := { program := "ytlollcabnfncpaadoor", sum := "b4abfc324b179d49adbad68520098d21429f4817c7a4eb6dc0926e0d02175db7", func := "spadille/spadillelaw02.CutFillings", spec := "cutFillings", unfollowed := true, recurses := true, named := ["math/bits.deBruijn64tab"], plainKeys := false, apart := false, laid := [("math/bits.deBruijn64tab", laid_math_bits_deBruijn64tab)], narrowed := true }
def CutFillingsUptoSaid : Prop := cutFillingsUptoRow.holds Tryd.pinned (OpenSpec.upto cutFillingsSpec)

/-- 'spadillelaw02.CutAgainst', WHERE WHAT IT READS IS OF BULK AT MOST 1048576: true; the input reads as it did. -/
def cutAgainstUptoRow : OpenClaim := { program := "ytlollcabnfncpaadoor", sum := "b4abfc324b179d49adbad68520098d21429f4817c7a4eb6dc0926e0d02175db7", func := "spadille/spadillelaw02.CutAgainst", spec := "cutAgainst", unfollowed := true, recurses := true, named := ["math/bits.deBruijn64tab"], plainKeys := false, apart := false, laid := [("math/bits.deBruijn64tab", laid_math_bits_deBruijn64tab)], narrowed := true }
def CutAgainstUptoSaid : Prop := cutAgainstUptoRow.holds Tryd.pinned (OpenSpec.upto cutAgainstSpec)

/-- 'spadillelaw02.CutWaste', WHERE WHAT IT READS IS OF BULK AT MOST 1048576: true; the input reads as it did. -/
def cutWasteUptoRow : OpenClaim := { program := "ytlollcabnfncpaadoor", sum := "b4abfc324b179d49adbad68520098d21429f4817c7a4eb6dc0926e0d02175db7", func := "spadille/spadillelaw02.CutWaste", spec := "cutWaste", unfollowed := true, recurses := true, named := ["math/bits.deBruijn64tab"], plainKeys := false, apart := false, laid := [("math/bits.deBruijn64tab", laid_math_bits_deBruijn64tab)], narrowed := true }
def CutWasteUptoSaid : Prop := cutWasteUptoRow.holds Tryd.pinned (OpenSpec.upto cutWasteSpec)

/-- 'spadillelaw02.CutColours', WHERE WHAT IT READS IS OF BULK AT MOST 1048576: true; the input reads as it did. -/
def cutColoursUptoRow : OpenClaim := { program := "ytlollcabnfncpaadoor", sum := "b4abfc324b179d49adbad68520098d21429f4817c7a4eb6dc0926e0d02175db7", func := "spadille/spadillelaw02.CutColours", spec := "cutColours", unfollowed := true, recurses := true, named := ["math/bits.deBruijn64tab"], plainKeys := false, apart := false, laid := [("math/bits.deBruijn64tab", laid_math_bits_deBruijn64tab)], narrowed := true }
def CutColoursUptoSaid : Prop := cutColoursUptoRow.holds Tryd.pinned (OpenSpec.upto cutColoursSpec)

/-- 'spadillelaw02.CutStraight', WHERE WHAT IT READS IS OF BULK AT MOST 1048576: true; the input reads as it did. -/
def cutStraightUptoRow : OpenClaim := { program := "ytlollcabnfncpaadoor", sum := "b4abfc324b179d49adbad68520098d21429f4817c7a4eb6dc0926e0d02175db7", func := "spadille/spadillelaw02.CutStraight", spec := "cutStraight", unfollowed := true, recurses := true, named := ["math/bits.deBruijn64tab"], plainKeys := false, apart := false, laid := [("math/bits.deBruijn64tab", laid_math_bits_deBruijn64tab)], narrowed := true }
def CutStraightUptoSaid : Prop := cutStraightUptoRow.holds Tryd.pinned (OpenSpec.upto cutStraightSpec)

/-- 'spadillelaw02.CutSolid', WHERE WHAT IT READS IS OF BULK AT MOST 1048576: true; the input reads as it did. -/
def cutSolidUptoRow : OpenClaim := { program := "ytlollcabnfncpaadoor", sum := "b4abfc324b179d49adbad68520098d21429f4817c7a4eb6dc0926e0d02175db7", func := "spadille/spadillelaw02.CutSolid", spec := "cutSolid", unfollowed := true, recurses := true, named := ["math/bits.deBruijn64tab"], plainKeys := false, apart := false, laid := [("math/bits.deBruijn64tab", laid_math_bits_deBruijn64tab)], narrowed := true }
def CutSolidUptoSaid : Prop := cutSolidUptoRow.holds Tryd.pinned (OpenSpec.upto cutSolidSpec)

/-- 'spadillelaw02.CutUpright', WHERE WHAT IT READS IS OF BULK AT MOST 1048576: true; the input reads as it did. -/
def cutUprightUptoRow : OpenClaim := { program := "ytlollcabnfncpaadoor", sum := "b4abfc324b179d49adbad68520098d21429f4817c7a4eb6dc0926e0d02175db7", func := "spadille/spadillelaw02.CutUpright", spec := "cutUpright", unfollowed := true, recurses := true, named := ["math/bits.deBruijn64tab"], plainKeys := false, apart := false, laid := [("math/bits.deBruijn64tab", laid_math_bits_deBruijn64tab)], narrowed := true }
def CutUprightUptoSaid : Prop := cutUprightUptoRow.holds Tryd.pinned (OpenSpec.upto cutUprightSpec)

/-- 'spadillelaw02.CutMore', WHERE WHAT IT READS IS OF BULK AT MOST 1048576: true; the input reads as it did. -/
def cutMoreUptoRow : OpenClaim := { program := "ytlollcabnfncpaadoor", sum := "b4abfc324b179d49adbad68520098d21429f4817c7a4eb6dc0926e0d02175db7", func := "spadille/spadillelaw02.CutMore", spec := "cutMore", unfollowed := true, recurses := true, named := ["math/bits.deBruijn64tab"], plainKeys := false, apart := false, laid := [("math/bits.deBruijn64tab", laid_math_bits_deBruijn64tab)], narrowed := true }
def CutMoreUptoSaid : Prop := cutMoreUptoRow.holds Tryd.pinned (OpenSpec.upto cutMoreSpec)

/-- 'spadillelaw02.CutKnown', WHERE WHAT IT READS IS OF BULK AT MOST 1048576: true; the input reads as it did. -/
def cutKnownUptoRow : OpenClaim := { program := "ytlollcabnfncpaadoor", sum := "b4abfc324b179d49adbad68520098d21429f4817c7a4eb6dc0926e0d02175db7", func := "spadille/spadillelaw02.CutKnown", spec := "cutKnown", unfollowed := true, recurses := true, named := ["math/bits.deBruijn64tab"], plainKeys := false, apart := false, laid := [("math/bits.deBruijn64tab", laid_math_bits_deBruijn64tab)], narrowed := true }
def CutKnownUptoSaid : Prop := cutKnownUptoRow.holds Tryd.pinned (OpenSpec.upto cutKnownSpec)

/-- 'spadilletop.TopUprights', WHERE WHAT IT READS IS OF BULK AT MOST 1048576: true; the input reads as it did. -/
def topUprightsUptoRow : OpenClaim := { program := "ytlollcabnfncpaadoor", sum := "b4abfc324b179d49adbad68520098d21429f4817c7a4eb6dc0926e0d02175db7", func := "spadille/spadilletop.TopUprights", spec := "topUprights", unfollowed := true, recurses := true, named := ["math/bits.deBruijn64tab", "spadille/stamp.sizes"], plainKeys := false, apart := false, laid := [("math/bits.deBruijn64tab", laid_math_bits_deBruijn64tab), ("spadille/stamp.sizes", laid_spadille_stamp_sizes)], narrowed := true }
def TopUprightsUptoSaid : Prop := topUprightsUptoRow.holds Tryd.pinned (OpenSpec.upto topUprightsSpec)

end Rows
end Go.Proofs.YtlollcabnfncpaaDoor
