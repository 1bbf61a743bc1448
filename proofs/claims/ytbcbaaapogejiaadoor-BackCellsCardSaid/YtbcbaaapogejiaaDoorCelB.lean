/-
  The first of the shortest lists of cells that show all, walked.
-/
import Derived.Test.YtbcbaaapogejiaaDoorCelA
import Derived.Test.YtbcbaaapogejiaaDoorTurB
namespace Go.Proofs.YtbcbaaapogejiaaDoor
open Go.RowKit

/-- The first list of so many cells, none before a given one, that shows all that is missing. -/
def pickN (sh : List Nat) : Nat → Nat → Nat → Nat → Option (List Nat)
  | 0, _, _, _ => none
  | _ + 1, _, 0, m => if m = 0 then some [] else none
  | f + 1, k, n + 1, m => if k < sh.length then (match pickN sh f (k + 1) n (minusN m (sh.getD k 0)) with
      | some r => some (k :: r)
      | none => pickN sh f (k + 1) (n + 1) m) else none

/-- A list of the call's own is handed back, and that it was found; or none. -/
def RetPick (w : World) (r : Option (List Nat)) (e : Ending) (w' : World) : Prop :=
  (∀ l, r = some l → ∃ A c, e = .returned (.tuple #[.slice A l.length c, .bool true]) ∧ IntsAt w' w'.heap.size A (intsN l)) ∧ (r = none → e = .returned (.tuple #[.slice none 0 0, .bool false])) ∧ Below w.heap.size w w'
end Go.Proofs.YtbcbaaapogejiaaDoor
