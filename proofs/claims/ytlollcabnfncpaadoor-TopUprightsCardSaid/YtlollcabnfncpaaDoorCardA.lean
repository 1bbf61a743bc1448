/-
  What each row of this seat needs: the library's table out of the row's condition, a heap that meets it, and the last step of a row where the walk tells no more than that it keeps what lay there.
-/
import Derived.Test.YtlollcabnfncpaaDoorRows
import Derived.Test.YtlollcabnfncpaaDoorTie
import Derived.Test.YtlollcabnfncpaaDoorCards
import Derived.Test.YtlollcabnfncpaaDoorWalkC
import Derived.ProofKit
import Derived.ChangeSame
import Derived.ChangeVars
import Derived.JoinedOf
import Derived.RowKit
import Derived.LaidLaws
import Derived.LaidMore
import Derived.OpenShut
import Derived.Below
import Derived.Stop.Joined
import Derived.SevenTiedAt
namespace Go.Proofs.YtlollcabnfncpaaDoor
open Go.ChangeShapes Go.WideShapes Go.ChangeAt Go.RowKit

theorem Tryd.own : ownKnob Tryd.prog.godebug = none := by kernel_rfl
theorem gTab : Tryd.prog.globalNamed "math/bits.deBruijn64tab" = some 0 := by kernel_rfl
theorem tTab : (Tryd.prog.globals[0]?).map (·.type) = some 199 := by kernel_rfl

/-- The door's own heap meets the condition. -/
theorem door_met (os : Os) (args : Array Value) : laidMetH Tryd.prog [("math/bits.deBruijn64tab", Rows.laid_math_bits_deBruijn64tab)] ((World.doorLaid Tryd.prog 400 os).forCall (fun _ _ => 0) ⟨#[], args, []⟩).memory :=
  laidMetH_of_parts3 (fuel := 8) (laidMet_of_run' 8 (by kernel_rfl) (by kernel_rfl)) (by kernel_rfl) (by kernel_rfl)

/-- What the condition gives the walks: the library's table. -/
theorem tab_of_laid {W : World} (h : laidMetH Tryd.prog [("math/bits.deBruijn64tab", Rows.laid_math_bits_deBruijn64tab)] W) : TabW W := by
  rw [MakeChecks.laidMetH_plain _ _ _ (by kernel_rfl)] at h
  obtain ⟨ps, ⟨g0, t0, cs0, f0, p0, q0, hg0, ht0, hv0, hd0, _, _⟩, _, _⟩ := h
  obtain rfl := Option.some.inj (gTab.symm.trans hg0)
  obtain rfl := Option.some.inj (tTab.symm.trans ht0)
  obtain ⟨xs, m1, rfl, hx1, hlen, hn3, hel⟩ := DataW.trod_array Tryd.underlying199 hd0
  have c3 : Tryd.prog.cellsOf 5 = 1 := by kernel_rfl
  have hlist : (Rows.laid_math_bits_deBruijn64tab : DataW Unit) = .agg ((List.range 64).map fun i => .lit (.int .u8 (Lib.deBruijn64tab.getD i 0 : Nat))) := by kernel_rfl
  have hcell : ∀ i, i < 64 → W.cell? ⟨0, i, none⟩ = some (.int .u8 (Lib.deBruijn64tab.getD i 0 : Nat)) := by
    intro i hi
    have hi' := hel i hi
    rw [c3] at hi'
    have hx2 : (DataW.agg ((List.range 64).map fun i => .lit (.int .u8 (Lib.deBruijn64tab.getD i 0 : Nat))) : DataW Unit) = .agg (xs.map (·.1)) := hlist.symm.trans (congrArg Prod.fst hx1)
    have hg := congrArg (·[i]?) (DataW.agg.inj hx2)
    simp only [List.getElem?_map, List.getElem?_range hi, Option.map_some] at hg
    cases hxi : xs[i]? with
    | none => rw [hxi] at hg; simp at hg
    | some x =>
      rw [hxi] at hi' hg
      simp only [Option.map_some, Option.some.injEq] at hg
      obtain ⟨k, e1, e2, _⟩ := DataW.trod_int Tryd.underlying5 hi'
      subst e2
      have hk : k = (Lib.deBruijn64tab.getD i 0 : Nat) := by simpa using hg.symm
      subst hk
      have := World.var?_cell hg0 hv0 i
      rw [this]
      obtain ⟨l⟩ := cs0
      simp only [Nat.mul_one] at e1
      have := congrArg (·[0]?) e1
      simpa [List.getElem?_take, List.getElem?_drop] using this
  refine ⟨?_, fun j hj => hcell j hj⟩
  have := hcell 0 (by decide)
  refine Nat.pos_of_ne_zero fun h0 => ?_
  have hn : W.heap[0]? = none := Array.getElem?_eq_none (by omega)
  simp [World.cell?, hn] at this
end Go.Proofs.YtlollcabnfncpaaDoor
