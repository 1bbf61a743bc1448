/-
  What each row of this seat needs: the table of moves out of the row's condition, a heap that meets it.
-/
import Derived.Test.YtbcbaaapogejiaaDoorRows
import Derived.Test.YtbcbaaapogejiaaDoorTie
import Derived.Test.YtbcbaaapogejiaaDoorCards
import Derived.Test.YtbcbaaapogejiaaDoorTurA
import Derived.ProofKit
import Derived.ChangeSame
import Derived.ChangeVars
import Derived.ChangeArms
import Derived.JoinedOf
import Derived.RowKit
import Derived.LaidLaws
import Derived.LaidMore
import Derived.OpenShut
import Derived.Below
import Derived.Stop.Joined
import Derived.SevenTiedAt
namespace Go.Proofs.YtbcbaaapogejiaaDoor
open Go.ChangeShapes Go.WideShapes Go.ChangeAt Go.RowKit

theorem Tryd.own : ownKnob Tryd.prog.godebug = none := by kernel_rfl
theorem gMov : Tryd.prog.globalNamed "spadille/back.moves" = some 0 := by kernel_rfl
theorem tMov : (Tryd.prog.globals[0]?).map (·.type) = some 111 := by kernel_rfl

/-- The door's own heap meets the condition. -/
theorem door_met (os : Os) (args : Array Value) : laidMetH Tryd.prog [("spadille/back.moves", Rows.laid_spadille_back_moves)] ((World.doorLaid Tryd.prog 400 os).forCall (fun _ _ => 0) ⟨#[], args, []⟩).memory :=
  laidMetH_of_parts3 (fuel := 8) (laidMet_of_run' 8 (by kernel_rfl) (by kernel_rfl)) (by kernel_rfl) (by kernel_rfl)

theorem one_at {cs : List Value} {i j : Nat} {v : Value} (hj : j < 3) (h : (((cs.drop (i * 3)).take 3).drop j).take 1 = [v]) : cs[i * 3 + j]? = some v := by
  have := congrArg (·[0]?) h
  simp only [List.getElem?_take, List.getElem?_drop] at this
  simpa [hj] using this

/-- What the condition gives the walks: the table of moves. -/
theorem mov_of_laid {W : World} (h : laidMetH Tryd.prog [("spadille/back.moves", Rows.laid_spadille_back_moves)] W) : MovW W := by
  rw [MakeChecks.laidMetH_plain _ _ _ (by kernel_rfl)] at h
  obtain ⟨ps, ⟨g0, t0, cs0, f0, p0, q0, hg0, ht0, hv0, hd0, _, _⟩, _, _⟩ := h
  obtain rfl := Option.some.inj (gMov.symm.trans hg0)
  obtain rfl := Option.some.inj (tMov.symm.trans ht0)
  obtain ⟨xs, m1, rfl, hx1, hlen, hn3, hel⟩ := DataW.trod_array Tryd.underlying111 hd0
  have c3 : Tryd.prog.cellsOf 110 = 3 := by kernel_rfl
  have c1 : Tryd.prog.cellsOf 4 = 1 := by kernel_rfl
  have hlist : (Rows.laid_spadille_back_moves : DataW Unit) = .agg ((List.range 8).map fun i => .agg [.lit (.bool (mv i).x), .lit (.bool (mv i).r), .lit (.bool (mv i).c)]) := by kernel_rfl
  have hcell : ∀ i, i < 8 → W.cell? ⟨0, i * 3, none⟩ = some (.bool (mv i).x) ∧ W.cell? ⟨0, i * 3 + 1, none⟩ = some (.bool (mv i).r) ∧ W.cell? ⟨0, i * 3 + 2, none⟩ = some (.bool (mv i).c) := by
    intro i hi
    have hi' := hel i hi
    rw [c3] at hi'
    have hx2 : (DataW.agg ((List.range 8).map fun i => .agg [.lit (.bool (mv i).x), .lit (.bool (mv i).r), .lit (.bool (mv i).c)]) : DataW Unit) = .agg (xs.map (·.1)) := hlist.symm.trans (congrArg Prod.fst hx1)
    have hg := congrArg (·[i]?) (DataW.agg.inj hx2)
    simp only [List.getElem?_map, List.getElem?_range hi, Option.map_some] at hg
    cases hxi : xs[i]? with
    | none => rw [hxi] at hg; simp at hg
    | some x =>
      rw [hxi] at hi' hg
      simp only [Option.map_some, Option.some.injEq] at hg
      obtain ⟨ys, m2, rfl, hy1, hlen2, hn2, hel2⟩ := DataW.trod_struct Tryd.underlying110 hi'
      have h0 := hel2 0 _ rfl
      have h1 := hel2 1 _ rfl
      have h2 := hel2 2 _ rfl
      rw [hy1] at hg
      have hys := DataW.agg.inj hg
      match ys, hn2 with
      | [y0, y1, y2], _ =>
        simp only [List.map_cons, List.map_nil, List.cons.injEq, and_true] at hys
        obtain ⟨e0, e1, e2⟩ := hys
        obtain ⟨b0, q0', r0⟩ := DataW.trod_bool Tryd.underlying4 (h0.trans rfl)
        obtain ⟨b1, q1', r1⟩ := DataW.trod_bool Tryd.underlying4 (h1.trans rfl)
        obtain ⟨b2, q2', r2⟩ := DataW.trod_bool Tryd.underlying4 (h2.trans rfl)
        subst r0 r1 r2
        have k0 : (mv i).x = b0 := by simpa using e0
        have k1 : (mv i).r = b1 := by simpa using e1
        have k2 : (mv i).c = b2 := by simpa using e2
        have w0 : (((cs0.toList.drop (i * 3)).take 3).drop 0).take (Tryd.prog.cellsOf 4) = [.bool b0] := q0'
        rw [c1] at w0
        have w1 : (((cs0.toList.drop (i * 3)).take 3).drop 1).take (Tryd.prog.cellsOf 4) = [.bool b1] := q1'
        rw [c1] at w1
        have w2 : (((cs0.toList.drop (i * 3)).take 3).drop 2).take (Tryd.prog.cellsOf 4) = [.bool b2] := q2'
        rw [c1] at w2
        rw [k0, k1, k2]
        have v0 := World.var?_cell hg0 hv0 (i * 3)
        have v1 := World.var?_cell hg0 hv0 (i * 3 + 1)
        have v2 := World.var?_cell hg0 hv0 (i * 3 + 2)
        obtain ⟨l⟩ := cs0
        have z0 := one_at (j := 0) (by decide) w0
        have z1 := one_at (j := 1) (by decide) w1
        have z2 := one_at (j := 2) (by decide) w2
        exact ⟨v0.trans (by simpa using z0), v1.trans (by simpa using z1), v2.trans (by simpa using z2)⟩
  refine ⟨?_, hcell⟩
  have := (hcell 0 (by decide)).1
  refine Nat.pos_of_ne_zero fun h0 => ?_
  have hn : W.heap[0]? = none := Array.getElem?_eq_none (by omega)
  simp [World.cell?, hn] at this
end Go.Proofs.YtbcbaaapogejiaaDoor
