/-
  A row that needs two tables: the library's, and the table of sizes; four arguments.
-/
import Derived.Test.YtlollcabnfncpaaDoorCardB
import Derived.Test.YtlollcabnfncpaaDoorStpA
namespace Go.Proofs.YtlollcabnfncpaaDoor
open Go.ChangeShapes Go.WideShapes Go.ChangeAt Go.RowKit

theorem gSizes : Tryd.prog.globalNamed "spadille/stamp.sizes" = some 1 := by kernel_rfl
theorem tSizes : (Tryd.prog.globals[1]?).map (·.type) = some 204 := by kernel_rfl

/-- The door's own heap meets the condition. -/
theorem door_met2 (os : Os) (args : Array Value) : laidMetH Tryd.prog [("math/bits.deBruijn64tab", Rows.laid_math_bits_deBruijn64tab), ("spadille/stamp.sizes", Rows.laid_spadille_stamp_sizes)] ((World.doorLaid Tryd.prog 400 os).forCall (fun _ _ => 0) ⟨#[], args, []⟩).memory :=
  laidMetH_of_parts3 (fuel := 8) (laidMet_of_run' 8 (by kernel_rfl) (by kernel_rfl)) (by kernel_rfl) (by kernel_rfl)

/-- What the condition gives the walks: both tables. -/
theorem both_of_laid {W : World} (h : laidMetH Tryd.prog [("math/bits.deBruijn64tab", Rows.laid_math_bits_deBruijn64tab), ("spadille/stamp.sizes", Rows.laid_spadille_stamp_sizes)] W) : TabW W ∧ Stp.SizesAt W := by
  rw [MakeChecks.laidMetH_plain _ _ _ (by kernel_rfl)] at h
  obtain ⟨ps, ⟨g0, t0, cs0, f0, p0, q0, hg0, ht0, hv0, hd0, ⟨g1, t1, cs1, f1, p1, q1, hg1, ht1, hv1, hd1, _, _⟩, _⟩, _, _⟩ := h
  constructor
  · obtain rfl := Option.some.inj (gTab.symm.trans hg0)
    obtain rfl := Option.some.inj (tTab.symm.trans ht0)
    obtain ⟨xs, m1, rfl, hx1, hlen, hn3, hel⟩ := DataW.trod_array Tryd.underlying199 hd0
    have c3 : Tryd.prog.cellsOf 5 = 1 := by kernel_rfl
    have hlist : (Rows.laid_math_bits_deBruijn64tab : DataW Unit) = .agg ((List.range 64).map fun i => .lit (.int .u8 (Lib.deBruijn64tab.getD i 0 : Nat))) := by kernel_rfl
    have hcell : ∀ i, i < 64 → W.cell? ⟨0, i, none⟩ = some (.int .u8 (Lib.deBruijn64tab.getD i 0 : Nat)) := by
      intro i hi
      have hi' := hel i hi
      rw [c3] at hi'
      have hx2 : (DataW.agg ((List.range 64).map fun i => .lit (.int .u8 (Lib.deBruijn64tab.getD i 0 : Nat))) : DataW Unit) = .agg (xs.map (·.1)) := hlist.symm.trans (congrArg Prod.fst hx1)
      have hg := congrArg (·[i]?) (DataW.agg.inj hx2)
      simp only [List.getElem?_map, List.getElem?_range hi, Option.map_some] at hg
      cases hxi : xs[i]? with
      | none => rw [hxi] at hg; simp at hg
      | some x =>
        rw [hxi] at hi' hg
        simp only [Option.map_some, Option.some.injEq] at hg
        obtain ⟨k, e1, e2, _⟩ := DataW.trod_int Tryd.underlying5 hi'
        subst e2
        have hk : k = (Lib.deBruijn64tab.getD i 0 : Nat) := by simpa using hg.symm
        subst hk
        have := World.var?_cell hg0 hv0 i
        rw [this]
        obtain ⟨l⟩ := cs0
        simp only [Nat.mul_one] at e1
        have := congrArg (·[0]?) e1
        simpa [List.getElem?_take, List.getElem?_drop] using this
    refine ⟨?_, fun j hj => hcell j hj⟩
    have := hcell 0 (by decide)
    refine Nat.pos_of_ne_zero fun h0 => ?_
    have hn : W.heap[0]? = none := Array.getElem?_eq_none (by omega)
    simp [World.cell?, hn] at this
  · obtain rfl := Option.some.inj (gSizes.symm.trans hg1)
    obtain rfl := Option.some.inj (tSizes.symm.trans ht1)
    obtain ⟨xs, m1, rfl, hx1, hlen, hn3, hel⟩ := DataW.trod_array Tryd.underlying204 hd1
    have c3 : Tryd.prog.cellsOf 3 = 1 := by kernel_rfl
    have hlist : (Rows.laid_spadille_stamp_sizes : DataW Unit) = .agg ((List.range 64).map fun i => .lit (.int .i64 (Stp.popc i : Nat))) := by kernel_rfl
    have hcell : ∀ i, i < 64 → W.cell? ⟨1, i, none⟩ = some (.int .i64 (Stp.popc i : Nat)) := by
      intro i hi
      have hi' := hel i hi
      rw [c3] at hi'
      have hx2 : (DataW.agg ((List.range 64).map fun i => .lit (.int .i64 (Stp.popc i : Nat))) : DataW Unit) = .agg (xs.map (·.1)) := hlist.symm.trans (congrArg Prod.fst hx1)
      have hg := congrArg (·[i]?) (DataW.agg.inj hx2)
      simp only [List.getElem?_map, List.getElem?_range hi, Option.map_some] at hg
      cases hxi : xs[i]? with
      | none => rw [hxi] at hg; simp at hg
      | some x =>
        rw [hxi] at hi' hg
        simp only [Option.map_some, Option.some.injEq] at hg
        obtain ⟨k, e1, e2, _⟩ := DataW.trod_int Tryd.underlying3 hi'
        subst e2
        have hk : k = (Stp.popc i : Nat) := by simpa using hg.symm
        subst hk
        have := World.var?_cell hg1 hv1 i
        rw [this]
        obtain ⟨l⟩ := cs1
        simp only [Nat.mul_one] at e1
        have := congrArg (·[0]?) e1
        simpa [List.getElem?_take, List.getElem?_drop] using this
    refine ⟨?_, hcell⟩
    exact cell_block (hcell 0 (by decide))

section
variable {H : Type} {enc : TypeId × Value → H} {P : Program} {w : World} {base : Nat} {spare : Nat → Bool} {held : Bool}
theorem trodAll_four {t t' t'' t3 : TypeId} {args : Array Value} {ds : List (DataW H)} {ps : List MemPlace} (h : DataW.TrodAll enc P w base spare held [t, t', t'', t3] args.toList ds ps) :
    ∃ v v' v'' v3 d d' d'' d3 p p' p'' p3, args = #[v, v', v'', v3] ∧ ds = [d, d', d'', d3] ∧ ps = p ++ (p' ++ (p'' ++ p3)) ∧ DataW.Trod enc P w base spare held t v d p ∧ DataW.Trod enc P w base spare held t' v' d' p' ∧ DataW.Trod enc P w base spare held t'' v'' d'' p'' ∧ DataW.Trod enc P w base spare held t3 v3 d3 p3 := by
  obtain ⟨v, vs, d, ds', p, q, hargs, rfl, rfl, hd, hrest⟩ := trodAll_cons h
  obtain ⟨v', vs', d', ds'', p', q', rfl, rfl, rfl, hd', hrest'⟩ := trodAll_cons hrest
  obtain ⟨v'', vs'', d'', ds''', p'', q'', rfl, rfl, rfl, hd'', hrest''⟩ := trodAll_cons hrest'
  obtain ⟨v3, vs3, d3, ds3, p3, q3, rfl, rfl, rfl, hd3, hrest3⟩ := trodAll_cons hrest''
  obtain ⟨rfl, rfl, rfl⟩ := trodAll_nil hrest3
  exact ⟨v, v', v'', v3, d, d', d'', d3, p, p', p'', p3, by cases args; simp_all, rfl, by simp, hd, hd', hd'', hd3⟩
theorem trodAll_mk4 {t t' t'' t3 : TypeId} {v v' v'' v3 : Value} {d d' d'' d3 : DataW H} {p p' p'' p3 : List MemPlace} (h : DataW.Trod enc P w base spare held t v d p) (h' : DataW.Trod enc P w base spare held t' v' d' p')
    (h'' : DataW.Trod enc P w base spare held t'' v'' d'' p'') (h3 : DataW.Trod enc P w base spare held t3 v3 d3 p3) : DataW.TrodAll enc P w base spare held [t, t', t'', t3] [v, v', v'', v3] [d, d', d'', d3] (p ++ (p' ++ (p'' ++ p3))) :=
  ⟨p, p' ++ (p'' ++ p3), h, trodAll_mk3 h' h'' h3, rfl⟩
end
end Go.Proofs.YtlollcabnfncpaaDoor
