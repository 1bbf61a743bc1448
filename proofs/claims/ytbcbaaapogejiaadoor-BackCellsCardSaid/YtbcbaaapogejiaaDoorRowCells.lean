/-
  The row and the card of the statement on the fewest cells that show all turns.
-/
import Derived.Test.YtbcbaaapogejiaaDoorCardB
import Derived.Test.YtbcbaaapogejiaaDoorLawF
namespace Go.Proofs.YtbcbaaapogejiaaDoor
open Go.ChangeShapes Go.WideShapes Go.ChangeAt Go.RowKit

theorem params8 : Tryd.f8.params = #[24, 22, 22] := by kernel_rfl

set_option maxRecDepth 100000 in
theorem backCells_lifted (os : Os) (started : os.Started) (H : Type) (enc : TypeId × Value → H) :
    ReturnsInHanded {} Tryd.checked os 8 .any (fun w args => (Rows.backCellsSpec.pre enc Tryd.prog Tryd.f8 [] false w args ∧ laidMetH Tryd.prog Rows.backCellsRow.laid w) ∧ sizedMet enc Tryd.prog Tryd.f8 (OpenSpec.ofChange Rows.backCellsSpec) false w args)
      (Rows.backCellsSpec.post enc Tryd.prog Tryd.f8 false true false false) := by
  refine returnsInHanded_of_change_and (C := Tryd.checked) (X := fun w _ => laidMetH Tryd.prog Rows.backCellsRow.laid w) (fun _ _ _ hh h => h.of_heap hh) Tryd.own started (by kernel_rfl) Tryd.func8
    (ChangeSpec.witness_shaped (enc := enc) (C := Tryd.checked) (os := os) (X := fun w _ => laidMetH Tryd.prog Rows.backCellsRow.laid w) false (World.doorLaid Tryd.prog 400 os) #[.agg #[.int .i64 0, .int .i64 0, .int .i64 0, .slice none 0 0], .slice none 0 0, .slice none 0 0] 8 rfl (World.shaped_of_RefB (by kernel_rfl) (by kernel_rfl)) (by kernel_rfl) (by kernel_rfl) (by kernel_rfl) (door_met os _)) ?_
  intro W base args ds gs before hval0 hW _ _ hL _
  have hval : ∀ (j : Nat) t v, Tryd.f8.params[j]? = some t → args[j]? = some v → Value.okWide Tryd.prog W .any base t v := hval0
  have hW' := hW
  have hlt : ∀ p ∈ before, p.block < W.heap.size := fun p hp => hW.lt p hp
  obtain ⟨p, q, hA0, hV, rfl, hfz, hnd⟩ := hW
  have hA : DataW.TrodAll enc Tryd.prog W 0 (fun _ => true) true Tryd.f8.params.toList args.toList ds p := hA0
  rw [params8] at hA hval
  obtain ⟨v0, v1, v2, d0, d1, d2, p0, p1, p2, rfl, rfl, rfl, h0, h1, h2⟩ := trodAll_three hA
  obtain ⟨rfl, rfl⟩ := trodVars_none hV
  have ht := mov_of_laid hL
  obtain ⟨R, C, K, A, T, c, rfl, hT⟩ := press_of_trod (hval 0 24 v0 rfl rfl) h0
  obtain ⟨A1, l1, c1, rfl, hlc1, hl1⟩ := ints_of_arg (hval 1 22 v1 rfl rfl) h1
  obtain ⟨A2, l2, c2, rfl, hlc2, hl2⟩ := ints_of_arg (hval 2 22 v2 rfl rfl) h2
  clear hA0 hval0
  simp only [List.append_nil] at hW' hlt
  refine (lawCells_any W R C K A c T A1 c1 l1 A2 c2 l2 hT hl1 hl2 ht).mono fun e W' ⟨he, hb⟩ => ?_
  subst he
  refine ⟨_, rfl, _, _, _, [], (p0 ++ (p1 ++ p2)), [], hW', ?_, ?_, ?_, hb.frame _, fun h => by cases h⟩
  · exact trodAll_mk1 (shut_bool Tryd.underlying4 true)
  · rw [params8]
    exact trodAll_mk3 (Below.trod Tryd.laidOut read24 row24 h0 hb (fun x hx => hlt x (by simp [hx]))) (Below.trod Tryd.laidOut read22 row22 h1 hb (fun x hx => hlt x (by simp [hx]))) (Below.trod Tryd.laidOut read22 row22 h2 hb (fun x hx => hlt x (by simp [hx])))
  · rfl

theorem backCells_holds : Rows.BackCellsSaid :=
  OpenClaim.holds_of_wide 8 Tryd.f8 rfl rfl rfl rfl rfl rfl rfl ⟨rfl, rfl, rfl, rfl, rfl⟩ rfl rfl rfl rfl rfl (by kernel_rfl) Tryd.func8 (by kernel_rfl)
    (of_decide_eq_true (by kernel_rfl)) (by unfold Func.isWrapper; first | (rw [if_pos (by decide +kernel)]; kernel_rfl) | (rw [if_neg (by decide +kernel)]; exact ⟨rfl, rfl⟩))
    (fun os started H enc _ => backCells_lifted os started H enc)

theorem backCells_card : Rows.BackCellsCardSaid :=
  Claim7.holds_tied_plain_at .later [] [.wider] true (true, "93af0b2ae9327e9735a31decb9c2065920ae98aba7c1caf25e8b8a22084bdbf0") false
    backCells_holds (fun _ h => by cases h) (by kernel_rfl) (fun _ h => by cases h) backCells_row_tie rfl ⟨rfl, rfl⟩ (by kernel_rfl) rfl
    (fun f fn hf hfn => by
      obtain rfl : f = 8 := Option.some.inj ((show Tryd.prog.funcNamed "spadille/spadillelaw03.BackCells" = some 8 by kernel_rfl).symm.trans hf) |>.symm
      obtain rfl : fn = Tryd.f8 := (Option.some.inj (Tryd.func8.symm.trans hfn)).symm
      exact ⟨by kernel_rfl, fun j t ht => by
        rw [params8] at ht
        have hm : t ∈ [24, 22, 22] := by simpa using Array.mem_of_getElem? ht
        have hall : ([24, 22, 22].all fun u => !Tryd.prog.wantsStandIn u) = true := by kernel_rfl
        exact (show Tryd.prog.wantsStandIn t = false by simpa using List.all_eq_true.1 hall t hm)⟩)
    (by kernel_rfl)
#print axioms backCells_card
end Go.Proofs.YtbcbaaapogejiaaDoor
