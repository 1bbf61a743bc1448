/-
  The row and the card of the statement on numbers of backs.
-/
import Derived.Test.YtbcbaaapogejiaaDoorCardB
import Derived.Test.YtbcbaaapogejiaaDoorLawD
namespace Go.Proofs.YtbcbaaapogejiaaDoor
open Go.ChangeShapes Go.WideShapes Go.ChangeAt Go.RowKit

theorem params6 : Tryd.f6.params = #[24, 3, 22] := by kernel_rfl

set_option maxRecDepth 100000 in
theorem backCounts_lifted (os : Os) (started : os.Started) (H : Type) (enc : TypeId × Value → H) :
    ReturnsInHanded {} Tryd.checked os 6 .any (fun w args => (Rows.backCountsSpec.pre enc Tryd.prog Tryd.f6 [] false w args ∧ laidMetH Tryd.prog Rows.backCountsRow.laid w) ∧ sizedMet enc Tryd.prog Tryd.f6 (OpenSpec.ofChange Rows.backCountsSpec) false w args)
      (Rows.backCountsSpec.post enc Tryd.prog Tryd.f6 false true false false) := by
  refine returnsInHanded_of_change_and (C := Tryd.checked) (X := fun w _ => laidMetH Tryd.prog Rows.backCountsRow.laid w) (fun _ _ _ hh h => h.of_heap hh) Tryd.own started (by kernel_rfl) Tryd.func6
    (ChangeSpec.witness_shaped (enc := enc) (C := Tryd.checked) (os := os) (X := fun w _ => laidMetH Tryd.prog Rows.backCountsRow.laid w) false (World.doorLaid Tryd.prog 400 os) #[.agg #[.int .i64 0, .int .i64 0, .int .i64 0, .slice none 0 0], .int .i64 0, .slice none 0 0] 8 rfl (World.shaped_of_RefB (by kernel_rfl) (by kernel_rfl)) (by kernel_rfl) (by kernel_rfl) (by kernel_rfl) (door_met os _)) ?_
  intro W base args ds gs before hval0 hW _ _ hL _
  have hval : ∀ (j : Nat) t v, Tryd.f6.params[j]? = some t → args[j]? = some v → Value.okWide Tryd.prog W .any base t v := hval0
  have hW' := hW
  have hlt : ∀ p ∈ before, p.block < W.heap.size := fun p hp => hW.lt p hp
  obtain ⟨p, q, hA0, hV, rfl, hfz, hnd⟩ := hW
  have hA : DataW.TrodAll enc Tryd.prog W 0 (fun _ => true) true Tryd.f6.params.toList args.toList ds p := hA0
  rw [params6] at hA hval
  obtain ⟨v0, v1, v2, d0, d1, d2, p0, p1, p2, rfl, rfl, rfl, h0, h1, h2⟩ := trodAll_three hA
  obtain ⟨rfl, rfl⟩ := trodVars_none hV
  have ht := mov_of_laid hL
  obtain ⟨R, C, K, A, T, c, rfl, hT⟩ := press_of_trod (hval 0 24 v0 rfl rfl) h0
  obtain ⟨k1, hk1, _⟩ := open_int Tryd.underlying3 (hval 1 3 v1 rfl rfl) h1
  subst hk1
  obtain ⟨A2, l2, c2, rfl, hlc2, hl2⟩ := ints_of_arg (hval 2 22 v2 rfl rfl) h2
  clear hA0 hval0
  simp only [List.append_nil] at hW' hlt
  refine (lawCounts_any W R C K A c T A2 c2 l2 k1 hlc2 hT hl2 ht).mono fun e W' ⟨he, hb⟩ => ?_
  subst he
  refine ⟨_, rfl, _, _, _, [], (p0 ++ (p1 ++ p2)), [], hW', ?_, ?_, ?_, hb.frame _, fun h => by cases h⟩
  · exact trodAll_mk1 (shut_bool Tryd.underlying4 true)
  · rw [params6]
    exact trodAll_mk3 (Below.trod Tryd.laidOut read24 row24 h0 hb (fun x hx => hlt x (by simp [hx]))) (Below.trod Tryd.laidOut read3 row3 h1 hb (fun x hx => hlt x (by simp [hx]))) (Below.trod Tryd.laidOut read22 row22 h2 hb (fun x hx => hlt x (by simp [hx])))
  · rfl

theorem backCounts_holds : Rows.BackCountsSaid :=
  OpenClaim.holds_of_wide 6 Tryd.f6 rfl rfl rfl rfl rfl rfl rfl ⟨rfl, rfl, rfl, rfl, rfl⟩ rfl rfl rfl rfl rfl (by kernel_rfl) Tryd.func6 (by kernel_rfl)
    (of_decide_eq_true (by kernel_rfl)) (by unfold Func.isWrapper; first | (rw [if_pos (by decide +kernel)]; kernel_rfl) | (rw [if_neg (by decide +kernel)]; exact ⟨rfl, rfl⟩))
    (fun os started H enc _ => backCounts_lifted os started H enc)

theorem backCounts_card : Rows.BackCountsCardSaid :=
  Claim7.holds_tied_plain_at .later [] [.wider] true (true, "93af0b2ae9327e9735a31decb9c2065920ae98aba7c1caf25e8b8a22084bdbf0") false
    backCounts_holds (fun _ h => by cases h) (by kernel_rfl) (fun _ h => by cases h) backCounts_row_tie rfl ⟨rfl, rfl⟩ (by kernel_rfl) rfl
    (fun f fn hf hfn => by
      obtain rfl : f = 6 := Option.some.inj ((show Tryd.prog.funcNamed "spadille/spadillelaw03.BackCounts" = some 6 by kernel_rfl).symm.trans hf) |>.symm
      obtain rfl : fn = Tryd.f6 := (Option.some.inj (Tryd.func6.symm.trans hfn)).symm
      exact ⟨by kernel_rfl, fun j t ht => by
        rw [params6] at ht
        have hm : t ∈ [24, 3, 22] := by simpa using Array.mem_of_getElem? ht
        have hall : ([24, 3, 22].all fun u => !Tryd.prog.wantsStandIn u) = true := by kernel_rfl
        exact (show Tryd.prog.wantsStandIn t = false by simpa using List.all_eq_true.1 hall t hm)⟩)
    (by kernel_rfl)
#print axioms backCounts_card
end Go.Proofs.YtbcbaaapogejiaaDoor
