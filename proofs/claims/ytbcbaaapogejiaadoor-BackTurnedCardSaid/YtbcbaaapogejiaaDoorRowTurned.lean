/-
  The row and the card of the statement on backs that are turned, alike, and stay.
-/
import Derived.Test.YtbcbaaapogejiaaDoorCardB
import Derived.Test.YtbcbaaapogejiaaDoorLawB
namespace Go.Proofs.YtbcbaaapogejiaaDoor
open Go.ChangeShapes Go.WideShapes Go.ChangeAt Go.RowKit

theorem params4 : Tryd.f4.params = #[24, 22, 22, 3] := by kernel_rfl

set_option maxRecDepth 100000 in
theorem backTurned_lifted (os : Os) (started : os.Started) (H : Type) (enc : TypeId × Value → H) :
    ReturnsInHanded {} Tryd.checked os 4 .any (fun w args => (Rows.backTurnedSpec.pre enc Tryd.prog Tryd.f4 [] false w args ∧ laidMetH Tryd.prog Rows.backTurnedRow.laid w) ∧ sizedMet enc Tryd.prog Tryd.f4 (OpenSpec.ofChange Rows.backTurnedSpec) false w args)
      (Rows.backTurnedSpec.post enc Tryd.prog Tryd.f4 false true false false) := by
  refine returnsInHanded_of_change_and (C := Tryd.checked) (X := fun w _ => laidMetH Tryd.prog Rows.backTurnedRow.laid w) (fun _ _ _ hh h => h.of_heap hh) Tryd.own started (by kernel_rfl) Tryd.func4
    (ChangeSpec.witness_shaped (enc := enc) (C := Tryd.checked) (os := os) (X := fun w _ => laidMetH Tryd.prog Rows.backTurnedRow.laid w) false (World.doorLaid Tryd.prog 400 os) #[.agg #[.int .i64 0, .int .i64 0, .int .i64 0, .slice none 0 0], .slice none 0 0, .slice none 0 0, .int .i64 0] 8 rfl (World.shaped_of_RefB (by kernel_rfl) (by kernel_rfl)) (by kernel_rfl) (by kernel_rfl) (by kernel_rfl) (door_met os _)) ?_
  intro W base args ds gs before hval0 hW _ _ hL _
  have hval : ∀ (j : Nat) t v, Tryd.f4.params[j]? = some t → args[j]? = some v → Value.okWide Tryd.prog W .any base t v := hval0
  have hW' := hW
  have hlt : ∀ p ∈ before, p.block < W.heap.size := fun p hp => hW.lt p hp
  obtain ⟨p, q, hA0, hV, rfl, hfz, hnd⟩ := hW
  have hA : DataW.TrodAll enc Tryd.prog W 0 (fun _ => true) true Tryd.f4.params.toList args.toList ds p := hA0
  rw [params4] at hA hval
  obtain ⟨v0, v1, v2, v3, d0, d1, d2, d3, p0, p1, p2, p3, rfl, rfl, rfl, h0, h1, h2, h3⟩ := trodAll_four hA
  obtain ⟨rfl, rfl⟩ := trodVars_none hV
  have ht := mov_of_laid hL
  obtain ⟨R, C, K, A, T, c, rfl, hT⟩ := press_of_trod (hval 0 24 v0 rfl rfl) h0
  obtain ⟨A1, l1, c1, rfl, hlc1, hl1⟩ := ints_of_arg (hval 1 22 v1 rfl rfl) h1
  obtain ⟨A2, l2, c2, rfl, hlc2, hl2⟩ := ints_of_arg (hval 2 22 v2 rfl rfl) h2
  obtain ⟨k3, hk3, _⟩ := open_int Tryd.underlying3 (hval 3 3 v3 rfl rfl) h3
  subst hk3
  clear hA0 hval0
  simp only [List.append_nil] at hW' hlt
  refine (lawTurned_any W R C K A c T A1 c1 l1 A2 c2 l2 k3 hT hl1 hl2 ht).mono fun e W' ⟨he, hb⟩ => ?_
  subst he
  refine ⟨_, rfl, _, _, _, [], (p0 ++ (p1 ++ (p2 ++ p3))), [], hW', ?_, ?_, ?_, hb.frame _, fun h => by cases h⟩
  · exact trodAll_mk1 (shut_bool Tryd.underlying4 true)
  · rw [params4]
    exact trodAll_mk4 (Below.trod Tryd.laidOut read24 row24 h0 hb (fun x hx => hlt x (by simp [hx]))) (Below.trod Tryd.laidOut read22 row22 h1 hb (fun x hx => hlt x (by simp [hx]))) (Below.trod Tryd.laidOut read22 row22 h2 hb (fun x hx => hlt x (by simp [hx]))) (Below.trod Tryd.laidOut read3 row3 h3 hb (fun x hx => hlt x (by simp [hx])))
  · rfl

theorem backTurned_holds : Rows.BackTurnedSaid :=
  OpenClaim.holds_of_wide 4 Tryd.f4 rfl rfl rfl rfl rfl rfl rfl ⟨rfl, rfl, rfl, rfl, rfl⟩ rfl rfl rfl rfl rfl (by kernel_rfl) Tryd.func4 (by kernel_rfl)
    (of_decide_eq_true (by kernel_rfl)) (by unfold Func.isWrapper; first | (rw [if_pos (by decide +kernel)]; kernel_rfl) | (rw [if_neg (by decide +kernel)]; exact ⟨rfl, rfl⟩))
    (fun os started H enc _ => backTurned_lifted os started H enc)

theorem backTurned_card : Rows.BackTurnedCardSaid :=
  Claim7.holds_tied_plain_at .later [] [.wider] true (true, "93af0b2ae9327e9735a31decb9c2065920ae98aba7c1caf25e8b8a22084bdbf0") false
    backTurned_holds (fun _ h => by cases h) (by kernel_rfl) (fun _ h => by cases h) backTurned_row_tie rfl ⟨rfl, rfl⟩ (by kernel_rfl) rfl
    (fun f fn hf hfn => by
      obtain rfl : f = 4 := Option.some.inj ((show Tryd.prog.funcNamed "spadille/spadillelaw03.BackTurned" = some 4 by kernel_rfl).symm.trans hf) |>.symm
      obtain rfl : fn = Tryd.f4 := (Option.some.inj (Tryd.func4.symm.trans hfn)).symm
      exact ⟨by kernel_rfl, fun j t ht => by
        rw [params4] at ht
        have hm : t ∈ [24, 22, 22, 3] := by simpa using Array.mem_of_getElem? ht
        have hall : ([24, 22, 22, 3].all fun u => !Tryd.prog.wantsStandIn u) = true := by kernel_rfl
        exact (show Tryd.prog.wantsStandIn t = false by simpa using List.all_eq_true.1 hall t hm)⟩)
    (by kernel_rfl)
#print axioms backTurned_card
end Go.Proofs.YtbcbaaapogejiaaDoor
