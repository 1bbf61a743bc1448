/-
  The row and the card of the statement on upright cards as flows.
-/
import Derived.Test.YtlollcabnfncpaaDoorCardE
import Derived.Test.YtlollcabnfncpaaDoorLawV
namespace Go.Proofs.YtlollcabnfncpaaDoor
open Go.ChangeShapes Go.WideShapes Go.ChangeAt Go.RowKit

theorem params14 : Tryd.f14.params = #[5, 5, 5, 5] := by kernel_rfl

set_option maxRecDepth 100000 in
theorem topUprights_lifted (os : Os) (started : os.Started) (H : Type) (enc : TypeId × Value → H) :
    ReturnsInHanded {} Tryd.checked os 14 .any (fun w args => (Rows.topUprightsSpec.pre enc Tryd.prog Tryd.f14 [] false w args ∧ laidMetH Tryd.prog Rows.topUprightsRow.laid w) ∧ sizedMet enc Tryd.prog Tryd.f14 (OpenSpec.ofChange Rows.topUprightsSpec) false w args)
      (Rows.topUprightsSpec.post enc Tryd.prog Tryd.f14 false true false false) := by
  refine returnsInHanded_of_change_and (C := Tryd.checked) (X := fun w _ => laidMetH Tryd.prog Rows.topUprightsRow.laid w) (fun _ _ _ hh h => h.of_heap hh) Tryd.own started (by kernel_rfl) Tryd.func14
    (ChangeSpec.witness_shaped (enc := enc) (C := Tryd.checked) (os := os) (X := fun w _ => laidMetH Tryd.prog Rows.topUprightsRow.laid w) false (World.doorLaid Tryd.prog 400 os) #[.int .u8 0, .int .u8 0, .int .u8 0, .int .u8 0] 8 rfl (World.shaped_of_RefB (by kernel_rfl) (by kernel_rfl)) (by kernel_rfl) (by kernel_rfl) (by kernel_rfl) (door_met2 os _)) ?_
  intro W base args ds gs before hval0 hW _ _ hL _
  have hval : ∀ (j : Nat) t v, Tryd.f14.params[j]? = some t → args[j]? = some v → Value.okWide Tryd.prog W .any base t v := hval0
  have hW' := hW
  have hlt : ∀ p ∈ before, p.block < W.heap.size := fun p hp => hW.lt p hp
  obtain ⟨p, q, hA0, hV, rfl, hfz, hnd⟩ := hW
  have hA : DataW.TrodAll enc Tryd.prog W 0 (fun _ => true) true Tryd.f14.params.toList args.toList ds p := hA0
  rw [params14] at hA hval
  obtain ⟨v0, v1, v2, v3, d0, d1, d2, d3, p0, p1, p2, p3, rfl, rfl, rfl, h0, h1, h2, h3⟩ := trodAll_four hA
  obtain ⟨rfl, rfl⟩ := trodVars_none hV
  obtain ⟨ht, hz⟩ := both_of_laid hL
  obtain ⟨u0, hu0, _, _, hz0⟩ := open_int Tryd.underlying5 (hval 0 5 v0 rfl rfl) h0
  subst hu0
  have hy0 := u8_wf hz0
  obtain ⟨u1, hu1, _, _, hz1⟩ := open_int Tryd.underlying5 (hval 1 5 v1 rfl rfl) h1
  subst hu1
  have hy1 := u8_wf hz1
  obtain ⟨u2, hu2, _, _, hz2⟩ := open_int Tryd.underlying5 (hval 2 5 v2 rfl rfl) h2
  subst hu2
  have hy2 := u8_wf hz2
  obtain ⟨u3, hu3, _, _, hz3⟩ := open_int Tryd.underlying5 (hval 3 5 v3 rfl rfl) h3
  subst hu3
  have hy3 := u8_wf hz3
  clear hA0 hval0
  simp only [List.append_nil] at hW' hlt
  refine (topUp_any u0 u1 u2 u3 W hy0 hy1 hy2 hy3 ht hz).mono fun e W' ⟨he, hb⟩ => ?_
  subst he
  refine ⟨_, rfl, _, _, _, [], (p0 ++ (p1 ++ (p2 ++ p3))), [], hW', ?_, ?_, ?_, hb.frame _, fun h => by cases h⟩
  · exact trodAll_mk1 (shut_bool Tryd.underlying4 true)
  · rw [params14]
    exact trodAll_mk4 (Below.trod Tryd.laidOut read5 row5 h0 hb (fun x hx => hlt x (by simp [hx]))) (Below.trod Tryd.laidOut read5 row5 h1 hb (fun x hx => hlt x (by simp [hx]))) (Below.trod Tryd.laidOut read5 row5 h2 hb (fun x hx => hlt x (by simp [hx]))) (Below.trod Tryd.laidOut read5 row5 h3 hb (fun x hx => hlt x (by simp [hx])))
  · rfl

theorem topUprights_holds : Rows.TopUprightsSaid :=
  OpenClaim.holds_of_wide 14 Tryd.f14 rfl rfl rfl rfl rfl rfl rfl ⟨rfl, rfl, rfl, rfl, rfl⟩ rfl rfl rfl rfl rfl (by kernel_rfl) Tryd.func14 (by kernel_rfl)
    (of_decide_eq_true (by kernel_rfl)) (by unfold Func.isWrapper; first | (rw [if_pos (by decide +kernel)]; kernel_rfl) | (rw [if_neg (by decide +kernel)]; exact ⟨rfl, rfl⟩))
    (fun os started H enc _ => topUprights_lifted os started H enc)

theorem topUprights_card : Rows.TopUprightsCardSaid :=
  Claim7.holds_tied_plain_at .later [] [.data, .data] true (true, "a0a17f6a80fca574248ac9d4fcad1644fca2771dc638d65d332d3c5187759b62") false
    topUprights_holds (fun _ h => by cases h) (by kernel_rfl) (fun _ h => by cases h) topUprights_row_tie rfl ⟨rfl, rfl⟩ (by kernel_rfl) rfl
    (fun f fn hf hfn => by
      obtain rfl : f = 14 := Option.some.inj ((show Tryd.prog.funcNamed "spadille/spadilletop.TopUprights" = some 14 by kernel_rfl).symm.trans hf) |>.symm
      obtain rfl : fn = Tryd.f14 := (Option.some.inj (Tryd.func14.symm.trans hfn)).symm
      exact ⟨by kernel_rfl, fun j t ht => by
        rw [params14] at ht
        have hm : t ∈ [5, 5, 5, 5] := by simpa using Array.mem_of_getElem? ht
        have hall : ([5, 5, 5, 5].all fun u => !Tryd.prog.wantsStandIn u) = true := by kernel_rfl
        exact (show Tryd.prog.wantsStandIn t = false by simpa using List.all_eq_true.1 hall t hm)⟩)
    (by kernel_rfl)
#print axioms topUprights_card
end Go.Proofs.YtlollcabnfncpaaDoor
