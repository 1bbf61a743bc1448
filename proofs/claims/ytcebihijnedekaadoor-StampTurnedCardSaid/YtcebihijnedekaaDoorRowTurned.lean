/-
  The row and the card of the statement on turned books.
-/
import Derived.Test.YtcebihijnedekaaDoorCardB
import Derived.Test.YtcebihijnedekaaDoorTurnB
import Derived.Test.YtcebihijnedekaaDoorCardD
namespace Go.Proofs.YtcebihijnedekaaDoor
open Go.ChangeShapes Go.WideShapes Go.ChangeAt Go.RowKit

theorem params13 : Tryd.f13.params = #[63, 5, 5, 4] := by kernel_rfl

set_option maxRecDepth 100000 in
theorem stampTurned_lifted (os : Os) (started : os.Started) (H : Type) (enc : TypeId × Value → H) :
    ReturnsInHanded {} Tryd.checked os 13 .any (fun w args => (Rows.stampTurnedSpec.pre enc Tryd.prog Tryd.f13 [] false w args ∧ laidMetH Tryd.prog Rows.stampTurnedRow.laid w) ∧ sizedMet enc Tryd.prog Tryd.f13 (OpenSpec.ofChange Rows.stampTurnedSpec) false w args)
      (Rows.stampTurnedSpec.post enc Tryd.prog Tryd.f13 false true false false) := by
  refine returnsInHanded_of_change_and (C := Tryd.checked) (X := fun w _ => laidMetH Tryd.prog Rows.stampTurnedRow.laid w) (fun _ _ _ hh h => h.of_heap hh) Tryd.own started (by kernel_rfl) Tryd.func13
    (ChangeSpec.witness_shaped (enc := enc) (C := Tryd.checked) (os := os) (X := fun w _ => laidMetH Tryd.prog Rows.stampTurnedRow.laid w) false (World.doorLaid Tryd.prog 400 os) #[.agg #[.int .u8 0, .slice none 0 0], .int .u8 0, .int .u8 0, .bool false] 8 rfl (World.shaped_of_RefB (by kernel_rfl) (by kernel_rfl)) (by kernel_rfl) (by kernel_rfl) (by kernel_rfl) (door_met os _)) ?_
  intro W base args ds gs before hval0 hW _ _ hL _
  have hval : ∀ (j : Nat) t v, Tryd.f13.params[j]? = some t → args[j]? = some v → Value.okWide Tryd.prog W .any base t v := hval0
  have hW' := hW
  have hlt : ∀ p ∈ before, p.block < W.heap.size := fun p hp => hW.lt p hp
  obtain ⟨p, q, hA0, hV, rfl, hfz, hnd⟩ := hW
  have hA : DataW.TrodAll enc Tryd.prog W 0 (fun _ => true) true Tryd.f13.params.toList args.toList ds p := hA0
  rw [params13] at hA hval
  obtain ⟨v0, v1, v2, v3, d0, d1, d2, d3, p0, p1, p2, p3, rfl, rfl, rfl, h0, h1, h2, h3⟩ := trodAll_four hA
  obtain ⟨rfl, rfl⟩ := trodVars_none hV
  have ht := sizes_of_laid hL
  obtain ⟨q, A, hs, c, rfl, hq, hok, hw⟩ := house_of_trod (hval 0 63 v0 rfl rfl) h0
  obtain ⟨u1, hu1, _, _, hz1⟩ := open_int Tryd.underlying5 (hval 1 5 v1 rfl rfl) h1
  subst hu1
  have hy1 := u8_wf hz1
  obtain ⟨u2, hu2, _, _, hz2⟩ := open_int Tryd.underlying5 (hval 2 5 v2 rfl rfl) h2
  subst hu2
  have hy2 := u8_wf hz2
  obtain ⟨gr, hgr, _⟩ := open_bool Tryd.underlying4 (hval 3 4 v3 rfl rfl) h3
  subst hgr
  clear hA0 hval0
  simp only [List.append_nil] at hW' hlt
  refine (lawTurned_any W q u1 u2 gr A c hs hq hy1 hy2 hok hw ht).mono fun e W' ⟨he, hb⟩ => ?_
  subst he
  refine ⟨_, rfl, _, _, _, [], (p0 ++ (p1 ++ (p2 ++ p3))), [], hW', ?_, ?_, ?_, hb.frame _, fun h => by cases h⟩
  · exact trodAll_mk1 (shut_bool Tryd.underlying4 true)
  · rw [params13]
    exact trodAll_mk4 (Below.trod Tryd.laidOut read63 row63 h0 hb (fun x hx => hlt x (by simp [hx]))) (Below.trod Tryd.laidOut read5 row5 h1 hb (fun x hx => hlt x (by simp [hx]))) (Below.trod Tryd.laidOut read5 row5 h2 hb (fun x hx => hlt x (by simp [hx]))) (Below.trod Tryd.laidOut read4 row4 h3 hb (fun x hx => hlt x (by simp [hx])))
  · rfl

theorem stampTurned_holds : Rows.StampTurnedSaid :=
  OpenClaim.holds_of_wide 13 Tryd.f13 rfl rfl rfl rfl rfl rfl rfl ⟨rfl, rfl, rfl, rfl, rfl⟩ rfl rfl rfl rfl rfl (by kernel_rfl) Tryd.func13 (by kernel_rfl)
    (of_decide_eq_true (by kernel_rfl)) (by unfold Func.isWrapper; first | (rw [if_pos (by decide +kernel)]; kernel_rfl) | (rw [if_neg (by decide +kernel)]; exact ⟨rfl, rfl⟩))
    (fun os started H enc _ => stampTurned_lifted os started H enc)

theorem stampTurned_card : Rows.StampTurnedCardSaid :=
  Claim7.holds_tied_plain_at .later [] [.data] true (true, "7abce3c729fc7752d55dc3d016766cbf90a08e83d1625ea9cde2ef71798319d9") false
    stampTurned_holds (fun _ h => by cases h) (by kernel_rfl) (fun _ h => by cases h) stampTurned_row_tie rfl ⟨rfl, rfl⟩ (by kernel_rfl) rfl
    (fun f fn hf hfn => by
      obtain rfl : f = 13 := Option.some.inj ((show Tryd.prog.funcNamed "spadille/spadillelaw01.StampTurned" = some 13 by kernel_rfl).symm.trans hf) |>.symm
      obtain rfl : fn = Tryd.f13 := (Option.some.inj (Tryd.func13.symm.trans hfn)).symm
      exact ⟨by kernel_rfl, fun j t ht => by
        rw [params13] at ht
        have hm : t ∈ [63, 5, 5, 4] := by simpa using Array.mem_of_getElem? ht
        have hall : ([63, 5, 5, 4].all fun u => !Tryd.prog.wantsStandIn u) = true := by kernel_rfl
        exact (show Tryd.prog.wantsStandIn t = false by simpa using List.all_eq_true.1 hall t hm)⟩)
    (by kernel_rfl)
#print axioms stampTurned_card
end Go.Proofs.YtcebihijnedekaaDoor
