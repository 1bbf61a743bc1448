/-
  The examples of the chapter: CutKnown answers true.
-/
import Derived.Test.YtlollcabnfncpaaDoorWorks
import Derived.Test.YtlollcabnfncpaaDoorValB
import Derived.Test.YtlollcabnfncpaaDoorValC
namespace Go.Proofs.YtlollcabnfncpaaDoor
open Go.RowKit

theorem m_cnt (w : World) (ht : TabW w) : Calls Tryd.prog 23 #[.agg #[.int .i64 4, .int .i64 4, .int .i64 2, .int .i64 1]] w fun e w' => e = .returned (.tuple #[.int .i64 36, .int .i64 0]) ∧ Below w.heap.size w w' := by
  have h := count_any 4 4 2 1 w ht
  rw [k_cnt] at h
  exact h
theorem m_cnt6 (w : World) (ht : TabW w) : Calls Tryd.prog 23 #[.agg #[.int .i64 6, .int .i64 6, .int .i64 2, .int .i64 1]] w fun e w' => e = .returned (.tuple #[.int .i64 6728, .int .i64 0]) ∧ Below w.heap.size w w' := by
  have h := count_any 6 6 2 1 w ht
  rw [k_cnt6] at h
  exact h
theorem m_can (w : World) (ht : TabW w) : Calls Tryd.prog 15 #[.agg #[.int .i64 5, .int .i64 5, .int .i64 2, .int .i64 1]] w fun e w' => e = .returned (.tuple #[.bool false, .int .i64 0]) ∧ Below w.heap.size w w' := by
  have h := can_any 5 5 2 1 w ht
  rw [k_can] at h
  exact h
theorem m_aga (w : World) (ht : TabW w) : Calls Tryd.prog 41 #[.agg #[.int .i64 5, .int .i64 5, .int .i64 2, .int .i64 1]] w fun e w' => e = .returned (.tuple #[.int .i64 2, .int .i64 2, .int .i64 0]) ∧ Below w.heap.size w w' := by
  have h := against_any 5 5 2 1 w ht
  rw [k_aga] at h
  exact h
theorem m_aga2 (w : World) (ht : TabW w) : Calls Tryd.prog 41 #[.agg #[.int .i64 6, .int .i64 6, .int .i64 4, .int .i64 1]] w fun e w' => e = .returned (.tuple #[.int .i64 2, .int .i64 4, .int .i64 0]) ∧ Below w.heap.size w w' := by
  have h := against_any 6 6 4 1 w ht
  rw [k_aga2] at h
  exact h
theorem m_col (w : World) : Calls Tryd.prog 39 #[.agg #[.int .i64 5, .int .i64 5, .int .i64 2, .int .i64 1], .int .i64 2] w fun e w' => ∃ A c, e = .returned (.tuple #[.slice A 2 c, .int .i64 0]) ∧ IntsAt w' w'.heap.size A [13, 12] ∧ Below w.heap.size w w' := by
  have h := coloursF_any 5 5 2 1 2 w
  rw [k_col] at h
  exact h
theorem m_sol (w : World) (ht : TabW w) : Calls Tryd.prog 37 #[.agg #[.int .i64 5, .int .i64 6, .int .i64 2, .int .i64 1]] w fun e w' => ∃ A c, e = .returned (.tuple #[.slice A 15 c, .int .i64 0]) ∧ Below w.heap.size w w' := by
  have h := solidF_any 5 6 2 1 w ht
  obtain ⟨l, hl, hn⟩ := k_sol5
  rw [hl] at h
  refine h.mono fun e w' ⟨A, c, h1, _, h3⟩ => ⟨A, c, ?_, h3⟩
  rw [h1]
  show Ending.returned (.tuple #[.slice A l.length c, .int .i64 0]) = _
  rw [hn]
theorem m_sol6 (w : World) (ht : TabW w) : Calls Tryd.prog 37 #[.agg #[.int .i64 6, .int .i64 6, .int .i64 2, .int .i64 1]] w fun e w' => ∃ A c, e = .returned (.tuple #[.slice A 0 c, .int .i64 12]) ∧ Below w.heap.size w w' := by
  have h := solidF_any 6 6 2 1 w ht
  rw [k_sol6] at h
  exact h.mono fun _ _ ⟨A, c, h1, _, h3⟩ => ⟨A, c, h1, h3⟩
theorem m_ver (w : World) (A : Option Addr) (c : Nat) (hA : CardsAt w w.heap.size A (cdsL [0, 0, 0, 0, 0, 0])) : Calls Tryd.prog 35 #[.agg #[.int .i64 2, .int .i64 2, .int .i64 2, .int .i64 1], .slice A 2 c] w fun e w' => e = .returned (.int .i64 7) ∧ Below w.heap.size w w' := by
  have h := verify_any 2 2 2 1 A c _ w hA (by decide)
  rw [k_ver] at h
  exact h
theorem m_cards (w : World) (A : Option Addr) (c : Nat) (hA : IntsAt w w.heap.size A [0, 0, 0, 0, 0, 0]) : Calls Tryd.prog 59 #[.slice A 6 c] w fun e w' => ∃ A c, e = .returned (.slice A 2 c) ∧ CardsAt w' w'.heap.size A (cdsL [0, 0, 0, 0, 0, 0]) ∧ Below w.heap.size w w' :=
  (cards_any A c [0, 0, 0, 0, 0, 0] w hA (by decide)).mono fun _ _ ⟨A, c, h1, h2, h3, _⟩ => ⟨A, c, h1, h2, h3⟩
theorem m_chk (w : World) : Calls Tryd.prog 20 #[.agg #[.int .i64 7, .int .i64 1, .int .i64 1, .int .i64 1]] w fun e w' => e = .returned (.int .i64 1) ∧ Below w.heap.size w w' := by
  have h := check_any 7 1 1 1 w
  rw [k_chk] at h
  exact h

set_option maxRecDepth 100000 in
set_option maxHeartbeats 8000000 in
theorem known_any (w : World) (ht : TabW w) : Calls Tryd.prog 13 #[] w fun e w' => e = .returned (.bool true) ∧ Below w.heap.size w w' := by
  go_enter Tryd.func13, Tryd.ntmps13
  have hz0 := Below.refl w.heap.size w
  have ht0 := ht
  go_wp2_with fail
  refine (sheet_any 4 4 2 1 _).mono ?_
  rintro e w1 ⟨rfl, hb1⟩
  have ht1 := ht0.below hb1
  have hz1 := hz0.trans (hb1.mono hz0.size)
  clear ht0 hz0 hb1
  go_wp2_with fail
  refine (m_cnt _ ht1).mono ?_
  rintro e w2 ⟨rfl, hb2⟩
  have ht2 := ht1.below hb2
  have hz2 := hz1.trans (hb2.mono hz1.size)
  clear ht1 hz1 hb2
  go_wp2_with fail
  refine (sheet_any 6 6 2 1 _).mono ?_
  rintro e w3 ⟨rfl, hb3⟩
  have ht3 := ht2.below hb3
  have hz3 := hz2.trans (hb3.mono hz2.size)
  clear ht2 hz2 hb3
  go_wp2_with fail
  refine (m_cnt6 _ ht3).mono ?_
  rintro e w4 ⟨rfl, hb4⟩
  have ht4 := ht3.below hb4
  have hz4 := hz3.trans (hb4.mono hz3.size)
  clear ht3 hz3 hb4
  go_wp2_with fail
  refine (sheet_any 5 5 2 1 _).mono ?_
  rintro e w5 ⟨rfl, hb5⟩
  have ht5 := ht4.below hb5
  have hz5 := hz4.trans (hb5.mono hz4.size)
  clear ht4 hz4 hb5
  go_wp2_with fail
  refine (m_can _ ht5).mono ?_
  rintro e w6 ⟨rfl, hb6⟩
  have ht6 := ht5.below hb6
  have hz6 := hz5.trans (hb6.mono hz5.size)
  clear ht5 hz5 hb6
  go_wp2_with fail
  refine (sheet_any 5 5 2 1 _).mono ?_
  rintro e w7 ⟨rfl, hb7⟩
  have ht7 := ht6.below hb7
  have hz7 := hz6.trans (hb7.mono hz6.size)
  clear ht6 hz6 hb7
  go_wp2_with fail
  refine (m_aga _ ht7).mono ?_
  rintro e w8 ⟨rfl, hb8⟩
  have ht8 := ht7.below hb8
  have hz8 := hz7.trans (hb8.mono hz7.size)
  clear ht7 hz7 hb8
  go_wp2_with fail
  refine (sheet_any 6 6 4 1 _).mono ?_
  rintro e w9 ⟨rfl, hb9⟩
  have ht9 := ht8.below hb9
  have hz9 := hz8.trans (hb9.mono hz8.size)
  clear ht8 hz8 hb9
  go_wp2_with fail
  refine (m_aga2 _ ht9).mono ?_
  rintro e w10 ⟨rfl, hb10⟩
  have ht10 := ht9.below hb10
  have hz10 := hz9.trans (hb10.mono hz9.size)
  clear ht9 hz9 hb10
  go_wp2_with fail
  refine (sheet_any 5 5 2 1 _).mono ?_
  rintro e w11 ⟨rfl, hb11⟩
  have ht11 := ht10.below hb11
  have hz11 := hz10.trans (hb11.mono hz10.size)
  clear ht10 hz10 hb11
  go_wp2_with fail
  refine (m_col _).mono ?_
  rintro e w12 ⟨AC, cC, rfl, hC, hb12⟩
  have ht12 := ht11.below hb12
  have hz12 := hz11.trans (hb12.mono hz11.size)
  clear ht11 hz11 hb12
  go_wp2_with fail
  refine (sheet_any 5 6 2 1 _).mono ?_
  rintro e w13 ⟨rfl, hb13⟩
  have ht13 := ht12.below hb13
  have hz13 := hz12.trans (hb13.mono hz12.size)
  replace hC := hC.up hb13
  clear ht12 hz12 hb13
  go_wp2_with fail
  refine (m_sol _ ht13).mono ?_
  rintro e w14 ⟨AS, cS, rfl, hb14⟩
  have ht14 := ht13.below hb14
  have hz14 := hz13.trans (hb14.mono hz13.size)
  replace hC := hC.up hb14
  clear ht13 hz13 hb14
  go_wp2_with fail
  refine (sheet_any 6 6 2 1 _).mono ?_
  rintro e w15 ⟨rfl, hb15⟩
  have ht15 := ht14.below hb15
  have hz15 := hz14.trans (hb15.mono hz14.size)
  replace hC := hC.up hb15
  clear ht14 hz14 hb15
  go_wp2_with fail
  refine (m_sol6 _ ht15).mono ?_
  rintro e w16 ⟨AT, cT, rfl, hb16⟩
  have ht16 := ht15.below hb16
  have hz16 := hz15.trans (hb16.mono hz15.size)
  replace hC := hC.up hb16
  clear ht15 hz15 hb16
  go_wp2_with fail
  refine (w_same _ _ _ _ _ _ [13, 12] rfl (by decide) (hC.up (below_new _ _)) (ints_new _ [13, 12] _ rfl)).mono ?_
  rintro e w17 ⟨rfl, hb17⟩
  replace hb17 := below_alloc hb17
  have ht17 := ht16.below hb17
  have hz17 := hz16.trans (hb17.mono hz16.size)
  replace hC := hC.up hb17
  clear ht16 hz16 hb17
  clear hC
  go_wp2_with fail
  refine (sheet_any 2 2 2 1 _).mono ?_
  rintro e w18 ⟨rfl, hb18⟩
  have ht18 := ht17.below hb18
  have hz18 := hz17.trans (hb18.mono hz17.size)
  clear ht17 hz17 hb18
  go_wp2_with fail
  refine (m_cards _ _ _ (ints_new _ [0, 0, 0, 0, 0, 0] _ rfl)).mono ?_
  rintro e w19 ⟨AK, cK, rfl, hK, hb19⟩
  replace hb19 := below_alloc hb19
  have ht19 := ht18.below hb19
  have hz19 := hz18.trans (hb19.mono hz18.size)
  clear ht18 hz18 hb19
  go_wp2_with fail
  refine (m_ver _ _ _ hK).mono ?_
  rintro e w20 ⟨rfl, hb20⟩
  have ht20 := ht19.below hb20
  have hz20 := hz19.trans (hb20.mono hz19.size)
  replace hK := hK.up hb20
  clear ht19 hz19 hb20
  clear hK
  go_wp2_with fail
  refine (sheet_any 7 1 1 1 _).mono ?_
  rintro e w21 ⟨rfl, hb21⟩
  have ht21 := ht20.below hb21
  have hz21 := hz20.trans (hb21.mono hz20.size)
  clear ht20 hz20 hb21
  go_wp2_with fail
  refine (m_chk _).mono ?_
  rintro e w22 ⟨rfl, hb22⟩
  have ht22 := ht21.below hb22
  have hz22 := hz21.trans (hb22.mono hz21.size)
  clear ht21 hz21 hb22
  go_wp2_with fail
  refine (works_any _ ht22).mono ?_
  rintro e w23 ⟨rfl, hb23⟩
  have ht23 := ht22.below hb23
  have hz23 := hz22.trans (hb23.mono hz22.size)
  clear ht22 hz22 hb23
  go_wp2
  go_ret
  exact ⟨rfl, hz23⟩
end Go.Proofs.YtlollcabnfncpaaDoor
