/-
  The walk of the statement on the examples of the chapter: it answers true.
-/
import Derived.Test.YtcebihijnedekaaDoorKnownB
namespace Go.Proofs.YtcebihijnedekaaDoor
open Go.RowKit

def wsD : List Wy := [⟨0, 0, 1, 1⟩]
theorem books1 (w : World) : Calls Tryd.prog 52 #[.int .i64 1, .slice none 0 0] w (RetBooks w 1 []) := books_any 1 none 0 0 [] w rfl (by decide) (IntsAt.nil _ _ _)
theorem check1 (A : Option Addr) (c : Nat) (w : World) (hw : WaysAt w w.heap.size A []) : Calls Tryd.prog 23 #[.agg #[.int .i64 1, .slice A 0 c]] w fun e w' => e = .returned (.int .i64 1) ∧ Below w.heap.size w w' := by
  have h := check_any 1 A c [] w hw
  rwa [show chk 1 [] = 1 by decide +kernel] at h
theorem books2 (w : World) (D : Option Addr) (h : IntsAt w w.heap.size D [0, 0, 1, 1]) : Calls Tryd.prog 52 #[.int .i64 2, .slice D 4 4] w (RetBooks w 2 wsD) := books_any 2 D 4 1 [0, 0, 1, 1] w rfl (by decide) h
theorem check2 (A : Option Addr) (c : Nat) (w : World) (hw : WaysAt w w.heap.size A wsD) : Calls Tryd.prog 23 #[.agg #[.int .i64 2, .slice A wsD.length c]] w fun e w' => e = .returned (.int .i64 13) ∧ Below w.heap.size w w' := by
  have h := check_any 2 A c wsD w hw
  rwa [show chk 2 wsD = 13 by decide +kernel] at h

set_option maxRecDepth 100000 in
set_option maxHeartbeats 8000000 in
theorem known_any (w : World) (ht : SizesAt w) : Calls Tryd.prog 14 #[] w fun e w' => e = .returned (.bool true) ∧ Below w.heap.size w w' := by
  go_enter Tryd.func14, Tryd.ntmps14
  have hz := Below.refl w.heap.size w
  go_wp2_with fail
  refine (B_any _).mono ?_
  rintro e w1 ⟨A1, c1, rfl, hA1, hb1, _⟩
  have ht1 := SizesAt.below ht hb1
  have hz1 := Below.trans hz (Below.mono hb1 (Below.size hz))
  clear hz
  clear hb1
  go_wp2_with fail
  refine (list_any _ _ _ _).mono ?_
  rintro e _ ⟨rfl, rfl⟩
  go_wp2_with fail
  refine (otherB6 _ _ _ _ (WaysAt.up hA1 (below_new _ _)) (ints_lit w1 #[.int .i64 6, .int .i64 6, .int .i64 6] [6, 6, 6] 3 _ rfl rfl) (SizesAt.below ht1 (below_new _ _))).mono ?_
  rintro e w2 ⟨L2, d2, rfl, hL2, hb2'⟩
  have hb2 := below_via hb2'
  have ht2 := SizesAt.below ht1 hb2
  have hz2 := Below.trans hz1 (Below.mono hb2 (Below.size hz1))
  clear ht1 hz1
  clear hb2 hb2'
  clear hA1
  go_wp2_with fail
  refine (B_any _).mono ?_
  rintro e w3 ⟨A3, c3, rfl, hA3, hb3, _⟩
  have ht3 := SizesAt.below ht2 hb3
  have hz3 := Below.trans hz2 (Below.mono hb3 (Below.size hz2))
  have o_3 := IntsAt.up hL2 hb3
  clear ht2 hz2 hL2
  clear hb3
  go_wp2_with fail
  refine (list_any _ _ _ _).mono ?_
  rintro e _ ⟨rfl, rfl⟩
  go_wp2_with fail
  refine (saysB1 _ _ _ _ (WaysAt.up hA3 (below_new _ _)) (ints_lit w3 #[.int .i64 1] [1] 3 _ rfl rfl) ).mono ?_
  rintro e w4 ⟨rfl, hb4'⟩
  have hb4 := below_via hb4'
  have ht4 := SizesAt.below ht3 hb4
  have hz4 := Below.trans hz3 (Below.mono hb4 (Below.size hz3))
  have o_4 := IntsAt.up o_3 hb4
  clear ht3 hz3 o_3
  clear hb4 hb4'
  clear hA3
  go_wp2_with fail
  refine (B_any _).mono ?_
  rintro e w5 ⟨A5, c5, rfl, hA5, hb5, _⟩
  have ht5 := SizesAt.below ht4 hb5
  have hz5 := Below.trans hz4 (Below.mono hb5 (Below.size hz4))
  have o_5 := IntsAt.up o_4 hb5
  clear ht4 hz4 o_4
  clear hb5
  go_wp2_with fail
  refine (list_any _ _ _ _).mono ?_
  rintro e _ ⟨rfl, rfl⟩
  go_wp2_with fail
  refine (saysB2 _ _ _ _ (WaysAt.up hA5 (below_new _ _)) (ints_lit w5 #[.int .i64 2] [2] 3 _ rfl rfl) ).mono ?_
  rintro e w6 ⟨rfl, hb6'⟩
  have hb6 := below_via hb6'
  have ht6 := SizesAt.below ht5 hb6
  have hz6 := Below.trans hz5 (Below.mono hb6 (Below.size hz5))
  have o_6 := IntsAt.up o_5 hb6
  clear ht5 hz5 o_5
  clear hb6 hb6'
  clear hA5
  go_wp2_with fail
  refine (B_any _).mono ?_
  rintro e w7 ⟨A7, c7, rfl, hA7, hb7, _⟩
  have ht7 := SizesAt.below ht6 hb7
  have hz7 := Below.trans hz6 (Below.mono hb7 (Below.size hz6))
  have o_7 := IntsAt.up o_6 hb7
  clear ht6 hz6 o_6
  clear hb7
  go_wp2_with fail
  refine (boundB0t _ _ _ hA7 ht7).mono ?_
  rintro e w8 ⟨L8, d8, rfl, hL8, hb8'⟩
  have hb8 := hb8'
  have ht8 := SizesAt.below ht7 hb8
  have hz8 := Below.trans hz7 (Below.mono hb8 (Below.size hz7))
  have o_8 := IntsAt.up o_7 hb8
  clear ht7 hz7 o_7
  clear hb8 hb8'
  clear hA7
  go_wp2_with fail
  refine (B_any _).mono ?_
  rintro e w9 ⟨A9, c9, rfl, hA9, hb9, _⟩
  have ht9 := SizesAt.below ht8 hb9
  have hz9 := Below.trans hz8 (Below.mono hb9 (Below.size hz8))
  have o_9 := IntsAt.up o_8 hb9
  have a_9 := IntsAt.up hL8 hb9
  clear ht8 hz8 o_8 hL8
  clear hb9
  go_wp2_with fail
  refine (boundB2f _ _ _ hA9 ht9).mono ?_
  rintro e w10 ⟨L10, d10, rfl, hL10, hb10'⟩
  have hb10 := hb10'
  have ht10 := SizesAt.below ht9 hb10
  have hz10 := Below.trans hz9 (Below.mono hb10 (Below.size hz9))
  have o_10 := IntsAt.up o_9 hb10
  have a_10 := IntsAt.up a_9 hb10
  clear ht9 hz9 o_9 a_9
  clear hb10 hb10'
  clear hA9
  go_wp2_with fail
  refine (B_any _).mono ?_
  rintro e w11 ⟨A11, c11, rfl, hA11, hb11, _⟩
  have ht11 := SizesAt.below ht10 hb11
  have hz11 := Below.trans hz10 (Below.mono hb11 (Below.size hz10))
  have o_11 := IntsAt.up o_10 hb11
  have a_11 := IntsAt.up a_10 hb11
  have c_11 := IntsAt.up hL10 hb11
  clear ht10 hz10 o_10 a_10 hL10
  clear hb11
  go_wp2_with fail
  refine (boundB0f _ _ _ hA11 ht11).mono ?_
  rintro e w12 ⟨L12, d12, rfl, hL12, hb12'⟩
  have hb12 := hb12'
  have ht12 := SizesAt.below ht11 hb12
  have hz12 := Below.trans hz11 (Below.mono hb12 (Below.size hz11))
  have o_12 := IntsAt.up o_11 hb12
  have a_12 := IntsAt.up a_11 hb12
  have c_12 := IntsAt.up c_11 hb12
  clear ht11 hz11 o_11 a_11 c_11
  clear hb12 hb12'
  clear hL12
  clear hA11
  go_wp2_with fail
  refine (list_any _ _ _ _).mono ?_
  rintro e _ ⟨rfl, rfl⟩
  go_wp2_with fail
  refine (same_eq _ _ _ _ 3 [5, 5, 5] _ rfl (by decide) (IntsAt.up o_12 (below_new _ _)) (ints_lit w12 #[.int .i64 5, .int .i64 5, .int .i64 5] [5, 5, 5] 3 _ rfl rfl)).mono ?_
  rintro e w13 ⟨rfl, hb13'⟩
  have hb13 := below_via hb13'
  have ht13 := SizesAt.below ht12 hb13
  have hz13 := Below.trans hz12 (Below.mono hb13 (Below.size hz12))
  have o_13 := IntsAt.up o_12 hb13
  have a_13 := IntsAt.up a_12 hb13
  have c_13 := IntsAt.up c_12 hb13
  clear ht12 hz12 o_12 a_12 c_12
  clear hb13 hb13'
  clear o_13
  go_wp2_with fail
  refine (list_any _ _ _ _).mono ?_
  rintro e _ ⟨rfl, rfl⟩
  go_wp2_with fail
  refine (same_eq _ _ _ _ 1 [0] _ rfl (by decide) (IntsAt.up a_13 (below_new _ _)) (ints_lit w13 #[.int .i64 0] [0] 3 _ rfl rfl)).mono ?_
  rintro e w14 ⟨rfl, hb14'⟩
  have hb14 := below_via hb14'
  have ht14 := SizesAt.below ht13 hb14
  have hz14 := Below.trans hz13 (Below.mono hb14 (Below.size hz13))
  have a_14 := IntsAt.up a_13 hb14
  have c_14 := IntsAt.up c_13 hb14
  clear ht13 hz13 a_13 c_13
  clear hb14 hb14'
  clear a_14
  go_wp2_with fail
  refine (list_any _ _ _ _).mono ?_
  rintro e _ ⟨rfl, rfl⟩
  go_wp2_with fail
  refine (same_eq _ _ _ _ 1 [0] _ rfl (by decide) (IntsAt.up c_14 (below_new _ _)) (ints_lit w14 #[.int .i64 0] [0] 3 _ rfl rfl)).mono ?_
  rintro e w15 ⟨rfl, hb15'⟩
  have hb15 := below_via hb15'
  have ht15 := SizesAt.below ht14 hb15
  have hz15 := Below.trans hz14 (Below.mono hb15 (Below.size hz14))
  have c_15 := IntsAt.up c_14 hb15
  clear ht14 hz14 c_14
  clear hb15 hb15'
  clear c_15
  go_wp2_with fail
  refine (B_any _).mono ?_
  rintro e w16 ⟨A16, c16, rfl, hA16, hb16, _⟩
  have ht16 := SizesAt.below ht15 hb16
  have hz16 := Below.trans hz15 (Below.mono hb16 (Below.size hz15))
  clear ht15 hz15
  clear hb16
  go_wp2_with fail
  refine (list_any _ _ _ _).mono ?_
  rintro e _ ⟨rfl, rfl⟩
  go_wp2_with fail
  refine (verifyB666 _ _ _ _ (WaysAt.up hA16 (below_new _ _)) (ints_lit w16 #[.int .i64 6, .int .i64 6, .int .i64 6] [6, 6, 6] 3 _ rfl rfl) ).mono ?_
  rintro e w17 ⟨rfl, hb17'⟩
  have hb17 := below_via hb17'
  have ht17 := SizesAt.below ht16 hb17
  have hz17 := Below.trans hz16 (Below.mono hb17 (Below.size hz16))
  clear ht16 hz16
  clear hb17 hb17'
  clear hA16
  go_wp2_with fail
  refine (B_any _).mono ?_
  rintro e w18 ⟨A18, c18, rfl, hA18, hb18, _⟩
  have ht18 := SizesAt.below ht17 hb18
  have hz18 := Below.trans hz17 (Below.mono hb18 (Below.size hz17))
  clear ht17 hz17
  clear hb18
  go_wp2_with fail
  refine (list_any _ _ _ _).mono ?_
  rintro e _ ⟨rfl, rfl⟩
  go_wp2_with fail
  refine (verifyB444 _ _ _ _ (WaysAt.up hA18 (below_new _ _)) (ints_lit w18 #[.int .i64 4, .int .i64 4, .int .i64 4] [4, 4, 4] 3 _ rfl rfl) ).mono ?_
  rintro e w19 ⟨rfl, hb19'⟩
  have hb19 := below_via hb19'
  have ht19 := SizesAt.below ht18 hb19
  have hz19 := Below.trans hz18 (Below.mono hb19 (Below.size hz18))
  clear ht18 hz18
  clear hb19 hb19'
  clear hA18
  go_wp2_with fail
  refine (B_any _).mono ?_
  rintro e w20 ⟨A20, c20, rfl, hA20, hb20, _⟩
  have ht20 := SizesAt.below ht19 hb20
  have hz20 := Below.trans hz19 (Below.mono hb20 (Below.size hz19))
  clear ht19 hz19
  clear hb20
  go_wp2_with fail
  refine (list_any _ _ _ _).mono ?_
  rintro e _ ⟨rfl, rfl⟩
  go_wp2_with fail
  refine (verifyB55 _ _ _ _ (WaysAt.up hA20 (below_new _ _)) (ints_lit w20 #[.int .i64 5, .int .i64 5] [5, 5] 3 _ rfl rfl) ).mono ?_
  rintro e w21 ⟨rfl, hb21'⟩
  have hb21 := below_via hb21'
  have ht21 := SizesAt.below ht20 hb21
  have hz21 := Below.trans hz20 (Below.mono hb21 (Below.size hz20))
  clear ht20 hz20
  clear hb21 hb21'
  clear hA20
  go_wp2_with fail
  refine (books1 _).mono ?_
  rintro e w22 ⟨A22, c22, rfl, hA22, hb22, _⟩
  have ht22 := SizesAt.below ht21 hb22
  have hz22 := Below.trans hz21 (Below.mono hb22 (Below.size hz21))
  clear ht21 hz21
  clear hb22
  go_wp2_with fail
  refine (check1 _ _ _ hA22).mono ?_
  rintro e w23 ⟨rfl, hb23'⟩
  have hb23 := hb23'
  have ht23 := SizesAt.below ht22 hb23
  have hz23 := Below.trans hz22 (Below.mono hb23 (Below.size hz22))
  clear ht22 hz22
  clear hb23 hb23'
  clear hA22
  go_wp2_with fail
  refine (books2 _ _ (ints_lit w23 #[.int .i64 0, .int .i64 0, .int .i64 1, .int .i64 1] [0, 0, 1, 1] 3 _ rfl rfl)).mono ?_
  rintro e w24 ⟨A24, c24, rfl, hA24, hb24', _⟩
  have hb24 := below_via hb24'
  have ht24 := SizesAt.below ht23 hb24
  have hz24 := Below.trans hz23 (Below.mono hb24 (Below.size hz23))
  clear ht23 hz23
  clear hb24 hb24'
  go_wp2_with fail
  refine (check2 _ _ _ hA24).mono ?_
  rintro e w25 ⟨rfl, hb25'⟩
  have hb25 := hb25'
  have ht25 := SizesAt.below ht24 hb25
  have hz25 := Below.trans hz24 (Below.mono hb25 (Below.size hz24))
  clear ht24 hz24
  clear hb25 hb25'
  clear hA24
  go_wp2_with fail
  refine (works_any _ ht25).mono ?_
  rintro e w26 ⟨rfl, hb26⟩
  have ht26 := SizesAt.below ht25 hb26
  have hz26 := Below.trans hz25 (Below.mono hb26 (Below.size hz25))
  clear ht25 hz25
  go_wp2
  go_ret
  exact ⟨rfl, hz26⟩
end Go.Proofs.YtcebihijnedekaaDoor
