/-
  The examples that each statement asks: 'works' answers true.
-/
import Derived.Test.YtcebihijnedekaaDoorKnownA
namespace Go.Proofs.YtcebihijnedekaaDoor
open Go.RowKit

set_option maxRecDepth 100000 in
set_option maxHeartbeats 8000000 in
theorem works_any (w : World) (ht : SizesAt w) : Calls Tryd.prog 16 #[] w fun e w' => e = .returned (.bool true) ∧ Below w.heap.size w w' := by
  go_enter Tryd.func16, Tryd.ntmps16
  have hz := Below.refl w.heap.size w
  go_wp2_with fail
  refine (B_any _).mono ?_
  rintro e w1 ⟨A1, c1, rfl, hA1, hb1, _⟩
  have ht1 := SizesAt.below ht hb1
  have hz1 := Below.trans hz (Below.mono hb1 (Below.size hz))
  clear hz
  clear hb1
  go_wp2_with fail
  refine (canB _ _ _ hA1 ht1).mono ?_
  rintro e w2 ⟨rfl, hb2'⟩
  have hb2 := hb2'
  have ht2 := SizesAt.below ht1 hb2
  have hz2 := Below.trans hz1 (Below.mono hb2 (Below.size hz1))
  clear ht1 hz1
  clear hb2 hb2'
  clear hA1
  go_wp2_with fail
  refine (C_any _).mono ?_
  rintro e w3 ⟨A3, c3, rfl, hA3, hb3, _⟩
  have ht3 := SizesAt.below ht2 hb3
  have hz3 := Below.trans hz2 (Below.mono hb3 (Below.size hz2))
  clear ht2 hz2
  clear hb3
  go_wp2_with fail
  refine (canC _ _ _ hA3 ht3).mono ?_
  rintro e w4 ⟨rfl, hb4'⟩
  have hb4 := hb4'
  have ht4 := SizesAt.below ht3 hb4
  have hz4 := Below.trans hz3 (Below.mono hb4 (Below.size hz3))
  clear ht3 hz3
  clear hb4 hb4'
  clear hA3
  go_wp2_with fail
  refine (B_any _).mono ?_
  rintro e w5 ⟨A5, c5, rfl, hA5, hb5, _⟩
  have ht5 := SizesAt.below ht4 hb5
  have hz5 := Below.trans hz4 (Below.mono hb5 (Below.size hz4))
  clear ht4 hz4
  clear hb5
  go_wp2_with fail
  refine (firstB _ _ _ hA5 ht5).mono ?_
  rintro e w6 ⟨L6, d6, rfl, hL6, hb6'⟩
  have hb6 := hb6'
  have ht6 := SizesAt.below ht5 hb6
  have hz6 := Below.trans hz5 (Below.mono hb6 (Below.size hz5))
  clear ht5 hz5
  clear hb6 hb6'
  clear hA5
  go_wp2_with fail
  refine (B_any _).mono ?_
  rintro e w7 ⟨A7, c7, rfl, hA7, hb7, _⟩
  have ht7 := SizesAt.below ht6 hb7
  have hz7 := Below.trans hz6 (Below.mono hb7 (Below.size hz6))
  have a_7 := IntsAt.up hL6 hb7
  clear ht6 hz6 hL6
  clear hb7
  go_wp2_with fail
  refine (list_any _ _ _ _).mono ?_
  rintro e _ ⟨rfl, rfl⟩
  go_wp2_with fail
  refine (otherB5 _ _ _ _ (WaysAt.up hA7 (below_new _ _)) (ints_lit w7 #[.int .i64 5, .int .i64 5, .int .i64 5] [5, 5, 5] 3 _ rfl rfl) (SizesAt.below ht7 (below_new _ _))).mono ?_
  rintro e w8 ⟨L8, d8, rfl, hL8, hb8'⟩
  have hb8 := below_via hb8'
  have ht8 := SizesAt.below ht7 hb8
  have hz8 := Below.trans hz7 (Below.mono hb8 (Below.size hz7))
  have a_8 := IntsAt.up a_7 hb8
  clear ht7 hz7 a_7
  clear hb8 hb8'
  clear hA7
  go_wp2_with fail
  refine (C_any _).mono ?_
  rintro e w9 ⟨A9, c9, rfl, hA9, hb9, _⟩
  have ht9 := SizesAt.below ht8 hb9
  have hz9 := Below.trans hz8 (Below.mono hb9 (Below.size hz8))
  have a_9 := IntsAt.up a_8 hb9
  have o_9 := IntsAt.up hL8 hb9
  clear ht8 hz8 a_8 hL8
  clear hb9
  go_wp2_with fail
  refine (againstC _ _ _ hA9 ht9).mono ?_
  rintro e w10 ⟨L10, d10, rfl, hL10, hb10'⟩
  have hb10 := hb10'
  have ht10 := SizesAt.below ht9 hb10
  have hz10 := Below.trans hz9 (Below.mono hb10 (Below.size hz9))
  have a_10 := IntsAt.up a_9 hb10
  have o_10 := IntsAt.up o_9 hb10
  clear ht9 hz9 a_9 o_9
  clear hb10 hb10'
  clear hA9
  go_wp2_with fail
  refine (B_any _).mono ?_
  rintro e w11 ⟨A11, c11, rfl, hA11, hb11, _⟩
  have ht11 := SizesAt.below ht10 hb11
  have hz11 := Below.trans hz10 (Below.mono hb11 (Below.size hz10))
  have a_11 := IntsAt.up a_10 hb11
  have o_11 := IntsAt.up o_10 hb11
  have p_11 := IntsAt.up hL10 hb11
  clear ht10 hz10 a_10 o_10 hL10
  clear hb11
  go_wp2_with fail
  refine (span33B _ _ _ hA11 ht11).mono ?_
  rintro e w12 ⟨rfl, hb12'⟩
  have hb12 := hb12'
  have ht12 := SizesAt.below ht11 hb12
  have hz12 := Below.trans hz11 (Below.mono hb12 (Below.size hz11))
  have a_12 := IntsAt.up a_11 hb12
  have o_12 := IntsAt.up o_11 hb12
  have p_12 := IntsAt.up p_11 hb12
  clear ht11 hz11 a_11 o_11 p_11
  clear hb12 hb12'
  clear hA11
  go_wp2_with fail
  refine (B_any _).mono ?_
  rintro e w13 ⟨A13, c13, rfl, hA13, hb13, _⟩
  have ht13 := SizesAt.below ht12 hb13
  have hz13 := Below.trans hz12 (Below.mono hb13 (Below.size hz12))
  have a_13 := IntsAt.up a_12 hb13
  have o_13 := IntsAt.up o_12 hb13
  have p_13 := IntsAt.up p_12 hb13
  clear ht12 hz12 a_12 o_12 p_12
  clear hb13
  go_wp2_with fail
  refine (openB _ _ _ hA13 ht13).mono ?_
  rintro e w14 ⟨L14, d14, rfl, hL14, hb14'⟩
  have hb14 := hb14'
  have ht14 := SizesAt.below ht13 hb14
  have hz14 := Below.trans hz13 (Below.mono hb14 (Below.size hz13))
  have a_14 := IntsAt.up a_13 hb14
  have o_14 := IntsAt.up o_13 hb14
  have p_14 := IntsAt.up p_13 hb14
  clear ht13 hz13 a_13 o_13 p_13
  clear hb14 hb14'
  clear hA13
  go_wp2_with fail
  refine (B_any _).mono ?_
  rintro e w15 ⟨A15, c15, rfl, hA15, hb15, _⟩
  have ht15 := SizesAt.below ht14 hb15
  have hz15 := Below.trans hz14 (Below.mono hb15 (Below.size hz14))
  have a_15 := IntsAt.up a_14 hb15
  have o_15 := IntsAt.up o_14 hb15
  have p_15 := IntsAt.up p_14 hb15
  have l_15 := IntsAt.up hL14 hb15
  clear ht14 hz14 a_14 o_14 p_14 hL14
  clear hb15
  go_wp2_with fail
  refine (list_any _ _ _ _).mono ?_
  rintro e _ ⟨rfl, rfl⟩
  go_wp2_with fail
  refine (saysB01 _ _ _ _ (WaysAt.up hA15 (below_new _ _)) (ints_lit w15 #[.int .i64 0, .int .i64 1] [0, 1] 3 _ rfl rfl) ).mono ?_
  rintro e w16 ⟨rfl, hb16'⟩
  have hb16 := below_via hb16'
  have ht16 := SizesAt.below ht15 hb16
  have hz16 := Below.trans hz15 (Below.mono hb16 (Below.size hz15))
  have a_16 := IntsAt.up a_15 hb16
  have o_16 := IntsAt.up o_15 hb16
  have p_16 := IntsAt.up p_15 hb16
  have l_16 := IntsAt.up l_15 hb16
  clear ht15 hz15 a_15 o_15 p_15 l_15
  clear hb16 hb16'
  clear hA15
  go_wp2_with fail
  refine (B_any _).mono ?_
  rintro e w17 ⟨A17, c17, rfl, hA17, hb17, _⟩
  have ht17 := SizesAt.below ht16 hb17
  have hz17 := Below.trans hz16 (Below.mono hb17 (Below.size hz16))
  have a_17 := IntsAt.up a_16 hb17
  have o_17 := IntsAt.up o_16 hb17
  have p_17 := IntsAt.up p_16 hb17
  have l_17 := IntsAt.up l_16 hb17
  clear ht16 hz16 a_16 o_16 p_16 l_16
  clear hb17
  go_wp2_with fail
  refine (boundB1t _ _ _ hA17 ht17).mono ?_
  rintro e w18 ⟨L18, d18, rfl, hL18, hb18'⟩
  have hb18 := hb18'
  have ht18 := SizesAt.below ht17 hb18
  have hz18 := Below.trans hz17 (Below.mono hb18 (Below.size hz17))
  have a_18 := IntsAt.up a_17 hb18
  have o_18 := IntsAt.up o_17 hb18
  have p_18 := IntsAt.up p_17 hb18
  have l_18 := IntsAt.up l_17 hb18
  clear ht17 hz17 a_17 o_17 p_17 l_17
  clear hb18 hb18'
  clear hA17
  go_wp2_with fail
  refine (B_any _).mono ?_
  rintro e w19 ⟨A19, c19, rfl, hA19, hb19, _⟩
  have ht19 := SizesAt.below ht18 hb19
  have hz19 := Below.trans hz18 (Below.mono hb19 (Below.size hz18))
  have a_19 := IntsAt.up a_18 hb19
  have o_19 := IntsAt.up o_18 hb19
  have p_19 := IntsAt.up p_18 hb19
  have l_19 := IntsAt.up l_18 hb19
  have r_19 := IntsAt.up hL18 hb19
  clear ht18 hz18 a_18 o_18 p_18 l_18 hL18
  clear hb19
  go_wp2_with fail
  refine (spans35B _ _ _ hA19 ht19).mono ?_
  rintro e w20 ⟨L20, d20, rfl, hL20, hb20'⟩
  have hb20 := hb20'
  have ht20 := SizesAt.below ht19 hb20
  have hz20 := Below.trans hz19 (Below.mono hb20 (Below.size hz19))
  have a_20 := IntsAt.up a_19 hb20
  have o_20 := IntsAt.up o_19 hb20
  have p_20 := IntsAt.up p_19 hb20
  have l_20 := IntsAt.up l_19 hb20
  have r_20 := IntsAt.up r_19 hb20
  clear ht19 hz19 a_19 o_19 p_19 l_19 r_19
  clear hb20 hb20'
  clear hA19
  go_wp2_with fail
  refine (B_any _).mono ?_
  rintro e w21 ⟨A21, c21, rfl, hA21, hb21, _⟩
  have ht21 := SizesAt.below ht20 hb21
  have hz21 := Below.trans hz20 (Below.mono hb21 (Below.size hz20))
  have a_21 := IntsAt.up a_20 hb21
  have o_21 := IntsAt.up o_20 hb21
  have p_21 := IntsAt.up p_20 hb21
  have l_21 := IntsAt.up l_20 hb21
  have r_21 := IntsAt.up r_20 hb21
  have s_21 := PairsAt.up hL20 hb21
  clear ht20 hz20 a_20 o_20 p_20 l_20 r_20 hL20
  clear hb21
  go_wp2_with fail
  refine (list_any _ _ _ _).mono ?_
  rintro e _ ⟨rfl, rfl⟩
  go_wp2_with fail
  refine (saysB2x _ _ _ _ (WaysAt.up hA21 (below_new _ _)) (ints_lit w21 #[.int .i64 2] [2] 3 _ rfl rfl) ).mono ?_
  rintro e w22 ⟨rfl, hb22'⟩
  have hb22 := below_via hb22'
  have ht22 := SizesAt.below ht21 hb22
  have hz22 := Below.trans hz21 (Below.mono hb22 (Below.size hz21))
  have a_22 := IntsAt.up a_21 hb22
  have o_22 := IntsAt.up o_21 hb22
  have p_22 := IntsAt.up p_21 hb22
  have l_22 := IntsAt.up l_21 hb22
  have r_22 := IntsAt.up r_21 hb22
  have s_22 := PairsAt.up s_21 hb22
  clear ht21 hz21 a_21 o_21 p_21 l_21 r_21 s_21
  clear hb22 hb22'
  clear hA21
  go_wp2_with fail
  refine (B_any _).mono ?_
  rintro e w23 ⟨A23, c23, rfl, hA23, hb23, _⟩
  have ht23 := SizesAt.below ht22 hb23
  have hz23 := Below.trans hz22 (Below.mono hb23 (Below.size hz22))
  have a_23 := IntsAt.up a_22 hb23
  have o_23 := IntsAt.up o_22 hb23
  have p_23 := IntsAt.up p_22 hb23
  have l_23 := IntsAt.up l_22 hb23
  have r_23 := IntsAt.up r_22 hb23
  have s_23 := PairsAt.up s_22 hb23
  clear ht22 hz22 a_22 o_22 p_22 l_22 r_22 s_22
  clear hb23
  go_wp2_with fail
  refine (againstB _ _ _ hA23 ht23).mono ?_
  rintro e w24 ⟨L24, d24, rfl, hL24, hb24'⟩
  have hb24 := hb24'
  have ht24 := SizesAt.below ht23 hb24
  have hz24 := Below.trans hz23 (Below.mono hb24 (Below.size hz23))
  have a_24 := IntsAt.up a_23 hb24
  have o_24 := IntsAt.up o_23 hb24
  have p_24 := IntsAt.up p_23 hb24
  have l_24 := IntsAt.up l_23 hb24
  have r_24 := IntsAt.up r_23 hb24
  have s_24 := PairsAt.up s_23 hb24
  clear ht23 hz23 a_23 o_23 p_23 l_23 r_23 s_23
  clear hb24 hb24'
  clear hL24
  clear hA23
  go_wp2_with fail
  refine (list_any _ _ _ _).mono ?_
  rintro e _ ⟨rfl, rfl⟩
  go_wp2_with fail
  refine (same_eq _ _ _ _ 3 [5, 5, 5] _ rfl (by decide) (IntsAt.up a_24 (below_new _ _)) (ints_lit w24 #[.int .i64 5, .int .i64 5, .int .i64 5] [5, 5, 5] 3 _ rfl rfl)).mono ?_
  rintro e w25 ⟨rfl, hb25'⟩
  have hb25 := below_via hb25'
  have ht25 := SizesAt.below ht24 hb25
  have hz25 := Below.trans hz24 (Below.mono hb25 (Below.size hz24))
  have a_25 := IntsAt.up a_24 hb25
  have o_25 := IntsAt.up o_24 hb25
  have p_25 := IntsAt.up p_24 hb25
  have l_25 := IntsAt.up l_24 hb25
  have r_25 := IntsAt.up r_24 hb25
  have s_25 := PairsAt.up s_24 hb25
  clear ht24 hz24 a_24 o_24 p_24 l_24 r_24 s_24
  clear hb25 hb25'
  clear a_25
  go_wp2_with fail
  refine (list_any _ _ _ _).mono ?_
  rintro e _ ⟨rfl, rfl⟩
  go_wp2_with fail
  refine (same_eq _ _ _ _ 3 [6, 6, 6] _ rfl (by decide) (IntsAt.up o_25 (below_new _ _)) (ints_lit w25 #[.int .i64 6, .int .i64 6, .int .i64 6] [6, 6, 6] 3 _ rfl rfl)).mono ?_
  rintro e w26 ⟨rfl, hb26'⟩
  have hb26 := below_via hb26'
  have ht26 := SizesAt.below ht25 hb26
  have hz26 := Below.trans hz25 (Below.mono hb26 (Below.size hz25))
  have o_26 := IntsAt.up o_25 hb26
  have p_26 := IntsAt.up p_25 hb26
  have l_26 := IntsAt.up l_25 hb26
  have r_26 := IntsAt.up r_25 hb26
  have s_26 := PairsAt.up s_25 hb26
  clear ht25 hz25 o_25 p_25 l_25 r_25 s_25
  clear hb26 hb26'
  clear o_26
  go_wp2_with fail
  refine (list_any _ _ _ _).mono ?_
  rintro e _ ⟨rfl, rfl⟩
  go_wp2_with fail
  refine (same_eq _ _ _ _ 2 [0, 2] _ rfl (by decide) (IntsAt.up p_26 (below_new _ _)) (ints_lit w26 #[.int .i64 0, .int .i64 2] [0, 2] 3 _ rfl rfl)).mono ?_
  rintro e w27 ⟨rfl, hb27'⟩
  have hb27 := below_via hb27'
  have ht27 := SizesAt.below ht26 hb27
  have hz27 := Below.trans hz26 (Below.mono hb27 (Below.size hz26))
  have p_27 := IntsAt.up p_26 hb27
  have l_27 := IntsAt.up l_26 hb27
  have r_27 := IntsAt.up r_26 hb27
  have s_27 := PairsAt.up s_26 hb27
  clear ht26 hz26 p_26 l_26 r_26 s_26
  clear hb27 hb27'
  clear p_27
  go_wp2_with fail
  refine (list_any _ _ _ _).mono ?_
  rintro e _ ⟨rfl, rfl⟩
  go_wp2_with fail
  refine (same_eq _ _ _ _ 3 [0, 1, 2] _ rfl (by decide) (IntsAt.up l_27 (below_new _ _)) (ints_lit w27 #[.int .i64 0, .int .i64 1, .int .i64 2] [0, 1, 2] 3 _ rfl rfl)).mono ?_
  rintro e w28 ⟨rfl, hb28'⟩
  have hb28 := below_via hb28'
  have ht28 := SizesAt.below ht27 hb28
  have hz28 := Below.trans hz27 (Below.mono hb28 (Below.size hz27))
  have l_28 := IntsAt.up l_27 hb28
  have r_28 := IntsAt.up r_27 hb28
  have s_28 := PairsAt.up s_27 hb28
  clear ht27 hz27 l_27 r_27 s_27
  clear hb28 hb28'
  clear l_28
  go_wp2_with fail
  refine (list_any _ _ _ _).mono ?_
  rintro e _ ⟨rfl, rfl⟩
  go_wp2_with fail
  refine (same_eq _ _ _ _ 2 [0, 1] _ rfl (by decide) (IntsAt.up r_28 (below_new _ _)) (ints_lit w28 #[.int .i64 0, .int .i64 1] [0, 1] 3 _ rfl rfl)).mono ?_
  rintro e w29 ⟨rfl, hb29'⟩
  have hb29 := below_via hb29'
  have ht29 := SizesAt.below ht28 hb29
  have hz29 := Below.trans hz28 (Below.mono hb29 (Below.size hz28))
  have r_29 := IntsAt.up r_28 hb29
  have s_29 := PairsAt.up s_28 hb29
  clear ht28 hz28 r_28 s_28
  clear hb29 hb29'
  clear r_29
  go_wp2_with fail
  refine (spans_eq _ _ _ _ 3 [(5, 6), (5, 6), (5, 6)] _ rfl (by decide) (PairsAt.up s_29 (below_new _ _)) (pairs_lit w29 #[.int .i64 5, .int .i64 6, .int .i64 5, .int .i64 6, .int .i64 5, .int .i64 6] [(5, 6), (5, 6), (5, 6)] 72 _ rfl rfl)).mono ?_
  rintro e w30 ⟨rfl, hb30'⟩
  have hb30 := below_via hb30'
  have ht30 := SizesAt.below ht29 hb30
  have hz30 := Below.trans hz29 (Below.mono hb30 (Below.size hz29))
  have s_30 := PairsAt.up s_29 hb30
  clear ht29 hz29 s_29
  clear hb30 hb30'
  clear s_30
  go_wp2_with fail
  refine (B_any _).mono ?_
  rintro e w31 ⟨A31, c31, rfl, hA31, hb31, _⟩
  have ht31 := SizesAt.below ht30 hb31
  have hz31 := Below.trans hz30 (Below.mono hb31 (Below.size hz30))
  clear ht30 hz30
  clear hb31
  go_wp2_with fail
  refine (list_any _ _ _ _).mono ?_
  rintro e _ ⟨rfl, rfl⟩
  go_wp2_with fail
  refine (verifyB566 _ _ _ _ (WaysAt.up hA31 (below_new _ _)) (ints_lit w31 #[.int .i64 5, .int .i64 6, .int .i64 6] [5, 6, 6] 3 _ rfl rfl) ).mono ?_
  rintro e w32 ⟨rfl, hb32'⟩
  have hb32 := below_via hb32'
  have ht32 := SizesAt.below ht31 hb32
  have hz32 := Below.trans hz31 (Below.mono hb32 (Below.size hz31))
  clear ht31 hz31
  clear hb32 hb32'
  clear hA31
  go_wp2_with fail
  refine (C_any _).mono ?_
  rintro e w33 ⟨A33, c33, rfl, hA33, hb33, _⟩
  have ht33 := SizesAt.below ht32 hb33
  have hz33 := Below.trans hz32 (Below.mono hb33 (Below.size hz32))
  clear ht32 hz32
  clear hb33
  go_wp2_with fail
  refine (list_any _ _ _ _).mono ?_
  rintro e _ ⟨rfl, rfl⟩
  go_wp2_with fail
  refine (provesC02 _ _ _ _ (WaysAt.up hA33 (below_new _ _)) (ints_lit w33 #[.int .i64 0, .int .i64 2] [0, 2] 3 _ rfl rfl) ).mono ?_
  rintro e w34 ⟨rfl, hb34'⟩
  have hb34 := below_via hb34'
  have ht34 := SizesAt.below ht33 hb34
  have hz34 := Below.trans hz33 (Below.mono hb34 (Below.size hz33))
  clear ht33 hz33
  clear hb34 hb34'
  clear hA33
  go_wp2_with fail
  refine (C_any _).mono ?_
  rintro e w35 ⟨A35, c35, rfl, hA35, hb35, _⟩
  have ht35 := SizesAt.below ht34 hb35
  have hz35 := Below.trans hz34 (Below.mono hb35 (Below.size hz34))
  clear ht34 hz34
  clear hb35
  go_wp2_with fail
  refine (list_any _ _ _ _).mono ?_
  rintro e _ ⟨rfl, rfl⟩
  go_wp2_with fail
  refine (provesC1 _ _ _ _ (WaysAt.up hA35 (below_new _ _)) (ints_lit w35 #[.int .i64 1] [1] 3 _ rfl rfl) ).mono ?_
  rintro e w36 ⟨rfl, hb36'⟩
  have hb36 := below_via hb36'
  have ht36 := SizesAt.below ht35 hb36
  have hz36 := Below.trans hz35 (Below.mono hb36 (Below.size hz35))
  clear ht35 hz35
  clear hb36 hb36'
  clear hA35
  go_wp2
  go_ret
  exact ⟨rfl, hz36⟩
end Go.Proofs.YtcebihijnedekaaDoor
