/-
  The examples that each statement asks: 'works' answers true.
-/
import Derived.Test.YtlollcabnfncpaaDoorVal
namespace Go.Proofs.YtlollcabnfncpaaDoor
open Go.RowKit

theorem ints_new (w : World) (L : List Int) (cs : Array Value) (h : cs.toList = L.map (Value.int .i64)) : IntsAt (w.alloc (.cells cs 3)) (w.alloc (.cells cs 3)).heap.size (some ⟨w.heap.size, 0, none⟩) L := by
  intro k x hx
  refine ⟨w.heap.size, 0, rfl, by simp, ?_⟩
  rw [cell_of_row _ w.heap.size (0 + k) cs 3 _ (heap_alloc_new w _), ← Array.getElem?_toList, h, Nat.zero_add, List.getElem?_map, hx]
  rfl

def Cds (w : World) (A : Option Addr) (l : List Int) : Prop := CardsAt w w.heap.size A (cdsL l)

theorem w_fill (w : World) (ht : TabW w) : Calls Tryd.prog 17 #[.agg #[.int .i64 2, .int .i64 3, .int .i64 2, .int .i64 1]] w fun e w' => ∃ A c, e = .returned (.tuple #[.slice A 3 c, .int .i64 0]) ∧ CardsAt w' w'.heap.size A (cdsL [0, 0, 0, 0, 1, 0, 0, 2, 0]) ∧ Below w.heap.size w w' := by
  have h := fill_any 2 3 2 1 w ht
  rw [v_fill] at h
  exact h
theorem w_cnt (w : World) (ht : TabW w) : Calls Tryd.prog 23 #[.agg #[.int .i64 4, .int .i64 5, .int .i64 2, .int .i64 1]] w fun e w' => e = .returned (.tuple #[.int .i64 95, .int .i64 0]) ∧ Below w.heap.size w w' := by
  have h := count_any 4 5 2 1 w ht
  rw [v_cnt] at h
  exact h
theorem w_up (w : World) (ht : TabW w) : Calls Tryd.prog 25 #[.agg #[.int .i64 2, .int .i64 3, .int .i64 2, .int .i64 1]] w fun e w' => e = .returned (.tuple #[.int .i64 1, .int .i64 3, .int .i64 0]) ∧ Below w.heap.size w w' := by
  have h := upright_any 2 3 2 1 w ht
  rw [v_up, v_upE] at h
  exact h
theorem w_can (w : World) (ht : TabW w) : Calls Tryd.prog 15 #[.agg #[.int .i64 5, .int .i64 6, .int .i64 3, .int .i64 2]] w fun e w' => e = .returned (.tuple #[.bool true, .int .i64 0]) ∧ Below w.heap.size w w' := by
  have h := can_any 5 6 3 2 w ht
  rw [v_can] at h
  exact h
theorem w_not (w : World) (ht : TabW w) : Calls Tryd.prog 15 #[.agg #[.int .i64 6, .int .i64 6, .int .i64 4, .int .i64 1]] w fun e w' => e = .returned (.tuple #[.bool false, .int .i64 0]) ∧ Below w.heap.size w w' := by
  have h := can_any 6 6 4 1 w ht
  rw [v_not] at h
  exact h
theorem w_aga (w : World) (ht : TabW w) : Calls Tryd.prog 41 #[.agg #[.int .i64 3, .int .i64 6, .int .i64 2, .int .i64 2]] w fun e w' => e = .returned (.tuple #[.int .i64 1, .int .i64 3, .int .i64 0]) ∧ Below w.heap.size w w' := by
  have h := against_any 3 6 2 2 w ht
  rw [v_aga] at h
  exact h
theorem w_aga2 (w : World) (ht : TabW w) : Calls Tryd.prog 41 #[.agg #[.int .i64 5, .int .i64 6, .int .i64 3, .int .i64 2]] w fun e w' => e = .returned (.tuple #[.int .i64 (agaF 5 6 3 2).1, .int .i64 (agaF 5 6 3 2).2.1, .int .i64 13]) ∧ Below w.heap.size w w' := by
  have h := against_any 5 6 3 2 w ht
  rw [v_aga2] at h
  exact h
theorem w_col (w : World) : Calls Tryd.prog 39 #[.agg #[.int .i64 6, .int .i64 6, .int .i64 4, .int .i64 1], .int .i64 4] w fun e w' => ∃ A c, e = .returned (.tuple #[.slice A 4 c, .int .i64 0]) ∧ IntsAt w' w'.heap.size A [9, 10, 9, 8] ∧ Below w.heap.size w w' := by
  have h := coloursF_any 6 6 4 1 4 w
  rw [v_col] at h
  exact h
theorem w_cards9 (w : World) (A : Option Addr) (c : Nat) (hA : IntsAt w w.heap.size A [0, 0, 0, 0, 1, 1, 1, 1, 1]) : Calls Tryd.prog 59 #[.slice A 9 c] w fun e w' => ∃ A c, e = .returned (.slice A 3 c) ∧ CardsAt w' w'.heap.size A (cdsL [0, 0, 0, 0, 1, 1, 1, 1, 1]) ∧ Below w.heap.size w w' :=
  (cards_any A c [0, 0, 0, 0, 1, 1, 1, 1, 1] w hA (by decide)).mono fun _ _ ⟨A, c, h1, h2, h3, _⟩ => ⟨A, c, h1, h2, h3⟩
theorem w_cardsF (w : World) (A : Option Addr) (c : Nat) (hA : IntsAt w w.heap.size A [0, 0, 0, 0, 1, 0, 0, 2, 0]) : Calls Tryd.prog 59 #[.slice A 9 c] w fun e w' => ∃ A c, e = .returned (.slice A 3 c) ∧ CardsAt w' w'.heap.size A (cdsL [0, 0, 0, 0, 1, 0, 0, 2, 0]) ∧ Below w.heap.size w w' :=
  (cards_any A c [0, 0, 0, 0, 1, 0, 0, 2, 0] w hA (by decide)).mono fun _ _ ⟨A, c, h1, h2, h3, _⟩ => ⟨A, c, h1, h2, h3⟩
theorem w_cards1 (w : World) (A : Option Addr) (c : Nat) (hA : IntsAt w w.heap.size A [0, 0, 0]) : Calls Tryd.prog 59 #[.slice A 3 c] w fun e w' => ∃ A c, e = .returned (.slice A 1 c) ∧ CardsAt w' w'.heap.size A (cdsL [0, 0, 0]) ∧ Below w.heap.size w w' :=
  (cards_any A c [0, 0, 0] w hA (by decide)).mono fun _ _ ⟨A, c, h1, h2, h3, _⟩ => ⟨A, c, h1, h2, h3⟩
theorem w_cards2 (w : World) (A : Option Addr) (c : Nat) (hA : IntsAt w w.heap.size A [0, 0, 0, 0, 1, 0]) : Calls Tryd.prog 59 #[.slice A 6 c] w fun e w' => ∃ A c, e = .returned (.slice A 2 c) ∧ CardsAt w' w'.heap.size A (cdsL [0, 0, 0, 0, 1, 0]) ∧ Below w.heap.size w w' :=
  (cards_any A c [0, 0, 0, 0, 1, 0] w hA (by decide)).mono fun _ _ ⟨A, c, h1, h2, h3, _⟩ => ⟨A, c, h1, h2, h3⟩
theorem w_cuts (w : World) (A : Option Addr) (c : Nat) (hA : CardsAt w w.heap.size A (cdsL [0, 0, 0, 0, 1, 1, 1, 1, 1])) : Calls Tryd.prog 28 #[.agg #[.int .i64 2, .int .i64 3, .int .i64 2, .int .i64 1], .slice A 3 c] w fun e w' => ∃ A c A' c', e = .returned (.tuple #[.slice A 0 c, .slice A' 1 c', .int .i64 0]) ∧ IntsAt w' w'.heap.size A' [1] ∧ Below w.heap.size w w' := by
  have h := cutsF_any 2 3 2 1 A c _ w hA (by decide)
  rw [v_cuts, v_ver] at h
  exact h.mono fun _ _ ⟨A, c, A', c', h1, _, h3, h4⟩ => ⟨A, c, A', c', h1, h3, h4⟩
theorem w_str (w : World) (A : Option Addr) (c : Nat) (hA : CardsAt w w.heap.size A (cdsL [0, 0, 0, 0, 1, 1, 1, 1, 1])) : Calls Tryd.prog 30 #[.agg #[.int .i64 2, .int .i64 3, .int .i64 2, .int .i64 1], .slice A 3 c] w fun e w' => e = .returned (.tuple #[.bool true, .int .i64 0]) ∧ Below w.heap.size w w' := by
  have h := straight_any 2 3 2 1 A c _ w hA (by decide)
  rw [v_str, v_ver] at h
  exact h
theorem w_rou (w : World) (A : Option Addr) (c : Nat) (hA : CardsAt w w.heap.size A (cdsL [0, 0, 0, 0, 1, 1, 1, 1, 1])) : Calls Tryd.prog 32 #[.agg #[.int .i64 2, .int .i64 3, .int .i64 2, .int .i64 1], .slice A 3 c] w fun e w' => e = .returned (.tuple #[.int .i64 2, .int .i64 0]) ∧ Below w.heap.size w w' := by
  have h := rounds_any 2 3 2 1 A c _ w hA (by decide)
  rw [v_rou, v_rouE] at h
  exact h
theorem w_sol (w : World) (ht : TabW w) : Calls Tryd.prog 37 #[.agg #[.int .i64 1, .int .i64 2, .int .i64 1, .int .i64 2]] w fun e w' => ∃ A c, e = .returned (.tuple #[.slice A 1 c, .int .i64 0]) ∧ CardsAt w' w'.heap.size A (cdsL [0, 0, 0]) ∧ Below w.heap.size w w' := by
  have h := solidF_any 1 2 1 2 w ht
  rw [v_sol] at h
  exact h
theorem w_sol2 (w : World) (ht : TabW w) : Calls Tryd.prog 37 #[.agg #[.int .i64 2, .int .i64 2, .int .i64 2, .int .i64 1]] w fun e w' => ∃ A c, e = .returned (.tuple #[.slice A 0 c, .int .i64 12]) ∧ Below w.heap.size w w' := by
  have h := solidF_any 2 2 2 1 w ht
  rw [v_sol2] at h
  exact h.mono fun _ _ ⟨A, c, h1, _, h3⟩ => ⟨A, c, h1, h3⟩
theorem w_ver2 (w : World) (A : Option Addr) (c : Nat) (hA : CardsAt w w.heap.size A (cdsL [0, 0, 0])) : Calls Tryd.prog 35 #[.agg #[.int .i64 2, .int .i64 2, .int .i64 2, .int .i64 1], .slice A 1 c] w fun e w' => e = .returned (.int .i64 21) ∧ Below w.heap.size w w' := by
  have h := verify_any 2 2 2 1 A c _ w hA (by decide)
  rw [v_ver2] at h
  exact h
theorem w_ver3 (w : World) (A : Option Addr) (c : Nat) (hA : CardsAt w w.heap.size A (cdsL [0, 0, 0, 0, 1, 0])) : Calls Tryd.prog 35 #[.agg #[.int .i64 2, .int .i64 2, .int .i64 2, .int .i64 1], .slice A 2 c] w fun e w' => e = .returned (.int .i64 0) ∧ Below w.heap.size w w' := by
  have h := verify_any 2 2 2 1 A c _ w hA (by decide)
  rw [v_ver3] at h
  exact h
theorem w_given (w : World) (A : Option Addr) (n c : Nat) (l : List Int) (hn : (cdsL l).length = n) (h6 : n < 1000000) (hA : CardsAt w w.heap.size A (cdsL l)) : Calls Tryd.prog 27 #[.slice A n c] w fun e w' => ∃ A c, e = .returned (.slice A n c) ∧ RcdsAt w' w'.heap.size A (cdsL l) ∧ Below w.heap.size w w' := by
  subst hn
  exact (given_any A c (cdsL l) w hA h6).mono fun _ _ ⟨A, c, h1, h2, h3, _⟩ => ⟨A, c, h1, h2, h3⟩
theorem w_alike (w : World) (A D : Option Addr) (n c d : Nat) (l : List Int) (hn : (cdsL l).length = n) (h6 : n < 1000000) (hA : CardsAt w w.heap.size A (cdsL l)) (hD : RcdsAt w w.heap.size D (cdsL l)) : Calls Tryd.prog 19 #[.slice A n c, .slice D n d] w fun e w' => e = .returned (.bool true) ∧ Below w.heap.size w w' := by
  subst hn
  exact (alike_any A D c d (cdsL l) (cdsL l) w h6 hA hD).mono fun _ _ ⟨h1, h2⟩ => ⟨by rw [h1, decide_eq_true rfl], h2⟩
theorem w_same (w : World) (A D : Option Addr) (n c d : Nat) (l : List Int) (hn : l.length = n) (h6 : n < 1000000) (hA : IntsAt w w.heap.size A l) (hD : IntsAt w w.heap.size D l) : Calls Tryd.prog 34 #[.slice A n c, .slice D n d] w fun e w' => e = .returned (.bool true) ∧ Below w.heap.size w w' := by
  subst hn
  exact (same_any A D c d l l w h6 hA hD).mono fun _ _ ⟨h1, h2⟩ => ⟨by rw [h1, decide_eq_true rfl], h2⟩
/-- Behind a call, with or without a slice that was built ahead of it. -/
theorem below_alloc {a b : World} {o : Obj} (h : Below (a.alloc o).heap.size (a.alloc o) b) : Below a.heap.size a b := below_via h

set_option maxRecDepth 100000 in
set_option maxHeartbeats 8000000 in
theorem works_any (w : World) (ht : TabW w) : Calls Tryd.prog 22 #[] w fun e w' => e = .returned (.bool true) ∧ Below w.heap.size w w' := by
  go_enter Tryd.func22, Tryd.ntmps22
  have hz0 := Below.refl w.heap.size w
  have ht0 := ht
  go_wp2_with fail
  refine (sheet_any 2 3 2 1 _).mono ?_
  rintro e w1 ⟨rfl, hb1⟩
  have ht1 := ht0.below hb1
  have hz1 := hz0.trans (hb1.mono hz0.size)
  clear ht0 hz0 hb1
  go_wp2_with fail
  refine (w_fill _ ht1).mono ?_
  rintro e w2 ⟨AF, cF, rfl, hF, hb2⟩
  have ht2 := ht1.below hb2
  have hz2 := hz1.trans (hb2.mono hz1.size)
  clear ht1 hz1 hb2
  go_wp2_with fail
  refine (sheet_any 4 5 2 1 _).mono ?_
  rintro e w3 ⟨rfl, hb3⟩
  have ht3 := ht2.below hb3
  have hz3 := hz2.trans (hb3.mono hz2.size)
  replace hF := hF.up hb3
  clear ht2 hz2 hb3
  go_wp2_with fail
  refine (w_cnt _ ht3).mono ?_
  rintro e w4 ⟨rfl, hb4⟩
  have ht4 := ht3.below hb4
  have hz4 := hz3.trans (hb4.mono hz3.size)
  replace hF := hF.up hb4
  clear ht3 hz3 hb4
  go_wp2_with fail
  refine (sheet_any 2 3 2 1 _).mono ?_
  rintro e w5 ⟨rfl, hb5⟩
  have ht5 := ht4.below hb5
  have hz5 := hz4.trans (hb5.mono hz4.size)
  replace hF := hF.up hb5
  clear ht4 hz4 hb5
  go_wp2_with fail
  refine (w_up _ ht5).mono ?_
  rintro e w6 ⟨rfl, hb6⟩
  have ht6 := ht5.below hb6
  have hz6 := hz5.trans (hb6.mono hz5.size)
  replace hF := hF.up hb6
  clear ht5 hz5 hb6
  go_wp2_with fail
  refine (sheet_any 5 6 3 2 _).mono ?_
  rintro e w7 ⟨rfl, hb7⟩
  have ht7 := ht6.below hb7
  have hz7 := hz6.trans (hb7.mono hz6.size)
  replace hF := hF.up hb7
  clear ht6 hz6 hb7
  go_wp2_with fail
  refine (w_can _ ht7).mono ?_
  rintro e w8 ⟨rfl, hb8⟩
  have ht8 := ht7.below hb8
  have hz8 := hz7.trans (hb8.mono hz7.size)
  replace hF := hF.up hb8
  clear ht7 hz7 hb8
  go_wp2_with fail
  refine (sheet_any 6 6 4 1 _).mono ?_
  rintro e w9 ⟨rfl, hb9⟩
  have ht9 := ht8.below hb9
  have hz9 := hz8.trans (hb9.mono hz8.size)
  replace hF := hF.up hb9
  clear ht8 hz8 hb9
  go_wp2_with fail
  refine (w_not _ ht9).mono ?_
  rintro e w10 ⟨rfl, hb10⟩
  have ht10 := ht9.below hb10
  have hz10 := hz9.trans (hb10.mono hz9.size)
  replace hF := hF.up hb10
  clear ht9 hz9 hb10
  go_wp2_with fail
  refine (sheet_any 3 6 2 2 _).mono ?_
  rintro e w11 ⟨rfl, hb11⟩
  have ht11 := ht10.below hb11
  have hz11 := hz10.trans (hb11.mono hz10.size)
  replace hF := hF.up hb11
  clear ht10 hz10 hb11
  go_wp2_with fail
  refine (w_aga _ ht11).mono ?_
  rintro e w12 ⟨rfl, hb12⟩
  have ht12 := ht11.below hb12
  have hz12 := hz11.trans (hb12.mono hz11.size)
  replace hF := hF.up hb12
  clear ht11 hz11 hb12
  go_wp2_with fail
  refine (sheet_any 6 6 4 1 _).mono ?_
  rintro e w13 ⟨rfl, hb13⟩
  have ht13 := ht12.below hb13
  have hz13 := hz12.trans (hb13.mono hz12.size)
  replace hF := hF.up hb13
  clear ht12 hz12 hb13
  go_wp2_with fail
  refine (w_col _).mono ?_
  rintro e w14 ⟨AC, cC, rfl, hC, hb14⟩
  have ht14 := ht13.below hb14
  have hz14 := hz13.trans (hb14.mono hz13.size)
  replace hF := hF.up hb14
  clear ht13 hz13 hb14
  go_wp2_with fail
  refine (sheet_any 2 3 2 1 _).mono ?_
  rintro e w15 ⟨rfl, hb15⟩
  have ht15 := ht14.below hb15
  have hz15 := hz14.trans (hb15.mono hz14.size)
  replace hF := hF.up hb15
  replace hC := hC.up hb15
  clear ht14 hz14 hb15
  go_wp2_with fail
  refine (w_cards9 _ _ _ (ints_new _ [0, 0, 0, 0, 1, 1, 1, 1, 1] _ rfl)).mono ?_
  rintro e w16 ⟨AX, cX, rfl, hX, hb16⟩
  replace hb16 := below_alloc hb16
  have ht16 := ht15.below hb16
  have hz16 := hz15.trans (hb16.mono hz15.size)
  replace hF := hF.up hb16
  replace hC := hC.up hb16
  clear ht15 hz15 hb16
  go_wp2_with fail
  refine (w_cuts _ _ _ hX).mono ?_
  rintro e w17 ⟨AR, cR, AS, cS, rfl, hS, hb17⟩
  have ht17 := ht16.below hb17
  have hz17 := hz16.trans (hb17.mono hz16.size)
  replace hF := hF.up hb17
  replace hC := hC.up hb17
  replace hX := hX.up hb17
  clear ht16 hz16 hb17
  clear hX
  go_wp2_with fail
  refine (sheet_any 2 3 2 1 _).mono ?_
  rintro e w18 ⟨rfl, hb18⟩
  have ht18 := ht17.below hb18
  have hz18 := hz17.trans (hb18.mono hz17.size)
  replace hF := hF.up hb18
  replace hC := hC.up hb18
  replace hS := hS.up hb18
  clear ht17 hz17 hb18
  go_wp2_with fail
  refine (w_cards9 _ _ _ (ints_new _ [0, 0, 0, 0, 1, 1, 1, 1, 1] _ rfl)).mono ?_
  rintro e w19 ⟨AY, cY, rfl, hY, hb19⟩
  replace hb19 := below_alloc hb19
  have ht19 := ht18.below hb19
  have hz19 := hz18.trans (hb19.mono hz18.size)
  replace hF := hF.up hb19
  replace hC := hC.up hb19
  replace hS := hS.up hb19
  clear ht18 hz18 hb19
  go_wp2_with fail
  refine (w_str _ _ _ hY).mono ?_
  rintro e w20 ⟨rfl, hb20⟩
  have ht20 := ht19.below hb20
  have hz20 := hz19.trans (hb20.mono hz19.size)
  replace hF := hF.up hb20
  replace hC := hC.up hb20
  replace hS := hS.up hb20
  replace hY := hY.up hb20
  clear ht19 hz19 hb20
  clear hY
  go_wp2_with fail
  refine (sheet_any 2 3 2 1 _).mono ?_
  rintro e w21 ⟨rfl, hb21⟩
  have ht21 := ht20.below hb21
  have hz21 := hz20.trans (hb21.mono hz20.size)
  replace hF := hF.up hb21
  replace hC := hC.up hb21
  replace hS := hS.up hb21
  clear ht20 hz20 hb21
  go_wp2_with fail
  refine (w_cards9 _ _ _ (ints_new _ [0, 0, 0, 0, 1, 1, 1, 1, 1] _ rfl)).mono ?_
  rintro e w22 ⟨AZ, cZ, rfl, hZ, hb22⟩
  replace hb22 := below_alloc hb22
  have ht22 := ht21.below hb22
  have hz22 := hz21.trans (hb22.mono hz21.size)
  replace hF := hF.up hb22
  replace hC := hC.up hb22
  replace hS := hS.up hb22
  clear ht21 hz21 hb22
  go_wp2_with fail
  refine (w_rou _ _ _ hZ).mono ?_
  rintro e w23 ⟨rfl, hb23⟩
  have ht23 := ht22.below hb23
  have hz23 := hz22.trans (hb23.mono hz22.size)
  replace hF := hF.up hb23
  replace hC := hC.up hb23
  replace hS := hS.up hb23
  replace hZ := hZ.up hb23
  clear ht22 hz22 hb23
  clear hZ
  go_wp2_with fail
  refine (sheet_any 1 2 1 2 _).mono ?_
  rintro e w24 ⟨rfl, hb24⟩
  have ht24 := ht23.below hb24
  have hz24 := hz23.trans (hb24.mono hz23.size)
  replace hF := hF.up hb24
  replace hC := hC.up hb24
  replace hS := hS.up hb24
  clear ht23 hz23 hb24
  go_wp2_with fail
  refine (w_sol _ ht24).mono ?_
  rintro e w25 ⟨AV, cV, rfl, hV, hb25⟩
  have ht25 := ht24.below hb25
  have hz25 := hz24.trans (hb25.mono hz24.size)
  replace hF := hF.up hb25
  replace hC := hC.up hb25
  replace hS := hS.up hb25
  clear ht24 hz24 hb25
  go_wp2_with fail
  refine (sheet_any 2 2 2 1 _).mono ?_
  rintro e w26 ⟨rfl, hb26⟩
  have ht26 := ht25.below hb26
  have hz26 := hz25.trans (hb26.mono hz25.size)
  replace hF := hF.up hb26
  replace hC := hC.up hb26
  replace hS := hS.up hb26
  replace hV := hV.up hb26
  clear ht25 hz25 hb26
  go_wp2_with fail
  refine (w_sol2 _ ht26).mono ?_
  rintro e w27 ⟨AW, cW, rfl, hb27⟩
  have ht27 := ht26.below hb27
  have hz27 := hz26.trans (hb27.mono hz26.size)
  replace hF := hF.up hb27
  replace hC := hC.up hb27
  replace hS := hS.up hb27
  replace hV := hV.up hb27
  clear ht26 hz26 hb27
  go_wp2_with fail
  refine (sheet_any 5 6 3 2 _).mono ?_
  rintro e w28 ⟨rfl, hb28⟩
  have ht28 := ht27.below hb28
  have hz28 := hz27.trans (hb28.mono hz27.size)
  replace hF := hF.up hb28
  replace hC := hC.up hb28
  replace hS := hS.up hb28
  replace hV := hV.up hb28
  clear ht27 hz27 hb28
  go_wp2_with fail
  refine (w_aga2 _ ht28).mono ?_
  rintro e w29 ⟨rfl, hb29⟩
  have ht29 := ht28.below hb29
  have hz29 := hz28.trans (hb29.mono hz28.size)
  replace hF := hF.up hb29
  replace hC := hC.up hb29
  replace hS := hS.up hb29
  replace hV := hV.up hb29
  clear ht28 hz28 hb29
  go_wp2_with fail
  refine (w_cardsF _ _ _ (ints_new _ [0, 0, 0, 0, 1, 0, 0, 2, 0] _ rfl)).mono ?_
  rintro e w30 ⟨AG, cG, rfl, hG, hb30⟩
  replace hb30 := below_alloc hb30
  have ht30 := ht29.below hb30
  have hz30 := hz29.trans (hb30.mono hz29.size)
  replace hF := hF.up hb30
  replace hC := hC.up hb30
  replace hS := hS.up hb30
  replace hV := hV.up hb30
  clear ht29 hz29 hb30
  go_wp2_with fail
  refine (w_given _ _ _ _ [0, 0, 0, 0, 1, 0, 0, 2, 0] rfl (by decide) hG).mono ?_
  rintro e w31 ⟨AH, cH, rfl, hH, hb31⟩
  have ht31 := ht30.below hb31
  have hz31 := hz30.trans (hb31.mono hz30.size)
  replace hF := hF.up hb31
  replace hC := hC.up hb31
  replace hS := hS.up hb31
  replace hV := hV.up hb31
  replace hG := hG.up hb31
  clear ht30 hz30 hb31
  clear hG
  go_wp2_with fail
  refine (w_alike _ _ _ _ _ _ [0, 0, 0, 0, 1, 0, 0, 2, 0] rfl (by decide) hF hH).mono ?_
  rintro e w32 ⟨rfl, hb32⟩
  have ht32 := ht31.below hb32
  have hz32 := hz31.trans (hb32.mono hz31.size)
  replace hF := hF.up hb32
  replace hC := hC.up hb32
  replace hS := hS.up hb32
  replace hV := hV.up hb32
  replace hH := hH.up hb32
  clear ht31 hz31 hb32
  clear hF hH
  go_wp2_with fail
  refine (w_same _ _ _ _ _ _ [9, 10, 9, 8] rfl (by decide) (hC.up (below_new _ _)) (ints_new _ [9, 10, 9, 8] _ rfl)).mono ?_
  rintro e w33 ⟨rfl, hb33⟩
  replace hb33 := below_alloc hb33
  have ht33 := ht32.below hb33
  have hz33 := hz32.trans (hb33.mono hz32.size)
  replace hC := hC.up hb33
  replace hS := hS.up hb33
  replace hV := hV.up hb33
  clear ht32 hz32 hb33
  clear hC
  go_wp2_with fail
  refine (w_same _ _ _ _ _ _ [1] rfl (by decide) (hS.up (below_new _ _)) (ints_new _ [1] _ rfl)).mono ?_
  rintro e w34 ⟨rfl, hb34⟩
  replace hb34 := below_alloc hb34
  have ht34 := ht33.below hb34
  have hz34 := hz33.trans (hb34.mono hz33.size)
  replace hS := hS.up hb34
  replace hV := hV.up hb34
  clear ht33 hz33 hb34
  clear hS
  go_wp2_with fail
  refine (w_cards1 _ _ _ (ints_new _ [0, 0, 0] _ rfl)).mono ?_
  rintro e w35 ⟨AI, cI, rfl, hI, hb35⟩
  replace hb35 := below_alloc hb35
  have ht35 := ht34.below hb35
  have hz35 := hz34.trans (hb35.mono hz34.size)
  replace hV := hV.up hb35
  clear ht34 hz34 hb35
  go_wp2_with fail
  refine (w_given _ _ _ _ [0, 0, 0] rfl (by decide) hI).mono ?_
  rintro e w36 ⟨AJ, cJ, rfl, hJ, hb36⟩
  have ht36 := ht35.below hb36
  have hz36 := hz35.trans (hb36.mono hz35.size)
  replace hV := hV.up hb36
  replace hI := hI.up hb36
  clear ht35 hz35 hb36
  clear hI
  go_wp2_with fail
  refine (w_alike _ _ _ _ _ _ [0, 0, 0] rfl (by decide) hV hJ).mono ?_
  rintro e w37 ⟨rfl, hb37⟩
  have ht37 := ht36.below hb37
  have hz37 := hz36.trans (hb37.mono hz36.size)
  replace hV := hV.up hb37
  replace hJ := hJ.up hb37
  clear ht36 hz36 hb37
  clear hV hJ
  go_wp2_with fail
  refine (sheet_any 2 2 2 1 _).mono ?_
  rintro e w38 ⟨rfl, hb38⟩
  have ht38 := ht37.below hb38
  have hz38 := hz37.trans (hb38.mono hz37.size)
  clear ht37 hz37 hb38
  go_wp2_with fail
  refine (w_cards1 _ _ _ (ints_new _ [0, 0, 0] _ rfl)).mono ?_
  rintro e w39 ⟨AK, cK, rfl, hK, hb39⟩
  replace hb39 := below_alloc hb39
  have ht39 := ht38.below hb39
  have hz39 := hz38.trans (hb39.mono hz38.size)
  clear ht38 hz38 hb39
  go_wp2_with fail
  refine (w_ver2 _ _ _ hK).mono ?_
  rintro e w40 ⟨rfl, hb40⟩
  have ht40 := ht39.below hb40
  have hz40 := hz39.trans (hb40.mono hz39.size)
  replace hK := hK.up hb40
  clear ht39 hz39 hb40
  clear hK
  go_wp2_with fail
  refine (sheet_any 2 2 2 1 _).mono ?_
  rintro e w41 ⟨rfl, hb41⟩
  have ht41 := ht40.below hb41
  have hz41 := hz40.trans (hb41.mono hz40.size)
  clear ht40 hz40 hb41
  go_wp2_with fail
  refine (w_cards2 _ _ _ (ints_new _ [0, 0, 0, 0, 1, 0] _ rfl)).mono ?_
  rintro e w42 ⟨AM, cM, rfl, hM, hb42⟩
  replace hb42 := below_alloc hb42
  have ht42 := ht41.below hb42
  have hz42 := hz41.trans (hb42.mono hz41.size)
  clear ht41 hz41 hb42
  go_wp2_with fail
  refine (w_ver3 _ _ _ hM).mono ?_
  rintro e w43 ⟨rfl, hb43⟩
  have ht43 := ht42.below hb43
  have hz43 := hz42.trans (hb43.mono hz42.size)
  replace hM := hM.up hb43
  clear ht42 hz42 hb43
  clear hM
  go_wp2
  go_ret
  exact ⟨rfl, hz43⟩
end Go.Proofs.YtlollcabnfncpaaDoor
