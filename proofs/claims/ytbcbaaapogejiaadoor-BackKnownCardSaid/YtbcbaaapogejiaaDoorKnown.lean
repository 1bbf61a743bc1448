/-
  The examples of the chapter: the walk of the statement about them.
-/
import Derived.Test.YtbcbaaapogejiaaDoorWorks
import Derived.Test.YtbcbaaapogejiaaDoorAllA
namespace Go.Proofs.YtbcbaaapogejiaaDoor
open Go.RowKit

def pF : Pr := ⟨3, 3, 2, [0, 1, 2, 3, 4, 5, 6, 7]⟩
def pG : Pr := ⟨4, 4, 2, [0]⟩
theorem okF : pF.Ok := ⟨by decide, by decide, by decide, by decide, by decide, by decide, by decide, by decide, by decide, by decide, by decide +kernel⟩
theorem okG : pG.Ok := ⟨by decide, by decide, by decide, by decide, by decide, by decide, by decide, by decide, by decide, by decide, by decide +kernel⟩
theorem backQ {b : List Int} (h : (b.length == 6 && b.all fun x => decide (0 ≤ x ∧ x < 2)) = true) : BackOk pQ b := by
  rw [Bool.and_eq_true, beq_iff_eq, List.all_eq_true] at h
  exact ⟨h.1, fun x hx => by have := h.2 x hx; rw [decide_eq_true_eq] at this; exact this⟩

theorem z_p11 (w : World) (hm : MovW w) : Calls Tryd.prog 19 #[.int .i64 1, .int .i64 1] w fun e w' => e = .returned (.tuple #[.int .i64 2, .int .i64 0]) ∧ Below w.heap.size w w' := by
  have h := productF_ok 1 1 w hm (by decide) (by decide)
  rw [show prodN 1 1 = 2 by decide +kernel] at h
  exact h
theorem z_with (A D : Option Addr) (w : World) (hm : MovW w) (hA : IntsAt w w.heap.size A [0, 2]) (hD : IntsAt w w.heap.size D [3, 3]) : Calls Tryd.prog 39 #[.agg #[.int .i64 2, .int .i64 3, .int .i64 2, .slice A 2 2], .slice D 2 2] w fun e w' => e = .returned (.tuple #[.int .i64 10, .int .i64 0]) ∧ Below w.heap.size w w' := by
  have h := withF_ok pQ okQ D A 2 2 [3, 3] w hm hA hD rfl (by decide) (by decide) rfl
  rw [show pQ.withC [3, 3] = 10 by decide +kernel] at h
  exact h
theorem z_turn (A D : Option Addr) (w : World) (hm : MovW w) (hA : IntsAt w w.heap.size A [0, 2]) (hD : IntsAt w w.heap.size D [0, 0, 1, 0, 1, 1]) : Calls Tryd.prog 23 #[.agg #[.int .i64 2, .int .i64 3, .int .i64 2, .slice A 2 2], .slice D 6 6, .int .i64 2] w (fun e w' => ∃ E c, e = .returned (.tuple #[.slice E 6 c, .int .i64 0]) ∧ IntsAt w' w'.heap.size E [1, 1, 0, 1, 0, 0] ∧ Below w.heap.size w w') := by
  have h := turnF_ok pQ okQ D A 6 2 [0, 0, 1, 0, 1, 1] 1 2 w hm hA hD (backQ (by decide)) rfl
  rw [show tdL (srcs pQ.R pQ.C (mv 2)) [0, 0, 1, 0, 1, 1] = [1, 1, 0, 1, 0, 0] by decide +kernel] at h
  exact h
theorem z_cells (A D : Option Addr) (w : World) (hm : MovW w) (hA : IntsAt w w.heap.size A [0, 2]) (hD : IntsAt w w.heap.size D [1, 0, 0, 0, 0, 1]) : Calls Tryd.prog 43 #[.agg #[.int .i64 2, .int .i64 3, .int .i64 2, .slice A 2 2], .slice D 6 6] w (fun e w' => ∃ E c, e = .returned (.tuple #[.slice E 0 c, .int .i64 0]) ∧ IntsAt w' w'.heap.size E [] ∧ Below w.heap.size w w') :=
  cellsF_ok pQ okQ D A 6 2 [1, 0, 0, 0, 0, 1] [] 0 w hm hA hD (backQ (by decide)) (by decide +kernel) (fun s hs => by omega) (by decide +kernel)
theorem z_cnt (A : Option Addr) (w : World) (hm : MovW w) (hA : IntsAt w w.heap.size A [0, 1, 2, 3, 4, 5, 6, 7]) : Calls Tryd.prog 37 #[.agg #[.int .i64 3, .int .i64 3, .int .i64 2, .slice A 8 8]] w fun e w' => e = .returned (.tuple #[.int .i64 102, .int .i64 0]) ∧ Below w.heap.size w w' := by
  have h := countF_ok pF okF A 8 w hm hA
  rw [show pF.count = 102 by decide +kernel] at h
  exact h
theorem z_all (A : Option Addr) (w : World) (hm : MovW w) (hA : IntsAt w w.heap.size A [0]) : Calls Tryd.prog 41 #[.agg #[.int .i64 4, .int .i64 4, .int .i64 2, .slice A 1 1]] w fun e w' => e = .returned (.tuple #[.slice none 0 0, .int .i64 16]) ∧ Below w.heap.size w w' :=
  all_full pG okG A 1 w hm hA (by decide +kernel)
theorem z_chk (A : Option Addr) (w : World) (hm : MovW w) (hA : IntsAt w w.heap.size A [0, 1]) : Calls Tryd.prog 21 #[.agg #[.int .i64 2, .int .i64 3, .int .i64 2, .slice A 2 2]] w fun e w' => e = .returned (.int .i64 8) ∧ Below w.heap.size w w' := by
  have h := check_any 2 3 2 A 2 [0, 1] w hm hA (by decide)
  rw [show chkE 2 3 2 [0, 1] = 8 by decide +kernel] at h
  exact h
theorem z_chk2 (A : Option Addr) (w : World) (hm : MovW w) (hA : IntsAt w w.heap.size A [0, 1]) : Calls Tryd.prog 21 #[.agg #[.int .i64 2, .int .i64 2, .int .i64 2, .slice A 2 2]] w fun e w' => e = .returned (.int .i64 21) ∧ Below w.heap.size w w' := by
  have h := check_any 2 2 2 A 2 [0, 1] w hm hA (by decide)
  rw [show chkE 2 2 2 [0, 1] = 21 by decide +kernel] at h
  exact h

set_option maxRecDepth 100000 in
set_option maxHeartbeats 8000000 in
theorem known_any (w : World) (hm : MovW w) : Calls Tryd.prog 14 #[] w fun e w' => e = .returned (.bool true) ∧ Below w.heap.size w w' := by
  go_enter Tryd.func14, Tryd.ntmps14
  have hz0 := Below.refl w.heap.size w
  have ht0 := hm
  go_wp2_with fail
  refine (z_p11 _ ht0).mono ?_
  rintro e w1 ⟨rfl, hb1⟩
  have ht1 := ht0.below hb1
  have hz1 := hz0.trans (hb1.mono hz0.size)
  clear ht0 hz0 hb1
  go_wp2_with fail
  refine (pressQ_any _).mono ?_
  rintro e w2 ⟨AQ, rfl, hQ, hb2⟩
  have ht2 := ht1.below hb2
  have hz2 := hz1.trans (hb2.mono hz1.size)
  clear ht1 hz1 hb2
  go_wp2_with fail
  refine (list_any _ _ _ _).mono ?_
  rintro e w3 ⟨rfl, hw3⟩
  have hb3 : Below w2.heap.size w2 w3 := by rw [hw3]; exact below_new _ _
  have hL : IntsAt w3 w3.heap.size (some ⟨w2.heap.size, 0, none⟩) [3, 3] := by rw [hw3]; exact ints_new w2 [3, 3] #[.int .i64 3, .int .i64 3] rfl
  clear hw3
  have ht3 := ht2.below hb3
  have hz3 := hz2.trans (hb3.mono hz2.size)
  replace hQ := hQ.up hb3
  clear ht2 hz2 hb3
  go_wp2_with fail
  refine (z_with _ _ _ ht3 hQ hL).mono ?_
  rintro e w4 ⟨rfl, hb4⟩
  have ht4 := ht3.below hb4
  have hz4 := hz3.trans (hb4.mono hz3.size)
  replace hQ := hQ.up hb4
  replace hL := hL.up hb4
  clear ht3 hz3 hb4
  clear hQ
  clear hL
  go_wp2_with fail
  refine (pressQ_any _).mono ?_
  rintro e w5 ⟨AQ, rfl, hQ, hb5⟩
  have ht5 := ht4.below hb5
  have hz5 := hz4.trans (hb5.mono hz4.size)
  clear ht4 hz4 hb5
  go_wp2_with fail
  refine (list_any _ _ _ _).mono ?_
  rintro e w6 ⟨rfl, hw6⟩
  have hb6 : Below w5.heap.size w5 w6 := by rw [hw6]; exact below_new _ _
  have hL : IntsAt w6 w6.heap.size (some ⟨w5.heap.size, 0, none⟩) [0, 0, 1, 0, 1, 1] := by rw [hw6]; exact ints_new w5 [0, 0, 1, 0, 1, 1] #[.int .i64 0, .int .i64 0, .int .i64 1, .int .i64 0, .int .i64 1, .int .i64 1] rfl
  clear hw6
  have ht6 := ht5.below hb6
  have hz6 := hz5.trans (hb6.mono hz5.size)
  replace hQ := hQ.up hb6
  clear ht5 hz5 hb6
  go_wp2_with fail
  refine (z_turn _ _ _ ht6 hQ hL).mono ?_
  rintro e w7 ⟨At, ct, rfl, hXt, hb7⟩
  have ht7 := ht6.below hb7
  have hz7 := hz6.trans (hb7.mono hz6.size)
  replace hQ := hQ.up hb7
  replace hL := hL.up hb7
  clear ht6 hz6 hb7
  clear hQ
  clear hL
  go_wp2_with fail
  refine (pressQ_any _).mono ?_
  rintro e w8 ⟨AQ, rfl, hQ, hb8⟩
  have ht8 := ht7.below hb8
  have hz8 := hz7.trans (hb8.mono hz7.size)
  replace hXt := hXt.up hb8
  clear ht7 hz7 hb8
  go_wp2_with fail
  refine (list_any _ _ _ _).mono ?_
  rintro e w9 ⟨rfl, hw9⟩
  have hb9 : Below w8.heap.size w8 w9 := by rw [hw9]; exact below_new _ _
  have hL : IntsAt w9 w9.heap.size (some ⟨w8.heap.size, 0, none⟩) [1, 0, 0, 0, 0, 1] := by rw [hw9]; exact ints_new w8 [1, 0, 0, 0, 0, 1] #[.int .i64 1, .int .i64 0, .int .i64 0, .int .i64 0, .int .i64 0, .int .i64 1] rfl
  clear hw9
  have ht9 := ht8.below hb9
  have hz9 := hz8.trans (hb9.mono hz8.size)
  replace hXt := hXt.up hb9
  replace hQ := hQ.up hb9
  clear ht8 hz8 hb9
  go_wp2_with fail
  refine (z_cells _ _ _ ht9 hQ hL).mono ?_
  rintro e w10 ⟨Ay, cy, rfl, _, hb10⟩
  have ht10 := ht9.below hb10
  have hz10 := hz9.trans (hb10.mono hz9.size)
  replace hXt := hXt.up hb10
  replace hQ := hQ.up hb10
  replace hL := hL.up hb10
  clear ht9 hz9 hb10
  clear hQ
  clear hL
  go_wp2_with fail
  refine (list_any _ _ _ _).mono ?_
  rintro e w11 ⟨rfl, hw11⟩
  have hb11 : Below w10.heap.size w10 w11 := by rw [hw11]; exact below_new _ _
  have hL : IntsAt w11 w11.heap.size (some ⟨w10.heap.size, 0, none⟩) [0, 1, 2, 3, 4, 5, 6, 7] := by rw [hw11]; exact ints_new w10 [0, 1, 2, 3, 4, 5, 6, 7] #[.int .i64 0, .int .i64 1, .int .i64 2, .int .i64 3, .int .i64 4, .int .i64 5, .int .i64 6, .int .i64 7] rfl
  clear hw11
  have ht11 := ht10.below hb11
  have hz11 := hz10.trans (hb11.mono hz10.size)
  replace hXt := hXt.up hb11
  clear ht10 hz10 hb11
  go_wp2_with fail
  refine (z_cnt _ _ ht11 hL).mono ?_
  rintro e w12 ⟨rfl, hb12⟩
  have ht12 := ht11.below hb12
  have hz12 := hz11.trans (hb12.mono hz11.size)
  replace hXt := hXt.up hb12
  replace hL := hL.up hb12
  clear ht11 hz11 hb12
  clear hL
  go_wp2_with fail
  refine (list_any _ _ _ _).mono ?_
  rintro e w13 ⟨rfl, hw13⟩
  have hb13 : Below w12.heap.size w12 w13 := by rw [hw13]; exact below_new _ _
  have hL : IntsAt w13 w13.heap.size (some ⟨w12.heap.size, 0, none⟩) [0] := by rw [hw13]; exact ints_new w12 [0] #[.int .i64 0] rfl
  clear hw13
  have ht13 := ht12.below hb13
  have hz13 := hz12.trans (hb13.mono hz12.size)
  replace hXt := hXt.up hb13
  clear ht12 hz12 hb13
  go_wp2_with fail
  refine (z_all _ _ ht13 hL).mono ?_
  rintro e w14 ⟨rfl, hb14⟩
  have ht14 := ht13.below hb14
  have hz14 := hz13.trans (hb14.mono hz13.size)
  replace hXt := hXt.up hb14
  replace hL := hL.up hb14
  clear ht13 hz13 hb14
  clear hL
  go_wp2_with fail
  refine (list_any _ _ _ _).mono ?_
  rintro e w15 ⟨rfl, hw15⟩
  have hb15 : Below w14.heap.size w14 w15 := by rw [hw15]; exact below_new _ _
  have hL : IntsAt w15 w15.heap.size (some ⟨w14.heap.size, 0, none⟩) [1, 1, 0, 1, 0, 0] := by rw [hw15]; exact ints_new w14 [1, 1, 0, 1, 0, 0] #[.int .i64 1, .int .i64 1, .int .i64 0, .int .i64 1, .int .i64 0, .int .i64 0] rfl
  clear hw15
  have ht15 := ht14.below hb15
  have hz15 := hz14.trans (hb15.mono hz14.size)
  replace hXt := hXt.up hb15
  clear ht14 hz14 hb15
  go_wp2_with fail
  refine (x_same _ _ _ _ 6 [1, 1, 0, 1, 0, 0] _ hXt hL rfl (by decide)).mono ?_
  rintro e w16 ⟨rfl, hb16⟩
  have ht16 := ht15.below hb16
  have hz16 := hz15.trans (hb16.mono hz15.size)
  replace hXt := hXt.up hb16
  replace hL := hL.up hb16
  clear ht15 hz15 hb16
  clear hXt
  clear hL
  go_wp2_with fail
  refine (list_any _ _ _ _).mono ?_
  rintro e w17 ⟨rfl, hw17⟩
  have hb17 : Below w16.heap.size w16 w17 := by rw [hw17]; exact below_new _ _
  have hL : IntsAt w17 w17.heap.size (some ⟨w16.heap.size, 0, none⟩) [0, 1] := by rw [hw17]; exact ints_new w16 [0, 1] #[.int .i64 0, .int .i64 1] rfl
  clear hw17
  have ht17 := ht16.below hb17
  have hz17 := hz16.trans (hb17.mono hz16.size)
  clear ht16 hz16 hb17
  go_wp2_with fail
  refine (z_chk _ _ ht17 hL).mono ?_
  rintro e w18 ⟨rfl, hb18⟩
  have ht18 := ht17.below hb18
  have hz18 := hz17.trans (hb18.mono hz17.size)
  replace hL := hL.up hb18
  clear ht17 hz17 hb18
  clear hL
  go_wp2_with fail
  refine (list_any _ _ _ _).mono ?_
  rintro e w19 ⟨rfl, hw19⟩
  have hb19 : Below w18.heap.size w18 w19 := by rw [hw19]; exact below_new _ _
  have hL : IntsAt w19 w19.heap.size (some ⟨w18.heap.size, 0, none⟩) [0, 1] := by rw [hw19]; exact ints_new w18 [0, 1] #[.int .i64 0, .int .i64 1] rfl
  clear hw19
  have ht19 := ht18.below hb19
  have hz19 := hz18.trans (hb19.mono hz18.size)
  clear ht18 hz18 hb19
  go_wp2_with fail
  refine (z_chk2 _ _ ht19 hL).mono ?_
  rintro e w20 ⟨rfl, hb20⟩
  have ht20 := ht19.below hb20
  have hz20 := hz19.trans (hb20.mono hz19.size)
  replace hL := hL.up hb20
  clear ht19 hz19 hb20
  clear hL
  go_wp2_with fail
  refine (works_any _ ht20).mono ?_
  rintro e w21 ⟨rfl, hb21⟩
  have ht21 := ht20.below hb21
  have hz21 := hz20.trans (hb21.mono hz20.size)
  clear ht20 hz20 hb21
  go_wp2
  go_ret
  exact ⟨rfl, hz21⟩
end Go.Proofs.YtbcbaaapogejiaaDoor
