/-
  The examples that each statement asks: 'works' answers true.
-/
import Derived.Test.YtbcbaaapogejiaaDoorWkA
import Derived.Test.YtbcbaaapogejiaaDoorExpD
import Derived.Test.YtbcbaaapogejiaaDoorCelE
namespace Go.Proofs.YtbcbaaapogejiaaDoor
open Go.RowKit


theorem pressP_any (w : World) : Calls Tryd.prog 65 #[] w fun e w' => ∃ A, e = .returned (.agg #[.int .i64 2, .int .i64 2, .int .i64 2, .slice A 4 4]) ∧ IntsAt w' w'.heap.size A [0, 1, 2, 3] ∧ Below w.heap.size w w' := by
  go_enter Tryd.func65, Tryd.ntmps65
  go_wp2_with (go_at_call 52; refine (list_any _ _ _ _).mono ?_; rintro e w1 ⟨rfl, rfl⟩)
  refine bodyPost_ret (v := .agg #[.int .i64 2, .int .i64 2, .int .i64 2, .slice (some ⟨w.heap.size + 1, 0, none⟩) 4 4]) (by simp [results, Tryd.results65, go_sem]) rfl ⟨_, rfl, ?_, ?_⟩
  · have h := (ints_new (w.alloc (.cells #[.int .i64 2, .int .i64 2, .int .i64 2, .slice (some ⟨w.heap.size + 1, 0, none⟩) 4 4] 24)) [0, 1, 2, 3] #[.int .i64 0, .int .i64 1, .int .i64 2, .int .i64 3] rfl)
    simpa using h
  · simpa using (((Below.refl w.heap.size w).alloc (Nat.le_refl _) (.cells #[.int .i64 2, .int .i64 2, .int .i64 2, .slice (some ⟨w.heap.size + 1, 0, none⟩) 4 4] 24)).alloc (by simp) (.cells #[.int .i64 0, .int .i64 1, .int .i64 2, .int .i64 3] 3))
theorem pressQ_any (w : World) : Calls Tryd.prog 53 #[] w fun e w' => ∃ A, e = .returned (.agg #[.int .i64 2, .int .i64 3, .int .i64 2, .slice A 2 2]) ∧ IntsAt w' w'.heap.size A [0, 2] ∧ Below w.heap.size w w' := by
  go_enter Tryd.func53, Tryd.ntmps53
  go_wp2_with (go_at_call 52; refine (list_any _ _ _ _).mono ?_; rintro e w1 ⟨rfl, rfl⟩)
  refine bodyPost_ret (v := .agg #[.int .i64 2, .int .i64 3, .int .i64 2, .slice (some ⟨w.heap.size + 1, 0, none⟩) 2 2]) (by simp [results, Tryd.results53, go_sem]) rfl ⟨_, rfl, ?_, ?_⟩
  · have h := (ints_new (w.alloc (.cells #[.int .i64 2, .int .i64 3, .int .i64 2, .slice (some ⟨w.heap.size + 1, 0, none⟩) 2 2] 24)) [0, 2] #[.int .i64 0, .int .i64 2] rfl)
    simpa using h
  · simpa using (((Below.refl w.heap.size w).alloc (Nat.le_refl _) (.cells #[.int .i64 2, .int .i64 3, .int .i64 2, .slice (some ⟨w.heap.size + 1, 0, none⟩) 2 2] 24)).alloc (by simp) (.cells #[.int .i64 0, .int .i64 2] 3))

def pP : Pr := ⟨2, 2, 2, [0, 1, 2, 3]⟩
def pQ : Pr := ⟨2, 3, 2, [0, 2]⟩
theorem okP : pP.Ok := ⟨by decide, by decide, by decide, by decide, by decide, by decide, by decide, by decide, by decide, by decide, by decide +kernel⟩
theorem okQ : pQ.Ok := ⟨by decide, by decide, by decide, by decide, by decide, by decide, by decide, by decide, by decide, by decide, by decide +kernel⟩
theorem backP {b : List Int} (h : (b.length == 4 && b.all fun x => decide (0 ≤ x ∧ x < 2)) = true) : BackOk pP b := by
  rw [Bool.and_eq_true, beq_iff_eq, List.all_eq_true] at h
  exact ⟨h.1, fun x hx => by have := h.2 x hx; rw [decide_eq_true_eq] at this; exact this⟩

theorem x_p14 (w : World) (hm : MovW w) : Calls Tryd.prog 19 #[.int .i64 1, .int .i64 4] w fun e w' => e = .returned (.tuple #[.int .i64 6, .int .i64 0]) ∧ Below w.heap.size w w' := by
  have h := productF_ok 1 4 w hm (by decide) (by decide)
  rw [show prodN 1 4 = 6 by decide +kernel] at h
  exact h
theorem x_p41 (w : World) (hm : MovW w) : Calls Tryd.prog 19 #[.int .i64 4, .int .i64 1] w fun e w' => e = .returned (.tuple #[.int .i64 7, .int .i64 0]) ∧ Below w.heap.size w w' := by
  have h := productF_ok 4 1 w hm (by decide) (by decide)
  rw [show prodN 4 1 = 7 by decide +kernel] at h
  exact h
theorem x_cntP (A : Option Addr) (w : World) (hm : MovW w) (hA : IntsAt w w.heap.size A [0, 1, 2, 3]) : Calls Tryd.prog 37 #[.agg #[.int .i64 2, .int .i64 2, .int .i64 2, .slice A 4 4]] w fun e w' => e = .returned (.tuple #[.int .i64 6, .int .i64 0]) ∧ Below w.heap.size w w' := by
  have h := countF_ok pP okP A 4 w hm hA
  rw [show pP.count = 6 by decide +kernel] at h
  exact h
theorem x_cntQ (A : Option Addr) (w : World) (hm : MovW w) (hA : IntsAt w w.heap.size A [0, 2]) : Calls Tryd.prog 37 #[.agg #[.int .i64 2, .int .i64 3, .int .i64 2, .slice A 2 2]] w fun e w' => e = .returned (.tuple #[.int .i64 36, .int .i64 0]) ∧ Below w.heap.size w w' := by
  have h := countF_ok pQ okQ A 2 w hm hA
  rw [show pQ.count = 36 by decide +kernel] at h
  exact h
theorem x_with (A D : Option Addr) (w : World) (hm : MovW w) (hA : IntsAt w w.heap.size A [0, 1, 2, 3]) (hD : IntsAt w w.heap.size D [2, 2]) : Calls Tryd.prog 39 #[.agg #[.int .i64 2, .int .i64 2, .int .i64 2, .slice A 4 4], .slice D 2 2] w fun e w' => e = .returned (.tuple #[.int .i64 2, .int .i64 0]) ∧ Below w.heap.size w w' := by
  have h := withF_ok pP okP D A 2 4 [2, 2] w hm hA hD rfl (by decide) (by decide) rfl
  rw [show pP.withC [2, 2] = 2 by decide +kernel] at h
  exact h
theorem x_stay (A : Option Addr) (w : World) (hm : MovW w) (hA : IntsAt w w.heap.size A [0, 2]) : Calls Tryd.prog 35 #[.agg #[.int .i64 2, .int .i64 3, .int .i64 2, .slice A 2 2], .int .i64 2] w fun e w' => e = .returned (.tuple #[.int .i64 8, .int .i64 0]) ∧ Below w.heap.size w w' := by
  have h := stayingF_ok pQ okQ A 2 1 2 w hm hA rfl
  rw [show pQ.K ^ (loopsN (srcs pQ.R pQ.C (mv 2))).all = 8 by decide +kernel] at h
  exact h
theorem x_turn (A D : Option Addr) (w : World) (hm : MovW w) (hA : IntsAt w w.heap.size A [0, 1, 2, 3]) (hD : IntsAt w w.heap.size D [0, 1, 0, 0]) : Calls Tryd.prog 23 #[.agg #[.int .i64 2, .int .i64 2, .int .i64 2, .slice A 4 4], .slice D 4 4, .int .i64 1] w (fun e w' => ∃ E c, e = .returned (.tuple #[.slice E 4 c, .int .i64 0]) ∧ IntsAt w' w'.heap.size E [0, 0, 0, 1] ∧ Below w.heap.size w w') := by
  have h := turnF_ok pP okP D A 4 4 [0, 1, 0, 0] 1 1 w hm hA hD (backP (by decide)) rfl
  rw [show tdL (srcs pP.R pP.C (mv 1)) [0, 1, 0, 0] = [0, 0, 0, 1] by decide +kernel] at h
  exact h
theorem x_kin (A D : Option Addr) (w : World) (hm : MovW w) (hA : IntsAt w w.heap.size A [0, 1, 2, 3]) (hD : IntsAt w w.heap.size D [0, 1, 1, 0]) : Calls Tryd.prog 32 #[.agg #[.int .i64 2, .int .i64 2, .int .i64 2, .slice A 4 4], .slice D 4 4] w (fun e w' => ∃ E c, e = .returned (.tuple #[.slice E 2 c, .int .i64 0]) ∧ ListsAt w' w'.heap.size E [[0, 1, 1, 0], [1, 0, 0, 1]] ∧ Below w.heap.size w w') := by
  have h := kinF_ok pP okP D A 4 4 [0, 1, 1, 0] w hm hA hD (backP (by decide))
  rw [show pP.kin [0, 1, 1, 0] = [[0, 1, 1, 0], [1, 0, 0, 1]] by decide +kernel] at h
  exact h
theorem x_first (A D : Option Addr) (w : World) (hm : MovW w) (hA : IntsAt w w.heap.size A [0, 1, 2, 3]) (hD : IntsAt w w.heap.size D [1, 0, 1, 0]) : Calls Tryd.prog 30 #[.agg #[.int .i64 2, .int .i64 2, .int .i64 2, .slice A 4 4], .slice D 4 4] w (fun e w' => ∃ E c, e = .returned (.tuple #[.slice E 4 c, .int .i64 0]) ∧ IntsAt w' w'.heap.size E [0, 0, 1, 1] ∧ Below w.heap.size w w') :=
  firstF_ok pP okP D A 4 4 [1, 0, 1, 0] w hm hA hD (backP (by decide)) [0, 0, 1, 1] (by decide +kernel)
theorem x_stays (A D : Option Addr) (w : World) (hm : MovW w) (hA : IntsAt w w.heap.size A [0, 1, 2, 3]) (hD : IntsAt w w.heap.size D [0, 1, 1, 0]) : Calls Tryd.prog 27 #[.agg #[.int .i64 2, .int .i64 2, .int .i64 2, .slice A 4 4], .slice D 4 4] w (fun e w' => ∃ E c, e = .returned (.tuple #[.slice E 2 c, .int .i64 0]) ∧ IntsAt w' w'.heap.size E [0, 2] ∧ Below w.heap.size w w') := by
  have h := staysF_ok pP okP D A 4 4 [0, 1, 1, 0] w hm hA hD (backP (by decide))
  rw [show intsN (pP.makes [0, 1, 1, 0] [0, 1, 1, 0]) = [0, 2] by decide +kernel] at h
  exact h
theorem x_alike (A D E : Option Addr) (w : World) (hm : MovW w) (hA : IntsAt w w.heap.size A [0, 1, 2, 3]) (hD : IntsAt w w.heap.size D [0, 1, 0, 0]) (hE : IntsAt w w.heap.size E [0, 0, 1, 0]) : Calls Tryd.prog 25 #[.agg #[.int .i64 2, .int .i64 2, .int .i64 2, .slice A 4 4], .slice D 4 4, .slice E 4 4] w (fun e w' => e = .returned (.tuple #[.int .i64 2, .int .i64 0]) ∧ Below w.heap.size w w') :=
  alikeF_ok pP okP D E A 4 4 4 [0, 1, 0, 0] [0, 0, 1, 0] 2 w hm hA hD hE (backP (by decide)) (backP (by decide)) (by decide +kernel)
theorem x_cells (A D : Option Addr) (w : World) (hm : MovW w) (hA : IntsAt w w.heap.size A [0, 1, 2, 3]) (hD : IntsAt w w.heap.size D [0, 1, 0, 0]) : Calls Tryd.prog 43 #[.agg #[.int .i64 2, .int .i64 2, .int .i64 2, .slice A 4 4], .slice D 4 4] w (fun e w' => ∃ E c, e = .returned (.tuple #[.slice E 1 c, .int .i64 0]) ∧ IntsAt w' w'.heap.size E [1] ∧ Below w.heap.size w w') :=
  cellsF_ok pP okP D A 4 4 [0, 1, 0, 0] [1] 1 w hm hA hD (backP (by decide)) (by decide +kernel) (fun s hs => by
    obtain rfl : s = 0 := by omega
    decide +kernel) (by decide +kernel)
theorem x_shows (A D E : Option Addr) (w : World) (hm : MovW w) (hA : IntsAt w w.heap.size A [0, 1, 2, 3]) (hD : IntsAt w w.heap.size D [0, 1, 0, 0]) (hE : IntsAt w w.heap.size E [0, 2]) : Calls Tryd.prog 45 #[.agg #[.int .i64 2, .int .i64 2, .int .i64 2, .slice A 4 4], .slice D 4 4, .slice E 2 2] w (fun e w' => e = .returned (.int .i64 14) ∧ Below w.heap.size w w') := by
  have h := showsF_ok pP okP D E A 4 2 4 [0, 1, 0, 0] [0, 2] w hm hA hD hE (backP (by decide)) (by decide) (by decide) (by decide)
  rw [show shE pP.n (shown pP.from [0, 1, 0, 0]) (unionN (shown pP.from [0, 1, 0, 0])) (-1) [0, 2] = 14 by decide +kernel] at h
  exact h
theorem x_same (A D : Option Addr) (c d n : Nat) (l : List Int) (w : World) (hA : IntsAt w w.heap.size A l) (hD : IntsAt w w.heap.size D l) (hl : l.length = n) (hn : n < 1000) : Calls Tryd.prog 29 #[.slice A n c, .slice D n d] w fun e w' => e = .returned (.bool true) ∧ Below w.heap.size w w' := by
  subst hl
  have h := same_any A D c d l l w (by omega) w.heap.size hA hD
  rw [decide_eq_true rfl] at h
  exact h.mono fun e w' ⟨h1, q, h2⟩ => ⟨h1, by rw [h2]; exact below_drewN (Below.refl _ _) q⟩
theorem x_alikeL (A D : Option Addr) (c d n : Nat) (L : List (List Int)) (w : World) (hA : ListsAt w w.heap.size A L) (hD : ListsAt w w.heap.size D L) (hl : L.length = n) (hn : n < 1000) (hll : ∀ x ∈ L, x.length < 1000000) : Calls Tryd.prog 34 #[.slice A n c, .slice D n d] w fun e w' => e = .returned (.bool true) ∧ Below w.heap.size w w' := by
  subst hl
  exact (alikeL_yes A D c d L w hn hll w.heap.size hA hD).mono fun e w' ⟨h1, q, h2⟩ => ⟨h1, by rw [h2]; exact below_drewN (Below.refl _ _) q⟩

set_option maxRecDepth 100000 in
set_option maxHeartbeats 8000000 in
theorem works_any (w : World) (hm : MovW w) : Calls Tryd.prog 18 #[] w fun e w' => e = .returned (.bool true) ∧ Below w.heap.size w w' := by
  go_enter Tryd.func18, Tryd.ntmps18
  have hz0 := Below.refl w.heap.size w
  have ht0 := hm
  go_wp2_with fail
  refine (x_p14 _ ht0).mono ?_
  rintro e w1 ⟨rfl, hb1⟩
  have ht1 := ht0.below hb1
  have hz1 := hz0.trans (hb1.mono hz0.size)
  clear ht0 hz0 hb1
  go_wp2_with fail
  refine (x_p41 _ ht1).mono ?_
  rintro e w2 ⟨rfl, hb2⟩
  have ht2 := ht1.below hb2
  have hz2 := hz1.trans (hb2.mono hz1.size)
  clear ht1 hz1 hb2
  go_wp2_with fail
  refine (pressP_any _).mono ?_
  rintro e w3 ⟨AP, rfl, hP, hb3⟩
  have ht3 := ht2.below hb3
  have hz3 := hz2.trans (hb3.mono hz2.size)
  clear ht2 hz2 hb3
  go_wp2_with fail
  refine (x_cntP _ _ ht3 hP).mono ?_
  rintro e w4 ⟨rfl, hb4⟩
  have ht4 := ht3.below hb4
  have hz4 := hz3.trans (hb4.mono hz3.size)
  replace hP := hP.up hb4
  clear ht3 hz3 hb4
  clear hP
  go_wp2_with fail
  refine (pressP_any _).mono ?_
  rintro e w5 ⟨AP, rfl, hP, hb5⟩
  have ht5 := ht4.below hb5
  have hz5 := hz4.trans (hb5.mono hz4.size)
  clear ht4 hz4 hb5
  go_wp2_with fail
  refine (list_any _ _ _ _).mono ?_
  rintro e w6 ⟨rfl, hw6⟩
  have hb6 : Below w5.heap.size w5 w6 := by rw [hw6]; exact below_new _ _
  have hL : IntsAt w6 w6.heap.size (some ⟨w5.heap.size, 0, none⟩) [2, 2] := by rw [hw6]; exact ints_new w5 [2, 2] #[.int .i64 2, .int .i64 2] rfl
  clear hw6
  have ht6 := ht5.below hb6
  have hz6 := hz5.trans (hb6.mono hz5.size)
  replace hP := hP.up hb6
  clear ht5 hz5 hb6
  go_wp2_with fail
  refine (x_with _ _ _ ht6 hP hL).mono ?_
  rintro e w7 ⟨rfl, hb7⟩
  have ht7 := ht6.below hb7
  have hz7 := hz6.trans (hb7.mono hz6.size)
  replace hP := hP.up hb7
  replace hL := hL.up hb7
  clear ht6 hz6 hb7
  clear hP
  clear hL
  go_wp2_with fail
  refine (pressQ_any _).mono ?_
  rintro e w8 ⟨AQ, rfl, hQ, hb8⟩
  have ht8 := ht7.below hb8
  have hz8 := hz7.trans (hb8.mono hz7.size)
  clear ht7 hz7 hb8
  go_wp2_with fail
  refine (x_stay _ _ ht8 hQ).mono ?_
  rintro e w9 ⟨rfl, hb9⟩
  have ht9 := ht8.below hb9
  have hz9 := hz8.trans (hb9.mono hz8.size)
  replace hQ := hQ.up hb9
  clear ht8 hz8 hb9
  clear hQ
  go_wp2_with fail
  refine (pressP_any _).mono ?_
  rintro e w10 ⟨AP, rfl, hP, hb10⟩
  have ht10 := ht9.below hb10
  have hz10 := hz9.trans (hb10.mono hz9.size)
  clear ht9 hz9 hb10
  go_wp2_with fail
  refine (list_any _ _ _ _).mono ?_
  rintro e w11 ⟨rfl, hw11⟩
  have hb11 : Below w10.heap.size w10 w11 := by rw [hw11]; exact below_new _ _
  have hL : IntsAt w11 w11.heap.size (some ⟨w10.heap.size, 0, none⟩) [0, 1, 0, 0] := by rw [hw11]; exact ints_new w10 [0, 1, 0, 0] #[.int .i64 0, .int .i64 1, .int .i64 0, .int .i64 0] rfl
  clear hw11
  have ht11 := ht10.below hb11
  have hz11 := hz10.trans (hb11.mono hz10.size)
  replace hP := hP.up hb11
  clear ht10 hz10 hb11
  go_wp2_with fail
  refine (x_turn _ _ _ ht11 hP hL).mono ?_
  rintro e w12 ⟨At, ct, rfl, hXt, hb12⟩
  have ht12 := ht11.below hb12
  have hz12 := hz11.trans (hb12.mono hz11.size)
  replace hP := hP.up hb12
  replace hL := hL.up hb12
  clear ht11 hz11 hb12
  clear hP
  clear hL
  go_wp2_with fail
  refine (pressP_any _).mono ?_
  rintro e w13 ⟨AP, rfl, hP, hb13⟩
  have ht13 := ht12.below hb13
  have hz13 := hz12.trans (hb13.mono hz12.size)
  replace hXt := hXt.up hb13
  clear ht12 hz12 hb13
  go_wp2_with fail
  refine (list_any _ _ _ _).mono ?_
  rintro e w14 ⟨rfl, hw14⟩
  have hb14 : Below w13.heap.size w13 w14 := by rw [hw14]; exact below_new _ _
  have hL : IntsAt w14 w14.heap.size (some ⟨w13.heap.size, 0, none⟩) [0, 1, 1, 0] := by rw [hw14]; exact ints_new w13 [0, 1, 1, 0] #[.int .i64 0, .int .i64 1, .int .i64 1, .int .i64 0] rfl
  clear hw14
  have ht14 := ht13.below hb14
  have hz14 := hz13.trans (hb14.mono hz13.size)
  replace hXt := hXt.up hb14
  replace hP := hP.up hb14
  clear ht13 hz13 hb14
  go_wp2_with fail
  refine (x_kin _ _ _ ht14 hP hL).mono ?_
  rintro e w15 ⟨Ak, ck, rfl, hXk, hb15⟩
  have ht15 := ht14.below hb15
  have hz15 := hz14.trans (hb15.mono hz14.size)
  replace hXt := hXt.up hb15
  replace hP := hP.up hb15
  replace hL := hL.up hb15
  clear ht14 hz14 hb15
  clear hP
  clear hL
  go_wp2_with fail
  refine (pressP_any _).mono ?_
  rintro e w16 ⟨AP, rfl, hP, hb16⟩
  have ht16 := ht15.below hb16
  have hz16 := hz15.trans (hb16.mono hz15.size)
  replace hXt := hXt.up hb16
  replace hXk := hXk.up hb16
  clear ht15 hz15 hb16
  go_wp2_with fail
  refine (list_any _ _ _ _).mono ?_
  rintro e w17 ⟨rfl, hw17⟩
  have hb17 : Below w16.heap.size w16 w17 := by rw [hw17]; exact below_new _ _
  have hL : IntsAt w17 w17.heap.size (some ⟨w16.heap.size, 0, none⟩) [1, 0, 1, 0] := by rw [hw17]; exact ints_new w16 [1, 0, 1, 0] #[.int .i64 1, .int .i64 0, .int .i64 1, .int .i64 0] rfl
  clear hw17
  have ht17 := ht16.below hb17
  have hz17 := hz16.trans (hb17.mono hz16.size)
  replace hXt := hXt.up hb17
  replace hXk := hXk.up hb17
  replace hP := hP.up hb17
  clear ht16 hz16 hb17
  go_wp2_with fail
  refine (x_first _ _ _ ht17 hP hL).mono ?_
  rintro e w18 ⟨Ac, cc, rfl, hXc, hb18⟩
  have ht18 := ht17.below hb18
  have hz18 := hz17.trans (hb18.mono hz17.size)
  replace hXt := hXt.up hb18
  replace hXk := hXk.up hb18
  replace hP := hP.up hb18
  replace hL := hL.up hb18
  clear ht17 hz17 hb18
  clear hP
  clear hL
  go_wp2_with fail
  refine (pressP_any _).mono ?_
  rintro e w19 ⟨AP, rfl, hP, hb19⟩
  have ht19 := ht18.below hb19
  have hz19 := hz18.trans (hb19.mono hz18.size)
  replace hXt := hXt.up hb19
  replace hXk := hXk.up hb19
  replace hXc := hXc.up hb19
  clear ht18 hz18 hb19
  go_wp2_with fail
  refine (list_any _ _ _ _).mono ?_
  rintro e w20 ⟨rfl, hw20⟩
  have hb20 : Below w19.heap.size w19 w20 := by rw [hw20]; exact below_new _ _
  have hL : IntsAt w20 w20.heap.size (some ⟨w19.heap.size, 0, none⟩) [0, 1, 1, 0] := by rw [hw20]; exact ints_new w19 [0, 1, 1, 0] #[.int .i64 0, .int .i64 1, .int .i64 1, .int .i64 0] rfl
  clear hw20
  have ht20 := ht19.below hb20
  have hz20 := hz19.trans (hb20.mono hz19.size)
  replace hXt := hXt.up hb20
  replace hXk := hXk.up hb20
  replace hXc := hXc.up hb20
  replace hP := hP.up hb20
  clear ht19 hz19 hb20
  go_wp2_with fail
  refine (x_stays _ _ _ ht20 hP hL).mono ?_
  rintro e w21 ⟨Ad, cd, rfl, hXd, hb21⟩
  have ht21 := ht20.below hb21
  have hz21 := hz20.trans (hb21.mono hz20.size)
  replace hXt := hXt.up hb21
  replace hXk := hXk.up hb21
  replace hXc := hXc.up hb21
  replace hP := hP.up hb21
  replace hL := hL.up hb21
  clear ht20 hz20 hb21
  clear hP
  clear hL
  go_wp2_with fail
  refine (pressP_any _).mono ?_
  rintro e w22 ⟨AP, rfl, hP, hb22⟩
  have ht22 := ht21.below hb22
  have hz22 := hz21.trans (hb22.mono hz21.size)
  replace hXt := hXt.up hb22
  replace hXk := hXk.up hb22
  replace hXc := hXc.up hb22
  replace hXd := hXd.up hb22
  clear ht21 hz21 hb22
  go_wp2_with fail
  refine (list_any _ _ _ _).mono ?_
  rintro e w23 ⟨rfl, hw23⟩
  have hb23 : Below w22.heap.size w22 w23 := by rw [hw23]; exact below_new _ _
  have hL : IntsAt w23 w23.heap.size (some ⟨w22.heap.size, 0, none⟩) [0, 1, 0, 0] := by rw [hw23]; exact ints_new w22 [0, 1, 0, 0] #[.int .i64 0, .int .i64 1, .int .i64 0, .int .i64 0] rfl
  clear hw23
  have ht23 := ht22.below hb23
  have hz23 := hz22.trans (hb23.mono hz22.size)
  replace hXt := hXt.up hb23
  replace hXk := hXk.up hb23
  replace hXc := hXc.up hb23
  replace hXd := hXd.up hb23
  replace hP := hP.up hb23
  clear ht22 hz22 hb23
  go_wp2_with fail
  refine (list_any _ _ _ _).mono ?_
  rintro e w24 ⟨rfl, hw24⟩
  have hb24 : Below w23.heap.size w23 w24 := by rw [hw24]; exact below_new _ _
  have hM : IntsAt w24 w24.heap.size (some ⟨w23.heap.size, 0, none⟩) [0, 0, 1, 0] := by rw [hw24]; exact ints_new w23 [0, 0, 1, 0] #[.int .i64 0, .int .i64 0, .int .i64 1, .int .i64 0] rfl
  clear hw24
  have ht24 := ht23.below hb24
  have hz24 := hz23.trans (hb24.mono hz23.size)
  replace hXt := hXt.up hb24
  replace hXk := hXk.up hb24
  replace hXc := hXc.up hb24
  replace hXd := hXd.up hb24
  replace hP := hP.up hb24
  replace hL := hL.up hb24
  clear ht23 hz23 hb24
  go_wp2_with fail
  refine (x_alike _ _ _ _ ht24 hP hL hM).mono ?_
  rintro e w25 ⟨rfl, hb25⟩
  have ht25 := ht24.below hb25
  have hz25 := hz24.trans (hb25.mono hz24.size)
  replace hXt := hXt.up hb25
  replace hXk := hXk.up hb25
  replace hXc := hXc.up hb25
  replace hXd := hXd.up hb25
  replace hP := hP.up hb25
  replace hL := hL.up hb25
  replace hM := hM.up hb25
  clear ht24 hz24 hb25
  clear hP
  clear hL
  clear hM
  go_wp2_with fail
  refine (pressP_any _).mono ?_
  rintro e w26 ⟨AP, rfl, hP, hb26⟩
  have ht26 := ht25.below hb26
  have hz26 := hz25.trans (hb26.mono hz25.size)
  replace hXt := hXt.up hb26
  replace hXk := hXk.up hb26
  replace hXc := hXc.up hb26
  replace hXd := hXd.up hb26
  clear ht25 hz25 hb26
  go_wp2_with fail
  refine (list_any _ _ _ _).mono ?_
  rintro e w27 ⟨rfl, hw27⟩
  have hb27 : Below w26.heap.size w26 w27 := by rw [hw27]; exact below_new _ _
  have hL : IntsAt w27 w27.heap.size (some ⟨w26.heap.size, 0, none⟩) [0, 1, 0, 0] := by rw [hw27]; exact ints_new w26 [0, 1, 0, 0] #[.int .i64 0, .int .i64 1, .int .i64 0, .int .i64 0] rfl
  clear hw27
  have ht27 := ht26.below hb27
  have hz27 := hz26.trans (hb27.mono hz26.size)
  replace hXt := hXt.up hb27
  replace hXk := hXk.up hb27
  replace hXc := hXc.up hb27
  replace hXd := hXd.up hb27
  replace hP := hP.up hb27
  clear ht26 hz26 hb27
  go_wp2_with fail
  refine (x_cells _ _ _ ht27 hP hL).mono ?_
  rintro e w28 ⟨Ay, cy, rfl, hXy, hb28⟩
  have ht28 := ht27.below hb28
  have hz28 := hz27.trans (hb28.mono hz27.size)
  replace hXt := hXt.up hb28
  replace hXk := hXk.up hb28
  replace hXc := hXc.up hb28
  replace hXd := hXd.up hb28
  replace hP := hP.up hb28
  replace hL := hL.up hb28
  clear ht27 hz27 hb28
  clear hP
  clear hL
  go_wp2_with fail
  refine (pressQ_any _).mono ?_
  rintro e w29 ⟨AQ, rfl, hQ, hb29⟩
  have ht29 := ht28.below hb29
  have hz29 := hz28.trans (hb29.mono hz28.size)
  replace hXt := hXt.up hb29
  replace hXk := hXk.up hb29
  replace hXc := hXc.up hb29
  replace hXd := hXd.up hb29
  replace hXy := hXy.up hb29
  clear ht28 hz28 hb29
  go_wp2_with fail
  refine (x_cntQ _ _ ht29 hQ).mono ?_
  rintro e w30 ⟨rfl, hb30⟩
  have ht30 := ht29.below hb30
  have hz30 := hz29.trans (hb30.mono hz29.size)
  replace hXt := hXt.up hb30
  replace hXk := hXk.up hb30
  replace hXc := hXc.up hb30
  replace hXd := hXd.up hb30
  replace hXy := hXy.up hb30
  replace hQ := hQ.up hb30
  clear ht29 hz29 hb30
  clear hQ
  go_wp2_with fail
  refine (list_any _ _ _ _).mono ?_
  rintro e w31 ⟨rfl, hw31⟩
  have hb31 : Below w30.heap.size w30 w31 := by rw [hw31]; exact below_new _ _
  have hL : IntsAt w31 w31.heap.size (some ⟨w30.heap.size, 0, none⟩) [0, 0, 0, 1] := by rw [hw31]; exact ints_new w30 [0, 0, 0, 1] #[.int .i64 0, .int .i64 0, .int .i64 0, .int .i64 1] rfl
  clear hw31
  have ht31 := ht30.below hb31
  have hz31 := hz30.trans (hb31.mono hz30.size)
  replace hXt := hXt.up hb31
  replace hXk := hXk.up hb31
  replace hXc := hXc.up hb31
  replace hXd := hXd.up hb31
  replace hXy := hXy.up hb31
  clear ht30 hz30 hb31
  go_wp2_with fail
  refine (x_same _ _ _ _ 4 [0, 0, 0, 1] _ hXt hL rfl (by decide)).mono ?_
  rintro e w32 ⟨rfl, hb32⟩
  have ht32 := ht31.below hb32
  have hz32 := hz31.trans (hb32.mono hz31.size)
  replace hXt := hXt.up hb32
  replace hXk := hXk.up hb32
  replace hXc := hXc.up hb32
  replace hXd := hXd.up hb32
  replace hXy := hXy.up hb32
  replace hL := hL.up hb32
  clear ht31 hz31 hb32
  clear hXt
  clear hL
  go_wp2_with fail
  refine (list_any _ _ _ _).mono ?_
  rintro e w33 ⟨rfl, hw33⟩
  have hb33 : Below w32.heap.size w32 w33 := by rw [hw33]; exact below_new _ _
  have hL : IntsAt w33 w33.heap.size (some ⟨w32.heap.size, 0, none⟩) [0, 1, 1, 0] := by rw [hw33]; exact ints_new w32 [0, 1, 1, 0] #[.int .i64 0, .int .i64 1, .int .i64 1, .int .i64 0] rfl
  clear hw33
  have ht33 := ht32.below hb33
  have hz33 := hz32.trans (hb33.mono hz32.size)
  replace hXk := hXk.up hb33
  replace hXc := hXc.up hb33
  replace hXd := hXd.up hb33
  replace hXy := hXy.up hb33
  clear ht32 hz32 hb33
  go_wp2_with fail
  refine (list_any _ _ _ _).mono ?_
  rintro e w34 ⟨rfl, hw34⟩
  have hb34 : Below w33.heap.size w33 w34 := by rw [hw34]; exact below_new _ _
  have hM : IntsAt w34 w34.heap.size (some ⟨w33.heap.size, 0, none⟩) [1, 0, 0, 1] := by rw [hw34]; exact ints_new w33 [1, 0, 0, 1] #[.int .i64 1, .int .i64 0, .int .i64 0, .int .i64 1] rfl
  clear hw34
  have ht34 := ht33.below hb34
  have hz34 := hz33.trans (hb34.mono hz33.size)
  replace hXk := hXk.up hb34
  replace hXc := hXc.up hb34
  replace hXd := hXd.up hb34
  replace hXy := hXy.up hb34
  replace hL := hL.up hb34
  clear ht33 hz33 hb34
  go_wp2_with fail
  refine (lists_any _ _ _ _).mono ?_
  rintro e w35 ⟨rfl, hw35⟩
  have hb35 : Below w34.heap.size w34 w35 := by rw [hw35]; exact below_new _ _
  have hLL : ListsAt w35 w35.heap.size (some ⟨w34.heap.size, 0, none⟩) [[0, 1, 1, 0], [1, 0, 0, 1]] := by rw [hw35]; exact lists_two hL hM
  clear hw35
  have ht35 := ht34.below hb35
  have hz35 := hz34.trans (hb35.mono hz34.size)
  replace hXk := hXk.up hb35
  replace hXc := hXc.up hb35
  replace hXd := hXd.up hb35
  replace hXy := hXy.up hb35
  replace hL := hL.up hb35
  replace hM := hM.up hb35
  clear ht34 hz34 hb35
  go_wp2_with fail
  refine (x_alikeL _ _ _ _ 2 [[0, 1, 1, 0], [1, 0, 0, 1]] _ hXk hLL rfl (by decide) (by decide)).mono ?_
  rintro e w36 ⟨rfl, hb36⟩
  have ht36 := ht35.below hb36
  have hz36 := hz35.trans (hb36.mono hz35.size)
  replace hXk := hXk.up hb36
  replace hXc := hXc.up hb36
  replace hXd := hXd.up hb36
  replace hXy := hXy.up hb36
  replace hL := hL.up hb36
  replace hM := hM.up hb36
  replace hLL := hLL.up hb36
  clear ht35 hz35 hb36
  clear hXk
  clear hLL
  clear hL
  clear hM
  go_wp2_with fail
  refine (list_any _ _ _ _).mono ?_
  rintro e w37 ⟨rfl, hw37⟩
  have hb37 : Below w36.heap.size w36 w37 := by rw [hw37]; exact below_new _ _
  have hL : IntsAt w37 w37.heap.size (some ⟨w36.heap.size, 0, none⟩) [0, 0, 1, 1] := by rw [hw37]; exact ints_new w36 [0, 0, 1, 1] #[.int .i64 0, .int .i64 0, .int .i64 1, .int .i64 1] rfl
  clear hw37
  have ht37 := ht36.below hb37
  have hz37 := hz36.trans (hb37.mono hz36.size)
  replace hXc := hXc.up hb37
  replace hXd := hXd.up hb37
  replace hXy := hXy.up hb37
  clear ht36 hz36 hb37
  go_wp2_with fail
  refine (x_same _ _ _ _ 4 [0, 0, 1, 1] _ hXc hL rfl (by decide)).mono ?_
  rintro e w38 ⟨rfl, hb38⟩
  have ht38 := ht37.below hb38
  have hz38 := hz37.trans (hb38.mono hz37.size)
  replace hXc := hXc.up hb38
  replace hXd := hXd.up hb38
  replace hXy := hXy.up hb38
  replace hL := hL.up hb38
  clear ht37 hz37 hb38
  clear hXc
  clear hL
  go_wp2_with fail
  refine (list_any _ _ _ _).mono ?_
  rintro e w39 ⟨rfl, hw39⟩
  have hb39 : Below w38.heap.size w38 w39 := by rw [hw39]; exact below_new _ _
  have hL : IntsAt w39 w39.heap.size (some ⟨w38.heap.size, 0, none⟩) [0, 2] := by rw [hw39]; exact ints_new w38 [0, 2] #[.int .i64 0, .int .i64 2] rfl
  clear hw39
  have ht39 := ht38.below hb39
  have hz39 := hz38.trans (hb39.mono hz38.size)
  replace hXd := hXd.up hb39
  replace hXy := hXy.up hb39
  clear ht38 hz38 hb39
  go_wp2_with fail
  refine (x_same _ _ _ _ 2 [0, 2] _ hXd hL rfl (by decide)).mono ?_
  rintro e w40 ⟨rfl, hb40⟩
  have ht40 := ht39.below hb40
  have hz40 := hz39.trans (hb40.mono hz39.size)
  replace hXd := hXd.up hb40
  replace hXy := hXy.up hb40
  replace hL := hL.up hb40
  clear ht39 hz39 hb40
  clear hXd
  clear hL
  go_wp2_with fail
  refine (list_any _ _ _ _).mono ?_
  rintro e w41 ⟨rfl, hw41⟩
  have hb41 : Below w40.heap.size w40 w41 := by rw [hw41]; exact below_new _ _
  have hL : IntsAt w41 w41.heap.size (some ⟨w40.heap.size, 0, none⟩) [1] := by rw [hw41]; exact ints_new w40 [1] #[.int .i64 1] rfl
  clear hw41
  have ht41 := ht40.below hb41
  have hz41 := hz40.trans (hb41.mono hz40.size)
  replace hXy := hXy.up hb41
  clear ht40 hz40 hb41
  go_wp2_with fail
  refine (x_same _ _ _ _ 1 [1] _ hXy hL rfl (by decide)).mono ?_
  rintro e w42 ⟨rfl, hb42⟩
  have ht42 := ht41.below hb42
  have hz42 := hz41.trans (hb42.mono hz41.size)
  replace hXy := hXy.up hb42
  replace hL := hL.up hb42
  clear ht41 hz41 hb42
  clear hXy
  clear hL
  go_wp2_with fail
  refine (pressP_any _).mono ?_
  rintro e w43 ⟨AP, rfl, hP, hb43⟩
  have ht43 := ht42.below hb43
  have hz43 := hz42.trans (hb43.mono hz42.size)
  clear ht42 hz42 hb43
  go_wp2_with fail
  refine (list_any _ _ _ _).mono ?_
  rintro e w44 ⟨rfl, hw44⟩
  have hb44 : Below w43.heap.size w43 w44 := by rw [hw44]; exact below_new _ _
  have hL : IntsAt w44 w44.heap.size (some ⟨w43.heap.size, 0, none⟩) [0, 1, 0, 0] := by rw [hw44]; exact ints_new w43 [0, 1, 0, 0] #[.int .i64 0, .int .i64 1, .int .i64 0, .int .i64 0] rfl
  clear hw44
  have ht44 := ht43.below hb44
  have hz44 := hz43.trans (hb44.mono hz43.size)
  replace hP := hP.up hb44
  clear ht43 hz43 hb44
  go_wp2_with fail
  refine (list_any _ _ _ _).mono ?_
  rintro e w45 ⟨rfl, hw45⟩
  have hb45 : Below w44.heap.size w44 w45 := by rw [hw45]; exact below_new _ _
  have hM : IntsAt w45 w45.heap.size (some ⟨w44.heap.size, 0, none⟩) [0, 2] := by rw [hw45]; exact ints_new w44 [0, 2] #[.int .i64 0, .int .i64 2] rfl
  clear hw45
  have ht45 := ht44.below hb45
  have hz45 := hz44.trans (hb45.mono hz44.size)
  replace hP := hP.up hb45
  replace hL := hL.up hb45
  clear ht44 hz44 hb45
  go_wp2_with fail
  refine (x_shows _ _ _ _ ht45 hP hL hM).mono ?_
  rintro e w46 ⟨rfl, hb46⟩
  have ht46 := ht45.below hb46
  have hz46 := hz45.trans (hb46.mono hz45.size)
  replace hP := hP.up hb46
  replace hL := hL.up hb46
  replace hM := hM.up hb46
  clear ht45 hz45 hb46
  clear hP
  clear hL
  clear hM
  go_wp2
  go_ret
  exact ⟨rfl, hz46⟩
end Go.Proofs.YtbcbaaapogejiaaDoor
