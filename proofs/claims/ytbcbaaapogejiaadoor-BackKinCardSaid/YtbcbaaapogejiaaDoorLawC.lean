/-
  The walk of the statement on backs that are alike: it answers true.
-/
import Derived.Test.YtbcbaaapogejiaaDoorRefK
import Derived.Test.YtbcbaaapogejiaaDoorLawA
namespace Go.Proofs.YtbcbaaapogejiaaDoor
open Go.RowKit

theorem insU_len (x : List Int) : ∀ L : List (List Int), (insU x L).length ≤ L.length + 1
  | [] => by simp [insU]
  | y :: L => by
    have := insU_len x L
    unfold insU
    split
    · simp
    · split
      · simp
      · simp only [List.length_cons]; omega
theorem kinU_len : ∀ L : List (List Int), (kinU L).length ≤ L.length
  | [] => Nat.le_refl _
  | x :: L => by have := kinU_len L; have := insU_len x (kinU L); rw [kinU, List.length_cons]; omega
theorem kin_len (p : Pr) (b : List Int) : (p.kin b).length ≤ p.T.length := by have := kinU_len (p.imgs b); rw [imgs_size] at this; exact this

theorem first_both (R C K : Int) (T x : List Int) (hn : T.length < 1000) (hx : x.length < 1000) : ∃ (l : List Int) (E : Int), l.length < 1000 ∧
    (∀ A c X xc W, MovW W → IntsAt W W.heap.size A T → IntsAt W W.heap.size X x → Calls Tryd.prog 30 #[.agg #[.int .i64 R, .int .i64 C, .int .i64 K, .slice A T.length c], .slice X x.length xc] W (RetIE W l E)) ∧
    (∀ A c X xc W, IntsAt W W.heap.size A T → IntsAt W W.heap.size X x → Calls Tryd.prog 31 #[.agg #[.int .i64 R, .int .i64 C, .int .i64 K, .slice A T.length c], .slice X x.length xc] W (RetIE W l E)) := by
  by_cases h : valE R C K T x = 0
  · obtain ⟨p, hp, rfl, rfl, rfl, rfl, hb⟩ := ok_of_val h
    refine ⟨minF x (p.imgs x), 0, by have := minF_len (p := p) hb.1 p.T.length; rw [List.take_of_length_le (by rw [imgs_size]; omega)] at this; omega, fun A c X xc W hm hA hX => ?_, fun A c X xc W hA hX => ?_⟩
    · rw [intsN_len]; exact firstF_ok p hp X A xc c x W hm hA hX hb _ (kin_first hp hb.1)
    · rw [intsN_len]; exact refFirst_ok p hp A X c xc x W hA hX hb
  · exact ⟨[], valE R C K T x, by simp, fun A c X xc W hm hA hX => first_err R C K A X c xc T x W hm hA hX hn hx h, fun A c X xc W hA hX => firstR_err R C K A X c xc T x W hA hX hn hx h⟩
theorem kin_both (R C K : Int) (T x : List Int) (hn : T.length < 1000) (hx : x.length < 1000) : ∃ (l : List (List Int)) (E : Int), l.length < 1000 ∧ (∀ y ∈ l, y.length < 1000000) ∧
    (∀ A c X xc W, MovW W → IntsAt W W.heap.size A T → IntsAt W W.heap.size X x → Calls Tryd.prog 32 #[.agg #[.int .i64 R, .int .i64 C, .int .i64 K, .slice A T.length c], .slice X x.length xc] W (RetLE W l E)) ∧
    (∀ A c X xc W, IntsAt W W.heap.size A T → IntsAt W W.heap.size X x → Calls Tryd.prog 33 #[.agg #[.int .i64 R, .int .i64 C, .int .i64 K, .slice A T.length c], .slice X x.length xc] W (RetLE W l E)) := by
  by_cases h : valE R C K T x = 0
  · obtain ⟨p, hp, rfl, rfl, rfl, rfl, hb⟩ := ok_of_val h
    refine ⟨p.kin x, 0, by have := kin_len p x; have := hp.len; omega, fun y hy => by rw [imgs_len p ((kinU_mem _ _).1 hy)]; have := hp.n16; omega, fun A c X xc W hm hA hX => ?_, fun A c X xc W hA hX => ?_⟩
    · rw [intsN_len]; exact kinF_ok p hp X A xc c x W hm hA hX hb
    · rw [intsN_len]; exact refKin_ok p hp A X c xc x W hA hX hb
  · exact ⟨[], valE R C K T x, by simp, fun y hy => by simp at hy, fun A c X xc W hm hA hX => kin_err R C K A X c xc T x W hm hA hX hn hx h, fun A c X xc W hA hX => kinR_err R C K A X c xc T x W hA hX hn hx h⟩

set_option maxRecDepth 100000 in
set_option maxHeartbeats 4000000 in
theorem lawKin_any (w : World) (R C K : Int) (A : Option Addr) (c : Nat) (T : List Int) (X : Option Addr) (xc : Nat) (x : List Int) (hT : IntsAt w w.heap.size A T) (hX : IntsAt w w.heap.size X x) (hm : MovW w) :
    Calls Tryd.prog 5 #[.agg #[.int .i64 R, .int .i64 C, .int .i64 K, .slice A T.length c], .slice X x.length xc] w fun e w' => e = .returned (.bool true) ∧ Below w.heap.size w w' := by
  have hb0 := below_new w (.cells #[.int .i64 R, .int .i64 C, .int .i64 K, .slice A T.length c] 24)
  have hc1 := own_cells4 w (.int .i64 R) (.int .i64 C) (.int .i64 K) (.slice A T.length c) 24
  have hz1 : w.heap.size < (w.alloc (.cells #[.int .i64 R, .int .i64 C, .int .i64 K, .slice A T.length c] 24)).heap.size := by simp
  replace hm := hm.below hb0
  replace hT := hT.up hb0
  replace hX := hX.up hb0
  by_cases hl : 30 < T.length ∨ 60 < x.length ∨ 60 < 0
  · have HL := Lib.hid (fun W => large_yes R C K A X none T.length c x.length xc 0 0 W hl)
    clear hl hT hX hc1
    go_enter Tryd.func5, Tryd.ntmps5
    go_wp2_with (first
      | (go_at_call 17; refine (HL.out _).mono ?_; rintro e w2 ⟨rfl, hb2⟩; have hm2 := hm.below hb2)
      | (go_at_call 18; refine (works_any _ hm2).mono ?_; rintro e w3 ⟨rfl, hb3⟩))
    go_ret
    exact ⟨rfl, hb0.trans ((hb2.trans (hb3.mono hb2.size)).mono hb0.size)⟩
  have HL := Lib.hid (fun W => large_no R C K A X none T.length c x.length xc 0 0 W hl)
  obtain ⟨l1, E1, hl1, A1, B1⟩ := first_both R C K T x (by omega) (by omega)
  obtain ⟨l3, E3, hl3, hk3, A3, B3⟩ := kin_both R C K T x (by omega) (by omega)
  clear hl
  go_enter Tryd.func5, Tryd.ntmps5
  go_upto_region 4 with (go_at_call 17; refine (HL.out _).mono ?_; rintro e w2 ⟨rfl, hb2⟩; obtain ⟨q1, q2, q3⟩ := bcell hb2; simp only [World.size_alloc] at q1 q2 q3)
  have bn := below_new w2 (.cells #[.int .i64 R, .int .i64 C, .int .i64 K, .slice A T.length c] 32)
  have hc2 := own_cells4 w2 (.int .i64 R) (.int .i64 C) (.int .i64 K) (.slice A T.length c) 32
  have hz2 : w.heap.size < w2.heap.size := Nat.lt_of_lt_of_le hz1 hb2.size
  have hzw : w2.heap.size < (w2.alloc (.cells #[.int .i64 R, .int .i64 C, .int .i64 K, .slice A T.length c] 32)).heap.size := by simp
  generalize w.alloc (.cells #[.int .i64 R, .int .i64 C, .int .i64 K, .slice A T.length c] 24) = w1 at *
  have hbz : Below w1.heap.size w1 (w2.alloc (.cells #[.int .i64 R, .int .i64 C, .int .i64 K, .slice A T.length c] 32)) := hb2.trans (bn.mono hb2.size)
  replace hm := hm.below hbz
  replace hT := hT.up hbz
  replace hX := hX.up hbz
  have HB0 := Lib.hid (hb0.trans (hbz.mono hb0.size))
  generalize hW0 : w2.alloc (.cells #[.int .i64 R, .int .i64 C, .int .i64 K, .slice A T.length c] 32) = w0 at *
  have hz20 : w.heap.size < w0.heap.size := by omega
  have HK := Lib.hid (fun (W : World) (h : Below w0.heap.size w0 W) => show (W.cell? ⟨w.heap.size, 0, none⟩ = some (.int .i64 R) ∧ W.cell? ⟨w.heap.size, 1, none⟩ = some (.int .i64 C) ∧ W.cell? ⟨w.heap.size, 2, none⟩ = some (.int .i64 K) ∧ W.cell? ⟨w.heap.size, 3, none⟩ = some (.slice A T.length c)) ∧ W.cell? ⟨w2.heap.size, 0, none⟩ = some (.int .i64 R) ∧ W.cell? ⟨w2.heap.size, 1, none⟩ = some (.int .i64 C) ∧ W.cell? ⟨w2.heap.size, 2, none⟩ = some (.int .i64 K) ∧ W.cell? ⟨w2.heap.size, 3, none⟩ = some (.slice A T.length c) from
    ⟨⟨(h.cell (p := ⟨w.heap.size, 0, none⟩) hz20).trans ((hbz.cell (p := ⟨w.heap.size, 0, none⟩) hz1).trans hc1.1), (h.cell (p := ⟨w.heap.size, 1, none⟩) hz20).trans ((hbz.cell (p := ⟨w.heap.size, 1, none⟩) hz1).trans hc1.2.1), (h.cell (p := ⟨w.heap.size, 2, none⟩) hz20).trans ((hbz.cell (p := ⟨w.heap.size, 2, none⟩) hz1).trans hc1.2.2.1), (h.cell (p := ⟨w.heap.size, 3, none⟩) hz20).trans ((hbz.cell (p := ⟨w.heap.size, 3, none⟩) hz1).trans hc1.2.2.2)⟩,
      (h.cell (p := ⟨w2.heap.size, 0, none⟩) hzw).trans hc2.1, (h.cell (p := ⟨w2.heap.size, 1, none⟩) hzw).trans hc2.2.1, (h.cell (p := ⟨w2.heap.size, 2, none⟩) hzw).trans hc2.2.2.1, (h.cell (p := ⟨w2.heap.size, 3, none⟩) hzw).trans hc2.2.2.2⟩)
  generalize w2.heap.size = g2 at *
  clear hc1 hc2 q1 q2 q3 bn hb2 hbz hb0 hz1 hz2 hzw hz20 hW0 HL
  have hz0 := Below.refl w0.heap.size w0
  obtain ⟨⟨c10, c11, c12, c13⟩, c20, c21, c22, c23⟩ := HK.out _ hz0
  go_wp2_with fail
  refine (A1 _ _ _ _ _ hm hT hX).mono ?_
  rintro e w1 ⟨D1, d1, rfl, hD1, hb1⟩
  have hz1 := hz0.trans (hb1.mono hz0.size)
  replace hm := hm.below hb1
  replace hT := hT.up hb1
  replace hX := hX.up hb1
  clear c10 c11 c12 c13 c20 c21 c22 c23 hb1 hz0
  obtain ⟨⟨c10, c11, c12, c13⟩, c20, c21, c22, c23⟩ := HK.out _ hz1
  go_wp2_with fail
  refine (B1 _ _ _ _ _ hT hX).mono ?_
  rintro e w2 ⟨D2, d2, rfl, hD2, hb2⟩
  have hz2 := hz1.trans (hb2.mono hz1.size)
  replace hm := hm.below hb2
  replace hT := hT.up hb2
  replace hX := hX.up hb2
  replace hD1 := hD1.up hb2
  clear c10 c11 c12 c13 c20 c21 c22 c23 hb2 hz1
  obtain ⟨⟨c10, c11, c12, c13⟩, c20, c21, c22, c23⟩ := HK.out _ hz2
  go_wp2_with fail
  refine (A3 _ _ _ _ _ hm hT hX).mono ?_
  rintro e w3 ⟨D3, d3, rfl, hD3, hb3⟩
  have hz3 := hz2.trans (hb3.mono hz2.size)
  replace hm := hm.below hb3
  replace hT := hT.up hb3
  replace hX := hX.up hb3
  replace hD1 := hD1.up hb3
  replace hD2 := hD2.up hb3
  clear c10 c11 c12 c13 c20 c21 c22 c23 hb3 hz2
  obtain ⟨⟨c10, c11, c12, c13⟩, c20, c21, c22, c23⟩ := HK.out _ hz3
  go_wp2_with fail
  refine (B3 _ _ _ _ _ hT hX).mono ?_
  rintro e w4 ⟨D4, d4, rfl, hD4, hb4⟩
  have hz4 := hz3.trans (hb4.mono hz3.size)
  replace hm := hm.below hb4
  replace hT := hT.up hb4
  replace hX := hX.up hb4
  replace hD1 := hD1.up hb4
  replace hD2 := hD2.up hb4
  replace hD3 := hD3.up hb4
  clear c10 c11 c12 c13 c20 c21 c22 c23 hb4 hz3
  obtain ⟨⟨c10, c11, c12, c13⟩, c20, c21, c22, c23⟩ := HK.out _ hz4
  go_wp2_with fail
  refine (x_same _ _ _ _ _ l1 _ hD1 hD2 rfl hl1).mono ?_
  rintro e w5 ⟨rfl, hb5⟩
  have hz5 := hz4.trans (hb5.mono hz4.size)
  replace hm := hm.below hb5
  replace hT := hT.up hb5
  replace hX := hX.up hb5
  replace hD1 := hD1.up hb5
  replace hD2 := hD2.up hb5
  replace hD3 := hD3.up hb5
  replace hD4 := hD4.up hb5
  clear c10 c11 c12 c13 c20 c21 c22 c23 hb5 hz4
  obtain ⟨⟨c10, c11, c12, c13⟩, c20, c21, c22, c23⟩ := HK.out _ hz5
  clear hD1
  clear hD2
  go_wp2_with fail
  refine (x_alikeL _ _ _ _ _ l3 _ hD3 hD4 rfl hl3 hk3).mono ?_
  rintro e w6 ⟨rfl, hb6⟩
  have hz6 := hz5.trans (hb6.mono hz5.size)
  replace hm := hm.below hb6
  replace hT := hT.up hb6
  replace hX := hX.up hb6
  replace hD3 := hD3.up hb6
  replace hD4 := hD4.up hb6
  clear c10 c11 c12 c13 c20 c21 c22 c23 hb6 hz5
  obtain ⟨⟨c10, c11, c12, c13⟩, c20, c21, c22, c23⟩ := HK.out _ hz6
  clear hD3
  clear hD4
  go_wp2_with fail
  refine (works_any _ hm).mono ?_
  rintro e w7 ⟨rfl, hb7⟩
  have hz7 := hz6.trans (hb7.mono hz6.size)
  replace hm := hm.below hb7
  replace hT := hT.up hb7
  replace hX := hX.up hb7
  clear c10 c11 c12 c13 c20 c21 c22 c23 hb7 hz6
  obtain ⟨⟨c10, c11, c12, c13⟩, c20, c21, c22, c23⟩ := HK.out _ hz7
  go_wp2
  go_ret
  exact ⟨rfl, HB0.out.trans (hz7.mono HB0.out.size)⟩
end Go.Proofs.YtbcbaaapogejiaaDoor
