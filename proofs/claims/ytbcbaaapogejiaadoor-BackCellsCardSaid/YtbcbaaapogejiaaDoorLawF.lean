/-
  The walk of the statement on cells: it answers true.
-/
import Derived.Test.YtbcbaaapogejiaaDoorCelK
import Derived.Test.YtbcbaaapogejiaaDoorLawA
namespace Go.Proofs.YtbcbaaapogejiaaDoor
open Go.RowKit

theorem cells_both (R C K : Int) (T x : List Int) (hn : T.length < 1000) (hx : x.length < 1000) : ∃ (l : List Int) (E : Int), l.length < 1000 ∧
    (∀ A c X xc W, MovW W → IntsAt W W.heap.size A T → IntsAt W W.heap.size X x → Calls Tryd.prog 43 #[.agg #[.int .i64 R, .int .i64 C, .int .i64 K, .slice A T.length c], .slice X x.length xc] W (RetIE W l E)) ∧
    (∀ A c X xc W, IntsAt W W.heap.size A T → IntsAt W W.heap.size X x → Calls Tryd.prog 44 #[.agg #[.int .i64 R, .int .i64 C, .int .i64 K, .slice A T.length c], .slice X x.length xc] W (RetIE W l E)) := by
  by_cases h : valE R C K T x = 0
  · obtain ⟨p, hp, rfl, rfl, rfl, rfl, hb⟩ := ok_of_val h
    obtain ⟨sz, r, h1, h2, h3⟩ := least_shows p hb.1
    refine ⟨intsN r, 0, by rw [intsN_len, (lsF_in _ _ _ r (List.mem_of_find?_eq_some h3)).1]; have := hp.n16; omega, fun A c X xc W hm hA hX => ?_, fun A c X xc W hA hX => ?_⟩
    · rw [intsN_len]; exact cellsF_any p hp X A xc c x r sz W hm hA hX hb h1 h2 h3
    · rw [intsN_len]; exact refCells_ok p hp A X c xc x r sz W hA hX hb h1 h2 h3
  · exact ⟨[], valE R C K T x, by simp, fun A c X xc W hm hA hX => cells_err R C K A X c xc T x W hm hA hX hn hx h, fun A c X xc W hA hX => cellsR_err R C K A X c xc T x W hA hX hn hx h⟩
theorem shows_both (R C K : Int) (T x y : List Int) (hn : T.length < 1000) (hx : x.length < 1000) (hy : y.length < 1000) : ∃ v : Int,
    (∀ A c X xc Y yc W, MovW W → IntsAt W W.heap.size A T → IntsAt W W.heap.size X x → IntsAt W W.heap.size Y y → Calls Tryd.prog 45 #[.agg #[.int .i64 R, .int .i64 C, .int .i64 K, .slice A T.length c], .slice X x.length xc, .slice Y y.length yc] W fun e w' => e = .returned (.int .i64 v) ∧ Below W.heap.size W w') ∧
    (∀ A c X xc Y yc W, IntsAt W W.heap.size A T → IntsAt W W.heap.size X x → IntsAt W W.heap.size Y y → Calls Tryd.prog 46 #[.agg #[.int .i64 R, .int .i64 C, .int .i64 K, .slice A T.length c], .slice X x.length xc, .slice Y y.length yc] W fun e w' => e = .returned (.int .i64 v) ∧ Below W.heap.size W w') := by
  by_cases h : valE R C K T x = 0
  · obtain ⟨p, hp, rfl, rfl, rfl, rfl, hb⟩ := ok_of_val h
    refine ⟨showE p x y, fun A c X xc Y yc W hm hA hX hY => ?_, fun A c X xc Y yc W hA hX hY => ?_⟩
    · rw [intsN_len, ← shE_showE hp hb.1]; exact showsF_any p hp X Y A xc yc c x y W hm hA hX hY hb hy
    · rw [intsN_len]; exact refShows_ok p hp A X Y c xc yc x y W hA hX hY hb hy
  · exact ⟨valE R C K T x, fun A c X xc Y yc W hm hA hX _ => shows_err R C K A X c xc T x Y y.length yc W hm hA hX hn hx h, fun A c X xc Y yc W hA hX _ => showsR_err R C K A X c xc T x Y y.length yc W hA hX hn hx h⟩

set_option maxRecDepth 100000 in
set_option maxHeartbeats 4000000 in
theorem lawCells_any (w : World) (R C K : Int) (A : Option Addr) (c : Nat) (T : List Int) (X : Option Addr) (xc : Nat) (x : List Int) (Y : Option Addr) (yc : Nat) (y : List Int) (hT : IntsAt w w.heap.size A T) (hX : IntsAt w w.heap.size X x) (hY : IntsAt w w.heap.size Y y) (hm : MovW w) :
    Calls Tryd.prog 8 #[.agg #[.int .i64 R, .int .i64 C, .int .i64 K, .slice A T.length c], .slice X x.length xc, .slice Y y.length yc] w fun e w' => e = .returned (.bool true) ∧ Below w.heap.size w w' := by
  have hb0 := below_new w (.cells #[.int .i64 R, .int .i64 C, .int .i64 K, .slice A T.length c] 24)
  have hc1 := own_cells4 w (.int .i64 R) (.int .i64 C) (.int .i64 K) (.slice A T.length c) 24
  have hz1 : w.heap.size < (w.alloc (.cells #[.int .i64 R, .int .i64 C, .int .i64 K, .slice A T.length c] 24)).heap.size := by simp
  replace hm := hm.below hb0
  replace hT := hT.up hb0
  replace hX := hX.up hb0
  replace hY := hY.up hb0
  by_cases hl : 30 < T.length ∨ 60 < x.length ∨ 60 < y.length
  · have HL := Lib.hid (fun W => large_yes R C K A X Y T.length c x.length xc y.length yc W hl)
    clear hl hT hX hY hc1
    go_enter Tryd.func8, Tryd.ntmps8
    go_wp2_with (first
      | (go_at_call 17; refine (HL.out _).mono ?_; rintro e w2 ⟨rfl, hb2⟩; have hm2 := hm.below hb2)
      | (go_at_call 18; refine (works_any _ hm2).mono ?_; rintro e w3 ⟨rfl, hb3⟩))
    go_ret
    exact ⟨rfl, hb0.trans ((hb2.trans (hb3.mono hb2.size)).mono hb0.size)⟩
  have HL := Lib.hid (fun W => large_no R C K A X Y T.length c x.length xc y.length yc W hl)
  obtain ⟨l1, E1, hl1, A1, B1⟩ := cells_both R C K T x (by omega) (by omega)
  obtain ⟨v, A2, B2⟩ := shows_both R C K T x y (by omega) (by omega) (by omega)
  clear hl
  go_enter Tryd.func8, Tryd.ntmps8
  go_upto_region 4 with (go_at_call 17; refine (HL.out _).mono ?_; rintro e w2 ⟨rfl, hb2⟩; obtain ⟨q1, q2, q3⟩ := bcell hb2; simp only [World.size_alloc] at q1 q2 q3)
  have bn := below_new w2 (.cells #[.int .i64 R, .int .i64 C, .int .i64 K, .slice A T.length c] 32)
  have hc2 := own_cells4 w2 (.int .i64 R) (.int .i64 C) (.int .i64 K) (.slice A T.length c) 32
  have hz2 : w.heap.size < w2.heap.size := Nat.lt_of_lt_of_le hz1 hb2.size
  have hzw : w2.heap.size < (w2.alloc (.cells #[.int .i64 R, .int .i64 C, .int .i64 K, .slice A T.length c] 32)).heap.size := by simp
  generalize w.alloc (.cells #[.int .i64 R, .int .i64 C, .int .i64 K, .slice A T.length c] 24) = w1 at *
  have hbz : Below w1.heap.size w1 (w2.alloc (.cells #[.int .i64 R, .int .i64 C, .int .i64 K, .slice A T.length c] 32)) := hb2.trans (bn.mono hb2.size)
  replace hm := hm.below hbz
  replace hT := hT.up hbz
  replace hX := hX.up hbz
  replace hY := hY.up hbz
  have HB0 := Lib.hid (hb0.trans (hbz.mono hb0.size))
  generalize hW0 : w2.alloc (.cells #[.int .i64 R, .int .i64 C, .int .i64 K, .slice A T.length c] 32) = w0 at *
  have hz20 : w.heap.size < w0.heap.size := by omega
  have HK := Lib.hid (fun (W : World) (h : Below w0.heap.size w0 W) => show (W.cell? ⟨w.heap.size, 0, none⟩ = some (.int .i64 R) ∧ W.cell? ⟨w.heap.size, 1, none⟩ = some (.int .i64 C) ∧ W.cell? ⟨w.heap.size, 2, none⟩ = some (.int .i64 K) ∧ W.cell? ⟨w.heap.size, 3, none⟩ = some (.slice A T.length c)) ∧ W.cell? ⟨w2.heap.size, 0, none⟩ = some (.int .i64 R) ∧ W.cell? ⟨w2.heap.size, 1, none⟩ = some (.int .i64 C) ∧ W.cell? ⟨w2.heap.size, 2, none⟩ = some (.int .i64 K) ∧ W.cell? ⟨w2.heap.size, 3, none⟩ = some (.slice A T.length c) from
    ⟨⟨(h.cell (p := ⟨w.heap.size, 0, none⟩) hz20).trans ((hbz.cell (p := ⟨w.heap.size, 0, none⟩) hz1).trans hc1.1), (h.cell (p := ⟨w.heap.size, 1, none⟩) hz20).trans ((hbz.cell (p := ⟨w.heap.size, 1, none⟩) hz1).trans hc1.2.1), (h.cell (p := ⟨w.heap.size, 2, none⟩) hz20).trans ((hbz.cell (p := ⟨w.heap.size, 2, none⟩) hz1).trans hc1.2.2.1), (h.cell (p := ⟨w.heap.size, 3, none⟩) hz20).trans ((hbz.cell (p := ⟨w.heap.size, 3, none⟩) hz1).trans hc1.2.2.2)⟩,
      (h.cell (p := ⟨w2.heap.size, 0, none⟩) hzw).trans hc2.1, (h.cell (p := ⟨w2.heap.size, 1, none⟩) hzw).trans hc2.2.1, (h.cell (p := ⟨w2.heap.size, 2, none⟩) hzw).trans hc2.2.2.1, (h.cell (p := ⟨w2.heap.size, 3, none⟩) hzw).trans hc2.2.2.2⟩)
  generalize w2.heap.size = g2 at *
  clear hc1 hc2 q1 q2 q3 bn hb2 hbz hb0 hz1 hz2 hzw hz20 hW0 HL
  have hz0 := Below.refl w0.heap.size w0
  obtain ⟨⟨c10, c11, c12, c13⟩, c20, c21, c22, c23⟩ := HK.out _ hz0
  go_wp2_with fail
  refine (A1 _ _ _ _ _ hm hT hX).mono ?_
  rintro e w1 ⟨D1, d1, rfl, hD1, hb1⟩
  have hz1 := hz0.trans (hb1.mono hz0.size)
  replace hm := hm.below hb1
  replace hT := hT.up hb1
  replace hX := hX.up hb1
  replace hY := hY.up hb1
  clear c10 c11 c12 c13 c20 c21 c22 c23 hb1 hz0
  obtain ⟨⟨c10, c11, c12, c13⟩, c20, c21, c22, c23⟩ := HK.out _ hz1
  go_wp2_with fail
  refine (B1 _ _ _ _ _ hT hX).mono ?_
  rintro e w2 ⟨D2, d2, rfl, hD2, hb2⟩
  have hz2 := hz1.trans (hb2.mono hz1.size)
  replace hm := hm.below hb2
  replace hT := hT.up hb2
  replace hX := hX.up hb2
  replace hY := hY.up hb2
  replace hD1 := hD1.up hb2
  clear c10 c11 c12 c13 c20 c21 c22 c23 hb2 hz1
  obtain ⟨⟨c10, c11, c12, c13⟩, c20, c21, c22, c23⟩ := HK.out _ hz2
  have X29 := Lib.hid (fun W (Q : Ending → World → Prop) (h : Below w2.heap.size w2 W) (hQ : ∀ w', Below w2.heap.size w2 w' → Q (.returned (.bool true)) w') => show Calls Tryd.prog 29 #[.slice D1 l1.length d1, .slice D2 l1.length d2] W Q from (x_same _ _ _ _ _ l1 _ (hD1.up h) (hD2.up h) rfl hl1).mono fun e w' ⟨he, hb⟩ => by rw [he]; exact hQ w' (h.trans (hb.mono h.size)))
  have X45 := Lib.hid (fun W (Q : Ending → World → Prop) (h : Below w2.heap.size w2 W) (hQ : ∀ w', Below w2.heap.size w2 w' → Q (.returned (.int .i64 v)) w') => show Calls Tryd.prog 45 #[.agg #[.int .i64 R, .int .i64 C, .int .i64 K, .slice A T.length c], .slice X x.length xc, .slice Y y.length yc] W Q from (A2 _ _ _ _ _ _ _ (hm.below h) (hT.up h) (hX.up h) (hY.up h)).mono fun e w' ⟨he, hb⟩ => by rw [he]; exact hQ w' (h.trans (hb.mono h.size)))
  have X46 := Lib.hid (fun W (Q : Ending → World → Prop) (h : Below w2.heap.size w2 W) (hQ : ∀ w', Below w2.heap.size w2 w' → Q (.returned (.int .i64 v)) w') => show Calls Tryd.prog 46 #[.agg #[.int .i64 R, .int .i64 C, .int .i64 K, .slice A T.length c], .slice X x.length xc, .slice Y y.length yc] W Q from (B2 _ _ _ _ _ _ _ (hT.up h) (hX.up h) (hY.up h)).mono fun e w' ⟨he, hb⟩ => by rw [he]; exact hQ w' (h.trans (hb.mono h.size)))
  have X18 := Lib.hid (fun W (Q : Ending → World → Prop) (h : Below w2.heap.size w2 W) (hQ : ∀ w', Below w2.heap.size w2 w' → Q (.returned (.bool true)) w') => show Calls Tryd.prog 18 #[] W Q from (works_any _ (hm.below h)).mono fun e w' ⟨he, hb⟩ => by rw [he]; exact hQ w' (h.trans (hb.mono h.size)))
  have HKK := Lib.hid (fun (W : World) (h : Below w2.heap.size w2 W) => show Below w2.heap.size w2 W ∧ (W.cell? ⟨w.heap.size, 0, none⟩ = some (.int .i64 R) ∧ W.cell? ⟨w.heap.size, 1, none⟩ = some (.int .i64 C) ∧ W.cell? ⟨w.heap.size, 2, none⟩ = some (.int .i64 K) ∧ W.cell? ⟨w.heap.size, 3, none⟩ = some (.slice A T.length c)) ∧ W.cell? ⟨g2, 0, none⟩ = some (.int .i64 R) ∧ W.cell? ⟨g2, 1, none⟩ = some (.int .i64 C) ∧ W.cell? ⟨g2, 2, none⟩ = some (.int .i64 K) ∧ W.cell? ⟨g2, 3, none⟩ = some (.slice A T.length c) from ⟨h, HK.out W (hz2.trans (h.mono hz2.size))⟩)
  have hbd := (Below.refl w2.heap.size w2).drew
  have HZ := Lib.hid hz2
  clear hm hT hX hY hD1 hD2 A1 B1 A2 B2 hz2
  go_upto_region 6 with (fail)
  clear c10 c11 c12 c13 c20 c21 c22 c23
  go_region_held3 (fun W => Below w2.heap.size w2 W ∧ (W.cell? ⟨w.heap.size, 0, none⟩ = some (.int .i64 R) ∧ W.cell? ⟨w.heap.size, 1, none⟩ = some (.int .i64 C) ∧ W.cell? ⟨w.heap.size, 2, none⟩ = some (.int .i64 K) ∧ W.cell? ⟨w.heap.size, 3, none⟩ = some (.slice A T.length c)) ∧ W.cell? ⟨g2, 0, none⟩ = some (.int .i64 R) ∧ W.cell? ⟨g2, 1, none⟩ = some (.int .i64 C) ∧ W.cell? ⟨g2, 2, none⟩ = some (.int .i64 K) ∧ W.cell? ⟨g2, 3, none⟩ = some (.slice A T.length c))
    (exact HKK.out _ (by assumption))
    (first
      | (go_at_call 29; with_reducible refine X29.out _ _ (by assumption) ?_; intro w3 hb3)
      | (go_at_call 45; with_reducible refine X45.out _ _ (by assumption) ?_; intro w4 hb4)
      | (go_at_call 46; with_reducible refine X46.out _ _ (by assumption) ?_; intro w5 hb5)
      | (go_at_call 18; with_reducible refine X18.out _ _ (by assumption) ?_; intro w6 hb6))
  all_goals
    go_wp2
    go_ret
    exact ⟨rfl, HB0.out.trans ((HZ.out.trans (Below.mono hb6 HZ.out.size)).mono HB0.out.size)⟩
end Go.Proofs.YtbcbaaapogejiaaDoor
