/-
  The walk of the statement on numbers of backs: it answers true.
-/
import Derived.Test.YtbcbaaapogejiaaDoorRefR
import Derived.Test.YtbcbaaapogejiaaDoorLawA
namespace Go.Proofs.YtbcbaaapogejiaaDoor
open Go.RowKit

theorem staying_both (R C K : Int) (T : List Int) (t : Int) (hn : T.length < 1000) : ∃ (v E : Int),
    (∀ A c W, MovW W → IntsAt W W.heap.size A T → Calls Tryd.prog 35 #[.agg #[.int .i64 R, .int .i64 C, .int .i64 K, .slice A T.length c], .int .i64 t] W (RetNE W v E)) ∧
    (∀ A c W, IntsAt W W.heap.size A T → Calls Tryd.prog 36 #[.agg #[.int .i64 R, .int .i64 C, .int .i64 K, .slice A T.length c], .int .i64 t] W (RetNE W v E)) := by
  by_cases h : chkE R C K T = 0
  · obtain ⟨p, hp, rfl, rfl, rfl, rfl⟩ := ok_of_chk h
    by_cases ht : t ∈ intsN p.T
    · obtain ⟨u, hu, rfl⟩ := List.mem_map.1 ht
      obtain ⟨k, hk, e⟩ := List.mem_iff_getElem.1 hu
      have hk' : p.T[k]? = some u := by rw [List.getElem?_eq_getElem hk, e]
      refine ⟨(p.K ^ (loopsN (srcs p.R p.C (mv u))).all : Nat), 0, fun A c W hm hA => ?_, fun A c W hA => ?_⟩
      · rw [intsN_len]; exact stayingF_ok p hp A c k u W hm hA hk'
      · rw [intsN_len]; exact refStaying_ok p hp A c u W hA hu
    · refine ⟨0, 2, fun A c W hm hA => ?_, fun A c W hA => ?_⟩
      · rw [intsN_len]; exact stayingF_none p hp A c t W hm hA ht
      · rw [intsN_len]; exact refStaying_none p hp A c t W hA ht
  · exact ⟨0, chkE R C K T, fun A c W hm hA => staying_err R C K A c T t W hm hA hn h, fun A c W hA => stayingR_err R C K A c T t W hA hn h⟩
theorem count_both (R C K : Int) (T : List Int) (hn : T.length < 1000) : ∃ (v E : Int),
    (∀ A c W, MovW W → IntsAt W W.heap.size A T → Calls Tryd.prog 37 #[.agg #[.int .i64 R, .int .i64 C, .int .i64 K, .slice A T.length c]] W (RetNE W v E)) ∧
    (∀ A c W, IntsAt W W.heap.size A T → Calls Tryd.prog 38 #[.agg #[.int .i64 R, .int .i64 C, .int .i64 K, .slice A T.length c]] W (RetNE W v E)) := by
  by_cases h : chkE R C K T = 0
  · obtain ⟨p, hp, rfl, rfl, rfl, rfl⟩ := ok_of_chk h
    refine ⟨(p.count : Nat), 0, fun A c W hm hA => ?_, fun A c W hA => ?_⟩
    · rw [intsN_len]; exact countF_ok p hp A c W hm hA
    · rw [intsN_len]; exact refCount_ok p hp A c W hA
  · exact ⟨0, chkE R C K T, fun A c W hm hA => count_err R C K A c T W hm hA hn h, fun A c W hA => countR_err R C K A c T W hA hn h⟩
theorem with_both (R C K : Int) (T x : List Int) (hn : T.length < 1000) (hx : x.length < 1000) : ∃ (v E : Int),
    (∀ A c X xc W, x.length ≤ xc → MovW W → IntsAt W W.heap.size A T → IntsAt W W.heap.size X x → Calls Tryd.prog 39 #[.agg #[.int .i64 R, .int .i64 C, .int .i64 K, .slice A T.length c], .slice X x.length xc] W (RetNE W v E)) ∧
    (∀ A c X xc W, IntsAt W W.heap.size A T → IntsAt W W.heap.size X x → Calls Tryd.prog 40 #[.agg #[.int .i64 R, .int .i64 C, .int .i64 K, .slice A T.length c], .slice X x.length xc] W (RetNE W v E)) := by
  by_cases h : chkE R C K T = 0
  · obtain ⟨p, hp, rfl, rfl, rfl, rfl⟩ := ok_of_chk h
    by_cases hw : wE p.K p.n x = 0
    · obtain ⟨ys, rfl, hl, hin, hs⟩ := ok_of_wE hw
      refine ⟨(p.withC ys : Nat), 0, fun A c X xc W hc hm hA hX => ?_, fun A c X xc W hA hX => ?_⟩
      · rw [intsN_len] at hc
        rw [intsN_len p.T, intsN_len ys]
        exact withF_ok p hp X A xc c ys W hm hA hX hl hc hin (by rw [foldl_sumN, Nat.zero_add]; exact hs)
      · rw [intsN_len p.T, intsN_len ys]
        exact refWith_good p hp A X c xc ys W hA hX hl hin hs
    · refine ⟨0, wE p.K p.n x, fun A c X xc W _ hm hA hX => ?_, fun A c X xc W hA hX => ?_⟩
      · rw [intsN_len]; exact withF_bad p hp X A xc c x W hm hA hX hw
      · rw [intsN_len]; exact refWith_bad p hp A X c xc x W hA hX hx hw
  · exact ⟨0, chkE R C K T, fun A c X xc W _ hm hA hX => with_err R C K A c T X x.length xc W hm hA hn h, fun A c X xc W hA hX => withR_err R C K A X c xc T x W hA hn h⟩

set_option maxRecDepth 100000 in
set_option maxHeartbeats 4000000 in
theorem lawCounts_any (w : World) (R C K : Int) (A : Option Addr) (c : Nat) (T : List Int) (X : Option Addr) (xc : Nat) (x : List Int) (t : Int) (hxc : x.length ≤ xc) (hT : IntsAt w w.heap.size A T) (hX : IntsAt w w.heap.size X x) (hm : MovW w) :
    Calls Tryd.prog 6 #[.agg #[.int .i64 R, .int .i64 C, .int .i64 K, .slice A T.length c], .int .i64 t, .slice X x.length xc] w fun e w' => e = .returned (.bool true) ∧ Below w.heap.size w w' := by
  have hb0 := below_new w (.cells #[.int .i64 R, .int .i64 C, .int .i64 K, .slice A T.length c] 24)
  have hc1 := own_cells4 w (.int .i64 R) (.int .i64 C) (.int .i64 K) (.slice A T.length c) 24
  have hz1 : w.heap.size < (w.alloc (.cells #[.int .i64 R, .int .i64 C, .int .i64 K, .slice A T.length c] 24)).heap.size := by simp
  replace hm := hm.below hb0
  replace hT := hT.up hb0
  replace hX := hX.up hb0
  by_cases hl : 30 < T.length ∨ 60 < x.length ∨ 60 < 0
  · have HL := Lib.hid (fun W => large_yes R C K A X none T.length c x.length xc 0 0 W hl)
    clear hl hT hX hc1
    go_enter Tryd.func6, Tryd.ntmps6
    go_wp2_with (first
      | (go_at_call 17; refine (HL.out _).mono ?_; rintro e w2 ⟨rfl, hb2⟩; have hm2 := hm.below hb2)
      | (go_at_call 18; refine (works_any _ hm2).mono ?_; rintro e w3 ⟨rfl, hb3⟩))
    go_ret
    exact ⟨rfl, hb0.trans ((hb2.trans (hb3.mono hb2.size)).mono hb0.size)⟩
  have HL := Lib.hid (fun W => large_no R C K A X none T.length c x.length xc 0 0 W hl)
  obtain ⟨n1, E1, A1, B1⟩ := staying_both R C K T t (by omega)
  obtain ⟨n2, E2, A2, B2⟩ := count_both R C K T (by omega)
  obtain ⟨n3, E3, A3, B3⟩ := with_both R C K T x (by omega) (by omega)
  clear hl
  go_enter Tryd.func6, Tryd.ntmps6
  go_upto_region 4 with (go_at_call 17; refine (HL.out _).mono ?_; rintro e w2 ⟨rfl, hb2⟩; obtain ⟨q1, q2, q3⟩ := bcell hb2; simp only [World.size_alloc] at q1 q2 q3)
  have bn := below_new w2 (.cells #[.int .i64 R, .int .i64 C, .int .i64 K, .slice A T.length c] 32)
  have hc2 := own_cells4 w2 (.int .i64 R) (.int .i64 C) (.int .i64 K) (.slice A T.length c) 32
  have hz2 : w.heap.size < w2.heap.size := Nat.lt_of_lt_of_le hz1 hb2.size
  have hzw : w2.heap.size < (w2.alloc (.cells #[.int .i64 R, .int .i64 C, .int .i64 K, .slice A T.length c] 32)).heap.size := by simp
  generalize w.alloc (.cells #[.int .i64 R, .int .i64 C, .int .i64 K, .slice A T.length c] 24) = w1 at *
  have hbz : Below w1.heap.size w1 (w2.alloc (.cells #[.int .i64 R, .int .i64 C, .int .i64 K, .slice A T.length c] 32)) := hb2.trans (bn.mono hb2.size)
  replace hm := hm.below hbz
  replace hT := hT.up hbz
  replace hX := hX.up hbz
  have HB0 := Lib.hid (hb0.trans (hbz.mono hb0.size))
  generalize hW0 : w2.alloc (.cells #[.int .i64 R, .int .i64 C, .int .i64 K, .slice A T.length c] 32) = w0 at *
  have hz20 : w.heap.size < w0.heap.size := by omega
  have HK := Lib.hid (fun (W : World) (h : Below w0.heap.size w0 W) => show (W.cell? ⟨w.heap.size, 0, none⟩ = some (.int .i64 R) ∧ W.cell? ⟨w.heap.size, 1, none⟩ = some (.int .i64 C) ∧ W.cell? ⟨w.heap.size, 2, none⟩ = some (.int .i64 K) ∧ W.cell? ⟨w.heap.size, 3, none⟩ = some (.slice A T.length c)) ∧ W.cell? ⟨w2.heap.size, 0, none⟩ = some (.int .i64 R) ∧ W.cell? ⟨w2.heap.size, 1, none⟩ = some (.int .i64 C) ∧ W.cell? ⟨w2.heap.size, 2, none⟩ = some (.int .i64 K) ∧ W.cell? ⟨w2.heap.size, 3, none⟩ = some (.slice A T.length c) from
    ⟨⟨(h.cell (p := ⟨w.heap.size, 0, none⟩) hz20).trans ((hbz.cell (p := ⟨w.heap.size, 0, none⟩) hz1).trans hc1.1), (h.cell (p := ⟨w.heap.size, 1, none⟩) hz20).trans ((hbz.cell (p := ⟨w.heap.size, 1, none⟩) hz1).trans hc1.2.1), (h.cell (p := ⟨w.heap.size, 2, none⟩) hz20).trans ((hbz.cell (p := ⟨w.heap.size, 2, none⟩) hz1).trans hc1.2.2.1), (h.cell (p := ⟨w.heap.size, 3, none⟩) hz20).trans ((hbz.cell (p := ⟨w.heap.size, 3, none⟩) hz1).trans hc1.2.2.2)⟩,
      (h.cell (p := ⟨w2.heap.size, 0, none⟩) hzw).trans hc2.1, (h.cell (p := ⟨w2.heap.size, 1, none⟩) hzw).trans hc2.2.1, (h.cell (p := ⟨w2.heap.size, 2, none⟩) hzw).trans hc2.2.2.1, (h.cell (p := ⟨w2.heap.size, 3, none⟩) hzw).trans hc2.2.2.2⟩)
  generalize w2.heap.size = g2 at *
  clear hc1 hc2 q1 q2 q3 bn hb2 hbz hb0 hz1 hz2 hzw hz20 hW0 HL
  have hz0 := Below.refl w0.heap.size w0
  obtain ⟨⟨c10, c11, c12, c13⟩, c20, c21, c22, c23⟩ := HK.out _ hz0
  go_wp2_with fail
  refine (A1 _ _ _ hm hT).mono ?_
  rintro e w1 ⟨rfl, hb1⟩
  have hz1 := hz0.trans (hb1.mono hz0.size)
  replace hm := hm.below hb1
  replace hT := hT.up hb1
  replace hX := hX.up hb1
  clear c10 c11 c12 c13 c20 c21 c22 c23 hb1 hz0
  obtain ⟨⟨c10, c11, c12, c13⟩, c20, c21, c22, c23⟩ := HK.out _ hz1
  go_wp2_with fail
  refine (B1 _ _ _ hT).mono ?_
  rintro e w2 ⟨rfl, hb2⟩
  have hz2 := hz1.trans (hb2.mono hz1.size)
  replace hm := hm.below hb2
  replace hT := hT.up hb2
  replace hX := hX.up hb2
  clear c10 c11 c12 c13 c20 c21 c22 c23 hb2 hz1
  obtain ⟨⟨c10, c11, c12, c13⟩, c20, c21, c22, c23⟩ := HK.out _ hz2
  go_wp2_with fail
  refine (A2 _ _ _ hm hT).mono ?_
  rintro e w3 ⟨rfl, hb3⟩
  have hz3 := hz2.trans (hb3.mono hz2.size)
  replace hm := hm.below hb3
  replace hT := hT.up hb3
  replace hX := hX.up hb3
  clear c10 c11 c12 c13 c20 c21 c22 c23 hb3 hz2
  obtain ⟨⟨c10, c11, c12, c13⟩, c20, c21, c22, c23⟩ := HK.out _ hz3
  go_wp2_with fail
  refine (B2 _ _ _ hT).mono ?_
  rintro e w4 ⟨rfl, hb4⟩
  have hz4 := hz3.trans (hb4.mono hz3.size)
  replace hm := hm.below hb4
  replace hT := hT.up hb4
  replace hX := hX.up hb4
  clear c10 c11 c12 c13 c20 c21 c22 c23 hb4 hz3
  obtain ⟨⟨c10, c11, c12, c13⟩, c20, c21, c22, c23⟩ := HK.out _ hz4
  go_wp2_with fail
  refine (A3 _ _ _ _ _ hxc hm hT hX).mono ?_
  rintro e w5 ⟨rfl, hb5⟩
  have hz5 := hz4.trans (hb5.mono hz4.size)
  replace hm := hm.below hb5
  replace hT := hT.up hb5
  replace hX := hX.up hb5
  clear c10 c11 c12 c13 c20 c21 c22 c23 hb5 hz4
  obtain ⟨⟨c10, c11, c12, c13⟩, c20, c21, c22, c23⟩ := HK.out _ hz5
  go_wp2_with fail
  refine (B3 _ _ _ _ _ hT hX).mono ?_
  rintro e w6 ⟨rfl, hb6⟩
  have hz6 := hz5.trans (hb6.mono hz5.size)
  replace hm := hm.below hb6
  replace hT := hT.up hb6
  replace hX := hX.up hb6
  clear c10 c11 c12 c13 c20 c21 c22 c23 hb6 hz5
  obtain ⟨⟨c10, c11, c12, c13⟩, c20, c21, c22, c23⟩ := HK.out _ hz6
  go_wp2_with fail
  refine (works_any _ hm).mono ?_
  rintro e w7 ⟨rfl, hb7⟩
  have hz7 := hz6.trans (hb7.mono hz6.size)
  replace hm := hm.below hb7
  replace hT := hT.up hb7
  replace hX := hX.up hb7
  clear c10 c11 c12 c13 c20 c21 c22 c23 hb7 hz6
  obtain ⟨⟨c10, c11, c12, c13⟩, c20, c21, c22, c23⟩ := HK.out _ hz7
  go_wp2
  go_ret
  exact ⟨rfl, HB0.out.trans (hz7.mono HB0.out.size)⟩
end Go.Proofs.YtbcbaaapogejiaaDoor
