/-
  The walk of the statement on spans: it answers true.
-/
import Derived.Test.YtcebihijnedekaaDoorLawA
import Derived.Test.YtcebihijnedekaaDoorRefJ
namespace Go.Proofs.YtcebihijnedekaaDoor
open Go.RowKit

theorem spsS_len40 {R : Int} {ws : List Wy} : (spsS R ws).1.length ≤ 1000 := by
  by_cases h : (spsS R ws).2 = 0
  · have := spsS_len h; omega
  · have h2 : ¬ chkA R ws = 0 := fun h0 => h (by unfold spsS; rw [if_pos h0])
    unfold spsS
    rw [if_neg h2]
    simp

theorem opnS_len40 {R : Int} {ws : List Wy} : (opnS R ws).1.length ≤ 1000 := by
  unfold opnS
  split
  · rename_i h
    have := spsS_len h
    have := openK_len (spsS R ws).1 (spsS R ws).1.length
    show (openK _ _).length ≤ 1000
    omega
  · simp

theorem spans_same {W : World} {A D : Option Addr} {c d : Nat} {l : List (Int × Int)} (hl : l.length ≤ 1000) (hA : PairsAt W W.heap.size A l) (hD : PairsAt W W.heap.size D l) :
    Calls Tryd.prog 39 #[.slice A l.length c, .slice D l.length d] W fun e w' => e = .returned (.bool true) ∧ Below W.heap.size W w' :=
  (spans39_any A D c d l l W hl hA hD).mono fun _ _ ⟨he, hb⟩ => ⟨by rw [he, decide_eq_true rfl], hb⟩

theorem ints_same {W : World} {A D : Option Addr} {c d : Nat} {l : List Int} (hl : l.length ≤ 1000) (hA : IntsAt W W.heap.size A l) (hD : IntsAt W W.heap.size D l) :
    Calls Tryd.prog 22 #[.slice A l.length c, .slice D l.length d] W fun e w' => e = .returned (.bool true) ∧ Below W.heap.size W w' :=
  (same_any A D c d l l W hl hA hD).mono fun _ _ ⟨he, hb⟩ => ⟨by rw [he, decide_eq_true rfl], hb⟩

set_option maxRecDepth 100000 in
set_option maxHeartbeats 4000000 in
theorem lawSpans_any (w : World) (R : Int) (A : Option Addr) (c : Nat) (ws : List Wy) (k : Int) (hw : WaysAt w w.heap.size A ws) (ht : SizesAt w) :
    Calls Tryd.prog 6 #[.agg #[.int .i64 R, .slice A ws.length c], .int .i64 k] w fun e w' => e = .returned (.bool true) ∧ Below w.heap.size w w' := by
  have HL := Lib.hid (fun W => large_any R A none ws.length c 0 0 W)
  have hw1 := fun o => (hw.alloc (Nat.le_refl _) o).mono (B' := (w.alloc o).heap.size) (by simp)
  have ht1 := fun o => ht.alloc o
  by_cases h40 : 40 < ws.length ∨ 40 < 0
  · rw [decide_eq_true h40] at HL
    clear h40
    go_enter Tryd.func6, Tryd.ntmps6
    go_wp2_with (first
      | (go_at_call 15; refine (HL.out _).mono ?_; rintro e w1 ⟨rfl, hb1⟩; have ht2 := (ht1 _).below hb1)
      | (go_at_call 16; refine (works_any _ ht2).mono ?_; rintro e w2 ⟨rfl, hb2⟩))
    go_ret
    exact ⟨rfl, ((Below.refl _ _).alloc (Nat.le_refl _) _).trans ((hb1.mono (by simp)).trans (hb2.mono (by have := hb1.size; simp at this; omega)))⟩
  rw [decide_eq_false h40] at HL
  have hws : ws.length ≤ 40 := by omega
  clear h40
  have hpl := spsS_len40 (R := R) (ws := ws)
  have hol := opnS_len40 (R := R) (ws := ws)
  have K33 := Lib.hid (fun W h1 h2 => span33_any R k A c ws W h1 h2)
  have K34 := Lib.hid (fun A' c' W h1 => span34_any R k A' c' ws W h1)
  have K35 := Lib.hid (fun W h1 h2 => spans_any R A c ws W h1 h2)
  have K36 := Lib.hid (fun A' c' W h1 => spansR_any R A' c' ws W h1)
  have K37 := Lib.hid (fun W h1 h2 => open_any R A c ws W h1 h2)
  have K38 := Lib.hid (fun A' c' W h1 => openR_any R A' c' ws W h1)
  generalize spnS R ws k = S at K33 K34
  generalize spsS R ws = P at hpl K35 K36
  generalize opnS R ws = O at hol K37 K38
  obtain ⟨S1, S2, S3⟩ := S
  obtain ⟨P, ep⟩ := P
  obtain ⟨O, eo⟩ := O
  dsimp only at hpl hol K33 K34 K35 K36 K37 K38
  go_enter Tryd.func6, Tryd.ntmps6
  go_wp2_with (first
    | (go_at_call 15; refine (HL.out _).mono ?_; rintro e w1 ⟨rfl, hb1⟩; obtain ⟨q1, q2, q3⟩ := bcell hb1; simp only [World.size_alloc] at q1 q2 q3; have ht2 := (ht1 _).below hb1; have hw2 := up_ways (hw1 _) hb1)
    | (go_at_call 17; refine (given_any R A c ws _ hws hw2).mono ?_; rintro e w2 ⟨A2, c2, rfl, hA2, hb2⟩; obtain ⟨r1, r2, r3⟩ := bcell hb2; have hz1 : w.heap.size < w1.heap.size := (by omega); have hz2 : w.heap.size < w2.heap.size := (by omega)))
  have bn := below_new w2 (.cells #[.int .i64 R, .slice A2 ws.length c2] 30)
  have e0 : (w2.alloc (.cells #[.int .i64 R, .slice A2 ws.length c2] 30)).cell? ⟨w.heap.size, 0, none⟩ = some (.int .i64 R) := by rw [bn.cell (p := ⟨w.heap.size, 0, none⟩) hz2, r1 _ _ hz1, q1 _ _ (Nat.lt_succ_self _)]; simp [go_sem]
  have e1 : (w2.alloc (.cells #[.int .i64 R, .slice A2 ws.length c2] 30)).cell? ⟨w.heap.size, 1, none⟩ = some (.slice A ws.length c) := by rw [bn.cell (p := ⟨w.heap.size, 1, none⟩) hz2, r1 _ _ hz1, q1 _ _ (Nat.lt_succ_self _)]; simp [go_sem]
  have e2 : (w2.alloc (.cells #[.int .i64 R, .slice A2 ws.length c2] 30)).cell? ⟨w2.heap.size, 0, none⟩ = some (.int .i64 R) := by simp [go_sem]
  have e3 : (w2.alloc (.cells #[.int .i64 R, .slice A2 ws.length c2] 30)).cell? ⟨w2.heap.size, 1, none⟩ = some (.slice A2 ws.length c2) := by simp [go_sem]
  have ht3 := (ht2.below hb2).below bn
  have hw3 := up_ways (up_ways hw2 hb2) bn
  have hA3 := up_ways hA2 bn
  have hb0 : Below w.heap.size w (w2.alloc (.cells #[.int .i64 R, .slice A2 ws.length c2] 30)) := ((Below.refl _ _).alloc (Nat.le_refl _) _).trans ((hb1.mono (by simp)).trans ((hb2.mono (by omega)).trans (bn.mono (by omega))))
  have hz5 : w.heap.size < (w2.alloc (.cells #[.int .i64 R, .slice A2 ws.length c2] 30)).heap.size := by simp; omega
  have hz25 : w2.heap.size < (w2.alloc (.cells #[.int .i64 R, .slice A2 ws.length c2] 30)).heap.size := by simp
  obtain ⟨W3, hW3⟩ : ∃ W3, W3 = w2.alloc (.cells #[.int .i64 R, .slice A2 ws.length c2] 30) := ⟨_, rfl⟩
  rw [← hW3] at ht3 hw3 hA3 e0 e1 e2 e3 hb0 hz5 hz25 ⊢
  obtain ⟨g5, hg5⟩ : ∃ g5, g5 = w2.heap.size := ⟨_, rfl⟩
  rw [← hg5] at e2 e3 hz25 ⊢
  have hK : ∀ w', Below W3.heap.size W3 w' → Below W3.heap.size W3 w' ∧ w'.cell? ⟨w.heap.size, 0, none⟩ = some (.int .i64 R) ∧ w'.cell? ⟨w.heap.size, 1, none⟩ = some (.slice A ws.length c) ∧ w'.cell? ⟨g5, 0, none⟩ = some (.int .i64 R) ∧ w'.cell? ⟨g5, 1, none⟩ = some (.slice A2 ws.length c2) :=
    fun w' h => ⟨h, (h.cell (p := ⟨w.heap.size, 0, none⟩) hz5).trans e0, (h.cell (p := ⟨w.heap.size, 1, none⟩) hz5).trans e1, (h.cell (p := ⟨g5, 0, none⟩) hz25).trans e2, (h.cell (p := ⟨g5, 1, none⟩) hz25).trans e3⟩
  have HK := Lib.hid hK
  clear hW3 hg5 hK bn q1 q2 q3 r1 r2 r3 hA2 hw2 ht2 hb1 hb2 hw1 ht1 hw ht HL hz1 hz2
  have hb3 : Below W3.heap.size W3 W3 := Below.refl _ _
  refine (K33.out _ hw3 ht3).mono ?_
  rintro e w104 ⟨rfl, hx4⟩
  have hb4 := hb3.trans (hx4.mono hb3.size)
  have ht4 := SizesAt.below ht3 hx4
  have hw4 := up_ways hw3 hx4
  have hA4 := up_ways hA3 hx4
  obtain ⟨_, e0_4, e1_4, e2_4, e3_4⟩ := HK.out _ hb4
  go_wp2_with (first
    | (go_at_call 34; refine (K34.out A2 c2 _ hA4).mono ?_; rintro e w105 ⟨rfl, hx5⟩; have hb5 := hb4.trans (hx5.mono hb4.size); have ht5 := SizesAt.below ht4 hx5; have hw5 := up_ways hw4 hx5; have hA5 := up_ways hA4 hx5; obtain ⟨_, e0_5, e1_5, e2_5, e3_5⟩ := HK.out _ hb5)
    | (go_at_call 35; refine (K35.out _ hw5 ht5).mono ?_; rintro e w106 ⟨B6, b6, rfl, hn6_6, hx6⟩; have hb6 := hb5.trans (hx6.mono hb5.size); have ht6 := SizesAt.below ht5 hx6; have hw6 := up_ways hw5 hx6; have hA6 := up_ways hA5 hx6; obtain ⟨_, e0_6, e1_6, e2_6, e3_6⟩ := HK.out _ hb6)
    | (go_at_call 36; refine (K36.out A2 c2 _ hA6).mono ?_; rintro e w107 ⟨B7, b7, rfl, hn7_7, hx7⟩; have hb7 := hb6.trans (hx7.mono hb6.size); have ht7 := SizesAt.below ht6 hx7; have hw7 := up_ways hw6 hx7; have hA7 := up_ways hA6 hx7; have hn6_7 := PairsAt.up hn6_6 hx7; obtain ⟨_, e0_7, e1_7, e2_7, e3_7⟩ := HK.out _ hb7)
    | (go_at_call 37; refine (K37.out _ hw7 ht7).mono ?_; rintro e w108 ⟨B8, b8, rfl, hn8_8, hx8⟩; have hb8 := hb7.trans (hx8.mono hb7.size); have ht8 := SizesAt.below ht7 hx8; have hw8 := up_ways hw7 hx8; have hA8 := up_ways hA7 hx8; have hn6_8 := PairsAt.up hn6_7 hx8; have hn7_8 := PairsAt.up hn7_7 hx8; obtain ⟨_, e0_8, e1_8, e2_8, e3_8⟩ := HK.out _ hb8)
    | (go_at_call 38; refine (K38.out A2 c2 _ hA8).mono ?_; rintro e w109 ⟨B9, b9, rfl, hn9_9, hx9⟩; have hb9 := hb8.trans (hx9.mono hb8.size); have ht9 := SizesAt.below ht8 hx9; have hw9 := up_ways hw8 hx9; have hA9 := up_ways hA8 hx9; have hn6_9 := PairsAt.up hn6_8 hx9; have hn7_9 := PairsAt.up hn7_8 hx9; have hn8_9 := up_ints hn8_8 hx9; obtain ⟨_, e0_9, e1_9, e2_9, e3_9⟩ := HK.out _ hb9)
    | (go_at_call 39; refine (spans_same hpl hn6_9 hn7_9).mono ?_; rintro e w110 ⟨rfl, hx10⟩; have hb10 := hb9.trans (hx10.mono hb9.size); have ht10 := SizesAt.below ht9 hx10; have hw10 := up_ways hw9 hx10; have hA10 := up_ways hA9 hx10; have hn6_10 := PairsAt.up hn6_9 hx10; have hn7_10 := PairsAt.up hn7_9 hx10; have hn8_10 := up_ints hn8_9 hx10; have hn9_10 := up_ints hn9_9 hx10; obtain ⟨_, e0_10, e1_10, e2_10, e3_10⟩ := HK.out _ hb10)
    | (go_at_call 22; refine (ints_same hol hn8_10 hn9_10).mono ?_; rintro e w111 ⟨rfl, hx11⟩; have hb11 := hb10.trans (hx11.mono hb10.size); have ht11 := SizesAt.below ht10 hx11; have hw11 := up_ways hw10 hx11; have hA11 := up_ways hA10 hx11; have hn6_11 := PairsAt.up hn6_10 hx11; have hn7_11 := PairsAt.up hn7_10 hx11; have hn8_11 := up_ints hn8_10 hx11; have hn9_11 := up_ints hn9_10 hx11; obtain ⟨_, e0_11, e1_11, e2_11, e3_11⟩ := HK.out _ hb11)
    | (go_at_call 16; refine (works_any _ ht11).mono ?_; rintro e w112 ⟨rfl, hx12⟩; have hb12 := hb11.trans (hx12.mono hb11.size); have ht12 := SizesAt.below ht11 hx12; have hw12 := up_ways hw11 hx12; have hA12 := up_ways hA11 hx12; have hn6_12 := PairsAt.up hn6_11 hx12; have hn7_12 := PairsAt.up hn7_11 hx12; have hn8_12 := up_ints hn8_11 hx12; have hn9_12 := up_ints hn9_11 hx12; obtain ⟨_, e0_12, e1_12, e2_12, e3_12⟩ := HK.out _ hb12))
  go_ret
  exact ⟨rfl, hb0.trans (hb12.mono (by omega))⟩
end Go.Proofs.YtcebihijnedekaaDoor
