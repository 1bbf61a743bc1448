/-
  The walk of the statement on what rooms say: it answers true.
-/
import Derived.Test.YtcebihijnedekaaDoorLawA
import Derived.Test.YtcebihijnedekaaDoorLawB
import Derived.Test.YtcebihijnedekaaDoorRefQ
namespace Go.Proofs.YtcebihijnedekaaDoor
open Go.RowKit

theorem bndS_len {R k : Int} {ws : List Wy} {gr : Bool} : (bndS R ws k gr).1.length ≤ 1000 := by
  unfold bndS
  by_cases h : chkN R ws k = 0
  · rw [if_pos h]
    obtain ⟨hk, n, x, rfl, hx⟩ := chkN_ok h
    obtain ⟨rooms, rfl, _, hv, _⟩ := chk_ok hk
    rw [show ((n : Int).toNat) = n from rfl, hx, show ((rooms : Int).toNat) = rooms from rfl]
    split
    · dsimp only
      split
      · simp
      · have := listK_len rooms (fewS (qB rooms ws x (wantS gr) (endS rooms ws x gr)) rooms).1 rooms
        have := hv.r6
        show (listK _ _ _).length ≤ 1000
        omega
    · simp
  · rw [if_neg h]; simp

set_option maxRecDepth 100000 in
set_option maxHeartbeats 4000000 in
theorem lawBounds_any (w : World) (R : Int) (A : Option Addr) (c : Nat) (ws : List Wy) (D : Option Addr) (d : Nat) (l : List Int) (k : Int) (gr : Bool) (hw : WaysAt w w.heap.size A ws) (hd : IntsAt w w.heap.size D l) (ht : SizesAt w) :
    Calls Tryd.prog 7 #[.agg #[.int .i64 R, .slice A ws.length c], .slice D l.length d, .int .i64 k, .bool gr] w fun e w' => e = .returned (.bool true) ∧ Below w.heap.size w w' := by
  have HL := Lib.hid (fun W => large_any R A D ws.length c l.length d W)
  have hw1 := fun o => (hw.alloc (Nat.le_refl _) o).mono (B' := (w.alloc o).heap.size) (by simp)
  have hd1 := fun o => (hd.alloc (Nat.le_refl _) o).mono (B' := (w.alloc o).heap.size) (by simp)
  have ht1 := fun o => ht.alloc o
  by_cases h40 : 40 < ws.length ∨ 40 < l.length
  · rw [decide_eq_true h40] at HL
    clear h40
    go_enter Tryd.func7, Tryd.ntmps7
    go_wp2_with (first
      | (go_at_call 15; refine (HL.out _).mono ?_; rintro e w1 ⟨rfl, hb1⟩; have ht2 := (ht1 _).below hb1)
      | (go_at_call 16; refine (works_any _ ht2).mono ?_; rintro e w2 ⟨rfl, hb2⟩))
    go_ret
    exact ⟨rfl, ((Below.refl _ _).alloc (Nat.le_refl _) _).trans ((hb1.mono (by simp)).trans (hb2.mono (by have := hb1.size; simp at this; omega)))⟩
  rw [decide_eq_false h40] at HL
  have hl1 : l.length ≤ 1000 := by omega
  have hws : ws.length ≤ 40 := by omega
  clear h40
  have hbl := bndS_len (R := R) (ws := ws) (k := k) (gr := gr)
  have K40 := Lib.hid (fun W h1 h2 => says40_any R k A D c d ws l W hl1 h1 h2)
  have K41 := Lib.hid (fun A' c' W h1 h2 => says41_any R k A' D c' d ws l W hl1 h1 h2)
  have K42 := Lib.hid (fun W h1 h2 => bound_any R k gr A c ws W h1 h2)
  have K43 := Lib.hid (fun A' c' W h1 => boundR_any R k gr A' c' ws W h1)
  generalize sysS R ws l k = S at K40 K41
  generalize bndS R ws k gr = P at hbl K42 K43
  obtain ⟨S1, S2⟩ := S
  obtain ⟨P, ep⟩ := P
  dsimp only at hbl K40 K41 K42 K43
  go_enter Tryd.func7, Tryd.ntmps7
  go_wp2_with (first
    | (go_at_call 15; refine (HL.out _).mono ?_; rintro e w1 ⟨rfl, hb1⟩; obtain ⟨q1, q2, q3⟩ := bcell hb1; simp only [World.size_alloc] at q1 q2 q3; have ht2 := (ht1 _).below hb1; have hw2 := up_ways (hw1 _) hb1; have hd2 := up_ints (hd1 _) hb1)
    | (go_at_call 17; refine (given_any R A c ws _ hws hw2).mono ?_; rintro e w2 ⟨A2, c2, rfl, hA2, hb2⟩; obtain ⟨r1, r2, r3⟩ := bcell hb2; have hz1 : w.heap.size < w1.heap.size := (by omega); have hz2 : w.heap.size < w2.heap.size := (by omega)))
  have bn := below_new w2 (.cells #[.int .i64 R, .slice A2 ws.length c2] 30)
  have e0 : (w2.alloc (.cells #[.int .i64 R, .slice A2 ws.length c2] 30)).cell? ⟨w.heap.size, 0, none⟩ = some (.int .i64 R) := by rw [bn.cell (p := ⟨w.heap.size, 0, none⟩) hz2, r1 _ _ hz1, q1 _ _ (Nat.lt_succ_self _)]; simp [go_sem]
  have e1 : (w2.alloc (.cells #[.int .i64 R, .slice A2 ws.length c2] 30)).cell? ⟨w.heap.size, 1, none⟩ = some (.slice A ws.length c) := by rw [bn.cell (p := ⟨w.heap.size, 1, none⟩) hz2, r1 _ _ hz1, q1 _ _ (Nat.lt_succ_self _)]; simp [go_sem]
  have e2 : (w2.alloc (.cells #[.int .i64 R, .slice A2 ws.length c2] 30)).cell? ⟨w2.heap.size, 0, none⟩ = some (.int .i64 R) := by simp [go_sem]
  have e3 : (w2.alloc (.cells #[.int .i64 R, .slice A2 ws.length c2] 30)).cell? ⟨w2.heap.size, 1, none⟩ = some (.slice A2 ws.length c2) := by simp [go_sem]
  have ht3 := (ht2.below hb2).below bn
  have hw3 := up_ways (up_ways hw2 hb2) bn
  have hd3 := up_ints (up_ints hd2 hb2) bn
  have hA3 := up_ways hA2 bn
  have hb0 : Below w.heap.size w (w2.alloc (.cells #[.int .i64 R, .slice A2 ws.length c2] 30)) := ((Below.refl _ _).alloc (Nat.le_refl _) _).trans ((hb1.mono (by simp)).trans ((hb2.mono (by omega)).trans (bn.mono (by omega))))
  have hz5 : w.heap.size < (w2.alloc (.cells #[.int .i64 R, .slice A2 ws.length c2] 30)).heap.size := by simp; omega
  have hz25 : w2.heap.size < (w2.alloc (.cells #[.int .i64 R, .slice A2 ws.length c2] 30)).heap.size := by simp
  obtain ⟨W3, hW3⟩ : ∃ W3, W3 = w2.alloc (.cells #[.int .i64 R, .slice A2 ws.length c2] 30) := ⟨_, rfl⟩
  rw [← hW3] at ht3 hw3 hd3 hA3 e0 e1 e2 e3 hb0 hz5 hz25 ⊢
  obtain ⟨g5, hg5⟩ : ∃ g5, g5 = w2.heap.size := ⟨_, rfl⟩
  rw [← hg5] at e2 e3 hz25 ⊢
  have hK : ∀ w', Below W3.heap.size W3 w' → Below W3.heap.size W3 w' ∧ w'.cell? ⟨w.heap.size, 0, none⟩ = some (.int .i64 R) ∧ w'.cell? ⟨w.heap.size, 1, none⟩ = some (.slice A ws.length c) ∧ w'.cell? ⟨g5, 0, none⟩ = some (.int .i64 R) ∧ w'.cell? ⟨g5, 1, none⟩ = some (.slice A2 ws.length c2) :=
    fun w' h => ⟨h, (h.cell (p := ⟨w.heap.size, 0, none⟩) hz5).trans e0, (h.cell (p := ⟨w.heap.size, 1, none⟩) hz5).trans e1, (h.cell (p := ⟨g5, 0, none⟩) hz25).trans e2, (h.cell (p := ⟨g5, 1, none⟩) hz25).trans e3⟩
  have HK := Lib.hid hK
  clear hW3 hg5 hK bn q1 q2 q3 r1 r2 r3 hA2 hw2 ht2 hb1 hb2 hw1 ht1 hw ht HL hz1 hz2 hd hd1 hd2
  have hb3 : Below W3.heap.size W3 W3 := Below.refl _ _
  refine (K40.out _ hw3 hd3).mono ?_
  rintro e w104 ⟨rfl, hx4⟩
  have hb4 := hb3.trans (hx4.mono hb3.size)
  have ht4 := SizesAt.below ht3 hx4
  have hw4 := up_ways hw3 hx4
  have hd4 := up_ints hd3 hx4
  have hA4 := up_ways hA3 hx4
  obtain ⟨_, e0_4, e1_4, e2_4, e3_4⟩ := HK.out _ hb4
  go_wp2_with (first
    | (go_at_call 41; refine (K41.out A2 c2 _ hA4 hd4).mono ?_; rintro e w105 ⟨rfl, hx5⟩; have hb5 := hb4.trans (hx5.mono hb4.size); have ht5 := SizesAt.below ht4 hx5; have hw5 := up_ways hw4 hx5; have hd5 := up_ints hd4 hx5; have hA5 := up_ways hA4 hx5; obtain ⟨_, e0_5, e1_5, e2_5, e3_5⟩ := HK.out _ hb5)
    | (go_at_call 42; refine (K42.out _ hw5 ht5).mono ?_; rintro e w106 ⟨B6, b6, rfl, hn6_6, hx6⟩; have hb6 := hb5.trans (hx6.mono hb5.size); have ht6 := SizesAt.below ht5 hx6; have hw6 := up_ways hw5 hx6; have hd6 := up_ints hd5 hx6; have hA6 := up_ways hA5 hx6; obtain ⟨_, e0_6, e1_6, e2_6, e3_6⟩ := HK.out _ hb6)
    | (go_at_call 43; refine (K43.out A2 c2 _ hA6).mono ?_; rintro e w107 ⟨B7, b7, rfl, hn7_7, hx7⟩; have hb7 := hb6.trans (hx7.mono hb6.size); have ht7 := SizesAt.below ht6 hx7; have hw7 := up_ways hw6 hx7; have hd7 := up_ints hd6 hx7; have hA7 := up_ways hA6 hx7; have hn6_7 := up_ints hn6_6 hx7; obtain ⟨_, e0_7, e1_7, e2_7, e3_7⟩ := HK.out _ hb7)
    | (go_at_call 22; refine (ints_same hbl hn6_7 hn7_7).mono ?_; rintro e w108 ⟨rfl, hx8⟩; have hb8 := hb7.trans (hx8.mono hb7.size); have ht8 := SizesAt.below ht7 hx8; have hw8 := up_ways hw7 hx8; have hd8 := up_ints hd7 hx8; have hA8 := up_ways hA7 hx8; have hn6_8 := up_ints hn6_7 hx8; have hn7_8 := up_ints hn7_7 hx8; obtain ⟨_, e0_8, e1_8, e2_8, e3_8⟩ := HK.out _ hb8)
    | (go_at_call 16; refine (works_any _ ht8).mono ?_; rintro e w109 ⟨rfl, hx9⟩; have hb9 := hb8.trans (hx9.mono hb8.size); have ht9 := SizesAt.below ht8 hx9; have hw9 := up_ways hw8 hx9; have hd9 := up_ints hd8 hx9; have hA9 := up_ways hA8 hx9; have hn6_9 := up_ints hn6_8 hx9; have hn7_9 := up_ints hn7_8 hx9; obtain ⟨_, e0_9, e1_9, e2_9, e3_9⟩ := HK.out _ hb9))
  go_ret
  exact ⟨rfl, hb0.trans (hb9.mono (by omega))⟩
end Go.Proofs.YtcebihijnedekaaDoor
