/-
  The walk of the statement on flows: it answers true.
-/
import Derived.Test.YtcebihijnedekaaDoorLawA
import Derived.Test.YtcebihijnedekaaDoorRefL
namespace Go.Proofs.YtcebihijnedekaaDoor
open Go.RowKit

theorem frsS_len {R : Int} {ws : List Wy} : (frsS R ws).1.length ≤ 1000 := by
  unfold frsS
  by_cases h : chkA R ws = 0
  · rw [if_pos h]
    obtain ⟨rooms, rfl, _, hv, ha⟩ := chkA_ok h
    have := (firstK_spec hv.inW hv.okW ha ws.length (Nat.le_refl _)).1
    have := hv.len
    show (firstK rooms ws ws.length).length ≤ 1000
    omega
  · rw [if_neg h]; simp

set_option maxRecDepth 100000 in
set_option maxHeartbeats 4000000 in
theorem lawFlows_any (w : World) (R : Int) (A : Option Addr) (c : Nat) (ws : List Wy) (D : Option Addr) (d : Nat) (l : List Int) (hw : WaysAt w w.heap.size A ws) (hd : IntsAt w w.heap.size D l) (ht : SizesAt w) :
    Calls Tryd.prog 3 #[.agg #[.int .i64 R, .slice A ws.length c], .slice D l.length d] w fun e w' => e = .returned (.bool true) ∧ Below w.heap.size w w' := by
  have HL := Lib.hid (fun W => large_any R A D ws.length c l.length d W)
  have hw1 := fun o => (hw.alloc (Nat.le_refl _) o).mono (B' := (w.alloc o).heap.size) (by simp)
  have hd1 := fun o => (hd.alloc (Nat.le_refl _) o).mono (B' := (w.alloc o).heap.size) (by simp)
  have ht1 := fun o => ht.alloc o
  by_cases h40 : 40 < ws.length ∨ 40 < l.length
  · rw [decide_eq_true h40] at HL
    clear h40
    go_enter Tryd.func3, Tryd.ntmps3
    go_wp2_with (first
      | (go_at_call 15; refine (HL.out _).mono ?_; rintro e w1 ⟨rfl, hb1⟩; have ht2 := (ht1 _).below hb1)
      | (go_at_call 16; refine (works_any _ ht2).mono ?_; rintro e w2 ⟨rfl, hb2⟩))
    go_ret
    exact ⟨rfl, ((Below.refl _ _).alloc (Nat.le_refl _) _).trans ((hb1.mono (by simp)).trans (hb2.mono (by have := hb1.size; simp at this; omega)))⟩
  rw [decide_eq_false h40] at HL
  have hl1 : l.length ≤ 1000 := by omega
  have hws : ws.length ≤ 40 := by omega
  clear h40
  have hfl := frsS_len (R := R) (ws := ws)
  have K18 := Lib.hid (fun W h1 h2 => can_any R A c ws W h1 h2)
  have K19 := Lib.hid (fun A' c' W h1 => canR19_any R A' c' ws W h1)
  have K20 := Lib.hid (fun W h1 h2 => first20_any R A c ws W h1 h2)
  have K21 := Lib.hid (fun A' c' W h1 => first21_any R A' c' ws W h1)
  have K23 := Lib.hid (fun W h1 => check_any R A c ws W h1)
  have K24 := Lib.hid (fun A' c' W h1 => checkR_any R A' c' ws W h1)
  have K25 := Lib.hid (fun W h1 h2 => verify_any R A D c d ws l W h1 h2)
  have K26 := Lib.hid (fun A' c' W h1 h2 => verifyR_any R A' D c' d ws l W h1 h2)
  generalize canS R ws = b at K18 K19
  generalize chk R ws = ck at K18 K19 K23 K24
  generalize verS R ws l = vf at K25 K26
  generalize frsS R ws = P at hfl K20 K21
  obtain ⟨P, ep⟩ := P
  dsimp only at hfl K20 K21
  go_enter Tryd.func3, Tryd.ntmps3
  go_wp2_with (first
    | (go_at_call 15; refine (HL.out _).mono ?_; rintro e w1 ⟨rfl, hb1⟩; obtain ⟨q1, q2, q3⟩ := bcell hb1; simp only [World.size_alloc] at q1 q2 q3; have ht2 := (ht1 _).below hb1; have hw2 := up_ways (hw1 _) hb1; have hd2 := up_ints (hd1 _) hb1)
    | (go_at_call 17; refine (given_any R A c ws _ hws hw2).mono ?_; rintro e w2 ⟨A2, c2, rfl, hA2, hb2⟩; obtain ⟨r1, r2, r3⟩ := bcell hb2; have hz1 : w.heap.size < w1.heap.size := (by omega); have hz2 : w.heap.size < w2.heap.size := (by omega)))
  have bn := below_new w2 (.cells #[.int .i64 R, .slice A2 ws.length c2] 30)
  have e0 : (w2.alloc (.cells #[.int .i64 R, .slice A2 ws.length c2] 30)).cell? ⟨w.heap.size, 0, none⟩ = some (.int .i64 R) := by rw [bn.cell (p := ⟨w.heap.size, 0, none⟩) hz2, r1 _ _ hz1, q1 _ _ (Nat.lt_succ_self _)]; simp [go_sem]
  have e1 : (w2.alloc (.cells #[.int .i64 R, .slice A2 ws.length c2] 30)).cell? ⟨w.heap.size, 1, none⟩ = some (.slice A ws.length c) := by rw [bn.cell (p := ⟨w.heap.size, 1, none⟩) hz2, r1 _ _ hz1, q1 _ _ (Nat.lt_succ_self _)]; simp [go_sem]
  have e2 : (w2.alloc (.cells #[.int .i64 R, .slice A2 ws.length c2] 30)).cell? ⟨w2.heap.size, 0, none⟩ = some (.int .i64 R) := by simp [go_sem]
  have e3 : (w2.alloc (.cells #[.int .i64 R, .slice A2 ws.length c2] 30)).cell? ⟨w2.heap.size, 1, none⟩ = some (.slice A2 ws.length c2) := by simp [go_sem]
  have ht3 := (ht2.below hb2).below bn
  have hw3 := up_ways (up_ways hw2 hb2) bn
  have hd3 := up_ints (up_ints hd2 hb2) bn
  have hA3 := up_ways hA2 bn
  have hb0 : Below w.heap.size w (w2.alloc (.cells #[.int .i64 R, .slice A2 ws.length c2] 30)) := ((Below.refl _ _).alloc (Nat.le_refl _) _).trans ((hb1.mono (by simp)).trans ((hb2.mono (by omega)).trans (bn.mono (by omega))))
  have hz5 : w.heap.size < (w2.alloc (.cells #[.int .i64 R, .slice A2 ws.length c2] 30)).heap.size := by simp; omega
  have hz25 : w2.heap.size < (w2.alloc (.cells #[.int .i64 R, .slice A2 ws.length c2] 30)).heap.size := by simp
  obtain ⟨W3, hW3⟩ : ∃ W3, W3 = w2.alloc (.cells #[.int .i64 R, .slice A2 ws.length c2] 30) := ⟨_, rfl⟩
  rw [← hW3] at ht3 hw3 hd3 hA3 e0 e1 e2 e3 hb0 hz5 hz25 ⊢
  obtain ⟨g5, hg5⟩ : ∃ g5, g5 = w2.heap.size := ⟨_, rfl⟩
  rw [← hg5] at e2 e3 hz25 ⊢
  have hK : ∀ w', Below W3.heap.size W3 w' → Below W3.heap.size W3 w' ∧ w'.cell? ⟨w.heap.size, 0, none⟩ = some (.int .i64 R) ∧ w'.cell? ⟨w.heap.size, 1, none⟩ = some (.slice A ws.length c) ∧ w'.cell? ⟨g5, 0, none⟩ = some (.int .i64 R) ∧ w'.cell? ⟨g5, 1, none⟩ = some (.slice A2 ws.length c2) :=
    fun w' h => ⟨h, (h.cell (p := ⟨w.heap.size, 0, none⟩) hz5).trans e0, (h.cell (p := ⟨w.heap.size, 1, none⟩) hz5).trans e1, (h.cell (p := ⟨g5, 0, none⟩) hz25).trans e2, (h.cell (p := ⟨g5, 1, none⟩) hz25).trans e3⟩
  have HK := Lib.hid hK
  clear hW3 hg5 hK bn q1 q2 q3 r1 r2 r3 hA2 hw2 ht2 hb1 hb2 hw1 ht1 hw ht HL hz1 hz2 hd hd1 hd2
  have hb3 : Below W3.heap.size W3 W3 := Below.refl _ _
  refine (K18.out _ hw3 ht3).mono ?_
  rintro e w104 ⟨rfl, hx4⟩
  have hb4 := hb3.trans (hx4.mono hb3.size)
  have ht4 := SizesAt.below ht3 hx4
  have hw4 := up_ways hw3 hx4
  have hd4 := up_ints hd3 hx4
  have hA4 := up_ways hA3 hx4
  obtain ⟨_, e0_4, e1_4, e2_4, e3_4⟩ := HK.out _ hb4
  go_wp2_with (first
    | (go_at_call 19; refine (K19.out A2 c2 _ hA4).mono ?_; rintro e w105 ⟨rfl, hx5⟩; have hb5 := hb4.trans (hx5.mono hb4.size); have ht5 := SizesAt.below ht4 hx5; have hw5 := up_ways hw4 hx5; have hd5 := up_ints hd4 hx5; have hA5 := up_ways hA4 hx5; obtain ⟨_, e0_5, e1_5, e2_5, e3_5⟩ := HK.out _ hb5)
    | (go_at_call 20; refine (K20.out _ hw5 ht5).mono ?_; rintro e w106 ⟨B6, b6, rfl, hn6_6, hx6⟩; have hb6 := hb5.trans (hx6.mono hb5.size); have ht6 := SizesAt.below ht5 hx6; have hw6 := up_ways hw5 hx6; have hd6 := up_ints hd5 hx6; have hA6 := up_ways hA5 hx6; obtain ⟨_, e0_6, e1_6, e2_6, e3_6⟩ := HK.out _ hb6)
    | (go_at_call 21; refine (K21.out A2 c2 _ hA6).mono ?_; rintro e w107 ⟨B7, b7, rfl, hn7_7, hx7⟩; have hb7 := hb6.trans (hx7.mono hb6.size); have ht7 := SizesAt.below ht6 hx7; have hw7 := up_ways hw6 hx7; have hd7 := up_ints hd6 hx7; have hA7 := up_ways hA6 hx7; have hn6_7 := up_ints hn6_6 hx7; obtain ⟨_, e0_7, e1_7, e2_7, e3_7⟩ := HK.out _ hb7))
  have hb5 : Below w107.heap.size w107 w107.drew := (Below.refl _ _).drew
  have F22 := Lib.hid (fun W h => same_kept (W0 := w107) (W := W) (A := B6) (D := B7) (c := b6) (d := b7) hfl hn6_7 hn7_7 h)
  have F23 := Lib.hid (fun W h => kept_of (W0 := w107) h (K23.out W (up_ways hw7 h)))
  have F24 := Lib.hid (fun W h => kept_of (W0 := w107) h (K24.out A2 c2 W (up_ways hA7 h)))
  have F25 := Lib.hid (fun W h => kept_of (W0 := w107) h (K25.out W (up_ways hw7 h) (up_ints hd7 h)))
  have F26 := Lib.hid (fun W h => kept_of (W0 := w107) h (K26.out A2 c2 W (up_ways hA7 h) (up_ints hd7 h)))
  have F16 := Lib.hid (fun W h => works_kept (W0 := w107) (W := W) ht7 h)
  have HKL := Lib.hid (fun w' (h : Below w107.heap.size w107 w') => (⟨h, (HK.out _ (hb7.trans (h.mono hb7.size))).2⟩ : Below w107.heap.size w107 w' ∧ w'.cell? ⟨w.heap.size, 0, none⟩ = some (.int .i64 R) ∧ w'.cell? ⟨w.heap.size, 1, none⟩ = some (.slice A ws.length c) ∧ w'.cell? ⟨g5, 0, none⟩ = some (.int .i64 R) ∧ w'.cell? ⟨g5, 1, none⟩ = some (.slice A2 ws.length c2)))
  have HB := Lib.hid hb7
  clear ht3 ht4 ht5 ht6 ht7 hw3 hw4 hw5 hw6 hw7 hd3 hd4 hd5 hd6 hd7 hA3 hA4 hA5 hA6 hA7 hn6_6 hn6_7 hn7_7 e0_4 e0_5 e0_6 e0_7 e1_4 e1_5 e1_6 e1_7 e2_4 e2_5 e2_6 e2_7 e3_4 e3_5 e3_6 e3_7 hx4 hx5 hx6 hx7 e0 e1 e2 e3 hb3 hb4 hb6 hb7
  go_wp2
  go_region_held3 (fun w' => Below w107.heap.size w107 w' ∧ w'.cell? ⟨w.heap.size, 0, none⟩ = some (.int .i64 R) ∧ w'.cell? ⟨w.heap.size, 1, none⟩ = some (.slice A ws.length c) ∧ w'.cell? ⟨g5, 0, none⟩ = some (.int .i64 R) ∧ w'.cell? ⟨g5, 1, none⟩ = some (.slice A2 ws.length c2))
    (exact HKL.out _ (by assumption))
    (first
      | (go_at_call 22; refine (F22.out _ (by assumption)).mono ?_; rintro e w222 ⟨rfl, hf22⟩)
      | (go_at_call 23; refine (F23.out _ (by assumption)).mono ?_; rintro e w223 ⟨rfl, hf23⟩)
      | (go_at_call 24; refine (F24.out _ (by assumption)).mono ?_; rintro e w224 ⟨rfl, hf24⟩)
      | (go_at_call 25; refine (F25.out _ (by assumption)).mono ?_; rintro e w225 ⟨rfl, hf25⟩)
      | (go_at_call 26; refine (F26.out _ (by assumption)).mono ?_; rintro e w226 ⟨rfl, hf26⟩)
      | (go_at_call 16; refine (F16.out _ (by assumption)).mono ?_; rintro e w216 ⟨rfl, hf16⟩))
  all_goals
    go_wp2
    go_ret
    exact ⟨rfl, hb0.trans (Below.mono (HB.out.trans (Below.mono (by assumption) HB.out.size)) (by omega))⟩
end Go.Proofs.YtcebihijnedekaaDoor
