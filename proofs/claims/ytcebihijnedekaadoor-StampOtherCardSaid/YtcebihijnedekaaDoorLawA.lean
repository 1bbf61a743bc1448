/-
  The walk of the statement on rooms that are a proof against books: it answers true.
-/
import Derived.Test.YtcebihijnedekaaDoorRefF
import Derived.Test.YtcebihijnedekaaDoorRefG
import Derived.Test.YtcebihijnedekaaDoorKnownB
import Derived.Deep.RegionHeld3
namespace Go.Proofs.YtcebihijnedekaaDoor
open Go.RowKit

/-- An answer of a call that keeps what lay in W0. -/
def Kept (W0 : World) (v : Value) (e : Ending) (w' : World) : Prop := e = .returned v ∧ Below W0.heap.size W0 w'

theorem kept_of {W0 W : World} {f : Nat} {args : Array Value} {v : Value} (hW : Below W0.heap.size W0 W) (h : Calls Tryd.prog f args W fun e w' => e = .returned v ∧ Below W.heap.size W w') :
    Calls Tryd.prog f args W (Kept W0 v) := h.mono fun _ _ ⟨he, hb⟩ => ⟨he, hW.trans (hb.mono hW.size)⟩

theorem same_kept {W0 W : World} {A D : Option Addr} {c d : Nat} {l : List Int} (hl : l.length ≤ 1000) (hA : IntsAt W0 W0.heap.size A l) (hD : IntsAt W0 W0.heap.size D l) (hW : Below W0.heap.size W0 W) :
    Calls Tryd.prog 22 #[.slice A l.length c, .slice D l.length d] W (Kept W0 (.bool true)) :=
  kept_of hW ((same_any A D c d l l W hl ((hA.below hW (Nat.le_refl _)).mono hW.size) ((hD.below hW (Nat.le_refl _)).mono hW.size)).mono fun _ _ ⟨he, hb⟩ => ⟨by rw [he, decide_eq_true rfl], hb⟩)

theorem works_kept {W0 W : World} (ht : SizesAt W0) (hW : Below W0.heap.size W0 W) : Calls Tryd.prog 16 #[] W (Kept W0 (.bool true)) := kept_of hW (works_any W (ht.below hW))

theorem up_ways {W0 W : World} {A : Option Addr} {ws : List Wy} (h : WaysAt W0 W0.heap.size A ws) (hW : Below W0.heap.size W0 W) : WaysAt W W.heap.size A ws := (h.below hW (Nat.le_refl _)).mono hW.size
theorem up_ints {W0 W : World} {A : Option Addr} {l : List Int} (h : IntsAt W0 W0.heap.size A l) (hW : Below W0.heap.size W0 W) : IntsAt W W.heap.size A l := (h.below hW (Nat.le_refl _)).mono hW.size

theorem agaS_len {R : Int} {ws : List Wy} : (agaS R ws).1.length ≤ 1000 := by
  unfold agaS
  split
  · rename_i h
    obtain ⟨rooms, rfl, _, hv, _⟩ := chk_ok h
    split
    · simp
    · have := listK_len rooms (fewS (qP rooms ws) rooms).1 rooms
      have := hv.r6
      unfold listS
      simp only [Int.toNat_natCast]
      omega
  · simp

set_option maxRecDepth 100000 in
set_option maxHeartbeats 2000000 in
theorem lawAgainst_any (R : Int) (A D : Option Addr) (c d : Nat) (ws : List Wy) (l : List Int) (w : World) (hw : WaysAt w w.heap.size A ws) (hd : IntsAt w w.heap.size D l) (ht : SizesAt w) :
    Calls Tryd.prog 5 #[.agg #[.int .i64 R, .slice A ws.length c], .slice D l.length d] w fun e w' => e = .returned (.bool true) ∧ Below w.heap.size w w' := by
  have HL := Lib.hid (fun W => large_any R A D ws.length c l.length d W)
  have hw1 := fun o => (hw.alloc (Nat.le_refl _) o).mono (B' := (w.alloc o).heap.size) (by simp)
  have hd1 := fun o => (hd.alloc (Nat.le_refl _) o).mono (B' := (w.alloc o).heap.size) (by simp)
  have ht1 := fun o => ht.alloc o
  by_cases h40 : 40 < ws.length ∨ 40 < l.length
  · rw [decide_eq_true h40] at HL
    clear h40
    go_enter Tryd.func5, Tryd.ntmps5
    go_wp2_with (first
      | (go_at_call 15; refine (HL.out _).mono ?_; rintro e w1 ⟨rfl, hb1⟩; have ht2 := (ht1 _).below hb1)
      | (go_at_call 16; refine (works_any _ ht2).mono ?_; rintro e w2 ⟨rfl, hb2⟩))
    go_ret
    exact ⟨rfl, ((Below.refl _ _).alloc (Nat.le_refl _) _).trans ((hb1.mono (by simp)).trans (hb2.mono (by have := hb1.size; simp at this; omega)))⟩
  rw [decide_eq_false h40] at HL
  have hl1 : l.length ≤ 1000 := by omega
  have hws : ws.length ≤ 40 := by omega
  clear h40
  have hal := agaS_len (R := R) (ws := ws)
  have H29 := Lib.hid (fun W h1 h2 => against_any R A c ws W h1 h2)
  have H30 := Lib.hid (fun W D d h1 => againstR_any R D d ws W h1)
  have H31 := Lib.hid (fun W h1 h2 => proves_any R A D c d ws l W hl1 h1 h2)
  have H32 := Lib.hid (fun W A' c' h1 h2 => provesR_any R A' D c' d ws l W hl1 h1 h2)
  generalize agaS R ws = r at hal H29 H30
  generalize prvS R ws l = p at H31 H32
  obtain ⟨L, er⟩ := r
  dsimp only at hal H29 H30
  go_enter Tryd.func5, Tryd.ntmps5
  go_wp2_with (first
    | (go_at_call 15; refine (HL.out _).mono ?_; rintro e w1 ⟨rfl, hb1⟩; obtain ⟨q1, q2, q3⟩ := bcell hb1; simp only [World.size_alloc] at q1 q2 q3; have ht2 := (ht1 _).below hb1; have hw2 := up_ways (hw1 _) hb1; have hd2 := up_ints (hd1 _) hb1)
    | (go_at_call 17; refine (given_any R A c ws _ hws hw2).mono ?_; rintro e w2 ⟨A2, c2, rfl, hA2, hb2⟩; obtain ⟨r1, r2, r3⟩ := bcell hb2; have hz1 : w.heap.size < w1.heap.size := (by omega); have hz2 : w.heap.size < w2.heap.size := (by omega); have ht3 := (ht2.below hb2).below (below_new w2 (.cells #[.int .i64 R, .slice A2 ws.length c2] 30)); have hw3 := up_ways (up_ways hw2 hb2) (below_new w2 (.cells #[.int .i64 R, .slice A2 ws.length c2] 30)); have hd3 := up_ints (up_ints hd2 hb2) (below_new w2 (.cells #[.int .i64 R, .slice A2 ws.length c2] 30)); have hA3 := up_ways hA2 (below_new w2 (.cells #[.int .i64 R, .slice A2 ws.length c2] 30)))
    | (go_at_call 29; refine (H29.out _ (by exact hw3) (by exact ht3)).mono ?_; rintro e w4 ⟨A4, c4, rfl, hL4, hb4⟩; obtain ⟨s1, s2, s3⟩ := bcell hb4; simp only [World.size_alloc] at s1 s2 s3; have hz4 : w.heap.size < w4.heap.size := (by omega); have hz24 : w2.heap.size < w4.heap.size := (by omega); have ht4 := ht3.below hb4; have hw4 := up_ways hw3 hb4; have hd4 := up_ints hd3 hb4; have hA4 := up_ways hA3 hb4)
    | (go_at_call 30; refine (H30.out _ A2 c2 (by exact hA4)).mono ?_; rintro e w5 ⟨A5, c5, rfl, hL5, hb5⟩; obtain ⟨t1, t2, t3⟩ := bcell hb5; have ht5 := ht4.below hb5; have hw5 := up_ways hw4 hb5; have hd5 := up_ints hd4 hb5; have hA5 := up_ways hA4 hb5; have hL6 := up_ints hL4 hb5))
  have hz5 : w.heap.size < w5.heap.size := by omega
  have hz25 : w2.heap.size < w5.heap.size := by omega
  have e0 : w5.cell? ⟨w.heap.size, 0, none⟩ = some (.int .i64 R) := by rw [t1 _ _ (by omega), s1 _ _ (by omega)]; rw [(below_new w2 _).cell (p := ⟨w.heap.size, 0, none⟩) hz2, r1 _ _ hz1, q1 _ _ (Nat.lt_succ_self _)]; simp [go_sem]
  have e1 : w5.cell? ⟨w.heap.size, 1, none⟩ = some (.slice A ws.length c) := by rw [t1 _ _ (by omega), s1 _ _ (by omega)]; rw [(below_new w2 _).cell (p := ⟨w.heap.size, 1, none⟩) hz2, r1 _ _ hz1, q1 _ _ (Nat.lt_succ_self _)]; simp [go_sem]
  have e2 : w5.cell? ⟨w2.heap.size, 0, none⟩ = some (.int .i64 R) := by rw [t1 _ _ (by omega), s1 _ _ (by omega)]; simp [go_sem]
  have e3 : w5.cell? ⟨w2.heap.size, 1, none⟩ = some (.slice A2 ws.length c2) := by rw [t1 _ _ (by omega), s1 _ _ (by omega)]; simp [go_sem]
  have hb0 : Below w.heap.size w w5 := ((Below.refl _ _).alloc (Nat.le_refl _) _).trans ((hb1.mono (by simp)).trans ((hb2.mono (by omega)).trans (((Below.refl w.heap.size w2).alloc (by omega) _).trans ((hb4.mono (by simp; omega)).trans (hb5.mono (by omega))))))
  have K22 := Lib.hid (fun W h => same_kept (W0 := w5) (W := W) (A := A4) (D := A5) (c := c4) (d := c5) hal hL6 hL5 h)
  have K31 := Lib.hid (fun W h => kept_of (W0 := w5) h (H31.out W (up_ways hw5 h) (up_ints hd5 h)))
  have K32 := Lib.hid (fun W h => kept_of (W0 := w5) h (H32.out W A2 c2 (up_ways hA5 h) (up_ints hd5 h)))
  have K16 := Lib.hid (fun W h => works_kept (W0 := w5) (W := W) ht5 h)
  clear HL hw1 hd1 ht1 hw hd ht H29 H30 H31 H32 q1 q2 q3 r1 r2 r3 s1 s2 s3 t1 t2 t3 hb1 hb2 hb4 hb5 ht2 ht3 ht4 ht5 hw2 hw3 hw4 hw5 hd2 hd3 hd4 hd5 hA2 hA3 hA4 hA5 hL4 hL5 hL6 hal hl1 hws
  have hK : ∀ w', Below w5.heap.size w5 w' → Below w5.heap.size w5 w' ∧ w'.cell? ⟨w.heap.size, 0, none⟩ = some (.int .i64 R) ∧ w'.cell? ⟨w.heap.size, 1, none⟩ = some (.slice A ws.length c) ∧ w'.cell? ⟨w2.heap.size, 0, none⟩ = some (.int .i64 R) ∧ w'.cell? ⟨w2.heap.size, 1, none⟩ = some (.slice A2 ws.length c2) :=
    fun w' h => ⟨h, (h.cell (p := ⟨w.heap.size, 0, none⟩) hz5).trans e0, (h.cell (p := ⟨w.heap.size, 1, none⟩) hz5).trans e1, (h.cell (p := ⟨w2.heap.size, 0, none⟩) hz25).trans e2, (h.cell (p := ⟨w2.heap.size, 1, none⟩) hz25).trans e3⟩
  have HK := Lib.hid hK
  clear hK
  have hb5 : Below w5.heap.size w5 w5.drew := (Below.refl _ _).drew
  go_wp2
  go_region_held3 (fun w' => Below w5.heap.size w5 w' ∧ w'.cell? ⟨w.heap.size, 0, none⟩ = some (.int .i64 R) ∧ w'.cell? ⟨w.heap.size, 1, none⟩ = some (.slice A ws.length c) ∧ w'.cell? ⟨w2.heap.size, 0, none⟩ = some (.int .i64 R) ∧ w'.cell? ⟨w2.heap.size, 1, none⟩ = some (.slice A2 ws.length c2))
    (exact HK.out _ (by assumption))
    (first
      | (go_at_call 22; refine (K22.out _ (by assumption)).mono ?_; rintro e w6 ⟨rfl, hb6⟩)
      | (go_at_call 31; refine (K31.out _ (by assumption)).mono ?_; rintro e w7 ⟨rfl, hb7⟩)
      | (go_at_call 32; refine (K32.out _ (by assumption)).mono ?_; rintro e w8 ⟨rfl, hb8⟩)
      | (go_at_call 16; refine (K16.out _ (by assumption)).mono ?_; rintro e w9 ⟨rfl, hb9⟩))
  all_goals
    go_wp2
    go_ret
    exact ⟨rfl, hb0.trans (Below.mono (by assumption) (by omega))⟩
end Go.Proofs.YtcebihijnedekaaDoor
