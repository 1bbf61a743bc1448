/-
  The reference: what a list of rooms says of a way, and which rooms prove the end of a span.
-/
import Derived.Test.YtcebihijnedekaaDoorRefM
import Derived.Test.YtcebihijnedekaaDoorRefF
import Derived.Test.YtcebihijnedekaaDoorRefJ
import Derived.Test.YtcebihijnedekaaDoorWalkV
namespace Go.Proofs.YtcebihijnedekaaDoor
open Go.RowKit

theorem side_congr {rooms : Nat} {ws : List Wy} (hv : inW rooms ws) {x : Wy} (hx : x ∈ ws) {m m' : Int → Bool} (h : ∀ r : Int, 0 ≤ r → r < rooms → m r = m' r) : sideV m x = sideV m' x ∧ saysV m ws x = saysV m' ws x := by
  obtain ⟨a, b⟩ := lv_congr hv hx h
  have c := ex_congr hv h
  unfold sideV saysV
  rw [a, b, c]
  exact ⟨rfl, rfl⟩

theorem side_cases (m : Int → Bool) (x : Wy) : (sideV m x = 1 ∧ lv m x = true ∧ en m x = false) ∨ (sideV m x = 2 ∧ lv m x = false ∧ en m x = true) ∨ (sideV m x = 0 ∧ lv m x = false ∧ en m x = false) := by
  unfold sideV
  rcases xb_cases m x with ⟨a1, a2, _, _⟩ | ⟨a1, a2, _, _⟩ | ⟨a1, a2, _, _⟩ <;> simp [a1, a2]

set_option maxHeartbeats 2000000 in
theorem says41_any (R k : Int) (A D : Option Addr) (c d : Nat) (ws : List Wy) (l : List Int) (w : World) (hl : l.length ≤ 1000) (hw : WaysAt w w.heap.size A ws) (hd : IntsAt w w.heap.size D l) :
    Calls Tryd.prog 41 #[.agg #[.int .i64 R, .slice A ws.length c], .slice D l.length d, .int .i64 k] w fun e w' => e = .returned (.tuple #[.int .i64 (sysS R ws l k).1, .int .i64 (sysS R ws l k).2]) ∧ Below w.heap.size w w' := by
  have HC := Lib.hid (fun W hW => askedR_any R k A c ws W hW)
  have hw1 := fun o => (hw.alloc (Nat.le_refl _) o).mono (B' := (w.alloc o).heap.size) (by simp)
  have hd1 := fun o => (hd.alloc (Nat.le_refl _) o).mono (B' := (w.alloc o).heap.size) (by simp)
  unfold sysS
  by_cases h0 : chkN R ws k = 0
  rotate_left
  · rw [if_neg h0]
    generalize chkN R ws k = v at h0 HC ⊢
    go_enter Tryd.func41, Tryd.ntmps41
    go_wp2_with (go_at_call 77; refine (HC.out _ (hw1 _)).mono ?_; rintro e w1 ⟨rfl, hb1⟩; obtain ⟨q1, q2, q3⟩ := bcell hb1; simp only [World.size_alloc] at q1 q2 q3)
    go_ret2
    exact ⟨rfl, ((Below.refl _ _).alloc (Nat.le_refl _) _).trans (hb1.mono (by simp))⟩
  obtain ⟨hk0, n, x, rfl, hx⟩ := chkN_ok h0
  obtain ⟨rooms, rfl, _, hv, _⟩ := chk_ok hk0
  rw [if_pos h0, show ((rooms : Int).toNat) = rooms from rfl, show ((n : Int).toNat) = n from rfl, hx]
  dsimp only
  rw [h0] at HC
  have hr6 := hv.r6
  have HL := Lib.hid (fun W hD => roomsR_any rooms A D ws.length c d l W hv.r6 hl hD)
  have hs64 := setRR_lt hv.r6 l 0 (-1) (by decide)
  obtain ⟨q1, q2⟩ := setRR_eq (rooms := rooms) l 0 0 (-1) (fun r _ _ => by unfold memR memP; simp)
  have q3 := fun h => side_congr hv.inW (mem_of_get hx) (q2 h)
  generalize setS rooms l 0 (-1) = r' at q1 q3 ⊢
  generalize setRR rooms l 0 (-1) = r at HL hs64 q1 q3 ⊢
  clear q2
  obtain ⟨s, er⟩ := r
  obtain ⟨s', er'⟩ := r'
  dsimp only at HL hs64 q1 q3 ⊢
  subst q1
  by_cases h1 : er = 0
  rotate_left
  · rw [if_neg h1]
    clear q3 hv hx hk0 h0
    go_enter Tryd.func41, Tryd.ntmps41
    go_wp2_with (first
      | (go_at_call 77; refine (HC.out _ (hw1 _)).mono ?_; rintro e w1 ⟨rfl, hb1⟩; obtain ⟨q1, q2, q3⟩ := bcell hb1; simp only [World.size_alloc] at q1 q2 q3; have hd2 := upi (hd1 _) hb1)
      | (go_at_call 74; refine (HL.out _ hd2).mono ?_; rintro e w2 ⟨rfl, hb2⟩))
    go_ret2
    exact ⟨rfl, ((Below.refl _ _).alloc (Nat.le_refl _) _).trans ((hb1.mono (by simp)).trans (hb2.mono (by omega)))⟩
  rw [if_pos h1]
  obtain ⟨e1, e2⟩ := q3 h1
  rw [← e1, ← e2]
  subst h1
  obtain ⟨hx1, hx2, hx3, hx4, hx5⟩ := hv.way x (mem_of_get hx)
  have H80 := fun W => leaves_any s x W hs64 (by omega) (by omega) (by omega) (by omega)
  have H81 := fun W => enters_any s x W hs64 (by omega) (by omega) (by omega) (by omega)
  have H82 := fun hside W hW => saysR_any rooms s n A c ws x W hv hs64 hx hside hW
  have hsc := side_cases (memR s) x
  generalize saysV (memR s) ws x = V at H82 ⊢
  generalize sideV (memR s) x = S at hsc ⊢
  have hni : (n : Int) < (ws.length : Int) := by have := lt_of_get hx; omega
  have hn0 : (0 : Int) ≤ (n : Int) := by omega
  obtain ⟨b, off, rfl, hb, z1, z2, z3, z4⟩ := hw n x hx
  have hbz : b < w.heap.size + 1 := by omega
  have zz := fun o => (hw.alloc (Nat.le_refl _) o) n x hx
  clear h0 hk0 hv e1 e2 q3 hx
  rcases hsc with ⟨rfl, a1, a2⟩ | ⟨rfl, a1, a2⟩ | ⟨rfl, a1, a2⟩
  · rw [a1] at H80
    have K80 := Lib.hid H80
    have K82 := Lib.hid (H82 (.inl a1))
    clear H80 H81 H82 a1 a2
    simp only [if_neg (show ¬ (1 : Int) = 0 by decide)]
    go_enter Tryd.func41, Tryd.ntmps41
    go_wp2_with (first
      | (go_at_call 77; refine (HC.out _ (hw1 _)).mono ?_; rintro e w1 ⟨rfl, hb1⟩; obtain ⟨q1, q2, q3⟩ := bcell hb1; simp only [World.size_alloc] at q1 q2 q3; have hd2 := upi (hd1 _) hb1; have hw2 := upw (hw1 _) hb1; have hzz : w.heap.size < w1.heap.size := (by omega); have hbz1 : b < w1.heap.size := (by omega))
      | (go_at_call 74; refine (HL.out _ hd2).mono ?_; rintro e w2 ⟨rfl, hb2⟩; obtain ⟨p1, p2, p3⟩ := bcell hb2; have hw3 := upw hw2 hb2; have hzz2 : w.heap.size < w2.heap.size := (by omega); have hbz2 : b < w2.heap.size := (by omega))
      | (go_at_call 80; refine (K80.out _).mono ?_; rintro e w3 ⟨rfl, hb3⟩; obtain ⟨r1, r2, r3⟩ := bcell hb3; have hw4 := upw hw3 hb3)
      | (go_at_call 82; refine (K82.out _ hw4).mono ?_; rintro e w4 ⟨rfl, hb4⟩))
    go_ret2
    exact ⟨rfl, ((Below.refl _ _).alloc (Nat.le_refl _) _).trans ((hb1.mono (by simp)).trans ((hb2.mono (by omega)).trans ((hb3.mono (by omega)).trans (hb4.mono (by omega)))))⟩
  · rw [a1] at H80
    rw [a2] at H81
    have K80 := Lib.hid H80
    have K81 := Lib.hid H81
    have K82 := Lib.hid (H82 (.inr a2))
    clear H80 H81 H82 a1 a2
    simp only [if_neg (show ¬ (2 : Int) = 0 by decide)]
    go_enter Tryd.func41, Tryd.ntmps41
    go_wp2_with (first
      | (go_at_call 77; refine (HC.out _ (hw1 _)).mono ?_; rintro e w1 ⟨rfl, hb1⟩; obtain ⟨q1, q2, q3⟩ := bcell hb1; simp only [World.size_alloc] at q1 q2 q3; have hd2 := upi (hd1 _) hb1; have hw2 := upw (hw1 _) hb1; have hzz : w.heap.size < w1.heap.size := (by omega); have hbz1 : b < w1.heap.size := (by omega))
      | (go_at_call 74; refine (HL.out _ hd2).mono ?_; rintro e w2 ⟨rfl, hb2⟩; obtain ⟨p1, p2, p3⟩ := bcell hb2; have hw3 := upw hw2 hb2; have hzz2 : w.heap.size < w2.heap.size := (by omega); have hbz2 : b < w2.heap.size := (by omega))
      | (go_at_call 80; refine (K80.out _).mono ?_; rintro e w3 ⟨rfl, hb3⟩; obtain ⟨r1, r2, r3⟩ := bcell hb3; have hw4 := upw hw3 hb3; have hzz3 : w.heap.size < w3.heap.size := (by omega); have hbz3 : b < w3.heap.size := (by omega))
      | (go_at_call 81; refine (K81.out _).mono ?_; rintro e w4 ⟨rfl, hb4⟩; obtain ⟨s1, s2, s3⟩ := bcell hb4; have hw5 := upw hw4 hb4)
      | (go_at_call 82; refine (K82.out _ hw5).mono ?_; rintro e w5 ⟨rfl, hb5⟩))
    go_ret2
    exact ⟨rfl, ((Below.refl _ _).alloc (Nat.le_refl _) _).trans ((hb1.mono (by simp)).trans ((hb2.mono (by omega)).trans ((hb3.mono (by omega)).trans ((hb4.mono (by omega)).trans (hb5.mono (by omega))))))⟩
  · rw [a1] at H80
    rw [a2] at H81
    have K80 := Lib.hid H80
    have K81 := Lib.hid H81
    clear H80 H81 H82 a1 a2
    simp only [if_true]
    go_enter Tryd.func41, Tryd.ntmps41
    go_wp2_with (first
      | (go_at_call 77; refine (HC.out _ (hw1 _)).mono ?_; rintro e w1 ⟨rfl, hb1⟩; obtain ⟨q1, q2, q3⟩ := bcell hb1; simp only [World.size_alloc] at q1 q2 q3; have hd2 := upi (hd1 _) hb1; have hw2 := upw (hw1 _) hb1; have hzz : w.heap.size < w1.heap.size := (by omega); have hbz1 : b < w1.heap.size := (by omega))
      | (go_at_call 74; refine (HL.out _ hd2).mono ?_; rintro e w2 ⟨rfl, hb2⟩; obtain ⟨p1, p2, p3⟩ := bcell hb2; have hw3 := upw hw2 hb2; have hzz2 : w.heap.size < w2.heap.size := (by omega); have hbz2 : b < w2.heap.size := (by omega))
      | (go_at_call 80; refine (K80.out _).mono ?_; rintro e w3 ⟨rfl, hb3⟩; obtain ⟨r1, r2, r3⟩ := bcell hb3; have hw4 := upw hw3 hb3; have hzz3 : w.heap.size < w3.heap.size := (by omega); have hbz3 : b < w3.heap.size := (by omega))
      | (go_at_call 81; refine (K81.out _).mono ?_; rintro e w4 ⟨rfl, hb4⟩))
    go_ret2
    exact ⟨rfl, ((Below.refl _ _).alloc (Nat.le_refl _) _).trans ((hb1.mono (by simp)).trans ((hb2.mono (by omega)).trans ((hb3.mono (by omega)).trans (hb4.mono (by omega)))))⟩
end Go.Proofs.YtcebihijnedekaaDoor
