/-
  The reference: what rooms say of a way.
-/
import Derived.Test.YtcebihijnedekaaDoorRefI
import Derived.Test.YtcebihijnedekaaDoorRefD
import Derived.Test.YtcebihijnedekaaDoorWalkS
import Derived.Deep.RegionHeld3
namespace Go.Proofs.YtcebihijnedekaaDoor
open Go.RowKit

/-- What leaves a set at least, by the first ways but one. -/
def sL (m : Int → Bool) (ws : List Wy) (n : Nat) : Nat → Int
  | 0 => 0
  | j + 1 => sL m ws n j + match ws[j]? with | some y => if j ≠ n ∧ lv m y = true then y.lo else 0 | none => 0
/-- What enters a set at most, by the first ways but one. -/
def sM (m : Int → Bool) (ws : List Wy) (n : Nat) : Nat → Int
  | 0 => 0
  | j + 1 => sM m ws n j + match ws[j]? with | some y => if j ≠ n ∧ en m y = true then y.hi else 0 | none => 0

theorem sL_bound {rooms : Nat} {ws : List Wy} (hv : ValB rooms ws) (m : Int → Bool) (n : Nat) : ∀ j, 0 ≤ sL m ws n j ∧ sL m ws n j ≤ 99 * (j : Int)
  | 0 => by simp [sL]
  | j + 1 => by
    have ih := sL_bound hv m n j
    unfold sL
    split
    · rename_i y hy
      have := hv.way y (mem_of_get hy)
      split <;> omega
    · omega
theorem sM_bound {rooms : Nat} {ws : List Wy} (hv : ValB rooms ws) (m : Int → Bool) (n : Nat) : ∀ j, 0 ≤ sM m ws n j ∧ sM m ws n j ≤ 99 * (j : Int)
  | 0 => by simp [sM]
  | j + 1 => by
    have ih := sM_bound hv m n j
    unfold sM
    split
    · rename_i y hy
      have := hv.way y (mem_of_get hy)
      split <;> omega
    · omega

theorem sLM {ws : List Wy} {n : Nat} {x : Wy} (m : Int → Bool) (hx : ws[n]? = some x) : ∀ j, j ≤ ws.length → sL m ws n j - sM m ws n j = ex m (ws.take j) - (if n < j then ex1 m x else 0)
  | 0, _ => by simp [sL, sM, ex]
  | j + 1, h => by
    have ih := sLM m hx j (by omega)
    have hy : ws[j]? = some (ws[j]'(by omega)) := List.getElem?_eq_getElem (by omega)
    generalize ws[j]'(by omega) = y at hy
    rw [ex_take_succ m hy]
    unfold sL sM
    rw [hy]
    dsimp only
    by_cases hjn : j = n
    · subst hjn
      rw [hx] at hy
      cases hy
      rw [if_neg (by simp), if_neg (by simp), if_pos (by omega)]
      rw [if_neg (by omega)] at ih
      omega
    · have e : (if n < j + 1 then ex1 m x else 0) = (if n < j then ex1 m x else 0) := by
        by_cases h1 : n < j
        · rw [if_pos h1, if_pos (by omega)]
        · rw [if_neg h1, if_neg (by omega)]
      rw [e]
      rcases xb_cases m y with ⟨a1, a2, a3, _⟩ | ⟨a1, a2, a3, _⟩ | ⟨a1, a2, a3, _⟩ <;> simp [a1, a2, a3, hjn] <;> omega

/-- What rooms say, by sums. -/
theorem says_sum {ws : List Wy} {n : Nat} {x : Wy} (m : Int → Bool) (hx : ws[n]? = some x) :
    (lv m x = true → saysV m ws x = sM m ws n ws.length - sL m ws n ws.length) ∧ (en m x = true → saysV m ws x = sL m ws n ws.length - sM m ws n ws.length) := by
  have h := sLM m hx ws.length (Nat.le_refl _)
  rw [List.take_length, if_pos (lt_of_get hx)] at h
  unfold saysV
  rcases xb_cases m x with ⟨a1, a2, a3, _⟩ | ⟨a1, a2, a3, _⟩ | ⟨a1, a2, a3, _⟩ <;> rw [a3] at h <;> simp [a1, a2] <;> omega

set_option maxHeartbeats 4000000 in
theorem saysR_any (rooms s n : Nat) (A : Option Addr) (c : Nat) (ws : List Wy) (x : Wy) (w : World) (hv : ValB rooms ws) (hs : s < 64) (hx : ws[n]? = some x) (hside : lv (memR s) x = true ∨ en (memR s) x = true) (hw : WaysAt w w.heap.size A ws) :
    Calls Tryd.prog 82 #[.agg #[.int .i64 rooms, .slice A ws.length c], .int .i64 s, .int .i64 n] w fun e w' =>
      e = .returned (.int .i64 (saysV (memR s) ws x)) ∧ Below w.heap.size w w' := by
  have hr6 := hv.r6
  have hlen := hv.len
  have hsum := says_sum (memR s) hx
  have hn := lt_of_get hx
  have HSL := Lib.hid (fun j => sL_bound hv (memR s) n j)
  have HSM := Lib.hid (fun j => sM_bound hv (memR s) n j)
  have hni : (n : Int) < (ws.length : Int) := by omega
  have hn0 : (0 : Int) ≤ (n : Int) := by omega
  go_enter Tryd.func82, Tryd.ntmps82
  go_wp2
  obtain ⟨W0, hW0⟩ : ∃ W0, W0 = w.alloc (.cells #[.int .i64 rooms, .slice A ws.length c] 30) := ⟨_, rfl⟩
  have hz0 : w.heap.size < W0.heap.size := by rw [hW0]; simp
  have hb0 : Below w.heap.size w W0 := by rw [hW0]; exact (Below.refl _ _).alloc (Nat.le_refl _) _
  have hc1 : W0.cell? ⟨w.heap.size, 1, none⟩ = some (.slice A ws.length c) := by rw [hW0]; simp [go_sem]
  have hw0 := hw.below hb0 (Nat.le_refl _)
  rw [← hW0]
  clear hW0
  go_loopw [7, 8, 9, 10, 11] (fun a b i _ _ wr => ∃ j : Nat, j ≤ ws.length ∧ i = .int .i64 j ∧ a = .int .i64 (sL (memR s) ws n j) ∧ b = .int .i64 (sM (memR s) ws n j) ∧ Below W0.heap.size W0 wr) (fun _ _ i _ _ _ => ws.length - (intOf i).toNat)
  case atStart => exact ⟨0, Nat.zero_le _, rfl, rfl, rfl, Below.refl _ _⟩
  case round =>
    obtain ⟨j, hj, rfl, rfl, rfl, hbw⟩ := hrel
    have hd1 := (hbw.cell (p := ⟨w.heap.size, 1, none⟩) hz0).trans hc1
    have hww := hw0.below hbw (by omega)
    have hsz : w.heap.size < wr.heap.size := by have := hbw.size; omega
    have hb1 := HSL.out j
    have hb2 := HSM.out j
    by_cases hlt : j < ws.length
    · have hy : ws[j]? = some ws[j] := List.getElem?_eq_getElem hlt
      generalize ws[j] = y at hy
      obtain ⟨b, off, rfl, hb, h1, h2, h3, h4⟩ := hww j y hy
      obtain ⟨hx1, hx2, hx3, hx4, hx5⟩ := hv.way y (mem_of_get hy)
      have hbr : b < wr.heap.size := by omega
      have hsl : sL (memR s) ws n (j + 1) = sL (memR s) ws n j + if j ≠ n ∧ lv (memR s) y = true then y.lo else 0 := by rw [sL, hy]
      have hsm : sM (memR s) ws n (j + 1) = sM (memR s) ws n j + if j ≠ n ∧ en (memR s) y = true then y.hi else 0 := by rw [sM, hy]
      have H80 := fun W => leaves_any s y W hs (by omega) (by omega) (by omega) (by omega)
      have H81 := fun W => enters_any s y W hs (by omega) (by omega) (by omega) (by omega)
      have hji : (j : Int) < (ws.length : Int) := by omega
      have hj0 : (0 : Int) ≤ (j : Int) := by omega
      generalize sL (memR s) ws n j = E at hb1 hsl ⊢
      generalize sM (memR s) ws n j = F at hb2 hsm ⊢
      have hbE : 0 ≤ E ∧ E ≤ 1188 := by omega
      have hbF : 0 ≤ F ∧ F ≤ 1188 := by omega
      clear hb1 hb2 hw hw0 hww hy hsum hside HSL HSM
      have hjn : ((j : Int) != (n : Int)) = true ∧ j ≠ n ∨ ((j : Int) != (n : Int)) = false ∧ j = n := by
        by_cases h : j = n
        · exact .inr ⟨by subst h; simp, h⟩
        · exact .inl ⟨by simpa using (by omega : ¬ (j : Int) = n), h⟩
      rcases xb_cases (memR s) y with ⟨a1, a2, _, _⟩ | ⟨a1, a2, _, _⟩ | ⟨a1, a2, _, _⟩ <;> rcases hjn with ⟨b1, b2⟩ | ⟨b1, b2⟩
      all_goals
        rw [a1] at H80 hsl
        rw [a2] at H81 hsm
        first | (subst b2; simp at hsl hsm) | (simp [b2] at hsl hsm)
        have K80 := Lib.hid (fun W (h : Below wr.heap.size wr W) => (H80 W).mono fun _ _ ⟨he, hb⟩ => (⟨he, h.trans (hb.mono h.size)⟩ : _ ∧ _))
        have K81 := Lib.hid (fun W (h : Below wr.heap.size wr W) => (H81 W).mono fun _ _ ⟨he, hb⟩ => (⟨he, h.trans (hb.mono h.size)⟩ : _ ∧ _))
        have HT := Lib.hid hsl
        have HU := Lib.hid hsm
        have HKK := Lib.hid (fun w' (h : Below wr.heap.size wr w') => (⟨h, (h.cell (p := ⟨w.heap.size, 1, none⟩) hsz).trans hd1, (h.cell (p := ⟨b, _, none⟩) hbr).trans h1, (h.cell (p := ⟨b, _, none⟩) hbr).trans h2, (h.cell (p := ⟨b, _, none⟩) hbr).trans h3, (h.cell (p := ⟨b, _, none⟩) hbr).trans h4⟩ : Below wr.heap.size wr w' ∧ w'.cell? ⟨w.heap.size, 1, none⟩ = some (.slice (some ⟨b, off, none⟩) ws.length c) ∧ w'.cell? ⟨b, off + j * 4, none⟩ = some (.int .i64 y.src) ∧ w'.cell? ⟨b, off + j * 4 + 1, none⟩ = some (.int .i64 y.dst) ∧ w'.cell? ⟨b, off + j * 4 + 2, none⟩ = some (.int .i64 y.lo) ∧ w'.cell? ⟨b, off + j * 4 + 3, none⟩ = some (.int .i64 y.hi)))
        have hbd := (Below.refl wr.heap.size wr).drew
        clear H80 H81 hsl hsm a1 a2
        go_wp2
        go_region_held3 (fun w' => Below wr.heap.size wr w' ∧ w'.cell? ⟨w.heap.size, 1, none⟩ = some (.slice (some ⟨b, off, none⟩) ws.length c) ∧ w'.cell? ⟨b, off + j * 4, none⟩ = some (.int .i64 y.src) ∧ w'.cell? ⟨b, off + j * 4 + 1, none⟩ = some (.int .i64 y.dst) ∧ w'.cell? ⟨b, off + j * 4 + 2, none⟩ = some (.int .i64 y.lo) ∧ w'.cell? ⟨b, off + j * 4 + 3, none⟩ = some (.int .i64 y.hi))
          (exact HKK.out _ (by assumption))
          (first
            | (go_at_call 80; refine (K80.out _ (by assumption)).mono ?_; rintro e w6 ⟨rfl, hb6⟩)
            | (go_at_call 81; refine (K81.out _ (by assumption)).mono ?_; rintro e w7 ⟨rfl, hb7⟩))
        all_goals
          obtain ⟨_, m1, m2, m3, m4, m5⟩ := HKK.out _ hb6
          obtain ⟨_, n1, n2, n3, n4, n5⟩ := HKK.out _ hb7
          go_wp2
          go_roundw
          case rel => exact ⟨j + 1, by omega, by go_num, by rw [HT.out]; try (first | rfl | go_num), by rw [HU.out]; try (first | rfl | go_num), hbw.trans (Below.mono (by assumption) hbw.size)⟩
          case measure => simp [intOf]; omega
    · have : j = ws.length := by omega
      subst this
      obtain ⟨b, off, rfl, hb, h1, h2, h3, h4⟩ := hww n x hx
      obtain ⟨hx1, hx2, hx3, hx4, hx5⟩ := hv.way x (mem_of_get hx)
      have H80 := fun W => leaves_any s x W hs (by omega) (by omega) (by omega) (by omega)
      generalize sL (memR s) ws n ws.length = E at *
      generalize sM (memR s) ws n ws.length = F at *
      have hbE : 0 ≤ E ∧ E ≤ 1188 := by omega
      have hbF : 0 ≤ F ∧ F ≤ 1188 := by omega
      rcases hside with hsd | hsd
      · rw [hsd] at H80
        have HR := Lib.hid (hsum.1 hsd)
        have K80 := Lib.hid H80
        clear H80 hsum hsd
        go_wp2_with (go_at_call 80; refine (K80.out _).mono ?_; rintro e w6 ⟨rfl, hb6⟩)
        go_ret
        exact ⟨ret_eq (by rw [HR.out]; try (first | rfl | go_num)), hb0.trans ((hbw.mono (by omega)).trans (hb6.mono (by omega)))⟩
      · have hlf : lv (memR s) x = false := by
          rcases xb_cases (memR s) x with ⟨a1, a2, _, _⟩ | ⟨a1, a2, _, _⟩ | ⟨a1, a2, _, _⟩
          · rw [a2] at hsd; cases hsd
          · exact a1
          · exact a1
        rw [hlf] at H80
        have HR := Lib.hid (hsum.2 hsd)
        have K80 := Lib.hid H80
        clear H80 hsum hsd hlf
        go_wp2_with (go_at_call 80; refine (K80.out _).mono ?_; rintro e w6 ⟨rfl, hb6⟩)
        go_ret
        exact ⟨ret_eq (by rw [HR.out]; try (first | rfl | go_num)), hb0.trans ((hbw.mono (by omega)).trans (hb6.mono (by omega)))⟩
end Go.Proofs.YtcebihijnedekaaDoor
