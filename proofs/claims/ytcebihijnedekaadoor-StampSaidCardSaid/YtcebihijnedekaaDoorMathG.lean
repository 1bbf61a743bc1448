/-
  What leaves a set of rooms at least, and enters it at most, by sums.
-/
import Derived.Test.YtcebihijnedekaaDoorWalkG
namespace Go.Proofs.YtcebihijnedekaaDoor
open Go.RowKit

/-- What leaves a set at least, by the first ways but one. -/
def sL (m : Int → Bool) (ws : List Wy) (n : Nat) : Nat → Int
  | 0 => 0
  | j + 1 => sL m ws n j + match ws[j]? with | some y => if j ≠ n ∧ lv m y = true then y.lo else 0 | none => 0
/-- What enters a set at most, by the first ways but one. -/
def sM (m : Int → Bool) (ws : List Wy) (n : Nat) : Nat → Int
  | 0 => 0
  | j + 1 => sM m ws n j + match ws[j]? with | some y => if j ≠ n ∧ en m y = true then y.hi else 0 | none => 0

theorem sL_bound {rooms : Nat} {ws : List Wy} (hv : ValB rooms ws) (m : Int → Bool) (n : Nat) : ∀ j, 0 ≤ sL m ws n j ∧ sL m ws n j ≤ 99 * (j : Int)
  | 0 => by simp [sL]
  | j + 1 => by
    have ih := sL_bound hv m n j
    unfold sL
    split
    · rename_i y hy
      have := hv.way y (mem_of_get hy)
      split <;> omega
    · omega
theorem sM_bound {rooms : Nat} {ws : List Wy} (hv : ValB rooms ws) (m : Int → Bool) (n : Nat) : ∀ j, 0 ≤ sM m ws n j ∧ sM m ws n j ≤ 99 * (j : Int)
  | 0 => by simp [sM]
  | j + 1 => by
    have ih := sM_bound hv m n j
    unfold sM
    split
    · rename_i y hy
      have := hv.way y (mem_of_get hy)
      split <;> omega
    · omega

theorem sLM {ws : List Wy} {n : Nat} {x : Wy} (m : Int → Bool) (hx : ws[n]? = some x) : ∀ j, j ≤ ws.length → sL m ws n j - sM m ws n j = ex m (ws.take j) - (if n < j then ex1 m x else 0)
  | 0, _ => by simp [sL, sM, ex]
  | j + 1, h => by
    have ih := sLM m hx j (by omega)
    have hy : ws[j]? = some (ws[j]'(by omega)) := List.getElem?_eq_getElem (by omega)
    generalize ws[j]'(by omega) = y at hy
    rw [ex_take_succ m hy]
    unfold sL sM
    rw [hy]
    dsimp only
    by_cases hjn : j = n
    · subst hjn
      rw [hx] at hy
      cases hy
      rw [if_neg (by simp), if_neg (by simp), if_pos (by omega)]
      rw [if_neg (by omega)] at ih
      omega
    · have e : (if n < j + 1 then ex1 m x else 0) = (if n < j then ex1 m x else 0) := by
        by_cases h1 : n < j
        · rw [if_pos h1, if_pos (by omega)]
        · rw [if_neg h1, if_neg (by omega)]
      rw [e]
      rcases xb_cases m y with ⟨a1, a2, a3, _⟩ | ⟨a1, a2, a3, _⟩ | ⟨a1, a2, a3, _⟩ <;> simp [a1, a2, a3, hjn] <;> omega

/-- What rooms say, by sums. -/
theorem says_sum {ws : List Wy} {n : Nat} {x : Wy} (m : Int → Bool) (hx : ws[n]? = some x) :
    (lv m x = true → saysV m ws x = sM m ws n ws.length - sL m ws n ws.length) ∧ (en m x = true → saysV m ws x = sL m ws n ws.length - sM m ws n ws.length) := by
  have h := sLM m hx ws.length (Nat.le_refl _)
  rw [List.take_length, if_pos (lt_of_get hx)] at h
  unfold saysV
  rcases xb_cases m x with ⟨a1, a2, a3, _⟩ | ⟨a1, a2, a3, _⟩ | ⟨a1, a2, a3, _⟩ <;> rw [a3] at h <;> simp [a1, a2] <;> omega
end Go.Proofs.YtcebihijnedekaaDoor
