/-
  Products of turns, by the backs that they make of one with four colours.
-/
import Derived.Test.YtbcbaaapogejiaaDoorMathA
namespace Go.Proofs.YtbcbaaapogejiaaDoor

def four : List Int := [0, 1, 2, 3]
/-- What two turns make of a back with four colours. -/
def bothL (a b : Nat) : List Int := tdL (srcs 2 2 (mv b)) (tdL (srcs 2 2 (mv a)) four)
theorem ref_prod : ∀ a, a < 8 → ∀ b, b < 8 → prodN a b < 8 ∧ tdL (srcs 2 2 (mv (prodN a b))) four = bothL a b ∧ ∀ t, t < prodN a b → tdL (srcs 2 2 (mv t)) four ≠ bothL a b := by decide +kernel
theorem four_len (t : Nat) (b : List Int) : (tdL (srcs 2 2 (mv t)) b).length = 4 := by rw [tdL_len, srcs_len]
theorem kind22 (t : Nat) : kindOk 2 2 t = true := by simp [kindOk]

/-- What the product of any two numbers is, and the error. -/
def prdE (a b : Int) : Int × Int := if 0 ≤ a ∧ a < 8 ∧ 0 ≤ b ∧ b < 8 then (((prodN a.toNat b.toNat : Nat) : Int), 0) else (0, 2)
theorem prdE_in {a b : Nat} (ha : a < 8) (hb : b < 8) : prdE a b = (((prodN a b : Nat) : Int), 0) := by unfold prdE; rw [if_pos (by omega)]; simp
theorem prdE_out {a b : Int} (h : ¬ (0 ≤ a ∧ a < 8 ∧ 0 ≤ b ∧ b < 8)) : prdE a b = (0, 2) := by unfold prdE; rw [if_neg h]
end Go.Proofs.YtbcbaaapogejiaaDoor
