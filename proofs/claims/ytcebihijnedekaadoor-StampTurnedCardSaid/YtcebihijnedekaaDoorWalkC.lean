/-
  Walks of the checks.
-/
import Derived.Test.YtcebihijnedekaaDoorWords
namespace Go.Proofs.YtcebihijnedekaaDoor
open Go.RowKit

theorem chkW2 {R : Int} {x : Wy} (h : x.src < 0 ∨ R ≤ x.src ∨ x.dst < 0 ∨ R ≤ x.dst) : chkW R x = 2 := by unfold chkW; rw [if_pos h]
theorem chkW13 {R : Int} {x : Wy} (h : 0 ≤ x.src ∧ x.src < R ∧ 0 ≤ x.dst ∧ x.dst < R) (h2 : x.src = x.dst) : chkW R x = 13 := by unfold chkW; rw [if_neg (by omega), if_pos h2]
theorem chkW1 {R : Int} {x : Wy} (h : 0 ≤ x.src ∧ x.src < R ∧ 0 ≤ x.dst ∧ x.dst < R) (h2 : ¬ x.src = x.dst) (h3 : x.lo < 0 ∨ 99 < x.hi ∨ x.hi < x.lo) : chkW R x = 1 := by unfold chkW; rw [if_neg (by omega), if_neg h2, if_pos h3]
theorem chkW0 {R : Int} {x : Wy} (h : 0 ≤ x.src ∧ x.src < R ∧ 0 ≤ x.dst ∧ x.dst < R) (h2 : ¬ x.src = x.dst) (h3 : 0 ≤ x.lo ∧ x.hi ≤ 99 ∧ x.lo ≤ x.hi) : chkW R x = 0 := by unfold chkW; rw [if_neg (by omega), if_neg h2, if_neg (by omega)]

set_option maxHeartbeats 1000000 in
theorem checkWay_any (R : Int) (x : Wy) (w : World) :
    Calls Tryd.prog 60 #[.int .i64 R, .agg #[.int .i64 x.src, .int .i64 x.dst, .int .i64 x.lo, .int .i64 x.hi]] w fun e w' => e = .returned (.int .i64 (chkW R x)) ∧ Below w.heap.size w w' := by
  rcases Int.lt_or_le x.src 0 with a1 | a1
  · rw [chkW2 (.inl a1)]
    go_enter Tryd.func60, Tryd.ntmps60
    go_wp2
    go_ret
    exact ⟨rfl, (Below.refl _ _).alloc (Nat.le_refl _) _⟩
  rcases Int.lt_or_le x.src R with a2 | a2
  rotate_left
  · rw [chkW2 (.inr (.inl a2))]
    go_enter Tryd.func60, Tryd.ntmps60
    go_wp2
    go_ret
    exact ⟨rfl, (Below.refl _ _).alloc (Nat.le_refl _) _⟩
  rcases Int.lt_or_le x.dst 0 with a3 | a3
  · rw [chkW2 (.inr (.inr (.inl a3)))]
    go_enter Tryd.func60, Tryd.ntmps60
    go_wp2
    go_ret
    exact ⟨rfl, (Below.refl _ _).alloc (Nat.le_refl _) _⟩
  rcases Int.lt_or_le x.dst R with a4 | a4
  rotate_left
  · rw [chkW2 (.inr (.inr (.inr a4)))]
    go_enter Tryd.func60, Tryd.ntmps60
    go_wp2
    go_ret
    exact ⟨rfl, (Below.refl _ _).alloc (Nat.le_refl _) _⟩
  by_cases a5 : x.src = x.dst
  · rw [chkW13 ⟨a1, a2, a3, a4⟩ a5]
    go_enter Tryd.func60, Tryd.ntmps60
    go_wp2
    go_ret
    exact ⟨rfl, (Below.refl _ _).alloc (Nat.le_refl _) _⟩
  rcases Int.lt_or_le x.lo 0 with a6 | a6
  · rw [chkW1 ⟨a1, a2, a3, a4⟩ a5 (.inl a6)]
    go_enter Tryd.func60, Tryd.ntmps60
    go_wp2
    go_ret
    exact ⟨rfl, (Below.refl _ _).alloc (Nat.le_refl _) _⟩
  rcases Int.lt_or_le 99 x.hi with a7 | a7
  · rw [chkW1 ⟨a1, a2, a3, a4⟩ a5 (.inr (.inl a7))]
    go_enter Tryd.func60, Tryd.ntmps60
    go_wp2
    go_ret
    exact ⟨rfl, (Below.refl _ _).alloc (Nat.le_refl _) _⟩
  rcases Int.lt_or_le x.hi x.lo with a8 | a8
  · rw [chkW1 ⟨a1, a2, a3, a4⟩ a5 (.inr (.inr a8))]
    go_enter Tryd.func60, Tryd.ntmps60
    go_wp2
    go_ret
    exact ⟨rfl, (Below.refl _ _).alloc (Nat.le_refl _) _⟩
  · rw [chkW0 ⟨a1, a2, a3, a4⟩ a5 ⟨a6, a7, a8⟩]
    go_enter Tryd.func60, Tryd.ntmps60
    go_wp2
    go_ret
    exact ⟨rfl, (Below.refl _ _).alloc (Nat.le_refl _) _⟩
end Go.Proofs.YtcebihijnedekaaDoor
