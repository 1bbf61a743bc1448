/-
  Walks of plate.go: the cells that turns take colours from.
-/
import Derived.Test.YtbcbaaapogejiaaDoorTurA
import Derived.Test.YtbcbaaapogejiaaDoorLibB
namespace Go.Proofs.YtbcbaaapogejiaaDoor
open Go.RowKit

set_option maxHeartbeats 2000000 in
theorem source_any (R C : Nat) (K : Int) (TA : Value) (m : Mv) (row col : Nat) (w : World) (hR : R < 1000) (hC : C < 1000) (hr : row < 1000) (hc : col < 1000) :
    Calls Tryd.prog 140 #[.agg #[.bool m.x, .bool m.r, .bool m.c], .agg #[.int .i64 R, .int .i64 C, .int .i64 K, TA], .int .i64 row, .int .i64 col] w fun e w' =>
      e = .returned (.tuple #[.int .i64 (srow R m row col), .int .i64 (scol C m row col)]) ∧ Below w.heap.size w w' := by
  obtain ⟨x, r, c⟩ := m
  rcases x with _ | _ <;> rcases r with _ | _ <;> rcases c with _ | _
  all_goals
    go_enter Tryd.func140, Tryd.ntmps140
    go_wp2
    go_ret2
    exact ⟨by simp [srow, scol], ((Below.refl _ _).alloc (Nat.le_refl _) _).alloc (by simp) _⟩

set_option maxHeartbeats 1000000 in
theorem cells_any (R C : Nat) (K : Int) (TA FA : Value) (w : World) (hR : R < 1000) (hC : C < 1000) :
    Calls Tryd.prog 88 #[.agg #[.int .i64 R, .int .i64 C, .int .i64 K, TA, FA]] w fun e w' => e = .returned (.int .i64 (R * C : Nat)) ∧ Below w.heap.size w w' := by
  have h1 : (R : Int) * C < 1000000 := by
    have := Nat.mul_lt_mul'' hR hC
    have e : ((R * C : Nat) : Int) = (R : Int) * C := by simp
    omega
  have h0 : (0 : Int) ≤ (R : Int) * C := Int.mul_nonneg (by omega) (by omega)
  have e1 : IntKind.i64.wrap ((R : Int) * C) = (R : Int) * C := IntWalk.i64_in _ (by omega)
  go_enter Tryd.func88, Tryd.ntmps88
  go_wp2
  go_ret
  exact ⟨by simp, (Below.refl _ _).alloc (Nat.le_refl _) _⟩
end Go.Proofs.YtbcbaaapogejiaaDoor
