/-
  The reference: whether a set has a room, whether a way leaves or enters a set, and whether a number is between two others.
-/
import Derived.Test.YtcebihijnedekaaDoorWalkJ
namespace Go.Proofs.YtcebihijnedekaaDoor
open Go.RowKit

theorem retb_eq {a b : Bool} (h : a = b) : Ending.returned (.bool a) = .returned (.bool b) := by rw [h]

/-- Whether a number is between two others. -/
def inB (n lo hi : Int) : Bool := decide (lo ≤ n ∧ n ≤ hi)

set_option maxHeartbeats 400000 in
theorem in_any (n lo hi : Int) (w : World) : Calls Tryd.prog 61 #[.int .i64 n, .int .i64 lo, .int .i64 hi] w fun e w' => e = .returned (.bool (inB n lo hi)) ∧ w = w' := by
  rcases Int.lt_or_le n lo with h | h
  · rw [show inB n lo hi = false by unfold inB; exact decide_eq_false (by omega)]
    go_enter Tryd.func61, Tryd.ntmps61
    go_wp2
    go_ret
    exact ⟨rfl, rfl⟩
  rcases Int.lt_or_le hi n with h2 | h2
  · rw [show inB n lo hi = false by unfold inB; exact decide_eq_false (by omega)]
    go_enter Tryd.func61, Tryd.ntmps61
    go_wp2
    go_ret
    exact ⟨retb_eq (decide_eq_false (by omega)), rfl⟩
  · rw [show inB n lo hi = true by unfold inB; exact decide_eq_true (by omega)]
    go_enter Tryd.func61, Tryd.ntmps61
    go_wp2
    go_ret
    exact ⟨retb_eq (by first | rfl | exact decide_eq_true (by omega)), rfl⟩

theorem has_val : ∀ s : Nat, s < 64 → ∀ k : Nat, k < 6 → (bits .and .i64 ((s : Int) / 2 ^ k) 1 == 1) = s.testBit k := by decide +kernel

set_option maxHeartbeats 400000 in
theorem has_any (s : Nat) (r : Int) (w : World) (hs : s < 64) (h0 : 0 ≤ r) (h1 : r < 6) : Calls Tryd.prog 89 #[.int .i64 s, .int .i64 r] w fun e w' => e = .returned (.bool (memR s r)) ∧ w = w' := by
  go_enter Tryd.func89, Tryd.ntmps89
  go_wp2
  go_ret
  exact ⟨retb_eq (has_val s hs r.toNat (by omega)), rfl⟩

set_option maxHeartbeats 400000 in
theorem leaves_any (s : Nat) (x : Wy) (w : World) (hs : s < 64) (ha : 0 ≤ x.src) (hb : x.src < 6) (hc : 0 ≤ x.dst) (hd : x.dst < 6) :
    Calls Tryd.prog 80 #[.agg #[.int .i64 x.src, .int .i64 x.dst, .int .i64 x.lo, .int .i64 x.hi], .int .i64 s] w fun e w' => e = .returned (.bool (lv (memR s) x)) ∧ Below w.heap.size w w' := by
  have H1 := Lib.hid (fun W => has_any s x.src W hs ha hb)
  have H2 := Lib.hid (fun W => has_any s x.dst W hs hc hd)
  unfold lv
  generalize memR s x.src = m at H1 ⊢
  generalize memR s x.dst = n at H2 ⊢
  cases m <;> cases n
  all_goals
    go_enter Tryd.func80, Tryd.ntmps80
    go_wp2_with (go_at_call 89; first | (with_reducible refine (H1.out _).mono ?_; rintro e w' ⟨rfl, rfl⟩) | (with_reducible refine (H2.out _).mono ?_; rintro e w' ⟨rfl, rfl⟩))
    go_ret
    exact ⟨rfl, (Below.refl _ _).alloc (Nat.le_refl _) _⟩

set_option maxHeartbeats 400000 in
theorem enters_any (s : Nat) (x : Wy) (w : World) (hs : s < 64) (ha : 0 ≤ x.src) (hb : x.src < 6) (hc : 0 ≤ x.dst) (hd : x.dst < 6) :
    Calls Tryd.prog 81 #[.agg #[.int .i64 x.src, .int .i64 x.dst, .int .i64 x.lo, .int .i64 x.hi], .int .i64 s] w fun e w' => e = .returned (.bool (en (memR s) x)) ∧ Below w.heap.size w w' := by
  have H1 := Lib.hid (fun W => has_any s x.src W hs ha hb)
  have H2 := Lib.hid (fun W => has_any s x.dst W hs hc hd)
  unfold en
  generalize memR s x.src = m at H1 ⊢
  generalize memR s x.dst = n at H2 ⊢
  cases m <;> cases n
  all_goals
    go_enter Tryd.func81, Tryd.ntmps81
    go_wp2_with (go_at_call 89; first | (with_reducible refine (H1.out _).mono ?_; rintro e w' ⟨rfl, rfl⟩) | (with_reducible refine (H2.out _).mono ?_; rintro e w' ⟨rfl, rfl⟩))
    go_ret
    exact ⟨rfl, (Below.refl _ _).alloc (Nat.le_refl _) _⟩
end Go.Proofs.YtcebihijnedekaaDoor
