/-
  The walk of span.
-/
import Derived.Test.YtcebihijnedekaaDoorWalkG
import Derived.Deep.QuietTactic
import Derived.BigQuiet
namespace Go.Proofs.YtcebihijnedekaaDoor
open Go.RowKit

theorem below_drewN {B : Nat} {a w : World} (h : Below B a w) (n : Nat) : Below B a (w.drewN n) := ⟨h.os, h.tape, h.output, h.size, h.block⟩

theorem spanK_step (rooms : Nat) (ws : List Wy) (x : Wy) (s : Nat) :
    (sideV (memP rooms s) x = 1 ∧ spanK rooms ws x (s + 1) = ((spanK rooms ws x s).1, if saysV (memP rooms s) ws x < (spanK rooms ws x s).2 then saysV (memP rooms s) ws x else (spanK rooms ws x s).2)) ∨
    (sideV (memP rooms s) x = 2 ∧ spanK rooms ws x (s + 1) = (if (spanK rooms ws x s).1 < saysV (memP rooms s) ws x then saysV (memP rooms s) ws x else (spanK rooms ws x s).1, (spanK rooms ws x s).2)) ∨
    (sideV (memP rooms s) x = 0 ∧ spanK rooms ws x (s + 1) = spanK rooms ws x s) := by
  have m1 : ∀ a b : Int, min a b = if b < a then b else a := fun a b => by split <;> omega
  have m2 : ∀ a b : Int, max a b = if a < b then b else a := fun a b => by split <;> omega
  simp only [spanK, m1, m2]
  unfold sideV saysV
  rcases xb_cases (memP rooms s) x with ⟨a1, a2, a3, _⟩ | ⟨a1, a2, a3, _⟩ | ⟨a1, a2, a3, _⟩ <;> simp [a1, a2]

set_option maxHeartbeats 1000000 in
theorem span_any (rooms k : Nat) (A : Option Addr) (c : Nat) (ws : List Wy) (x : Wy) (w : World) (hv : ValB rooms ws) (hx : ws[k]? = some x) (hw : WaysAt w w.heap.size A ws) :
    Calls Tryd.prog 76 #[.agg #[.int .i64 rooms, .slice A ws.length c], .int .i64 k] w fun e w' =>
      e = .returned (.tuple #[.int .i64 (spanS rooms ws x).1, .int .i64 (spanS rooms ws x).2]) ∧ Below w.heap.size w w' := by
  have hk := lt_of_get hx
  have hr6 := hv.r6
  have hp := pow_le_64 hr6
  have hsh := shl_val hr6
  obtain ⟨hx1, hx2, hx3, hx4, hx5⟩ := hv.way x (mem_of_get hx)
  have hlen := hv.len
  have hki : (k : Int) < (ws.length : Int) := by omega
  have HS := Lib.hid (fun W s hs h => says_any rooms s k A c ws x W hv hs hx h)
  obtain ⟨b, off, rfl, hb, h1, h2, h3, h4⟩ := hw k x hx
  unfold spanS
  generalize 2 ^ rooms = N at hp hsh ⊢
  clear hv hx
  go_enter Tryd.func76, Tryd.ntmps76
  go_wp2
  go_quiet (fail)
  go_wp2
  simp only [hsh]
  clear hsh
  obtain ⟨W0, hW0⟩ : ∃ W0, W0 = (w.alloc (.cells #[.int .i64 rooms, .slice (some ⟨b, off, none⟩) ws.length c] 24)).drewN nq := ⟨_, rfl⟩
  have hz0 : W0.heap.size = w.heap.size + 1 := by rw [hW0]; simp
  have hb0 : Below w.heap.size w W0 := by rw [hW0]; exact below_drewN ((Below.refl _ _).alloc (Nat.le_refl _) _) _
  have hc0 : W0.cell? ⟨w.heap.size, 0, none⟩ = some (.int .i64 rooms) := by rw [hW0]; simp [go_sem]
  have hc1 : W0.cell? ⟨w.heap.size, 1, none⟩ = some (.slice (some ⟨b, off, none⟩) ws.length c) := by rw [hW0]; simp [go_sem]
  have hw0 := hw.below hb0 (Nat.le_refl _)
  rw [← hW0]
  clear hW0 hw h1 h2 h3 h4
  go_loopw [4, 5, 24] (fun lo hi i wr => ∃ (j : Nat) (P Q : Int), j ≤ N ∧ i = .int .i64 j ∧ lo = .int .i64 P ∧ hi = .int .i64 Q ∧ Hid (spanK rooms ws x j = (P, Q)) ∧ Below W0.heap.size W0 wr) (fun _ _ i _ => N - (intOf i).toNat)
  case atStart => exact ⟨0, x.lo, x.hi, Nat.zero_le _, rfl, rfl, rfl, Lib.hid rfl, Below.refl _ _⟩
  case round =>
    obtain ⟨j, P, Q, hj, rfl, rfl, rfl, HK, hbw⟩ := hrel
    have hd0 := (hbw.cell (p := ⟨w.heap.size, 0, none⟩) (by simp; omega)).trans hc0
    have hd1 := (hbw.cell (p := ⟨w.heap.size, 1, none⟩) (by simp; omega)).trans hc1
    have hsz : w.heap.size < wr.heap.size := by have := hbw.size; omega
    by_cases hlt : j < N
    · have HC := Lib.hid (HS.out wr j (by omega) ((hw0.below hbw (by omega)).mono (by omega)))
      have sv := spanK_step rooms ws x j
      rw [HK.out] at sv
      dsimp only at sv
      generalize saysV (memP rooms j) ws x = V at sv HC
      generalize sideV (memP rooms j) x = S at sv HC
      rcases sv with ⟨rfl, sv⟩ | ⟨rfl, sv⟩ | ⟨rfl, sv⟩
      all_goals
        have HT := Lib.hid sv
        clear sv
        go_wp2_with (go_at_call 79; refine HC.out.mono ?_; rintro e w1 ⟨rfl, hb1⟩)
        go_roundw
        case rel => exact ⟨j + 1, _, _, by omega, by go_num, rfl, rfl, HT, hbw.trans (hb1.mono hbw.size)⟩
        case measure => simp [intOf]; omega
    · have : j = N := by omega
      subst this
      go_wp2
      go_ret2
      exact ⟨by rw [HK.out]; rfl, hb0.trans (hbw.mono (by omega))⟩
end Go.Proofs.YtcebihijnedekaaDoor
