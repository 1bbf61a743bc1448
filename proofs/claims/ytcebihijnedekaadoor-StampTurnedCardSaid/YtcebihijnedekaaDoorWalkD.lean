/-
  The walk of Check.
-/
import Derived.Test.YtcebihijnedekaaDoorWalkC
namespace Go.Proofs.YtcebihijnedekaaDoor
open Go.RowKit

theorem chk_R {R : Int} {ws : List Wy} (h : R < 2 ∨ 6 < R) : chk R ws = 1 := by unfold chk; rw [if_pos h]
theorem chk_many {R : Int} {ws : List Wy} (h : 2 ≤ R ∧ R ≤ 6) (h2 : 12 < ws.length) : chk R ws = 3 := by unfold chk; rw [if_neg (by omega), if_pos h2]
theorem chk_L {R : Int} {ws : List Wy} (h : 2 ≤ R ∧ R ≤ 6) (h2 : ws.length ≤ 12) : chk R ws = chkL R ws := by unfold chk; rw [if_neg (by omega), if_neg (by omega)]

set_option maxHeartbeats 1000000 in
theorem check_any (R : Int) (A : Option Addr) (c : Nat) (ws : List Wy) (w : World) (hw : WaysAt w w.heap.size A ws) :
    Calls Tryd.prog 23 #[.agg #[.int .i64 R, .slice A ws.length c]] w fun e w' => e = .returned (.int .i64 (chk R ws)) ∧ Below w.heap.size w w' := by
  rcases Int.lt_or_le R 2 with a1 | a1
  · rw [chk_R (.inl a1)]
    go_enter Tryd.func23, Tryd.ntmps23
    go_wp2
    go_ret
    exact ⟨rfl, (Below.refl _ _).alloc (Nat.le_refl _) _⟩
  rcases Int.lt_or_le 6 R with a2 | a2
  · rw [chk_R (.inr a2)]
    go_enter Tryd.func23, Tryd.ntmps23
    go_wp2
    go_ret
    exact ⟨rfl, (Below.refl _ _).alloc (Nat.le_refl _) _⟩
  rcases Nat.lt_or_ge 12 ws.length with a3 | a3
  · rw [chk_many ⟨a1, a2⟩ a3]
    go_enter Tryd.func23, Tryd.ntmps23
    go_wp2
    go_ret
    exact ⟨rfl, (Below.refl _ _).alloc (Nat.le_refl _) _⟩
  rw [chk_L ⟨a1, a2⟩ a3]
  have hlen : ws.length ≤ 12 := a3
  clear a3
  go_enter Tryd.func23, Tryd.ntmps23
  go_wp2
  obtain ⟨W0, hW0⟩ : ∃ W0, W0 = w.alloc (.cells #[.int .i64 R, .slice A ws.length c] 24) := ⟨_, rfl⟩
  have hz0 : W0.heap.size = w.heap.size + 1 := by rw [hW0]; simp
  have hb0 : Below w.heap.size w W0 := by rw [hW0]; exact (Below.refl _ _).alloc (Nat.le_refl _) _
  have hc0 : W0.cell? ⟨w.heap.size, 0, none⟩ = some (.int .i64 R) := by rw [hW0]; simp [go_sem]
  have hc1 : W0.cell? ⟨w.heap.size, 1, none⟩ = some (.slice A ws.length c) := by rw [hW0]; simp [go_sem]
  have hw0 := hw.below hb0 (Nat.le_refl _)
  rw [← hW0]
  clear hW0
  go_loopw [21] (fun i wr => ∃ k : Nat, k ≤ ws.length ∧ i = .int .i64 k ∧ Hid (chkL R (ws.take k) = 0) ∧ Below W0.heap.size W0 wr) (fun i _ => ws.length - (intOf i).toNat)
  case atStart => exact ⟨0, Nat.zero_le _, rfl, Lib.hid rfl, Below.refl _ _⟩
  case round =>
    obtain ⟨k, hk, rfl, HK, hbw⟩ := hrel
    have hd0 := (hbw.cell (p := ⟨w.heap.size, 0, none⟩) (by simp; omega)).trans hc0
    have hd1 := (hbw.cell (p := ⟨w.heap.size, 1, none⟩) (by simp; omega)).trans hc1
    have hww := hw0.below hbw (by omega)
    have hsz : w.heap.size < wr.heap.size := by have := hbw.size; omega
    by_cases hlt : k < ws.length
    · have hx : ws[k]? = some ws[k] := List.getElem?_eq_getElem hlt
      generalize ws[k] = x at hx
      obtain ⟨b, off, rfl, hb, h1, h2, h3, h4⟩ := hww k x hx
      clear hw hw0 hww
      have HC := Lib.hid (fun W => checkWay_any R x W)
      have H1 := Lib.hid (chkL_take HK.out hx)
      have H2 := Lib.hid (chkL_of HK.out hx)
      clear hx
      generalize chkW R x = v at HC H1 H2
      by_cases hv : v = 0
      · subst hv
        go_wp2_with (go_at_call 60; refine (HC.out _).mono ?_; rintro e w1 ⟨rfl, hb1⟩; obtain ⟨q1, q2, q3⟩ := bcell hb1; simp only [World.size_alloc] at q1 q2 q3)
        go_roundw
        case rel => exact ⟨k + 1, by omega, by go_num, H1, (hbw.alloc (by omega) _).trans (hb1.mono (by simp; omega))⟩
        case measure => simp [intOf]; omega
      · go_wp2_with (go_at_call 60; refine (HC.out _).mono ?_; rintro e w1 ⟨rfl, hb1⟩; obtain ⟨q1, q2, q3⟩ := bcell hb1; simp only [World.size_alloc] at q1 q2 q3)
        go_ret
        exact ⟨ret_eq (H2.out hv).symm, hb0.trans (((hbw.mono (by omega)).alloc (by omega) _).trans (hb1.mono (by simp; omega)))⟩
    · have : k = ws.length := by omega
      subst this
      have HK' := Lib.hid (show 0 = chkL R ws by have := HK.out; rw [List.take_length] at this; exact this.symm)
      clear HK
      go_wp2
      go_ret
      exact ⟨ret_eq HK'.out, hb0.trans (hbw.mono (by omega))⟩
end Go.Proofs.YtcebihijnedekaaDoor
