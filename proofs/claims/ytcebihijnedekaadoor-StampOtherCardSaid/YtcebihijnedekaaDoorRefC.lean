/-
  The reference: books are checked as stated.
-/
import Derived.Test.YtcebihijnedekaaDoorRefB
namespace Go.Proofs.YtcebihijnedekaaDoor
open Go.RowKit

theorem inB_t {n lo hi : Int} (h : lo ≤ n ∧ n ≤ hi) : inB n lo hi = true := decide_eq_true h
theorem inB_f {n lo hi : Int} (h : ¬ (lo ≤ n ∧ n ≤ hi)) : inB n lo hi = false := decide_eq_false h

set_option maxHeartbeats 2000000 in
theorem checkR_any (R : Int) (A : Option Addr) (c : Nat) (ws : List Wy) (w : World) (hw : WaysAt w w.heap.size A ws) :
    Calls Tryd.prog 24 #[.agg #[.int .i64 R, .slice A ws.length c]] w fun e w' => e = .returned (.int .i64 (chk R ws)) ∧ Below w.heap.size w w' := by
  have I0 := Lib.hid (fun W => in_any R 2 6 W)
  by_cases a1 : R < 2 ∨ 6 < R
  · rw [chk_R a1]
    rw [inB_f (by omega)] at I0
    go_enter Tryd.func24, Tryd.ntmps24
    go_wp2_with (go_at_call 61; refine (I0.out _).mono ?_; rintro e w1 ⟨rfl, rfl⟩)
    go_ret
    exact ⟨rfl, (Below.refl _ _).alloc (Nat.le_refl _) _⟩
  rw [inB_t (by omega)] at I0
  rcases Nat.lt_or_ge 12 ws.length with a3 | a3
  · rw [chk_many (by omega) a3]
    go_enter Tryd.func24, Tryd.ntmps24
    go_wp2_with (go_at_call 61; refine (I0.out _).mono ?_; rintro e w1 ⟨rfl, rfl⟩)
    go_ret
    exact ⟨rfl, (Below.refl _ _).alloc (Nat.le_refl _) _⟩
  rw [chk_L (by omega) a3]
  have hR2 : 2 ≤ R := by omega
  have hR6 : R ≤ 6 := by omega
  clear a1
  have hlen : ws.length ≤ 12 := a3
  clear a3
  go_enter Tryd.func24, Tryd.ntmps24
  go_wp2_with (go_at_call 61; refine (I0.out _).mono ?_; rintro e w1 ⟨rfl, rfl⟩)
  obtain ⟨W0, hW0⟩ : ∃ W0, W0 = w.alloc (.cells #[.int .i64 R, .slice A ws.length c] 30) := ⟨_, rfl⟩
  have hz0 : W0.heap.size = w.heap.size + 1 := by rw [hW0]; simp
  have hb0 : Below w.heap.size w W0 := by rw [hW0]; exact (Below.refl _ _).alloc (Nat.le_refl _) _
  have hc0 : W0.cell? ⟨w.heap.size, 0, none⟩ = some (.int .i64 R) := by rw [hW0]; simp [go_sem]
  have hc1 : W0.cell? ⟨w.heap.size, 1, none⟩ = some (.slice A ws.length c) := by rw [hW0]; simp [go_sem]
  have hw0 := hw.below hb0 (Nat.le_refl _)
  rw [← hW0]
  clear hW0 I0
  go_loopw [3] (fun i wr => ∃ k : Nat, k ≤ ws.length ∧ i = .int .i64 k ∧ Hid (chkL R (ws.take k) = 0) ∧ Below W0.heap.size W0 wr) (fun i _ => ws.length - (intOf i).toNat)
  case atStart => exact ⟨0, Nat.zero_le _, rfl, Lib.hid rfl, Below.refl _ _⟩
  case round =>
    obtain ⟨k, hk, rfl, HK, hbw⟩ := hrel
    have hd0 := (hbw.cell (p := ⟨w.heap.size, 0, none⟩) (by simp; omega)).trans hc0
    have hd1 := (hbw.cell (p := ⟨w.heap.size, 1, none⟩) (by simp; omega)).trans hc1
    have hww := hw0.below hbw (by omega)
    have hsz : w.heap.size < wr.heap.size := by have := hbw.size; omega
    by_cases hlt : k < ws.length
    · have hx : ws[k]? = some ws[k] := List.getElem?_eq_getElem hlt
      generalize ws[k] = x at hx
      obtain ⟨b, off, rfl, hb, h1, h2, h3, h4⟩ := hww k x hx
      clear hw hw0 hww
      have H1 := Lib.hid (chkL_take HK.out hx)
      have H2 := Lib.hid (chkL_of HK.out hx)
      clear hx
      have I1 := Lib.hid (fun W => in_any x.src 0 (R - 1) W)
      have I2 := Lib.hid (fun W => in_any x.dst 0 (R - 1) W)
      have I3 := Lib.hid (fun W => in_any x.lo 0 99 W)
      have I4 := Lib.hid (fun W => in_any x.hi 0 99 W)
      have hb1 : Below w.heap.size w wr := hb0.trans (hbw.mono (by omega))
      by_cases b1 : 0 ≤ x.src ∧ x.src ≤ R - 1
      rotate_left
      · rw [inB_f b1] at I1
        rw [chkW2 (by omega)] at H2
        clear H1
        go_wp2_with (go_at_call 61; refine (I1.out _).mono ?_; rintro e w1 ⟨rfl, rfl⟩)
        go_ret
        exact ⟨ret_eq (H2.out (by decide)).symm, hb1.alloc (by omega) _⟩
      rw [inB_t b1] at I1
      by_cases b2 : 0 ≤ x.dst ∧ x.dst ≤ R - 1
      rotate_left
      · rw [inB_f b2] at I2
        rw [chkW2 (by omega)] at H2
        clear H1
        go_wp2_with (go_at_call 61; first | (with_reducible refine (I1.out _).mono ?_; rintro e w1 ⟨rfl, rfl⟩) | (with_reducible refine (I2.out _).mono ?_; rintro e w1 ⟨rfl, rfl⟩))
        go_ret
        exact ⟨ret_eq (H2.out (by decide)).symm, hb1.alloc (by omega) _⟩
      rw [inB_t b2] at I2
      by_cases b3 : x.src = x.dst
      · rw [chkW13 (by omega) b3] at H2
        clear H1
        go_wp2_with (go_at_call 61; first | (with_reducible refine (I1.out _).mono ?_; rintro e w1 ⟨rfl, rfl⟩) | (with_reducible refine (I2.out _).mono ?_; rintro e w1 ⟨rfl, rfl⟩))
        go_ret
        exact ⟨ret_eq (H2.out (by decide)).symm, hb1.alloc (by omega) _⟩
      by_cases b4 : 0 ≤ x.lo ∧ x.lo ≤ 99
      rotate_left
      · rw [inB_f b4] at I3
        rw [chkW1 (by omega) b3 (by omega)] at H2
        clear H1
        go_wp2_with (go_at_call 61; first | (with_reducible refine (I1.out _).mono ?_; rintro e w1 ⟨rfl, rfl⟩) | (with_reducible refine (I2.out _).mono ?_; rintro e w1 ⟨rfl, rfl⟩) | (with_reducible refine (I3.out _).mono ?_; rintro e w1 ⟨rfl, rfl⟩))
        go_ret
        exact ⟨ret_eq (H2.out (by decide)).symm, hb1.alloc (by omega) _⟩
      rw [inB_t b4] at I3
      by_cases b5 : 0 ≤ x.hi ∧ x.hi ≤ 99
      rotate_left
      · rw [inB_f b5] at I4
        rw [chkW1 (by omega) b3 (by omega)] at H2
        clear H1
        go_wp2_with (go_at_call 61; first | (with_reducible refine (I1.out _).mono ?_; rintro e w1 ⟨rfl, rfl⟩) | (with_reducible refine (I2.out _).mono ?_; rintro e w1 ⟨rfl, rfl⟩) | (with_reducible refine (I3.out _).mono ?_; rintro e w1 ⟨rfl, rfl⟩) | (with_reducible refine (I4.out _).mono ?_; rintro e w1 ⟨rfl, rfl⟩))
        go_ret
        exact ⟨ret_eq (H2.out (by decide)).symm, hb1.alloc (by omega) _⟩
      rw [inB_t b5] at I4
      by_cases b6 : x.hi < x.lo
      · rw [chkW1 (by omega) b3 (by omega)] at H2
        clear H1
        go_wp2_with (go_at_call 61; first | (with_reducible refine (I1.out _).mono ?_; rintro e w1 ⟨rfl, rfl⟩) | (with_reducible refine (I2.out _).mono ?_; rintro e w1 ⟨rfl, rfl⟩) | (with_reducible refine (I3.out _).mono ?_; rintro e w1 ⟨rfl, rfl⟩) | (with_reducible refine (I4.out _).mono ?_; rintro e w1 ⟨rfl, rfl⟩))
        go_ret
        exact ⟨ret_eq (H2.out (by decide)).symm, hb1.alloc (by omega) _⟩
      · rw [chkW0 (by omega) b3 (by omega)] at H1
        clear H2
        have b7 : x.lo ≤ x.hi := by omega
        go_wp2_with (go_at_call 61; first | (with_reducible refine (I1.out _).mono ?_; rintro e w1 ⟨rfl, rfl⟩) | (with_reducible refine (I2.out _).mono ?_; rintro e w1 ⟨rfl, rfl⟩) | (with_reducible refine (I3.out _).mono ?_; rintro e w1 ⟨rfl, rfl⟩) | (with_reducible refine (I4.out _).mono ?_; rintro e w1 ⟨rfl, rfl⟩))
        go_roundw
        case rel => exact ⟨k + 1, by omega, by go_num, H1, hbw.alloc (by omega) _⟩
        case measure => simp [intOf]; omega
    · have : k = ws.length := by omega
      subst this
      have HK' := Lib.hid (show 0 = chkL R ws by have := HK.out; rw [List.take_length] at this; exact this.symm)
      clear HK
      go_wp2
      go_ret
      exact ⟨ret_eq HK'.out, hb0.trans (hbw.mono (by omega))⟩

set_option maxHeartbeats 1000000 in
theorem canR19_any (R : Int) (A : Option Addr) (c : Nat) (ws : List Wy) (w : World) (hw : WaysAt w w.heap.size A ws) :
    Calls Tryd.prog 19 #[.agg #[.int .i64 R, .slice A ws.length c]] w fun e w' => e = .returned (.tuple #[.bool (canS R ws), .int .i64 (chk R ws)]) ∧ Below w.heap.size w w' := by
  have HC := Lib.hid (fun W hW => checkR_any R A c ws W hW)
  have hw1 := fun o => (hw.alloc (Nat.le_refl _) o).mono (B' := (w.alloc o).heap.size) (by simp)
  unfold canS
  by_cases h0 : chk R ws = 0
  · obtain ⟨rooms, rfl, _, hv, _⟩ := chk_ok h0
    have HA := Lib.hid (fun W hW => canR_any rooms A c ws W hv hW)
    rw [h0, show ((rooms : Int).toNat) = rooms from rfl]
    rw [h0] at HC
    clear h0 hv
    generalize agrS rooms ws = v at HA ⊢
    go_enter Tryd.func19, Tryd.ntmps19
    go_wp2_with (first
      | (go_at_call 24; refine (HC.out _ (hw1 _)).mono ?_; rintro e w1 ⟨rfl, hb1⟩; obtain ⟨q1, q2, q3⟩ := bcell hb1; simp only [World.size_alloc] at q1 q2 q3; have hw2 := ((hw1 _).below hb1 (Nat.le_refl _)).mono hb1.size)
      | (go_at_call 55; refine (HA.out _ (by assumption)).mono ?_; rintro e w2 ⟨rfl, hb2⟩))
    go_ret2
    exact ⟨rfl, ((Below.refl _ _).alloc (Nat.le_refl _) _).trans ((hb1.mono (by simp)).trans (hb2.mono (by omega)))⟩
  · rw [decide_eq_false h0]
    generalize chk R ws = v at h0 HC ⊢
    go_enter Tryd.func19, Tryd.ntmps19
    go_wp2_with (go_at_call 24; refine (HC.out _ (hw1 _)).mono ?_; rintro e w1 ⟨rfl, hb1⟩; obtain ⟨q1, q2, q3⟩ := bcell hb1; simp only [World.size_alloc] at q1 q2 q3)
    go_ret2
    exact ⟨rfl, ((Below.refl _ _).alloc (Nat.le_refl _) _).trans (hb1.mono (by simp))⟩
end Go.Proofs.YtcebihijnedekaaDoor
