/-
  The reference: rooms that prove the end of a span, where there are none to be returned.
-/
import Derived.Test.YtcebihijnedekaaDoorRefJ
import Derived.Test.YtcebihijnedekaaDoorWalkV
namespace Go.Proofs.YtcebihijnedekaaDoor
open Go.RowKit

set_option maxHeartbeats 1000000 in
theorem boundR_err (R k : Int) (gr : Bool) (A : Option Addr) (c : Nat) (ws : List Wy) (w : World) (hw : WaysAt w w.heap.size A ws) (he : ¬ (spnS R ws k).2.2 = 0) :
    Calls Tryd.prog 43 #[.agg #[.int .i64 R, .slice A ws.length c], .int .i64 k, .bool gr] w (RetList w [] (spnS R ws k).2.2) := by
  have HS := Lib.hid (fun W hW => span34_any R k A c ws W hW)
  have hw1 := fun o => (hw.alloc (Nat.le_refl _) o).mono (B' := (w.alloc o).heap.size) (by simp)
  generalize spnS R ws k = P at HS he ⊢
  obtain ⟨P1, P2, er⟩ := P
  dsimp only at HS he ⊢
  go_enter Tryd.func43, Tryd.ntmps43
  go_wp2_with (go_at_call 34; refine (HS.out _ (hw1 _)).mono ?_; rintro e w1 ⟨rfl, hb1⟩; obtain ⟨q1, q2, q3⟩ := bcell hb1; simp only [World.size_alloc] at q1 q2 q3)
  go_ret2
  exact retList_none (((Below.refl _ _).alloc (Nat.le_refl _) _).trans (hb1.mono (by simp)))

set_option maxHeartbeats 1000000 in
theorem boundR_told (R P1 P2 : Int) (n : Nat) (gr : Bool) (A : Option Addr) (c : Nat) (ws : List Wy) (x : Wy) (w : World) (hw : WaysAt w w.heap.size A ws) (hx : ws[n]? = some x) (hs : spnS R ws n = (P1, P2, 0)) (ht : (if gr then P2 else P1) = toldS x gr) :
    Calls Tryd.prog 43 #[.agg #[.int .i64 R, .slice A ws.length c], .int .i64 n, .bool gr] w (RetList w [] 0) := by
  have HS := Lib.hid (fun W hW => span34_any R n A c ws W hW)
  rw [hs] at HS
  dsimp only at HS
  have hw1 := fun o => (hw.alloc (Nat.le_refl _) o).mono (B' := (w.alloc o).heap.size) (by simp)
  have hni : (n : Int) < (ws.length : Int) := by have := lt_of_get hx; omega
  have hn0 : (0 : Int) ≤ (n : Int) := by omega
  obtain ⟨b, off, rfl, hb, z1, z2, z3, z4⟩ := hw n x hx
  have hbz : b < w.heap.size + 1 := by omega
  clear hs hx
  cases gr
  · have ht' : (P1 == x.lo) = true := by simpa [toldS] using ht
    clear ht
    go_enter Tryd.func43, Tryd.ntmps43
    go_wp2_with (go_at_call 34; refine (HS.out _ (hw1 _)).mono ?_; rintro e w1 ⟨rfl, hb1⟩; obtain ⟨q1, q2, q3⟩ := bcell hb1; simp only [World.size_alloc] at q1 q2 q3; have hzz : w.heap.size < w1.heap.size := (by omega); have hbz1 : b < w1.heap.size := (by omega))
    go_ret2
    exact retList_none (((Below.refl _ _).alloc (Nat.le_refl _) _).trans ((hb1.mono (by simp)).alloc (by omega) _))
  · have ht' : (P2 == x.hi) = true := by simpa [toldS] using ht
    clear ht
    go_enter Tryd.func43, Tryd.ntmps43
    go_wp2_with (go_at_call 34; refine (HS.out _ (hw1 _)).mono ?_; rintro e w1 ⟨rfl, hb1⟩; obtain ⟨q1, q2, q3⟩ := bcell hb1; simp only [World.size_alloc] at q1 q2 q3; have hzz : w.heap.size < w1.heap.size := (by omega); have hbz1 : b < w1.heap.size := (by omega))
    go_ret2
    exact retList_none (((Below.refl _ _).alloc (Nat.le_refl _) _).trans ((hb1.mono (by simp)).alloc (by omega) _))
end Go.Proofs.YtcebihijnedekaaDoor
