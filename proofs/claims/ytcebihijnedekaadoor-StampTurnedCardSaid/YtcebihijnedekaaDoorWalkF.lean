/-
  The walks of proof, agree, and the checks that books agree, or have a way.
-/
import Derived.Test.YtcebihijnedekaaDoorWalkD
import Derived.Test.YtcebihijnedekaaDoorWalkE
namespace Go.Proofs.YtcebihijnedekaaDoor
open Go.RowKit

/-- A set is a proof against books. -/
def qP (rooms : Nat) (ws : List Wy) (s : Nat) : Bool := decide (0 < ex (memP rooms s) ws)

theorem SizesAt.alloc {w : World} (h : SizesAt w) (o : Obj) : SizesAt (w.alloc o) := h.below ((Below.refl _ _).alloc (Nat.le_refl _) _)
theorem WaysAt.alloc {w : World} {B : Nat} {A : Option Addr} {ws : List Wy} (h : WaysAt w B A ws) (hB : B ≤ w.heap.size) (o : Obj) : WaysAt (w.alloc o) B A ws := h.below ((Below.refl w.heap.size w).alloc (Nat.le_refl _) o) hB
theorem IntsAt.alloc {w : World} {B : Nat} {A : Option Addr} {l : List Int} (h : IntsAt w B A l) (hB : B ≤ w.heap.size) (o : Obj) : IntsAt (w.alloc o) B A l := h.below ((Below.refl w.heap.size w).alloc (Nat.le_refl _) o) hB

set_option maxHeartbeats 1000000 in
theorem proof_any (rooms : Nat) (A : Option Addr) (c : Nat) (ws : List Wy) (w : World) (hv : ValB rooms ws) (hw : WaysAt w w.heap.size A ws) (ht : SizesAt w) :
    Calls Tryd.prog 67 #[.agg #[.int .i64 rooms, .slice A ws.length c]] w fun e w' => e = .returned (.tuple #[.int .i64 ((fewS (qP rooms ws) rooms).1 : Nat), .bool (fewS (qP rooms ws) rooms).2]) ∧ Below w.heap.size w w' := by
  have hF := fewest_proof rooms (qP rooms ws) ⟨w.heap.size, 0, none⟩ (w.alloc (.cells #[.int .i64 rooms, .slice A ws.length c] 24)) hv.r6 (ht.alloc _) (fun W s hs hb =>
    proof1_any rooms s A c w.heap.size ws W hv hs ((hw.alloc (Nat.le_refl _) _).below hb (by simp) |>.mono (by have := hb.size; simp at this; omega))
      ((hb.cell (p := ⟨w.heap.size, 0, none⟩) (by simp)).trans (by simp [go_sem])) ((hb.cell (p := ⟨w.heap.size, 1, none⟩) (by simp)).trans (by simp [go_sem])))
  generalize (fewS (qP rooms ws) rooms) = r at hF ⊢
  obtain ⟨r1, r2⟩ := r
  dsimp only at hF ⊢
  have HF := Lib.hid hF
  clear hF
  go_enter Tryd.func67, Tryd.ntmps67
  go_wp2_with (go_at_call 83; refine HF.out.mono ?_; rintro e w1 ⟨rfl, hb1⟩)
  go_ret2
  exact ⟨rfl, ((Below.refl _ _).alloc (Nat.le_refl _) _).trans (hb1.mono (by simp))⟩

/-- Books agree, as the program asks it. -/
def agrS (rooms : Nat) (ws : List Wy) : Bool := !(fewS (qP rooms ws) rooms).2

set_option maxHeartbeats 1000000 in
theorem agree_any (rooms : Nat) (A : Option Addr) (c : Nat) (ws : List Wy) (w : World) (hv : ValB rooms ws) (hw : WaysAt w w.heap.size A ws) (ht : SizesAt w) :
    Calls Tryd.prog 54 #[.agg #[.int .i64 rooms, .slice A ws.length c]] w fun e w' => e = .returned (.bool (agrS rooms ws)) ∧ Below w.heap.size w w' := by
  have HF := Lib.hid (fun W hW hT => proof_any rooms A c ws W hv hW hT)
  have hw1 := fun o => (hw.alloc (Nat.le_refl _) o).mono (B' := (w.alloc o).heap.size) (by simp)
  have ht1 := fun o => ht.alloc o
  unfold agrS
  generalize (fewS (qP rooms ws) rooms) = r at HF ⊢
  obtain ⟨r1, r2⟩ := r
  dsimp only at HF ⊢
  go_enter Tryd.func54, Tryd.ntmps54
  go_wp2_with (go_at_call 67; refine (HF.out _ (hw1 _) (ht1 _)).mono ?_; rintro e w1 ⟨rfl, hb1⟩)
  go_ret
  exact ⟨rfl, ((Below.refl _ _).alloc (Nat.le_refl _) _).trans (hb1.mono (by simp))⟩

/-- The error of books that must agree. -/
def chkA (R : Int) (ws : List Wy) : Int := if chk R ws = 0 then (if agrS R.toNat ws then 0 else 12) else chk R ws

set_option maxHeartbeats 1000000 in
theorem checkAgree_any (R : Int) (A : Option Addr) (c : Nat) (ws : List Wy) (w : World) (hw : WaysAt w w.heap.size A ws) (ht : SizesAt w) :
    Calls Tryd.prog 56 #[.agg #[.int .i64 R, .slice A ws.length c]] w fun e w' => e = .returned (.int .i64 (chkA R ws)) ∧ Below w.heap.size w w' := by
  have HC := Lib.hid (fun W hW => check_any R A c ws W hW)
  have hw1 := fun o => (hw.alloc (Nat.le_refl _) o).mono (B' := (w.alloc o).heap.size) (by simp)
  have ht1 := fun o => ht.alloc o
  unfold chkA
  by_cases h0 : chk R ws = 0
  · obtain ⟨rooms, rfl, _, hv, _⟩ := chk_ok h0
    have HA := Lib.hid (fun W hW hT => agree_any rooms A c ws W hv hW hT)
    rw [if_pos h0, show ((rooms : Int).toNat) = rooms from rfl]
    rw [h0] at HC
    clear h0 hv
    generalize agrS rooms ws = v at HA ⊢
    rcases v with _ | _
    all_goals
      go_enter Tryd.func56, Tryd.ntmps56
      go_wp2_with (first
        | (go_at_call 23; refine (HC.out _ (hw1 _)).mono ?_; rintro e w1 ⟨rfl, hb1⟩; obtain ⟨q1, q2, q3⟩ := bcell hb1; simp only [World.size_alloc] at q1 q2 q3; have hw2 := ((hw1 _).below hb1 (Nat.le_refl _)).mono hb1.size; have ht2 := (ht1 _).below hb1)
        | (go_at_call 54; refine (HA.out _ (by assumption) (by assumption)).mono ?_; rintro e w2 ⟨rfl, hb2⟩))
      go_ret
      exact ⟨rfl, ((Below.refl _ _).alloc (Nat.le_refl _) _).trans ((hb1.mono (by simp)).trans (hb2.mono (by omega)))⟩
  · rw [if_neg h0]
    generalize chk R ws = v at h0 HC ⊢
    go_enter Tryd.func56, Tryd.ntmps56
    go_wp2_with (go_at_call 23; refine (HC.out _ (hw1 _)).mono ?_; rintro e w1 ⟨rfl, hb1⟩; obtain ⟨q1, q2, q3⟩ := bcell hb1; simp only [World.size_alloc] at q1 q2 q3)
    go_ret
    exact ⟨rfl, ((Below.refl _ _).alloc (Nat.le_refl _) _).trans (hb1.mono (by simp))⟩
end Go.Proofs.YtcebihijnedekaaDoor
