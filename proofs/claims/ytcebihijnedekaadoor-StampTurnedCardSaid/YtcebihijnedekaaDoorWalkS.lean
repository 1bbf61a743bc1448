/-
  The walks of Says and First.
-/
import Derived.Test.YtcebihijnedekaaDoorWalkP
import Derived.Test.YtcebihijnedekaaDoorMathB
namespace Go.Proofs.YtcebihijnedekaaDoor
open Go.RowKit

/-- What rooms say of a way, and the error. -/
def sysS (R : Int) (ws : List Wy) (l : List Int) (k : Int) : Int × Int :=
  if chkN R ws k = 0 then
    (if (setS R.toNat l 0 (-1)).2 = 0 then
      (match ws[k.toNat]? with
        | some x => if sideV (memP R.toNat (setS R.toNat l 0 (-1)).1) x = 0 then (0, 12) else (saysV (memP R.toNat (setS R.toNat l 0 (-1)).1) ws x, 0)
        | none => (0, 0))
      else (0, (setS R.toNat l 0 (-1)).2))
  else (0, chkN R ws k)

set_option maxHeartbeats 1000000 in
theorem says40_any (R k : Int) (A D : Option Addr) (c d : Nat) (ws : List Wy) (l : List Int) (w : World) (hl : l.length ≤ 1000) (hw : WaysAt w w.heap.size A ws) (hd : IntsAt w w.heap.size D l) :
    Calls Tryd.prog 40 #[.agg #[.int .i64 R, .slice A ws.length c], .slice D l.length d, .int .i64 k] w fun e w' => e = .returned (.tuple #[.int .i64 (sysS R ws l k).1, .int .i64 (sysS R ws l k).2]) ∧ Below w.heap.size w w' := by
  have HC := Lib.hid (fun W hW => checkNamed_any R k A c ws W hW)
  have hw1 := fun o => (hw.alloc (Nat.le_refl _) o).mono (B' := (w.alloc o).heap.size) (by simp)
  have hd1 := fun o => (hd.alloc (Nat.le_refl _) o).mono (B' := (w.alloc o).heap.size) (by simp)
  unfold sysS
  by_cases h0 : chkN R ws k = 0
  · obtain ⟨hk0, n, x, rfl, hx⟩ := chkN_ok h0
    obtain ⟨rooms, rfl, _, hv, _⟩ := chk_ok hk0
    rw [if_pos h0, show ((rooms : Int).toNat) = rooms from rfl, show ((n : Int).toNat) = n from rfl, hx]
    rw [h0] at HC
    have HL := Lib.hid (fun W hD => setOf_any rooms D d l W hv.r6 hl hD)
    have hs64 := setS_lt hv.r6 l 0 (-1) (by decide)
    generalize setS rooms l 0 (-1) = r at HL hs64 ⊢
    obtain ⟨s, er⟩ := r
    dsimp only at HL hs64 ⊢
    have HS := Lib.hid (fun W h => says_any rooms s n A c ws x W hv hs64 hx h)
    generalize saysV (memP rooms s) ws x = V at HS ⊢
    generalize sideV (memP rooms s) x = S at HS ⊢
    clear hv h0 hk0 hx
    by_cases h1 : er = 0
    · subst h1
      simp only [if_true]
      by_cases h2 : S = 0
      all_goals
        first | (subst h2; simp only [if_true]) | simp only [if_neg h2]
        go_enter Tryd.func40, Tryd.ntmps40
        go_wp2_with (first
          | (go_at_call 75; refine (HC.out _ (hw1 _)).mono ?_; rintro e w1 ⟨rfl, hb1⟩; obtain ⟨q1, q2, q3⟩ := bcell hb1; simp only [World.size_alloc] at q1 q2 q3; have hw2 := ((hw1 _).below hb1 (Nat.le_refl _)).mono hb1.size; have hd2 := ((hd1 _).below hb1 (Nat.le_refl _)).mono hb1.size)
          | (go_at_call 72; refine (HL.out _ (by assumption)).mono ?_; rintro e w2 ⟨rfl, rfl⟩)
          | (go_at_call 79; refine (HS.out _ (by assumption)).mono ?_; rintro e w2 ⟨rfl, hb2⟩))
        go_ret2
        exact ⟨rfl, ((Below.refl _ _).alloc (Nat.le_refl _) _).trans ((hb1.mono (by simp)).trans (hb2.mono (by omega)))⟩
    · simp only [if_neg h1]
      go_enter Tryd.func40, Tryd.ntmps40
      go_wp2_with (first
        | (go_at_call 75; refine (HC.out _ (hw1 _)).mono ?_; rintro e w1 ⟨rfl, hb1⟩; obtain ⟨q1, q2, q3⟩ := bcell hb1; simp only [World.size_alloc] at q1 q2 q3; have hd2 := ((hd1 _).below hb1 (Nat.le_refl _)).mono hb1.size)
        | (go_at_call 72; refine (HL.out _ (by assumption)).mono ?_; rintro e w2 ⟨rfl, rfl⟩))
      go_ret2
      exact ⟨rfl, ((Below.refl _ _).alloc (Nat.le_refl _) _).trans (hb1.mono (by simp))⟩
  · rw [if_neg h0]
    generalize chkN R ws k = v at h0 HC ⊢
    go_enter Tryd.func40, Tryd.ntmps40
    go_wp2_with (go_at_call 75; refine (HC.out _ (hw1 _)).mono ?_; rintro e w1 ⟨rfl, hb1⟩; obtain ⟨q1, q2, q3⟩ := bcell hb1; simp only [World.size_alloc] at q1 q2 q3)
    go_ret2
    exact ⟨rfl, ((Below.refl _ _).alloc (Nat.le_refl _) _).trans (hb1.mono (by simp))⟩

theorem chkA_ok {R : Int} {ws : List Wy} (h : chkA R ws = 0) : ∃ rooms : Nat, R = rooms ∧ chk rooms ws = 0 ∧ ValB rooms ws ∧ Agr ws := by
  unfold chkA at h
  by_cases h0 : chk R ws = 0
  · obtain ⟨rooms, rfl, _, hv, _⟩ := chk_ok h0
    rw [if_pos h0] at h
    refine ⟨rooms, rfl, h0, hv, (agrS_iff hv.inW).1 ?_⟩
    by_cases h1 : agrS rooms ws = true
    · exact h1
    · rw [show ((rooms : Int).toNat) = rooms from rfl, if_neg h1] at h; cases h
  · rw [if_neg h0] at h; exact absurd h h0

/-- The first flow, and the error. -/
def frsS (R : Int) (ws : List Wy) : List Int × Int := if chkA R ws = 0 then (firstS R.toNat ws, 0) else ([], chkA R ws)

set_option maxHeartbeats 1000000 in
theorem first20_any (R : Int) (A : Option Addr) (c : Nat) (ws : List Wy) (w : World) (hw : WaysAt w w.heap.size A ws) (ht : SizesAt w) :
    Calls Tryd.prog 20 #[.agg #[.int .i64 R, .slice A ws.length c]] w (RetList w (frsS R ws).1 (frsS R ws).2) := by
  have HC := Lib.hid (fun W hW hT => checkAgree_any R A c ws W hW hT)
  have hw1 := fun o => (hw.alloc (Nat.le_refl _) o).mono (B' := (w.alloc o).heap.size) (by simp)
  have ht1 := fun o => ht.alloc o
  unfold frsS
  by_cases h0 : chkA R ws = 0
  · obtain ⟨rooms, rfl, _, hv, ha⟩ := chkA_ok h0
    have HF := Lib.hid (fun W hW => first_any rooms A c ws W hv ha hW)
    rw [if_pos h0, show ((rooms : Int).toNat) = rooms from rfl]
    rw [h0] at HC
    dsimp only
    generalize firstS rooms ws = L at HF ⊢
    clear h0 hv ha
    go_enter Tryd.func20, Tryd.ntmps20
    go_wp2_with (first
      | (go_at_call 56; refine (HC.out _ (hw1 _) (ht1 _)).mono ?_; rintro e w1 ⟨rfl, hb1⟩; obtain ⟨q1, q2, q3⟩ := bcell hb1; simp only [World.size_alloc] at q1 q2 q3; have hw2 := ((hw1 _).below hb1 (Nat.le_refl _)).mono hb1.size)
      | (go_at_call 57; refine (HF.out _ (by assumption)).mono ?_; rintro e w3 ⟨A', c', rfl, hA', hb3⟩))
    go_ret2
    exact ⟨A', c', rfl, hA', ((Below.refl _ _).alloc (Nat.le_refl _) _).trans ((hb1.mono (by simp)).trans (hb3.mono (by omega)))⟩
  · rw [if_neg h0]
    generalize chkA R ws = v at h0 HC ⊢
    go_enter Tryd.func20, Tryd.ntmps20
    go_wp2_with (go_at_call 56; refine (HC.out _ (hw1 _) (ht1 _)).mono ?_; rintro e w1 ⟨rfl, hb1⟩; obtain ⟨q1, q2, q3⟩ := bcell hb1; simp only [World.size_alloc] at q1 q2 q3)
    go_ret2
    exact retList_none (((Below.refl _ _).alloc (Nat.le_refl _) _).trans (hb1.mono (by simp)))
end Go.Proofs.YtcebihijnedekaaDoor
