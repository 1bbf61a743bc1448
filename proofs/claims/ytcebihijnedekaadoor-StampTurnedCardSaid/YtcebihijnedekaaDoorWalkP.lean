/-
  The walks of Against, Span and Says.
-/
import Derived.Test.YtcebihijnedekaaDoorWalkJ
import Derived.Test.YtcebihijnedekaaDoorWalkL
namespace Go.Proofs.YtcebihijnedekaaDoor
open Go.RowKit

/-- A list and an error are handed back. -/
def RetList (w : World) (l : List Int) (er : Int) (e : Ending) (w' : World) : Prop := ∃ A c, e = .returned (.tuple #[.slice A l.length c, .int .i64 er]) ∧ IntsAt w' w'.heap.size A l ∧ Below w.heap.size w w'

theorem retList_none {w w' : World} {er : Int} (hb : Below w.heap.size w w') : RetList w [] er (.returned (.tuple #[.slice none 0 0, .int .i64 er])) w' := ⟨none, 0, rfl, IntsAt.nil _ _ _, hb⟩

theorem few_lt (q : Nat → Bool) : ∀ (j : Nat) (acc : Nat × Bool), j ≤ 64 → acc.1 < 64 → (few q j acc).1 < 64
  | 0, _, _, h => h
  | j + 1, acc, hj, h => by
    rw [few]
    refine few_lt q j _ (by omega) ?_
    unfold stepF
    split
    · show j < 64; omega
    · exact h

theorem fewS_lt {q : Nat → Bool} {rooms : Nat} (hr : rooms ≤ 6) : (fewS q rooms).1 < 64 := few_lt q _ _ (pow_le_64 hr) (by decide)

/-- The rooms that prove that books do not agree, and the error. -/
def agaS (R : Int) (ws : List Wy) : List Int × Int :=
  if chk R ws = 0 then (if agrS R.toNat ws then ([], 13) else (listS R.toNat (fewS (qP R.toNat ws) R.toNat).1, 0)) else ([], chk R ws)

set_option maxHeartbeats 1000000 in
theorem against_any (R : Int) (A : Option Addr) (c : Nat) (ws : List Wy) (w : World) (hw : WaysAt w w.heap.size A ws) (ht : SizesAt w) :
    Calls Tryd.prog 29 #[.agg #[.int .i64 R, .slice A ws.length c]] w (RetList w (agaS R ws).1 (agaS R ws).2) := by
  have HC := Lib.hid (fun W hW => check_any R A c ws W hW)
  have hw1 := fun o => (hw.alloc (Nat.le_refl _) o).mono (B' := (w.alloc o).heap.size) (by simp)
  have ht1 := fun o => ht.alloc o
  unfold agaS agrS
  by_cases h0 : chk R ws = 0
  · obtain ⟨rooms, rfl, _, hv, _⟩ := chk_ok h0
    have HP := Lib.hid (fun W hW hT => proof_any rooms A c ws W hv hW hT)
    rw [if_pos h0, show ((rooms : Int).toNat) = rooms from rfl]
    rw [h0] at HC
    have hl := fewS_lt (q := qP rooms ws) hv.r6
    have hr6 := hv.r6
    generalize fewS (qP rooms ws) rooms = r at HP hl ⊢
    obtain ⟨s, f⟩ := r
    dsimp only at HP hl ⊢
    have HL := Lib.hid (fun W => listOf_any rooms s W hr6 hl)
    generalize listS rooms s = L at HL ⊢
    clear h0 hv
    rcases f with _ | _
    · simp only [Bool.not_false, if_true]
      go_enter Tryd.func29, Tryd.ntmps29
      go_wp2_with (first
        | (go_at_call 23; refine (HC.out _ (hw1 _)).mono ?_; rintro e w1 ⟨rfl, hb1⟩; obtain ⟨q1, q2, q3⟩ := bcell hb1; simp only [World.size_alloc] at q1 q2 q3; have hw2 := ((hw1 _).below hb1 (Nat.le_refl _)).mono hb1.size; have ht2 := (ht1 _).below hb1)
        | (go_at_call 67; refine (HP.out _ (by assumption) (by assumption)).mono ?_; rintro e w2 ⟨rfl, hb2⟩))
      go_ret2
      exact retList_none (((Below.refl _ _).alloc (Nat.le_refl _) _).trans ((hb1.mono (by simp)).trans (hb2.mono (by omega))))
    · simp only [Bool.not_true, Bool.false_eq_true, if_false]
      go_enter Tryd.func29, Tryd.ntmps29
      go_wp2_with (first
        | (go_at_call 23; refine (HC.out _ (hw1 _)).mono ?_; rintro e w1 ⟨rfl, hb1⟩; obtain ⟨q1, q2, q3⟩ := bcell hb1; simp only [World.size_alloc] at q1 q2 q3; have hw2 := ((hw1 _).below hb1 (Nat.le_refl _)).mono hb1.size; have ht2 := (ht1 _).below hb1)
        | (go_at_call 67; refine (HP.out _ (by assumption) (by assumption)).mono ?_; rintro e w2 ⟨rfl, hb2⟩; obtain ⟨p1, p2, p3⟩ := bcell hb2; have hz2 : w.heap.size < w1.heap.size := (by omega))
        | (go_at_call 68; refine (HL.out _).mono ?_; rintro e w3 ⟨A', c', rfl, hA', hb3⟩))
      go_ret2
      exact ⟨A', c', rfl, hA', ((Below.refl _ _).alloc (Nat.le_refl _) _).trans ((hb1.mono (by simp)).trans ((hb2.mono (by omega)).trans (hb3.mono (by omega))))⟩
  · rw [if_neg h0]
    generalize chk R ws = v at h0 HC ⊢
    go_enter Tryd.func29, Tryd.ntmps29
    go_wp2_with (go_at_call 23; refine (HC.out _ (hw1 _)).mono ?_; rintro e w1 ⟨rfl, hb1⟩; obtain ⟨q1, q2, q3⟩ := bcell hb1; simp only [World.size_alloc] at q1 q2 q3)
    go_ret2
    exact retList_none (((Below.refl _ _).alloc (Nat.le_refl _) _).trans (hb1.mono (by simp)))

/-- The span of a way of books, and the error. -/
def spnS (R : Int) (ws : List Wy) (k : Int) : Int × Int × Int :=
  if chkN R ws k = 0 then (if agrS R.toNat ws then (match ws[k.toNat]? with | some x => ((spanS R.toNat ws x).1, (spanS R.toNat ws x).2, 0) | none => (0, 0, 0)) else (0, 0, 12)) else (0, 0, chkN R ws k)

theorem chkN_ok {R k : Int} {ws : List Wy} (h : chkN R ws k = 0) : chk R ws = 0 ∧ ∃ (n : Nat) (x : Wy), k = n ∧ ws[n]? = some x := by
  unfold chkN at h
  by_cases h0 : chk R ws = 0
  · rw [if_pos h0] at h
    refine ⟨h0, k.toNat, ws[k.toNat]'?_, ?_, ?_⟩
    · by_cases h1 : k < 0 ∨ (ws.length : Int) ≤ k
      · rw [if_pos h1] at h; cases h
      · omega
    · by_cases h1 : k < 0 ∨ (ws.length : Int) ≤ k
      · rw [if_pos h1] at h; cases h
      · omega
    · exact List.getElem?_eq_getElem _
  · rw [if_neg h0] at h; exact absurd h h0

set_option maxHeartbeats 1000000 in
theorem span33_any (R k : Int) (A : Option Addr) (c : Nat) (ws : List Wy) (w : World) (hw : WaysAt w w.heap.size A ws) (ht : SizesAt w) :
    Calls Tryd.prog 33 #[.agg #[.int .i64 R, .slice A ws.length c], .int .i64 k] w fun e w' => e = .returned (.tuple #[.int .i64 (spnS R ws k).1, .int .i64 (spnS R ws k).2.1, .int .i64 (spnS R ws k).2.2]) ∧ Below w.heap.size w w' := by
  have HC := Lib.hid (fun W hW => checkNamed_any R k A c ws W hW)
  have hw1 := fun o => (hw.alloc (Nat.le_refl _) o).mono (B' := (w.alloc o).heap.size) (by simp)
  have ht1 := fun o => ht.alloc o
  unfold spnS
  by_cases h0 : chkN R ws k = 0
  · obtain ⟨hk0, n, x, rfl, hx⟩ := chkN_ok h0
    obtain ⟨rooms, rfl, _, hv, _⟩ := chk_ok hk0
    have HA := Lib.hid (fun W hW hT => agree_any rooms A c ws W hv hW hT)
    have HS := Lib.hid (fun W hW => span_any rooms n A c ws x W hv hx hW)
    rw [if_pos h0, show ((rooms : Int).toNat) = rooms from rfl, show ((n : Int).toNat) = n from rfl, hx]
    dsimp only
    rw [h0] at HC
    generalize agrS rooms ws = v at HA ⊢
    generalize spanS rooms ws x = P at HS ⊢
    obtain ⟨P1, P2⟩ := P
    dsimp only at HS ⊢
    clear h0 hk0 hv hx
    rcases v with _ | _
    · simp only [Bool.false_eq_true, if_false]
      go_enter Tryd.func33, Tryd.ntmps33
      go_wp2_with (first
        | (go_at_call 75; refine (HC.out _ (hw1 _)).mono ?_; rintro e w1 ⟨rfl, hb1⟩; obtain ⟨q1, q2, q3⟩ := bcell hb1; simp only [World.size_alloc] at q1 q2 q3; have hw2 := ((hw1 _).below hb1 (Nat.le_refl _)).mono hb1.size; have ht2 := (ht1 _).below hb1)
        | (go_at_call 54; refine (HA.out _ (by assumption) (by assumption)).mono ?_; rintro e w2 ⟨rfl, hb2⟩))
      go_ret3
      exact ⟨rfl, (((Below.refl _ _).alloc (Nat.le_refl _) _).trans ((hb1.mono (by simp)).trans (hb2.mono (by omega))))⟩
    · simp only [if_true]
      go_enter Tryd.func33, Tryd.ntmps33
      go_wp2_with (first
        | (go_at_call 75; refine (HC.out _ (hw1 _)).mono ?_; rintro e w1 ⟨rfl, hb1⟩; obtain ⟨q1, q2, q3⟩ := bcell hb1; simp only [World.size_alloc] at q1 q2 q3; have hw2 := ((hw1 _).below hb1 (Nat.le_refl _)).mono hb1.size; have ht2 := (ht1 _).below hb1; have hz2 : w.heap.size < w1.heap.size := (by omega))
        | (go_at_call 54; refine (HA.out _ hw2 ht2).mono ?_; rintro e w2 ⟨rfl, hb2⟩; obtain ⟨p1, p2, p3⟩ := bcell hb2; have hw3 := (hw2.below hb2 (Nat.le_refl _)).mono hb2.size)
        | (go_at_call 76; refine (HS.out _ hw3).mono ?_; rintro e w3 ⟨rfl, hb3⟩))
      go_ret3
      exact ⟨rfl, ((Below.refl _ _).alloc (Nat.le_refl _) _).trans ((hb1.mono (by simp)).trans ((hb2.mono (by omega)).trans (hb3.mono (by omega))))⟩
  · rw [if_neg h0]
    generalize chkN R ws k = v at h0 HC ⊢
    go_enter Tryd.func33, Tryd.ntmps33
    go_wp2_with (go_at_call 75; refine (HC.out _ (hw1 _)).mono ?_; rintro e w1 ⟨rfl, hb1⟩; obtain ⟨q1, q2, q3⟩ := bcell hb1; simp only [World.size_alloc] at q1 q2 q3)
    go_ret3
    exact ⟨rfl, (((Below.refl _ _).alloc (Nat.le_refl _) _).trans (hb1.mono (by simp)))⟩
end Go.Proofs.YtcebihijnedekaaDoor
