/-
  The walks of Can, checkNamed, Proves, Against, Span and Says.
-/
import Derived.Test.YtcebihijnedekaaDoorWalkH
import Derived.Test.YtcebihijnedekaaDoorWalkI
namespace Go.Proofs.YtcebihijnedekaaDoor
open Go.RowKit

def canS (R : Int) (ws : List Wy) : Bool := decide (chk R ws = 0) && agrS R.toNat ws

set_option maxHeartbeats 1000000 in
theorem can_any (R : Int) (A : Option Addr) (c : Nat) (ws : List Wy) (w : World) (hw : WaysAt w w.heap.size A ws) (ht : SizesAt w) :
    Calls Tryd.prog 18 #[.agg #[.int .i64 R, .slice A ws.length c]] w fun e w' => e = .returned (.tuple #[.bool (canS R ws), .int .i64 (chk R ws)]) ∧ Below w.heap.size w w' := by
  have HC := Lib.hid (fun W hW => check_any R A c ws W hW)
  have hw1 := fun o => (hw.alloc (Nat.le_refl _) o).mono (B' := (w.alloc o).heap.size) (by simp)
  have ht1 := fun o => ht.alloc o
  unfold canS
  by_cases h0 : chk R ws = 0
  · obtain ⟨rooms, rfl, _, hv, _⟩ := chk_ok h0
    have HA := Lib.hid (fun W hW hT => agree_any rooms A c ws W hv hW hT)
    rw [h0, show ((rooms : Int).toNat) = rooms from rfl]
    rw [h0] at HC
    clear h0 hv
    generalize agrS rooms ws = v at HA ⊢
    go_enter Tryd.func18, Tryd.ntmps18
    go_wp2_with (first
      | (go_at_call 23; refine (HC.out _ (hw1 _)).mono ?_; rintro e w1 ⟨rfl, hb1⟩; obtain ⟨q1, q2, q3⟩ := bcell hb1; simp only [World.size_alloc] at q1 q2 q3; have hw2 := ((hw1 _).below hb1 (Nat.le_refl _)).mono hb1.size; have ht2 := (ht1 _).below hb1)
      | (go_at_call 54; refine (HA.out _ (by assumption) (by assumption)).mono ?_; rintro e w2 ⟨rfl, hb2⟩))
    go_ret2
    exact ⟨rfl, ((Below.refl _ _).alloc (Nat.le_refl _) _).trans ((hb1.mono (by simp)).trans (hb2.mono (by omega)))⟩
  · rw [decide_eq_false h0]
    generalize chk R ws = v at h0 HC ⊢
    go_enter Tryd.func18, Tryd.ntmps18
    go_wp2_with (go_at_call 23; refine (HC.out _ (hw1 _)).mono ?_; rintro e w1 ⟨rfl, hb1⟩; obtain ⟨q1, q2, q3⟩ := bcell hb1; simp only [World.size_alloc] at q1 q2 q3)
    go_ret2
    exact ⟨rfl, ((Below.refl _ _).alloc (Nat.le_refl _) _).trans (hb1.mono (by simp))⟩

/-- The error of books and a way. -/
def chkN (R : Int) (ws : List Wy) (k : Int) : Int := if chk R ws = 0 then (if k < 0 ∨ (ws.length : Int) ≤ k then 2 else 0) else chk R ws

set_option maxHeartbeats 1000000 in
theorem checkNamed_any (R k : Int) (A : Option Addr) (c : Nat) (ws : List Wy) (w : World) (hw : WaysAt w w.heap.size A ws) :
    Calls Tryd.prog 75 #[.agg #[.int .i64 R, .slice A ws.length c], .int .i64 k] w fun e w' => e = .returned (.int .i64 (chkN R ws k)) ∧ Below w.heap.size w w' := by
  have HC := Lib.hid (fun W hW => check_any R A c ws W hW)
  have hw1 := fun o => (hw.alloc (Nat.le_refl _) o).mono (B' := (w.alloc o).heap.size) (by simp)
  unfold chkN
  by_cases h0 : chk R ws = 0
  · rw [if_pos h0]
    rw [h0] at HC
    clear h0
    rcases Int.lt_or_le k 0 with a1 | a1
    · rw [if_pos (.inl a1)]
      go_enter Tryd.func75, Tryd.ntmps75
      go_wp2_with (go_at_call 23; refine (HC.out _ (hw1 _)).mono ?_; rintro e w1 ⟨rfl, hb1⟩; obtain ⟨q1, q2, q3⟩ := bcell hb1; simp only [World.size_alloc] at q1 q2 q3)
      go_ret
      exact ⟨rfl, ((Below.refl _ _).alloc (Nat.le_refl _) _).trans (hb1.mono (by simp))⟩
    · rcases Int.lt_or_le k ws.length with a2 | a2
      · rw [if_neg (by omega)]
        go_enter Tryd.func75, Tryd.ntmps75
        go_wp2_with (go_at_call 23; refine (HC.out _ (hw1 _)).mono ?_; rintro e w1 ⟨rfl, hb1⟩; obtain ⟨q1, q2, q3⟩ := bcell hb1; simp only [World.size_alloc] at q1 q2 q3)
        go_ret
        exact ⟨rfl, ((Below.refl _ _).alloc (Nat.le_refl _) _).trans (hb1.mono (by simp))⟩
      · rw [if_pos (.inr a2)]
        go_enter Tryd.func75, Tryd.ntmps75
        go_wp2_with (go_at_call 23; refine (HC.out _ (hw1 _)).mono ?_; rintro e w1 ⟨rfl, hb1⟩; obtain ⟨q1, q2, q3⟩ := bcell hb1; simp only [World.size_alloc] at q1 q2 q3)
        go_ret
        exact ⟨rfl, ((Below.refl _ _).alloc (Nat.le_refl _) _).trans (hb1.mono (by simp))⟩
  · rw [if_neg h0]
    generalize chk R ws = v at h0 HC ⊢
    go_enter Tryd.func75, Tryd.ntmps75
    go_wp2_with (go_at_call 23; refine (HC.out _ (hw1 _)).mono ?_; rintro e w1 ⟨rfl, hb1⟩; obtain ⟨q1, q2, q3⟩ := bcell hb1; simp only [World.size_alloc] at q1 q2 q3)
    go_ret
    exact ⟨rfl, ((Below.refl _ _).alloc (Nat.le_refl _) _).trans (hb1.mono (by simp))⟩

theorem setS_lt {rooms : Nat} (hr : rooms ≤ 6) : ∀ (l : List Int) (s : Nat) (z : Int), s < 64 → (setS rooms l s z).1 < 64
  | [], s, z, h => h
  | r :: l, s, z, h => by
    unfold setS
    split
    · decide
    · split
      · decide
      · rename_i h1 h2
        exact setS_lt hr l _ _ (or_bit hr h (by omega) (by omega)).2

/-- The error of a list of rooms that are to be a proof. -/
def prvS (R : Int) (ws : List Wy) (l : List Int) : Int :=
  if chk R ws = 0 then (if (setS R.toNat l 0 (-1)).2 = 0 then (if 0 < ex (memP R.toNat (setS R.toNat l 0 (-1)).1) ws then 0 else 14) else (setS R.toNat l 0 (-1)).2) else chk R ws

set_option maxHeartbeats 1000000 in
theorem proves_any (R : Int) (A D : Option Addr) (c d : Nat) (ws : List Wy) (l : List Int) (w : World) (hl : l.length ≤ 1000) (hw : WaysAt w w.heap.size A ws) (hd : IntsAt w w.heap.size D l) :
    Calls Tryd.prog 31 #[.agg #[.int .i64 R, .slice A ws.length c], .slice D l.length d] w fun e w' => e = .returned (.int .i64 (prvS R ws l)) ∧ Below w.heap.size w w' := by
  have HC := Lib.hid (fun W hW => check_any R A c ws W hW)
  have hw1 := fun o => (hw.alloc (Nat.le_refl _) o).mono (B' := (w.alloc o).heap.size) (by simp)
  have hd1 := fun o => (hd.alloc (Nat.le_refl _) o).mono (B' := (w.alloc o).heap.size) (by simp)
  unfold prvS
  by_cases h0 : chk R ws = 0
  · obtain ⟨rooms, rfl, _, hv, _⟩ := chk_ok h0
    rw [if_pos h0, show ((rooms : Int).toNat) = rooms from rfl]
    rw [h0] at HC
    clear h0
    have HL := Lib.hid (fun W hD => setOf_any rooms D d l W hv.r6 hl hD)
    have hs64 := setS_lt hv.r6 l 0 (-1) (by decide)
    generalize setS rooms l 0 (-1) = r at HL hs64 ⊢
    obtain ⟨s, er⟩ := r
    dsimp only at HL hs64 ⊢
    have HE := Lib.hid (fun W h => excess_any rooms s A c ws W hv hs64 h)
    generalize ex (memP rooms s) ws = E at HE ⊢
    clear hv
    by_cases h1 : er = 0
    · subst h1
      rw [if_pos rfl]
      by_cases h2 : 0 < E
      all_goals
        first | rw [if_pos h2] | rw [if_neg h2]
        go_enter Tryd.func31, Tryd.ntmps31
        go_wp2_with (first
          | (go_at_call 23; refine (HC.out _ (hw1 _)).mono ?_; rintro e w1 ⟨rfl, hb1⟩; obtain ⟨q1, q2, q3⟩ := bcell hb1; simp only [World.size_alloc] at q1 q2 q3; have hw2 := ((hw1 _).below hb1 (Nat.le_refl _)).mono hb1.size; have hd2 := ((hd1 _).below hb1 (Nat.le_refl _)).mono hb1.size)
          | (go_at_call 72; refine (HL.out _ (by assumption)).mono ?_; rintro e w2 ⟨rfl, rfl⟩)
          | (go_at_call 73; refine (HE.out _ (by assumption)).mono ?_; rintro e w2 ⟨rfl, hb2⟩))
        go_ret
        exact ⟨rfl, ((Below.refl _ _).alloc (Nat.le_refl _) _).trans ((hb1.mono (by simp)).trans (hb2.mono (by omega)))⟩
    · rw [if_neg h1]
      go_enter Tryd.func31, Tryd.ntmps31
      go_wp2_with (first
        | (go_at_call 23; refine (HC.out _ (hw1 _)).mono ?_; rintro e w1 ⟨rfl, hb1⟩; obtain ⟨q1, q2, q3⟩ := bcell hb1; simp only [World.size_alloc] at q1 q2 q3; have hd2 := ((hd1 _).below hb1 (Nat.le_refl _)).mono hb1.size)
        | (go_at_call 72; refine (HL.out _ (by assumption)).mono ?_; rintro e w2 ⟨rfl, rfl⟩))
      go_ret
      exact ⟨rfl, ((Below.refl _ _).alloc (Nat.le_refl _) _).trans (hb1.mono (by simp))⟩
  · rw [if_neg h0]
    generalize chk R ws = v at h0 HC ⊢
    go_enter Tryd.func31, Tryd.ntmps31
    go_wp2_with (go_at_call 23; refine (HC.out _ (hw1 _)).mono ?_; rintro e w1 ⟨rfl, hb1⟩; obtain ⟨q1, q2, q3⟩ := bcell hb1; simp only [World.size_alloc] at q1 q2 q3)
    go_ret
    exact ⟨rfl, ((Below.refl _ _).alloc (Nat.le_refl _) _).trans (hb1.mono (by simp))⟩
end Go.Proofs.YtcebihijnedekaaDoor
