/-
  What lists are in memory; the errors of books, and how a call leaves them.
-/
import Derived.Test.YtcebihijnedekaaDoorWalkB
namespace Go.Proofs.YtcebihijnedekaaDoor
open Go.RowKit

/-- A list of numbers that lies in memory below block B. -/
def IntsAt (w : World) (B : Nat) (A : Option Addr) (l : List Int) : Prop :=
  ∀ (k : Nat) (x : Int), l[k]? = some x → ∃ b off, A = some ⟨b, off, none⟩ ∧ b < B ∧ w.cell? ⟨b, off + k, none⟩ = some (.int .i64 x)

theorem IntsAt.below {w w' : World} {B B' : Nat} {A : Option Addr} {l : List Int} (h : IntsAt w B A l) (hb : Below B' w w') (hB : B ≤ B') : IntsAt w' B A l := by
  intro k x hx
  obtain ⟨b, off, h1, h2, h3⟩ := h k x hx
  exact ⟨b, off, h1, h2, (hb.cell (p := ⟨b, _, none⟩) (by simp; omega)).trans h3⟩
theorem IntsAt.mono {w : World} {B B' : Nat} {A : Option Addr} {l : List Int} (h : IntsAt w B A l) (hB : B ≤ B') : IntsAt w B' A l := by
  intro k x hx
  obtain ⟨b, off, h1, h2, h3⟩ := h k x hx
  exact ⟨b, off, h1, by omega, h3⟩
theorem IntsAt.nil (w : World) (B : Nat) (A : Option Addr) : IntsAt w B A [] := by intro k x h; simp at h

/-- The error of a way. -/
def chkW (R : Int) (x : Wy) : Int :=
  if x.src < 0 ∨ R ≤ x.src ∨ x.dst < 0 ∨ R ≤ x.dst then 2 else if x.src = x.dst then 13 else if x.lo < 0 ∨ 99 < x.hi ∨ x.hi < x.lo then 1 else 0

/-- The first error of some ways. -/
def chkL (R : Int) : List Wy → Int
  | [] => 0
  | x :: ws => if chkW R x = 0 then chkL R ws else chkW R x

/-- The error of books. -/
def chk (R : Int) (ws : List Wy) : Int := if R < 2 ∨ 6 < R then 1 else if 12 < ws.length then 3 else chkL R ws

theorem chkW_ok {R : Int} {x : Wy} (h : chkW R x = 0) : (0 ≤ x.src ∧ x.src < R) ∧ (0 ≤ x.dst ∧ x.dst < R) ∧ x.src ≠ x.dst ∧ 0 ≤ x.lo ∧ x.lo ≤ x.hi ∧ x.hi ≤ 99 := by
  unfold chkW at h
  split at h
  · cases h
  split at h
  · cases h
  split at h
  · cases h
  omega

theorem chkL_ok {R : Int} : ∀ {ws : List Wy}, chkL R ws = 0 → ∀ x ∈ ws, chkW R x = 0
  | [], _, x, hx => by simp at hx
  | y :: ws, h, x, hx => by
    unfold chkL at h
    by_cases h0 : chkW R y = 0
    · rw [if_pos h0] at h
      rcases List.mem_cons.1 hx with rfl | hx
      · exact h0
      · exact chkL_ok h x hx
    · rw [if_neg h0] at h; exact absurd h h0

theorem chkL_take {R : Int} : ∀ {ws : List Wy} {k : Nat} {x : Wy}, chkL R (ws.take k) = 0 → ws[k]? = some x → chkL R (ws.take (k + 1)) = chkW R x
  | [], _, _, _, h => by simp at h
  | y :: ws, 0, x, _, h => by
    simp at h; subst h
    simp only [List.take_succ_cons, List.take_zero, chkL]
    by_cases h0 : chkW R y = 0
    · rw [if_pos h0, h0]
    · rw [if_neg h0]
  | y :: ws, k + 1, x, h0, h => by
    simp only [List.take_succ_cons, chkL] at h0 ⊢
    by_cases h1 : chkW R y = 0
    · rw [if_pos h1] at h0 ⊢; exact chkL_take h0 (by simpa using h)
    · rw [if_neg h1] at h0; exact absurd h0 h1

theorem chkL_of {R : Int} : ∀ {ws : List Wy} {k : Nat} {x : Wy}, chkL R (ws.take k) = 0 → ws[k]? = some x → chkW R x ≠ 0 → chkL R ws = chkW R x
  | [], _, _, _, h, _ => by simp at h
  | y :: ws, 0, x, _, h, hn => by
    simp at h; subst h
    simp only [chkL]
    rw [if_neg hn]
  | y :: ws, k + 1, x, h0, h, hn => by
    simp only [List.take_succ_cons, chkL] at h0 ⊢
    by_cases h1 : chkW R y = 0
    · rw [if_pos h1] at h0 ⊢; exact chkL_of h0 (by simpa using h) hn
    · rw [if_neg h1] at h0; exact absurd h0 h1

theorem chk_ok {R : Int} {ws : List Wy} (h : chk R ws = 0) : ∃ rooms : Nat, R = rooms ∧ 2 ≤ rooms ∧ ValB rooms ws ∧ ∀ x ∈ ws, x.src ≠ x.dst := by
  unfold chk at h
  split at h
  · cases h
  split at h
  · cases h
  rename_i h1 h2
  refine ⟨R.toNat, by omega, by omega, ⟨by omega, by omega, fun x hx => ?_⟩, fun x hx => ?_⟩
  · have := chkW_ok (chkL_ok h x hx); omega
  · exact (chkW_ok (chkL_ok h x hx)).2.2.1

theorem ValB.inW {rooms : Nat} {ws : List Wy} (h : ValB rooms ws) : inW rooms ws := fun x hx => ⟨(h.way x hx).1, (h.way x hx).2.1⟩
theorem ValB.okW {rooms : Nat} {ws : List Wy} (h : ValB rooms ws) : okW ws := fun x hx => (h.way x hx).2.2.2.1

/-- How many rooms the sets have. -/
def szs : List Nat := [0, 1, 1, 2, 1, 2, 2, 3, 1, 2, 2, 3, 2, 3, 3, 4, 1, 2, 2, 3, 2, 3, 3, 4, 2, 3, 3, 4, 3, 4, 4, 5, 1, 2, 2, 3, 2, 3, 3, 4, 2, 3, 3, 4, 3, 4, 4, 5, 2, 3, 3, 4, 3, 4, 4, 5, 3, 4, 4, 5, 4, 5, 5, 6]
def popc (s : Nat) : Nat := szs.getD s 0

/-- One set more is asked. -/
def stepF (q : Nat → Bool) (s : Nat) (acc : Nat × Bool) : Nat × Bool := if q s = true ∧ (acc.2 = false ∨ popc s < popc acc.1) then (s, true) else acc

/-- The sets below j are asked, from above. -/
def few (q : Nat → Bool) : Nat → Nat × Bool → Nat × Bool
  | 0, acc => acc
  | j + 1, acc => few q j (stepF q j acc)

/-- Of all sets for which q is true, the first one with as few rooms as possible. -/
def fewS (q : Nat → Bool) (rooms : Nat) : Nat × Bool := few q (2 ^ rooms) (0, false)

/-- The table of sizes lies where the program's text lays it. -/
def SizesAt (w : World) : Prop := 0 < w.heap.size ∧ ∀ i, i < 64 → w.cell? ⟨0, i, none⟩ = some (.int .i64 (popc i : Nat))
theorem SizesAt.below {w w' : World} (h : SizesAt w) (hb : Below w.heap.size w w') : SizesAt w' := ⟨Nat.lt_of_lt_of_le h.1 hb.size, fun i hi => (hb.cell (p := ⟨0, i, none⟩) h.1).trans (h.2 i hi)⟩
end Go.Proofs.YtcebihijnedekaaDoor
