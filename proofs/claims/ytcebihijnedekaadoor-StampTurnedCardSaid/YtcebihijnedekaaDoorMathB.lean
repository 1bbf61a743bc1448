/-
  Plain mathematics of what is asked of all sets of rooms.
-/
import Derived.Test.YtcebihijnedekaaDoorWalkF
namespace Go.Proofs.YtcebihijnedekaaDoor

theorem few_found (q : Nat → Bool) : ∀ (j : Nat) (acc : Nat × Bool), (few q j acc).2 = true ↔ acc.2 = true ∨ ∃ s, s < j ∧ q s = true
  | 0, acc => by simp [few]
  | j + 1, acc => by
    rw [few, few_found q j]
    unfold stepF
    by_cases h : q j = true ∧ (acc.2 = false ∨ popc j < popc acc.1)
    · rw [if_pos h]
      exact ⟨fun _ => .inr ⟨j, by omega, h.1⟩, fun _ => .inl rfl⟩
    · rw [if_neg h]
      constructor
      · rintro (h1 | ⟨s, hs, h1⟩)
        · exact .inl h1
        · exact .inr ⟨s, by omega, h1⟩
      · rintro (h1 | ⟨s, hs, h1⟩)
        · exact .inl h1
        · rcases Nat.lt_or_eq_of_le (Nat.le_of_lt_succ hs) with hlt | rfl
          · exact .inr ⟨s, hlt, h1⟩
          · by_cases h2 : acc.2 = true
            · exact .inl h2
            · exact absurd ⟨h1, .inl (by simpa using h2)⟩ h

theorem fewS_found (q : Nat → Bool) (rooms : Nat) : (fewS q rooms).2 = true ↔ ∃ s, s < 2 ^ rooms ∧ q s = true := by
  unfold fewS
  rw [few_found]; simp

/-- The set that is found: q holds of it, no other has fewer rooms, and those with as many come behind it. -/
theorem few_best (q : Nat → Bool) : ∀ (j : Nat) (acc : Nat × Bool), (few q j acc).2 = true →
    (((few q j acc) = acc) ∨ ((few q j acc).1 < j ∧ q (few q j acc).1 = true ∧ (acc.2 = true → popc (few q j acc).1 < popc acc.1))) ∧
    (∀ s, s < j → q s = true → popc (few q j acc).1 < popc s ∨ (popc (few q j acc).1 = popc s ∧ s ≤ (few q j acc).1) ∨ (few q j acc) = acc ∧ popc acc.1 ≤ popc s)
  | 0, acc, _ => ⟨.inl rfl, fun s hs => by omega⟩
  | j + 1, acc, h => by
    rw [few] at h ⊢
    obtain ⟨h1, h2⟩ := few_best q j _ h
    by_cases hc : q j = true ∧ (acc.2 = false ∨ popc j < popc acc.1)
    · have hst : stepF q j acc = (j, true) := by unfold stepF; rw [if_pos hc]
      rw [hst] at h1 h2 ⊢
      refine ⟨.inr ?_, fun s hs hq => ?_⟩
      · rcases h1 with h1 | ⟨h1, h3, h4⟩
        · rw [h1]
          refine ⟨by simp, hc.1, fun ha => ?_⟩
          rcases hc.2 with h5 | h5
          · rw [h5] at ha; cases ha
          · exact h5
        · refine ⟨by omega, h3, fun ha => ?_⟩
          have := h4 rfl
          rcases hc.2 with h5 | h5
          · rw [h5] at ha; cases ha
          · dsimp only at this; omega
      · rcases Nat.lt_or_eq_of_le (Nat.le_of_lt_succ hs) with hlt | rfl
        · rcases h2 s hlt hq with h6 | h6 | ⟨h6, h7⟩
          · exact .inl h6
          · exact .inr (.inl h6)
          · rw [h6]
            dsimp only at h7 ⊢
            rcases Nat.lt_or_eq_of_le h7 with h8 | h8
            · exact .inl h8
            · exact .inr (.inl ⟨h8, by omega⟩)
        · rcases h1 with h1 | ⟨h1, h3, h4⟩
          · rw [h1]; exact .inr (.inl ⟨rfl, Nat.le_refl _⟩)
          · exact .inl (h4 rfl)
    · have hst : stepF q j acc = acc := by unfold stepF; rw [if_neg hc]
      rw [hst] at h1 h2 ⊢
      refine ⟨?_, fun s hs hq => ?_⟩
      · rcases h1 with h1 | ⟨h1, h3, h4⟩
        · exact .inl h1
        · exact .inr ⟨by omega, h3, h4⟩
      · rcases Nat.lt_or_eq_of_le (Nat.le_of_lt_succ hs) with hlt | rfl
        · exact h2 s hlt hq
        · have ha : acc.2 = true ∧ popc acc.1 ≤ popc s := by
            by_cases h5 : acc.2 = true
            · exact ⟨h5, by
                rcases Nat.lt_or_ge (popc s) (popc acc.1) with h6 | h6
                · exact absurd ⟨hq, .inr h6⟩ hc
                · exact h6⟩
            · exact absurd ⟨hq, .inl (by simpa using h5)⟩ hc
          rcases h1 with h1 | ⟨h1, h3, h4⟩
          · exact .inr (.inr ⟨h1, ha.2⟩)
          · have := h4 ha.1; exact .inl (by omega)

/-- Of the sets for which q holds, the one that is found has fewest rooms, and the greatest number of those. -/
theorem fewS_best {q : Nat → Bool} {rooms : Nat} (h : (fewS q rooms).2 = true) : (fewS q rooms).1 < 2 ^ rooms ∧ q (fewS q rooms).1 = true ∧
    ∀ s, s < 2 ^ rooms → q s = true → popc (fewS q rooms).1 < popc s ∨ (popc (fewS q rooms).1 = popc s ∧ s ≤ (fewS q rooms).1) := by
  unfold fewS at h ⊢
  obtain ⟨h1, h2⟩ := few_best q _ _ h
  have h3 : ¬ few q (2 ^ rooms) (0, false) = (0, false) := fun e => by rw [e] at h; cases h
  rcases h1 with h1 | ⟨h1, h4, _⟩
  · exact absurd h1 h3
  · refine ⟨h1, h4, fun s hs hq => ?_⟩
    rcases h2 s hs hq with h5 | h5 | ⟨h5, _⟩
    · exact .inl h5
    · exact .inr h5
    · exact absurd h5 h3

theorem agrS_iff {rooms : Nat} {ws : List Wy} (hv : inW rooms ws) : agrS rooms ws = true ↔ Agr ws := by
  unfold agrS
  rw [agr_iffP hv]
  have := fewS_found (qP rooms ws) rooms
  cases hf : (fewS (qP rooms ws) rooms).2
  · simp only [Bool.not_false, true_iff]
    intro s hs
    rw [hf] at this
    have h1 : ¬ qP rooms ws s = true := fun hq => by have := this.2 ⟨s, hs, hq⟩; cases this
    unfold qP at h1
    have : ¬ (0 < ex (memP rooms s) ws) := by simpa using h1
    omega
  · obtain ⟨s, hs, hq⟩ := this.1 hf
    simp only [Bool.not_true, Bool.false_eq_true, false_iff]
    intro h
    have h1 := h s hs
    unfold qP at hq
    have : 0 < ex (memP rooms s) ws := by simpa using hq
    omega
end Go.Proofs.YtcebihijnedekaaDoor
