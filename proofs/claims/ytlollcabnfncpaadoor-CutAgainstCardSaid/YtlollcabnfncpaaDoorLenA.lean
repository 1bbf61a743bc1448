/-
  A filling has no more cards than the sheet has squares.
-/
import Derived.Test.YtlollcabnfncpaaDoorMathB
namespace Go.Proofs.YtlollcabnfncpaaDoor

theorem fils_len {s : Sh} (hs : s.Ok) : ∀ (n cov : Nat) (pre l : List Cd), l ∈ fils s n cov pre → l.length ≤ pre.length + lft s cov
  | 0, _, _, _, h => by simp [fils] at h
  | n + 1, cov, pre, l, h => by
    rw [fils] at h
    split at h
    · simp at h; subst h; omega
    · obtain ⟨x, hx, hl⟩ := List.mem_flatMap.1 h
      have h1 := fils_len hs n _ _ l hl
      have h2 := lft_nxt hs hx
      rw [List.length_append, List.length_singleton] at h1
      omega
theorem filC_len {s : Sh} (hs : s.Ok) {l : List Cd} (h : l ∈ filC s 0 []) : l.length ≤ 36 := by
  have h1 := fils_len hs 37 0 [] l h
  have := lft_le hs 0
  simp at h1
  omega

/-- The cards of a filling fit. -/
theorem fils_fit {s : Sh} : ∀ (n cov : Nat) (pre l : List Cd), (∀ x ∈ pre, fitP s x) → l ∈ fils s n cov pre → ∀ x ∈ l, fitP s x
  | 0, _, _, _, _, h => by simp [fils] at h
  | n + 1, cov, pre, l, hp, h => by
    rw [fils] at h
    split at h
    · simp at h; subst h; exact hp
    · obtain ⟨x, hx, hl⟩ := List.mem_flatMap.1 h
      refine fils_fit n _ _ l ?_ hl
      intro y hy
      rcases List.mem_append.1 hy with hy | hy
      · exact hp y hy
      · rw [List.mem_singleton.1 hy]; exact (mem_nxt hx).2.1
theorem filC_fit {s : Sh} {l : List Cd} (h : l ∈ filC s 0 []) : ∀ x ∈ l, fitP s x := fils_fit 37 0 [] l (fun _ hx => absurd hx List.not_mem_nil) h
end Go.Proofs.YtlollcabnfncpaaDoor
