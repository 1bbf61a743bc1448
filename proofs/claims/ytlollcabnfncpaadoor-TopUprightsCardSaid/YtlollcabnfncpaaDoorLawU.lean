/-
  The walk of TopUprights.
-/
import Derived.Test.YtlollcabnfncpaaDoorUpW
import Derived.Test.YtlollcabnfncpaaDoorUpA
namespace Go.Proofs.YtlollcabnfncpaaDoor
open Go.RowKit

theorem find_head (L : List (List Cd)) : L.find? (fun _ => true) = L.head? := by
  rcases L with _ | ⟨x, l⟩ <;> rfl
theorem fill_of {s : Sh} (hs : s.Ok) (w : World) (ht : TabW w) : Calls Tryd.prog 17 #[.agg #[.int .i64 s.r, .int .i64 s.c, .int .i64 s.l, .int .i64 s.w]] w (RetFirst (filC s 0 []).head? (if (filC s 0 []).head?.isSome then 0 else 12) w) := by
  have h := fill_any s.r s.c s.l s.w w ht
  have e : filS s.r s.c s.l s.w = (filC s 0 []).head? := by
    unfold filS
    rw [if_pos (chkS_ok hs), find_head]
    rfl
  unfold errS at h
  rw [if_pos (chkS_ok hs), e] at h
  exact h
theorem up_of {s : Sh} (hs : s.Ok) : upS s.r s.c s.l s.w = (if (enC s 0).fd = true then enC s 0 else ⟨0, 0, false⟩) ∧ upE s.r s.c s.l s.w = if (enC s 0).fd = true then 0 else 12 := by
  constructor
  · unfold upS
    rw [if_pos (chkS_ok hs)]
    rfl
  · unfold upE
    rw [if_pos (chkS_ok hs)]
    rfl
theorem ups_le (l : List Cd) : ups l ≤ l.length := List.countP_le_length

/-- The ends of the numbers of upright cards, and the first filling. -/
theorem ends_of {s : Sh} (hs : s.Ok) (ha : s.r * s.c ≤ 30) :
    ((enC s 0).fd = false → (filC s 0 []).head? = none) ∧ ((enC s 0).fd = true → ∃ (a b : Nat) (y : List Cd), (enC s 0).lo = a ∧ (enC s 0).hi = b ∧ (filC s 0 []).head? = some y ∧ y.length = s.r * s.c / (s.l * s.w) ∧ a ≤ ups y ∧ ups y ≤ b ∧ b ≤ s.r * s.c / (s.l * s.w)) := by
  have h := en_fils s 37 0 []
  have hn := (turn_ok hs ha).2.2
  have hfd := fd_fils s
  constructor
  · intro e
    rcases hc : filC s 0 [] with _ | ⟨y, L⟩
    · rfl
    · have : (enC s 0).fd = true := hfd.2 (by rw [hc]; simp)
      rw [e] at this; cases this
  · intro e
    obtain ⟨a, b, e1, e2, _, ⟨l, hl, hb⟩, h3⟩ := h.2 e
    have hne := hfd.1 e
    rcases hc : filC s 0 [] with _ | ⟨y, L⟩
    · exact absurd hc hne
    · have hy : y ∈ filC s 0 [] := by rw [hc]; simp
      have h4 := h3 (ups y) ⟨y, hy, by simp [ups]⟩
      have h5 := hn l hl
      have h6 := ups_le l
      have h7 : ups l = b := by simpa [ups] using hb
      exact ⟨a, b, y, e1, e2, rfl, hn y hy, h4.1, h4.2, by omega⟩
theorem run_eq2 (w : World) (a b : Int) : (binOp .eql 92 (.agg #[.int .i64 a, .int .i64 b]) (.agg #[.int .i64 a, .int .i64 b])).run Tryd.prog w = .ok (.bool true) w := by
  obtain ⟨i0, hi, hz0, hz1, hz2⟩ := info_parts info3
  have h := run_equalIn_array (P := Tryd.prog) (w := w) 9999 (i := i0) #[.int .i64 a, .int .i64 b] #[.int .i64 a, .int .i64 b] Tryd.underlying92 hi
  have hr : List.range 2 = [0, 1] := rfl
  rw [Stp.cells3, hr] at h
  simp [Op.eqItems, go_sem, Tryd.underlying3] at h
  simp only [binOp]
  simp [Op.equal, Op.maxDepth, h]
end Go.Proofs.YtlollcabnfncpaaDoor
