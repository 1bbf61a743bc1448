/-
  The reference's best rooms for the end of a span are those that are found by numbers.
-/
import Derived.Test.YtcebihijnedekaaDoorRefF
import Derived.Test.YtcebihijnedekaaDoorRefN
import Derived.Test.YtcebihijnedekaaDoorWalkT
import Derived.Test.YtcebihijnedekaaDoorWalkV
namespace Go.Proofs.YtcebihijnedekaaDoor

/-- Whether rooms say the end of a span, room 0 being the lowest bit. -/
def qRB (ws : List Wy) (x : Wy) (gr : Bool) (V : Int) (s : Nat) : Bool := (if gr then lv (memR s) x else en (memR s) x) && decide (saysV (memR s) ws x = V)

theorem best_bound {rooms n : Nat} {ws : List Wy} {x : Wy} (hv : ValB rooms ws) (hx : ws[n]? = some x) (gr : Bool) (hne : ¬ endS rooms ws x gr = toldS x gr) :
    bestK (qRB ws x gr (endS rooms ws x gr)) (listR (2 ^ rooms - 1)) (2 ^ rooms) = listS rooms (fewS (qB rooms ws x (wantS gr) (endS rooms ws x gr)) rooms).1 := by
  have hm := mem_of_get hx
  have hr6 := hv.r6
  refine best_eq hr6 ?_ ?_ ?_
  · intro s hs
    obtain ⟨e1, e2⟩ := side_congr hv.inW hm (fun r h0 h1 => memR_rv hr6 hs r h0 h1)
    obtain ⟨l1, l2⟩ := lv_congr hv.inW hm (fun r h0 h1 => memR_rv hr6 hs r h0 h1)
    unfold qRB qB
    rw [e2, l1, l2]
    congr 1
    rcases side_cases (memP rooms s) x with ⟨a, b, c⟩ | ⟨a, b, c⟩ | ⟨a, b, c⟩ <;> rw [a, b, c] <;> cases gr <;> rfl
  · have h1 := (hv.inW x hm).1
    have h2 := (hv.inW x hm).2
    unfold qRB lv en
    rw [memR_full _ h1.1 h1.2, memR_full _ h2.1 h2.2]
    cases gr <;> rfl
  · rw [fewS_found]
    obtain ⟨⟨_, _, a3⟩, _, _, b3⟩ := spanK_spec rooms ws x (2 ^ rooms)
    cases gr
    · rcases a3 with h | ⟨s, hs, hl, h⟩
      · exact absurd h hne
      · refine ⟨s, hs, ?_⟩
        rcases side_cases (memP rooms s) x with ⟨a, b, c⟩ | ⟨a, b, c⟩ | ⟨a, b, c⟩
        · rw [c] at hl; cases hl
        · have : saysV (memP rooms s) ws x = endS rooms ws x false := by
            unfold saysV; rw [b, c]; exact h.symm
          unfold qB; rw [this, a]; simp [wantS]
        · rw [c] at hl; cases hl
    · rcases b3 with h | ⟨s, hs, hl, h⟩
      · exact absurd h hne
      · refine ⟨s, hs, ?_⟩
        rcases side_cases (memP rooms s) x with ⟨a, b, c⟩ | ⟨a, b, c⟩ | ⟨a, b, c⟩
        · have : saysV (memP rooms s) ws x = endS rooms ws x true := by
            unfold saysV; rw [b]; exact h.symm
          unfold qB; rw [this, a]; simp [wantS]
        · rw [b] at hl; cases hl
        · rw [b] at hl; cases hl
end Go.Proofs.YtcebihijnedekaaDoor
