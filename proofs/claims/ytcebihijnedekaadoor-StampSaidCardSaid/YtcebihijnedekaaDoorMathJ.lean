/-
  What sets of rooms say of a way: it holds in all flows; the best sets that say the end of a span.
-/
import Derived.Test.YtcebihijnedekaaDoorMathH
import Derived.Test.YtcebihijnedekaaDoorWalkV
namespace Go.Proofs.YtcebihijnedekaaDoor
open Go.RowKit

theorem side_congrO {rooms : Nat} {ws : List Wy} (hv : inW rooms ws) {x : Wy} (hx : x ∈ ws) {m m' : Int → Bool} (h : ∀ r : Int, 0 ≤ r → r < rooms → m r = m' r) : sideV m x = sideV m' x ∧ saysV m ws x = saysV m' ws x := by
  obtain ⟨a, b⟩ := lv_congr hv hx h
  have c := ex_congr hv h
  unfold sideV saysV
  rw [a, b, c]
  exact ⟨rfl, rfl⟩

theorem side_casesO (m : Int → Bool) (x : Wy) : (sideV m x = 1 ∧ lv m x = true ∧ en m x = false) ∨ (sideV m x = 2 ∧ lv m x = false ∧ en m x = true) ∨ (sideV m x = 0 ∧ lv m x = false ∧ en m x = false) := by
  unfold sideV
  rcases xb_cases m x with ⟨a1, a2, _, _⟩ | ⟨a1, a2, _, _⟩ | ⟨a1, a2, _, _⟩ <;> simp [a1, a2]

/-- What the list of a set says. -/
theorem sys_list {rooms s i : Nat} {ws : List Wy} {x : Wy} (hv : ValB rooms ws) (hch : chk rooms ws = 0) (hs : s < 2 ^ rooms) (hx : ws[i]? = some x) :
    sysS rooms ws (listR s) i = if sideV (memR s) x = 0 then (0, 12) else (saysV (memR s) ws x, 0) := by
  have hl := lt_of_get hx
  have hcn : chkN rooms ws i = 0 := by unfold chkN; rw [if_pos hch, if_neg (by omega)]
  obtain ⟨e1, e2⟩ := side_congrO hv.inW (mem_of_get hx) (fun r h0 h1 => memP_rv hv.r6 hs r h0 h1)
  unfold sysS
  rw [if_pos hcn, show ((rooms : Int).toNat) = rooms from rfl, show ((i : Int).toNat) = i from rfl, hx, set_list hv.r6 hs]
  dsimp only
  rw [if_pos rfl, e1, e2]

/-- It holds in all flows. -/
theorem says_flow {rooms s i : Nat} {ws : List Wy} {x : Wy} (hv : ValB rooms ws) (hs : s < 2 ^ rooms) (hx : ws[i]? = some x) {fl : List Int} (hF : Flow ws fl) {f : Int} (hf : fl[i]? = some f) :
    (lv (memR s) x = true → f ≤ saysV (memR s) ws x) ∧ (en (memR s) x = true → saysV (memR s) ws x ≤ f) := by
  have hsp := flow_span hv.inW hF hx hf
  obtain ⟨hs1, hs2, _⟩ := rv_facts hv.r6 hs
  obtain ⟨⟨_, a2, _⟩, _, b2, _⟩ := spanK_spec rooms ws x (2 ^ rooms)
  have hm := fun r h0 h1 => memP_rv hv.r6 hs r h0 h1
  obtain ⟨l1, l2⟩ := lv_congr hv.inW (mem_of_get hx) hm
  have hex := ex_congr hv.inW hm
  have a3 := a2 (rv rooms s) hs1
  have b3 := b2 (rv rooms s) hs1
  rw [l2, hex] at a3
  rw [l1, hex] at b3
  change (spanK rooms ws x (2 ^ rooms)).1 ≤ f ∧ f ≤ (spanK rooms ws x (2 ^ rooms)).2 at hsp
  constructor
  · intro h
    have := b3 h
    unfold saysV
    rw [if_pos h]
    omega
  · intro h
    have := a3 h
    have hlf : lv (memR s) x = false := by
      rcases xb_cases (memR s) x with ⟨a1, a2, _, _⟩ | ⟨a1, a2, _, _⟩ | ⟨a1, a2, _, _⟩
      · rw [a2] at h; cases h
      · exact a1
      · exact a1
    unfold saysV
    rw [hlf, if_neg (by simp), if_pos h]
    omega

/-- Whether a set says the end of a span. -/
def qS (ws : List Wy) (x : Wy) (gr : Bool) (V : Int) (s : Nat) : Bool := (if gr then lv (memR s) x else en (memR s) x) && decide (saysV (memR s) ws x = V)

theorem qS_full {rooms : Nat} {ws : List Wy} {x : Wy} (hv : ValB rooms ws) (hx : x ∈ ws) (gr : Bool) (V : Int) : qS ws x gr V (2 ^ rooms - 1) = false := by
  have h1 := (hv.inW x hx).1
  have h2 := (hv.inW x hx).2
  unfold qS lv en
  rw [memR_fullH _ h1.1 h1.2, memR_fullH _ h2.1 h2.2]
  cases gr <;> rfl

theorem best_boundO {rooms n : Nat} {ws : List Wy} {x : Wy} (hv : ValB rooms ws) (hx : ws[n]? = some x) (gr : Bool) (hne : ¬ endS rooms ws x gr = toldS x gr) :
    bestN (qS ws x gr (endS rooms ws x gr)) (2 ^ rooms) = some (listS rooms (fewS (qB rooms ws x (wantS gr) (endS rooms ws x gr)) rooms).1) := by
  have hm := mem_of_get hx
  have hr6 := hv.r6
  have hq : ∀ s, s < 2 ^ rooms → qS ws x gr (endS rooms ws x gr) (rv rooms s) = qB rooms ws x (wantS gr) (endS rooms ws x gr) s := by
    intro s hs
    obtain ⟨e1, e2⟩ := side_congrO hv.inW hm (fun r h0 h1 => memR_rv hr6 hs r h0 h1)
    obtain ⟨l1, l2⟩ := lv_congr hv.inW hm (fun r h0 h1 => memR_rv hr6 hs r h0 h1)
    unfold qS qB
    rw [e2, l1, l2]
    congr 1
    rcases side_casesO (memP rooms s) x with ⟨a, b, c⟩ | ⟨a, b, c⟩ | ⟨a, b, c⟩ <;> rw [a, b, c] <;> cases gr <;> rfl
  have hf : (fewS (qB rooms ws x (wantS gr) (endS rooms ws x gr)) rooms).2 = true := by
    rw [fewS_found]
    obtain ⟨⟨_, _, a3⟩, _, _, b3⟩ := spanK_spec rooms ws x (2 ^ rooms)
    cases gr
    · rcases a3 with h | ⟨s, hs, hl, h⟩
      · exact absurd h hne
      · refine ⟨s, hs, ?_⟩
        rcases side_casesO (memP rooms s) x with ⟨a, b, c⟩ | ⟨a, b, c⟩ | ⟨a, b, c⟩
        · rw [c] at hl; cases hl
        · have : saysV (memP rooms s) ws x = endS rooms ws x false := by
            unfold saysV; rw [b, c]; exact h.symm
          unfold qB; rw [this, a]; simp [wantS]
        · rw [c] at hl; cases hl
    · rcases b3 with h | ⟨s, hs, hl, h⟩
      · exact absurd h hne
      · refine ⟨s, hs, ?_⟩
        rcases side_casesO (memP rooms s) x with ⟨a, b, c⟩ | ⟨a, b, c⟩ | ⟨a, b, c⟩
        · have : saysV (memP rooms s) ws x = endS rooms ws x true := by
            unfold saysV; rw [b]; exact h.symm
          unfold qB; rw [this, a]; simp [wantS]
        · rw [b] at hl; cases hl
        · rw [b] at hl; cases hl
  have hfull := qS_full hv hm gr (endS rooms ws x gr)
  have he := best_eq hr6 hq hfull hf
  rcases bestN_K hr6 hfull (2 ^ rooms) (Nat.le_refl _) with ⟨_, _, h3⟩ | ⟨L, h1, h2, _⟩
  · obtain ⟨s, hs, hqs⟩ := (fewS_found _ _).1 hf
    have := h3 (rv rooms s) (rv_facts hr6 hs).1
    rw [hq s hs, hqs] at this
    cases this
  · rw [h1, ← h2, he]

theorem listR_qS {ws : List Wy} {x : Wy} {gr : Bool} {V : Int} {s : Nat} (hs : s < 64) (hq : qS ws x gr V s = true) : 0 < (listR s).length := by
  have hs0 : s ≠ 0 := by
    intro e
    subst e
    unfold qS lv en memR at hq
    cases gr <;> simp at hq
  have := listR_pos s hs hs0
  cases hl : listR s with
  | nil => rw [hl] at this; cases this
  | cons a t => simp

/-- What Bound returns. -/
theorem bnd_of {rooms n : Nat} {ws : List Wy} {x : Wy} (hch : chk rooms ws = 0) (hx : ws[n]? = some x) (gr : Bool) :
    bndS rooms ws n gr = if agrS rooms ws = true then (if endS rooms ws x gr = toldS x gr then ([], 0) else (listS rooms (fewS (qB rooms ws x (wantS gr) (endS rooms ws x gr)) rooms).1, 0)) else ([], 12) := by
  have hl := lt_of_get hx
  have hcn : chkN rooms ws n = 0 := by unfold chkN; rw [if_pos hch, if_neg (by omega)]
  unfold bndS
  rw [if_pos hcn, show ((rooms : Int).toNat) = rooms from rfl, show ((n : Int).toNat) = n from rfl, hx]

theorem spn_ofO {rooms n : Nat} {ws : List Wy} {x : Wy} (hch : chk rooms ws = 0) (hx : ws[n]? = some x) : spnS rooms ws n = if agrS rooms ws = true then ((spanS rooms ws x).1, (spanS rooms ws x).2, 0) else (0, 0, 12) := by
  have hl := lt_of_get hx
  have hcn : chkN rooms ws n = 0 := by unfold chkN; rw [if_pos hch, if_neg (by omega)]
  unfold spnS
  rw [if_pos hcn, show ((rooms : Int).toNat) = rooms from rfl, show ((n : Int).toNat) = n from rfl, hx]
end Go.Proofs.YtcebihijnedekaaDoor
