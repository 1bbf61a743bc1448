/-
  Spans and the list of all flows: each number of a span occurs, and no other; no way is open just if there is one flow.
-/
import Derived.Test.YtcebihijnedekaaDoorMathF
import Derived.Test.YtcebihijnedekaaDoorWalkW
namespace Go.Proofs.YtcebihijnedekaaDoor
open Go.RowKit

/-- Whether one of the first flows has a number at a place. -/
def hasB (all : List (List Int)) (i k : Nat) (n : Int) : Bool := (all.take k).any (fun x => x[i]? == some n)

theorem hasB_succ {all : List (List Int)} {i k : Nat} {x : List Int} {f : Int} (hx : all[k]? = some x) (hf : x[i]? = some f) (n : Int) : hasB all i (k + 1) n = (hasB all i k n || decide (f = n)) := by
  unfold hasB
  obtain ⟨hk, rfl⟩ := List.getElem?_eq_some_iff.1 hx
  rw [List.take_succ_eq_append_getElem hk, List.any_append]
  congr 1
  simp only [List.any_cons, List.any_nil, Bool.or_false]
  rw [hf]
  by_cases e : f = n <;> simp [e]

theorem hasB_all {rooms : Nat} {ws : List Wy} (hv : ValB rooms ws) (ha : Agr ws) {i : Nat} {x : Wy} (hx : ws[i]? = some x) (n : Int) :
    hasB (flowsS ws) i (flowsS ws).length n = decide ((spanS rooms ws x).1 ≤ n ∧ n ≤ (spanS rooms ws x).2) := by
  unfold hasB
  rw [List.take_length, Bool.eq_iff_iff, List.any_eq_true, decide_eq_true_iff]
  constructor
  · rintro ⟨fl, hm, he⟩
    exact flow_span hv.inW ((flowsS_mem hv fl).1 hm) hx (by simpa using he)
  · rintro ⟨h1, h2⟩
    obtain ⟨fl, hf, he⟩ := span_flow hv.inW hv.okW ha hx h1 h2
    exact ⟨fl, (flowsS_mem hv fl).2 hf, by simpa using he⟩

theorem openK_pre (l : List (Int × Int)) : ∀ k d, ∃ t, openK l (k + d) = openK l k ++ t
  | k, 0 => ⟨[], by simp⟩
  | k, d + 1 => by
    obtain ⟨t, ht⟩ := openK_pre l k d
    rw [← Nat.add_assoc, openK, ht]
    split
    · split
      · exact ⟨t, rfl⟩
      · exact ⟨_, by rw [List.append_assoc]⟩
    · exact ⟨t, rfl⟩

theorem openK_at {l : List (Int × Int)} {i : Nat} {p : Int × Int} (hp : l[i]? = some p) (hne : p.1 ≠ p.2) : (openK l l.length)[(openK l i).length]? = some (i : Int) := by
  have hi := lt_of_get hp
  obtain ⟨t, ht⟩ := openK_pre l (i + 1) (l.length - (i + 1))
  rw [show i + 1 + (l.length - (i + 1)) = l.length by omega] at ht
  have h1 : openK l (i + 1) = openK l i ++ [(i : Int)] := by
    rw [openK, hp]
    simp [hne]
  rw [ht, h1, List.append_assoc, List.getElem?_append_right (Nat.le_refl _), Nat.sub_self]
  simp

theorem openK_nil {l : List (Int × Int)} : ∀ k, openK l k = [] ↔ ∀ i p, i < k → l[i]? = some p → p.1 = p.2
  | 0 => by simp [openK]
  | k + 1 => by
    rw [openK]
    cases hp : l[k]? with
    | none =>
      dsimp only
      rw [openK_nil k]
      constructor
      · intro h i p hi hip
        by_cases e : i = k
        · subst e; rw [hp] at hip; cases hip
        · exact h i p (by omega) hip
      · intro h i p hi hip; exact h i p (by omega) hip
    | some p =>
      dsimp only
      by_cases hq : p.1 = p.2
      · rw [if_pos hq, openK_nil k]
        constructor
        · intro h i p' hi hip
          by_cases e : i = k
          · subst e; rw [hp] at hip; cases hip; exact hq
          · exact h i p' (by omega) hip
        · intro h i p' hi hip; exact h i p' (by omega) hip
      · rw [if_neg hq]
        constructor
        · intro h; simp at h
        · intro h; exact absurd (h k p (by omega) hp) hq

/-- No way is open just if there is one flow. -/
theorem open_one {rooms : Nat} {ws : List Wy} (hv : ValB rooms ws) (ha : Agr ws) : (openK (ws.map (spanS rooms ws)) ws.length = []) ↔ (flowsS ws).length = 1 := by
  obtain ⟨t, ht⟩ := flowsS_head hv ha
  have hasc := flowsS_asc hv
  rw [openK_nil]
  constructor
  · intro h
    have huniq : ∀ fl, Flow ws fl → fl = firstS rooms ws := by
      intro fl hf
      have hff := firstS_flow hv.inW hv.okW ha
      refine List.ext_getElem? fun i => ?_
      by_cases hi : i < ws.length
      · have hx : ws[i]? = some ws[i] := List.getElem?_eq_getElem hi
        have h1 : fl[i]? = some (fl[i]'(by have := hf.1.1; omega)) := List.getElem?_eq_getElem (by have := hf.1.1; omega)
        have h2 : (firstS rooms ws)[i]? = some ((firstS rooms ws)[i]'(by have := hff.1.1; omega)) := List.getElem?_eq_getElem (by have := hff.1.1; omega)
        have a := flow_span hv.inW hf hx h1
        have b := flow_span hv.inW hff hx h2
        have c := h i (spanS rooms ws ws[i]) hi (by rw [List.getElem?_map, hx]; rfl)
        rw [h1, h2]
        congr 1
        omega
      · rw [List.getElem?_eq_none (by have := hf.1.1; omega), List.getElem?_eq_none (by have := hff.1.1; omega)]
    rw [ht] at hasc ⊢
    cases t with
    | nil => rfl
    | cons b t =>
      have hb := huniq b ((flowsS_mem hv b).1 (by rw [ht]; simp))
      have := (List.pairwise_cons.1 hasc).1 b (by simp)
      rw [hb] at this
      exact absurd this (fun h => lexL_asymm h h)
  · intro h i p hi hp
    rw [ht] at h
    have ht0 : t = [] := by cases t with
      | nil => rfl
      | cons b t => simp at h
    have hx : ws[i]? = some ws[i] := List.getElem?_eq_getElem hi
    rw [List.getElem?_map, hx] at hp
    cases hp
    have hs := span_in (rooms := rooms) hx ha hv.okW
    obtain ⟨f1, g1, e1⟩ := span_flow hv.inW hv.okW ha hx (Int.le_refl _) hs.2.1
    obtain ⟨f2, g2, e2⟩ := span_flow hv.inW hv.okW ha hx hs.2.1 (Int.le_refl _)
    have m1 := (flowsS_mem hv f1).2 g1
    have m2 := (flowsS_mem hv f2).2 g2
    rw [ht, ht0, List.mem_singleton] at m1 m2
    rw [m1] at e1
    rw [m2, e1] at e2
    exact Option.some.inj e2
end Go.Proofs.YtcebihijnedekaaDoor
