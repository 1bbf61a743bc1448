/-
  A list is put into ascending lists from behind.
-/
import Derived.Test.YtbcbaaapogejiaaDoorMathE
namespace Go.Proofs.YtbcbaaapogejiaaDoor

/-- A list with another one put in at a place. -/
def arr (L : List (List Int)) (x : List Int) (j : Nat) : List (List Int) := L.take j ++ x :: L.drop j
theorem arr_len {L : List (List Int)} {x : List Int} {j : Nat} (h : j ≤ L.length) : (arr L x j).length = L.length + 1 := by
  unfold arr
  rw [List.length_append, List.length_take, List.length_cons, List.length_drop]
  omega
theorem arr_end (L : List (List Int)) (x : List Int) : arr L x L.length = L ++ [x] := by unfold arr; simp
theorem arr_at {L : List (List Int)} {x : List Int} {j : Nat} (h : j ≤ L.length) : (arr L x j)[j]? = some x := by
  unfold arr
  rw [List.getElem?_append_right (by rw [List.length_take]; omega), List.length_take, show j - min j L.length = 0 by omega]
  rfl
theorem arr_under {L : List (List Int)} {x : List Int} {j : Nat} (h : j < L.length) : (arr L x (j + 1))[j]? = L[j]? := by
  unfold arr
  rw [List.getElem?_append_left (by rw [List.length_take]; omega), List.getElem?_take, if_pos (by omega)]
theorem arr_swap {L : List (List Int)} {x y : List Int} {j : Nat} (h : L[j]? = some y) : ((arr L x (j + 1)).set (j + 1) y).set j x = arr L x j := by
  have hj : j < L.length := (List.getElem?_eq_some_iff.1 h).1
  have hl : (arr L x (j + 1)).length = L.length + 1 := arr_len (by omega)
  apply List.ext_getElem?
  intro i
  rw [List.getElem?_set, List.getElem?_set]
  have hr := arr_len (x := x) (j := j) (L := L) (by omega)
  rw [List.length_set, hl]
  by_cases h1 : j = i
  · subst h1
    rw [if_pos rfl, if_pos (by omega), arr_at (by omega)]
  · rw [if_neg h1]
    by_cases h2 : j + 1 = i
    · subst h2
      rw [if_pos rfl, if_pos (by omega)]
      unfold arr
      rw [List.getElem?_append_right (by rw [List.length_take]; omega), List.length_take, show j + 1 - min j L.length = 1 by omega]
      rw [List.getElem?_cons_succ, List.getElem?_drop, Nat.add_zero, h]
    · rw [if_neg h2]
      unfold arr
      by_cases h3 : i < j
      · rw [List.getElem?_append_left (by rw [List.length_take]; omega), List.getElem?_append_left (by rw [List.length_take]; omega), List.getElem?_take, List.getElem?_take, if_pos (by omega), if_pos (by omega)]
      · rw [List.getElem?_append_right (by rw [List.length_take]; omega), List.getElem?_append_right (by rw [List.length_take]; omega), List.length_take, List.length_take]
        obtain ⟨q, hq⟩ : ∃ q, i = j + 2 + q := ⟨i - (j + 2), by omega⟩
        subst hq
        rw [show j + 2 + q - min (j + 1) L.length = q + 1 by omega, show j + 2 + q - min j L.length = (q + 1) + 1 by omega, List.getElem?_cons_succ, List.getElem?_cons_succ, List.getElem?_drop, List.getElem?_drop]
        congr 1
        omega
theorem arr_mem {L : List (List Int)} {x z : List Int} {j : Nat} : z ∈ arr L x j ↔ z = x ∨ z ∈ L := by
  unfold arr
  rw [List.mem_append, List.mem_cons]
  conv => rhs; rw [← List.take_append_drop j L, List.mem_append]
  constructor
  · rintro (h | h | h)
    · exact .inr (.inl h)
    · exact .inl h
    · exact .inr (.inr h)
  · rintro (h | h | h)
    · exact .inr (.inl h)
    · exact .inl h
    · exact .inr (.inr h)
theorem arr_asc {L : List (List Int)} {x : List Int} {j : Nat} (hA : Asc L) (hx : x ∉ L) (hhi : ∀ z ∈ L.drop j, cmpL x z < 0) (hlo : ∀ y, j ≠ 0 → L[j - 1]? = some y → ¬ cmpL x y < 0) (hj : j ≤ L.length) : Asc (arr L x j) := by
  have hA2 := hA
  unfold Asc at hA2
  rw [← List.take_append_drop j L] at hA2
  obtain ⟨h1, h2, h3⟩ := List.pairwise_append.1 hA2
  refine List.pairwise_append.2 ⟨h1, List.pairwise_cons.2 ⟨hhi, h2⟩, fun a ha b hb => ?_⟩
  rcases List.mem_cons.1 hb with e | hb
  · rw [e]
    obtain ⟨i, hi, e2⟩ := List.mem_iff_getElem.1 ha
    have hij : i < j := by rw [List.length_take] at hi; omega
    have hiL : i < L.length := by omega
    rw [List.getElem_take] at e2
    have hj1 : j - 1 < L.length := by omega
    have hlast := hlo L[j - 1] (by omega) (List.getElem?_eq_getElem hj1)
    have hne : cmpL x L[j - 1] ≠ 0 := fun h => hx (by rw [cmpL_zero h]; exact List.getElem_mem hj1)
    have hlt : cmpL L[j - 1] x < 0 := by rw [cmpL_swap]; omega
    by_cases e3 : i = j - 1
    · subst e3; rw [← e2]; exact hlt
    · have := List.pairwise_iff_getElem.1 hA i (j - 1) hiL hj1 (by omega)
      rw [← e2]
      exact cmpL_trans this hlt
  · exact h3 a ha b hb
end Go.Proofs.YtbcbaaapogejiaaDoor
