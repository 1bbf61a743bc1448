/-
  Presses that are checked are as they must be.
-/
import Derived.Test.YtbcbaaapogejiaaDoorTurC
namespace Go.Proofs.YtbcbaaapogejiaaDoor

theorem scan_kind {R C : Int} : ∀ {l : List Int} {last : Int}, scanE R C last l = 0 → ∀ t ∈ l, ¬ ((mv t.toNat).x = true ∧ R ≠ C)
  | [], _, _, t, h => by simp at h
  | u :: l, last, h, t, ht => by
    rw [scan_cons] at h
    split at h
    · omega
    · split at h
      · omega
      · next h2 =>
        split at h
        · omega
        · rcases List.mem_cons.1 ht with e | ht
          · subst e; exact h2
          · exact scan_kind h t ht
theorem scan_asc {R C : Int} : ∀ {l : List Int} {last : Int}, scanE R C last l = 0 → l.Pairwise (· < ·) ∧ ∀ t ∈ l, last < t
  | [], _, _ => ⟨List.Pairwise.nil, fun t h => by simp at h⟩
  | u :: l, last, h => by
    rw [scan_cons] at h
    split at h
    · omega
    · split at h
      · omega
      · split at h
        · omega
        · next h3 =>
          have ih := scan_asc h
          refine ⟨List.pairwise_cons.2 ⟨fun t ht => ih.2 t ht, ih.1⟩, fun t ht => ?_⟩
          rcases List.mem_cons.1 ht with e | ht
          · subst e; omega
          · have := ih.2 t ht; omega

theorem closedB_iff {T : List Nat} : closedB T = true ↔ (∀ a ∈ T, ∀ b ∈ T, prodN a b ∈ T) ∧ 0 ∈ T := by
  unfold closedB
  rw [Bool.and_eq_true, List.all_eq_true]
  simp only [List.all_eq_true, List.contains_iff_mem]

theorem ok_of_chk {R C K : Int} {T : List Int} (h : chkE R C K T = 0) : ∃ p : Pr, p.Ok ∧ R = p.R ∧ C = p.C ∧ K = p.K ∧ T = intsN p.T := by
  unfold chkE at h
  split at h
  · next hr =>
    obtain ⟨h1, h2, h3, h4, h5, h6⟩ := hr
    split at h
    · next hs =>
      split at h
      · next hc =>
        have hall := scan_all hs
        have hasc := (scan_asc hs).1
        have hkind := scan_kind hs
        obtain ⟨hp, hz⟩ := closedB_iff.1 hc
        refine ⟨⟨R.toNat, C.toNat, K.toNat, T.map Int.toNat⟩, ⟨by simp only; omega, by simp only; omega, by simp only; omega, by simp only; omega, by simp only; omega, by simp only; omega, ?_, ?_, ?_, hz, hp⟩, by simp only; omega, by simp only; omega, by simp only; omega, (intsN_toNat hall).symm⟩
        · intro t ht
          obtain ⟨u, hu, rfl⟩ := List.mem_map.1 ht
          have := hall u hu
          omega
        · intro t ht
          obtain ⟨u, hu, rfl⟩ := List.mem_map.1 ht
          have := hkind u hu
          unfold kindOk
          by_cases e : R = C
          · subst e; simp
          · simp only [Bool.or_eq_true, Bool.not_eq_true']
            right
            rcases hb : (mv u.toNat).x with _ | _
            · rfl
            · exact absurd ⟨hb, e⟩ this
        · simp only [List.pairwise_map]
          refine hasc.imp_of_mem fun {a b} ha hb hab => ?_
          have := hall a ha
          have := hall b hb
          omega
      · omega
    · next hs => exact absurd h hs
  · omega
theorem chk_of_ok {p : Pr} (h : p.Ok) : chkE p.R p.C p.K (intsN p.T) = 0 := by
  have := h.r1; have := h.r4; have := h.c1; have := h.c4; have := h.k1; have := h.k4
  unfold chkE
  rw [if_pos (by unfold rangeP; omega)]
  have hs : ∀ (l : List Nat) (last : Int), (∀ t ∈ l, t < 8 ∧ kindOk p.R p.C t = true ∧ last < (t : Int)) → l.Pairwise (· < ·) → scanE p.R p.C last (intsN l) = 0 := by
    intro l
    induction l with
    | nil => intros; rfl
    | cons t l ih =>
      intro last hl ha
      obtain ⟨h1, h2, h3⟩ := hl t (by simp)
      have e : intsN (t :: l) = (t : Int) :: intsN l := rfl
      rw [e, scan_cons, if_neg (by omega)]
      have e2 : ((t : Int)).toNat = t := by simp
      rw [e2, if_neg (fun hh => by
        unfold kindOk at h2
        rw [hh.1] at h2
        simp at h2
        exact hh.2 (by omega)), if_neg (by omega)]
      have ha' := List.pairwise_cons.1 ha
      exact ih t (fun u hu => ⟨(hl u (by simp [hu])).1, (hl u (by simp [hu])).2.1, by have := ha'.1 u hu; omega⟩) ha'.2
  rw [if_pos (hs p.T (-1) (fun t ht => ⟨h.t8 t ht, h.kind t ht, by omega⟩) h.asc)]
  have e : (intsN p.T).map Int.toNat = p.T := by
    unfold intsN
    rw [List.map_map]
    conv => rhs; rw [← List.map_id p.T]
    exact List.map_congr_left fun t _ => by simp
  rw [e, if_pos (closedB_iff.2 ⟨h.prod, h.zero⟩)]

def bksE (n : Nat) (K : Int) (chk : Nat → Int → List Int → Int) : List (List Int) → Int
  | [] => 0
  | b :: Bs => if chk n K b = 0 then bksE n K chk Bs else chk n K b
end Go.Proofs.YtbcbaaapogejiaaDoor
