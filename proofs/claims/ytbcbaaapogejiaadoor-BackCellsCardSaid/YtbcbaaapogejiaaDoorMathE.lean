/-
  The first of backs that are alike; a back that turn 0 leaves as it is.
-/
import Derived.Test.YtbcbaaapogejiaaDoorMathA
namespace Go.Proofs.YtbcbaaapogejiaaDoor

/-- The first of a list and others. -/
def minF (b : List Int) (L : List (List Int)) : List Int := L.foldl (fun m x => if cmpL x m < 0 then x else m) b
theorem minF_snoc (b : List Int) (L : List (List Int)) (x : List Int) : minF b (L ++ [x]) = if cmpL x (minF b L) < 0 then x else minF b L := by unfold minF; rw [List.foldl_append]; rfl
theorem cmpL_trans_le {l m n : List Int} (h1 : ¬ cmpL l m < 0) (h2 : cmpL n m < 0) : ¬ cmpL l n < 0 := fun h => h1 (cmpL_trans h h2)
theorem minF_spec : ∀ (L : List (List Int)) (b : List Int), (minF b L = b ∨ minF b L ∈ L) ∧ ¬ cmpL b (minF b L) < 0 ∧ ∀ x ∈ L, ¬ cmpL x (minF b L) < 0
  | [], b => ⟨.inl rfl, by show ¬ cmpL b b < 0; rw [cmpL_self]; decide, fun x h => by simp at h⟩
  | y :: L, b => by
    show (minF (if cmpL y b < 0 then y else b) L = b ∨ minF (if cmpL y b < 0 then y else b) L ∈ y :: L) ∧ ¬ cmpL b (minF (if cmpL y b < 0 then y else b) L) < 0 ∧ ∀ x ∈ y :: L, ¬ cmpL x (minF (if cmpL y b < 0 then y else b) L) < 0
    obtain ⟨h1, h2, h3⟩ := minF_spec L (if cmpL y b < 0 then y else b)
    by_cases h : cmpL y b < 0
    · rw [if_pos h] at h1 h2 h3 ⊢
      refine ⟨?_, fun hb => h2 (cmpL_trans h hb), fun x hx => ?_⟩
      · rcases h1 with e | hm
        · exact .inr (by rw [e]; simp)
        · exact .inr (List.mem_cons_of_mem _ hm)
      · rcases List.mem_cons.1 hx with e | hx
        · rw [e]; exact h2
        · exact h3 x hx
    · rw [if_neg h] at h1 h2 h3 ⊢
      refine ⟨?_, h2, fun x hx => ?_⟩
      · rcases h1 with e | hm
        · exact .inl e
        · exact .inr (List.mem_cons_of_mem _ hm)
      · rcases List.mem_cons.1 hx with e | hx
        · rw [e]
          intro hy
          rcases h1 with e2 | hm
          · rw [e2] at hy; exact h hy
          · by_cases hb : cmpL b (minF b L) = 0
            · rw [← cmpL_zero hb] at hy; exact h hy
            · have hs : cmpL (minF b L) b < 0 := by rw [cmpL_swap]; omega
              exact h (cmpL_trans hy hs)
        · exact h3 x hx
theorem asc_head : ∀ {K : List (List Int)} {r : List Int}, Asc K → r ∈ K → (∀ x ∈ K, ¬ cmpL x r < 0) → K[0]? = some r
  | [], _, _, h, _ => by simp at h
  | a :: K, r, hA, hr, hx => by
    rcases List.mem_cons.1 hr with e | hr
    · rw [e]; rfl
    · exact absurd ((List.pairwise_cons.1 hA).1 r hr) (hx a (by simp))

theorem td_zero {R C : Nat} {b : List Int} (hb : b.length = R * C) : tdL (srcs R C (mv 0)) b = b := by
  have e : ∀ i : Nat, cellI R C (mv 0) i = (i : Int) := by
    intro i
    show ((i / C : Nat) : Int) * C + ((i % C : Nat) : Int) = i
    have := Nat.div_add_mod i C
    rw [Nat.mul_comm] at this
    exact_mod_cast this
  unfold tdL srcs
  rw [List.map_map]
  apply List.ext_getElem?
  intro j
  rw [List.getElem?_map]
  by_cases hj : j < R * C
  · rw [List.getElem?_range hj]
    simp only [Option.map_some, Function.comp, e, Int.toNat_natCast]
    rw [List.getD_eq_getElem?_getD, List.getElem?_eq_getElem (by omega)]
    rfl
  · rw [List.getElem?_eq_none (by simpa using hj), List.getElem?_eq_none (by omega)]
    rfl
theorem kin_first {p : Pr} (hp : p.Ok) {b : List Int} (hb : b.length = p.n) : (p.kin b)[0]? = some (minF b (p.imgs b)) := by
  have hz : b ∈ p.imgs b := by
    unfold Pr.imgs Pr.from
    rw [List.map_map]
    exact List.mem_map.2 ⟨0, hp.zero, td_zero hb⟩
  obtain ⟨h1, h2, h3⟩ := minF_spec (p.imgs b) b
  have hm : minF b (p.imgs b) ∈ p.imgs b := by
    rcases h1 with e | h
    · rw [e]; exact hz
    · exact h
  exact asc_head (kinU_asc _) ((kinU_mem _ _).2 hm) fun x hx => h3 x ((kinU_mem _ _).1 hx)
theorem imgs_len (p : Pr) {b x : List Int} (h : x ∈ p.imgs b) : x.length = p.n := by
  unfold Pr.imgs Pr.from at h
  rw [List.map_map] at h
  obtain ⟨t, _, rfl⟩ := List.mem_map.1 h
  show (tdL _ _).length = _
  rw [tdL_len, srcs_len]; rfl
theorem imgs_get {p : Pr} {b : List Int} {k t : Nat} (h : p.T[k]? = some t) : (p.imgs b)[k]? = some (tdL (srcs p.R p.C (mv t)) b) := by simp [Pr.imgs, Pr.from, h]
theorem imgs_size (p : Pr) (b : List Int) : (p.imgs b).length = p.T.length := by simp [Pr.imgs, Pr.from]
theorem minF_len {p : Pr} {b : List Int} (hb : b.length = p.n) (k : Nat) : (minF b ((p.imgs b).take k)).length = b.length := by
  rcases (minF_spec ((p.imgs b).take k) b).1 with e | h
  · rw [e]
  · rw [imgs_len p (List.mem_of_mem_take h), hb]
end Go.Proofs.YtbcbaaapogejiaaDoor
