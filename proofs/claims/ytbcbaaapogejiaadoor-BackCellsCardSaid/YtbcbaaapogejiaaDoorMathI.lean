/-
  Which cells show all turns: by bits, by lists of cells.
-/
import Derived.Test.YtbcbaaapogejiaaDoorCelD
namespace Go.Proofs.YtbcbaaapogejiaaDoor

theorem minusN_bit {a b i : Nat} (hb : b < 256) (hi : i < 8) : (minusN a b).testBit i = (a.testBit i && !b.testBit i) := by
  unfold minusN
  rw [Nat.testBit_and]
  congr 1
  have e : (255 : Nat) - b = 2 ^ 8 - (b + 1) := by omega
  rw [e, Nat.testBit_two_pow_sub_succ hb]
  simp [hi]
theorem unionN_bit : ∀ (l : List Nat) (i : Nat), (unionN l).testBit i = l.any fun x => x.testBit i := by
  have key : ∀ (l : List Nat) (a i : Nat), (l.foldl (· ||| ·) a).testBit i = (a.testBit i || l.any fun x => x.testBit i) := by
    intro l
    induction l with
    | nil => intro a i; simp
    | cons x l ih => intro a i; rw [List.foldl_cons, ih, Nat.testBit_or, List.any_cons, Bool.or_assoc]
  intro l i
  unfold unionN
  rw [key]; simp
theorem shOf_bit (F : List (List Int)) (b : List Int) (cell i : Nat) : ∀ k, (shOf F b cell k).testBit i = (decide (i < k) && decide (b.getD cell 0 ≠ b.getD ((F.getD i []).getD cell 0).toNat 0))
  | 0 => by simp [shOf]
  | k + 1 => by
    have ih := shOf_bit F b cell i k
    unfold shOf
    by_cases hik : i = k
    · subst hik
      split
      · next h => rw [ih, decide_eq_false (show ¬ i < i by omega), decide_eq_false (show ¬ b.getD cell 0 ≠ b.getD ((F.getD i []).getD cell 0).toNat 0 from fun e => e h), Bool.and_false, Bool.and_false]
      · next h => rw [Nat.testBit_or, ih, Nat.testBit_two_pow, decide_eq_true h, decide_eq_true rfl, decide_eq_true (show i < i + 1 by omega), Bool.or_true]; rfl
    · have e : decide (i < k + 1) = decide (i < k) := by
        by_cases h : i < k
        · rw [decide_eq_true h, decide_eq_true (by omega)]
        · rw [decide_eq_false h, decide_eq_false (by omega)]
      rw [e]
      split
      · exact ih
      · rw [Nat.testBit_or, ih, Nat.testBit_two_pow, decide_eq_false (show ¬ k = i from fun h => hik h.symm), Bool.or_false]

/-- What remains missing behind some cells. -/
def coverL (sh : List Nat) (m : Nat) (l : List Nat) : Nat := l.foldl (fun m c => minusN m (sh.getD c 0)) m
theorem coverL_bit {sh : List Nat} (h8 : ∀ x ∈ sh, x < 256) {i : Nat} (hi : i < 8) : ∀ (l : List Nat) (m : Nat), (coverL sh m l).testBit i = (m.testBit i && l.all fun c => !(sh.getD c 0).testBit i)
  | [], m => by simp [coverL]
  | c :: l, m => by
    show (coverL sh (minusN m (sh.getD c 0)) l).testBit i = _
    have hc : sh.getD c 0 < 256 := by
      rw [List.getD_eq_getElem?_getD]
      rcases h : sh[c]? with _ | x
      · decide
      · exact h8 x (List.mem_of_getElem? h)
    rw [coverL_bit h8 hi l, minusN_bit hc hi, List.all_cons, Bool.and_assoc]
theorem coverL_lt {sh : List Nat} : ∀ (l : List Nat) (m : Nat), m < 256 → coverL sh m l < 256
  | [], _, h => h
  | _ :: l, _, h => coverL_lt l _ (minusN_lt h)

/-- Whether a turn is seen at some cells. -/
def seenT (p : Pr) (b : List Int) (cs : List Nat) (t : Nat) : Bool := decide (tdL (srcs p.R p.C (mv t)) b = b) || cs.any fun c => decide ((tdL (srcs p.R p.C (mv t)) b).getD c 0 ≠ b.getD c 0)
def showsB (p : Pr) (b : List Int) (cs : List Nat) : Bool := p.T.all (seenT p b cs)

theorem td_getD {s b : List Int} {c : Nat} (h : c < s.length) : (tdL s b).getD c 0 = b.getD (s.getD c 0).toNat 0 := by
  unfold tdL
  rw [List.getD_eq_getElem?_getD, List.getElem?_map, List.getElem?_eq_getElem h, List.getD_eq_getElem?_getD (l := s), List.getElem?_eq_getElem h]
  rfl
theorem td_ne {s b : List Int} (hs : s.length = b.length) (h : tdL s b ≠ b) : ∃ c, c < b.length ∧ (tdL s b).getD c 0 ≠ b.getD c 0 := by
  refine Classical.byContradiction fun hn => h ?_
  apply List.ext_getElem?
  intro i
  by_cases hi : i < b.length
  · have h1 : (tdL s b).getD i 0 = b.getD i 0 := Classical.byContradiction fun e => hn ⟨i, hi, e⟩
    rw [List.getD_eq_getElem?_getD, List.getD_eq_getElem?_getD, List.getElem?_eq_getElem hi, List.getElem?_eq_getElem (by rw [tdL_len]; omega)] at h1
    rw [List.getElem?_eq_getElem hi, List.getElem?_eq_getElem (by rw [tdL_len]; omega)]
    exact congrArg some h1
  · rw [List.getElem?_eq_none (by rw [tdL_len]; omega), List.getElem?_eq_none (by omega)]

theorem cover_shows {p : Pr} (hp : p.Ok) {b : List Int} (hb : b.length = p.n) {cs : List Nat} (hc : ∀ c ∈ cs, c < p.n) : coverL (shown p.from b) (unionN (shown p.from b)) cs = 0 ↔ showsB p b cs = true := by
  have hfl : p.from.length = p.T.length := by simp [Pr.from]
  have hl8 := hp.len
  have h8 : ∀ x ∈ shown p.from b, x < 256 := by
    intro x hx
    obtain ⟨c, _, rfl⟩ := List.mem_map.1 hx
    exact shOf_256 _ _ _ (by omega)
  have hbit : ∀ c, c < p.n → ∀ i, ((shown p.from b).getD c 0).testBit i = (decide (i < p.T.length) && decide (b.getD c 0 ≠ b.getD ((p.from.getD i []).getD c 0).toNat 0)) := by
    intro c hc i
    unfold shown
    rw [List.getD_eq_getElem?_getD, List.getElem?_map, List.getElem?_range (by omega)]
    show (shOf p.from b c p.from.length).testBit i = _
    rw [shOf_bit, hfl]
  have hdf : ∀ i t, p.T[i]? = some t → ∀ c, c < p.n → (b.getD c 0 ≠ b.getD ((p.from.getD i []).getD c 0).toNat 0 ↔ (tdL (srcs p.R p.C (mv t)) b).getD c 0 ≠ b.getD c 0) := by
    intro i t ht c hc
    have e : p.from.getD i [] = srcs p.R p.C (mv t) := by
      rw [List.getD_eq_getElem?_getD]
      unfold Pr.from
      rw [List.getElem?_map, ht]; rfl
    rw [e, td_getD (by rw [srcs_len]; exact hc)]
    exact ⟨fun h e => h e.symm, fun h e => h e.symm⟩
  constructor
  · intro h0
    unfold showsB
    rw [List.all_eq_true]
    intro t ht
    obtain ⟨i, hi, e⟩ := List.mem_iff_getElem.1 ht
    have hti : p.T[i]? = some t := by rw [List.getElem?_eq_getElem hi, e]
    unfold seenT
    rw [Bool.or_eq_true, decide_eq_true_eq, List.any_eq_true]
    by_cases htd : tdL (srcs p.R p.C (mv t)) b = b
    · exact .inl htd
    · right
      obtain ⟨c, hc1, hc2⟩ := td_ne (by rw [srcs_len, hb]; rfl) htd
      have hz := coverL_bit h8 (i := i) (by omega) cs (unionN (shown p.from b))
      rw [h0, Nat.zero_testBit] at hz
      have hu : (unionN (shown p.from b)).testBit i = true := by
        rw [unionN_bit, List.any_eq_true]
        refine ⟨(shown p.from b).getD c 0, ?_, ?_⟩
        · rw [List.getD_eq_getElem?_getD, List.getElem?_eq_getElem (by simp [shown]; omega)]
          exact List.getElem_mem _
        · rw [hbit c (by omega) i, decide_eq_true hi, Bool.true_and, decide_eq_true_eq]
          exact (hdf i t hti c (by omega)).2 hc2
      rw [hu, Bool.true_and] at hz
      have hz2 := hz.symm
      rw [List.all_eq_false] at hz2
      obtain ⟨d, hd, hd2⟩ := hz2
      refine ⟨d, hd, ?_⟩
      rw [decide_eq_true_eq]
      rw [hbit d (hc d hd) i, decide_eq_true hi, Bool.true_and] at hd2
      exact (hdf i t hti d (hc d hd)).1 (by simpa using hd2)
  · intro hs
    unfold showsB at hs
    rw [List.all_eq_true] at hs
    have hu8 : unionN (shown p.from b) < 256 := unionN_lt h8
    have hlt := coverL_lt (sh := shown p.from b) cs _ hu8
    apply Nat.eq_of_testBit_eq
    intro i
    rw [Nat.zero_testBit]
    by_cases hi : i < 8
    · rw [coverL_bit h8 hi]
      by_cases hiT : i < p.T.length
      · have hti := List.getElem?_eq_getElem hiT
        have hse := hs _ (List.getElem_mem hiT)
        generalize p.T[i] = t at *
        unfold seenT at hse
        rw [Bool.or_eq_true, decide_eq_true_eq, List.any_eq_true] at hse
        rcases hse with h | ⟨c, hc1, hc2⟩
        · have hu : (unionN (shown p.from b)).testBit i = false := by
            rw [unionN_bit, List.any_eq_false]
            intro x hx
            obtain ⟨c, hc1, rfl⟩ := List.mem_iff_getElem.1 hx
            have hcn : c < p.n := by simp [shown] at hc1; omega
            have e : (shown p.from b)[c] = (shown p.from b).getD c 0 := by rw [List.getD_eq_getElem?_getD, List.getElem?_eq_getElem hc1]; rfl
            rw [e, hbit c hcn i, decide_eq_true hiT, Bool.true_and, decide_eq_true_eq]
            intro hne
            exact (hdf i t hti c hcn).1 hne (by rw [h])
          rw [hu]; rfl
        · rw [decide_eq_true_eq] at hc2
          have : (cs.all fun c => !((shown p.from b).getD c 0).testBit i) = false := by
            rw [List.all_eq_false]
            refine ⟨c, hc1, ?_⟩
            rw [hbit c (hc c hc1) i, decide_eq_true hiT, Bool.true_and, decide_eq_true ((hdf i t hti c (hc c hc1)).2 hc2)]
            simp
          rw [this, Bool.and_false]
      · have hu : (unionN (shown p.from b)).testBit i = false := by
          rw [unionN_bit, List.any_eq_false]
          intro x hx
          obtain ⟨c, hc1, rfl⟩ := List.mem_iff_getElem.1 hx
          have hcn : c < p.n := by simp [shown] at hc1; omega
          have e : (shown p.from b)[c] = (shown p.from b).getD c 0 := by rw [List.getD_eq_getElem?_getD, List.getElem?_eq_getElem hc1]; rfl
          rw [e, hbit c hcn i, decide_eq_false hiT, Bool.false_and]
          decide
        rw [hu]; rfl
    · exact Nat.testBit_lt_two_pow (Nat.lt_of_lt_of_le hlt (Nat.le_trans (by decide : 256 ≤ 2 ^ 8) (Nat.pow_le_pow_right (by omega) (by omega))))

/-- All lists of so many cells, out of some that remain, the first ones first. -/
def lsF : Nat → Nat → Nat → List (List Nat)
  | _, 0, _ => [[]]
  | 0, _ + 1, _ => []
  | r + 1, n + 1, k => ((lsF r n (k + 1)).map (k :: ·)) ++ lsF r (n + 1) (k + 1)
theorem lsF_in : ∀ (r n k : Nat) (l : List Nat), l ∈ lsF r n k → l.length = n ∧ ∀ c ∈ l, c < k + r
  | _, 0, _, l, h => by
    have : l = [] := by simpa [lsF] using h
    subst this
    exact ⟨rfl, by simp⟩
  | 0, n + 1, k, l, h => by simp [lsF] at h
  | r + 1, n + 1, k, l, h => by
    rw [lsF, List.mem_append, List.mem_map] at h
    rcases h with ⟨l', h1, rfl⟩ | h
    · obtain ⟨h2, h3⟩ := lsF_in r n (k + 1) l' h1
      refine ⟨by rw [List.length_cons, h2], fun c hc => ?_⟩
      rcases List.mem_cons.1 hc with e | hc
      · omega
      · have := h3 c hc; omega
    · obtain ⟨h2, h3⟩ := lsF_in r (n + 1) (k + 1) l h
      exact ⟨h2, fun c hc => by have := h3 c hc; omega⟩
theorem lsF_count : ∀ (r n k : Nat), (lsF r n k).length ≤ 2 ^ r
  | r, 0, _ => by
    have : 1 ≤ 2 ^ r := Nat.pow_pos (by decide)
    cases r
    · exact this
    · exact this
  | 0, n + 1, k => by simp [lsF]
  | r + 1, n + 1, k => by
    rw [lsF, List.length_append, List.length_map]
    have h1 := lsF_count r n (k + 1)
    have h2 := lsF_count r (n + 1) (k + 1)
    rw [Nat.pow_succ]
    omega
theorem lsF_full : ∀ (r k : Nat), ∃ l, l ∈ lsF r r k ∧ ∀ c, k ≤ c → c < k + r → c ∈ l
  | 0, k => ⟨[], by simp [lsF], fun c h1 h2 => by omega⟩
  | r + 1, k => by
    obtain ⟨l, h1, h2⟩ := lsF_full r (k + 1)
    refine ⟨k :: l, by rw [lsF, List.mem_append, List.mem_map]; exact .inl ⟨l, h1, rfl⟩, fun c h3 h4 => ?_⟩
    rcases Nat.eq_or_lt_of_le h3 with e | e
    · rw [e]; simp
    · exact List.mem_cons_of_mem _ (h2 c (by omega) (by omega))
theorem find_map {α : Type} (k : α) (P : List α → Bool) : ∀ (L : List (List α)), (L.map (k :: ·)).find? P = (L.find? fun l => P (k :: l)).map (k :: ·)
  | [] => rfl
  | x :: L => by
    rw [List.map_cons, List.find?_cons, List.find?_cons, find_map k P L]
    split <;> simp_all
theorem pick_find (sh : List Nat) : ∀ (f k n m : Nat), sh.length + 1 - k ≤ f → 0 < f → pickN sh f k n m = (lsF (sh.length - k) n k).find? fun l => coverL sh m l == 0
  | f + 1, k, 0, m, _, _ => by
    have e : lsF (sh.length - k) 0 k = [[]] := by cases sh.length - k <;> rfl
    rw [e, pickN_zero, List.find?_cons]
    show (if m = 0 then some [] else none) = _
    have e2 : coverL sh m [] = m := rfl
    rw [e2]
    by_cases h : m = 0
    · subst h; rfl
    · rw [if_neg h, show (m == 0) = false from beq_eq_false_iff_ne.2 h]; rfl
  | f + 1, k, n + 1, m, h1, _ => by
    rw [pickN_succ]
    by_cases hk : k < sh.length
    · rw [if_pos hk]
      obtain ⟨r, hr⟩ : ∃ r, sh.length - k = r + 1 := ⟨sh.length - k - 1, by omega⟩
      have hr2 : sh.length - (k + 1) = r := by omega
      rw [hr, lsF, List.find?_append, find_map, pick_find sh f (k + 1) n _ (by omega) (by omega), pick_find sh f (k + 1) (n + 1) m (by omega) (by omega), hr2]
      have e : (fun l => coverL sh m (k :: l) == 0) = fun l => coverL sh (minusN m (sh.getD k 0)) l == 0 := rfl
      rw [e]
      rcases (lsF r n (k + 1)).find? (fun l => coverL sh (minusN m (sh.getD k 0)) l == 0) with _ | x
      · rfl
      · rfl
    · rw [if_neg hk, show sh.length - k = 0 by omega]; rfl
end Go.Proofs.YtbcbaaapogejiaaDoor
