/-
  The best rooms that prove that there is no flow, as the statements look for them.
-/
import Derived.Test.YtcebihijnedekaaDoorMathF
import Derived.Test.YtcebihijnedekaaDoorMathC
import Derived.Test.YtcebihijnedekaaDoorMathG
namespace Go.Proofs.YtcebihijnedekaaDoor
open Go.RowKit

/-- Whether a set is a proof, room 0 being the lowest bit. -/
def qH (ws : List Wy) (s : Nat) : Bool := decide (0 < ex (memR s) ws)

theorem ex_allH (m : Int → Bool) : ∀ (ws : List Wy), (∀ x ∈ ws, m x.src = m x.dst) → ex m ws = 0
  | [], _ => rfl
  | x :: ws, h => by
    rw [ex, ex_allH m ws (fun y hy => h y (List.mem_cons_of_mem _ hy))]
    have := h x (List.mem_cons_self ..)
    unfold ex1
    rw [this]
    cases m x.dst <;> rfl

theorem memR_fullH {rooms : Nat} (r : Int) (h0 : 0 ≤ r) (h1 : r < rooms) : memR (2 ^ rooms - 1) r = true := by
  unfold memR
  rw [Nat.testBit_two_pow_sub_one]
  exact decide_eq_true (by omega)

theorem qH_full {rooms : Nat} {ws : List Wy} (hv : inW rooms ws) : qH ws (2 ^ rooms - 1) = false := by
  unfold qH
  rw [ex_allH _ ws (fun x hx => by rw [memR_fullH _ (hv x hx).1.1 (hv x hx).1.2, memR_fullH _ (hv x hx).2.1 (hv x hx).2.2])]
  rfl

theorem qH_rv {rooms : Nat} {ws : List Wy} (hr : rooms ≤ 6) (hv : inW rooms ws) (s : Nat) (hs : s < 2 ^ rooms) : qH ws (rv rooms s) = qP rooms ws s := by
  unfold qH qP
  rw [ex_congr hv (fun r h0 h1 => memR_rv hr hs r h0 h1)]

/-- The best of the first sets, or that there is none. -/
def bestN (q : Nat → Bool) : Nat → Option (List Int)
  | 0 => none
  | k + 1 => if q k = true then (match bestN q k with | none => some (listR k) | some L => if bef (listR k) L = true then some (listR k) else some L) else bestN q k

theorem bestN_K {rooms : Nat} {q : Nat → Bool} (hr : rooms ≤ 6) (hfull : q (2 ^ rooms - 1) = false) : ∀ k, k ≤ 2 ^ rooms →
    (bestN q k = none ∧ bestK q (listR (2 ^ rooms - 1)) k = listR (2 ^ rooms - 1) ∧ ∀ s, s < k → q s = false) ∨ (∃ L, bestN q k = some L ∧ bestK q (listR (2 ^ rooms - 1)) k = L ∧ ∃ s, s < k ∧ q s = true)
  | 0, _ => .inl ⟨rfl, rfl, fun s h => by omega⟩
  | k + 1, hk => by
    rcases bestN_K hr hfull k (by omega) with ⟨h1, h2, h3⟩ | ⟨L, h1, h2, s, h3, h4⟩
    · cases hq : q k
      · left
        refine ⟨by rw [bestN, hq]; simpa using h1, by rw [bestK, hq]; simpa using h2, fun s hs => ?_⟩
        by_cases e : s = k
        · subst e; exact hq
        · exact h3 s (by omega)
      · right
        have hne : k ≠ 2 ^ rooms - 1 := fun e => by rw [e, hfull] at hq; cases hq
        refine ⟨listR k, by rw [bestN, if_pos hq, h1], by rw [bestK, h2, if_pos ⟨hq, (rv_facts hr (by omega)).2.2.2.2 hne⟩], k, by omega, hq⟩
    · right
      cases hq : q k
      · exact ⟨L, by rw [bestN, hq]; simpa using h1, by rw [bestK, hq]; simpa using h2, s, by omega, h4⟩
      · by_cases hb : bef (listR k) L = true
        · exact ⟨listR k, by rw [bestN, if_pos hq, h1]; dsimp only; rw [if_pos hb], by rw [bestK, h2, if_pos ⟨hq, hb⟩], s, by omega, h4⟩
        · exact ⟨L, by rw [bestN, if_pos hq, h1]; dsimp only; rw [if_neg hb], by rw [bestK, h2, if_neg (fun h => hb h.2)], s, by omega, h4⟩

theorem bestN_end {rooms : Nat} {ws : List Wy} (hr : rooms ≤ 6) (hv : inW rooms ws) : bestN (qH ws) (2 ^ rooms) = if agrS rooms ws = true then none else some (listS rooms (fewS (qP rooms ws) rooms).1) := by
  have hb := bestN_K hr (qH_full hv) (2 ^ rooms) (Nat.le_refl _)
  cases ha : agrS rooms ws
  · have hf : (fewS (qP rooms ws) rooms).2 = true := by unfold agrS at ha; simpa using ha
    have he := best_eq hr (qH_rv hr hv) (qH_full hv) hf
    obtain ⟨s, hs, hq⟩ := (fewS_found _ _).1 hf
    rcases hb with ⟨h1, h2, h3⟩ | ⟨L, h1, h2, _⟩
    · have := h3 (rv rooms s) (rv_facts hr hs).1
      rw [qH_rv hr hv s hs, hq] at this
      cases this
    · rw [h1, ← h2, he]; rfl
  · rw [if_pos rfl]
    rcases hb with ⟨h1, _⟩ | ⟨L, h1, h2, s, h3, h4⟩
    · exact h1
    · have := (agr_iffR hv).1 ((agrS_iff hv).1 ha) s h3
      unfold qH at h4
      simp at h4
      omega

def chkSet (rooms : Nat) : Bool := (List.range (2 ^ rooms)).all fun s => setS rooms (listR s) 0 (-1) == (rv rooms s, 0)
theorem chkSet_ok : ∀ rooms, rooms ≤ 6 → chkSet rooms = true := by decide +kernel

theorem set_list {rooms s : Nat} (hr : rooms ≤ 6) (hs : s < 2 ^ rooms) : setS rooms (listR s) 0 (-1) = (rv rooms s, 0) := by
  have := List.all_eq_true.1 (chkSet_ok rooms hr) s (List.mem_range.2 hs)
  simpa using this

theorem memP_rv {rooms s : Nat} (hr : rooms ≤ 6) (hs : s < 2 ^ rooms) (r : Int) (h0 : 0 ≤ r) (h1 : r < rooms) : memP rooms (rv rooms s) r = memR s r := by
  unfold memP memR
  rw [(rv_facts hr hs).2.2.1 (rooms - 1 - r.toNat) (by omega)]
  congr 1
  omega

/-- Rooms are accepted just if they are a proof. -/
theorem prv_list {rooms s : Nat} {ws : List Wy} (hr : rooms ≤ 6) (hs : s < 2 ^ rooms) (hch : chk rooms ws = 0) (hv : inW rooms ws) : (prvS rooms ws (listR s) == 0) = qH ws s := by
  unfold prvS qH
  rw [if_pos hch, show ((rooms : Int).toNat) = rooms from rfl, set_list hr hs]
  dsimp only
  rw [if_pos rfl, ex_congr hv (fun r h0 h1 => memP_rv hr hs r h0 h1)]
  by_cases h : 0 < ex (memR s) ws
  · simp [h]
  · simp [h]

/-- What leaves at least is more than what enters at most just for a proof. -/
theorem sums_qH {ws : List Wy} (s : Nat) : decide (sM (memR s) ws ws.length ws.length < sL (memR s) ws ws.length ws.length) = qH ws s := by
  unfold qH
  have key : ∀ (m : Int → Bool) (j : Nat), j ≤ ws.length → sL m ws ws.length j - sM m ws ws.length j = ex m (ws.take j) := by
    intro m j
    induction j with
    | zero => intro _; simp [sL, sM, ex]
    | succ j ih =>
      intro h
      have ih := ih (by omega)
      have hy : ws[j]? = some (ws[j]'(by omega)) := List.getElem?_eq_getElem (by omega)
      generalize ws[j]'(by omega) = y at hy
      rw [ex_take_succ m hy]
      unfold sL sM
      rw [hy]
      dsimp only
      rcases xb_cases m y with ⟨a1, a2, a3, _⟩ | ⟨a1, a2, a3, _⟩ | ⟨a1, a2, a3, _⟩ <;> simp [a1, a2, a3, show j ≠ ws.length by omega] <;> omega
  have h := key (memR s) ws.length (Nat.le_refl _)
  rw [List.take_length] at h
  exact decide_eq_decide.2 (by omega)

theorem listR_pos : ∀ s : Nat, s < 64 → s ≠ 0 → (listR s).isEmpty = false := by decide +kernel

theorem listR_ne {s : Nat} {ws : List Wy} (hs : s < 64) (hq : qH ws s = true) : 0 < (listR s).length := by
  have hs0 : s ≠ 0 := by
    intro e
    subst e
    unfold qH at hq
    rw [ex_allH (memR 0) ws (fun x _ => by unfold memR; simp)] at hq
    cases hq
  have := listR_pos s hs hs0
  cases hl : listR s with
  | nil => rw [hl] at this; cases this
  | cons a t => simp

/-- Books have flows just if they agree. -/
theorem flows_agr {rooms : Nat} {ws : List Wy} (hv : ValB rooms ws) : agrS rooms ws = decide (0 < (flowsS ws).length) := by
  cases ha : agrS rooms ws
  · refine (decide_eq_false fun h => ?_).symm
    obtain ⟨fl, hfl⟩ := List.exists_mem_of_length_pos h
    rw [(agrS_iff hv.inW).2 (agr_of_flow hv.inW ((flowsS_mem hv fl).1 hfl))] at ha
    cases ha
  · obtain ⟨t, ht⟩ := flowsS_head hv ((agrS_iff hv.inW).1 ha)
    rw [ht]; simp

theorem ver_flow {rooms : Nat} {ws : List Wy} (hv : ValB rooms ws) (hch : chk rooms ws = 0) {fl : List Int} (hF : Flow ws fl) : verS rooms ws fl = 0 := by
  unfold verS
  rw [if_pos hch, if_pos hF.1.1]
  have h1 : rngL ws fl = true := by
    have : ∀ (ws : List Wy) (fl : List Int), inR ws fl → rngL ws fl = true := by
      intro ws
      induction ws with
      | nil => intro fl _; cases fl <;> rfl
      | cons w ws ih =>
        intro fl h
        cases fl with
        | nil => rfl
        | cons f fl =>
          rw [inR_cons] at h
          simp only [rngL, Bool.and_eq_true]
          exact ⟨by simpa using h.1, ih fl h.2⟩
    exact this ws fl hF.1
  rw [verT_good h1, if_pos ((balS_iff hv).2 hF.2)]
end Go.Proofs.YtcebihijnedekaaDoor
