/-
  The second flow is the next one in the list of all flows; two flows differ in two ways at least.
-/
import Derived.Test.YtcebihijnedekaaDoorFlowA
namespace Go.Proofs.YtcebihijnedekaaDoor

/-- A flow that goes over another one at place i. -/
def Over (fl h : List Int) (i : Nat) : Prop := h.take i = fl.take i ∧ ∃ x y, fl[i]? = some x ∧ h[i]? = some y ∧ x < y

theorem more_flow {ws : List Wy} {fl h : List Int} {i : Nat} {x : Wy} {f : Int} (hl : fl.length = ws.length) (hx : ws[i]? = some x) (hf : fl[i]? = some f) (hr : ∀ (k : Nat) (y : Wy) (g : Int), ws[k]? = some y → fl[k]? = some g → y.lo ≤ g ∧ g ≤ y.hi) :
    Flow (moreW ws fl i x f) h ↔ Flow ws h ∧ Over fl h i := by
  have hil := lt_of_get hx
  have hnet : ∀ (r : Int) (ws : List Wy) (g : List Int) (k : Nat) (w y : Wy), ws[k]? = some w → y.src = w.src → y.dst = w.dst → net r (ws.set k y) g = net r ws g := by
    intro r ws
    induction ws with
    | nil => intro g k w y hk; simp at hk
    | cons z ws ih =>
      intro g k w y hk h1 h2
      cases k with
      | zero => simp at hk; subst hk; cases g <;> simp [net, h1, h2]
      | succ k => cases g <;> simp [net]; exact ih _ k w y (by simpa using hk) h1 h2
  have hgx : (keptS ws (fl.take i))[i]? = some x := by rw [keptS_get_ge _ _ _ (by rw [List.length_take]; omega)]; exact hx
  have hn : ∀ r, net r (moreW ws fl i x f) h = net r ws h := fun r => by
    unfold moreW
    rw [hnet r _ h i x { x with lo := f + 1 } hgx rfl rfl, net_kept]
  have hget : ∀ k y, ws[k]? = some y → (moreW ws fl i x f)[k]? = if k = i then some { x with lo := f + 1 } else if k < i then (fl[k]?).map (fixW y) else some y := by
    intro k y hy
    unfold moreW
    rw [getElem?_mem_set (by rw [keptS_length]; exact hil)]
    by_cases hk : k = i
    · rw [if_pos hk, if_pos hk]
    · rw [if_neg hk, if_neg hk]
      by_cases hki : k < i
      · rw [if_pos hki]
        have hg : fl[k]? = some (fl[k]'(by omega)) := List.getElem?_eq_getElem (by omega)
        rw [hg, keptS_get_lt ws (fl.take i) k _ y (by rw [List.getElem?_take, if_pos hki]; exact hg) hy]
        rfl
      · rw [if_neg hki, keptS_get_ge _ _ _ (by rw [List.length_take]; omega)]; exact hy
  constructor
  · intro hF
    have hlen : h.length = ws.length := by rw [hF.1.1, moreW_len]
    have key : ∀ k y g, ws[k]? = some y → h[k]? = some g → (k < i → fl[k]? = some g) ∧ (k = i → f < g ∧ g ≤ x.hi) ∧ (i < k → y.lo ≤ g ∧ g ≤ y.hi) := by
      intro k y g hy hg
      have h1 := hget k y hy
      refine ⟨fun hk => ?_, fun hk => ?_, fun hk => ?_⟩
      · rw [if_neg (by omega), if_pos hk] at h1
        have hq : fl[k]? = some (fl[k]'(by omega)) := List.getElem?_eq_getElem (by omega)
        rw [hq] at h1
        have := hF.1.2 k _ g h1 hg
        simp [fixW] at this
        rw [hq, show fl[k]'(by omega) = g by omega]
      · rw [if_pos hk] at h1
        have := hF.1.2 k _ g h1 hg
        dsimp only at this
        omega
      · rw [if_neg (by omega), if_neg (by omega)] at h1
        exact hF.1.2 k _ g h1 hg
    refine ⟨⟨⟨hlen, fun k y g hy hg => ?_⟩, fun r => by rw [← hn r]; exact hF.2 r⟩, ?_, ?_⟩
    · obtain ⟨k1, k2, k3⟩ := key k y g hy hg
      rcases Nat.lt_trichotomy k i with hk | hk | hk
      · exact hr k y g hy (k1 hk)
      · subst hk
        rw [hx] at hy; cases hy
        have := k2 rfl
        have := hr k x f hx hf
        omega
      · exact k3 hk
    · refine List.ext_getElem? fun k => ?_
      rw [List.getElem?_take, List.getElem?_take]
      by_cases hk : k < i
      · rw [if_pos hk, if_pos hk]
        have hy : ws[k]? = some (ws[k]'(by omega)) := List.getElem?_eq_getElem (by omega)
        have hg : h[k]? = some (h[k]'(by omega)) := List.getElem?_eq_getElem (by omega)
        rw [hg]; exact ((key k _ _ hy hg).1 hk).symm
      · rw [if_neg hk, if_neg hk]
    · have hg : h[i]? = some (h[i]'(by omega)) := List.getElem?_eq_getElem (by omega)
      exact ⟨f, _, hf, hg, ((key i x _ hx hg).2.1 rfl).1⟩
  · rintro ⟨hF, ht, x', y', e1, e2, e3⟩
    rw [hf] at e1; cases e1
    have hlen := hF.1.1
    refine ⟨⟨by rw [moreW_len]; exact hlen, fun k y g hy hg => ?_⟩, fun r => by rw [hn r]; exact hF.2 r⟩
    have hkl : k < ws.length := by have := lt_of_get hg; omega
    have hz : ws[k]? = some ws[k] := List.getElem?_eq_getElem hkl
    rw [hget k _ hz] at hy
    by_cases hk : k = i
    · subst hk
      rw [if_pos rfl] at hy; cases hy
      rw [e2] at hg; cases hg
      have := hF.1.2 k x _ hx e2
      dsimp only
      omega
    · rw [if_neg hk] at hy
      by_cases hki : k < i
      · rw [if_pos hki] at hy
        have := take_get ht hki
        rw [hg] at this
        rw [← this] at hy
        cases hy
        simp [fixW]
      · rw [if_neg hki] at hy
        cases hy
        exact hF.1.2 k _ g hz hg

/-- What is found: nothing goes over; or the smallest flow that does. -/
theorem sec_spec {rooms : Nat} {ws : List Wy} (hv : ValB rooms ws) {fl : List Int} (hl : fl.length = ws.length) (hr : ∀ (k : Nat) (y : Wy) (g : Int), ws[k]? = some y → fl[k]? = some g → y.lo ≤ g ∧ g ≤ y.hi) :
    ∀ j, j ≤ ws.length → match secK rooms ws fl j with
      | none => ∀ h i, Flow ws h → i < j → ¬ Over fl h i
      | some g => ∃ i, i < j ∧ Flow ws g ∧ Over fl g i ∧ ∀ h i', Flow ws h → i' < j → Over fl h i' → h = g ∨ lexL g h
  | 0, _ => by simp [secK]
  | i + 1, hj => by
    have hx : ws[i]? = some (ws[i]'(by omega)) := List.getElem?_eq_getElem (by omega)
    have hf : fl[i]? = some (fl[i]'(by omega)) := List.getElem?_eq_getElem (by omega)
    generalize ws[i]'(by omega) = x at hx
    generalize fl[i]'(by omega) = f at hf
    have ih := sec_spec hv hl hr i (by omega)
    rw [secK, hx, hf]
    dsimp only
    have hmf := fun h => more_flow (h := h) hl hx hf hr
    by_cases hc : f < x.hi ∧ agrS rooms (moreW ws fl i x f) = true
    · rw [if_pos hc]
      dsimp only
      have hm := moreW_val hv hr hx hf hc.1
      have ha := (agrS_iff hm.inW).1 hc.2
      have hF := firstS_flow hm.inW hm.okW ha
      obtain ⟨g1, g2⟩ := (hmf _).1 hF
      refine ⟨i, by omega, g1, g2, fun h i' hh hi' ho => ?_⟩
      by_cases e : i' = i
      · subst e
        rcases firstS_lex hm.inW hm.okW ((hmf h).2 ⟨hh, ho⟩) with e | e
        · exact .inl e
        · exact .inr e
      · right
        obtain ⟨ht, x', y', e1, e2, e3⟩ := ho
        obtain ⟨ht', _⟩ := g2
        have e4 := take_get ht' (show i' < i by omega)
        refine ⟨i', x', y', ?_, by rw [e4]; exact e1, e2, e3⟩
        have := congrArg (List.take i') ht'
        rw [List.take_take, List.take_take, Nat.min_eq_left (by omega)] at this
        rw [this, ht]
    · rw [if_neg hc]
      have hno : ∀ h, Flow ws h → ¬ Over fl h i := by
        intro h hh ho
        apply hc
        have h1 := (hmf h).2 ⟨hh, ho⟩
        obtain ⟨_, x', y', e1, e2, e3⟩ := ho
        rw [hf] at e1; cases e1
        have h2 := hh.1.2 i x y' hx e2
        have hm := moreW_val hv hr hx hf (show f < x.hi by omega)
        exact ⟨by omega, (agrS_iff hm.inW).2 (agr_of_flow hm.inW h1)⟩
      cases hs : secK rooms ws fl i with
      | none =>
        rw [hs] at ih
        intro h i' hh hi'
        by_cases e : i' = i
        · subst e; exact hno h hh
        · exact ih h i' hh (by omega)
      | some g =>
        rw [hs] at ih
        obtain ⟨i0, a, b, c, d⟩ := ih
        refine ⟨i0, by omega, b, c, fun h i' hh hi' ho => ?_⟩
        by_cases e : i' = i
        · subst e; exact absurd ho (hno h hh)
        · exact d h i' hh (by omega) ho

theorem over_of_lex {fl h : List Int} (hx : lexL fl h) : ∃ i, i < fl.length ∧ Over fl h i := by
  obtain ⟨i, x, y, a, b, c, d⟩ := hx
  exact ⟨i, lt_of_get b, a.symm, x, y, b, c, d⟩
theorem lex_of_over {fl h : List Int} {i : Nat} (ho : Over fl h i) : lexL fl h := by
  obtain ⟨a, x, y, b, c, d⟩ := ho
  exact ⟨i, x, y, a.symm, b, c, d⟩

/-- The other flow: the first one, or, behind the first one, the second one, if there is one. -/
theorem oth_listed {rooms : Nat} {ws : List Wy} (hv : ValB rooms ws) (hch : chk rooms ws = 0) {k : Nat} {fl : List Int} (hk : (flowsS ws)[k]? = some fl) :
    othS rooms ws fl = if (flowsS ws).length = 1 then ([], 12) else ((flowsS ws).getD (if k = 0 then 1 else 0) [], 0) := by
  have hmem : fl ∈ flowsS ws := List.mem_of_getElem? hk
  have hF := (flowsS_mem hv fl).1 hmem
  have ha := agr_of_flow hv.inW hF
  obtain ⟨t, ht⟩ := flowsS_head hv ha
  have hasc := flowsS_asc hv
  have hver : verS rooms ws fl = 0 := by
    unfold verS
    rw [if_pos hch, if_pos hF.1.1]
    have h1 : rngL ws fl = true := by
      have : ∀ (ws : List Wy) (fl : List Int), inR ws fl → rngL ws fl = true := by
        intro ws
        induction ws with
        | nil => intro fl _; cases fl <;> rfl
        | cons w ws ih =>
          intro fl h
          cases fl with
          | nil => rfl
          | cons f fl =>
            rw [inR_cons] at h
            simp only [rngL, Bool.and_eq_true]
            exact ⟨by simpa using h.1, ih fl h.2⟩
      exact this ws fl hF.1
    rw [verT_good h1, if_pos ((balS_iff hv).2 hF.2)]
  unfold othS
  rw [if_pos hver, show ((rooms : Int).toNat) = rooms from rfl]
  rw [ht] at hk hasc ⊢
  by_cases hk0 : k = 0
  · subst hk0
    simp at hk
    rw [if_pos hk]
    have hs := sec_spec hv hF.1.1 hF.1.2 ws.length (Nat.le_refl _)
    cases t with
    | nil =>
      cases hq : secK rooms ws fl ws.length with
      | none => rfl
      | some g =>
        rw [hq] at hs
        obtain ⟨i, _, hg, ho, _⟩ := hs
        have hm := (flowsS_mem hv g).2 hg
        rw [ht, List.mem_singleton] at hm
        have hl := lex_of_over ho
        rw [hm, hk] at hl
        exact absurd hl (fun h => lexL_asymm h h)
    | cons b t =>
      rw [if_neg (by simp)]
      have hb : Flow ws b := (flowsS_mem hv b).1 (by rw [ht]; simp)
      have hfb : lexL fl b := by
        rw [← hk]
        exact (List.pairwise_cons.1 hasc).1 b (by simp)
      obtain ⟨i, hi, ho⟩ := over_of_lex hfb
      cases hq : secK rooms ws fl ws.length with
      | none =>
        rw [hq] at hs
        exact absurd ho (hs b i hb (by rw [← hF.1.1]; exact hi))
      | some g =>
        rw [hq] at hs
        obtain ⟨i', _, hg, ho', hall⟩ := hs
        have hgm := (flowsS_mem hv g).2 hg
        rw [ht] at hgm
        have hgb : g = b := by
          rcases hall b i hb (by rw [← hF.1.1]; exact hi) ho with e | e
          · exact e.symm
          · rcases List.mem_cons.1 hgm with e' | e'
            · have hl := lex_of_over ho'
              rw [e', hk] at hl
              exact absurd hl (fun h => lexL_asymm h h)
            · rcases List.mem_cons.1 e' with e' | e'
              · exact e'
              · have := (List.pairwise_cons.1 (List.pairwise_cons.1 hasc).2).1 g e'
                exact absurd this (fun h => lexL_asymm h e)
        simp [hgb]
  · obtain ⟨k', rfl⟩ : ∃ k', k = k' + 1 := ⟨k - 1, by omega⟩
    simp only [List.getElem?_cons_succ] at hk
    have hmt : fl ∈ t := List.mem_of_getElem? hk
    have hne : ¬ firstS rooms ws = fl := by
      intro e
      have := (List.pairwise_cons.1 hasc).1 fl hmt
      rw [e] at this
      exact lexL_asymm this this
    rw [if_neg hne, if_neg (by have := List.length_pos_of_mem hmt; simp; intro e; rw [e] at this; simp at this)]
    simp

/-- How many of the first numbers differ. -/
def cntD (a b : List Int) : Nat → Nat
  | 0 => 0
  | k + 1 => cntD a b k + if a[k]? = b[k]? then 0 else 1

theorem cntD_le (a b : List Int) : ∀ k, cntD a b k ≤ k
  | 0 => Nat.le_refl _
  | k + 1 => by have := cntD_le a b k; unfold cntD; split <;> omega

theorem cntD_zero {a b : List Int} : ∀ k, cntD a b k = 0 → ∀ i, i < k → a[i]? = b[i]?
  | 0, _, i, hi => by omega
  | k + 1, h, i, hi => by
    unfold cntD at h
    by_cases e : i = k
    · subst e
      by_cases hq : a[i]? = b[i]?
      · exact hq
      · rw [if_neg hq] at h; omega
    · exact cntD_zero k (by omega) i (by omega)

theorem cntD_one {a b : List Int} : ∀ k, cntD a b k = 1 → ∃ i, i < k ∧ ¬ a[i]? = b[i]? ∧ ∀ j, j < k → j ≠ i → a[j]? = b[j]?
  | 0, h => by simp [cntD] at h
  | k + 1, h => by
    unfold cntD at h
    by_cases hq : a[k]? = b[k]?
    · rw [if_pos hq] at h
      obtain ⟨i, h1, h2, h3⟩ := cntD_one k (by omega)
      refine ⟨i, by omega, h2, fun j hj hne => ?_⟩
      by_cases e : j = k
      · subst e; exact hq
      · exact h3 j (by omega) hne
    · rw [if_neg hq] at h
      refine ⟨k, by omega, hq, fun j hj hne => cntD_zero k (by omega) j (by omega)⟩

theorem net_one (r : Int) : ∀ (ws : List Wy) (a b : List Int) (i : Nat) (x : Wy) (p q : Int), a.length = ws.length → b.length = ws.length → ws[i]? = some x → a[i]? = some p → b[i]? = some q → (∀ j, j ≠ i → a[j]? = b[j]?) →
    net r ws a - net r ws b = ((if x.dst = r then p else 0) - (if x.src = r then p else 0)) - ((if x.dst = r then q else 0) - (if x.src = r then q else 0))
  | [], _, _, _, _, _, _, _, _, h, _, _, _ => by simp at h
  | _ :: _, [], _, _, _, _, _, h, _, _, _, _, _ => by simp at h
  | _ :: _, _ :: _, [], _, _, _, _, _, h, _, _, _, _ => by simp at h
  | w :: ws, f :: a, g :: b, 0, x, p, q, h1, h2, hx, ha, hb, hj => by
    simp at hx ha hb
    subst hx ha hb
    have e : a = b := by
      refine List.ext_getElem? fun j => ?_
      have := hj (j + 1) (by omega)
      simpa using this
    subst e
    simp only [net]
    omega
  | w :: ws, f :: a, g :: b, i + 1, x, p, q, h1, h2, hx, ha, hb, hj => by
    have e := hj 0 (by omega)
    simp at e
    subst e
    have ih := net_one r ws a b i x p q (by simpa using h1) (by simpa using h2) (by simpa using hx) (by simpa using ha) (by simpa using hb) (fun j hne => by
      have := hj (j + 1) (by omega)
      simpa using this)
    simp only [net]
    omega

/-- Two flows differ in two ways at least. -/
theorem flows_two {ws : List Wy} (hsd : ∀ x ∈ ws, x.src ≠ x.dst) {a b : List Int} (ha : Flow ws a) (hb : Flow ws b) (hne : a ≠ b) : 1 < cntD a b a.length := by
  have hla := ha.1.1
  have hlb := hb.1.1
  rcases Nat.lt_or_ge 1 (cntD a b a.length) with h | h
  · exact h
  · exfalso
    have h01 : cntD a b a.length = 0 ∨ cntD a b a.length = 1 := by omega
    rcases h01 with h0 | h1
    · apply hne
      refine List.ext_getElem? fun j => ?_
      by_cases hj : j < a.length
      · exact cntD_zero _ h0 j hj
      · rw [List.getElem?_eq_none (by omega), List.getElem?_eq_none (by omega)]
    · obtain ⟨i, hi, hd, hj⟩ := cntD_one _ h1
      have hx : ws[i]? = some (ws[i]'(by omega)) := List.getElem?_eq_getElem (by omega)
      have hp : a[i]? = some a[i] := List.getElem?_eq_getElem hi
      have hq : b[i]? = some (b[i]'(by omega)) := List.getElem?_eq_getElem (by omega)
      generalize ws[i]'(by omega) = x at hx
      generalize a[i] = p at hp
      generalize b[i]'(by omega) = q at hq
      have hall : ∀ j, j ≠ i → a[j]? = b[j]? := fun j hne => by
        by_cases hjl : j < a.length
        · exact hj j hjl hne
        · rw [List.getElem?_eq_none (by omega), List.getElem?_eq_none (by omega)]
      have hn := net_one x.dst ws a b i x p q hla hlb hx hp hq hall
      rw [ha.2, hb.2, if_pos rfl, if_pos rfl, if_neg (hsd x (mem_of_get hx)), if_neg (hsd x (mem_of_get hx))] at hn
      apply hd
      rw [hp, hq, show p = q by omega]
end Go.Proofs.YtcebihijnedekaaDoor
