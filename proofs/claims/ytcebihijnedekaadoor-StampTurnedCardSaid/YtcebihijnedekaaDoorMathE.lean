/-
  The first flow is the smallest one, number by number; it is the same where one of its numbers is held.
-/
import Derived.Test.YtcebihijnedekaaDoorWalkR
namespace Go.Proofs.YtcebihijnedekaaDoor

/-- A list is smaller than another one at the first place where they differ. -/
def lexL (a b : List Int) : Prop := ∃ (i : Nat) (x y : Int), a.take i = b.take i ∧ a[i]? = some x ∧ b[i]? = some y ∧ x < y

theorem take_get {a b : List Int} {i j : Nat} (h : a.take i = b.take i) (hj : j < i) : a[j]? = b[j]? := by
  have h1 : (a.take i)[j]? = a[j]? := by rw [List.getElem?_take, if_pos hj]
  have h2 : (b.take i)[j]? = b[j]? := by rw [List.getElem?_take, if_pos hj]
  rw [← h1, ← h2, h]

theorem lexL_asymm {a b : List Int} (h : lexL a b) (g : lexL b a) : False := by
  obtain ⟨i, x, y, e, h1, h2, h3⟩ := h
  obtain ⟨j, x', y', e', g1, g2, g3⟩ := g
  rcases Nat.lt_trichotomy i j with hij | rfl | hij
  · have := take_get e' hij
    rw [h1, h2] at this; cases this; omega
  · rw [h1] at g2; rw [h2] at g1; cases g1; cases g2; omega
  · have := take_get e hij
    rw [g1, g2] at this; cases this; omega

theorem take_snoc {l : List Int} {k : Nat} {x : Int} (h : l[k]? = some x) : l.take (k + 1) = l.take k ++ [x] := by
  obtain ⟨hk, rfl⟩ := List.getElem?_eq_some_iff.1 h
  exact List.take_succ_eq_append_getElem hk

theorem firstK_succ {rooms k : Nat} {ws : List Wy} {w : Wy} (h : ws[k]? = some w) : firstK rooms ws (k + 1) = firstK rooms ws k ++ [(spanS rooms (keptS ws (firstK rooms ws k)) w).1] := by
  rw [firstK, h]

theorem firstK_take {rooms : Nat} {ws : List Wy} (hv : inW rooms ws) (hok : okW ws) (ha : Agr ws) : ∀ n k, n + k ≤ ws.length → (firstK rooms ws (n + k)).take n = firstK rooms ws n
  | n, 0, h => by
    have := (firstK_spec hv hok ha n (by omega)).1
    rw [Nat.add_zero]; exact List.take_of_length_le (by omega)
  | n, k + 1, h => by
    have ih := firstK_take hv hok ha n k (by omega)
    have hl := (firstK_spec hv hok ha (n + k) (by omega)).1
    have hw : ws[n + k]? = some (ws[n + k]'(by omega)) := List.getElem?_eq_getElem (by omega)
    rw [show n + (k + 1) = (n + k) + 1 by omega, firstK_succ hw, List.take_append_of_le_length (by omega), ih]

theorem firstS_take {rooms : Nat} {ws : List Wy} (hv : inW rooms ws) (hok : okW ws) (ha : Agr ws) {k : Nat} (h : k ≤ ws.length) : (firstS rooms ws).take k = firstK rooms ws k := by
  have := firstK_take hv hok ha k (ws.length - k) (by omega)
  rwa [show k + (ws.length - k) = ws.length by omega] at this

theorem firstS_get {rooms : Nat} {ws : List Wy} (hv : inW rooms ws) (hok : okW ws) (ha : Agr ws) {k : Nat} {w : Wy} (h : ws[k]? = some w) : (firstS rooms ws)[k]? = some (spanS rooms (keptS ws (firstK rooms ws k)) w).1 := by
  have hk := lt_of_get h
  have h1 := firstS_take hv hok ha (k := k + 1) hk
  have hl := (firstK_spec hv hok ha k (by omega)).1
  rw [firstK_succ h] at h1
  have : ((firstS rooms ws).take (k + 1))[k]? = (firstS rooms ws)[k]? := by rw [List.getElem?_take, if_pos (by omega)]
  rw [← this, h1, List.getElem?_append_right (by omega), hl, Nat.sub_self]
  rfl

theorem firstS_len {rooms : Nat} {ws : List Wy} (hv : inW rooms ws) (hok : okW ws) (ha : Agr ws) : (firstS rooms ws).length = ws.length := (firstK_spec hv hok ha ws.length (Nat.le_refl _)).1

/-- THE FIRST FLOW IS THE SMALLEST ONE. -/
theorem firstS_lex {rooms : Nat} {ws : List Wy} (hv : inW rooms ws) (hok : okW ws) {fl : List Int} (h : Flow ws fl) : fl = firstS rooms ws ∨ lexL (firstS rooms ws) fl := by
  have ha := agr_of_flow hv h
  have hlen := h.1.1
  have key : ∀ k, k ≤ ws.length → fl.take k = firstK rooms ws k ∨ lexL (firstS rooms ws) fl := by
    intro k
    induction k with
    | zero => exact fun _ => .inl (by simp [firstK])
    | succ k ih =>
      intro hk
      rcases ih (by omega) with e | e
      · have hw : ws[k]? = some (ws[k]'(by omega)) := List.getElem?_eq_getElem (by omega)
        generalize ws[k]'(by omega) = w at hw
        have hf : fl[k]? = some (fl[k]'(by omega)) := List.getElem?_eq_getElem (by omega)
        generalize fl[k]'(by omega) = f at hf
        obtain ⟨h1, h2, h3, h4, h5⟩ := firstK_spec hv hok ha k (by omega)
        have hfk : Flow (keptS ws (firstK rooms ws k)) fl := flow_kept ws _ fl h fun i n hi => by
          have hik := lt_of_get hi
          rw [h1] at hik
          left
          rw [← e, List.getElem?_take, if_pos hik] at hi
          exact hi
        have hwk : (keptS ws (firstK rooms ws k))[k]? = some w := by rw [keptS_get_ge _ _ _ (by omega)]; exact hw
        have hs := (flow_span h4 hfk hwk hf).1
        have hg := firstS_get hv hok ha hw
        by_cases hq : f = (spanS rooms (keptS ws (firstK rooms ws k)) w).1
        · left
          rw [firstK_succ hw, take_snoc hf, e, hq]
        · right
          exact ⟨k, _, f, by rw [firstS_take hv hok ha (by omega), e], hg, hf, by omega⟩
      · exact .inr e
  rcases key ws.length (Nat.le_refl _) with e | e
  · left
    rw [← hlen, List.take_length] at e
    rw [e, hlen]; rfl
  · exact .inr e

/-- A flow of books in which a way has one number is a flow of the books, where the number is within. -/
theorem flow_fix {ws : List Wy} {k : Nat} {w : Wy} {n : Int} {fl : List Int} (hk : ws[k]? = some w) (h1 : w.lo ≤ n) (h2 : n ≤ w.hi) : Flow (ws.set k (fixW w n)) fl ↔ Flow ws fl ∧ fl[k]? = some n := by
  have hkl := lt_of_get hk
  have hnet : ∀ (r : Int) (ws : List Wy) (fl : List Int) (k : Nat) (w : Wy), ws[k]? = some w → net r (ws.set k (fixW w n)) fl = net r ws fl := by
    intro r ws
    induction ws with
    | nil => intro fl k w hk; simp at hk
    | cons y ws ih =>
      intro fl k w hk
      cases k with
      | zero => simp at hk; subst hk; cases fl <;> simp [net, fixW]
      | succ k => cases fl <;> simp [net]; exact ih _ k w (by simpa using hk)
  constructor
  · intro h
    have hlen : fl.length = ws.length := by simpa using h.1.1
    have hg : fl[k]? = some (fl[k]'(by omega)) := List.getElem?_eq_getElem (by omega)
    generalize fl[k]'(by omega) = g at hg
    have hn := h.1.2 k (fixW w n) g (by rw [getElem?_mem_set hkl, if_pos rfl]) hg
    have e : g = n := by simp [fixW] at hn; omega
    subst e
    refine ⟨⟨⟨hlen, fun i x f hx hf => ?_⟩, fun r => ?_⟩, hg⟩
    · by_cases hi : i = k
      · subst hi; rw [hk] at hx; cases hx; rw [hg] at hf; cases hf; exact ⟨h1, h2⟩
      · exact h.1.2 i x f (by rw [getElem?_mem_set hkl, if_neg hi]; exact hx) hf
    · have := h.2 r
      rwa [hnet r ws fl k w hk] at this
  · rintro ⟨h, hg⟩
    refine ⟨⟨by rw [List.length_set]; exact h.1.1, fun i x f hx hf => ?_⟩, fun r => by rw [hnet r ws fl k w hk]; exact h.2 r⟩
    rw [getElem?_mem_set hkl] at hx
    by_cases hi : i = k
    · subst hi; rw [if_pos rfl] at hx; rw [hg] at hf; cases hx; cases hf; exact ⟨Int.le_refl _, Int.le_refl _⟩
    · rw [if_neg hi] at hx; exact h.1.2 i x f hx hf

/-- The first flow is the same where one of its numbers is held. -/
theorem firstS_fix {rooms : Nat} {ws : List Wy} (hv : inW rooms ws) (hok : okW ws) (ha : Agr ws) {k : Nat} {w : Wy} {n : Int} (hk : ws[k]? = some w) (hn : (firstS rooms ws)[k]? = some n) : firstS rooms (ws.set k (fixW w n)) = firstS rooms ws := by
  have hF := firstS_flow hv hok ha
  have hb := hF.1.2 k w n hk hn
  have hG : Flow (ws.set k (fixW w n)) (firstS rooms ws) := (flow_fix hk hb.1 hb.2).2 ⟨hF, hn⟩
  have hv' := inW_set hv hk n
  have hok' := okW_set hok k w n
  have ha' := agr_of_flow hv' hG
  have hF' := (flow_fix hk hb.1 hb.2).1 (firstS_flow hv' hok' ha')
  rcases firstS_lex hv' hok' hG with e | e
  · exact e.symm
  · rcases firstS_lex hv hok hF'.1 with e' | e'
    · exact e'
    · exact absurd e' (fun h => lexL_asymm h e)

theorem keptS_nodup_get {ws : List Wy} {ns : List Int} {k : Nat} {n : Int} {y : Wy} (hy : (keptS ws ns)[k]? = some y) (hn : ns[k]? = some n) : y.lo = n ∧ y.hi = n := by
  have hk : k < ws.length := by have := lt_of_get hy; rwa [keptS_length] at this
  rw [keptS_get_lt ws ns k n ws[k] hn (List.getElem?_eq_getElem hk)] at hy
  cases hy
  exact ⟨rfl, rfl⟩

/-- In books whose first ways have one number each, the first flow has these numbers. -/
theorem firstK_fixed {rooms : Nat} {ws : List Wy} (hv : inW rooms ws) (hok : okW ws) (ha : Agr ws) (ns : List Int) : ∀ k, k ≤ ns.length → k ≤ ws.length → (∀ (i : Nat) (n : Int) (y : Wy), i < k → ns[i]? = some n → ws[i]? = some y → y.lo = n ∧ y.hi = n) → firstK rooms ws k = ns.take k
  | 0, _, _, _ => by simp [firstK]
  | k + 1, h1, h2, h => by
    have ih := firstK_fixed hv hok ha ns k (by omega) (by omega) (fun i n y hi => h i n y (by omega))
    have hw : ws[k]? = some (ws[k]'(by omega)) := List.getElem?_eq_getElem (by omega)
    generalize ws[k]'(by omega) = w at hw
    have hn : ns[k]? = some (ns[k]'(by omega)) := List.getElem?_eq_getElem (by omega)
    generalize ns[k]'(by omega) = n at hn
    obtain ⟨e1, e2⟩ := h k n w (by omega) hn hw
    obtain ⟨q1, q2, q3, q4, q5⟩ := firstK_spec hv hok ha (k + 1) h2
    have hg : (firstK rooms ws (k + 1))[k]? = some ((firstK rooms ws (k + 1))[k]'(by omega)) := List.getElem?_eq_getElem (by omega)
    have hb := q5 k w _ hw hg
    rw [firstK_succ hw, ih, take_snoc hn]
    have hl := (firstK_spec hv hok ha k (by omega)).1
    have : (firstK rooms ws (k + 1))[k]? = some (spanS rooms (keptS ws (firstK rooms ws k)) w).1 := by
      rw [firstK_succ hw, List.getElem?_append_right (by omega), hl, Nat.sub_self]; rfl
    rw [hg] at this
    have e := Option.some.inj this
    rw [ih] at e
    rw [e] at hb
    rw [show (spanS rooms (keptS ws (ns.take k)) w).1 = n by omega]

theorem keptS_fixed {ws : List Wy} : ∀ (ns : List Int), (∀ (i : Nat) (n : Int) (y : Wy), ns[i]? = some n → ws[i]? = some y → y.lo = n ∧ y.hi = n) → keptS ws ns = ws := by
  induction ws with
  | nil => intro ns _; rfl
  | cons w ws ih =>
    intro ns h
    cases ns with
    | nil => rfl
    | cons n ns =>
      obtain ⟨e1, e2⟩ := h 0 n w rfl rfl
      rw [keptS, ih ns (fun i m y hi hy => h (i + 1) m y (by simpa using hi) (by simpa using hy))]
      congr 1
      cases w
      simp only [fixW] at *
      simp [e1, e2]

theorem moreW_get {ws : List Wy} {fl : List Int} {i : Nat} {x : Wy} {f : Int} (hx : ws[i]? = some x) : (moreW ws fl i x f)[i]? = some { x with lo := f + 1 } := by
  unfold moreW
  rw [getElem?_mem_set (by rw [keptS_length]; exact lt_of_get hx), if_pos rfl]

theorem moreW_fix {ws : List Wy} {fl : List Int} {i : Nat} {x : Wy} {f n : Int} : (moreW ws fl i x f).set i (fixW { x with lo := f + 1 } n) = (keptS ws (fl.take i)).set i (fixW x n) := by
  unfold moreW
  rw [List.set_set]
  rfl

/-- A greater number with which books still agree is one of the span of the way that has to have more. -/
theorem more_agr {rooms : Nat} {ws : List Wy} {fl : List Int} {i : Nat} {x : Wy} {f n : Int} (hv : ValB rooms (moreW ws fl i x f)) (hx : ws[i]? = some x) (h1 : f + 1 ≤ n) (h2 : n ≤ x.hi) :
    agrS rooms ((keptS ws (fl.take i)).set i (fixW x n)) = (agrS rooms (moreW ws fl i x f) && decide ((spanS rooms (moreW ws fl i x f) { x with lo := f + 1 }).1 ≤ n ∧ n ≤ (spanS rooms (moreW ws fl i x f) { x with lo := f + 1 }).2)) := by
  have hg := moreW_get (fl := fl) (f := f) hx
  rw [← moreW_fix]
  cases ha : agrS rooms (moreW ws fl i x f)
  · rw [Bool.false_and]
    cases hb : agrS rooms ((moreW ws fl i x f).set i (fixW { x with lo := f + 1 } n))
    · rfl
    · have hb' := (agrS_iff (inW_set hv.inW hg n)).1 hb
      obtain ⟨g, hgf⟩ := (hoffman (inW_set hv.inW hg n) (okW_set hv.okW i _ n)).1 hb'
      have := ((flow_fix hg h1 h2).1 hgf).1
      rw [(agrS_iff hv.inW).2 (agr_of_flow hv.inW this)] at ha
      cases ha
  · rw [Bool.true_and]
    have ha' := (agrS_iff hv.inW).1 ha
    have h3 := agr_fix hv.inW ha' hg n h1 h2
    have h4 := agrS_iff (inW_set hv.inW hg n)
    rw [Bool.eq_iff_iff, h4, h3, decide_eq_true_iff]

/-- The first flow of the books in which a way has to have more is that with its smallest number. -/
theorem more_first {rooms : Nat} {ws : List Wy} {fl : List Int} {i : Nat} {x : Wy} {f : Int} (hv : ValB rooms (moreW ws fl i x f)) (ha : agrS rooms (moreW ws fl i x f) = true) (hx : ws[i]? = some x) (hi : i ≤ fl.length) :
    firstS rooms ((keptS ws (fl.take i)).set i (fixW x (spanS rooms (moreW ws fl i x f) { x with lo := f + 1 }).1)) = firstS rooms (moreW ws fl i x f) := by
  have hg := moreW_get (fl := fl) (f := f) hx
  have ha' := (agrS_iff hv.inW).1 ha
  have hil := lt_of_get hx
  rw [← moreW_fix]
  refine firstS_fix hv.inW hv.okW ha' hg ?_
  have hfix : ∀ (j : Nat) (n : Int) (y : Wy), j < i → fl[j]? = some n → (moreW ws fl i x f)[j]? = some y → y.lo = n ∧ y.hi = n := by
    intro j n y hj hn hy
    unfold moreW at hy
    rw [getElem?_mem_set (by rw [keptS_length]; exact hil), if_neg (by omega)] at hy
    exact keptS_nodup_get hy (by rw [List.getElem?_take, if_pos hj]; exact hn)
  have hk := firstK_fixed hv.inW hv.okW ha' fl i hi (by rw [moreW_len]; omega) hfix
  have h1 := firstS_get hv.inW hv.okW ha' hg
  rw [hk, keptS_fixed] at h1
  · exact h1
  · intro j n y hn hy
    rw [List.getElem?_take] at hn
    split at hn
    · exact hfix j n y (by assumption) hn hy
    · cases hn
end Go.Proofs.YtcebihijnedekaaDoor
