/-
  All flows, as the statements list them: the numbers, what rows of lists are in memory, and what may change while they are collected.
-/
import Derived.Test.YtcebihijnedekaaDoorWalkZ
import Derived.Test.YtcebihijnedekaaDoorWalkU
import Derived.Test.YtcebihijnedekaaDoorMathE
import Derived.Maps.AppendAt
import Derived.Laws.AppendOwnNone
namespace Go.Proofs.YtcebihijnedekaaDoor
open Go.RowKit

/-- What f gives for the numbers from lo on, one after the other. -/
def putL (f : Int → List (List Int)) (lo : Int) : Nat → List (List Int)
  | 0 => []
  | k + 1 => putL f lo k ++ f (lo + k)

/-- How many numbers a way can have. -/
def wide (x : Wy) : Nat := (x.hi + 1 - x.lo).toNat

/-- All flows that begin with given numbers. -/
def putS (ws : List Wy) : Nat → List Int → List (List Int)
  | 0, l => if balS ws l then [l] else []
  | d + 1, l => match ws[l.length]? with | some x => putL (fun n => putS ws d (l ++ [n])) x.lo (wide x) | none => []

def flowsS (ws : List Wy) : List (List Int) := putS ws ws.length []

theorem putL_len {f : Int → List (List Int)} {lo : Int} {m : Nat} (h : ∀ n, (f n).length ≤ m) : ∀ k, (putL f lo k).length ≤ k * m
  | 0 => by simp [putL]
  | k + 1 => by
    have := putL_len h k (lo := lo)
    have := h (lo + k)
    rw [putL, List.length_append, Nat.succ_mul]
    omega

theorem putS_len {ws : List Wy} (h : ∀ x ∈ ws, wide x ≤ 4) : ∀ d l, (putS ws d l).length ≤ 4 ^ d
  | 0, l => by unfold putS; split <;> simp
  | d + 1, l => by
    unfold putS
    split
    · rename_i x hx
      have := putL_len (f := fun n => putS ws d (l ++ [n])) (lo := x.lo) (fun n => putS_len h d _) (wide x)
      have h2 := h x (mem_of_get hx)
      have := Nat.mul_le_mul_right (4 ^ d) h2
      rw [Nat.pow_succ]; omega
    · simp

theorem putL_mem {f : Int → List (List Int)} {lo : Int} {l : List Int} : ∀ k, l ∈ putL f lo k ↔ ∃ n : Int, lo ≤ n ∧ n < lo + k ∧ l ∈ f n
  | 0 => by simp [putL]; omega
  | k + 1 => by
    rw [putL, List.mem_append, putL_mem k]
    constructor
    · rintro (⟨n, a, b, c⟩ | h)
      · exact ⟨n, a, by omega, c⟩
      · exact ⟨lo + k, by omega, by omega, h⟩
    · rintro ⟨n, a, b, c⟩
      by_cases e : n = lo + k
      · subst e; exact .inr c
      · exact .inl ⟨n, a, by omega, c⟩

/-- What is listed: flows that begin so. -/
theorem putS_mem {rooms : Nat} {ws : List Wy} (hv : ValB rooms ws) : ∀ (d : Nat) (l fl : List Int), l.length + d = ws.length → (∀ (k : Nat) (y : Wy) (g : Int), ws[k]? = some y → l[k]? = some g → y.lo ≤ g ∧ g ≤ y.hi) →
    (fl ∈ putS ws d l ↔ Flow ws fl ∧ fl.take l.length = l)
  | 0, l, fl, hl, hr => by
    unfold putS
    by_cases hb : balS ws l = true
    · rw [if_pos hb, List.mem_singleton]
      constructor
      · rintro rfl
        exact ⟨⟨⟨by omega, hr⟩, (balS_iff hv).1 hb⟩, by rw [List.take_length]⟩
      · rintro ⟨hf, ht⟩
        rw [← ht, List.take_of_length_le (by have := hf.1.1; omega)]
    · rw [if_neg hb]
      constructor
      · intro h; cases h
      · rintro ⟨hf, ht⟩
        have e : fl = l := by rw [← ht, List.take_of_length_le (by have := hf.1.1; omega)]
        subst e
        exact absurd ((balS_iff hv).2 hf.2) hb
  | d + 1, l, fl, hl, hr => by
    unfold putS
    have hx : ws[l.length]? = some (ws[l.length]'(by omega)) := List.getElem?_eq_getElem (by omega)
    generalize ws[l.length]'(by omega) = x at hx
    rw [hx]
    dsimp only
    rw [putL_mem]
    have hlo := (hv.way x (mem_of_get hx)).2.2.2.1
    have hr' : ∀ n : Int, x.lo ≤ n → n ≤ x.hi → ∀ (k : Nat) (y : Wy) (g : Int), ws[k]? = some y → (l ++ [n])[k]? = some g → y.lo ≤ g ∧ g ≤ y.hi := by
      intro n h1 h2 k y g hy hg
      by_cases hk : k < l.length
      · rw [List.getElem?_append_left hk] at hg; exact hr k y g hy hg
      · rw [List.getElem?_append_right (by omega)] at hg
        have : k = l.length := by have := lt_of_get hg; simp at this; omega
        subst this
        rw [hx] at hy; cases hy
        simp at hg; subst hg; exact ⟨h1, h2⟩
    constructor
    · rintro ⟨n, h1, h2, h3⟩
      have h2' : n ≤ x.hi := by unfold wide at h2; omega
      obtain ⟨hf, ht⟩ := (putS_mem hv d (l ++ [n]) fl (by simp; omega) (hr' n h1 h2')).1 h3
      refine ⟨hf, ?_⟩
      have := congrArg (List.take l.length) ht
      rw [List.take_take, List.length_append, List.length_singleton, Nat.min_eq_left (by omega)] at this
      rw [this]; simp
    · rintro ⟨hf, ht⟩
      have hg : fl[l.length]? = some (fl[l.length]'(by have := hf.1.1; omega)) := List.getElem?_eq_getElem (by have := hf.1.1; omega)
      generalize fl[l.length]'(by have := hf.1.1; omega) = n at hg
      obtain ⟨h1, h2⟩ := hf.1.2 _ x n hx hg
      refine ⟨n, h1, by unfold wide; omega, (putS_mem hv d (l ++ [n]) fl (by simp; omega) (hr' n h1 h2)).2 ⟨hf, ?_⟩⟩
      rw [List.length_append, List.length_singleton, take_snoc hg, ht]

theorem flowsS_mem {rooms : Nat} {ws : List Wy} (hv : ValB rooms ws) (fl : List Int) : fl ∈ flowsS ws ↔ Flow ws fl := by
  unfold flowsS
  rw [putS_mem hv ws.length [] fl (by simp) (fun k y g _ h => by simp at h)]
  simp

/-- Listed in order: each list is smaller than those behind it. -/
def Asc (all : List (List Int)) : Prop := all.Pairwise lexL

theorem putS_asc {rooms : Nat} {ws : List Wy} (hv : ValB rooms ws) : ∀ (d : Nat) (l : List Int), l.length + d = ws.length → (∀ (k : Nat) (y : Wy) (g : Int), ws[k]? = some y → l[k]? = some g → y.lo ≤ g ∧ g ≤ y.hi) → Asc (putS ws d l)
  | 0, l, _, _ => by unfold putS Asc; split <;> simp
  | d + 1, l, hl, hr => by
    unfold putS
    have hx : ws[l.length]? = some (ws[l.length]'(by omega)) := List.getElem?_eq_getElem (by omega)
    generalize ws[l.length]'(by omega) = x at hx
    rw [hx]
    dsimp only
    have hlo := (hv.way x (mem_of_get hx)).2.2.2.1
    have hr' : ∀ n : Int, x.lo ≤ n → n ≤ x.hi → ∀ (k : Nat) (y : Wy) (g : Int), ws[k]? = some y → (l ++ [n])[k]? = some g → y.lo ≤ g ∧ g ≤ y.hi := by
      intro n h1 h2 k y g hy hg
      by_cases hk : k < l.length
      · rw [List.getElem?_append_left hk] at hg; exact hr k y g hy hg
      · rw [List.getElem?_append_right (by omega)] at hg
        have : k = l.length := by have := lt_of_get hg; simp at this; omega
        subst this
        rw [hx] at hy; cases hy
        simp at hg; subst hg; exact ⟨h1, h2⟩
    have key : ∀ k, k ≤ wide x → Asc (putL (fun n => putS ws d (l ++ [n])) x.lo k) := by
      intro k
      induction k with
      | zero => intro _; simp [putL, Asc]
      | succ k ih =>
        intro hk
        unfold wide at hk
        rw [putL]
        unfold Asc
        rw [List.pairwise_append]
        refine ⟨ih (by unfold wide; omega), putS_asc hv d _ (by simp; omega) (hr' _ (by omega) (by omega)), ?_⟩
        intro a ha b hb
        obtain ⟨n, h1, h2, h3⟩ := (putL_mem k).1 ha
        have e1 := ((putS_mem hv d _ a (by simp; omega) (hr' n h1 (by omega))).1 h3).2
        have e2 := ((putS_mem hv d _ b (by simp; omega) (hr' (x.lo + k) (by omega) (by omega))).1 hb).2
        rw [List.length_append, List.length_singleton] at e1 e2
        have g1 : a[l.length]? = some n := by
          have : (a.take (l.length + 1))[l.length]? = a[l.length]? := by rw [List.getElem?_take, if_pos (by omega)]
          rw [← this, e1]; simp
        have g2 : b[l.length]? = some (x.lo + k) := by
          have : (b.take (l.length + 1))[l.length]? = b[l.length]? := by rw [List.getElem?_take, if_pos (by omega)]
          rw [← this, e2]; simp
        refine ⟨l.length, n, x.lo + k, ?_, g1, g2, h2⟩
        have f1 := congrArg (List.take l.length) e1
        have f2 := congrArg (List.take l.length) e2
        rw [List.take_take, Nat.min_eq_left (by omega)] at f1 f2
        rw [f1, f2]; simp
    exact key _ (Nat.le_refl _)

theorem flowsS_asc {rooms : Nat} {ws : List Wy} (hv : ValB rooms ws) : Asc (flowsS ws) := putS_asc hv ws.length [] (by simp) (fun k y g _ h => by simp at h)

/-- The first one that is listed is the first flow. -/
theorem flowsS_head {rooms : Nat} {ws : List Wy} (hv : ValB rooms ws) (ha : Agr ws) : ∃ t, flowsS ws = firstS rooms ws :: t := by
  have hm := (flowsS_mem hv (firstS rooms ws)).2 (firstS_flow hv.inW hv.okW ha)
  have hasc := flowsS_asc hv
  cases hs : flowsS ws with
  | nil => rw [hs] at hm; cases hm
  | cons a t =>
    rw [hs] at hm hasc
    have hfa := (flowsS_mem hv a).1 (by rw [hs]; exact List.mem_cons_self ..)
    rcases List.mem_cons.1 hm with e | e
    · exact ⟨t, by rw [e]⟩
    · have h1 := (List.pairwise_cons.1 hasc).1 _ e
      rcases firstS_lex hv.inW hv.okW hfa with e' | e'
      · exact ⟨t, by rw [e']⟩
      · exact absurd h1 (fun h => lexL_asymm h e')
end Go.Proofs.YtcebihijnedekaaDoor
