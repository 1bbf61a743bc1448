/-
  The statements' fillings: plain mathematics. A function goes through fillings until it says no; a grid of squares.
-/
import Derived.Test.YtlollcabnfncpaaDoorLenA
namespace Go.Proofs.YtlollcabnfncpaaDoor

/-- A function with a state goes through a list until it says no. -/
def runF {σ : Type} (f : σ → List Cd → σ × Bool) : σ → List (List Cd) → σ × Bool
  | st, [] => (st, true)
  | st, l :: ls => if (f st l).2 = true then runF f (f st l).1 ls else ((f st l).1, false)
theorem runF_append {σ : Type} (f : σ → List Cd → σ × Bool) : ∀ (a b : List (List Cd)) (st : σ), runF f st (a ++ b) = if (runF f st a).2 = true then runF f (runF f st a).1 b else runF f st a
  | [], b, st => by simp [runF]
  | l :: a, b, st => by
    rw [List.cons_append, runF, runF]
    by_cases h : (f st l).2 = true
    · rw [if_pos h, if_pos h]; exact runF_append f a b _
    · rw [if_neg h, if_neg h]; simp
theorem runF_one {σ : Type} (f : σ → List Cd → σ × Bool) (st : σ) (l : List Cd) : runF f st [l] = f st l := by
  rw [runF]
  by_cases h : (f st l).2 = true
  · rw [if_pos h, runF, ← h]
  · rw [if_neg h, ← Bool.eq_false_iff.2 h]

/-- Whether a square of the grid of six by six is used. -/
def usB (s : Sh) (cov : Nat) (r c : Nat) : Bool := decide (c < s.c) && cov.testBit (r * s.c + c)
/-- Some squares of a grid are set. -/
def setG (U : Nat → Nat → Bool) (a b m n : Nat) (v : Bool) (r c : Nat) : Bool := if (a ≤ r ∧ r < a + m) ∧ b ≤ c ∧ c < b + n then v else U r c
theorem setG_zero (U : Nat → Nat → Bool) (a b n : Nat) (v : Bool) : setG U a b 0 n v = U := by
  funext r c
  unfold setG
  rw [if_neg (by omega)]
/-- One row more is set, up to a column. -/
def rowG (U : Nat → Nat → Bool) (a b n : Nat) (v : Bool) (r c : Nat) : Bool := if r = a ∧ b ≤ c ∧ c < b + n then v else U r c
theorem rowG_zero (U : Nat → Nat → Bool) (a b : Nat) (v : Bool) : rowG U a b 0 v = U := by
  funext r c
  unfold rowG
  rw [if_neg (by omega)]
theorem rowG_succ (U : Nat → Nat → Bool) (a b n : Nat) (v : Bool) : rowG U a b (n + 1) v = fun r c => if r = a ∧ c = b + n then v else rowG U a b n v r c := by
  funext r c
  unfold rowG
  by_cases h : r = a ∧ c = b + n
  · rw [if_pos h, if_pos (by omega)]
  · rw [if_neg h]
    by_cases h2 : r = a ∧ b ≤ c ∧ c < b + n
    · rw [if_pos h2, if_pos (by omega)]
    · rw [if_neg h2, if_neg (by omega)]
theorem setG_succ (U : Nat → Nat → Bool) (a b m n : Nat) (v : Bool) : setG U a b (m + 1) n v = rowG (setG U a b m n v) (a + m) b n v := by
  funext r c
  unfold rowG setG
  by_cases h : r = a + m ∧ b ≤ c ∧ c < b + n
  · rw [if_pos h, if_pos (by omega)]
  · rw [if_neg h]
    by_cases h2 : (a ≤ r ∧ r < a + m) ∧ b ≤ c ∧ c < b + n
    · rw [if_pos h2, if_pos (by omega)]
    · rw [if_neg h2, if_neg (by omega)]

theorem usB_zero (s : Sh) : usB s 0 = fun _ _ => false := by
  funext r c
  unfold usB
  rw [Nat.zero_testBit, Bool.and_false]

theorem sqN_inj {C a b a' b' : Nat} (hb : b < C) (hb' : b' < C) (h : a * C + b = a' * C + b') : a = a' ∧ b = b' := by
  have h1 : (a * C + b) / C = a := by rw [Nat.mul_comm, Nat.mul_add_div (by omega), Nat.div_eq_of_lt hb, Nat.add_zero]
  have h2 : (a' * C + b') / C = a' := by rw [Nat.mul_comm, Nat.mul_add_div (by omega), Nat.div_eq_of_lt hb', Nat.add_zero]
  have h3 : a = a' := by rw [← h1, h, h2]
  subst h3
  exact ⟨rfl, by omega⟩

/-- A card is laid. -/
theorem usB_set {s : Sh} {cov : Nat} {x : Cd} (h : fitP s x) (r c : Nat) : setG (usB s cov) x.row.toNat x.col.toNat (hiS s x.t) (wiS s x.t) true r c = usB s (cov ||| und s x) r c := by
  obtain ⟨h1, h2, h3, h4⟩ := h
  unfold setG usB
  rw [Nat.testBit_or]
  by_cases hc : c < s.c
  · by_cases hin : (x.row.toNat ≤ r ∧ r < x.row.toNat + hiS s x.t) ∧ x.col.toNat ≤ c ∧ c < x.col.toNat + wiS s x.t
    · rw [if_pos hin]
      have hb : (und s x).testBit (r * s.c + c) = true := (und_bit _).2 ⟨r - x.row.toNat, c - x.col.toNat, by omega, by omega, by
        rw [show x.row.toNat + (r - x.row.toNat) = r by omega, show x.col.toNat + (c - x.col.toNat) = c by omega]⟩
      rw [hb, decide_eq_true hc, Bool.or_true]; rfl
    · rw [if_neg hin]
      have hb : (und s x).testBit (r * s.c + c) = false := by
        rcases hq : (und s x).testBit (r * s.c + c) with _ | _
        · rfl
        · obtain ⟨p, q, hp, hq', e⟩ := (und_bit _).1 hq
          exfalso
          have hcq : x.col.toNat + q < s.c := by omega
          have e1 : r = x.row.toNat + p ∧ c = x.col.toNat + q := sqN_inj hc hcq e
          omega
      rw [hb, Bool.or_false]
  · rw [if_neg (by omega), decide_eq_false hc, Bool.false_and, Bool.false_and]

/-- A card is taken away again. -/
theorem usB_unset {s : Sh} {cov : Nat} {x : Cd} (h : fitP s x) (h0 : cov &&& und s x = 0) (r c : Nat) : setG (usB s (cov ||| und s x)) x.row.toNat x.col.toNat (hiS s x.t) (wiS s x.t) false r c = usB s cov r c := by
  have h' := h
  obtain ⟨h1, h2, h3, h4⟩ := h
  have hs := usB_set (cov := cov) h' r c
  unfold setG at hs ⊢
  by_cases hin : (x.row.toNat ≤ r ∧ r < x.row.toNat + hiS s x.t) ∧ x.col.toNat ≤ c ∧ c < x.col.toNat + wiS s x.t
  · rw [if_pos hin]
    have hb : (und s x).testBit (r * s.c + c) = true := (und_bit _).2 ⟨r - x.row.toNat, c - x.col.toNat, by omega, by omega, by
      rw [show x.row.toNat + (r - x.row.toNat) = r by omega, show x.col.toNat + (c - x.col.toNat) = c by omega]⟩
    have := congrArg (fun n => Nat.testBit n (r * s.c + c)) h0
    simp only [Nat.testBit_and, Nat.zero_testBit, hb, Bool.and_true] at this
    unfold usB
    rw [this, Bool.and_false]
  · rw [if_neg hin] at hs ⊢
    exact hs.symm
/-- A card is free just if no square under it is used. -/
theorem free_us {s : Sh} {cov : Nat} {x : Cd} (h : fitP s x) : cov &&& und s x = 0 ↔ ∀ p, p < hiS s x.t → ∀ q, q < wiS s x.t → usB s cov (x.row.toNat + p) (x.col.toNat + q) = false := by
  obtain ⟨h1, h2, h3, h4⟩ := h
  constructor
  · intro h0 p hp q hq
    have hb : (und s x).testBit ((x.row.toNat + p) * s.c + (x.col.toNat + q)) = true := (und_bit _).2 ⟨p, q, hp, hq, rfl⟩
    have := congrArg (fun n => Nat.testBit n ((x.row.toNat + p) * s.c + (x.col.toNat + q))) h0
    simp only [Nat.testBit_and, Nat.zero_testBit, hb, Bool.and_true] at this
    unfold usB
    rw [this, Bool.and_false]
  · intro h0
    refine Nat.eq_of_testBit_eq fun i => ?_
    rw [Nat.testBit_and, Nat.zero_testBit]
    rcases hb : (und s x).testBit i with _ | _
    · rw [Bool.and_false]
    · obtain ⟨p, q, hp, hq, rfl⟩ := (und_bit i).1 hb
      have := h0 p hp q hq
      unfold usB at this
      rw [decide_eq_true (by omega), Bool.true_and] at this
      rw [this]; rfl
end Go.Proofs.YtlollcabnfncpaaDoor
