/-
  The reference's squares as bits; fillings in two parts; how many there can be.
-/
import Derived.Test.YtlollcabnfncpaaDoorRefC
import Derived.Test.YtlollcabnfncpaaDoorLenA
namespace Go.Proofs.YtlollcabnfncpaaDoor
open Go.RowKit

/-- The squares under cards. -/
def covL (s : Sh) (l : List Cd) : Nat := l.foldl (fun a x => a ||| und s x) 0
theorem covL_snoc (s : Sh) (l : List Cd) (x : Cd) : covL s (l ++ [x]) = covL s l ||| und s x := by simp [covL]
theorem covL_bits (s : Sh) : ∀ (l : List Cd) (a i : Nat), (l.foldl (fun a x => a ||| und s x) a).testBit i = (a.testBit i || l.any fun x => (und s x).testBit i)
  | [], a, i => by simp
  | x :: l, a, i => by rw [List.foldl_cons, covL_bits s l, Nat.testBit_or, List.any_cons, Bool.or_assoc]
theorem covL_ins (s : Sh) : ∀ (l : List Cd) (a : Nat), InS s a → (∀ x ∈ l, fitP s x) → InS s (l.foldl (fun a x => a ||| und s x) a)
  | [], _, h, _ => h
  | x :: l, _, h, hf => covL_ins s l _ (h.or (hf x (List.mem_cons_self ..))) fun y hy => hf y (List.mem_cons_of_mem _ hy)
theorem covL_in {s : Sh} {l : List Cd} (hf : ∀ x ∈ l, fitP s x) : InS s (covL s l) := covL_ins s l 0 (InS.zero s) hf

theorem sq_inj {C a b a' b' : Nat} (hb : b < C) (hb' : b' < C) (h : a * C + b = a' * C + b') : a = a' ∧ b = b' := by
  have h1 : (a * C + b) / C = a := by rw [Nat.mul_comm, Nat.mul_add_div (by omega), Nat.div_eq_of_lt hb, Nat.add_zero]
  have h2 : (a' * C + b') / C = a' := by rw [Nat.mul_comm, Nat.mul_add_div (by omega), Nat.div_eq_of_lt hb', Nat.add_zero]
  have h3 : a = a' := by rw [← h1, h, h2]
  subst h3
  exact ⟨rfl, by omega⟩

theorem covB_bit {s : Sh} {x : Cd} (h : fitP s x) {row col : Nat} (hc : col < s.c) : covB s x row col = (und s x).testBit (row * s.c + col) := by
  obtain ⟨h1, h2, h3, h4⟩ := h
  rw [Bool.eq_iff_iff, und_bit]
  unfold covB
  rw [Bool.and_eq_true, decide_eq_true_eq, decide_eq_true_eq]
  constructor
  · rintro ⟨⟨a1, a2⟩, a3, a4⟩
    refine ⟨row - x.row.toNat, col - x.col.toNat, by omega, by omega, ?_⟩
    rw [show x.row.toNat + (row - x.row.toNat) = row by omega, show x.col.toNat + (col - x.col.toNat) = col by omega]
  · rintro ⟨a, b, ha, hb, e⟩
    obtain ⟨e1, e2⟩ := sq_inj hc (by omega) e
    exact ⟨⟨by omega, by omega⟩, by omega, by omega⟩

theorem any_cong {α : Type} {f g : α → Bool} : ∀ {l : List α}, (∀ x ∈ l, f x = g x) → l.any f = l.any g
  | [], _ => rfl
  | x :: l, h => by rw [List.any_cons, List.any_cons, h x (List.mem_cons_self ..), any_cong fun y hy => h y (List.mem_cons_of_mem _ hy)]

theorem covA_bit {s : Sh} {l : List Cd} (h : ∀ x ∈ l, fitP s x) {row col : Nat} (hc : col < s.c) : covA s l row col = (covL s l).testBit (row * s.c + col) := by
  unfold covA covL
  rw [covL_bits, Nat.zero_testBit, Bool.false_or]
  exact any_cong fun x hx => covB_bit (h x hx) hc

theorem fit_free {s : Sh} {l : List Cd} (h : ∀ x ∈ l, fitP s x) {x : Cd} (h1 : 0 ≤ x.row) (h2 : 0 ≤ x.col) : FitR s l x ↔ freeP s (covL s l) x := by
  unfold FitR freeP
  constructor
  · rintro ⟨a1, a2, a3⟩
    have hf : fitP s x := ⟨h1, by omega, h2, by omega⟩
    refine ⟨hf, Nat.eq_of_testBit_eq fun i => ?_⟩
    rw [Nat.testBit_and, Nat.zero_testBit]
    rcases hb : (und s x).testBit i with _ | _
    · rw [Bool.and_false]
    · obtain ⟨p, q, hp, hq, rfl⟩ := (und_bit i).1 hb
      have := a3 p hp q hq
      rw [show x.row + (p : Int) = ((x.row.toNat + p : Nat) : Int) by omega, show x.col + (q : Int) = ((x.col.toNat + q : Nat) : Int) by omega, covA_bit h (by omega)] at this
      rw [this]; rfl
  · rintro ⟨hf, h0⟩
    obtain ⟨b1, b2, b3, b4⟩ := hf
    refine ⟨by omega, by omega, fun p hp q hq => ?_⟩
    rw [show x.row + (p : Int) = ((x.row.toNat + p : Nat) : Int) by omega, show x.col + (q : Int) = ((x.col.toNat + q : Nat) : Int) by omega, covA_bit h (by omega)]
    have hb := (und_bit (s := s) (x := x) ((x.row.toNat + p) * s.c + (x.col.toNat + q))).2 ⟨p, q, hp, hq, rfl⟩
    have := congrArg (fun n => Nat.testBit n ((x.row.toNat + p) * s.c + (x.col.toNat + q))) h0
    simp only [Nat.testBit_and, Nat.zero_testBit, hb, Bool.and_true] at this
    exact this
end Go.Proofs.YtlollcabnfncpaaDoor
