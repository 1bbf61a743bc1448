/-
  The reference's squares as bits; fillings in two parts; how many there can be.
-/
import Derived.Test.YtlollcabnfncpaaDoorRefC
namespace Go.Proofs.YtlollcabnfncpaaDoor
open Go.RowKit

/-- The squares under cards. -/
def covL (s : Sh) (l : List Cd) : Nat := l.foldl (fun a x => a ||| und s x) 0
theorem covL_snoc (s : Sh) (l : List Cd) (x : Cd) : covL s (l ++ [x]) = covL s l ||| und s x := by simp [covL]
theorem covL_bits (s : Sh) : ∀ (l : List Cd) (a i : Nat), (l.foldl (fun a x => a ||| und s x) a).testBit i = (a.testBit i || l.any fun x => (und s x).testBit i)
  | [], a, i => by simp
  | x :: l, a, i => by rw [List.foldl_cons, covL_bits s l, Nat.testBit_or, List.any_cons, Bool.or_assoc]
theorem covL_ins (s : Sh) : ∀ (l : List Cd) (a : Nat), InS s a → (∀ x ∈ l, fitP s x) → InS s (l.foldl (fun a x => a ||| und s x) a)
  | [], _, h, _ => h
  | x :: l, _, h, hf => covL_ins s l _ (h.or (hf x (List.mem_cons_self ..))) fun y hy => hf y (List.mem_cons_of_mem _ hy)
theorem covL_in {s : Sh} {l : List Cd} (hf : ∀ x ∈ l, fitP s x) : InS s (covL s l) := covL_ins s l 0 (InS.zero s) hf

theorem sq_inj {C a b a' b' : Nat} (hb : b < C) (hb' : b' < C) (h : a * C + b = a' * C + b') : a = a' ∧ b = b' := by
  have h1 : (a * C + b) / C = a := by rw [Nat.mul_comm, Nat.mul_add_div (by omega), Nat.div_eq_of_lt hb, Nat.add_zero]
  have h2 : (a' * C + b') / C = a' := by rw [Nat.mul_comm, Nat.mul_add_div (by omega), Nat.div_eq_of_lt hb', Nat.add_zero]
  have h3 : a = a' := by rw [← h1, h, h2]
  subst h3
  exact ⟨rfl, by omega⟩

theorem covB_bit {s : Sh} {x : Cd} (h : fitP s x) {row col : Nat} (hc : col < s.c) : covB s x row col = (und s x).testBit (row * s.c + col) := by
  obtain ⟨h1, h2, h3, h4⟩ := h
  rw [Bool.eq_iff_iff, und_bit]
  unfold covB
  rw [Bool.and_eq_true, decide_eq_true_eq, decide_eq_true_eq]
  constructor
  · rintro ⟨⟨a1, a2⟩, a3, a4⟩
    refine ⟨row - x.row.toNat, col - x.col.toNat, by omega, by omega, ?_⟩
    rw [show x.row.toNat + (row - x.row.toNat) = row by omega, show x.col.toNat + (col - x.col.toNat) = col by omega]
  · rintro ⟨a, b, ha, hb, e⟩
    obtain ⟨e1, e2⟩ := sq_inj hc (by omega) e
    exact ⟨⟨by omega, by omega⟩, by omega, by omega⟩

theorem any_cong {α : Type} {f g : α → Bool} : ∀ {l : List α}, (∀ x ∈ l, f x = g x) → l.any f = l.any g
  | [], _ => rfl
  | x :: l, h => by rw [List.any_cons, List.any_cons, h x (List.mem_cons_self ..), any_cong fun y hy => h y (List.mem_cons_of_mem _ hy)]

theorem covA_bit {s : Sh} {l : List Cd} (h : ∀ x ∈ l, fitP s x) {row col : Nat} (hc : col < s.c) : covA s l row col = (covL s l).testBit (row * s.c + col) := by
  unfold covA covL
  rw [covL_bits, Nat.zero_testBit, Bool.false_or]
  exact any_cong fun x hx => covB_bit (h x hx) hc

theorem fit_free {s : Sh} {l : List Cd} (h : ∀ x ∈ l, fitP s x) {x : Cd} (h1 : 0 ≤ x.row) (h2 : 0 ≤ x.col) : FitR s l x ↔ freeP s (covL s l) x := by
  unfold FitR freeP
  constructor
  · rintro ⟨a1, a2, a3⟩
    have hf : fitP s x := ⟨h1, by omega, h2, by omega⟩
    refine ⟨hf, Nat.eq_of_testBit_eq fun i => ?_⟩
    rw [Nat.testBit_and, Nat.zero_testBit]
    rcases hb : (und s x).testBit i with _ | _
    · rw [Bool.and_false]
    · obtain ⟨p, q, hp, hq, rfl⟩ := (und_bit i).1 hb
      have := a3 p hp q hq
      rw [show x.row + (p : Int) = ((x.row.toNat + p : Nat) : Int) by omega, show x.col + (q : Int) = ((x.col.toNat + q : Nat) : Int) by omega, covA_bit h (by omega)] at this
      rw [this]; rfl
  · rintro ⟨hf, h0⟩
    obtain ⟨b1, b2, b3, b4⟩ := hf
    refine ⟨by omega, by omega, fun p hp q hq => ?_⟩
    rw [show x.row + (p : Int) = ((x.row.toNat + p : Nat) : Int) by omega, show x.col + (q : Int) = ((x.col.toNat + q : Nat) : Int) by omega, covA_bit h (by omega)]
    have hb := (und_bit (s := s) (x := x) ((x.row.toNat + p) * s.c + (x.col.toNat + q))).2 ⟨p, q, hp, hq, rfl⟩
    have := congrArg (fun n => Nat.testBit n ((x.row.toNat + p) * s.c + (x.col.toNat + q))) h0
    simp only [Nat.testBit_and, Nat.zero_testBit, hb, Bool.and_true] at this
    exact this

/-- A card on the first square that is not covered. -/
def crd (s : Sh) (cov : Nat) (t : Bool) : Cd := ⟨(ctzU 64 cov / s.c : Nat), (ctzU 64 cov % s.c : Nat), t⟩
/-- The fillings that go on with an upright card, or with a turned one. -/
def prt (s : Sh) (cov : Nat) (l : List Cd) (t : Bool) : List (List Cd) :=
  if (t = true ∧ s.l = s.w) ∨ ¬ freeP s cov (crd s cov t) then [] else filC s (cov ||| und s (crd s cov t)) (l ++ [crd s cov t])
theorem filC_prt {s : Sh} (hs : s.Ok) (cov : Nat) (l : List Cd) (h : cov ≠ whl s) : filC s cov l = prt s cov l false ++ prt s cov l true := by
  rw [filC_eq hs, if_neg h]
  have hT : tryL s cov = if s.l = s.w then [crd s cov false] else [crd s cov false, crd s cov true] := rfl
  unfold nxt prt
  rw [hT]
  generalize crd s cov false = x
  generalize crd s cov true = y
  by_cases e : s.l = s.w
  · by_cases a : freeP s cov x
    · simp [e, a]
    · simp [e, a]
  · by_cases a : freeP s cov x
    · by_cases b : freeP s cov y
      · simp [e, a, b]
      · simp [e, a, b]
    · by_cases b : freeP s cov y
      · simp [e, a, b]
      · simp [e, a, b]
theorem crd_nxt {s : Sh} {cov : Nat} {t : Bool} (h : ¬ (t = true ∧ s.l = s.w)) (hf : freeP s cov (crd s cov t)) : crd s cov t ∈ nxt s cov := by
  unfold nxt
  rw [List.mem_filter]
  refine ⟨?_, decide_eq_true hf⟩
  unfold tryL crd
  dsimp only
  rcases t with _ | _
  · split <;> simp
  · rw [if_neg (fun e => h ⟨rfl, e⟩)]; simp

theorem lft_two {s : Sh} (hs : s.Ok) (h2 : ¬ (s.l = 1 ∧ s.w = 1)) {cov : Nat} {x : Cd} (h : x ∈ nxt s cov) : lft s (cov ||| und s x) + 2 ≤ lft s cov := by
  have hb := nxt_bit hs h
  obtain ⟨hm, hf, h0⟩ := mem_nxt h
  obtain ⟨e1, e2⟩ := mem_tryL hm
  have hlt := bit_lt (und_lt hf) hb
  have hz : ∀ i, (und s x).testBit i = true → cov.testBit i = false := fun i hi => by
    have := congrArg (fun n => Nat.testBit n i) h0
    simp only [Nat.testBit_and, Nat.zero_testBit, hi, Bool.and_true] at this
    exact this
  have hh := hiS_le hs x.t
  have hw := wiS_le hs x.t
  have hc1 := hs.c1
  obtain ⟨q, hq, hqp⟩ : ∃ q, (und s x).testBit q = true ∧ q ≠ ctzU 64 cov := by
    have hp : ctzU 64 cov = x.row.toNat * s.c + x.col.toNat := by
      rw [e1, e2, Int.toNat_natCast, Int.toNat_natCast, Nat.mul_comm]
      exact (Nat.div_add_mod _ _).symm
    have hhw : 2 ≤ hiS s x.t ∨ 2 ≤ wiS s x.t := by
      have h3 := hs.l1
      have h4 := hs.w1
      unfold hiS wiS
      cases x.t <;> simp <;> omega
    rcases hhw with h3 | h3
    · refine ⟨_, (und_bit _).2 ⟨1, 0, by omega, by omega, rfl⟩, ?_⟩
      rw [hp, Nat.add_mul]; omega
    · refine ⟨_, (und_bit _).2 ⟨0, 1, by omega, by omega, rfl⟩, ?_⟩
      rw [hp]; simp
  have hql := bit_lt (und_lt hf) hq
  have s1 : lft s (cov ||| 2 ^ ctzU 64 cov) < lft s cov := by
    refine countP_lt (x := ctzU 64 cov) (fun a _ h => ?_) (List.mem_range.2 hlt) (by simp [hz _ hb]) (by simp [Nat.testBit_or, Nat.testBit_two_pow_self])
    simp only [Nat.testBit_or, Bool.not_or, Bool.and_eq_true] at h
    exact h.1
  have s2 : lft s (cov ||| und s x) < lft s (cov ||| 2 ^ ctzU 64 cov) := by
    refine countP_lt (x := q) (fun a _ h => ?_) (List.mem_range.2 hql) (by simp [Nat.testBit_or, hz _ hq, Ne.symm hqp]) (by simp [Nat.testBit_or, hq])
    simp only [Nat.testBit_or, Bool.not_or, Bool.and_eq_true] at h
    simp only [Nat.testBit_or, Bool.not_or, Bool.and_eq_true]
    refine ⟨h.1, ?_⟩
    rw [Nat.testBit_two_pow]
    by_cases e : ctzU 64 cov = a
    · subst e; simp [hb] at h
    · simp [e]
  omega

theorem sum_two {α : Type} {f : α → Nat} {M : Nat} : ∀ {l : List α}, l.length ≤ 2 → (∀ x ∈ l, f x ≤ M) → (l.map f).sum ≤ 2 * M
  | [], _, _ => by simp
  | [x], _, h => by have := h x (by simp); simp; omega
  | [x, y], _, h => by have := h x (by simp); have := h y (by simp); simp; omega
  | _ :: _ :: _ :: _, h, _ => by simp at h
theorem cnt_half {s : Sh} (hs : s.Ok) (h2 : ¬ (s.l = 1 ∧ s.w = 1)) : ∀ (n cov : Nat), cnt s n cov ≤ 2 ^ (lft s cov / 2)
  | 0, _ => by simp [cnt]
  | n + 1, cov => by
    rw [cnt]
    split
    · exact Nat.one_le_two_pow
    · rcases hn : nxt s cov with _ | ⟨y, l⟩
      · simp
      · have hy := lft_two hs h2 (x := y) (by rw [hn]; simp)
        obtain ⟨k, hk⟩ : ∃ k, lft s cov / 2 = k + 1 := ⟨lft s cov / 2 - 1, by omega⟩
        rw [← hn, hk, Nat.pow_succ, Nat.mul_comm]
        refine sum_two (nxt_len s cov) fun x hx => ?_
        have := lft_two hs h2 hx
        exact Nat.le_trans (cnt_half hs h2 n _) (Nat.pow_le_pow_right (by decide) (by omega))
theorem sum_one {α : Type} {f : α → Nat} {M : Nat} : ∀ {l : List α}, l.length ≤ 1 → (∀ x ∈ l, f x ≤ M) → (l.map f).sum ≤ M
  | [], _, _ => by simp
  | [x], _, h => by have := h x (by simp); simp; omega
  | _ :: _ :: _, h, _ => by simp at h
theorem cnt_one {s : Sh} (h : s.l = s.w) : ∀ (n cov : Nat), cnt s n cov ≤ 1
  | 0, _ => by simp [cnt]
  | n + 1, cov => by
    rw [cnt]
    split
    · exact Nat.le_refl _
    · refine sum_one ?_ fun x _ => cnt_one h n _
      unfold nxt
      refine Nat.le_trans (List.length_filter_le ..) ?_
      unfold tryL
      dsimp only
      rw [if_pos h]
      exact Nat.le_refl _
theorem cntC_small {s : Sh} (hs : s.Ok) (cov : Nat) : cntC s cov ≤ 262144 := by
  by_cases h : s.l = 1 ∧ s.w = 1
  · exact Nat.le_trans (cnt_one (by rw [h.1, h.2]) 37 cov) (by decide)
  · refine Nat.le_trans (cnt_half hs h 37 cov) ?_
    have := lft_le hs cov
    exact Nat.le_trans (Nat.pow_le_pow_right (by decide) (show lft s cov / 2 ≤ 18 by omega)) (by decide)
theorem filC_small {s : Sh} (hs : s.Ok) (cov : Nat) (l : List Cd) : (filC s cov l).length ≤ 262144 := by rw [cntC_len]; exact cntC_small hs cov
end Go.Proofs.YtlollcabnfncpaaDoor
