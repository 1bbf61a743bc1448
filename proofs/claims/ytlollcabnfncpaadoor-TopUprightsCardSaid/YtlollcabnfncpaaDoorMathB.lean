/-
  The first free square, and what is left of a sheet.
-/
import Derived.Test.YtlollcabnfncpaaDoorMathA
import Derived.Lib.TrailingZeros
namespace Go.Proofs.YtlollcabnfncpaaDoor

theorem ctz_from : ∀ (f cov : Nat), cov < 2 ^ f - 1 → Lib.ctzFrom f (2 ^ f - 1 - cov) = ctzU f cov
  | 0, cov, h => by simp at h
  | f + 1, cov, h => by
    have e2 : 2 ^ (f + 1) = 2 * 2 ^ f := by rw [Nat.pow_succ]; omega
    rw [Lib.ctzFrom, ctzU]
    by_cases ho : cov % 2 = 1
    · have h1 : (2 ^ (f + 1) - 1 - cov) % 2 ≠ 1 := by omega
      have h2 : (2 ^ (f + 1) - 1 - cov) / 2 = 2 ^ f - 1 - cov / 2 := by omega
      rw [if_neg h1, if_pos ho, h2, ctz_from f (cov / 2) (by omega)]
    · have h1 : (2 ^ (f + 1) - 1 - cov) % 2 = 1 := by omega
      rw [if_pos h1, if_neg ho]

theorem ctz_cov {cov : Nat} (h : cov < 68719476736) : Lib.ctz 64 (18446744073709551615 - cov) = ctzU 64 cov := by
  have h0 : 18446744073709551615 - cov ≠ 0 := by omega
  have := ctz_from 64 cov (by omega)
  rw [show 2 ^ 64 - 1 = 18446744073709551615 from rfl] at this
  rw [Lib.ctz, if_neg h0, this]

/-- The first square that is not covered is not covered. -/
theorem ctzU_bit : ∀ (f cov : Nat), cov < 2 ^ f → cov.testBit (ctzU f cov) = false
  | 0, cov, h => by
    have : cov = 0 := by simpa using h
    subst this; simp [ctzU]
  | f + 1, cov, h => by
    have e2 : 2 ^ (f + 1) = 2 * 2 ^ f := by rw [Nat.pow_succ]; omega
    rw [ctzU]
    split
    · rw [Nat.add_comm, Nat.testBit_succ]
      exact ctzU_bit f (cov / 2) (by omega)
    · rw [Nat.testBit_zero]; simpa using (by omega : cov % 2 = 0)
theorem ctzU_below : ∀ (f cov i : Nat), i < ctzU f cov → cov.testBit i = true
  | 0, cov, i, h => by simp [ctzU] at h
  | f + 1, cov, i, h => by
    rw [ctzU] at h
    split at h
    · rename_i ho
      match i with
      | 0 => rw [Nat.testBit_zero]; simpa using ho
      | i + 1 => rw [Nat.testBit_succ]; exact ctzU_below f (cov / 2) i (by omega)
    · omega

theorem whl_bit (s : Sh) (i : Nat) : (whl s).testBit i = decide (i < s.r * s.c) := by
  unfold whl
  rw [Nat.testBit_two_pow_sub_one]

/-- Squares within the sheet alone are covered. -/
def InS (s : Sh) (cov : Nat) : Prop := cov < 2 ^ (s.r * s.c)

theorem bit_lt {n i k : Nat} (h : n < 2 ^ k) (hb : n.testBit i = true) : i < k := by
  refine Nat.lt_of_not_le fun hk => ?_
  rw [Nat.testBit_lt_two_pow (Nat.lt_of_lt_of_le h (Nat.pow_le_pow_right (by decide) hk))] at hb
  cases hb

theorem InS.whole {s : Sh} {cov : Nat} (h : InS s cov) (hb : ∀ i, i < s.r * s.c → cov.testBit i = true) : cov = whl s := by
  refine Nat.eq_of_testBit_eq fun i => ?_
  rw [whl_bit]
  by_cases hi : i < s.r * s.c
  · rw [hb i hi, decide_eq_true hi]
  · rw [decide_eq_false hi]
    rcases hc : cov.testBit i with _ | _
    · rfl
    · exact absurd (bit_lt h hc) hi
theorem InS.of_whl {s : Sh} : InS s (whl s) := by
  have := Nat.two_pow_pos (s.r * s.c)
  unfold InS whl; omega
theorem InS.zero (s : Sh) : InS s 0 := Nat.two_pow_pos _
theorem InS.or {s : Sh} {cov : Nat} (h : InS s cov) {x : Cd} (hx : fitP s x) : InS s (cov ||| und s x) := Nat.or_lt_two_pow h (und_lt hx)
theorem InS.lt36 {s : Sh} (hs : s.Ok) {cov : Nat} (h : InS s cov) : cov < 68719476736 := Nat.lt_of_lt_of_le h (two36 (area_le hs).2)

/-- While squares are free, the first free one lies within the sheet. -/
theorem InS.first_lt {s : Sh} {cov : Nat} (h : InS s cov) (hne : cov ≠ whl s) : ctzU 64 cov < s.r * s.c := by
  refine Nat.lt_of_not_le fun hle => hne (h.whole fun i hi => ctzU_below 64 cov i (by omega))

/-- How many squares are free. -/
def lft (s : Sh) (cov : Nat) : Nat := (List.range (s.r * s.c)).countP fun i => !cov.testBit i

theorem lft_le {s : Sh} (hs : s.Ok) (cov : Nat) : lft s cov ≤ 36 := by
  have h := List.countP_le_length (p := fun i => !cov.testBit i) (l := List.range (s.r * s.c))
  have := (area_le hs).2
  rw [List.length_range] at h
  unfold lft; omega

theorem countP_lt {α : Type} {p q : α → Bool} : ∀ {l : List α} {x : α}, (∀ a ∈ l, q a = true → p a = true) → x ∈ l → p x = true → q x = false → l.countP q < l.countP p
  | y :: l, x, h, hx, hp, hq => by
    rw [List.countP_cons, List.countP_cons]
    have hle : l.countP q ≤ l.countP p := List.countP_mono_left fun a ha => h a (List.mem_cons_of_mem _ ha)
    rcases List.mem_cons.1 hx with e | hx
    · subst e
      rw [hp, hq]; simp; omega
    · have := countP_lt (fun a ha => h a (List.mem_cons_of_mem _ ha)) hx hp hq
      have hy := h y (List.mem_cons_self ..)
      cases hqy : q y
      · simp; split <;> omega
      · simp [hy hqy]; omega

theorem mem_tryL {s : Sh} {cov : Nat} {x : Cd} (h : x ∈ tryL s cov) : x.row = (ctzU 64 cov / s.c : Nat) ∧ x.col = (ctzU 64 cov % s.c : Nat) := by
  unfold tryL at h
  dsimp only at h
  split at h
  · simp at h; subst h; exact ⟨rfl, rfl⟩
  · simp at h; rcases h with h | h <;> subst h <;> exact ⟨rfl, rfl⟩
theorem mem_nxt {s : Sh} {cov : Nat} {x : Cd} (h : x ∈ nxt s cov) : x ∈ tryL s cov ∧ fitP s x ∧ cov &&& und s x = 0 := by
  unfold nxt at h
  rw [List.mem_filter, decide_eq_true_eq] at h
  exact ⟨h.1, h.2.1, h.2.2⟩

/-- A card that is laid next covers the first free square. -/
theorem nxt_bit {s : Sh} (hs : s.Ok) {cov : Nat} {x : Cd} (h : x ∈ nxt s cov) : (und s x).testBit (ctzU 64 cov) = true := by
  obtain ⟨h1, _, _⟩ := mem_nxt h
  obtain ⟨e1, e2⟩ := mem_tryL h1
  rw [und_bit]
  have hh := hiS_le hs x.t
  have hw := wiS_le hs x.t
  refine ⟨0, 0, by omega, by omega, ?_⟩
  rw [e1, e2, Int.toNat_natCast, Int.toNat_natCast, Nat.add_zero, Nat.add_zero, Nat.mul_comm]
  exact (Nat.div_add_mod _ _).symm

theorem lft_nxt {s : Sh} (hs : s.Ok) {cov : Nat} {x : Cd} (h : x ∈ nxt s cov) : lft s (cov ||| und s x) < lft s cov := by
  have hb := nxt_bit hs h
  obtain ⟨_, hf, h0⟩ := mem_nxt h
  have hlt := bit_lt (und_lt hf) hb
  have hc : cov.testBit (ctzU 64 cov) = false := by
    have := congrArg (fun n => Nat.testBit n (ctzU 64 cov)) h0
    simp only [Nat.testBit_and, Nat.zero_testBit, hb, Bool.and_true] at this
    exact this
  refine countP_lt (x := ctzU 64 cov) (fun a _ h => ?_) (List.mem_range.2 hlt) (by simp [hc]) (by simp [Nat.testBit_or, hb])
  simp only [Nat.testBit_or, Bool.not_or, Bool.and_eq_true] at h
  exact h.1

theorem flatMap_cong {α β : Type} {f g : α → List β} : ∀ {l : List α}, (∀ x ∈ l, f x = g x) → l.flatMap f = l.flatMap g
  | [], _ => rfl
  | x :: l, h => by rw [List.flatMap_cons, List.flatMap_cons, h x (List.mem_cons_self ..), flatMap_cong fun y hy => h y (List.mem_cons_of_mem _ hy)]

theorem cnt_fuel {s : Sh} (hs : s.Ok) : ∀ (n m cov : Nat), lft s cov < n → lft s cov < m → cnt s n cov = cnt s m cov
  | 0, _, _, h, _ => absurd h (Nat.not_lt_zero _)
  | _ + 1, 0, _, _, h => absurd h (Nat.not_lt_zero _)
  | n + 1, m + 1, cov, h1, h2 => by
    rw [cnt, cnt]
    split
    · rfl
    · congr 1
      refine List.map_congr_left fun x hx => ?_
      have := lft_nxt hs hx
      exact cnt_fuel hs n m _ (by omega) (by omega)
theorem fils_fuel {s : Sh} (hs : s.Ok) : ∀ (n m cov : Nat) (pre : List Cd), lft s cov < n → lft s cov < m → fils s n cov pre = fils s m cov pre
  | 0, _, _, _, h, _ => absurd h (Nat.not_lt_zero _)
  | _ + 1, 0, _, _, _, h => absurd h (Nat.not_lt_zero _)
  | n + 1, m + 1, cov, pre, h1, h2 => by
    rw [fils, fils]
    split
    · rfl
    · refine flatMap_cong fun x hx => ?_
      have := lft_nxt hs hx
      exact fils_fuel hs n m _ _ (by omega) (by omega)

/-- The number of fillings that go on, and the fillings, with as many steps as there are squares. -/
def cntC (s : Sh) (cov : Nat) : Nat := cnt s 37 cov
def filC (s : Sh) (cov : Nat) (pre : List Cd) : List (List Cd) := fils s 37 cov pre

theorem cntC_eq {s : Sh} (hs : s.Ok) (cov : Nat) : cntC s cov = if cov = whl s then 1 else ((nxt s cov).map fun x => cntC s (cov ||| und s x)).sum := by
  show cnt s (36 + 1) cov = _
  rw [cnt]
  split
  · rfl
  · refine congrArg List.sum (List.map_congr_left fun x hx => ?_)
    have := lft_nxt hs hx
    have := lft_le hs cov
    exact cnt_fuel hs 36 37 _ (by omega) (by omega)
theorem filC_eq {s : Sh} (hs : s.Ok) (cov : Nat) (pre : List Cd) : filC s cov pre = if cov = whl s then [pre] else (nxt s cov).flatMap fun x => filC s (cov ||| und s x) (pre ++ [x]) := by
  show fils s (36 + 1) cov pre = _
  rw [fils]
  split
  · rfl
  · refine flatMap_cong fun x hx => ?_
    have := lft_nxt hs hx
    have := lft_le hs cov
    exact fils_fuel hs 36 37 _ _ (by omega) (by omega)
theorem cntC_len (s : Sh) (cov : Nat) (pre : List Cd) : (filC s cov pre).length = cntC s cov := cnt_fils s 37 cov pre

theorem nxt_len (s : Sh) (cov : Nat) : (nxt s cov).length ≤ 2 := by
  refine Nat.le_trans (List.length_filter_le _ _) ?_
  unfold tryL
  dsimp only
  split <;> simp

theorem cnt_le {s : Sh} : ∀ (n cov : Nat), cnt s n cov ≤ 2 ^ n
  | 0, _ => by simp [cnt]
  | n + 1, cov => by
    rw [cnt]
    split
    · exact Nat.two_pow_pos _
    · have h2 := nxt_len s cov
      have hx : ∀ x : Cd, cnt s n (cov ||| und s x) ≤ 2 ^ n := fun x => cnt_le n _
      have e2 : 2 ^ (n + 1) = 2 ^ n + 2 ^ n := by rw [Nat.pow_succ]; omega
      match h : nxt s cov, h2 with
      | [], _ => simp
      | [x], _ => simp; have := hx x; omega
      | [x, y], _ => simp; have := hx x; have := hx y; omega
theorem cntC_le (s : Sh) (cov : Nat) : cntC s cov ≤ 137438953472 := cnt_le 37 cov
end Go.Proofs.YtlollcabnfncpaaDoor
