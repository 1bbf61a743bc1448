/-
  A filling has no more cards than the sheet has squares.
-/
import Derived.Test.YtlollcabnfncpaaDoorMathB
namespace Go.Proofs.YtlollcabnfncpaaDoor

theorem fils_len {s : Sh} (hs : s.Ok) : ∀ (n cov : Nat) (pre l : List Cd), l ∈ fils s n cov pre → l.length ≤ pre.length + lft s cov
  | 0, _, _, _, h => by simp [fils] at h
  | n + 1, cov, pre, l, h => by
    rw [fils] at h
    split at h
    · simp at h; subst h; omega
    · obtain ⟨x, hx, hl⟩ := List.mem_flatMap.1 h
      have h1 := fils_len hs n _ _ l hl
      have h2 := lft_nxt hs hx
      rw [List.length_append, List.length_singleton] at h1
      omega
theorem filC_len {s : Sh} (hs : s.Ok) {l : List Cd} (h : l ∈ filC s 0 []) : l.length ≤ 36 := by
  have h1 := fils_len hs 37 0 [] l h
  have := lft_le hs 0
  simp at h1
  omega

/-- The cards of a filling fit. -/
theorem fils_fit {s : Sh} : ∀ (n cov : Nat) (pre l : List Cd), (∀ x ∈ pre, fitP s x) → l ∈ fils s n cov pre → ∀ x ∈ l, fitP s x
  | 0, _, _, _, _, h => by simp [fils] at h
  | n + 1, cov, pre, l, hp, h => by
    rw [fils] at h
    split at h
    · simp at h; subst h; exact hp
    · obtain ⟨x, hx, hl⟩ := List.mem_flatMap.1 h
      refine fils_fit n _ _ l ?_ hl
      intro y hy
      rcases List.mem_append.1 hy with hy | hy
      · exact hp y hy
      · rw [List.mem_singleton.1 hy]; exact (mem_nxt hx).2.1
theorem filC_fit {s : Sh} {l : List Cd} (h : l ∈ filC s 0 []) : ∀ x ∈ l, fitP s x := fils_fit 37 0 [] l (fun _ hx => absurd hx List.not_mem_nil) h

/-- A card on the first square that is not covered. -/
def crd (s : Sh) (cov : Nat) (t : Bool) : Cd := ⟨(ctzU 64 cov / s.c : Nat), (ctzU 64 cov % s.c : Nat), t⟩
/-- The fillings that go on with an upright card, or with a turned one. -/
def prt (s : Sh) (cov : Nat) (l : List Cd) (t : Bool) : List (List Cd) :=
  if (t = true ∧ s.l = s.w) ∨ ¬ freeP s cov (crd s cov t) then [] else filC s (cov ||| und s (crd s cov t)) (l ++ [crd s cov t])
theorem filC_prt {s : Sh} (hs : s.Ok) (cov : Nat) (l : List Cd) (h : cov ≠ whl s) : filC s cov l = prt s cov l false ++ prt s cov l true := by
  rw [filC_eq hs, if_neg h]
  have hT : tryL s cov = if s.l = s.w then [crd s cov false] else [crd s cov false, crd s cov true] := rfl
  unfold nxt prt
  rw [hT]
  generalize crd s cov false = x
  generalize crd s cov true = y
  by_cases e : s.l = s.w
  · by_cases a : freeP s cov x
    · simp [e, a]
    · simp [e, a]
  · by_cases a : freeP s cov x
    · by_cases b : freeP s cov y
      · simp [e, a, b]
      · simp [e, a, b]
    · by_cases b : freeP s cov y
      · simp [e, a, b]
      · simp [e, a, b]
theorem crd_nxt {s : Sh} {cov : Nat} {t : Bool} (h : ¬ (t = true ∧ s.l = s.w)) (hf : freeP s cov (crd s cov t)) : crd s cov t ∈ nxt s cov := by
  unfold nxt
  rw [List.mem_filter]
  refine ⟨?_, decide_eq_true hf⟩
  unfold tryL crd
  dsimp only
  rcases t with _ | _
  · split <;> simp
  · rw [if_neg (fun e => h ⟨rfl, e⟩)]; simp

theorem lft_two {s : Sh} (hs : s.Ok) (h2 : ¬ (s.l = 1 ∧ s.w = 1)) {cov : Nat} {x : Cd} (h : x ∈ nxt s cov) : lft s (cov ||| und s x) + 2 ≤ lft s cov := by
  have hb := nxt_bit hs h
  obtain ⟨hm, hf, h0⟩ := mem_nxt h
  obtain ⟨e1, e2⟩ := mem_tryL hm
  have hlt := bit_lt (und_lt hf) hb
  have hz : ∀ i, (und s x).testBit i = true → cov.testBit i = false := fun i hi => by
    have := congrArg (fun n => Nat.testBit n i) h0
    simp only [Nat.testBit_and, Nat.zero_testBit, hi, Bool.and_true] at this
    exact this
  have hh := hiS_le hs x.t
  have hw := wiS_le hs x.t
  have hc1 := hs.c1
  obtain ⟨q, hq, hqp⟩ : ∃ q, (und s x).testBit q = true ∧ q ≠ ctzU 64 cov := by
    have hp : ctzU 64 cov = x.row.toNat * s.c + x.col.toNat := by
      rw [e1, e2, Int.toNat_natCast, Int.toNat_natCast, Nat.mul_comm]
      exact (Nat.div_add_mod _ _).symm
    have hhw : 2 ≤ hiS s x.t ∨ 2 ≤ wiS s x.t := by
      have h3 := hs.l1
      have h4 := hs.w1
      unfold hiS wiS
      cases x.t <;> simp <;> omega
    rcases hhw with h3 | h3
    · refine ⟨_, (und_bit _).2 ⟨1, 0, by omega, by omega, rfl⟩, ?_⟩
      rw [hp, Nat.add_mul]; omega
    · refine ⟨_, (und_bit _).2 ⟨0, 1, by omega, by omega, rfl⟩, ?_⟩
      rw [hp]; simp
  have hql := bit_lt (und_lt hf) hq
  have s1 : lft s (cov ||| 2 ^ ctzU 64 cov) < lft s cov := by
    refine countP_lt (x := ctzU 64 cov) (fun a _ h => ?_) (List.mem_range.2 hlt) (by simp [hz _ hb]) (by simp [Nat.testBit_or, Nat.testBit_two_pow_self])
    simp only [Nat.testBit_or, Bool.not_or, Bool.and_eq_true] at h
    exact h.1
  have s2 : lft s (cov ||| und s x) < lft s (cov ||| 2 ^ ctzU 64 cov) := by
    refine countP_lt (x := q) (fun a _ h => ?_) (List.mem_range.2 hql) (by simp [Nat.testBit_or, hz _ hq, Ne.symm hqp]) (by simp [Nat.testBit_or, hq])
    simp only [Nat.testBit_or, Bool.not_or, Bool.and_eq_true] at h
    simp only [Nat.testBit_or, Bool.not_or, Bool.and_eq_true]
    refine ⟨h.1, ?_⟩
    rw [Nat.testBit_two_pow]
    by_cases e : ctzU 64 cov = a
    · subst e; simp [hb] at h
    · simp [e]
  omega

theorem sum_two {α : Type} {f : α → Nat} {M : Nat} : ∀ {l : List α}, l.length ≤ 2 → (∀ x ∈ l, f x ≤ M) → (l.map f).sum ≤ 2 * M
  | [], _, _ => by simp
  | [x], _, h => by have := h x (by simp); simp; omega
  | [x, y], _, h => by have := h x (by simp); have := h y (by simp); simp; omega
  | _ :: _ :: _ :: _, h, _ => by simp at h
theorem cnt_half {s : Sh} (hs : s.Ok) (h2 : ¬ (s.l = 1 ∧ s.w = 1)) : ∀ (n cov : Nat), cnt s n cov ≤ 2 ^ (lft s cov / 2)
  | 0, _ => by simp [cnt]
  | n + 1, cov => by
    rw [cnt]
    split
    · exact Nat.one_le_two_pow
    · rcases hn : nxt s cov with _ | ⟨y, l⟩
      · simp
      · have hy := lft_two hs h2 (x := y) (by rw [hn]; simp)
        obtain ⟨k, hk⟩ : ∃ k, lft s cov / 2 = k + 1 := ⟨lft s cov / 2 - 1, by omega⟩
        rw [← hn, hk, Nat.pow_succ, Nat.mul_comm]
        refine sum_two (nxt_len s cov) fun x hx => ?_
        have := lft_two hs h2 hx
        exact Nat.le_trans (cnt_half hs h2 n _) (Nat.pow_le_pow_right (by decide) (by omega))
theorem sum_one {α : Type} {f : α → Nat} {M : Nat} : ∀ {l : List α}, l.length ≤ 1 → (∀ x ∈ l, f x ≤ M) → (l.map f).sum ≤ M
  | [], _, _ => by simp
  | [x], _, h => by have := h x (by simp); simp; omega
  | _ :: _ :: _, h, _ => by simp at h
theorem cnt_one {s : Sh} (h : s.l = s.w) : ∀ (n cov : Nat), cnt s n cov ≤ 1
  | 0, _ => by simp [cnt]
  | n + 1, cov => by
    rw [cnt]
    split
    · exact Nat.le_refl _
    · refine sum_one ?_ fun x _ => cnt_one h n _
      unfold nxt
      refine Nat.le_trans (List.length_filter_le ..) ?_
      unfold tryL
      dsimp only
      rw [if_pos h]
      exact Nat.le_refl _
theorem cntC_small {s : Sh} (hs : s.Ok) (cov : Nat) : cntC s cov ≤ 262144 := by
  by_cases h : s.l = 1 ∧ s.w = 1
  · exact Nat.le_trans (cnt_one (by rw [h.1, h.2]) 37 cov) (by decide)
  · refine Nat.le_trans (cnt_half hs h 37 cov) ?_
    have := lft_le hs cov
    exact Nat.le_trans (Nat.pow_le_pow_right (by decide) (show lft s cov / 2 ≤ 18 by omega)) (by decide)
theorem filC_small {s : Sh} (hs : s.Ok) (cov : Nat) (l : List Cd) : (filC s cov l).length ≤ 262144 := by rw [cntC_len]; exact cntC_small hs cov
end Go.Proofs.YtlollcabnfncpaaDoor
