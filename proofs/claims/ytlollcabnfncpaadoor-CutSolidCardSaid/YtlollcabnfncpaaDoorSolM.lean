/-
  Each filling is found right; a filling without a cut, and whether it is straight: plain mathematics.
-/
import Derived.Test.YtlollcabnfncpaaDoorGoeA
import Derived.Test.YtlollcabnfncpaaDoorDivE
import Derived.Test.YtlollcabnfncpaaDoorLenA
namespace Go.Proofs.YtlollcabnfncpaaDoor

theorem sqI_nxt {s : Sh} {cov : Nat} {x : Cd} (h : x ∈ nxt s cov) : sqI s x = (ctzU 64 cov : Nat) := by
  obtain ⟨e1, e2⟩ := mem_tryL (mem_nxt h).1
  unfold sqI
  rw [e1, e2]
  have h1 := Nat.div_add_mod (ctzU 64 cov) s.c
  rw [Nat.mul_comm] at h1
  have h2 : ((ctzU 64 cov / s.c * s.c + ctzU 64 cov % s.c : Nat) : Int) = (ctzU 64 cov : Nat) := by rw [h1]
  rw [Int.natCast_add, Int.natCast_mul] at h2
  exact h2
theorem turned_nxt {s : Sh} {cov : Nat} {x : Cd} (h : x ∈ nxt s cov) : ¬ (x.t = true ∧ s.l = s.w) := by
  rintro ⟨h1, h2⟩
  have h3 := (mem_nxt h).1
  unfold tryL at h3
  dsimp only at h3
  rw [if_pos h2] at h3
  rw [List.mem_singleton.1 h3] at h1
  cases h1
theorem fils_ver {s : Sh} (hs : s.Ok) : ∀ (n cov : Nat) (pre l : List Cd) (last : Int), (∀ i : Nat, (i : Int) ≤ last → cov.testBit i = true) → l ∈ fils s n cov pre → ∃ m, l = pre ++ m ∧ verM s m cov last = 0
  | 0, _, _, _, _, _, h => by simp [fils] at h
  | n + 1, cov, pre, l, last, hb, h => by
    rw [fils] at h
    split at h
    · rename_i e
      simp at h; subst h
      exact ⟨[], by simp, by rw [verM, if_pos e]⟩
    · obtain ⟨x, hx, hl⟩ := List.mem_flatMap.1 h
      have hq := sqI_nxt hx
      have hbit := nxt_bit hs hx
      obtain ⟨_, hf, h0⟩ := mem_nxt hx
      have hc : cov.testBit (ctzU 64 cov) = false := by
        have := congrArg (fun n => Nat.testBit n (ctzU 64 cov)) h0
        simp only [Nat.testBit_and, Nat.zero_testBit, hbit, Bool.and_true] at this
        exact this
      obtain ⟨m, e, hm⟩ := fils_ver hs n (cov ||| und s x) (pre ++ [x]) l (sqI s x) (fun i hi => by
        rw [Nat.testBit_or]
        by_cases hi2 : i = ctzU 64 cov
        · rw [hi2, hbit, Bool.or_true]
        · rw [ctzU_below 64 cov i (by omega), Bool.true_or]) hl
      refine ⟨x :: m, by rw [e]; simp, ?_⟩
      rw [verM_cons_ok (turned_nxt hx) hf ?_ h0]
      · exact hm
      · intro hle
        have := hb (ctzU 64 cov) (by omega)
        rw [hc] at this; cases this
theorem filC_ver {s : Sh} (hs : s.Ok) {l : List Cd} (h : l ∈ filC s 0 []) : verS s l = 0 := by
  obtain ⟨m, e, hm⟩ := fils_ver hs 37 0 [] l (-1) (fun i hi => by omega) h
  rw [List.nil_append] at e
  subst e
  exact hm
theorem strF_ok {s : Sh} (hs : s.Ok) {l : List Cd} (h : verS s l = 0) : strF s.r s.c s.l s.w l = (divS s l).st ∧ verF s.r s.c s.l s.w l = 0 := by
  have h2 : verF s.r s.c s.l s.w l = 0 := by
    unfold verF
    rw [if_pos (chkS_ok hs)]
    exact h
  refine ⟨?_, h2⟩
  unfold strF
  rw [if_pos h2]
  rfl

/-- A line ahead of a row, or of a column, goes through no card. -/
def lineB (s : Sh) (l : List Cd) (at' : Nat) : Bool := (decide (at' < s.r) && thrA s true at' l) || (decide (at' < s.c) && thrA s false at' l)
theorem gap_nil (n : Nat) (sp : List (Int × Int)) : (gapN 0 n sp).length = 0 ↔ ∀ k : Nat, k < n → free' sp (1 + (k : Int)) = false := by
  induction n with
  | zero => simp [gapN]
  | succ n ih =>
    have e := gapN_free 0 n sp
    rw [show (0 : Int) + 1 + (n : Nat) = 1 + (n : Int) by omega] at e
    rw [e, List.length_append]
    constructor
    · intro h k hk
      by_cases hkn : k = n
      · subst hkn
        rcases hf : free' sp (1 + (k : Int)) with _ | _
        · rfl
        · rw [if_pos hf] at h; simp at h
      · exact ih.1 (by omega) k (by omega)
    · intro h
      rw [ih.2 fun k hk => h k (by omega), if_neg (by rw [h n (by omega)]; decide)]
      rfl
theorem solid_line {s : Sh} (hs : s.Ok) (l : List Cd) : solidP s l = true ↔ ∀ k : Nat, k < 5 → lineB s l (k + 1) = false := by
  have hr := hs.r6
  have hc := hs.c6
  have e : ∀ k : Nat, ((k + 1 : Nat) : Int) = 1 + (k : Int) := fun k => by omega
  rw [solid_cuts hs]
  unfold cutB
  simp only [Bool.and_eq_true, beq_iff_eq, gap_nil, if_true, Bool.false_eq_true, if_false]
  constructor
  · rintro ⟨h1, h2⟩ k hk
    unfold lineB
    rw [thr_free, thr_free, e, Bool.or_eq_false_iff]
    constructor
    · by_cases h : k + 1 < s.r
      · rw [h1 k (by omega), Bool.and_false]
      · rw [decide_eq_false h, Bool.false_and]
    · by_cases h : k + 1 < s.c
      · rw [h2 k (by omega), Bool.and_false]
      · rw [decide_eq_false h, Bool.false_and]
  · intro h
    constructor
    · intro k hk
      have := h k (by omega)
      unfold lineB at this
      rw [thr_free, thr_free, e, Bool.or_eq_false_iff, decide_eq_true (by omega), Bool.true_and] at this
      exact this.1
    · intro k hk
      have := h k (by omega)
      unfold lineB at this
      rw [thr_free, thr_free, e, Bool.or_eq_false_iff, decide_eq_true (p := k + 1 < s.c) (by omega), Bool.true_and] at this
      exact this.2
theorem hold_all {s : Sh} {l : List Cd} (hf : ∀ x ∈ l, fitP s x) : (l.map (blk s)).filter (holdsB (areaB s)) = l.map (blk s) := by
  rw [List.filter_eq_self]
  intro x hx
  obtain ⟨y, hy, rfl⟩ := List.mem_map.1 hx
  obtain ⟨h1, h2, h3, h4⟩ := hf y hy
  unfold holdsB areaB blk
  exact decide_eq_true (by dsimp only; omega)
/-- A filling without a cut is straight just if it is one card. -/
theorem divS_solid {s : Sh} (hs : s.Ok) {l : List Cd} (hf : ∀ x ∈ l, fitP s x) (h : solidP s l = true) : (divS s l).st = decide (l.length = 1) := by
  unfold divS
  rw [divC_eq _ (areaB_ok hs), hold_all hf, List.length_map]
  by_cases h1 : l.length = 1
  · rw [if_pos h1, decide_eq_true h1]
  · rw [if_neg h1, decide_eq_false h1]
    have : halvesB (areaB s) (l.map (blk s)) = [] := by
      unfold solidP at h
      simp only [Bool.and_eq_true, beq_iff_eq] at h
      have h1 := List.eq_nil_of_length_eq_zero h.1
      have h2 := List.eq_nil_of_length_eq_zero h.2
      unfold halvesB areaB
      dsimp only
      rw [h1, h2]; rfl
    rw [this]; rfl
end Go.Proofs.YtlollcabnfncpaaDoor
