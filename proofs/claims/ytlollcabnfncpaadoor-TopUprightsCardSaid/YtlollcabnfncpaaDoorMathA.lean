/-
  Sheets, cards, the squares that cards cover, and the cards that can be laid next: the plain numbers.
-/
namespace Go.Proofs.YtlollcabnfncpaaDoor

structure Sh where
  r : Nat
  c : Nat
  l : Nat
  w : Nat
deriving DecidableEq

structure Cd where
  row : Int
  col : Int
  t : Bool
deriving DecidableEq

/-- All sides are from 1 to 6. -/
structure Sh.Ok (s : Sh) : Prop where
  r1 : 1 ≤ s.r
  r6 : s.r ≤ 6
  c1 : 1 ≤ s.c
  c6 : s.c ≤ 6
  l1 : 1 ≤ s.l
  l6 : s.l ≤ 6
  w1 : 1 ≤ s.w
  w6 : s.w ≤ 6

/-- How many rows, and how many columns, a card covers. -/
def hiS (s : Sh) (t : Bool) : Nat := if t then s.w else s.l
def wiS (s : Sh) (t : Bool) : Nat := if t then s.l else s.w

theorem hiS_le {s : Sh} (h : s.Ok) (t : Bool) : 1 ≤ hiS s t ∧ hiS s t ≤ 6 := by
  have := h.l1; have := h.l6; have := h.w1; have := h.w6
  unfold hiS; split <;> omega
theorem wiS_le {s : Sh} (h : s.Ok) (t : Bool) : 1 ≤ wiS s t ∧ wiS s t ≤ 6 := by
  have := h.l1; have := h.l6; have := h.w1; have := h.w6
  unfold wiS; split <;> omega

/-- A card lies within the sheet. -/
def fitP (s : Sh) (x : Cd) : Prop := 0 ≤ x.row ∧ x.row ≤ (s.r : Int) - hiS s x.t ∧ 0 ≤ x.col ∧ x.col ≤ (s.c : Int) - wiS s x.t
instance (s : Sh) (x : Cd) : Decidable (fitP s x) := by unfold fitP; infer_instance

/-- Some squares of a row: n of them from column b on. -/
def rowM (s : Sh) (a b : Nat) : Nat → Nat
  | 0 => 0
  | n + 1 => rowM s a b n ||| 2 ^ (a * s.c + (b + n))
/-- Some rows of squares: m of them from row a on. -/
def blkM (s : Sh) (a b n : Nat) : Nat → Nat
  | 0 => 0
  | m + 1 => blkM s a b n m ||| rowM s (a + m) b n

/-- The squares under a card. -/
def und (s : Sh) (x : Cd) : Nat := blkM s x.row.toNat x.col.toNat (wiS s x.t) (hiS s x.t)

/-- All squares. -/
def whl (s : Sh) : Nat := 2 ^ (s.r * s.c) - 1

theorem rowM_bit (s : Sh) (a b : Nat) : ∀ (n i : Nat), (rowM s a b n).testBit i = true ↔ ∃ y, y < n ∧ i = a * s.c + (b + y)
  | 0, i => by simp [rowM]
  | n + 1, i => by
    rw [rowM, Nat.testBit_or, Bool.or_eq_true, rowM_bit s a b n i, Nat.testBit_two_pow, decide_eq_true_eq]
    constructor
    · rintro (⟨y, hy, e⟩ | e)
      · exact ⟨y, by omega, e⟩
      · exact ⟨n, by omega, e.symm⟩
    · rintro ⟨y, hy, e⟩
      by_cases h : y = n
      · subst h; exact .inr e.symm
      · exact .inl ⟨y, by omega, e⟩

theorem blkM_bit (s : Sh) (a b n : Nat) : ∀ (m i : Nat), (blkM s a b n m).testBit i = true ↔ ∃ x y, x < m ∧ y < n ∧ i = (a + x) * s.c + (b + y)
  | 0, i => by simp [blkM]
  | m + 1, i => by
    rw [blkM, Nat.testBit_or, Bool.or_eq_true, blkM_bit s a b n m i, rowM_bit]
    constructor
    · rintro (⟨x, y, hx, hy, e⟩ | ⟨y, hy, e⟩)
      · exact ⟨x, y, by omega, hy, e⟩
      · exact ⟨m, y, by omega, hy, e⟩
    · rintro ⟨x, y, hx, hy, e⟩
      by_cases h : x = m
      · subst h; exact .inr ⟨y, hy, e⟩
      · exact .inl ⟨x, y, by omega, hy, e⟩

theorem sq_lt {R C x y : Nat} (hx : x < R) (hy : y < C) : x * C + y < R * C := by
  have : (x + 1) * C ≤ R * C := Nat.mul_le_mul_right C hx
  rw [Nat.succ_mul] at this
  omega

theorem area_le {s : Sh} (h : s.Ok) : 1 ≤ s.r * s.c ∧ s.r * s.c ≤ 36 := by
  have h1 := Nat.mul_le_mul h.r1 h.c1
  have h2 := Nat.mul_le_mul h.r6 h.c6
  omega

theorem rowM_lt (s : Sh) (a b : Nat) : ∀ (n K : Nat), a * s.c + (b + n) ≤ K → rowM s a b n < 2 ^ K
  | 0, K, _ => Nat.two_pow_pos K
  | n + 1, K, h => by
    rw [rowM]
    exact Nat.or_lt_two_pow (rowM_lt s a b n K (by omega)) (Nat.pow_lt_pow_right (by decide) (by omega))
theorem blkM_lt (s : Sh) (a b n : Nat) (hc : b + n ≤ s.c) : ∀ (m K : Nat), (a + m) * s.c ≤ K → blkM s a b n m < 2 ^ K
  | 0, K, _ => Nat.two_pow_pos K
  | m + 1, K, h => by
    have e : (a + (m + 1)) * s.c = (a + m) * s.c + s.c := by rw [← Nat.add_assoc, Nat.succ_mul]
    rw [blkM]
    exact Nat.or_lt_two_pow (blkM_lt s a b n hc m K (by omega)) (rowM_lt s (a + m) b n K (by omega))

theorem und_lt {s : Sh} {x : Cd} (h : fitP s x) : und s x < 2 ^ (s.r * s.c) := by
  obtain ⟨h1, h2, h3, h4⟩ := h
  exact blkM_lt s _ _ _ (by omega) _ _ (Nat.mul_le_mul_right _ (by omega))

theorem und_bit {s : Sh} {x : Cd} (i : Nat) : (und s x).testBit i = true ↔ ∃ a b, a < hiS s x.t ∧ b < wiS s x.t ∧ i = (x.row.toNat + a) * s.c + (x.col.toNat + b) :=
  blkM_bit s _ _ _ _ i

theorem two36 {k : Nat} (h : k ≤ 36) : 2 ^ k ≤ 68719476736 := Nat.pow_le_pow_right (by decide) h
theorem und_lt36 {s : Sh} (hs : s.Ok) {x : Cd} (h : fitP s x) : und s x < 68719476736 :=
  Nat.lt_of_lt_of_le (und_lt h) (two36 (area_le hs).2)
theorem whl_lt36 {s : Sh} (hs : s.Ok) : whl s < 68719476736 := by
  have := two36 (area_le hs).2
  have := Nat.two_pow_pos (s.r * s.c)
  unfold whl; omega

/-- The number of squares that are covered before the first one that is not. -/
def ctzU : Nat → Nat → Nat
  | 0, _ => 0
  | f + 1, x => if x % 2 = 1 then 1 + ctzU f (x / 2) else 0

/-- The cards that can be laid on the first square that is not covered. -/
def tryL (s : Sh) (cov : Nat) : List Cd :=
  let f := ctzU 64 cov
  let up : Cd := ⟨(f / s.c : Nat), (f % s.c : Nat), false⟩
  if s.l = s.w then [up] else [up, ⟨(f / s.c : Nat), (f % s.c : Nat), true⟩]
def freeP (s : Sh) (cov : Nat) (x : Cd) : Prop := fitP s x ∧ cov &&& und s x = 0
instance (s : Sh) (cov : Nat) (x : Cd) : Decidable (freeP s cov x) := by unfold freeP; infer_instance
def nxt (s : Sh) (cov : Nat) : List Cd := (tryL s cov).filter fun x => decide (freeP s cov x)

/-- All fillings that go on from a list of cards, in their order. -/
def fils (s : Sh) : Nat → Nat → List Cd → List (List Cd)
  | 0, _, _ => []
  | n + 1, cov, pre => if cov = whl s then [pre] else (nxt s cov).flatMap fun x => fils s n (cov ||| und s x) (pre ++ [x])

/-- The number of fillings. -/
def cnt (s : Sh) : Nat → Nat → Nat
  | 0, _ => 0
  | n + 1, cov => if cov = whl s then 1 else ((nxt s cov).map fun x => cnt s n (cov ||| und s x)).sum

theorem cnt_fils (s : Sh) : ∀ (n cov : Nat) (pre : List Cd), (fils s n cov pre).length = cnt s n cov
  | 0, _, _ => rfl
  | n + 1, cov, pre => by
    rw [fils, cnt]
    split
    · rfl
    · rw [List.length_flatMap]
      congr 1
      exact List.map_congr_left fun x _ => cnt_fils s n _ _
end Go.Proofs.YtlollcabnfncpaaDoor
