/-
  Loops of turns, and in how many ways loops get colours: the plain functions.
-/
import Derived.Test.YtbcbaaapogejiaaDoorMathA
namespace Go.Proofs.YtbcbaaapogejiaaDoor

/-- Along a loop from a cell, while cells are not seen: how many cells, and which ones are seen then. -/
def alongN (s : List Int) : Nat → List Bool → Nat → Nat × List Bool
  | 0, seen, _ => (0, seen)
  | f + 1, seen, k => if seen.getD k true = true then (0, seen) else ((alongN s f (seen.set k true) (s.getD k 0).toNat).1 + 1, (alongN s f (seen.set k true) (s.getD k 0).toNat).2)
/-- The loops that begin at the first k cells (0: none begins there), and the cells that are seen. -/
def lensK (s : List Int) : Nat → List Nat × List Bool
  | 0 => ([], List.replicate s.length false)
  | k + 1 => ((lensK s k).1 ++ [(alongN s (s.length + 1) (lensK s k).2 k).1], (alongN s (s.length + 1) (lensK s k).2 k).2)
def lensN (s : List Int) : List Nat := (lensK s s.length).1

/-- How many loops of one, of two, of four cells. -/
structure Lp where
  o : Nat
  t : Nat
  f : Nat
deriving DecidableEq
def addLp (l : Lp) (n : Nat) : Lp := if n = 1 then ⟨l.o + 1, l.t, l.f⟩ else if n = 2 then ⟨l.o, l.t + 1, l.f⟩ else if n = 4 then ⟨l.o, l.t, l.f + 1⟩ else l
def lpOf (lens : List Nat) : Lp := lens.foldl addLp ⟨0, 0, 0⟩
def loopsN (s : List Int) : Lp := lpOf (lensN s)
def Lp.all (l : Lp) : Nat := l.o + l.t + l.f

/-- The loops of all turns of all presses. -/
theorem loops_small : ∀ R, R < 5 → ∀ C, C < 5 → ∀ t, t < 8 → kindOk R C t = true → decide ((loopsN (srcs R C (mv t))).o + 2 * (loopsN (srcs R C (mv t))).t + 4 * (loopsN (srcs R C (mv t))).f = R * C ∧ (loopsN (srcs R C (mv t))).all = ((lensN (srcs R C (mv t))).filter (0 < ·)).length ∧ ∀ n ∈ lensN (srcs R C (mv t)), n = 0 ∨ n = 1 ∨ n = 2 ∨ n = 4) = true := by decide +kernel

/-- How many things can be chosen. -/
def ch : Nat → Nat → Nat
  | _, 0 => 1
  | 0, _ + 1 => 0
  | n + 1, k + 1 => ch n k + ch n (k + 1)
/-- The same, one thing after the other. -/
def chP (things : Nat) : Nat → Nat
  | 0 => 1
  | i + 1 => chP things i * (things - i) / (i + 1)
theorem chP_eq : ∀ n, n < 17 → ∀ k, k ≤ n → chP n k = ch n k ∧ chP n k * n < 1000000 := by decide +kernel

/-- In how many ways loops get the first colour, so that it has a cells; W: the same for the others. -/
def term (W : Lp → Nat) (a : Nat) (l : Lp) (f' t' : Nat) : Nat :=
  if 2 * t' + 4 * f' ≤ a ∧ a - 2 * t' - 4 * f' ≤ l.o then ch l.o (a - 2 * t' - 4 * f') * ch l.t t' * ch l.f f' * W ⟨l.o - (a - 2 * t' - 4 * f'), l.t - t', l.f - f'⟩ else 0
def inS (W : Lp → Nat) (a : Nat) (l : Lp) (f' : Nat) : Nat → Nat
  | 0 => 0
  | k + 1 => inS W a l f' k + term W a l f' k
def outS (W : Lp → Nat) (a : Nat) (l : Lp) : Nat → Nat
  | 0 => 0
  | k + 1 => outS W a l k + inS W a l k (l.t + 1)
def withN : List Nat → Lp → Nat
  | [], _ => 1
  | a :: as, l => outS (withN as) a l (l.f + 1)

/-- Sums with binomials: of all parts of n things into two. -/
def bsum : Nat → (Nat → Nat → Nat) → Nat
  | 0, F => F 0 0
  | n + 1, F => bsum n (fun i j => F i (j + 1)) + bsum n (fun i j => F (i + 1) j)
def ssum (g : Nat → Nat) : Nat → Nat
  | 0 => 0
  | k + 1 => ssum g k + g k
theorem ssum_congr {g h : Nat → Nat} : ∀ {k : Nat}, (∀ i, i < k → g i = h i) → ssum g k = ssum h k
  | 0, _ => rfl
  | k + 1, e => by rw [ssum, ssum, ssum_congr fun i hi => e i (by omega), e k (by omega)]
theorem ssum_add (g h : Nat → Nat) : ∀ k, ssum (fun i => g i + h i) k = ssum g k + ssum h k
  | 0 => rfl
  | k + 1 => by rw [ssum, ssum, ssum, ssum_add g h k]; omega
theorem ssum_zero : ∀ k, ssum (fun _ => 0) k = 0
  | 0 => rfl
  | k + 1 => by rw [ssum, ssum_zero k]
theorem ssum_first (g : Nat → Nat) : ∀ k, ssum g (k + 1) = g 0 + ssum (fun i => g (i + 1)) k
  | 0 => by simp [ssum]
  | k + 1 => by rw [ssum, ssum_first g k, ssum]; omega
theorem ch_over : ∀ n k, n < k → ch n k = 0
  | 0, k + 1, _ => rfl
  | n + 1, k + 1, h => by rw [ch, ch_over n k (by omega), ch_over n (k + 1) (by omega)]
  | _, 0, h => by omega
theorem bsum_eq : ∀ (n : Nat) (F : Nat → Nat → Nat), bsum n F = ssum (fun k => ch n k * F k (n - k)) (n + 1)
  | 0, F => by simp [bsum, ssum, ch]
  | n + 1, F => by
    rw [bsum, bsum_eq n, bsum_eq n, ssum_first (fun k => ch (n + 1) k * F k (n + 1 - k))]
    have e1 : ssum (fun i => ch (n + 1) (i + 1) * F (i + 1) (n + 1 - (i + 1))) (n + 1) = ssum (fun i => ch n i * F (i + 1) (n - i)) (n + 1) + ssum (fun i => ch n (i + 1) * F (i + 1) (n - i)) (n + 1) := by
      rw [← ssum_add]
      refine ssum_congr fun i _ => ?_
      rw [ch, Nat.add_mul, show n + 1 - (i + 1) = n - i by omega]
    have e2 : ssum (fun k => ch n k * F k (n - k + 1)) (n + 1) = ch n 0 * F 0 (n + 1) + ssum (fun i => ch n (i + 1) * F (i + 1) (n - i)) (n + 1) := by
      rw [ssum_first, ssum, ch_over n (n + 1) (by omega), Nat.zero_mul, Nat.add_zero]
      congr 1
      refine ssum_congr fun i hi => ?_
      rw [show n - (i + 1) + 1 = n - i by omega]
    rw [e1, e2]
    simp only [ch, Nat.sub_zero]
    omega
theorem bsum_congr {F G : Nat → Nat → Nat} : ∀ {n : Nat}, (∀ i j, F i j = G i j) → bsum n F = bsum n G := fun h => by
  rw [show F = G from funext fun i => funext fun j => h i j]
theorem bsum_add : ∀ (n : Nat) (F G : Nat → Nat → Nat), bsum n (fun i j => F i j + G i j) = bsum n F + bsum n G
  | 0, _, _ => rfl
  | n + 1, F, G => by
    show bsum n (fun i j => F i (j + 1) + G i (j + 1)) + bsum n (fun i j => F (i + 1) j + G (i + 1) j) = (bsum n (fun i j => F i (j + 1)) + bsum n (fun i j => F (i + 1) j)) + (bsum n (fun i j => G i (j + 1)) + bsum n (fun i j => G (i + 1) j))
    rw [bsum_add n (fun i j => F i (j + 1)) (fun i j => G i (j + 1)), bsum_add n (fun i j => F (i + 1) j) (fun i j => G (i + 1) j)]
    omega
theorem bsum_zero : ∀ n, bsum n (fun _ _ => 0) = 0
  | 0 => rfl
  | n + 1 => by simp only [bsum, bsum_zero n]
theorem bsum_mul (c : Nat) : ∀ (n : Nat) (F : Nat → Nat → Nat), bsum n (fun i j => c * F i j) = c * bsum n F
  | 0, _ => rfl
  | n + 1, F => by simp only [bsum, bsum_mul c n, Nat.mul_add]
theorem bsum_le : ∀ {n : Nat} {F G : Nat → Nat → Nat}, (∀ i j, i + j = n → F i j ≤ G i j) → bsum n F ≤ bsum n G
  | 0, _, _, h => h 0 0 rfl
  | n + 1, _, _, h => Nat.add_le_add (bsum_le fun i j e => h i (j + 1) (by omega)) (bsum_le fun i j e => h (i + 1) j (by omega))
/-- Only one part counts. -/
theorem bsum_one (n a : Nat) (g : Nat → Nat) : bsum n (fun i j => if i = a then g j else 0) = if a ≤ n then ch n a * g (n - a) else 0 := by
  rw [bsum_eq]
  have key : ∀ m, ssum (fun k => ch n k * (if k = a then g (n - k) else 0)) m = if a < m then ch n a * g (n - a) else 0 := by
    intro m
    induction m with
    | zero => simp [ssum]
    | succ m ih =>
      rw [ssum, ih]
      by_cases h : m = a
      · subst h; simp
      · by_cases h2 : a < m
        · rw [if_pos h2, if_neg h, if_pos (by omega)]; simp
        · rw [if_neg h2, if_neg h, if_neg (by omega)]; simp
  rw [key]
  by_cases h : a ≤ n
  · rw [if_pos h, if_pos (by omega)]
  · rw [if_neg h, if_neg (by omega)]

/-- The same as the program's sums, over all parts of the loops. -/
def wB : List Nat → Lp → Nat
  | [], _ => 1
  | a :: as, l => bsum l.f fun f' f => bsum l.t fun t' t => bsum l.o fun o' o => if o' + 2 * t' + 4 * f' = a then wB as ⟨o, t, f⟩ else 0

theorem inS_eq (W : Lp → Nat) (a : Nat) (l : Lp) (f' : Nat) : ∀ k, inS W a l f' k = ssum (term W a l f') k
  | 0 => rfl
  | k + 1 => by rw [inS, ssum, inS_eq W a l f' k]
theorem outS_eq (W : Lp → Nat) (a : Nat) (l : Lp) : ∀ k, outS W a l k = ssum (fun f' => inS W a l f' (l.t + 1)) k
  | 0 => rfl
  | k + 1 => by rw [outS, ssum, outS_eq W a l k]
theorem withN_eq : ∀ (as : List Nat) (l : Lp), withN as l = wB as l
  | [], _ => rfl
  | a :: as, l => by
    rw [withN, wB, outS_eq, bsum_eq]
    refine ssum_congr fun f' _ => ?_
    rw [inS_eq, bsum_eq]
    have : ch l.f f' * ssum (fun k => ch l.t k * bsum l.o fun o' o => if o' + 2 * k + 4 * f' = a then wB as ⟨o, l.t - k, l.f - f'⟩ else 0) (l.t + 1) = ssum (fun k => ch l.f f' * (ch l.t k * bsum l.o fun o' o => if o' + 2 * k + 4 * f' = a then wB as ⟨o, l.t - k, l.f - f'⟩ else 0)) (l.t + 1) := by
      generalize l.t + 1 = m
      induction m with
      | zero => rfl
      | succ m ih => rw [ssum, ssum, Nat.mul_add, ih]
    rw [this]
    refine ssum_congr fun t' _ => ?_
    unfold term
    by_cases h : 2 * t' + 4 * f' ≤ a
    · have e : (fun o' o => if o' + 2 * t' + 4 * f' = a then wB as ⟨o, l.t - t', l.f - f'⟩ else 0) = fun o' o => if o' = a - 2 * t' - 4 * f' then (fun o => wB as ⟨o, l.t - t', l.f - f'⟩) o else 0 := by
        funext o' o
        by_cases h2 : o' + 2 * t' + 4 * f' = a
        · rw [if_pos h2, if_pos (by omega)]
        · rw [if_neg h2, if_neg (by omega)]
      rw [e, bsum_one]
      by_cases h3 : a - 2 * t' - 4 * f' ≤ l.o
      · rw [if_pos ⟨h, h3⟩, if_pos h3, withN_eq as]
        generalize a - 2 * t' - 4 * f' = x
        simp only [Nat.mul_left_comm, Nat.mul_assoc]
      · rw [if_neg (fun q => h3 q.2), if_neg h3]; simp
    · rw [if_neg (fun q => h q.1)]
      have e : (fun o' o => if o' + 2 * t' + 4 * f' = a then wB as ⟨o, l.t - t', l.f - f'⟩ else 0) = fun _ _ => 0 := by
        funext o' o
        rw [if_neg (by omega)]
      rw [e, bsum_zero]; simp

/-- All of a list's ways to take r from one of its numbers. -/
def takes (g : List Nat → Nat) (r : Nat) : List Nat → Nat
  | [] => 0
  | a :: as => (if r ≤ a then g ((a - r) :: as) else 0) + takes (fun l => g (a :: l)) r as

def plus (l : Lp) (r : Nat) : Lp := addLp l r

theorem takes_bsum (r : Nat) (n : Nat) : ∀ (as : List Nat) (F : Nat → Nat → List Nat → Nat), takes (fun l => bsum n fun i j => F i j l) r as = bsum n fun i j => takes (F i j) r as
  | [], F => by simp [takes, bsum_zero]
  | a :: as, F => by
    simp only [takes]
    rw [takes_bsum r n as fun i j l => F i j (a :: l), bsum_add]
    congr 1
    by_cases h : r ≤ a
    · simp only [if_pos h]
    · simp only [if_neg h, bsum_zero]
theorem takes_if (r : Nat) (p : Prop) [Decidable p] : ∀ (as : List Nat) (F : List Nat → Nat), takes (fun l => if p then F l else 0) r as = if p then takes F r as else 0
  | [], F => by simp [takes]
  | a :: as, F => by
    simp only [takes]
    rw [takes_if r p as]
    by_cases h : p <;> simp [h]

/-- One more loop: it gets one of the colours, or none. -/
theorem wB_more (r : Nat) (hr : r = 1 ∨ r = 2 ∨ r = 4) : ∀ (as : List Nat) (l : Lp), wB as (plus l r) = takes (fun l' => wB l' l) r as + wB as l
  | [], l => by simp [wB, takes]
  | a :: as, l => by
    have ih := wB_more r hr as
    simp only [takes]
    have e1 : takes (fun l_1 => wB (a :: l_1) l) r as = bsum l.f fun f' f => bsum l.t fun t' t => bsum l.o fun o' o => if o' + 2 * t' + 4 * f' = a then takes (fun l' => wB l' ⟨o, t, f⟩) r as else 0 := by
      simp only [wB]
      rw [takes_bsum]
      refine bsum_congr fun f' f => ?_
      rw [takes_bsum]
      refine bsum_congr fun t' t => ?_
      rw [takes_bsum]
      refine bsum_congr fun o' o => ?_
      rw [takes_if]
    have e2 : (bsum l.f fun f' f => bsum l.t fun t' t => bsum l.o fun o' o => if o' + 2 * t' + 4 * f' = a then wB as (plus ⟨o, t, f⟩ r) else 0) = takes (fun l_1 => wB (a :: l_1) l) r as + wB (a :: as) l := by
      rw [e1, wB, ← bsum_add]
      refine bsum_congr fun f' f => ?_
      rw [← bsum_add]
      refine bsum_congr fun t' t => ?_
      rw [← bsum_add]
      refine bsum_congr fun o' o => ?_
      rw [ih]
      by_cases h : o' + 2 * t' + 4 * f' = a <;> simp [h]
    have e3 : (bsum l.f fun f' f => bsum l.t fun t' t => bsum l.o fun o' o => if o' + 2 * t' + 4 * f' + r = a then wB as ⟨o, t, f⟩ else 0) = if r ≤ a then wB ((a - r) :: as) l else 0 := by
      by_cases h : r ≤ a
      · rw [if_pos h, wB]
        refine bsum_congr fun f' f => bsum_congr fun t' t => bsum_congr fun o' o => ?_
        by_cases h2 : o' + 2 * t' + 4 * f' + r = a
        · rw [if_pos h2, if_pos (by omega)]
        · rw [if_neg h2, if_neg (by omega)]
      · rw [if_neg h]
        have : ∀ o' t' f', ¬ (o' + 2 * t' + 4 * f' + r = a) := fun _ _ _ e => h (by omega)
        simp only [this, if_false, bsum_zero]
    rw [Nat.add_assoc, ← e2, ← e3]
    rcases hr with rfl | rfl | rfl
    · simp only [plus, addLp, if_true, wB, bsum]
      rw [← bsum_add]
      refine bsum_congr fun f' f => ?_
      rw [← bsum_add]
      refine bsum_congr fun t' t => ?_
      rw [Nat.add_comm]
      congr 1
      refine bsum_congr fun o' o => ?_
      by_cases h2 : o' + 2 * t' + 4 * f' + 1 = a
      · rw [if_pos (by omega), if_pos h2]
      · rw [if_neg (by omega), if_neg h2]
    · simp only [plus, addLp, if_true, if_false, wB, bsum, show ¬ (2 = 1) by decide]
      rw [← bsum_add]
      refine bsum_congr fun f' f => ?_
      rw [Nat.add_comm]
      congr 1
      refine bsum_congr fun t' t => bsum_congr fun o' o => ?_
      by_cases h2 : o' + 2 * t' + 4 * f' + 2 = a
      · rw [if_pos (by omega), if_pos h2]
      · rw [if_neg (by omega), if_neg h2]
    · simp only [plus, addLp, if_true, if_false, wB, bsum, show ¬ (4 = 1) by decide, show ¬ (4 = 2) by decide]
      rw [Nat.add_comm]
      congr 1
end Go.Proofs.YtbcbaaapogejiaaDoor
