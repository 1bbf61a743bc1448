/-
  In how many ways rings get colours: the reference's way, and the program's.
-/
import Derived.Test.YtbcbaaapogejiaaDoorMathB
namespace Go.Proofs.YtbcbaaapogejiaaDoor

def pntN : List Nat → List Nat → Nat
  | [], _ => 1
  | r :: rs, as => takes (pntN rs) r as

def sumN (l : List Nat) : Nat := l.foldr (· + ·) 0
theorem sumN_cons (a : Nat) (l : List Nat) : sumN (a :: l) = a + sumN l := rfl
/-- One of the ways to take r, at a place. -/
def takeAt (g : List Nat → Nat) (r : Nat) (as : List Nat) (i : Nat) : Nat := if r ≤ as.getD i 0 then g (as.set i (as.getD i 0 - r)) else 0
theorem takes_sum : ∀ (as : List Nat) (g : List Nat → Nat) (r : Nat), takes g r as = ssum (takeAt g r as) as.length
  | [], _, _ => rfl
  | a :: as, g, r => by
    rw [takes, List.length_cons, ssum_first, takes_sum as]
    congr 1
theorem takes_congr {r : Nat} : ∀ {as : List Nat} {g h : List Nat → Nat}, (∀ l, l.length = as.length → sumN l + r = sumN as → g l = h l) → takes g r as = takes h r as
  | [], _, _, _ => rfl
  | a :: as, g, h, hh => by
    rw [takes, takes]
    congr 1
    · by_cases hr : r ≤ a
      · rw [if_pos hr, if_pos hr]
        exact hh _ rfl (by rw [sumN_cons, sumN_cons]; omega)
      · rw [if_neg hr, if_neg hr]
    · exact takes_congr fun l hl hs => hh _ (by simp [hl]) (by rw [sumN_cons, sumN_cons]; omega)
theorem ssum_le {g : Nat → Nat} {B : Nat} : ∀ {k : Nat}, (∀ i, i < k → g i ≤ B) → ssum g k ≤ k * B
  | 0, _ => Nat.zero_le _
  | k + 1, h => by
    have := ssum_le (k := k) fun i hi => h i (by omega)
    have := h k (by omega)
    rw [ssum, Nat.add_mul, Nat.one_mul]
    omega
theorem pnt_le : ∀ (rs as : List Nat), pntN rs as ≤ as.length ^ rs.length
  | [], _ => Nat.le_refl _
  | r :: rs, as => by
    rw [pntN, takes_sum, List.length_cons, Nat.pow_succ, Nat.mul_comm]
    refine ssum_le fun i _ => ?_
    unfold takeAt
    split
    · have := pnt_le rs (as.set i (as.getD i 0 - r))
      rwa [List.length_set] at this
    · exact Nat.zero_le _

def sizeLp (l : Lp) : Nat := l.o + 2 * l.t + 4 * l.f
theorem wB_none : ∀ (as : List Nat) (l : Lp), sizeLp l < sumN as → wB as l = 0
  | [], l, h => by simp [sumN] at h
  | a :: as, l, h => by
    rw [sumN_cons] at h
    unfold sizeLp at h
    have hz : ∀ (n : Nat) (F : Nat → Nat → Nat), (∀ i j, i + j = n → F i j = 0) → bsum n F = 0 := fun n F hF => by
      have h1 := bsum_le (n := n) (F := F) (G := fun _ _ => 0) (fun i j e => by rw [hF i j e]; exact Nat.le_refl _)
      rw [bsum_zero] at h1
      omega
    rw [wB]
    refine hz _ _ fun f' f hf => hz _ _ fun t' t ht => hz _ _ fun o' o ho => ?_
    split
    · exact wB_none as ⟨o, t, f⟩ (by unfold sizeLp; simp only; omega)
    · rfl

def lpR : List Nat → Lp
  | [] => ⟨0, 0, 0⟩
  | r :: rs => plus (lpR rs) r
def lpC (rs : List Nat) : Lp := ⟨rs.count 1, rs.count 2, rs.count 4⟩
theorem addLp_count (l : Lp) (r : Nat) : addLp l r = ⟨l.o + [r].count 1, l.t + [r].count 2, l.f + [r].count 4⟩ := by
  unfold addLp
  by_cases h1 : r = 1
  · subst h1; rfl
  · rw [if_neg h1]
    by_cases h2 : r = 2
    · subst h2; rfl
    · rw [if_neg h2]
      by_cases h4 : r = 4
      · subst h4; rfl
      · rw [if_neg h4]
        have e1 : [r].count 1 = 0 := by simp [h1]
        have e2 : [r].count 2 = 0 := by simp [h2]
        have e4 : [r].count 4 = 0 := by simp [h4]
        rw [e1, e2, e4]; rfl
theorem lpR_count : ∀ rs, lpR rs = lpC rs
  | [] => rfl
  | r :: rs => by
    rw [lpR, plus, addLp_count, lpR_count rs]
    unfold lpC
    have e : ∀ x, (r :: rs).count x = rs.count x + [r].count x := fun x => by rw [List.count_cons, List.count_cons, List.count_nil]; omega
    rw [e, e, e]
theorem lpOf_count (ls : List Nat) : lpOf ls = lpC ls := by
  have key : ∀ (ls : List Nat) (l : Lp), ls.foldl addLp l = ⟨l.o + ls.count 1, l.t + ls.count 2, l.f + ls.count 4⟩ := by
    intro ls
    induction ls with
    | nil => intro l; rfl
    | cons r ls ih =>
      intro l
      rw [List.foldl_cons, ih, addLp_count]
      have e : ∀ x, (r :: ls).count x = [r].count x + ls.count x := fun x => by rw [List.count_cons, List.count_cons, List.count_nil]; omega
      rw [e, e, e]
      simp only [Nat.add_assoc]
  unfold lpOf
  rw [key]
  simp [lpC]
theorem lpC_filter (ls : List Nat) : lpC (ls.filter (0 < ·)) = lpC ls := by
  unfold lpC
  rw [List.count_filter (by decide), List.count_filter (by decide), List.count_filter (by decide)]
theorem size_lpR : ∀ {rs : List Nat}, (∀ r ∈ rs, r = 1 ∨ r = 2 ∨ r = 4) → sizeLp (lpR rs) = sumN rs
  | [], _ => rfl
  | r :: rs, h => by
    have ih := size_lpR (rs := rs) fun x hx => h x (by simp [hx])
    rw [sumN_cons, ← ih, lpR, plus, addLp_count]
    unfold sizeLp
    rcases h r (by simp) with rfl | rfl | rfl
    · simp; omega
    · simp; omega
    · simp; omega
theorem wB_nil : ∀ (as : List Nat), sumN as = 0 → wB as ⟨0, 0, 0⟩ = 1
  | [], _ => rfl
  | a :: as, h => by
    rw [sumN_cons] at h
    have e : a = 0 := by omega
    subst e
    show (if 0 + 2 * 0 + 4 * 0 = 0 then wB as ⟨0, 0, 0⟩ else 0) = 1
    rw [if_pos rfl]
    exact wB_nil as (by omega)
theorem wB_pnt : ∀ (rs as : List Nat), (∀ r ∈ rs, r = 1 ∨ r = 2 ∨ r = 4) → sumN as = sumN rs → wB as (lpR rs) = pntN rs as
  | [], as, _, h => wB_nil as h
  | r :: rs, as, hr, h => by
    have hrs : ∀ x ∈ rs, x = 1 ∨ x = 2 ∨ x = 4 := fun x hx => hr x (by simp [hx])
    have hr1 := hr r (by simp)
    rw [sumN_cons] at h
    rw [lpR, wB_more r hr1, wB_none as (lpR rs) (by rw [size_lpR hrs, h]; omega), Nat.add_zero, pntN]
    exact takes_congr fun l _ hl => wB_pnt rs l hrs (by omega)

/-- The turn that leaves all cells. -/
def mulN : List Nat → Nat → Nat
  | [], _ => 1
  | a :: as, left => ch left a * mulN as (left - a)
theorem mulN_with : ∀ (as : List Nat) (n : Nat), sumN as ≤ n → withN as ⟨n, 0, 0⟩ = mulN as n
  | [], _, _ => rfl
  | a :: as, n, h => by
    rw [sumN_cons] at h
    have e : withN (a :: as) ⟨n, 0, 0⟩ = 0 + (0 + term (withN as) a ⟨n, 0, 0⟩ 0 0) := rfl
    rw [e, term, if_pos ⟨by omega, by simp only; omega⟩]
    have hz : a - 2 * 0 - 4 * 0 = a := by omega
    rw [hz, mulN, ← mulN_with as (n - a) (by omega)]
    simp [ch]
theorem loops_still : ∀ R, R < 5 → ∀ C, C < 5 → loopsN (srcs R C (mv 0)) = ⟨R * C, 0, 0⟩ := by decide +kernel

def chQ (m n : Nat) : Nat → Nat
  | 0 => 1
  | i + 1 => chQ m n i * (m - n + (i + 1)) / (i + 1)
theorem chQ_eq : ∀ m, m < 17 → ∀ n, n ≤ m → chQ m n n = ch m n ∧ ∀ i, i ≤ n → chQ m n i ≤ 20000 := by decide +kernel
theorem mulN_cons (a : Nat) (as : List Nat) (n : Nat) : mulN (a :: as) n = ch n a * mulN as (n - a) := rfl

theorem with_rings {s : List Int} {as : List Nat} (h : ∀ n ∈ lensN s, n = 0 ∨ n = 1 ∨ n = 2 ∨ n = 4) (hs : sumN as = sizeLp (loopsN s)) : withN as (loopsN s) = pntN ((lensN s).filter (0 < ·)) as := by
  have hr : ∀ r ∈ (lensN s).filter (0 < ·), r = 1 ∨ r = 2 ∨ r = 4 := by
    intro r hr
    obtain ⟨h1, h2⟩ := List.mem_filter.1 hr
    have := h r h1
    simp at h2
    omega
  have e : loopsN s = lpR ((lensN s).filter (0 < ·)) := by rw [lpR_count, lpC_filter, ← lpOf_count]; rfl
  rw [withN_eq, e, wB_pnt _ _ hr]
  rw [hs, e, size_lpR hr]
end Go.Proofs.YtbcbaaapogejiaaDoor
