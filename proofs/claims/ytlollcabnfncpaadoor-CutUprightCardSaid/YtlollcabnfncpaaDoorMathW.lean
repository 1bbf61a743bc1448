/-
  Two sheets, one below the other: numbers of fillings, and the first fillings laid one behind the other.
-/
import Derived.Test.YtlollcabnfncpaaDoorMathV
import Derived.Test.YtlollcabnfncpaaDoorCuts
namespace Go.Proofs.YtlollcabnfncpaaDoor

theorem und_up {s t : Sh} (hc : s.c = t.c) (hl : s.l = t.l) (hw : s.w = t.w) (x : Cd) : und s x = und t x := by
  obtain ⟨r, c, l, w⟩ := s
  obtain ⟨r', c', l', w'⟩ := t
  dsimp only at hc hl hw
  subst hc hl hw
  have hrow : ∀ a b n, rowM ⟨r, c, l, w⟩ a b n = rowM ⟨r', c, l, w⟩ a b n := fun a b n => by
    induction n with
    | zero => rfl
    | succ n ih => rw [rowM, rowM, ih]
  have hblk : ∀ a b n m, blkM ⟨r, c, l, w⟩ a b n m = blkM ⟨r', c, l, w⟩ a b n m := fun a b n m => by
    induction m with
    | zero => rfl
    | succ m ih => rw [blkM, blkM, ih, hrow]
  unfold und
  rw [hblk]
  rfl

theorem sum_le_filter {α : Type} {p : α → Bool} {f : α → Nat} : ∀ l : List α, ((l.filter p).map f).sum ≤ (l.map f).sum
  | [] => Nat.le_refl _
  | x :: l => by
    have ih := sum_le_filter (p := p) (f := f) l
    rw [List.filter_cons]
    split
    · simp only [List.map_cons, List.sum_cons]; omega
    · simp only [List.map_cons, List.sum_cons]; omega
theorem sum_mul_le {α : Type} {f g : α → Nat} {K : Nat} : ∀ l : List α, (∀ x ∈ l, f x * K ≤ g x) → (l.map f).sum * K ≤ (l.map g).sum
  | [], _ => by simp
  | x :: l, h => by
    simp only [List.map_cons, List.sum_cons, Nat.add_mul]
    have h1 := h x (by simp)
    have h2 := sum_mul_le l fun y hy => h y (by simp [hy])
    omega

/-- The cards that can be laid on the upper sheet can be laid on the whole. -/
theorem nxt_up {s t : Sh} (hc : s.c = t.c) (hl : s.l = t.l) (hw : s.w = t.w) (hr : s.r ≤ t.r) (cov : Nat) : nxt s cov = (nxt t cov).filter fun x => decide (fitP s x) := by
  have hh : ∀ b, hiS s b = hiS t b := fun b => by unfold hiS; rw [hl, hw]
  have hv : ∀ b, wiS s b = wiS t b := fun b => by unfold wiS; rw [hl, hw]
  have ht : tryL s cov = tryL t cov := by unfold tryL; rw [hc, hl, hw]
  unfold nxt
  rw [ht, List.filter_filter]
  refine List.filter_congr fun x _ => ?_
  rw [← Bool.decide_and]
  refine decide_eq_decide.2 ?_
  unfold freeP
  rw [und_up hc hl hw]
  unfold fitP
  rw [hh, hv, hc]
  omega

theorem cnt_stack {s t : Sh} (hs : s.Ok) (ht : t.Ok) (hc : s.c = t.c) (hl : s.l = t.l) (hw : s.w = t.w) (hr : s.r < t.r) : ∀ (k cov : Nat), lft s cov < k → InS s cov → cntC s cov * cntC t (whl s) ≤ cntC t cov
  | 0, _, h, _ => absurd h (Nat.not_lt_zero _)
  | k + 1, cov, h, hin => by
    rw [cntC_eq hs cov]
    by_cases hcov : cov = whl s
    · rw [if_pos hcov, Nat.one_mul, hcov]
      exact Nat.le_refl _
    · rw [if_neg hcov]
      have hne : cov ≠ whl t := by
        intro e
        have h1 : cov < 2 ^ (s.r * s.c) := hin
        have h2 : s.r * s.c < t.r * t.c := by
          rw [hc]
          exact Nat.mul_lt_mul_of_pos_right hr ht.c1
        have h3 : 2 ^ (s.r * s.c) < 2 ^ (t.r * t.c) := Nat.pow_lt_pow_right (by decide) h2
        have h4 : whl t = 2 ^ (t.r * t.c) - 1 := rfl
        omega
      rw [cntC_eq ht cov, if_neg hne]
      refine Nat.le_trans ?_ (sum_le_filter (p := fun x => decide (fitP s x)) (nxt t cov))
      rw [← nxt_up hc hl hw (by omega)]
      refine sum_mul_le _ fun x hx => ?_
      have h1 := lft_nxt hs hx
      have := cnt_stack hs ht hc hl hw hr k (cov ||| und s x) (by omega) (hin.or (mem_nxt hx).2.1)
      rw [← und_up hc hl hw]
      exact this

/-- The first filling that is found. -/
def fstB (s : Sh) : Nat → Nat → List Cd → Option (List Cd)
  | 0, _, _ => none
  | n + 1, cov, pre => if cov = whl s then some pre else (nxt s cov).findSome? fun x => fstB s n (cov ||| und s x) (pre ++ [x])
theorem head_flatMap {α β : Type} {f : α → List β} : ∀ l : List α, (l.flatMap f).head? = l.findSome? fun x => (f x).head?
  | [] => rfl
  | x :: l => by
    rw [List.flatMap_cons, List.head?_append, List.findSome?_cons, head_flatMap l]
    cases (f x).head? <;> rfl
theorem findSome_cong {α β : Type} {f g : α → Option β} : ∀ {l : List α}, (∀ x ∈ l, f x = g x) → l.findSome? f = l.findSome? g
  | [], _ => rfl
  | x :: l, h => by
    rw [List.findSome?_cons, List.findSome?_cons, h x (by simp), findSome_cong fun y hy => h y (by simp [hy])]
theorem fstB_eq (s : Sh) : ∀ (n cov : Nat) (pre : List Cd), fstB s n cov pre = (fils s n cov pre).head?
  | 0, _, _ => rfl
  | n + 1, cov, pre => by
    rw [fstB, fils]
    split
    · rfl
    · rw [head_flatMap]
      exact findSome_cong fun x _ => fstB_eq s n _ _

/-- Cards some rows further down. -/
def downC (r : Nat) (x : Cd) : Cd := ⟨x.row + r, x.col, x.t⟩
/-- Both first fillings, one behind the other, are right, and are cut between the sheets. -/
def stackB (r1 r2 c l w : Nat) : Bool :=
  decide (cnt ⟨r2, c, l, w⟩ 37 0 ≤ cnt ⟨r1 + r2, c, l, w⟩ 37 (whl ⟨r1, c, l, w⟩)) &&
  match fstB ⟨r1, c, l, w⟩ 37 0 [], fstB ⟨r2, c, l, w⟩ 37 0 [] with
  | some a, some b => verS ⟨r1 + r2, c, l, w⟩ (a ++ b.map (downC r1)) == 0 && (cutsR ⟨r1 + r2, c, l, w⟩ (a ++ b.map (downC r1))).contains (r1 : Int) && b.all fun x => decide (0 ≤ x.row ∧ x.row ≤ 6)
  | _, _ => true
def three : List Nat := [1, 2, 3]
theorem mem_three {n : Nat} : n ∈ three ↔ 1 ≤ n ∧ n ≤ 3 := by
  unfold three
  simp only [List.mem_cons, List.not_mem_nil, or_false]
  omega
theorem stack_all : (three.all fun r1 => three.all fun r2 => six.all fun c => six.all fun l => six.all fun w => stackB r1 r2 c l w) = true := by decide +kernel
end Go.Proofs.YtlollcabnfncpaaDoor
