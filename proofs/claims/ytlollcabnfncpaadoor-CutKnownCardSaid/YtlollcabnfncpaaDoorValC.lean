/-
  Fillings of the largest sheets, level by level: their number; that none is solid; a solid one.
-/
import Derived.Test.YtlollcabnfncpaaDoorVal
namespace Go.Proofs.YtlollcabnfncpaaDoor

/-- One more way to cover some squares, so many times. -/
def insN (k m : Nat) : List (Nat × Nat) → List (Nat × Nat)
  | [] => [(k, m)]
  | p :: l => if k = p.1 then (k, m + p.2) :: l else p :: insN k m l
def addN (s : Sh) (cov m : Nat) : List Cd → List (Nat × Nat) → List (Nat × Nat)
  | [], l => l
  | x :: xs, l => insN (cov ||| und s x) m (addN s cov m xs l)
def expN (s : Sh) : List (Nat × Nat) → List (Nat × Nat)
  | [] => []
  | p :: l => if p.1 = whl s then insN p.1 p.2 (expN s l) else addN s p.1 p.2 (nxt s p.1) (expN s l)
def totN (s : Sh) : List (Nat × Nat) → Nat
  | [] => 0
  | p :: l => p.2 * cntC s p.1 + totN s l
theorem totN_one (s : Sh) (c m : Nat) : totN s [(c, m)] = m * cntC s c := by simp [totN]
theorem tot_ins (s : Sh) (k m : Nat) : ∀ l, totN s (insN k m l) = m * cntC s k + totN s l
  | [] => rfl
  | p :: l => by
    rw [insN]
    split
    · rename_i h
      rw [totN, totN, h]
      dsimp only
      rw [Nat.add_mul]
      omega
    · rw [totN, totN, tot_ins s k m l]; omega
theorem tot_add (s : Sh) (cov m : Nat) : ∀ (xs : List Cd) (l : List (Nat × Nat)), totN s (addN s cov m xs l) = m * (xs.map fun x => cntC s (cov ||| und s x)).sum + totN s l
  | [], l => by simp [addN]
  | x :: xs, l => by
    rw [addN, tot_ins, tot_add s cov m xs l, List.map_cons, List.sum_cons, Nat.mul_add]; omega
theorem tot_exp {s : Sh} (hs : s.Ok) : ∀ l, totN s (expN s l) = totN s l
  | [] => rfl
  | p :: l => by
    rw [expN]
    split
    · rw [tot_ins, totN, tot_exp hs l]
    · rename_i h
      rw [tot_add, totN, tot_exp hs l, cntC_eq hs p.1, if_neg h]
def iterN (s : Sh) : Nat → List (Nat × Nat) → List (Nat × Nat)
  | 0, l => l
  | n + 1, l => iterN s n (expN s l)
theorem tot_iter {s : Sh} (hs : s.Ok) : ∀ n l, totN s (iterN s n l) = totN s l
  | 0, _ => rfl
  | n + 1, l => by rw [iterN, tot_iter hs n, tot_exp hs]

def s66 : Sh := ⟨6, 6, 2, 1⟩
theorem s66_ok : s66.Ok := ⟨by decide, by decide, by decide, by decide, by decide, by decide, by decide, by decide⟩
set_option maxRecDepth 100000 in
theorem lev66 : iterN s66 18 [(0, 1)] = [(whl s66, 6728)] := by decide +kernel
theorem cnt66 : cntC s66 0 = 6728 := by
  have h := tot_iter s66_ok 18 [(0, 1)]
  rw [lev66, totN_one, totN_one, Nat.one_mul, cntC_eq s66_ok (whl s66), if_pos rfl, Nat.mul_one] at h
  exact h.symm
theorem k_cnt6 : cntS 6 6 2 1 = 6728 := by
  unfold cntS
  rw [if_pos (by decide)]
  exact congrArg Nat.cast cnt66

/-- Which of the lines between rows, and between columns, a card crosses. -/
def lineM (a b : Int) (o : Nat) : Nat → Nat
  | 0 => 0
  | i + 1 => if a < ((i + 1 : Nat) : Int) ∧ ((i + 1 : Nat) : Int) < b then lineM a b o i ||| 2 ^ (o + i) else lineM a b o i
def crM (s : Sh) (x : Cd) : Nat := lineM x.row (x.row + (hiS s x.t : Nat)) 0 5 ||| lineM x.col (x.col + (wiS s x.t : Nat)) 5 5
def mskF (s : Sh) (l : List Cd) : Nat := l.foldl (fun m x => m ||| crM s x) 0

theorem lineM_bit (a b : Int) (o : Nat) : ∀ (n j : Nat), (lineM a b o n).testBit (o + j) = true ↔ j < n ∧ a < ((j + 1 : Nat) : Int) ∧ ((j + 1 : Nat) : Int) < b
  | 0, j => by simp [lineM]
  | n + 1, j => by
    rw [lineM]
    split
    · rename_i h
      rw [Nat.testBit_or, Bool.or_eq_true, lineM_bit a b o n j, Nat.testBit_two_pow, decide_eq_true_eq]
      constructor
      · rintro (⟨h1, h2⟩ | h1)
        · exact ⟨by omega, h2⟩
        · have : n = j := by omega
          subst this
          exact ⟨by omega, h⟩
      · rintro ⟨h1, h2⟩
        by_cases e : n = j
        · exact .inr (by omega)
        · exact .inl ⟨by omega, h2⟩
    · rename_i h
      rw [lineM_bit a b o n j]
      constructor
      · rintro ⟨h1, h2⟩; exact ⟨by omega, h2⟩
      · rintro ⟨h1, h2⟩
        by_cases e : n = j
        · subst e; exact absurd h2 h
        · exact ⟨by omega, h2⟩

theorem foldl_bit (s : Sh) (i : Nat) : ∀ (l : List Cd) (m : Nat), (l.foldl (fun m x => m ||| crM s x) m).testBit i = true ↔ m.testBit i = true ∨ ∃ x ∈ l, (crM s x).testBit i = true
  | [], m => by simp
  | x :: l, m => by
    rw [List.foldl_cons, foldl_bit s i l, Nat.testBit_or, Bool.or_eq_true]
    simp only [List.mem_cons, exists_eq_or_imp, or_assoc]

/-- A solid filling of a sheet of six rows and columns crosses all lines. -/
theorem solid_bits {s : Sh} (hr : s.r = 6) (hc : s.c = 6) {l : List Cd} (h : solidP s l = true) : ∀ i, i < 10 → (mskF s l).testBit i = true := by
  unfold solidP at h
  rw [Bool.and_eq_true] at h
  obtain ⟨h1, h2⟩ := h
  have h1' : gapL 0 s.r (rowsB (l.map (blk s))) = [] := List.eq_nil_of_length_eq_zero (by simpa using h1)
  have h2' : gapL 0 s.c (colsB (l.map (blk s))) = [] := List.eq_nil_of_length_eq_zero (by simpa using h2)
  have key : ∀ (sp : List (Int × Int)) (n : Nat) (j : Nat), gapN 0 n sp = [] → j < n → ∃ p ∈ sp, p.1 < ((j + 1 : Nat) : Int) ∧ ((j + 1 : Nat) : Int) < p.2 := by
    intro sp n j hg hj
    unfold gapN at hg
    rw [List.filter_eq_nil_iff] at hg
    have := hg (0 + 1 + (j : Nat)) (List.mem_map.2 ⟨j, List.mem_range.2 hj, rfl⟩)
    simp only [Bool.not_eq_true, List.all_eq_false] at this
    obtain ⟨p, hp, hpp⟩ := this
    refine ⟨p, hp, ?_⟩
    simp at hpp
    omega
  intro i hi
  unfold mskF
  rw [foldl_bit]
  refine .inr ?_
  by_cases h5 : i < 5
  · have hgl : gapN 0 5 (rowsB (l.map (blk s))) = [] := by
      have := h1'
      unfold gapL at this
      rw [hr] at this
      exact this
    obtain ⟨p, hp, hpp⟩ := key _ 5 i hgl h5
    unfold rowsB at hp
    obtain ⟨y, hy, rfl⟩ := List.mem_map.1 hp
    obtain ⟨x, hx, rfl⟩ := List.mem_map.1 hy
    refine ⟨x, hx, ?_⟩
    unfold crM
    rw [Nat.testBit_or, Bool.or_eq_true]
    left
    have := (lineM_bit x.row (x.row + (hiS s x.t : Nat)) 0 5 i).2 ⟨h5, hpp⟩
    simpa using this
  · have hgl : gapN 0 5 (colsB (l.map (blk s))) = [] := by
      have := h2'
      unfold gapL at this
      rw [hc] at this
      exact this
    obtain ⟨p, hp, hpp⟩ := key _ 5 (i - 5) hgl (by omega)
    unfold colsB at hp
    obtain ⟨y, hy, rfl⟩ := List.mem_map.1 hp
    obtain ⟨x, hx, rfl⟩ := List.mem_map.1 hy
    refine ⟨x, hx, ?_⟩
    unfold crM
    rw [Nat.testBit_or, Bool.or_eq_true]
    right
    have := (lineM_bit x.col (x.col + (wiS s x.t : Nat)) 5 5 (i - 5)).2 ⟨by omega, hpp⟩
    rwa [show 5 + (i - 5) = i by omega] at this

/-- Lines that are crossed, all of them known to be in another set. -/
def subN (a b : Nat) : Prop := a ||| b = b
instance (a b : Nat) : Decidable (subN a b) := by unfold subN; infer_instance
theorem subN_refl (a : Nat) : subN a a := Nat.or_self a
theorem subN_trans {a b c : Nat} (h : subN a b) (k : subN b c) : subN a c := by
  unfold subN at *
  rw [← k, ← Nat.or_assoc, h]
theorem subN_or {a b : Nat} (h : subN a b) (c : Nat) : subN (a ||| c) (b ||| c) := by
  unfold subN at *
  rw [Nat.or_assoc, Nat.or_comm c, Nat.or_assoc, Nat.or_self, ← Nat.or_assoc, h]
theorem subN_bit {a b i : Nat} (h : subN a b) (hi : a.testBit i = true) : b.testBit i = true := by
  unfold subN at h
  rw [← h, Nat.testBit_or, hi, Bool.true_or]

/-- Sets of lines that are not in one another. -/
def insM (m : Nat) (l : List Nat) : List Nat := if l.any (fun b => decide (subN m b)) then l else m :: l.filter fun b => !decide (subN b m)
theorem insM_old {m a : Nat} {l : List Nat} (h : ∃ b ∈ l, subN a b) : ∃ b ∈ insM m l, subN a b := by
  unfold insM
  split
  · exact h
  · obtain ⟨b, hb, hab⟩ := h
    by_cases hbm : subN b m
    · exact ⟨m, by simp, subN_trans hab hbm⟩
    · exact ⟨b, by simp [hb, hbm], hab⟩
theorem insM_new (m : Nat) (l : List Nat) : ∃ b ∈ insM m l, subN m b := by
  unfold insM
  split
  · rename_i h
    obtain ⟨b, hb, hmb⟩ := List.any_eq_true.1 h
    exact ⟨b, hb, by simpa using hmb⟩
  · exact ⟨m, by simp, subN_refl m⟩

def putM (k : Nat) (ms : List Nat) : List (Nat × List Nat) → List (Nat × List Nat)
  | [] => [(k, ms.foldr insM [])]
  | p :: l => if k = p.1 then (p.1, ms.foldr insM p.2) :: l else p :: putM k ms l
def InT (T : List (Nat × List Nat)) (c a : Nat) : Prop := ∃ p ∈ T, p.1 = c ∧ ∃ b ∈ p.2, subN a b
theorem foldr_ins_old {a : Nat} {l : List Nat} (h : ∃ b ∈ l, subN a b) : ∀ ms : List Nat, ∃ b ∈ ms.foldr insM l, subN a b
  | [] => h
  | _ :: ms => insM_old (foldr_ins_old h ms)
theorem foldr_ins_new {a : Nat} (l : List Nat) : ∀ ms : List Nat, (∃ b ∈ ms, subN a b) → ∃ b ∈ ms.foldr insM l, subN a b
  | [], h => by simp at h
  | m :: ms, ⟨b, hb, hab⟩ => by
    rcases List.mem_cons.1 hb with rfl | hb
    · obtain ⟨d, hd, hbd⟩ := insM_new b (ms.foldr insM l)
      exact ⟨d, hd, subN_trans hab hbd⟩
    · exact insM_old (foldr_ins_new l ms ⟨b, hb, hab⟩)
theorem putM_old {k : Nat} {ms : List Nat} {c a : Nat} : ∀ {T : List (Nat × List Nat)}, InT T c a → InT (putM k ms T) c a
  | [], h => by obtain ⟨p, hp, _⟩ := h; simp at hp
  | q :: T, h => by
    rw [putM]
    obtain ⟨p, hp, hc, hb⟩ := h
    split
    · rcases List.mem_cons.1 hp with rfl | hp
      · exact ⟨(p.1, ms.foldr insM p.2), by simp, hc, foldr_ins_old hb ms⟩
      · exact ⟨p, by simp [hp], hc, hb⟩
    · rcases List.mem_cons.1 hp with rfl | hp
      · exact ⟨p, by simp, hc, hb⟩
      · obtain ⟨p', hp', h'⟩ := putM_old (k := k) (ms := ms) (T := T) ⟨p, hp, hc, hb⟩
        exact ⟨p', by simp [hp'], h'⟩
theorem putM_new {k : Nat} {ms : List Nat} {a : Nat} (h : ∃ b ∈ ms, subN a b) : ∀ T : List (Nat × List Nat), InT (putM k ms T) k a
  | [] => ⟨(k, ms.foldr insM []), by simp [putM], rfl, foldr_ins_new [] ms h⟩
  | q :: T => by
    rw [putM]
    split
    · rename_i hk
      exact ⟨(q.1, ms.foldr insM q.2), by simp, hk.symm, foldr_ins_new q.2 ms h⟩
    · obtain ⟨p', hp', h'⟩ := putM_new (k := k) h T
      exact ⟨p', by simp [hp'], h'⟩
def addM (s : Sh) (cov : Nat) (ms : List Nat) : List Cd → List (Nat × List Nat) → List (Nat × List Nat)
  | [], l => l
  | x :: xs, l => putM (cov ||| und s x) (ms.map (· ||| crM s x)) (addM s cov ms xs l)
def expM (s : Sh) : List (Nat × List Nat) → List (Nat × List Nat)
  | [] => []
  | p :: l => if p.1 = whl s then putM p.1 p.2 (expM s l) else addM s p.1 p.2 (nxt s p.1) (expM s l)
theorem addM_old {s : Sh} {cov : Nat} {ms : List Nat} {c a : Nat} : ∀ {xs : List Cd} {T : List (Nat × List Nat)}, InT T c a → InT (addM s cov ms xs T) c a
  | [], _, h => h
  | _ :: _, _, h => putM_old (addM_old h)
theorem addM_new {s : Sh} {cov : Nat} {ms : List Nat} {a : Nat} {x : Cd} (h : ∃ b ∈ ms, subN a b) : ∀ {xs : List Cd} {T : List (Nat × List Nat)}, x ∈ xs → InT (addM s cov ms xs T) (cov ||| und s x) (a ||| crM s x)
  | [], _, hx => by simp at hx
  | y :: xs, T, hx => by
    rw [addM]
    rcases List.mem_cons.1 hx with rfl | hx
    · refine putM_new ?_ _
      obtain ⟨b, hb, hab⟩ := h
      exact ⟨b ||| crM s x, List.mem_map.2 ⟨b, hb, rfl⟩, subN_or hab _⟩
    · exact putM_old (addM_new h hx)
theorem expM_whl {s : Sh} {a : Nat} : ∀ {T : List (Nat × List Nat)}, InT T (whl s) a → InT (expM s T) (whl s) a
  | [], h => h
  | p :: T, h => by
    rw [expM]
    obtain ⟨q, hq, hc, hb⟩ := h
    rcases List.mem_cons.1 hq with rfl | hq
    · rw [if_pos hc]
      have := putM_new (k := q.1) hb (expM s T)
      rwa [hc] at this ⊢
    · have := expM_whl (T := T) ⟨q, hq, hc, hb⟩
      split
      · exact putM_old this
      · exact addM_old this
theorem expM_next {s : Sh} {c a : Nat} {x : Cd} (hc : c ≠ whl s) (hx : x ∈ nxt s c) : ∀ {T : List (Nat × List Nat)}, InT T c a → InT (expM s T) (c ||| und s x) (a ||| crM s x)
  | [], h => by obtain ⟨p, hp, _⟩ := h; simp at hp
  | p :: T, h => by
    rw [expM]
    obtain ⟨q, hq, hqc, hb⟩ := h
    rcases List.mem_cons.1 hq with rfl | hq
    · subst hqc
      rw [if_neg hc]
      exact addM_new hb hx
    · have := expM_next hc hx (T := T) ⟨q, hq, hqc, hb⟩
      split
      · exact putM_old this
      · exact addM_old this
def iterM (s : Sh) : Nat → List (Nat × List Nat) → List (Nat × List Nat)
  | 0, l => l
  | n + 1, l => iterM s n (expM s l)
theorem iterM_whl {s : Sh} {a : Nat} : ∀ (n : Nat) {T : List (Nat × List Nat)}, InT T (whl s) a → InT (iterM s n T) (whl s) a
  | 0, _, h => h
  | n + 1, _, h => iterM_whl n (expM_whl h)
theorem iterM_fils {s : Sh} : ∀ (n k cov : Nat) (pre l : List Cd) (T : List (Nat × List Nat)), n ≤ k + 1 → InT T cov (mskF s pre) → l ∈ fils s n cov pre → InT (iterM s k T) (whl s) (mskF s l)
  | 0, _, _, _, _, _, _, _, hl => by simp [fils] at hl
  | n + 1, k, cov, pre, l, T, hn, hT, hl => by
    rw [fils] at hl
    split at hl
    · rename_i h
      rw [List.mem_singleton] at hl
      subst hl
      rw [h] at hT
      exact iterM_whl k hT
    · rename_i h
      obtain ⟨x, hx, hl⟩ := List.mem_flatMap.1 hl
      have hT' := expM_next h hx hT
      match k, n, hn with
      | 0, 0, _ => simp [fils] at hl
      | k + 1, n, hn =>
        refine iterM_fils n k (cov ||| und s x) (pre ++ [x]) l (expM s T) (by omega) ?_ hl
        have e : mskF s (pre ++ [x]) = mskF s pre ||| crM s x := by unfold mskF; rw [List.foldl_append]; rfl
        rw [e]
        exact hT'

set_option maxRecDepth 100000 in
theorem lev66M : (iterM s66 36 [(0, [0])]).all (fun p => p.2.all fun b => decide (b < 1023)) = true := by decide +kernel
theorem none66 : ∀ l ∈ allF s66, solidP s66 l = false := by
  intro l hl
  rcases h : solidP s66 l with _ | _
  · rfl
  · obtain ⟨p, hp, _, b, hb, hsub⟩ := iterM_fils (s := s66) 37 36 0 [] l [(0, [0])] (by omega) ⟨(0, [0]), by simp, rfl, 0, by simp, by simp [subN, mskF]⟩ hl
    have h1 := List.all_eq_true.1 (List.all_eq_true.1 lev66M p hp) b hb
    have hlt : b < 1023 := by simpa using h1
    have hbits := solid_bits (s := s66) rfl rfl h
    have hall : ∀ i, i < 10 → b.testBit i = true := fun i hi => subN_bit hsub (hbits i hi)
    have he : b = 1023 := by
      refine Nat.eq_of_testBit_eq fun i => ?_
      rw [show 1023 = 2 ^ 10 - 1 from rfl, Nat.testBit_two_pow_sub_one]
      by_cases hi : i < 10
      · rw [hall i hi, decide_eq_true hi]
      · rw [decide_eq_false hi]
        exact Nat.testBit_lt_two_pow (Nat.lt_of_lt_of_le (show b < 2 ^ 10 by omega) (Nat.pow_le_pow_right (by decide) (by omega)))
    omega
theorem k_sol6 : solS 6 6 2 1 = none := by
  have e : solS 6 6 2 1 = (allF s66).find? (solidP s66) := by unfold solS; rw [if_pos (by decide)]; rfl
  rw [e, List.find?_eq_none]
  intro l hl h
  rw [none66 l hl] at h
  cases h

/-- A path of cards that are laid one after the other. -/
def pathB (s : Sh) : Nat → Nat → List Cd → Bool
  | 0, _, _ => false
  | _ + 1, cov, [] => decide (cov = whl s)
  | n + 1, cov, x :: l => decide (cov ≠ whl s) && (decide (x ∈ nxt s cov) && pathB s n (cov ||| und s x) l)
theorem path_mem {s : Sh} : ∀ (n cov : Nat) (pre l : List Cd), pathB s n cov l = true → pre ++ l ∈ fils s n cov pre
  | 0, _, _, _, h => by simp [pathB] at h
  | n + 1, cov, pre, [], h => by
    rw [pathB] at h
    rw [fils, if_pos (by simpa using h)]
    simp
  | n + 1, cov, pre, x :: l, h => by
    rw [pathB, Bool.and_eq_true, Bool.and_eq_true] at h
    obtain ⟨h1, h2, h3⟩ := h
    rw [fils, if_neg (by simpa using h1)]
    refine List.mem_flatMap.2 ⟨x, by simpa using h2, ?_⟩
    have := path_mem n (cov ||| und s x) (pre ++ [x]) l h3
    rwa [List.append_assoc] at this
def s56 : Sh := ⟨5, 6, 2, 1⟩
theorem s56_ok : s56.Ok := ⟨by decide, by decide, by decide, by decide, by decide, by decide, by decide, by decide⟩
def wit56 : List Cd := [⟨0, 0, false⟩, ⟨0, 1, false⟩, ⟨0, 2, true⟩, ⟨0, 4, true⟩, ⟨1, 2, false⟩, ⟨1, 3, true⟩, ⟨1, 5, false⟩, ⟨2, 0, true⟩, ⟨2, 3, false⟩, ⟨2, 4, false⟩, ⟨3, 0, false⟩, ⟨3, 1, true⟩, ⟨3, 5, false⟩, ⟨4, 1, true⟩, ⟨4, 3, true⟩]
set_option maxRecDepth 100000 in
theorem wit_path : pathB s56 37 0 wit56 = true := by decide +kernel
set_option maxRecDepth 100000 in
theorem wit_solid : solidP s56 wit56 = true := by decide +kernel

/-- After how many cards a sheet can be whole. -/
def lenB (s : Sh) : Nat → Nat → List (Nat × Nat) → Bool
  | _, 0, _ => true
  | d, n + 1, T => T.all (fun p => !decide (p.1 = whl s) || decide (d = 15)) && lenB s (d + 1) n (expN s (T.filter fun p => !decide (p.1 = whl s)))
theorem insN_mem {k m c : Nat} : ∀ {l : List (Nat × Nat)}, (c = k ∨ ∃ p ∈ l, p.1 = c) → ∃ p ∈ insN k m l, p.1 = c
  | [], h => by
    rcases h with rfl | ⟨p, hp, _⟩
    · exact ⟨(c, m), by simp [insN], rfl⟩
    · simp at hp
  | q :: l, h => by
    rw [insN]
    split
    · rename_i hk
      rcases h with rfl | ⟨p, hp, hc⟩
      · exact ⟨(c, m + q.2), by simp, rfl⟩
      · rcases List.mem_cons.1 hp with rfl | hp
        · exact ⟨(k, m + p.2), by simp, by rw [← hc]; exact hk⟩
        · exact ⟨p, by simp [hp], hc⟩
    · rcases h with rfl | ⟨p, hp, hc⟩
      · obtain ⟨p', hp', h'⟩ := insN_mem (k := c) (m := m) (c := c) (l := l) (.inl rfl)
        exact ⟨p', by simp [hp'], h'⟩
      · rcases List.mem_cons.1 hp with rfl | hp
        · exact ⟨p, by simp, hc⟩
        · obtain ⟨p', hp', h'⟩ := insN_mem (k := k) (m := m) (c := c) (l := l) (.inr ⟨p, hp, hc⟩)
          exact ⟨p', by simp [hp'], h'⟩
theorem addN_old {s : Sh} {cov m c : Nat} : ∀ {xs : List Cd} {l : List (Nat × Nat)}, (∃ p ∈ l, p.1 = c) → ∃ p ∈ addN s cov m xs l, p.1 = c
  | [], _, h => h
  | _ :: _, _, h => insN_mem (.inr (addN_old h))
theorem addN_new {s : Sh} {cov m : Nat} {x : Cd} : ∀ {xs : List Cd} {l : List (Nat × Nat)}, x ∈ xs → ∃ p ∈ addN s cov m xs l, p.1 = cov ||| und s x
  | [], _, h => by simp at h
  | y :: xs, l, h => by
    rcases List.mem_cons.1 h with rfl | h
    · exact insN_mem (.inl rfl)
    · exact insN_mem (.inr (addN_new h))
theorem expN_next {s : Sh} {c : Nat} {x : Cd} (hc : c ≠ whl s) (hx : x ∈ nxt s c) : ∀ {l : List (Nat × Nat)}, (∃ p ∈ l, p.1 = c) → ∃ p ∈ expN s l, p.1 = c ||| und s x
  | [], h => by obtain ⟨p, hp, _⟩ := h; simp at hp
  | q :: l, h => by
    rw [expN]
    obtain ⟨p, hp, hpc⟩ := h
    rcases List.mem_cons.1 hp with rfl | hp
    · subst hpc
      rw [if_neg hc]
      exact addN_new hx
    · have := expN_next hc hx (l := l) ⟨p, hp, hpc⟩
      split
      · exact insN_mem (.inr this)
      · exact addN_old this
theorem len_fils {s : Sh} : ∀ (n cov : Nat) (pre l : List Cd) (T : List (Nat × Nat)), lenB s pre.length n T = true → (∃ p ∈ T, p.1 = cov) → l ∈ fils s n cov pre → l.length = 15
  | 0, _, _, _, _, _, _, hl => by simp [fils] at hl
  | n + 1, cov, pre, l, T, hB, hT, hl => by
    rw [lenB, Bool.and_eq_true] at hB
    rw [fils] at hl
    split at hl
    · rename_i h
      rw [List.mem_singleton] at hl
      subst hl
      obtain ⟨p, hp, hc⟩ := hT
      have := List.all_eq_true.1 hB.1 p hp
      rw [hc, h] at this
      simpa using this
    · rename_i h
      obtain ⟨x, hx, hl⟩ := List.mem_flatMap.1 hl
      obtain ⟨p, hp, hc⟩ := hT
      refine len_fils n (cov ||| und s x) (pre ++ [x]) l _ (by rw [List.length_append, List.length_singleton]; exact hB.2) (expN_next h hx ⟨p, List.mem_filter.2 ⟨hp, ?_⟩, hc⟩) hl
      rw [hc]
      simpa using h
set_option maxRecDepth 100000 in
theorem lev56 : lenB s56 0 37 [(0, 1)] = true := by decide +kernel
theorem k_sol5 : ∃ l, solS 5 6 2 1 = some l ∧ l.length = 15 := by
  have e : solS 5 6 2 1 = (allF s56).find? (solidP s56) := by unfold solS; rw [if_pos (by decide)]; rfl
  have hm : wit56 ∈ allF s56 := path_mem 37 0 [] wit56 wit_path
  rcases h : (allF s56).find? (solidP s56) with _ | l
  · have := (List.find?_eq_none.1 h) wit56 hm
    rw [wit_solid] at this
    exact absurd rfl this
  · refine ⟨l, by rw [e, h], ?_⟩
    exact len_fils 37 0 [] l [(0, 1)] lev56 ⟨(0, 1), by simp, rfl⟩ (List.mem_of_find?_eq_some h)
end Go.Proofs.YtlollcabnfncpaaDoor
