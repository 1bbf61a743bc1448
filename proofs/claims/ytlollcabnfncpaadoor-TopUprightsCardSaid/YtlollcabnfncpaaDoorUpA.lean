/-
  How many cards of fillings stand upright; sheets that are turned: plain mathematics, and what the kernel tries.
-/
import Derived.Test.YtlollcabnfncpaaDoorMathD
import Derived.Test.YtlollcabnfncpaaDoorFilA
namespace Go.Proofs.YtlollcabnfncpaaDoor

/-- How many cards of a list stand upright. -/
def ups (l : List Cd) : Nat := l.countP fun x => !x.t
theorem ups_snoc (l : List Cd) (x : Cd) : ups (l ++ [x]) = ups l + if x.t = true then 0 else 1 := by
  unfold ups
  rw [List.countP_append, List.countP_singleton]
  cases x.t <;> rfl
/-- The ends of a set of numbers. -/
def EnOf (e : En) (P : Nat → Prop) : Prop := (e.fd = false → ∀ k, ¬ P k) ∧ (e.fd = true → ∃ a b : Nat, e.lo = a ∧ e.hi = b ∧ P a ∧ P b ∧ ∀ k, P k → a ≤ k ∧ k ≤ b)
theorem EnOf.congr {e : En} {P Q : Nat → Prop} (h : EnOf e P) (hq : ∀ k, P k ↔ Q k) : EnOf e Q := by
  have : P = Q := funext fun k => propext (hq k)
  rw [← this]; exact h
theorem EnOf.or {a b : En} {P Q : Nat → Prop} (h : EnOf a P) (k : EnOf b Q) : EnOf (a.or b) (fun n => P n ∨ Q n) := by
  unfold En.or
  by_cases ha : a.fd = false
  · rw [if_pos ha]
    exact k.congr fun n => ⟨.inr, fun e => e.elim (fun e => absurd e (h.1 ha n)) id⟩
  · rw [if_neg ha]
    have ha' : a.fd = true := by simpa using ha
    by_cases hb : b.fd = false
    · rw [if_pos hb]
      exact h.congr fun n => ⟨.inl, fun e => e.elim id (fun e => absurd e (k.1 hb n))⟩
    · rw [if_neg hb]
      have hb' : b.fd = true := by simpa using hb
      obtain ⟨x, y, e1, e2, p1, p2, p3⟩ := h.2 ha'
      obtain ⟨u, v, f1, f2, q1, q2, q3⟩ := k.2 hb'
      refine ⟨fun e => (by cases e), fun _ => ⟨min x u, max y v, by dsimp only; omega, by dsimp only; omega, ?_, ?_, ?_⟩⟩
      · rcases Nat.le_total x u with e | e
        · rw [Nat.min_eq_left e]; exact .inl p1
        · rw [Nat.min_eq_right e]; exact .inr q1
      · rcases Nat.le_total y v with e | e
        · rw [Nat.max_eq_right e]; exact .inr q2
        · rw [Nat.max_eq_left e]; exact .inl p2
      · rintro n (e | e)
        · have := p3 n e; omega
        · have := q3 n e; omega
theorem EnOf.more {a : En} {P : Nat → Prop} (h : EnOf a P) : EnOf a.more (fun n => ∃ j, n = j + 1 ∧ P j) := by
  refine ⟨fun e n => ?_, fun e => ?_⟩
  · rintro ⟨j, _, hj⟩
    exact h.1 e j hj
  · obtain ⟨x, y, e1, e2, p1, p2, p3⟩ := h.2 e
    refine ⟨x + 1, y + 1, by simp only [En.more]; omega, by simp only [En.more]; omega, ⟨x, rfl, p1⟩, ⟨y, rfl, p2⟩, ?_⟩
    rintro n ⟨j, rfl, hj⟩
    have := p3 j hj
    omega
theorem EnOf.nil : EnOf ⟨0, 0, false⟩ (fun _ => False) := ⟨fun _ _ h => h, fun h => by cases h⟩
theorem EnOf.foldl {α : Type} {g : α → En} {Q : α → Nat → Prop} : ∀ (L : List α) (a : En) (P : Nat → Prop), EnOf a P → (∀ x ∈ L, EnOf (g x) (Q x)) → EnOf (L.foldl (fun a x => a.or (g x)) a) (fun n => P n ∨ ∃ x ∈ L, Q x n)
  | [], a, P, h, _ => h.congr fun n => ⟨.inl, fun e => e.elim id (fun ⟨x, hx, _⟩ => absurd hx List.not_mem_nil)⟩
  | x :: L, a, P, h, hq => by
    rw [List.foldl_cons]
    refine (EnOf.foldl L _ _ (h.or (hq x (by simp))) fun y hy => hq y (by simp [hy])).congr fun n => ⟨?_, ?_⟩
    · rintro ((e | e) | ⟨y, hy, e⟩)
      · exact .inl e
      · exact .inr ⟨x, by simp, e⟩
      · exact .inr ⟨y, by simp [hy], e⟩
    · rintro (e | ⟨y, hy, e⟩)
      · exact .inl (.inl e)
      · rcases List.mem_cons.1 hy with rfl | hy
        · exact .inl (.inr e)
        · exact .inr ⟨y, hy, e⟩
theorem EnOf.same {a b : En} {P : Nat → Prop} (h : EnOf a P) (k : EnOf b P) : a.fd = b.fd ∧ (a.fd = true → a.lo = b.lo ∧ a.hi = b.hi) := by
  have hfd : a.fd = b.fd := by
    rcases ha : a.fd with _ | _
    · rcases hb : b.fd with _ | _
      · rfl
      · obtain ⟨u, v, _, _, q1, _⟩ := k.2 hb
        exact absurd q1 (h.1 ha u)
    · rcases hb : b.fd with _ | _
      · obtain ⟨u, v, _, _, q1, _⟩ := h.2 ha
        exact absurd q1 (k.1 hb u)
      · rfl
  refine ⟨hfd, fun ha => ?_⟩
  obtain ⟨x, y, e1, e2, p1, p2, p3⟩ := h.2 ha
  obtain ⟨u, v, f1, f2, q1, q2, q3⟩ := k.2 (hfd ▸ ha)
  have := p3 u q1
  have := p3 v q2
  have := q3 x p1
  have := q3 y p2
  omega

/-- What is returned are the ends of the numbers of upright cards of all fillings. -/
theorem en_fils (s : Sh) : ∀ (n cov : Nat) (pre : List Cd), EnOf (enN s n cov) (fun k => ∃ l ∈ fils s n cov pre, ups l = ups pre + k)
  | 0, cov, pre => EnOf.nil.congr fun k => ⟨fun h => h.elim, fun ⟨l, hl, _⟩ => by simp [fils] at hl⟩
  | n + 1, cov, pre => by
    rw [enN, fils]
    split
    · refine ⟨fun e => (by cases e), fun _ => ⟨0, 0, rfl, rfl, ⟨pre, by simp, rfl⟩, ⟨pre, by simp, rfl⟩, ?_⟩⟩
      rintro k ⟨l, hl, e⟩
      rw [List.mem_singleton.1 hl] at e
      omega
    · refine (EnOf.foldl (Q := fun x k => ∃ l ∈ fils s n (cov ||| und s x) (pre ++ [x]), ups l = ups pre + k) (nxt s cov) ⟨0, 0, false⟩ (fun _ => False) EnOf.nil fun x _ => ?_).congr fun k => ⟨?_, ?_⟩
      · have ih := en_fils s n (cov ||| und s x) (pre ++ [x])
        split
        · rename_i ht
          rw [ups_snoc, if_pos ht] at ih
          exact ih
        · rename_i ht
          rw [ups_snoc, if_neg ht] at ih
          refine ih.more.congr fun k => ⟨?_, ?_⟩
          · rintro ⟨j, rfl, l, hl, e⟩
            exact ⟨l, hl, by omega⟩
          · rintro ⟨l, hl, e⟩
            obtain ⟨m, hm⟩ : ∃ m, k = m + 1 := by
              have h1 : ∃ m, ups l = ups (pre ++ [x]) + m := by
                obtain ⟨m, hm⟩ := fils_pre n (cov ||| und s x) (pre ++ [x]) l hl
                rw [hm]
                exact ⟨ups m, by unfold ups; rw [List.countP_append]⟩
              obtain ⟨m, hm⟩ := h1
              rw [ups_snoc, if_neg ht] at hm
              exact ⟨m, by omega⟩
            exact ⟨m, hm, l, hl, by omega⟩
      · rintro (e | ⟨x, hx, l, hl, e⟩)
        · exact e.elim
        · exact ⟨l, List.mem_flatMap.2 ⟨x, hx, hl⟩, e⟩
      · rintro ⟨l, hl, e⟩
        obtain ⟨x, hx, hl⟩ := List.mem_flatMap.1 hl
        exact .inr ⟨x, hx, l, hl, e⟩
where
  fils_pre : ∀ (n cov : Nat) (pre l : List Cd), l ∈ fils s n cov pre → ∃ m, l = pre ++ m
    | 0, _, _, _, h => by simp [fils] at h
    | n + 1, cov, pre, l, h => by
      rw [fils] at h
      split at h
      · exact ⟨[], by simpa using h⟩
      · obtain ⟨x, _, hl⟩ := List.mem_flatMap.1 h
        obtain ⟨m, hm⟩ := fils_pre n _ _ l hl
        exact ⟨x :: m, by rw [hm]; simp⟩

/-- What the statement's function keeps: the fewest, the most upright cards, and how many cards the last filling has. -/
def upF (st : Int × Int × Int) (l : List Cd) : (Int × Int × Int) × Bool :=
  ((if st.1 < 0 ∨ (ups l : Int) < st.1 then (ups l : Int) else st.1, max st.2.1 (ups l : Int), (l.length : Int)), true)
def upSt (e : En) (n : Int) : Int × Int × Int := (if e.fd = true then e.lo else -1, if e.fd = true then e.hi else -1, n)
def oneE (l : List Cd) : En := ⟨(ups l : Int), (ups l : Int), true⟩
theorem upF_st {e : En} {P : Nat → Prop} (h : EnOf e P) (n : Int) (l : List Cd) : upF (upSt e n) l = (upSt (e.or (oneE l)) l.length, true) := by
  unfold upF upSt En.or oneE
  dsimp only
  rcases hf : e.fd with _ | _
  · simp only [Bool.false_eq_true, if_false, if_true]
    rw [if_pos (Or.inl (by omega)), show max (-1 : Int) (ups l : Int) = (ups l : Int) by omega]
  · obtain ⟨a, b, e1, e2, _⟩ := h.2 hf
    simp only [if_false, if_true, reduceCtorEq]
    rw [show (if e.lo < 0 ∨ (ups l : Int) < e.lo then (ups l : Int) else e.lo) = min e.lo (ups l : Int) by split <;> omega]
theorem up_run : ∀ (L : List (List Cd)) (e : En) (P : Nat → Prop) (n : Int) (A : Nat), EnOf e P → (∀ l ∈ L, l.length = A) →
    runF upF (upSt e n) L = (upSt (L.foldl (fun a l => a.or (oneE l)) e) (if L = [] then n else (A : Int)), true)
  | [], _, _, _, _, _, _ => rfl
  | l :: L, e, P, n, A, h, hl => by
    have hone : EnOf (oneE l) (fun k => k = ups l) := ⟨fun h => (by cases h), fun _ => ⟨ups l, ups l, rfl, rfl, rfl, rfl, fun k hk => by omega⟩⟩
    rw [runF, upF_st h n l, if_pos rfl, up_run L _ _ _ A (h.or hone) (fun x hx => hl x (by simp [hx])), List.foldl_cons, hl l (by simp), show (if l :: L = [] then n else (A : Int)) = A from if_neg (by simp)]
    split <;> rfl
/-- All fillings have been gone through. -/
theorem up_all {s : Sh} {A : Nat} (hA : ∀ l ∈ filC s 0 [], l.length = A) :
    runF upF (-1, -1, 0) (filC s 0 []) = ((if (enC s 0).fd = true then (enC s 0).lo else -1, if (enC s 0).fd = true then (enC s 0).hi else -1, if filC s 0 [] = [] then 0 else (A : Int)), true) := by
  have h0 : ((-1, -1, 0) : Int × Int × Int) = upSt ⟨0, 0, false⟩ 0 := rfl
  rw [h0, up_run (filC s 0 []) ⟨0, 0, false⟩ _ 0 A EnOf.nil hA]
  have h1 := EnOf.foldl (g := oneE) (Q := fun l k => k = ups l) (filC s 0 []) ⟨0, 0, false⟩ _ EnOf.nil fun l _ => ⟨fun h => (by cases h), fun _ => ⟨ups l, ups l, rfl, rfl, rfl, rfl, fun k hk => by omega⟩⟩
  have h2 : EnOf (enC s 0) (fun n => False ∨ ∃ x, x ∈ filC s 0 [] ∧ n = ups x) := (en_fils s 37 0 []).congr fun k => ⟨fun ⟨l, hl, e⟩ => .inr ⟨l, hl, by simp [ups] at e ⊢; omega⟩, fun h => by
    rcases h with h | ⟨l, hl, e⟩
    · exact h.elim
    · exact ⟨l, hl, by simp [ups] at e ⊢; omega⟩⟩
  obtain ⟨e1, e2⟩ := h1.same h2
  unfold upSt
  rw [e1]
  rcases hf : (enC s 0).fd with _ | _
  · rfl
  · rw [hf] at e1
    obtain ⟨e3, e4⟩ := e2 e1
    rw [if_pos rfl, if_pos rfl, if_pos rfl, if_pos rfl, e3, e4]
theorem fd_fils (s : Sh) : (enC s 0).fd = true ↔ filC s 0 [] ≠ [] := by
  have h := en_fils s 37 0 []
  constructor
  · intro hf
    obtain ⟨a, b, _, _, ⟨l, hl, _⟩, _⟩ := h.2 hf
    intro e
    unfold filC at e
    rw [e] at hl
    cases hl
  · intro hne
    rcases hf : (enC s 0).fd with _ | _
    · exfalso
      obtain ⟨l, L, e⟩ : ∃ l L, filC s 0 [] = l :: L := by
        rcases hc : filC s 0 [] with _ | ⟨l, L⟩
        · exact absurd hc hne
        · exact ⟨l, L, rfl⟩
      refine h.1 hf (ups l) ⟨l, ?_, by simp [ups]⟩
      unfold filC at e
      rw [e]; simp
    · rfl

/-- All ways to fill what is left have as many cards. -/
def lenB (s : Sh) : Nat → Nat → Nat → Bool
  | 0, _, _ => true
  | n + 1, cov, k => if cov = whl s then k == 0 else if k = 0 then false else (nxt s cov).all fun x => lenB s n (cov ||| und s x) (k - 1)
theorem lenB_fils {s : Sh} : ∀ (n cov k : Nat) (pre : List Cd), lenB s n cov k = true → ∀ l ∈ fils s n cov pre, l.length = pre.length + k
  | 0, _, _, _, _, l, hl => by simp [fils] at hl
  | n + 1, cov, k, pre, h, l, hl => by
    rw [lenB] at h
    rw [fils] at hl
    split at h
    · rename_i e
      rw [if_pos e] at hl
      rw [List.mem_singleton.1 hl, beq_iff_eq.1 h]; rfl
    · rename_i e
      rw [if_neg e] at hl
      split at h
      · cases h
      · obtain ⟨x, hx, hl⟩ := List.mem_flatMap.1 hl
        have := lenB_fils n _ (k - 1) (pre ++ [x]) (List.all_eq_true.1 h x hx) l hl
        rw [List.length_append, List.length_singleton] at this
        omega

def trn (s : Sh) : Sh := ⟨s.r, s.c, s.w, s.l⟩
def tog (x : Cd) : Cd := ⟨x.row, x.col, !x.t⟩
theorem tog_tog (x : Cd) : tog (tog x) = x := by
  obtain ⟨a, b, t⟩ := x
  cases t <;> rfl
theorem hi_trn (s : Sh) (t : Bool) : hiS (trn s) t = hiS s (!t) := by cases t <;> rfl
theorem wi_trn (s : Sh) (t : Bool) : wiS (trn s) t = wiS s (!t) := by cases t <;> rfl
theorem fit_trn (s : Sh) (x : Cd) : fitP (trn s) x ↔ fitP s (tog x) := by
  unfold fitP
  rw [hi_trn, wi_trn]
  exact Iff.rfl
theorem row_trn (s : Sh) (a b : Nat) : ∀ n : Nat, rowM (trn s) a b n = rowM s a b n
  | 0 => rfl
  | n + 1 => by
    rw [rowM, rowM, row_trn s a b n]
    rfl
theorem blk_trn (s : Sh) (a b n : Nat) : ∀ m : Nat, blkM (trn s) a b n m = blkM s a b n m
  | 0 => rfl
  | m + 1 => by rw [blkM, blkM, blk_trn s a b n m, row_trn]
theorem und_trn (s : Sh) (x : Cd) : und (trn s) x = und s (tog x) := by
  unfold und
  rw [hi_trn, wi_trn, blk_trn]
  rfl
theorem free_trn (s : Sh) (cov : Nat) (x : Cd) : freeP (trn s) cov x ↔ freeP s cov (tog x) := by
  unfold freeP
  rw [fit_trn, und_trn]
/-- The card on the first free square. -/
def cdF (s : Sh) (cov : Nat) (t : Bool) : Cd := ⟨(ctzU 64 cov / s.c : Nat), (ctzU 64 cov % s.c : Nat), t⟩
theorem nxt_two {s : Sh} (h : s.l ≠ s.w) (cov : Nat) : nxt s cov = (if freeP s cov (cdF s cov false) then [cdF s cov false] else []) ++ (if freeP s cov (cdF s cov true) then [cdF s cov true] else []) := by
  have hT : tryL s cov = [cdF s cov false, cdF s cov true] := by
    unfold tryL
    dsimp only
    rw [if_neg h]
    rfl
  unfold nxt
  rw [hT, List.filter_cons, List.filter_cons, List.filter_nil]
  by_cases h1 : freeP s cov (cdF s cov false)
  · by_cases h2 : freeP s cov (cdF s cov true)
    · simp [h1, h2]
    · simp [h1, h2]
  · by_cases h2 : freeP s cov (cdF s cov true)
    · simp [h1, h2]
    · simp [h1, h2]
theorem cdF_trn (s : Sh) (cov : Nat) (t : Bool) : tog (cdF (trn s) cov t) = cdF s cov (!t) := rfl
theorem cnt_trn {s : Sh} (h : s.l ≠ s.w) : ∀ (n cov : Nat), cnt (trn s) n cov = cnt s n cov
  | 0, _ => rfl
  | n + 1, cov => by
    have hw : whl (trn s) = whl s := rfl
    have hne : (trn s).l ≠ (trn s).w := fun e => h e.symm
    rw [cnt, cnt, hw]
    split
    · rfl
    · rw [nxt_two h, nxt_two hne]
      have e1 : freeP (trn s) cov (cdF (trn s) cov false) ↔ freeP s cov (cdF s cov true) := free_trn s cov _
      have e2 : freeP (trn s) cov (cdF (trn s) cov true) ↔ freeP s cov (cdF s cov false) := free_trn s cov _
      have f1 : cnt (trn s) n (cov ||| und (trn s) (cdF (trn s) cov false)) = cnt s n (cov ||| und s (cdF s cov true)) := by rw [und_trn, cdF_trn, cnt_trn h n]; rfl
      have f2 : cnt (trn s) n (cov ||| und (trn s) (cdF (trn s) cov true)) = cnt s n (cov ||| und s (cdF s cov false)) := by rw [und_trn, cdF_trn, cnt_trn h n]; rfl
      by_cases h1 : freeP s cov (cdF s cov true)
      · by_cases h2 : freeP s cov (cdF s cov false)
        · simp only [if_pos h1, if_pos h2, if_pos (e1.2 h1), if_pos (e2.2 h2), List.cons_append, List.nil_append, List.map_cons, List.map_nil, List.sum_cons, List.sum_nil, f1, f2]
          omega
        · simp only [if_pos h1, if_neg h2, if_pos (e1.2 h1), if_neg (fun k => h2 (e2.1 k)), List.append_nil, List.nil_append, List.map_cons, List.map_nil, List.sum_cons, List.sum_nil, f1]
      · by_cases h2 : freeP s cov (cdF s cov false)
        · simp only [if_neg h1, if_pos h2, if_neg (fun k => h1 (e1.1 k)), if_pos (e2.2 h2), List.append_nil, List.nil_append, List.map_cons, List.map_nil, List.sum_cons, List.sum_nil, f2]
        · simp only [if_neg h1, if_neg h2, if_neg (fun k => h1 (e1.1 k)), if_neg (fun k => h2 (e2.1 k))]
          rfl
theorem trn_eq {s : Sh} (h : s.l = s.w) : trn s = s := by
  obtain ⟨r, c, l, w⟩ := s
  dsimp only at h
  subst h
  rfl
theorem cnt_trn' (s : Sh) (n cov : Nat) : cnt (trn s) n cov = cnt s n cov := by
  by_cases h : s.l = s.w
  · rw [trn_eq h]
  · exact cnt_trn h n cov
theorem mem_nxt_trn {s : Sh} (h : s.l ≠ s.w) (cov : Nat) (x : Cd) : x ∈ nxt (trn s) cov ↔ tog x ∈ nxt s cov := by
  have hT : tryL s cov = [cdF s cov false, cdF s cov true] := by
    unfold tryL
    dsimp only
    rw [if_neg h]
    rfl
  have hT2 : tryL (trn s) cov = [cdF s cov false, cdF s cov true] := by
    unfold tryL
    dsimp only
    rw [if_neg (fun e => h e.symm)]
    rfl
  have e1 : tog (cdF s cov false) = cdF s cov true := rfl
  have e2 : tog (cdF s cov true) = cdF s cov false := rfl
  unfold nxt
  rw [List.mem_filter, List.mem_filter, hT, hT2, decide_eq_true_eq, decide_eq_true_eq, free_trn]
  refine and_congr ?_ Iff.rfl
  simp only [List.mem_cons, List.not_mem_nil, or_false]
  constructor
  · rintro (rfl | rfl)
    · exact .inr e1
    · exact .inl e2
  · rintro (e | e)
    · exact .inr (by rw [← tog_tog x, e, e1])
    · exact .inl (by rw [← tog_tog x, e, e2])
theorem map_tog (l : List Cd) : (l.map tog).map tog = l := by
  rw [List.map_map]
  exact (List.map_congr_left fun x _ => tog_tog x).trans (List.map_id' l)
theorem fils_trn {s : Sh} (h : s.l ≠ s.w) : ∀ (n cov : Nat) (pre l : List Cd), l ∈ fils (trn s) n cov pre ↔ l.map tog ∈ fils s n cov (pre.map tog)
  | 0, _, _, _ => by simp [fils]
  | n + 1, cov, pre, l => by
    have hw : whl (trn s) = whl s := rfl
    rw [fils, fils, hw]
    split
    · rw [List.mem_singleton, List.mem_singleton]
      constructor
      · rintro rfl; rfl
      · intro e; rw [← map_tog l, e, map_tog]
    · rw [List.mem_flatMap, List.mem_flatMap]
      constructor
      · rintro ⟨x, hx, hl⟩
        refine ⟨tog x, (mem_nxt_trn h cov x).1 hx, ?_⟩
        have := (fils_trn h n _ _ l).1 hl
        rw [und_trn, List.map_append] at this
        exact this
      · rintro ⟨y, hy, hl⟩
        refine ⟨tog y, (mem_nxt_trn h cov _).2 (by rw [tog_tog]; exact hy), (fils_trn h n _ _ l).2 ?_⟩
        rw [und_trn, tog_tog, List.map_append]
        show l.map tog ∈ fils s n (cov ||| und s y) (pre.map tog ++ [tog (tog y)])
        rw [tog_tog]
        exact hl
theorem ups_tog : ∀ l : List Cd, ups (l.map tog) + ups l = l.length
  | [] => rfl
  | x :: l => by
    have ih := ups_tog l
    unfold ups at ih ⊢
    obtain ⟨a, b, t⟩ := x
    rw [List.map_cons, List.countP_cons, List.countP_cons, List.length_cons]
    cases t
    · simp [tog] at ih ⊢; omega
    · simp [tog] at ih ⊢; omega

/-- With square cards all stand upright. -/
theorem fils_upr {s : Sh} (h : s.l = s.w) : ∀ (n cov : Nat) (pre l : List Cd), (∀ x ∈ pre, x.t = false) → l ∈ fils s n cov pre → ∀ x ∈ l, x.t = false
  | 0, _, _, _, _, hl => by simp [fils] at hl
  | n + 1, cov, pre, l, hp, hl => by
    rw [fils] at hl
    split at hl
    · simp at hl; subst hl; exact hp
    · obtain ⟨x, hx, hl⟩ := List.mem_flatMap.1 hl
      refine fils_upr h n _ _ l (fun y hy => ?_) hl
      rcases List.mem_append.1 hy with hy | hy
      · exact hp y hy
      · rw [List.mem_singleton.1 hy]
        have h3 := (mem_nxt hx).1
        unfold tryL at h3
        dsimp only at h3
        rw [if_pos h] at h3
        rw [List.mem_singleton.1 h3]
theorem ups_all {l : List Cd} (h : ∀ x ∈ l, x.t = false) : ups l = l.length := by
  unfold ups
  rw [List.countP_eq_length]
  intro x hx
  rw [h x hx]; rfl
/-- The ends of a turned sheet. -/
theorem ends_trn {s : Sh} {A : Nat} (hA : ∀ l ∈ filC s 0 [], l.length = A) : (enC (trn s) 0).fd = (enC s 0).fd ∧ ((enC s 0).fd = true →
    (s.l = s.w → (enC s 0).lo = A ∧ (enC s 0).hi = A ∧ (enC (trn s) 0).lo = A ∧ (enC (trn s) 0).hi = A) ∧ (s.l ≠ s.w → (enC (trn s) 0).lo = A - (enC s 0).hi ∧ (enC (trn s) 0).hi = A - (enC s 0).lo)) := by
  have h1 : EnOf (enC s 0) (fun k => ∃ l ∈ filC s 0 [], ups l = k) := (en_fils s 37 0 []).congr fun k => by
    constructor
    · rintro ⟨l, hl, e⟩
      exact ⟨l, hl, by simpa [ups] using e⟩
    · rintro ⟨l, hl, e⟩
      exact ⟨l, hl, by simpa [ups] using e⟩
  have h2 : EnOf (enC (trn s) 0) (fun k => ∃ l ∈ filC (trn s) 0 [], ups l = k) := (en_fils (trn s) 37 0 []).congr fun k => by
    constructor
    · rintro ⟨l, hl, e⟩
      exact ⟨l, hl, by simpa [ups] using e⟩
    · rintro ⟨l, hl, e⟩
      exact ⟨l, hl, by simpa [ups] using e⟩
  by_cases h : s.l = s.w
  · rw [trn_eq h]
    refine ⟨rfl, fun hf => ⟨fun _ => ?_, fun hn => absurd h hn⟩⟩
    obtain ⟨a, b, e1, e2, ⟨l, hl, k1⟩, ⟨m, hm, k2⟩, _⟩ := h1.2 hf
    rw [ups_all (fils_upr h 37 0 [] l (fun _ hx => absurd hx List.not_mem_nil) hl), hA l hl] at k1
    rw [ups_all (fils_upr h 37 0 [] m (fun _ hx => absurd hx List.not_mem_nil) hm), hA m hm] at k2
    subst k1 k2
    exact ⟨e1, e2, e1, e2⟩
  · have h3 : EnOf ⟨A - (enC s 0).hi, A - (enC s 0).lo, (enC s 0).fd⟩ (fun k => ∃ l ∈ filC (trn s) 0 [], ups l = k) := by
      have hback : ∀ l ∈ filC s 0 [], l.map tog ∈ filC (trn s) 0 [] ∧ ups (l.map tog) + ups l = A := fun l hl => by
        refine ⟨(fils_trn h 37 0 [] _).2 (by rw [map_tog]; exact hl), ?_⟩
        rw [ups_tog, hA l hl]
      have hforth : ∀ l ∈ filC (trn s) 0 [], ∃ m ∈ filC s 0 [], ups l + ups m = A := fun l hl => by
        have hm := (fils_trn h 37 0 [] l).1 hl
        refine ⟨l.map tog, hm, ?_⟩
        have h5 := ups_tog l
        have h6 := hA _ hm
        rw [List.length_map] at h6
        omega
      refine ⟨fun hf k => ?_, fun hf => ?_⟩
      · rintro ⟨l, hl, _⟩
        obtain ⟨m, hm, _⟩ := hforth l hl
        exact h1.1 hf (ups m) ⟨m, hm, rfl⟩
      · obtain ⟨a, b, e1, e2, ⟨l, hl, k1⟩, ⟨m, hm, k2⟩, k3⟩ := h1.2 hf
        obtain ⟨l1, l2⟩ := hback l hl
        obtain ⟨m1, m2⟩ := hback m hm
        refine ⟨A - b, A - a, by dsimp only; omega, by dsimp only; omega, ⟨_, m1, by omega⟩, ⟨_, l1, by omega⟩, ?_⟩
        rintro k ⟨p, hp, rfl⟩
        obtain ⟨q, hq, e⟩ := hforth p hp
        have := k3 (ups q) ⟨q, hq, rfl⟩
        omega
    obtain ⟨g1, g2⟩ := h2.same h3
    refine ⟨g1, fun hf => ⟨fun hn => absurd hn h, fun _ => ?_⟩⟩
    exact g2 (g1.trans hf)

def sixU : List Nat := [1, 2, 3, 4, 5, 6]
theorem mem_sixU {n : Nat} : n ∈ sixU ↔ 1 ≤ n ∧ n ≤ 6 := by
  unfold sixU
  simp only [List.mem_cons, List.not_mem_nil, or_false]
  omega
/-- A sheet, and the same one turned, have as many fillings; those have as many cards. -/
def turnB (r c l w : Nat) : Bool := decide (r < c) || (cnt ⟨r, c, l, w⟩ 37 0 == cnt ⟨c, r, l, w⟩ 37 0)
def longB (r c l w : Nat) : Bool := cnt ⟨r, c, l, w⟩ 37 0 == 0 || lenB ⟨r, c, l, w⟩ 37 0 (r * c / (l * w))
def bothB (r c l w : Nat) : Bool := decide (w < l) || decide (30 < r * c) || (turnB r c l w && longB r c l w)
theorem turn_1 : (sixU.all fun c => sixU.all fun l => sixU.all fun w => bothB 1 c l w) = true := by decide +kernel
theorem turn_2 : (sixU.all fun c => sixU.all fun l => sixU.all fun w => bothB 2 c l w) = true := by decide +kernel
theorem turn_3 : (sixU.all fun c => sixU.all fun l => sixU.all fun w => bothB 3 c l w) = true := by decide +kernel
theorem turn_4 : (sixU.all fun c => sixU.all fun l => sixU.all fun w => bothB 4 c l w) = true := by decide +kernel
theorem turn_51 : (sixU.all fun l => sixU.all fun w => bothB 5 1 l w) = true := by decide +kernel
theorem turn_52 : (sixU.all fun l => sixU.all fun w => bothB 5 2 l w) = true := by decide +kernel
theorem turn_53 : (sixU.all fun l => sixU.all fun w => bothB 5 3 l w) = true := by decide +kernel
theorem turn_54 : (sixU.all fun l => sixU.all fun w => bothB 5 4 l w) = true := by decide +kernel
theorem turn_55 : (sixU.all fun l => sixU.all fun w => bothB 5 5 l w) = true := by decide +kernel
theorem turn_56 : (sixU.all fun l => sixU.all fun w => bothB 5 6 l w) = true := by decide +kernel
theorem turn_61 : (sixU.all fun l => sixU.all fun w => bothB 6 1 l w) = true := by decide +kernel
theorem turn_62 : (sixU.all fun l => sixU.all fun w => bothB 6 2 l w) = true := by decide +kernel
theorem turn_63 : (sixU.all fun l => sixU.all fun w => bothB 6 3 l w) = true := by decide +kernel
theorem turn_64 : (sixU.all fun l => sixU.all fun w => bothB 6 4 l w) = true := by decide +kernel
theorem turn_65 : (sixU.all fun l => sixU.all fun w => bothB 6 5 l w) = true := by decide +kernel
theorem turn_66 : (sixU.all fun l => sixU.all fun w => bothB 6 6 l w) = true := by decide +kernel
theorem turn_all : (sixU.all fun r => sixU.all fun c => sixU.all fun l => sixU.all fun w => bothB r c l w) = true := by
  have h5 : (sixU.all fun c => sixU.all fun l => sixU.all fun w => bothB 5 c l w) = true := by
    show ((sixU.all fun l => sixU.all fun w => bothB 5 1 l w) && ((sixU.all fun l => sixU.all fun w => bothB 5 2 l w) && ((sixU.all fun l => sixU.all fun w => bothB 5 3 l w) && ((sixU.all fun l => sixU.all fun w => bothB 5 4 l w) && ((sixU.all fun l => sixU.all fun w => bothB 5 5 l w) && ((sixU.all fun l => sixU.all fun w => bothB 5 6 l w) && true)))))) = true
    rw [turn_51, turn_52, turn_53, turn_54, turn_55, turn_56]; rfl
  have h6 : (sixU.all fun c => sixU.all fun l => sixU.all fun w => bothB 6 c l w) = true := by
    show ((sixU.all fun l => sixU.all fun w => bothB 6 1 l w) && ((sixU.all fun l => sixU.all fun w => bothB 6 2 l w) && ((sixU.all fun l => sixU.all fun w => bothB 6 3 l w) && ((sixU.all fun l => sixU.all fun w => bothB 6 4 l w) && ((sixU.all fun l => sixU.all fun w => bothB 6 5 l w) && ((sixU.all fun l => sixU.all fun w => bothB 6 6 l w) && true)))))) = true
    rw [turn_61, turn_62, turn_63, turn_64, turn_65, turn_66]; rfl
  show ((sixU.all fun c => sixU.all fun l => sixU.all fun w => bothB 1 c l w) && ((sixU.all fun c => sixU.all fun l => sixU.all fun w => bothB 2 c l w) && ((sixU.all fun c => sixU.all fun l => sixU.all fun w => bothB 3 c l w) && ((sixU.all fun c => sixU.all fun l => sixU.all fun w => bothB 4 c l w) && ((sixU.all fun c => sixU.all fun l => sixU.all fun w => bothB 5 c l w) && ((sixU.all fun c => sixU.all fun l => sixU.all fun w => bothB 6 c l w) && true)))))) = true
  rw [turn_1, turn_2, turn_3, turn_4, h5, h6]; rfl
theorem both_ok {s : Sh} (hs : s.Ok) (ha : s.r * s.c ≤ 30) (hlw : s.l ≤ s.w) : turnB s.r s.c s.l s.w = true ∧ longB s.r s.c s.l s.w = true := by
  obtain ⟨r, c, l, w⟩ := s
  obtain ⟨h1, h2, h3, h4, h5, h6, h7, h8⟩ := hs
  have h := List.all_eq_true.1 (List.all_eq_true.1 (List.all_eq_true.1 (List.all_eq_true.1 turn_all r (mem_sixU.2 ⟨h1, h2⟩)) c (mem_sixU.2 ⟨h3, h4⟩)) l (mem_sixU.2 ⟨h5, h6⟩)) w (mem_sixU.2 ⟨h7, h8⟩)
  dsimp only at ha hlw ⊢
  unfold bothB at h
  rw [decide_eq_false (by omega), decide_eq_false (by omega), Bool.false_or, Bool.false_or, Bool.and_eq_true] at h
  exact h
theorem flip_le {s : Sh} (hs : s.Ok) (ha : s.r * s.c ≤ 30) (hlw : s.l ≤ s.w) : cntC s 0 = cntC ⟨s.c, s.r, s.l, s.w⟩ 0 := by
  by_cases h : s.r < s.c
  · have h2 := (both_ok (s := ⟨s.c, s.r, s.l, s.w⟩) ⟨hs.c1, hs.c6, hs.r1, hs.r6, hs.l1, hs.l6, hs.w1, hs.w6⟩ (by dsimp only; rw [Nat.mul_comm]; exact ha) hlw).1
    unfold turnB at h2
    dsimp only at h2
    rw [decide_eq_false (by omega), Bool.false_or, beq_iff_eq] at h2
    exact h2.symm
  · have h2 := (both_ok hs ha hlw).1
    unfold turnB at h2
    rw [decide_eq_false h, Bool.false_or, beq_iff_eq] at h2
    exact h2
theorem long_le {s : Sh} (hs : s.Ok) (ha : s.r * s.c ≤ 30) (hlw : s.l ≤ s.w) : ∀ l ∈ filC s 0 [], l.length = s.r * s.c / (s.l * s.w) := by
  intro x hx
  have h2 := (both_ok hs ha hlw).2
  unfold longB at h2
  rw [Bool.or_eq_true, beq_iff_eq] at h2
  rcases h2 with h2 | h2
  · have h3 : (filC s 0 []).length = 0 := (cntC_len s 0 []).trans h2
    rw [List.eq_nil_of_length_eq_zero h3] at hx
    cases hx
  · have := lenB_fils 37 0 _ [] h2 x hx
    simpa using this
/-- What is found for one sheet. -/
theorem turn_ok {s : Sh} (hs : s.Ok) (ha : s.r * s.c ≤ 30) : cntC s 0 = cntC ⟨s.c, s.r, s.l, s.w⟩ 0 ∧ cntC s 0 = cntC (trn s) 0 ∧ ∀ l ∈ filC s 0 [], l.length = s.r * s.c / (s.l * s.w) := by
  have hu : (trn s).Ok := ⟨hs.r1, hs.r6, hs.c1, hs.c6, hs.w1, hs.w6, hs.l1, hs.l6⟩
  by_cases h : s.l ≤ s.w
  · exact ⟨flip_le hs ha h, (cnt_trn' s 37 0).symm, long_le hs ha h⟩
  · have h' : (trn s).l ≤ (trn s).w := by show s.w ≤ s.l; omega
    have hne : (trn s).l ≠ (trn s).w := by show s.w ≠ s.l; omega
    have h1 := flip_le hu ha h'
    have h2 := long_le hu ha h'
    have e1 : cntC (trn s) 0 = cntC s 0 := cnt_trn' s 37 0
    have e2 : cntC ⟨(trn s).c, (trn s).r, (trn s).l, (trn s).w⟩ 0 = cntC ⟨s.c, s.r, s.l, s.w⟩ 0 := cnt_trn' ⟨s.c, s.r, s.l, s.w⟩ 37 0
    refine ⟨by rw [← e1, h1, e2], e1.symm, fun l hl => ?_⟩
    have h3 : l.map tog ∈ filC (trn s) 0 [] := (fils_trn (s := s) (fun e => hne e.symm) 37 0 [] _).2 (by rw [map_tog]; exact hl)
    have h4 := h2 _ h3
    rw [List.length_map] at h4
    rw [h4]
    show s.r * s.c / (s.w * s.l) = _
    rw [Nat.mul_comm s.w]
end Go.Proofs.YtlollcabnfncpaaDoor
