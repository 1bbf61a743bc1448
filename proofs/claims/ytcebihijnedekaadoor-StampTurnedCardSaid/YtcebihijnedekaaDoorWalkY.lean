/-
  The walk of books, and the books of the chapter's examples.
-/
import Derived.Test.YtcebihijnedekaaDoorWalkO
import Derived.Deep.RegionHeld3
import Derived.Deep.AppendLies
namespace Go.Proofs.YtcebihijnedekaaDoor
open Go.RowKit

/-- Four numbers are a way. -/
def waysOf : List Int → List Wy
  | a :: b :: c :: d :: l => ⟨a, b, c, d⟩ :: waysOf l
  | _ => []

theorem waysOf_take : ∀ (k : Nat) (l : List Int) (a b c d : Int), l[4 * k]? = some a → l[4 * k + 1]? = some b → l[4 * k + 2]? = some c → l[4 * k + 3]? = some d →
    waysOf (l.take (4 * (k + 1))) = waysOf (l.take (4 * k)) ++ [⟨a, b, c, d⟩]
  | 0, l, a, b, c, d, h1, h2, h3, h4 => by
    match l, h1, h2, h3, h4 with
    | a' :: b' :: c' :: d' :: l, h1, h2, h3, h4 => simp at h1 h2 h3 h4; subst h1 h2 h3 h4; simp [waysOf]
    | [_], _, h, _, _ => simp at h
    | [_, _], _, _, h, _ => simp at h
    | [_, _, _], _, _, _, h => simp at h
    | [], h, _, _, _ => simp at h
  | k + 1, l, a, b, c, d, h1, h2, h3, h4 => by
    match l, h1, h2, h3, h4 with
    | a' :: b' :: c' :: d' :: l, h1, h2, h3, h4 =>
      have e : ∀ j, (a' :: b' :: c' :: d' :: l)[4 * (k + 1) + j]? = l[4 * k + j]? := fun j => by rw [show 4 * (k + 1) + j = 4 * k + j + 1 + 1 + 1 + 1 by omega]; simp
      have ih := waysOf_take k l a b c d ((e 0).symm.trans h1) ((e 1).symm.trans h2) ((e 2).symm.trans h3) ((e 3).symm.trans h4)
      rw [show 4 * (k + 1 + 1) = 4 * (k + 1) + 1 + 1 + 1 + 1 by omega, show 4 * (k + 1) = 4 * k + 1 + 1 + 1 + 1 by omega]
      simp only [List.take_succ_cons, waysOf, List.cons_append]
      rw [show 4 * k + 1 + 1 + 1 + 1 = 4 * (k + 1) by omega, ih]
    | [_], h, _, _, _ => rw [List.getElem?_eq_none (by simp; omega)] at h; cases h
    | [_, _], h, _, _, _ => rw [List.getElem?_eq_none (by simp; omega)] at h; cases h
    | [_, _, _], h, _, _, _ => rw [List.getElem?_eq_none (by simp; omega)] at h; cases h
    | [], h, _, _, _ => simp at h

theorem waysOf_len : ∀ (k : Nat) (l : List Int), l.length = 4 * k → (waysOf l).length = k
  | 0, [], _ => rfl
  | 0, _ :: _, h => by simp at h
  | k + 1, a :: b :: c :: d :: l, h => by simp only [waysOf, List.length_cons] at h ⊢; rw [waysOf_len k l (by omega)]
  | k + 1, [], h => by simp at h
  | k + 1, [_], h => by simp at h; omega
  | k + 1, [_, _], h => by simp at h; omega
  | k + 1, [_, _, _], h => by simp at h; omega

theorem wcells_append : ∀ (a b : List Wy), wcells (a ++ b) = wcells a ++ wcells b
  | [], _ => rfl
  | x :: a, b => by simp [wcells, wcells_append a b]

/-- Books are handed back. -/
def RetBooks (w : World) (R : Int) (ws : List Wy) (e : Ending) (w' : World) : Prop := ∃ A c, e = .returned (.agg #[.int .i64 R, .slice A ws.length c]) ∧ WaysAt w' w'.heap.size A ws ∧ Below w.heap.size w w' ∧ (∀ ad : Addr, A = some ad → w.heap.size ≤ ad.block)

theorem own_ways' {w : World} {base n : Nat} {v : Value} {ws : List Wy} (h : w.ownsRow base 74 4 v n (wcells ws)) : ∃ A c, v = .slice A ws.length c ∧ WaysAt w w.heap.size A ws := by
  have hn : n = ws.length := by have := h.1; rw [wcells_len] at this; omega
  subst hn
  rcases h.2 with ⟨rfl, h0⟩ | ⟨g, cap, cur, rfl, h2⟩
  · have : ws = [] := by simpa using h0
    subst this
    exact ⟨none, 0, rfl, fun k x hx => by simp at hx⟩
  · exact ⟨some ⟨g, 0, none⟩, cap, rfl, own_ways h⟩

/-- Four numbers of a list lie in memory. -/
def L4 (b o q : Nat) (x y z u : Int) (w : World) : Prop :=
  w.cell? ⟨b, o + q, none⟩ = some (.int .i64 x) ∧ w.cell? ⟨b, o + (q + 1), none⟩ = some (.int .i64 y) ∧ w.cell? ⟨b, o + (q + 2), none⟩ = some (.int .i64 z) ∧ w.cell? ⟨b, o + (q + 3), none⟩ = some (.int .i64 u)

theorem step_books {ops : Array Oper} {o : Oper} {ac : Act} {K : Act → World → Prop} {Q : Exit → Act → World → Prop} {E : Prop} {W : World} (hgd : o.guard = none) (s x : Operand)
    (ho : o.op = .call { callee := .builtin .append, args := #[s, x], argTypes := #[22, 22] }) (base k B : Nat) (v : Value) (xs : List Value) (a b c e : Int) (hs : ac.eval s = v) (hown : W.ownsRow base 74 4 v k xs)
    (hx : ac.eval x = .slice (some ⟨B, 0, none⟩) 1 1) (hB : W.heap[B]? = some (.cells #[.int .i64 a, .int .i64 b, .int .i64 c, .int .i64 e] 74 (0, 0))) (hk : (k + 1) * 4 ≤ 400) (hbase : base ≤ W.heap.size)
    (h : ∀ g cap w', w'.ownsRow base 74 4 (.slice (some ⟨g, 0, none⟩) (k + 1) cap) (k + 1) (xs ++ [.int .i64 a, .int .i64 b, .int .i64 c, .int .i64 e]) → W.grownBy w' v.ownBlock → K (ac.put o.dst (.slice (some ⟨g, 0, none⟩) (k + 1) cap)) w') :
    if Region.wanted o (yielded ops ac.tmps) = true then Oper.wp Tryd.prog o ac W K Q else E := by
  obtain ⟨i0, hi, hz0, hz1, hz2⟩ := info_parts info74
  refine step_append_lies W hgd s x 22 ho base 74 i0 (.agg #[.int .i64 0, .int .i64 0, .int .i64 0, .int .i64 0]) 4 32 Tryd.underlying22 hi hz0 hz1 hz2 rfl (by decide) v k xs hs hown ⟨B, 0, none⟩ 1 1 [.int .i64 a, .int .i64 b, .int .i64 c, .int .i64 e] hx rfl (World.news_of_block hB) ?_ (by decide) (by unfold maxLen; omega) (by omega) hbase _ rfl ?_
  · intro u hu
    simp only [List.mem_cons, List.not_mem_nil, or_false] at hu
    rcases hu with rfl | rfl | rfl | rfl <;> rfl
  · intro g cap w' h2 h3 _ _
    exact h g cap w' h2 h3

set_option maxRecDepth 100000 in
set_option maxHeartbeats 2000000 in
theorem books_any (R : Int) (D : Option Addr) (d n : Nat) (l : List Int) (w : World) (hn : l.length = 4 * n) (h12 : n ≤ 100) (hd : IntsAt w w.heap.size D l) :
    Calls Tryd.prog 52 #[.int .i64 R, .slice D l.length d] w (RetBooks w R (waysOf l)) := by
  obtain ⟨i0, hi, hz0, hz1, hz2⟩ := info_parts info74
  have HN := Lib.hid hn
  have hl1 : l.length ≤ 400 := by omega
  clear hn
  go_enter Tryd.func52, Tryd.ntmps52
  go_wp2
  obtain ⟨W0, hW0⟩ : ∃ W0, W0 = (w.alloc (.cells #[.int .i64 0, .slice none 0 0] 24)).alloc (.cells #[.int .i64 R, .slice none 0 0] 24) := ⟨_, rfl⟩
  have hz0' : W0.heap.size = w.heap.size + 1 + 1 := by rw [hW0]; simp
  have hb0 : Below w.heap.size w W0 := by rw [hW0]; exact ((Below.refl w.heap.size w).alloc (Nat.le_refl _) _).alloc (by simp) _
  have c0 : W0.cell? ⟨w.heap.size + 1, 0, none⟩ = some (.int .i64 R) := by rw [hW0]; simp [go_sem]
  have c1 : W0.cell? ⟨w.heap.size + 1, 1, none⟩ = some (.slice none 0 0) := by rw [hW0]; simp [go_sem]
  have c2 : W0.cell? ⟨w.heap.size, 0, none⟩ = some (.int .i64 0) := by rw [hW0]; simp [go_sem]
  have c3 : W0.cell? ⟨w.heap.size, 1, none⟩ = some (.slice none 0 0) := by rw [hW0]; simp [go_sem]
  have f1 : W0.frozen? ⟨w.heap.size + 1, 1, none⟩ = false := by rw [hW0]; simp [go_sem]
  have f2 : W0.frozen? ⟨w.heap.size, 0, none⟩ = false := by rw [hW0]; simp [go_sem]
  have f3 : W0.frozen? ⟨w.heap.size, 1, none⟩ = false := by rw [hW0]; simp [go_sem]
  rw [← hW0]
  clear hW0
  go_loopw [6] (fun i wr => ∃ (k : Nat) (v : Value), k ≤ n ∧ i = .int .i64 ((4 * k : Nat) : Int) ∧ wr.ownsRow (w.heap.size + 1 + 1) 74 4 v k (wcells (waysOf (l.take (4 * k)))) ∧ Below w.heap.size w wr ∧ w.heap.size + 1 + 1 ≤ wr.heap.size ∧
    wr.cell? ⟨w.heap.size + 1, 0, none⟩ = some (.int .i64 R) ∧ wr.cell? ⟨w.heap.size + 1, 1, none⟩ = some v ∧ wr.cell? ⟨w.heap.size, 0, none⟩ = some (.int .i64 0) ∧ wr.cell? ⟨w.heap.size, 1, none⟩ = some (.slice none 0 0) ∧
    wr.frozen? ⟨w.heap.size + 1, 1, none⟩ = false ∧ wr.frozen? ⟨w.heap.size, 0, none⟩ = false ∧ wr.frozen? ⟨w.heap.size, 1, none⟩ = false) (fun i _ => l.length - (intOf i).toNat)
  case atStart => exact ⟨0, .slice none 0 0, Nat.zero_le _, rfl, World.ownsRow_nil _ _ _ _, hb0, by omega, c0, c1, c2, c3, f1, f2, f3⟩
  case round =>
    obtain ⟨k, v, hk, rfl, hown, hbw, hsz, d0, d1, d2, d3, g1, g2, g3⟩ := hrel
    clear c0 c1 c2 c3 f1 f2 f3 hz0' hb0
    by_cases hlt : k < n
    · have hnl := HN.out
      have x0 : l[4 * k]? = some (l[4 * k]'(by omega)) := List.getElem?_eq_getElem (by omega)
      have x1 : l[4 * k + 1]? = some (l[4 * k + 1]'(by omega)) := List.getElem?_eq_getElem (by omega)
      have x2 : l[4 * k + 2]? = some (l[4 * k + 2]'(by omega)) := List.getElem?_eq_getElem (by omega)
      have x3 : l[4 * k + 3]? = some (l[4 * k + 3]'(by omega)) := List.getElem?_eq_getElem (by omega)
      generalize l[4 * k]'(by omega) = a at x0
      generalize l[4 * k + 1]'(by omega) = b at x1
      generalize l[4 * k + 2]'(by omega) = c at x2
      generalize l[4 * k + 3]'(by omega) = e at x3
      have HT := Lib.hid (waysOf_take k l a b c e x0 x1 x2 x3)
      obtain ⟨b2, o2, rfl, hb2, a0⟩ := (hd.below hbw (Nat.le_refl _)) _ _ x0
      obtain ⟨b3, o3, h3, _, a1⟩ := (hd.below hbw (Nat.le_refl _)) _ _ x1
      obtain ⟨rfl, rfl⟩ : b3 = b2 ∧ o3 = o2 := by simpa [eq_comm] using h3
      obtain ⟨b4, o4, h4, _, a2⟩ := (hd.below hbw (Nat.le_refl _)) _ _ x2
      obtain ⟨rfl, rfl⟩ : b4 = b3 ∧ o4 = o3 := by simpa [eq_comm] using h4
      obtain ⟨b5, o5, h5, _, a3⟩ := (hd.below hbw (Nat.le_refl _)) _ _ x3
      obtain ⟨rfl, rfl⟩ : b5 = b4 ∧ o5 = o4 := by simpa [eq_comm] using h5
      have hkl : ((4 * k : Nat) : Int) + 3 < (l.length : Int) := by omega
      have hkl0 : ((4 * k : Nat) : Int) < (l.length : Int) := by omega
      have hkl1 : ((4 * k : Nat) : Int) + 1 < (l.length : Int) := by omega
      have hkl2 : ((4 * k : Nat) : Int) + 2 < (l.length : Int) := by omega
      have hk0 : (0 : Int) ≤ ((4 * k : Nat) : Int) := by omega
      have hbz : b5 < wr.heap.size := by omega
      have hsz1 : w.heap.size + 1 < wr.heap.size := by omega
      have hsz0 : w.heap.size < wr.heap.size := by omega
      have hkn : (k + 1) * 4 ≤ 400 := by omega
      have hmeas : l.length - 4 * (k + 1) < l.length - 4 * k := by omega
      clear x0 x1 x2 x3 h3 h4 h5 hd hnl
      generalize hq : 4 * k = q at hown a0 a1 a2 a3 hkl hkl0 hkl1 hkl2 hk0 HT ⊢
      have HQ := Lib.hid hq
      clear hq
      have hq3 : ((q : Nat) : Int) + 3 < ((l.length : Nat) : Int) := hkl
      have w1 : IntKind.i64.wrap ((q : Int) + 1) = (q : Int) + 1 := IntWalk.i64_in _ (by omega)
      have w2 : IntKind.i64.wrap ((q : Int) + 2) = (q : Int) + 2 := IntWalk.i64_in _ (by omega)
      have w3 : IntKind.i64.wrap ((q : Int) + 3) = (q : Int) + 3 := IntWalk.i64_in _ (by omega)
      have p1 : (0 : Int) ≤ (q : Int) + 1 := by omega
      have p2 : (0 : Int) ≤ (q : Int) + 2 := by omega
      have p3 : (0 : Int) ≤ (q : Int) + 3 := by omega
      have t1 : ((q : Int) + 1).toNat = q + 1 := by omega
      have t2 : ((q : Int) + 2).toNat = q + 2 := by omega
      have t3 : ((q : Int) + 3).toNat = q + 3 := by omega
      have hne : ∀ i, i < w.heap.size + 1 + 1 → some i ≠ v.ownBlock := fun i hi h => by have := (hown.lt i h.symm).1; omega
      have hba := (Below.refl wr.heap.size wr).alloc (Nat.le_refl _) (.cells #[.int .i64 a, .int .i64 b, .int .i64 c, .int .i64 e] 74)
      go_wp2
      refine wp_region_held (S := L4 b5 o5 q a b c e) (by kernel_rfl) ?_
      try (change wpAnyH _ _ _ _ _ _ _ _ (World.drew _))
      have hS0 : L4 b5 o5 q a b c e wr.drew := ⟨a0, a1, a2, a3⟩
      refine wpAnyH_take (i := 0) (v := ?_) rfl (by kernel_rfl) (by kernel_rfl) (by kernel_rfl) (fun _ _ _ h => h) (Or.inl ⟨by rfl, ?_⟩) (by assumption) ?_
      rotate_left
      · intro w hSw; obtain ⟨s1, s2, s3, s4⟩ := hSw; go_simp; try with_reducible rfl
      try simp only [Act.put, List.getElem_toArray, List.getElem_cons_zero, List.setIfInBounds_toArray, List.set_cons_zero, List.set_cons_succ]
      refine wpAnyH_take (i := 2) (v := ?_) rfl (by kernel_rfl) (by kernel_rfl) (by kernel_rfl) (fun _ _ _ h => h) (Or.inl ⟨by rfl, ?_⟩) (by assumption) ?_
      rotate_left
      · intro w hSw; obtain ⟨s1, s2, s3, s4⟩ := hSw; go_simp; try with_reducible rfl
      try simp only [Act.put, List.getElem_toArray, List.getElem_cons_zero, List.getElem_cons_succ, List.setIfInBounds_toArray, List.set_cons_zero, List.set_cons_succ]
      refine wpAnyH_take (i := 3) (v := ?_) rfl (by kernel_rfl) (by kernel_rfl) (by kernel_rfl) (fun _ _ _ h => h) (Or.inl ⟨by rfl, ?_⟩) (by assumption) ?_
      rotate_left
      · intro w hSw; obtain ⟨s1, s2, s3, s4⟩ := hSw; go_simp; try with_reducible rfl
      try simp only [Act.put, List.getElem_toArray, List.getElem_cons_zero, List.getElem_cons_succ, List.setIfInBounds_toArray, List.set_cons_zero, List.set_cons_succ]
      refine wpAnyH_take (i := 4) (v := ?_) rfl (by kernel_rfl) (by kernel_rfl) (by kernel_rfl) (fun _ _ _ h => h) (Or.inl ⟨by rfl, ?_⟩) (by assumption) ?_
      rotate_left
      · intro w hSw; obtain ⟨s1, s2, s3, s4⟩ := hSw; go_simp; try with_reducible rfl
      try simp only [Act.put, List.getElem_toArray, List.getElem_cons_zero, List.getElem_cons_succ, List.setIfInBounds_toArray, List.set_cons_zero, List.set_cons_succ]
      refine wpAnyH_take (i := 5) (v := ?_) rfl (by kernel_rfl) (by kernel_rfl) (by kernel_rfl) (fun _ _ _ h => h) (Or.inl ⟨by rfl, ?_⟩) (by assumption) ?_
      rotate_left
      · intro w hSw; obtain ⟨s1, s2, s3, s4⟩ := hSw; go_simp; try with_reducible rfl
      try simp only [Act.put, List.getElem_toArray, List.getElem_cons_zero, List.getElem_cons_succ, List.setIfInBounds_toArray, List.set_cons_zero, List.set_cons_succ]
      refine wpAnyH_take (i := 6) (v := ?_) rfl (by kernel_rfl) (by kernel_rfl) (by kernel_rfl) (fun _ _ _ h => h) (Or.inl ⟨by rfl, ?_⟩) (by assumption) ?_
      rotate_left
      · intro w hSw; obtain ⟨s1, s2, s3, s4⟩ := hSw; go_simp; try with_reducible rfl
      try simp only [Act.put, List.getElem_toArray, List.getElem_cons_zero, List.getElem_cons_succ, List.setIfInBounds_toArray, List.set_cons_zero, List.set_cons_succ]
      refine wpAnyH_take (i := 7) (v := ?_) rfl (by kernel_rfl) (by kernel_rfl) (by kernel_rfl) (fun _ _ _ h => h) (Or.inl ⟨by rfl, ?_⟩) (by assumption) ?_
      rotate_left
      · intro w hSw; obtain ⟨s1, s2, s3, s4⟩ := hSw; go_simp; try with_reducible rfl
      try simp only [Act.put, List.getElem_toArray, List.getElem_cons_zero, List.getElem_cons_succ, List.setIfInBounds_toArray, List.set_cons_zero, List.set_cons_succ]
      refine wpAnyH_take (i := 8) (v := ?_) rfl (by kernel_rfl) (by kernel_rfl) (by kernel_rfl) (fun _ _ _ h => h) (Or.inl ⟨by rfl, ?_⟩) (by assumption) ?_
      rotate_left
      · intro w hSw; obtain ⟨s1, s2, s3, s4⟩ := hSw; go_simp; try with_reducible rfl
      try simp only [Act.put, List.getElem_toArray, List.getElem_cons_zero, List.getElem_cons_succ, List.setIfInBounds_toArray, List.set_cons_zero, List.set_cons_succ]
      refine wpAnyH_take (i := 9) (v := ?_) rfl (by kernel_rfl) (by kernel_rfl) (by kernel_rfl) (fun _ _ _ h => h) (Or.inl ⟨by rfl, ?_⟩) (by assumption) ?_
      rotate_left
      · intro w hSw; obtain ⟨s1, s2, s3, s4⟩ := hSw; go_simp; try with_reducible rfl
      try simp only [Act.put, List.getElem_toArray, List.getElem_cons_zero, List.getElem_cons_succ, List.setIfInBounds_toArray, List.set_cons_zero, List.set_cons_succ]
      refine wpAnyH_take (i := 10) (v := ?_) rfl (by kernel_rfl) (by kernel_rfl) (by kernel_rfl) (fun _ _ _ h => h) (Or.inl ⟨by rfl, ?_⟩) (by assumption) ?_
      rotate_left
      · intro w hSw; obtain ⟨s1, s2, s3, s4⟩ := hSw; go_simp; try with_reducible rfl
      try simp only [Act.put, List.getElem_toArray, List.getElem_cons_zero, List.getElem_cons_succ, List.setIfInBounds_toArray, List.set_cons_zero, List.set_cons_succ]
      refine wpAnyH_take (i := 11) (v := ?_) rfl (by kernel_rfl) (by kernel_rfl) (by kernel_rfl) (fun _ _ _ h => h) (Or.inl ⟨by rfl, ?_⟩) (by assumption) ?_
      rotate_left
      · intro w hSw; obtain ⟨s1, s2, s3, s4⟩ := hSw; go_simp; try with_reducible rfl
      try simp only [Act.put, List.getElem_toArray, List.getElem_cons_zero, List.getElem_cons_succ, List.setIfInBounds_toArray, List.set_cons_zero, List.set_cons_succ]
      refine wpAnyH_take (i := 12) (v := ?_) rfl (by kernel_rfl) (by kernel_rfl) (by kernel_rfl) (fun _ _ _ h => h) (Or.inl ⟨by rfl, ?_⟩) (by assumption) ?_
      rotate_left
      · intro w hSw; obtain ⟨s1, s2, s3, s4⟩ := hSw; go_simp; try with_reducible rfl
      try simp only [Act.put, List.getElem_toArray, List.getElem_cons_zero, List.getElem_cons_succ, List.setIfInBounds_toArray, List.set_cons_zero, List.set_cons_succ]
      refine wpAnyH_take (i := 13) (v := ?_) rfl (by kernel_rfl) (by kernel_rfl) (by kernel_rfl) (fun _ _ _ h => h) (Or.inl ⟨by rfl, ?_⟩) (by assumption) ?_
      rotate_left
      · intro w hSw; obtain ⟨s1, s2, s3, s4⟩ := hSw; go_simp; try with_reducible rfl
      try simp only [Act.put, List.getElem_toArray, List.getElem_cons_zero, List.getElem_cons_succ, List.setIfInBounds_toArray, List.set_cons_zero, List.set_cons_succ]
      refine wpAnyH_take (i := 14) (v := ?_) rfl (by kernel_rfl) (by kernel_rfl) (by kernel_rfl) (fun _ _ _ h => h) (Or.inl ⟨by rfl, ?_⟩) (by assumption) ?_
      rotate_left
      · intro w hSw; obtain ⟨s1, s2, s3, s4⟩ := hSw; go_simp; try with_reducible rfl
      try simp only [Act.put, List.getElem_toArray, List.getElem_cons_zero, List.getElem_cons_succ, List.setIfInBounds_toArray, List.set_cons_zero, List.set_cons_succ]
      refine wpAnyH_take (i := 15) (v := ?_) rfl (by kernel_rfl) (by kernel_rfl) (by kernel_rfl) (fun _ _ _ h => h) (Or.inl ⟨by rfl, ?_⟩) (by assumption) ?_
      rotate_left
      · intro w hSw; obtain ⟨s1, s2, s3, s4⟩ := hSw; go_simp; try with_reducible rfl
      try simp only [Act.put, List.getElem_toArray, List.getElem_cons_zero, List.getElem_cons_succ, List.setIfInBounds_toArray, List.set_cons_zero, List.set_cons_succ]
      refine wpAnyH_take (i := 16) (v := ?_) rfl (by kernel_rfl) (by kernel_rfl) (by kernel_rfl) (fun _ _ _ h => h) (Or.inl ⟨by rfl, ?_⟩) (by assumption) ?_
      rotate_left
      · intro w hSw; obtain ⟨s1, s2, s3, s4⟩ := hSw; go_simp; try with_reducible rfl
      try simp only [Act.put, List.getElem_toArray, List.getElem_cons_zero, List.getElem_cons_succ, List.setIfInBounds_toArray, List.set_cons_zero, List.set_cons_succ]
      refine wpAnyH_take (i := 17) (v := ?_) rfl (by kernel_rfl) (by kernel_rfl) (by kernel_rfl) (fun _ _ _ h => h) (Or.inl ⟨by rfl, ?_⟩) (by assumption) ?_
      rotate_left
      · intro w hSw; obtain ⟨s1, s2, s3, s4⟩ := hSw; go_simp; try with_reducible rfl
      try simp only [Act.put, List.getElem_toArray, List.getElem_cons_zero, List.getElem_cons_succ, List.setIfInBounds_toArray, List.set_cons_zero, List.set_cons_succ]
      refine wpAnyH_take (i := 18) (v := ?_) rfl (by kernel_rfl) (by kernel_rfl) (by kernel_rfl) (fun _ _ _ h => h) (Or.inl ⟨by rfl, ?_⟩) (by assumption) ?_
      rotate_left
      · intro w hSw; obtain ⟨s1, s2, s3, s4⟩ := hSw; go_simp; try with_reducible rfl
      try simp only [Act.put, List.getElem_toArray, List.getElem_cons_zero, List.getElem_cons_succ, List.setIfInBounds_toArray, List.set_cons_zero, List.set_cons_succ]
      refine wpAnyH_take (i := 19) (v := ?_) rfl (by kernel_rfl) (by kernel_rfl) (by kernel_rfl) (fun _ _ _ h => h) (Or.inl ⟨by rfl, ?_⟩) (by assumption) ?_
      rotate_left
      · intro w hSw; obtain ⟨s1, s2, s3, s4⟩ := hSw; go_simp; try with_reducible rfl
      try simp only [Act.put, List.getElem_toArray, List.getElem_cons_zero, List.getElem_cons_succ, List.setIfInBounds_toArray, List.set_cons_zero, List.set_cons_succ]
      refine wpAnyH_take (i := 20) (v := ?_) rfl (by kernel_rfl) (by kernel_rfl) (by kernel_rfl) (fun _ _ _ h => h) (Or.inl ⟨by rfl, ?_⟩) (by assumption) ?_
      rotate_left
      · intro w hSw; obtain ⟨s1, s2, s3, s4⟩ := hSw; go_simp; try with_reducible rfl
      try simp only [Act.put, List.getElem_toArray, List.getElem_cons_zero, List.getElem_cons_succ, List.setIfInBounds_toArray, List.set_cons_zero, List.set_cons_succ]
      refine wpAnyH_take (i := 21) (v := ?_) rfl (by kernel_rfl) (by kernel_rfl) (by kernel_rfl) (fun _ _ _ h => h) (Or.inl ⟨by rfl, ?_⟩) (by assumption) ?_
      rotate_left
      · intro w hSw; obtain ⟨s1, s2, s3, s4⟩ := hSw; go_simp; try with_reducible rfl
      try simp only [Act.put, List.getElem_toArray, List.getElem_cons_zero, List.getElem_cons_succ, List.setIfInBounds_toArray, List.set_cons_zero, List.set_cons_succ]
      refine wpAnyH_ready (rs := [1, 22]) (by kernel_rfl) (by simp) ?_
      refine AllReadyH.cons rfl (fun K hK => ?_) (AllReadyH.cons rfl (fun K hK => ?_) AllReadyH.nil)
      · go_simp
        refine hK.out _ _ hS0 (fun _ => ?_)
        clear hK K
        try simp only [Act.put, List.getElem_toArray, List.getElem_cons_zero, List.getElem_cons_succ, List.setIfInBounds_toArray, List.set_cons_zero, List.set_cons_succ]
        refine wpAnyH_ready (rs := [22]) (by kernel_rfl) (by simp) ?_
        refine AllReadyH.cons rfl (fun K hK => ?_) AllReadyH.nil
        go_simp
        refine hK.out _ _ (⟨(hba.cell (p := ⟨b5, _, none⟩) hbz).trans a0, (hba.cell (p := ⟨b5, _, none⟩) hbz).trans a1, (hba.cell (p := ⟨b5, _, none⟩) hbz).trans a2, (hba.cell (p := ⟨b5, _, none⟩) hbz).trans a3⟩) (fun _ => ?_)
        clear hK K
        try simp only [Act.put, List.getElem_toArray, List.getElem_cons_zero, List.getElem_cons_succ, List.setIfInBounds_toArray, List.set_cons_zero, List.set_cons_succ]
        refine wpAnyH_ready (rs := [23]) (by kernel_rfl) (by simp) ?_
        refine AllReadyH.cons rfl (fun K hK => ?_) AllReadyH.nil
        refine step_books rfl _ _ rfl (w.heap.size + 1 + 1) k wr.heap.size v (wcells (waysOf (l.take q))) a b c e rfl (by exact hown.alloc _) rfl (by exact heap_alloc_new _ _) hkn (by simp; omega) ?_
        intro g cap w4 hown4 hgrow4
        have kc := (fun i o (hi : i < w.heap.size + 1 + 1) => (World.cell?_of_block (a := ⟨i, o, none⟩) (hgrow4.block i (by simp; omega) (hne i hi))).trans (hba.cell (p := ⟨i, o, none⟩) (by simp; omega)))
        have kf := (fun i o (hi : i < w.heap.size + 1 + 1) => (World.frozen?_of_block (a := ⟨i, o, none⟩) (hgrow4.block i (by simp; omega) (hne i hi))).trans (hba.frozen (p := ⟨i, o, none⟩) (by simp; omega)))
        have hS4 : L4 b5 o5 q a b c e w4 := ⟨(kc _ _ (by omega)).trans a0, (kc _ _ (by omega)).trans a1, (kc _ _ (by omega)).trans a2, (kc _ _ (by omega)).trans a3⟩
        have y0 := (kc (w.heap.size + 1) 0 (by omega)).trans d0
        have y1 := (kc (w.heap.size + 1) 1 (by omega)).trans d1
        have y2 := (kc w.heap.size 0 (by omega)).trans d2
        have y3 := (kc w.heap.size 1 (by omega)).trans d3
        have y4 := (kf (w.heap.size + 1) 1 (by omega)).trans g1
        have y5 := (kf w.heap.size 0 (by omega)).trans g2
        have y6 := (kf w.heap.size 1 (by omega)).trans g3
        have hs4 : wr.heap.size + 1 ≤ w4.heap.size := by have := hgrow4.size; simpa using this
        have hbw4 : Below w.heap.size w w4 := ((hbw.alloc (by omega) _).drew.grown hgrow4 (by simp; omega) (fun g hg => by have := (hown.lt g hg).1; omega))
        refine hK.out _ _ hS4 (fun _ => ?_)
        clear hK K kc kf
        try simp only [Act.put, List.getElem_toArray, List.getElem_cons_zero, List.getElem_cons_succ, List.setIfInBounds_toArray, List.set_cons_zero, List.set_cons_succ]
        refine wpAnyH_take (i := 24) (v := ?_) rfl (by kernel_rfl) (by kernel_rfl) (by kernel_rfl) (fun _ _ _ h => h) (Or.inl ⟨by rfl, ?_⟩) (by assumption) ?_
        rotate_left
        · intro w hSw; obtain ⟨s1, s2, s3, s4⟩ := hSw; go_simp; try with_reducible rfl
        try simp only [Act.put, List.getElem_toArray, List.getElem_cons_zero, List.getElem_cons_succ, List.setIfInBounds_toArray, List.set_cons_zero, List.set_cons_succ]
        refine wpAnyH_ready (rs := [25]) (by kernel_rfl) (by simp) ?_
        refine AllReadyH.cons rfl (fun K hK => ?_) AllReadyH.nil
        go_simp
        refine hK.out _ _ ⟨(World.cell?_setCell_other _ _ _ _ (fun h => by injection h; omega)).trans hS4.1, (World.cell?_setCell_other _ _ _ _ (fun h => by injection h; omega)).trans hS4.2.1, (World.cell?_setCell_other _ _ _ _ (fun h => by injection h; omega)).trans hS4.2.2.1, (World.cell?_setCell_other _ _ _ _ (fun h => by injection h; omega)).trans hS4.2.2.2⟩ (fun _ => ?_)
        clear hK K
        refine wpAnyH_done (by kernel_rfl) ?_ _
        have hownF := ownsRow_setCell_below hown4 (a := ⟨w.heap.size + 1, 1, none⟩) (by simp) (.slice (some ⟨g, 0, none⟩) (k + 1) cap)
        go_wp2
        go_roundw
        case rel =>
          exact ⟨k + 1, .slice (some ⟨g, 0, none⟩) (k + 1) cap, by omega, by rw [← HQ.out]; simp; omega, by rw [HT.out, wcells_append]; exact hownF, hbw4.setCell (p := ⟨w.heap.size + 1, 1, none⟩) (by simp) _, by simp; omega, by simp [go_sem, y0], by simp [go_sem, y1], by simp [go_sem, y2], by simp [go_sem, y3], by simp [go_sem, y4], by simp [go_sem, y5], by simp [go_sem, y6]⟩
        case measure => rw [← HQ.out]; simp [intOf]; omega
      · go_simp
        refine hK.out _ _ ⟨(hba.cell (p := ⟨b5, _, none⟩) hbz).trans a0, (hba.cell (p := ⟨b5, _, none⟩) hbz).trans a1, (hba.cell (p := ⟨b5, _, none⟩) hbz).trans a2, (hba.cell (p := ⟨b5, _, none⟩) hbz).trans a3⟩ (fun _ => ?_)
        clear hK K
        try simp only [Act.put, List.getElem_toArray, List.getElem_cons_zero, List.getElem_cons_succ, List.setIfInBounds_toArray, List.set_cons_zero, List.set_cons_succ]
        refine wpAnyH_ready (rs := [1]) (by kernel_rfl) (by simp) ?_
        refine AllReadyH.cons rfl (fun K hK => ?_) AllReadyH.nil
        go_simp
        refine hK.out _ _ (⟨(hba.cell (p := ⟨b5, _, none⟩) hbz).trans a0, (hba.cell (p := ⟨b5, _, none⟩) hbz).trans a1, (hba.cell (p := ⟨b5, _, none⟩) hbz).trans a2, (hba.cell (p := ⟨b5, _, none⟩) hbz).trans a3⟩) (fun _ => ?_)
        clear hK K
        try simp only [Act.put, List.getElem_toArray, List.getElem_cons_zero, List.getElem_cons_succ, List.setIfInBounds_toArray, List.set_cons_zero, List.set_cons_succ]
        refine wpAnyH_ready (rs := [23]) (by kernel_rfl) (by simp) ?_
        refine AllReadyH.cons rfl (fun K hK => ?_) AllReadyH.nil
        refine step_books rfl _ _ rfl (w.heap.size + 1 + 1) k wr.heap.size v (wcells (waysOf (l.take q))) a b c e rfl (by exact hown.alloc _) rfl (by exact heap_alloc_new _ _) hkn (by simp; omega) ?_
        intro g cap w4 hown4 hgrow4
        have kc := (fun i o (hi : i < w.heap.size + 1 + 1) => (World.cell?_of_block (a := ⟨i, o, none⟩) (hgrow4.block i (by simp; omega) (hne i hi))).trans (hba.cell (p := ⟨i, o, none⟩) (by simp; omega)))
        have kf := (fun i o (hi : i < w.heap.size + 1 + 1) => (World.frozen?_of_block (a := ⟨i, o, none⟩) (hgrow4.block i (by simp; omega) (hne i hi))).trans (hba.frozen (p := ⟨i, o, none⟩) (by simp; omega)))
        have hS4 : L4 b5 o5 q a b c e w4 := ⟨(kc _ _ (by omega)).trans a0, (kc _ _ (by omega)).trans a1, (kc _ _ (by omega)).trans a2, (kc _ _ (by omega)).trans a3⟩
        have y0 := (kc (w.heap.size + 1) 0 (by omega)).trans d0
        have y1 := (kc (w.heap.size + 1) 1 (by omega)).trans d1
        have y2 := (kc w.heap.size 0 (by omega)).trans d2
        have y3 := (kc w.heap.size 1 (by omega)).trans d3
        have y4 := (kf (w.heap.size + 1) 1 (by omega)).trans g1
        have y5 := (kf w.heap.size 0 (by omega)).trans g2
        have y6 := (kf w.heap.size 1 (by omega)).trans g3
        have hs4 : wr.heap.size + 1 ≤ w4.heap.size := by have := hgrow4.size; simpa using this
        have hbw4 : Below w.heap.size w w4 := ((hbw.alloc (by omega) _).drew.grown hgrow4 (by simp; omega) (fun g hg => by have := (hown.lt g hg).1; omega))
        refine hK.out _ _ hS4 (fun _ => ?_)
        clear hK K kc kf
        try simp only [Act.put, List.getElem_toArray, List.getElem_cons_zero, List.getElem_cons_succ, List.setIfInBounds_toArray, List.set_cons_zero, List.set_cons_succ]
        refine wpAnyH_take (i := 24) (v := ?_) rfl (by kernel_rfl) (by kernel_rfl) (by kernel_rfl) (fun _ _ _ h => h) (Or.inl ⟨by rfl, ?_⟩) (by assumption) ?_
        rotate_left
        · intro w hSw; obtain ⟨s1, s2, s3, s4⟩ := hSw; go_simp; try with_reducible rfl
        try simp only [Act.put, List.getElem_toArray, List.getElem_cons_zero, List.getElem_cons_succ, List.setIfInBounds_toArray, List.set_cons_zero, List.set_cons_succ]
        refine wpAnyH_ready (rs := [25]) (by kernel_rfl) (by simp) ?_
        refine AllReadyH.cons rfl (fun K hK => ?_) AllReadyH.nil
        go_simp
        refine hK.out _ _ ⟨(World.cell?_setCell_other _ _ _ _ (fun h => by injection h; omega)).trans hS4.1, (World.cell?_setCell_other _ _ _ _ (fun h => by injection h; omega)).trans hS4.2.1, (World.cell?_setCell_other _ _ _ _ (fun h => by injection h; omega)).trans hS4.2.2.1, (World.cell?_setCell_other _ _ _ _ (fun h => by injection h; omega)).trans hS4.2.2.2⟩ (fun _ => ?_)
        clear hK K
        refine wpAnyH_done (by kernel_rfl) ?_ _
        have hownF := ownsRow_setCell_below hown4 (a := ⟨w.heap.size + 1, 1, none⟩) (by simp) (.slice (some ⟨g, 0, none⟩) (k + 1) cap)
        go_wp2
        go_roundw
        case rel =>
          exact ⟨k + 1, .slice (some ⟨g, 0, none⟩) (k + 1) cap, by omega, by rw [← HQ.out]; simp; omega, by rw [HT.out, wcells_append]; exact hownF, hbw4.setCell (p := ⟨w.heap.size + 1, 1, none⟩) (by simp) _, by simp; omega, by simp [go_sem, y0], by simp [go_sem, y1], by simp [go_sem, y2], by simp [go_sem, y3], by simp [go_sem, y4], by simp [go_sem, y5], by simp [go_sem, y6]⟩
        case measure => rw [← HQ.out]; simp [intOf]; omega
    · have : k = n := by omega
      subst this
      have HV := Lib.hid (own_ways' hown)
      have HW := Lib.hid hown
      clear hown
      have HT := Lib.hid (show l.take (4 * k) = l by rw [← HN.out, List.take_length])
      have hlast : ¬ ((4 * k : Nat) : Int) + 3 < (l.length : Int) := by have := HN.out; omega
      clear hd
      generalize 4 * k = q at HN HT hlast HV HW ⊢
      have hq400 : q ≤ 400 := by have := HN.out; omega
      obtain ⟨A, c, rfl, hA⟩ := HV.out
      go_wp2
      refine bodyPost_ret (v := .agg #[.int .i64 R, .slice A (waysOf (l.take q)).length c]) (by simp [results, Tryd.results52, go_sem, d2, d3]) rfl ⟨A, c, by rw [HT.out], ?_, ?_, fun ad had => by subst had; have := (HW.out.lt ad.block rfl).1; omega⟩
      · have h2 := ownsRow_setCell_below (ownsRow_setCell_below HW.out (a := ⟨w.heap.size, 0, none⟩) (by simp; omega) (.int .i64 R)) (a := ⟨w.heap.size, 1, none⟩) (by simp; omega) (.slice A (waysOf (l.take q)).length c)
        obtain ⟨A2, c2, h3, hA2⟩ := own_ways' h2
        injection h3 with h4
        subst h4
        rw [show waysOf l = waysOf (l.take q) by rw [HT.out]]
        exact hA2
      · exact (hbw.setCell (p := ⟨w.heap.size, 0, none⟩) (Nat.le_refl _) _).setCell (p := ⟨w.heap.size, 1, none⟩) (Nat.le_refl _) _

theorem IntsAt.up {w w' : World} {A : Option Addr} {l : List Int} (h : IntsAt w w.heap.size A l) (hb : Below w.heap.size w w') : IntsAt w' w'.heap.size A l := (h.below hb (Nat.le_refl _)).mono hb.size
theorem WaysAt.up {w w' : World} {A : Option Addr} {l : List Wy} (h : WaysAt w w.heap.size A l) (hb : Below w.heap.size w w') : WaysAt w' w'.heap.size A l := (h.below hb (Nat.le_refl _)).mono hb.size
theorem ints_new (w : World) (l : List Int) (t : TypeId) : IntsAt (w.alloc (.cells (l.map (Value.int .i64)).toArray t)) (w.alloc (.cells (l.map (Value.int .i64)).toArray t)).heap.size (some ⟨w.heap.size, 0, none⟩) l := by
  intro k x hx
  refine ⟨w.heap.size, 0, rfl, by simp, ?_⟩
  rw [cell_of_row _ _ _ _ _ _ (heap_alloc_new w _)]
  simp [hx]

/-- The books B and C of the chapter's examples. -/
def wsB : List Wy := [⟨0, 1, 5, 9⟩, ⟨1, 2, 0, 7⟩, ⟨2, 0, 4, 6⟩]
def wsC : List Wy := [⟨0, 1, 5, 9⟩, ⟨1, 2, 0, 3⟩, ⟨2, 0, 0, 9⟩, ⟨1, 0, 0, 1⟩]

end Go.Proofs.YtcebihijnedekaaDoor
