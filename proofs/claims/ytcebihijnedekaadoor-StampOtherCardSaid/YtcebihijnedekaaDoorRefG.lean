/-
  The walk of given, which copies books for the reference, and of large.
-/
import Derived.Test.YtcebihijnedekaaDoorWalkY
import Derived.Test.YtcebihijnedekaaDoorRefA
namespace Go.Proofs.YtcebihijnedekaaDoor
open Go.RowKit

theorem info83 : (Tryd.prog.info? 83).map (fun i => (i.zero, i.size, i.bytes)) = some (some (.agg #[.int .i64 0, .int .i64 0, .int .i64 0, .int .i64 0]), 4, 32) := by kernel_rfl

theorem own_waysT {w : World} {t base n : Nat} {v : Value} {ws : List Wy} (h : w.ownsRow base t 4 v n (wcells ws)) : ∃ A c, v = .slice A ws.length c ∧ WaysAt w w.heap.size A ws := by
  have hn : n = ws.length := by have := h.1; rw [wcells_len] at this; omega
  subst hn
  rcases h.2 with ⟨rfl, h0⟩ | ⟨g, cap, cur, rfl, h2⟩
  · have : ws = [] := by simpa using h0
    subst this
    exact ⟨none, 0, rfl, fun k x hx => by simp at hx⟩
  · refine ⟨some ⟨g, 0, none⟩, cap, rfl, ?_⟩
    intro k x hx
    have hk := lt_of_get hx
    obtain ⟨h1, h2, h3, h4⟩ := wcells_get ws k x hx
    refine ⟨g, 0, rfl, (h.lt g rfl).2, ?_, ?_, ?_, ?_⟩
    · rw [Nat.zero_add, h.cellAt _ (by omega)]; exact h1
    · rw [Nat.zero_add, h.cellAt _ (by omega)]; exact h2
    · rw [Nat.zero_add, h.cellAt _ (by omega)]; exact h3
    · rw [Nat.zero_add, h.cellAt _ (by omega)]; exact h4

/-- A way of the books lies in memory, and so does the list of ways. -/
def G4 (h0 : Nat) (sl : Value) (b p : Nat) (x y z u : Int) (w : World) : Prop :=
  w.cell? ⟨h0, 1, none⟩ = some sl ∧ w.cell? ⟨b, p, none⟩ = some (.int .i64 x) ∧ w.cell? ⟨b, p + 1, none⟩ = some (.int .i64 y) ∧ w.cell? ⟨b, p + 2, none⟩ = some (.int .i64 z) ∧ w.cell? ⟨b, p + 3, none⟩ = some (.int .i64 u)

theorem step_given {ops : Array Oper} {o : Oper} {ac : Act} {K : Act → World → Prop} {Q : Exit → Act → World → Prop} {E : Prop} {W : World} (hgd : o.guard = none) (s x : Operand)
    (ho : o.op = .call { callee := .builtin .append, args := #[s, x], argTypes := #[28, 28] }) (base k B : Nat) (v : Value) (xs : List Value) (a b c e : Int) (hs : ac.eval s = v) (hown : W.ownsRow base 83 4 v k xs)
    (hx : ac.eval x = .slice (some ⟨B, 0, none⟩) 1 1) (hB : W.heap[B]? = some (.cells #[.int .i64 a, .int .i64 b, .int .i64 c, .int .i64 e] 83 (0, 0))) (hk : (k + 1) * 4 ≤ 400) (hbase : base ≤ W.heap.size)
    (h : ∀ g cap w', w'.ownsRow base 83 4 (.slice (some ⟨g, 0, none⟩) (k + 1) cap) (k + 1) (xs ++ [.int .i64 a, .int .i64 b, .int .i64 c, .int .i64 e]) → W.grownBy w' v.ownBlock → K (ac.put o.dst (.slice (some ⟨g, 0, none⟩) (k + 1) cap)) w') :
    if Region.wanted o (yielded ops ac.tmps) = true then Oper.wp Tryd.prog o ac W K Q else E := by
  obtain ⟨i0, hi, hz0, hz1, hz2⟩ := info_parts info83
  refine step_append_lies W hgd s x 28 ho base 83 i0 (.agg #[.int .i64 0, .int .i64 0, .int .i64 0, .int .i64 0]) 4 32 Tryd.underlying28 hi hz0 hz1 hz2 rfl (by decide) v k xs hs hown ⟨B, 0, none⟩ 1 1 [.int .i64 a, .int .i64 b, .int .i64 c, .int .i64 e] hx rfl (World.news_of_block hB) ?_ (by decide) (by unfold maxLen; omega) (by omega) hbase _ rfl ?_
  · intro u hu
    simp only [List.mem_cons, List.not_mem_nil, or_false] at hu
    rcases hu with rfl | rfl | rfl | rfl <;> rfl
  · intro g cap w' h2 h3 _ _
    exact h g cap w' h2 h3

theorem wcells_take {ws : List Wy} {k : Nat} {x : Wy} (h : ws[k]? = some x) : wcells (ws.take (k + 1)) = wcells (ws.take k) ++ [.int .i64 x.src, .int .i64 x.dst, .int .i64 x.lo, .int .i64 x.hi] := by
  obtain ⟨hk, rfl⟩ := List.getElem?_eq_some_iff.1 h
  rw [List.take_succ_eq_append_getElem hk, wcells_append]
  rfl

/-- Copied books are handed back. -/
def RetGiven (w : World) (R : Int) (ws : List Wy) (e : Ending) (w' : World) : Prop := ∃ A c, e = .returned (.agg #[.int .i64 R, .slice A ws.length c]) ∧ WaysAt w' w'.heap.size A ws ∧ Below w.heap.size w w'

set_option maxRecDepth 100000 in
set_option maxHeartbeats 2000000 in
theorem given_any (R : Int) (A : Option Addr) (c : Nat) (ws : List Wy) (w : World) (h40 : ws.length ≤ 40) (hw : WaysAt w w.heap.size A ws) :
    Calls Tryd.prog 17 #[.agg #[.int .i64 R, .slice A ws.length c]] w (RetGiven w R ws) := by
  go_enter Tryd.func17, Tryd.ntmps17
  go_wp2
  obtain ⟨W0, hW0⟩ : ∃ W0, W0 = ((w.alloc (.cells #[.int .i64 R, .slice A ws.length c] 24)).alloc (.cells #[.int .i64 0, .slice none 0 0] 30)).alloc (.cells #[.int .i64 R, .slice none 0 0] 30) := ⟨_, rfl⟩
  have hz0' : W0.heap.size = w.heap.size + 1 + 1 + 1 := by rw [hW0]; simp
  have hb0 : Below w.heap.size w W0 := by rw [hW0]; exact (((Below.refl w.heap.size w).alloc (Nat.le_refl _) _).alloc (by simp) _).alloc (by simp; omega) _
  have c0 : W0.cell? ⟨w.heap.size + 1 + 1, 0, none⟩ = some (.int .i64 R) := by rw [hW0]; simp [go_sem]
  have c1 : W0.cell? ⟨w.heap.size + 1 + 1, 1, none⟩ = some (.slice none 0 0) := by rw [hW0]; simp [go_sem]
  have c2 : W0.cell? ⟨w.heap.size + 1, 0, none⟩ = some (.int .i64 0) := by rw [hW0]; simp [go_sem]
  have c3 : W0.cell? ⟨w.heap.size + 1, 1, none⟩ = some (.slice none 0 0) := by rw [hW0]; simp [go_sem]
  have c4 : W0.cell? ⟨w.heap.size, 1, none⟩ = some (.slice A ws.length c) := by rw [hW0]; simp [go_sem]
  have f1 : W0.frozen? ⟨w.heap.size + 1 + 1, 1, none⟩ = false := by rw [hW0]; simp [go_sem]
  have f2 : W0.frozen? ⟨w.heap.size + 1, 0, none⟩ = false := by rw [hW0]; simp [go_sem]
  have f3 : W0.frozen? ⟨w.heap.size + 1, 1, none⟩ = false := by rw [hW0]; simp [go_sem]
  rw [← hW0]
  clear hW0
  go_loopw [4] (fun i wr => ∃ (k : Nat) (v : Value), k ≤ ws.length ∧ i = .int .i64 k ∧ wr.ownsRow (w.heap.size + 1 + 1 + 1) 83 4 v k (wcells (ws.take k)) ∧ Below w.heap.size w wr ∧ w.heap.size + 1 + 1 + 1 ≤ wr.heap.size ∧
    wr.cell? ⟨w.heap.size + 1 + 1, 0, none⟩ = some (.int .i64 R) ∧ wr.cell? ⟨w.heap.size + 1 + 1, 1, none⟩ = some v ∧ wr.cell? ⟨w.heap.size + 1, 0, none⟩ = some (.int .i64 0) ∧ wr.cell? ⟨w.heap.size + 1, 1, none⟩ = some (.slice none 0 0) ∧ wr.cell? ⟨w.heap.size, 1, none⟩ = some (.slice A ws.length c) ∧
    wr.frozen? ⟨w.heap.size + 1 + 1, 1, none⟩ = false ∧ wr.frozen? ⟨w.heap.size + 1, 0, none⟩ = false ∧ wr.frozen? ⟨w.heap.size + 1, 1, none⟩ = false) (fun i _ => ws.length - (intOf i).toNat)
  case atStart => exact ⟨0, .slice none 0 0, Nat.zero_le _, rfl, World.ownsRow_nil _ _ _ _, hb0, by omega, c0, c1, c2, c3, c4, f1, f2, f3⟩
  case round =>
    obtain ⟨k, v, hk, rfl, hown, hbw, hsz, d0, d1, d2, d3, d4, g1, g2, g3⟩ := hrel
    clear c0 c1 c2 c3 c4 f1 f2 f3 hz0' hb0
    by_cases hlt : k < ws.length
    · have hx : ws[k]? = some ws[k] := List.getElem?_eq_getElem hlt
      generalize ws[k] = x at hx
      obtain ⟨b, off, rfl, hb, a0, a1, a2, a3⟩ := (hw.below hbw (Nat.le_refl _)) k x hx
      have HT := Lib.hid (wcells_take hx)
      have hki : (k : Int) < (ws.length : Int) := by omega
      have hk0 : (0 : Int) ≤ (k : Int) := by omega
      have hbz : b < wr.heap.size := by omega
      have hsz2 : w.heap.size + 1 + 1 < wr.heap.size := by omega
      have hsz1 : w.heap.size + 1 < wr.heap.size := by omega
      have hsz0 : w.heap.size < wr.heap.size := by omega
      have hkn : (k + 1) * 4 ≤ 400 := by omega
      clear hx hw
      obtain ⟨xa, xb, xc, xe⟩ := x
      dsimp only at a0 a1 a2 a3 HT
      have hne : ∀ i, i < w.heap.size + 1 + 1 + 1 → some i ≠ v.ownBlock := fun i hi h => by have := (hown.lt i h.symm).1; omega
      have hba := (Below.refl wr.heap.size wr).alloc (Nat.le_refl _) (.cells #[.int .i64 xa, .int .i64 xb, .int .i64 xc, .int .i64 xe] 83)
      go_wp2
      refine wp_region_held (S := G4 w.heap.size (.slice (some ⟨b, off, none⟩) ws.length c) b (off + k * 4) xa xb xc xe) (by kernel_rfl) ?_
      try (change wpAnyH _ _ _ _ _ _ _ _ (World.drew _))
      have hS0 : G4 w.heap.size (.slice (some ⟨b, off, none⟩) ws.length c) b (off + k * 4) xa xb xc xe wr.drew := ⟨d4, a0, a1, a2, a3⟩
      refine wpAnyH_take (i := 0) (v := ?_) rfl (by kernel_rfl) (by kernel_rfl) (by kernel_rfl) (fun _ _ _ h => h) (Or.inl ⟨by rfl, ?_⟩) (by assumption) ?_
      rotate_left
      · intro w hSw; obtain ⟨s0, s1, s2, s3, s4⟩ := hSw; go_simp; try with_reducible rfl
      try simp only [Act.put, List.getElem_toArray, List.getElem_cons_zero, List.setIfInBounds_toArray, List.set_cons_zero, List.set_cons_succ]
      refine wpAnyH_take (i := 2) (v := ?_) rfl (by kernel_rfl) (by kernel_rfl) (by kernel_rfl) (fun _ _ _ h => h) (Or.inl ⟨by rfl, ?_⟩) (by assumption) ?_
      rotate_left
      · intro w hSw; obtain ⟨s0, s1, s2, s3, s4⟩ := hSw; go_simp; try with_reducible rfl
      try simp only [Act.put, List.getElem_toArray, List.getElem_cons_zero, List.getElem_cons_succ, List.setIfInBounds_toArray, List.set_cons_zero, List.set_cons_succ]
      refine wpAnyH_take (i := 3) (v := ?_) rfl (by kernel_rfl) (by kernel_rfl) (by kernel_rfl) (fun _ _ _ h => h) (Or.inl ⟨by rfl, ?_⟩) (by assumption) ?_
      rotate_left
      · intro w hSw; obtain ⟨s0, s1, s2, s3, s4⟩ := hSw; go_simp; try with_reducible rfl
      try simp only [Act.put, List.getElem_toArray, List.getElem_cons_zero, List.getElem_cons_succ, List.setIfInBounds_toArray, List.set_cons_zero, List.set_cons_succ]
      refine wpAnyH_take (i := 4) (v := ?_) rfl (by kernel_rfl) (by kernel_rfl) (by kernel_rfl) (fun _ _ _ h => h) (Or.inl ⟨by rfl, ?_⟩) (by assumption) ?_
      rotate_left
      · intro w hSw; obtain ⟨s0, s1, s2, s3, s4⟩ := hSw; go_simp; try with_reducible rfl
      try simp only [Act.put, List.getElem_toArray, List.getElem_cons_zero, List.getElem_cons_succ, List.setIfInBounds_toArray, List.set_cons_zero, List.set_cons_succ]
      refine wpAnyH_take (i := 5) (v := ?_) rfl (by kernel_rfl) (by kernel_rfl) (by kernel_rfl) (fun _ _ _ h => h) (Or.inl ⟨by rfl, ?_⟩) (by assumption) ?_
      rotate_left
      · intro w hSw; obtain ⟨s0, s1, s2, s3, s4⟩ := hSw; go_simp; try with_reducible rfl
      try simp only [Act.put, List.getElem_toArray, List.getElem_cons_zero, List.getElem_cons_succ, List.setIfInBounds_toArray, List.set_cons_zero, List.set_cons_succ]
      refine wpAnyH_take (i := 6) (v := ?_) rfl (by kernel_rfl) (by kernel_rfl) (by kernel_rfl) (fun _ _ _ h => h) (Or.inl ⟨by rfl, ?_⟩) (by assumption) ?_
      rotate_left
      · intro w hSw; obtain ⟨s0, s1, s2, s3, s4⟩ := hSw; go_simp; try with_reducible rfl
      try simp only [Act.put, List.getElem_toArray, List.getElem_cons_zero, List.getElem_cons_succ, List.setIfInBounds_toArray, List.set_cons_zero, List.set_cons_succ]
      refine wpAnyH_ready (rs := [1, 7]) (by kernel_rfl) (by simp) ?_
      refine AllReadyH.cons rfl (fun K hK => ?_) (AllReadyH.cons rfl (fun K hK => ?_) AllReadyH.nil)
      · go_simp
        refine hK.out _ _ hS0 (fun _ => ?_)
        clear hK K
        try simp only [Act.put, List.getElem_toArray, List.getElem_cons_zero, List.getElem_cons_succ, List.setIfInBounds_toArray, List.set_cons_zero, List.set_cons_succ]
        refine wpAnyH_ready (rs := [7]) (by kernel_rfl) (by simp) ?_
        refine AllReadyH.cons rfl (fun K hK => ?_) AllReadyH.nil
        go_simp
        refine hK.out _ _ ⟨(hba.cell (p := ⟨w.heap.size, _, none⟩) hsz0).trans d4, (hba.cell (p := ⟨b, _, none⟩) hbz).trans a0, (hba.cell (p := ⟨b, _, none⟩) hbz).trans a1, (hba.cell (p := ⟨b, _, none⟩) hbz).trans a2, (hba.cell (p := ⟨b, _, none⟩) hbz).trans a3⟩ (fun _ => ?_)
        clear hK K
        try simp only [Act.put, List.getElem_toArray, List.getElem_cons_zero, List.getElem_cons_succ, List.setIfInBounds_toArray, List.set_cons_zero, List.set_cons_succ]
        refine wpAnyH_ready (rs := [8]) (by kernel_rfl) (by simp) ?_
        refine AllReadyH.cons rfl (fun K hK => ?_) AllReadyH.nil
        refine step_given rfl _ _ rfl (w.heap.size + 1 + 1 + 1) k wr.heap.size v (wcells (ws.take k)) xa xb xc xe rfl (by exact hown.alloc _) rfl (by exact heap_alloc_new _ _) hkn (by simp; omega) ?_
        intro g cap w4 hown4 hgrow4
        have kc := (fun i o (hi : i < w.heap.size + 1 + 1 + 1) => (World.cell?_of_block (a := ⟨i, o, none⟩) (hgrow4.block i (by simp; omega) (hne i hi))).trans (hba.cell (p := ⟨i, o, none⟩) (by simp; omega)))
        have kf := (fun i o (hi : i < w.heap.size + 1 + 1 + 1) => (World.frozen?_of_block (a := ⟨i, o, none⟩) (hgrow4.block i (by simp; omega) (hne i hi))).trans (hba.frozen (p := ⟨i, o, none⟩) (by simp; omega)))
        have hS4 : G4 w.heap.size (.slice (some ⟨b, off, none⟩) ws.length c) b (off + k * 4) xa xb xc xe w4 := ⟨(kc _ _ (by omega)).trans d4, (kc _ _ (by omega)).trans a0, (kc _ _ (by omega)).trans a1, (kc _ _ (by omega)).trans a2, (kc _ _ (by omega)).trans a3⟩
        have y0 := (kc (w.heap.size + 1 + 1) 0 (by omega)).trans d0
        have y1 := (kc (w.heap.size + 1 + 1) 1 (by omega)).trans d1
        have y2 := (kc (w.heap.size + 1) 0 (by omega)).trans d2
        have y3 := (kc (w.heap.size + 1) 1 (by omega)).trans d3
        have y4 := (kf (w.heap.size + 1 + 1) 1 (by omega)).trans g1
        have y5 := (kf (w.heap.size + 1) 0 (by omega)).trans g2
        have y6 := (kf (w.heap.size + 1) 1 (by omega)).trans g3
        have y7 := (kc w.heap.size 1 (by omega)).trans d4
        have hs4 : wr.heap.size + 1 ≤ w4.heap.size := by have := hgrow4.size; simpa using this
        have hbw4 : Below w.heap.size w w4 := ((hbw.alloc (by omega) _).drew.grown hgrow4 (by simp; omega) (fun g hg => by have := (hown.lt g hg).1; omega))
        refine hK.out _ _ hS4 (fun _ => ?_)
        clear hK K kc kf
        try simp only [Act.put, List.getElem_toArray, List.getElem_cons_zero, List.getElem_cons_succ, List.setIfInBounds_toArray, List.set_cons_zero, List.set_cons_succ]
        refine wpAnyH_take (i := 9) (v := ?_) rfl (by kernel_rfl) (by kernel_rfl) (by kernel_rfl) (fun _ _ _ h => h) (Or.inl ⟨by rfl, ?_⟩) (by assumption) ?_
        rotate_left
        · intro w hSw; obtain ⟨s0, s1, s2, s3, s4⟩ := hSw; go_simp; try with_reducible rfl
        try simp only [Act.put, List.getElem_toArray, List.getElem_cons_zero, List.getElem_cons_succ, List.setIfInBounds_toArray, List.set_cons_zero, List.set_cons_succ]
        refine wpAnyH_ready (rs := [10]) (by kernel_rfl) (by simp) ?_
        refine AllReadyH.cons rfl (fun K hK => ?_) AllReadyH.nil
        go_simp
        refine hK.out _ _ ⟨(World.cell?_setCell_other _ _ _ _ (fun h => by injection h; omega)).trans hS4.1, (World.cell?_setCell_other _ _ _ _ (fun h => by injection h; omega)).trans hS4.2.1, (World.cell?_setCell_other _ _ _ _ (fun h => by injection h; omega)).trans hS4.2.2.1, (World.cell?_setCell_other _ _ _ _ (fun h => by injection h; omega)).trans hS4.2.2.2.1, (World.cell?_setCell_other _ _ _ _ (fun h => by injection h; omega)).trans hS4.2.2.2.2⟩ (fun _ => ?_)
        clear hK K
        refine wpAnyH_done (by kernel_rfl) ?_ _
        have hownF := ownsRow_setCell_below hown4 (a := ⟨w.heap.size + 1 + 1, 1, none⟩) (by simp) (.slice (some ⟨g, 0, none⟩) (k + 1) cap)
        go_wp2
        go_roundw
        case rel =>
          exact ⟨k + 1, .slice (some ⟨g, 0, none⟩) (k + 1) cap, by omega, by go_num, by rw [HT.out]; exact hownF, hbw4.setCell (p := ⟨w.heap.size + 1 + 1, 1, none⟩) (by simp; omega) _, by simp; omega, by simp [go_sem, y0], by simp [go_sem, y1], by simp [go_sem, y2], by simp [go_sem, y3], by simp [go_sem, y7], by simp [go_sem, y4], by simp [go_sem, y5], by simp [go_sem, y6]⟩
        case measure => simp [intOf]; omega
      · go_simp
        refine hK.out _ _ ⟨(hba.cell (p := ⟨w.heap.size, _, none⟩) hsz0).trans d4, (hba.cell (p := ⟨b, _, none⟩) hbz).trans a0, (hba.cell (p := ⟨b, _, none⟩) hbz).trans a1, (hba.cell (p := ⟨b, _, none⟩) hbz).trans a2, (hba.cell (p := ⟨b, _, none⟩) hbz).trans a3⟩ (fun _ => ?_)
        clear hK K
        try simp only [Act.put, List.getElem_toArray, List.getElem_cons_zero, List.getElem_cons_succ, List.setIfInBounds_toArray, List.set_cons_zero, List.set_cons_succ]
        refine wpAnyH_ready (rs := [1]) (by kernel_rfl) (by simp) ?_
        refine AllReadyH.cons rfl (fun K hK => ?_) AllReadyH.nil
        go_simp
        refine hK.out _ _ ⟨(hba.cell (p := ⟨w.heap.size, _, none⟩) hsz0).trans d4, (hba.cell (p := ⟨b, _, none⟩) hbz).trans a0, (hba.cell (p := ⟨b, _, none⟩) hbz).trans a1, (hba.cell (p := ⟨b, _, none⟩) hbz).trans a2, (hba.cell (p := ⟨b, _, none⟩) hbz).trans a3⟩ (fun _ => ?_)
        clear hK K
        try simp only [Act.put, List.getElem_toArray, List.getElem_cons_zero, List.getElem_cons_succ, List.setIfInBounds_toArray, List.set_cons_zero, List.set_cons_succ]
        refine wpAnyH_ready (rs := [8]) (by kernel_rfl) (by simp) ?_
        refine AllReadyH.cons rfl (fun K hK => ?_) AllReadyH.nil
        refine step_given rfl _ _ rfl (w.heap.size + 1 + 1 + 1) k wr.heap.size v (wcells (ws.take k)) xa xb xc xe rfl (by exact hown.alloc _) rfl (by exact heap_alloc_new _ _) hkn (by simp; omega) ?_
        intro g cap w4 hown4 hgrow4
        have kc := (fun i o (hi : i < w.heap.size + 1 + 1 + 1) => (World.cell?_of_block (a := ⟨i, o, none⟩) (hgrow4.block i (by simp; omega) (hne i hi))).trans (hba.cell (p := ⟨i, o, none⟩) (by simp; omega)))
        have kf := (fun i o (hi : i < w.heap.size + 1 + 1 + 1) => (World.frozen?_of_block (a := ⟨i, o, none⟩) (hgrow4.block i (by simp; omega) (hne i hi))).trans (hba.frozen (p := ⟨i, o, none⟩) (by simp; omega)))
        have hS4 : G4 w.heap.size (.slice (some ⟨b, off, none⟩) ws.length c) b (off + k * 4) xa xb xc xe w4 := ⟨(kc _ _ (by omega)).trans d4, (kc _ _ (by omega)).trans a0, (kc _ _ (by omega)).trans a1, (kc _ _ (by omega)).trans a2, (kc _ _ (by omega)).trans a3⟩
        have y0 := (kc (w.heap.size + 1 + 1) 0 (by omega)).trans d0
        have y1 := (kc (w.heap.size + 1 + 1) 1 (by omega)).trans d1
        have y2 := (kc (w.heap.size + 1) 0 (by omega)).trans d2
        have y3 := (kc (w.heap.size + 1) 1 (by omega)).trans d3
        have y4 := (kf (w.heap.size + 1 + 1) 1 (by omega)).trans g1
        have y5 := (kf (w.heap.size + 1) 0 (by omega)).trans g2
        have y6 := (kf (w.heap.size + 1) 1 (by omega)).trans g3
        have y7 := (kc w.heap.size 1 (by omega)).trans d4
        have hs4 : wr.heap.size + 1 ≤ w4.heap.size := by have := hgrow4.size; simpa using this
        have hbw4 : Below w.heap.size w w4 := ((hbw.alloc (by omega) _).drew.grown hgrow4 (by simp; omega) (fun g hg => by have := (hown.lt g hg).1; omega))
        refine hK.out _ _ hS4 (fun _ => ?_)
        clear hK K kc kf
        try simp only [Act.put, List.getElem_toArray, List.getElem_cons_zero, List.getElem_cons_succ, List.setIfInBounds_toArray, List.set_cons_zero, List.set_cons_succ]
        refine wpAnyH_take (i := 9) (v := ?_) rfl (by kernel_rfl) (by kernel_rfl) (by kernel_rfl) (fun _ _ _ h => h) (Or.inl ⟨by rfl, ?_⟩) (by assumption) ?_
        rotate_left
        · intro w hSw; obtain ⟨s0, s1, s2, s3, s4⟩ := hSw; go_simp; try with_reducible rfl
        try simp only [Act.put, List.getElem_toArray, List.getElem_cons_zero, List.getElem_cons_succ, List.setIfInBounds_toArray, List.set_cons_zero, List.set_cons_succ]
        refine wpAnyH_ready (rs := [10]) (by kernel_rfl) (by simp) ?_
        refine AllReadyH.cons rfl (fun K hK => ?_) AllReadyH.nil
        go_simp
        refine hK.out _ _ ⟨(World.cell?_setCell_other _ _ _ _ (fun h => by injection h; omega)).trans hS4.1, (World.cell?_setCell_other _ _ _ _ (fun h => by injection h; omega)).trans hS4.2.1, (World.cell?_setCell_other _ _ _ _ (fun h => by injection h; omega)).trans hS4.2.2.1, (World.cell?_setCell_other _ _ _ _ (fun h => by injection h; omega)).trans hS4.2.2.2.1, (World.cell?_setCell_other _ _ _ _ (fun h => by injection h; omega)).trans hS4.2.2.2.2⟩ (fun _ => ?_)
        clear hK K
        refine wpAnyH_done (by kernel_rfl) ?_ _
        have hownF := ownsRow_setCell_below hown4 (a := ⟨w.heap.size + 1 + 1, 1, none⟩) (by simp) (.slice (some ⟨g, 0, none⟩) (k + 1) cap)
        go_wp2
        go_roundw
        case rel =>
          exact ⟨k + 1, .slice (some ⟨g, 0, none⟩) (k + 1) cap, by omega, by go_num, by rw [HT.out]; exact hownF, hbw4.setCell (p := ⟨w.heap.size + 1 + 1, 1, none⟩) (by simp; omega) _, by simp; omega, by simp [go_sem, y0], by simp [go_sem, y1], by simp [go_sem, y2], by simp [go_sem, y3], by simp [go_sem, y7], by simp [go_sem, y4], by simp [go_sem, y5], by simp [go_sem, y6]⟩
        case measure => simp [intOf]; omega
    · have : k = ws.length := by omega
      subst this
      have hlast : ¬ (ws.length : Int) < (ws.length : Int) := by omega
      have HV := Lib.hid (own_waysT hown)
      have HW := Lib.hid hown
      clear hown
      rw [List.take_length] at HV HW
      obtain ⟨A', c', rfl, hA⟩ := HV.out
      go_wp2
      refine bodyPost_ret (v := .agg #[.int .i64 R, .slice A' ws.length c']) (by simp [results, Tryd.results17, go_sem, d2, d3]) rfl ⟨A', c', rfl, ?_, ?_⟩
      · have h2 := ownsRow_setCell_below (ownsRow_setCell_below HW.out (a := ⟨w.heap.size + 1, 0, none⟩) (by simp) (.int .i64 R)) (a := ⟨w.heap.size + 1, 1, none⟩) (by simp) (.slice A' ws.length c')
        obtain ⟨A2, c2, h3, hA2⟩ := own_waysT h2
        injection h3 with h4
        subst h4
        exact hA2
      · exact (hbw.setCell (p := ⟨w.heap.size + 1, 0, none⟩) (by simp) _).setCell (p := ⟨w.heap.size + 1, 1, none⟩) (by simp) _

set_option maxHeartbeats 400000 in
theorem large_any (R : Int) (A D : Option Addr) (n c m d : Nat) (w : World) :
    Calls Tryd.prog 15 #[.agg #[.int .i64 R, .slice A n c], .slice D m d] w fun e w' => e = .returned (.bool (decide (40 < n ∨ 40 < m))) ∧ Below w.heap.size w w' := by
  by_cases h1 : 40 < n
  · rw [decide_eq_true (.inl h1)]
    have h1' : (40 : Int) < (n : Int) := by omega
    go_enter Tryd.func15, Tryd.ntmps15
    go_wp2
    go_ret
    exact ⟨rfl, (Below.refl _ _).alloc (Nat.le_refl _) _⟩
  by_cases h2 : 40 < m
  · rw [decide_eq_true (.inr h2)]
    have h1' : ¬ (40 : Int) < (n : Int) := by omega
    have h2' : (40 : Int) < (m : Int) := by omega
    go_enter Tryd.func15, Tryd.ntmps15
    go_wp2
    go_ret
    exact ⟨rfl, (Below.refl _ _).alloc (Nat.le_refl _) _⟩
  · rw [decide_eq_false (by omega)]
    have h1' : ¬ (40 : Int) < (n : Int) := by omega
    have h2' : ¬ (40 : Int) < (m : Int) := by omega
    go_enter Tryd.func15, Tryd.ntmps15
    go_wp2
    go_ret
    exact ⟨rfl, (Below.refl _ _).alloc (Nat.le_refl _) _⟩
end Go.Proofs.YtcebihijnedekaaDoor
