/-
  The walk of with: books in which a way has just one number, in memory of their own.
-/
import Derived.Test.YtcebihijnedekaaDoorRefG
import Derived.Test.YtcebihijnedekaaDoorRefC
import Derived.Test.YtcebihijnedekaaDoorWalkR
import Derived.Test.YtcebihijnedekaaDoorKnownA
import Derived.OneCell
namespace Go.Proofs.YtcebihijnedekaaDoor
open Go.RowKit

/-- Two cells of a block. -/
def C2 (h0 : Nat) (x y : Value) (w : World) : Prop := w.cell? ⟨h0, 0, none⟩ = some x ∧ w.cell? ⟨h0, 1, none⟩ = some y

theorem step_with {ops : Array Oper} {o : Oper} {ac : Act} {K : Act → World → Prop} {Q : Exit → Act → World → Prop} {E : Prop} {W : World} (hgd : o.guard = none) (s x : Operand)
    (ho : o.op = .call { callee := .builtin .append, args := #[s, x], argTypes := #[28, 28] }) (base g0 b off c : Nat) (ws : List Wy) (hs : ac.eval s = .slice (some ⟨g0, 0, none⟩) 0 0) (hown : W.ownsRow base 83 4 (.slice (some ⟨g0, 0, none⟩) 0 0) 0 [])
    (hx : ac.eval x = .slice (some ⟨b, off, none⟩) ws.length c) (hw : WaysAt W W.heap.size (some ⟨b, off, none⟩) ws) (h0 : 0 < ws.length) (h12 : ws.length ≤ 12) (hbase : base ≤ W.heap.size)
    (h : ∀ g cap w', w'.ownsRow base 83 4 (.slice (some ⟨g, 0, none⟩) ws.length cap) ws.length (wcells ws) → W.grownBy w' (some g0) → (g = g0 ∨ g = W.heap.size) → K (ac.put o.dst (.slice (some ⟨g, 0, none⟩) ws.length cap)) w') :
    if Region.wanted o (yielded ops ac.tmps) = true then Oper.wp Tryd.prog o ac W K Q else E := by
  obtain ⟨i0, hi, hz0, hz1, hz2⟩ := info_parts info83
  refine step_append_lies W hgd s x 28 ho base 83 i0 (.agg #[.int .i64 0, .int .i64 0, .int .i64 0, .int .i64 0]) 4 32 Tryd.underlying28 hi hz0 hz1 hz2 rfl (by decide) _ 0 [] hs hown ⟨b, off, none⟩ ws.length c (wcells ws) hx (wcells_len ws) (ways_cells hw) (wcells_one ws) h0 (by unfold maxLen; omega) (by omega) hbase _ rfl ?_
  intro g cap w' h2 h3 h4 _
  rw [Nat.zero_add] at h2 ⊢
  exact h g cap w' h2 h3 (by rcases h4 with h4 | h4; · exact .inl (Option.some.inj h4).symm
                             · exact .inr h4)

theorem wcells_hi : ∀ (ws : List Wy) (k : Nat) (x : Wy) (n : Int), ws[k]? = some x → wcells (ws.set k (fixW x n)) = ((wcells ws).set (k * 4 + 2) (.int .i64 n)).set (k * 4 + 3) (.int .i64 n) := by
  intro ws k x n h
  have h1 := wcells_lo ws k x n h
  have h2 : ws.set k (fixW x n) = (ws.set k { x with lo := n }).set k (fixW x n) := by rw [List.set_set]
  rw [h2, ← h1]
  have hk := lt_of_get h
  have h3 : (ws.set k { x with lo := n })[k]? = some { x with lo := n } := by rw [getElem?_mem_set hk, if_pos rfl]
  generalize ws.set k { x with lo := n } = vs at h3
  clear h h1 h2 hk
  induction vs generalizing k with
  | nil => simp at h3
  | cons y vs ih =>
    rcases k with _ | k
    · simp at h3; subst h3; rfl
    · simp only [List.getElem?_cons_succ] at h3
      have := ih k h3
      simp only [List.set_cons_succ, wcells]
      rw [this]
      rw [show (k + 1) * 4 = k * 4 + 3 + 1 by omega, List.set_cons_succ]

theorem upw {W0 W : World} {A : Option Addr} {ws : List Wy} (h : WaysAt W0 W0.heap.size A ws) (hW : Below W0.heap.size W0 W) : WaysAt W W.heap.size A ws := (h.below hW (Nat.le_refl _)).mono hW.size
theorem upi {W0 W : World} {A : Option Addr} {l : List Int} (h : IntsAt W0 W0.heap.size A l) (hW : Below W0.heap.size W0 W) : IntsAt W W.heap.size A l := (h.below hW (Nat.le_refl _)).mono hW.size
theorem C2.up {h0 : Nat} {x y : Value} {W W' : World} (h : C2 h0 x y W) {B : Nat} (hb : Below B W W') (hl : h0 < B) : C2 h0 x y W' := ⟨(hb.cell (p := ⟨h0, 0, none⟩) hl).trans h.1, (hb.cell (p := ⟨h0, 1, none⟩) hl).trans h.2⟩

set_option maxRecDepth 100000 in
set_option maxHeartbeats 2000000 in
theorem withB_any (R n : Int) (k : Nat) (A : Option Addr) (c : Nat) (ws : List Wy) (x : Wy) (w : World) (h12 : ws.length ≤ 12) (hx : ws[k]? = some x) (hw : WaysAt w w.heap.size A ws) :
    Calls Tryd.prog 66 #[.agg #[.int .i64 R, .slice A ws.length c], .int .i64 k, .int .i64 n] w (RetBooks w R (ws.set k (fixW x n))) := by
  have hk := lt_of_get hx
  obtain ⟨b, off, rfl, hb, _⟩ := hw k x hx
  have hk0 : (0 : Int) ≤ (k : Int) := by omega
  have hk1 : (k : Int) < (ws.length : Int) := by omega
  have h0 : 0 < ws.length := by omega
  go_enter Tryd.func66, Tryd.ntmps66
  go_wp2_with fail
  obtain ⟨W0, hW0⟩ : ∃ W0, W0 = (w.alloc (.cells #[.int .i64 R, .slice (some ⟨b, off, none⟩) ws.length c] 30)).alloc (.cells #[.int .i64 0, .slice none 0 0] 30) := ⟨_, rfl⟩
  have hz0 : w.heap.size + 1 < W0.heap.size := by rw [hW0]; simp
  have hz0' : w.heap.size < W0.heap.size := by omega
  have hb0 : Below w.heap.size w W0 := by rw [hW0]; exact ((Below.refl w.heap.size w).alloc (Nat.le_refl _) _).alloc (by simp) _
  have c0 : W0.cell? ⟨w.heap.size, 0, none⟩ = some (.int .i64 R) := by rw [hW0]; simp [go_sem]
  have c1 : W0.cell? ⟨w.heap.size, 1, none⟩ = some (.slice (some ⟨b, off, none⟩) ws.length c) := by rw [hW0]; simp [go_sem]
  have c2 : W0.cell? ⟨w.heap.size + 1, 0, none⟩ = some (.int .i64 0) := by rw [hW0]; simp [go_sem]
  have c3 : W0.cell? ⟨w.heap.size + 1, 1, none⟩ = some (.slice none 0 0) := by rw [hW0]; simp [go_sem]
  have f2 : W0.frozen? ⟨w.heap.size + 1, 0, none⟩ = false := by rw [hW0]; simp [go_sem]
  have f3 : W0.frozen? ⟨w.heap.size + 1, 1, none⟩ = false := by rw [hW0]; simp [go_sem]
  have hw0 := (hw.below hb0 (Nat.le_refl _)).mono (show w.heap.size ≤ W0.heap.size by omega)
  rw [← hW0]
  clear hW0
  go_upto_region 2 with fail
  go_cut [7] (fun s7 wx => ∃ g7 g cap : Nat, s7 = .pointer (some ⟨g7, 0, none⟩) ∧ W0.heap.size ≤ g7 ∧ g7 < wx.heap.size ∧ W0.heap.size ≤ g ∧ g < wx.heap.size ∧ ¬ g7 = g ∧ wx.cell? ⟨g7, 0, none⟩ = some (.int .i64 R) ∧ wx.cell? ⟨g7, 1, none⟩ = some (.slice (some ⟨g, 0, none⟩) ws.length cap) ∧
    wx.ownsRow W0.heap.size 83 4 (.slice (some ⟨g, 0, none⟩) ws.length cap) ws.length (wcells ws) ∧ Below W0.heap.size W0 wx)
  case first =>
    have hS00 : C2 w.heap.size (.int .i64 R) (.slice (some ⟨b, off, none⟩) ws.length c) W0 := ⟨c0, c1⟩
    have hS0 : C2 w.heap.size (.int .i64 R) (.slice (some ⟨b, off, none⟩) ws.length c) W0.drew := ⟨c0, c1⟩
    refine wp_region_held (S := C2 w.heap.size (.int .i64 R) (.slice (some ⟨b, off, none⟩) ws.length c)) (by kernel_rfl) ?_
    try (change wpAnyH _ _ _ _ _ _ _ _ (World.drew _))
    refine wpAnyH_take (i := 0) (v := ?_) rfl (by kernel_rfl) (by kernel_rfl) (by kernel_rfl) (fun _ _ _ h => h) (Or.inl ⟨by rfl, ?_⟩) (by assumption) ?_
    rotate_left
    · intro w hSw; obtain ⟨s0, s1⟩ := hSw; go_simp; try with_reducible rfl
    try simp only [Act.put, List.getElem_toArray, List.getElem_cons_zero, List.setIfInBounds_toArray, List.set_cons_zero, List.set_cons_succ]
    refine wpAnyH_take (i := 1) (v := ?_) rfl (by kernel_rfl) (by kernel_rfl) (by kernel_rfl) (fun _ _ _ h => h) (Or.inl ⟨by rfl, ?_⟩) (by assumption) ?_
    rotate_left
    · intro w hSw; obtain ⟨s0, s1⟩ := hSw; go_simp; try with_reducible rfl
    try simp only [Act.put, List.getElem_toArray, List.getElem_cons_zero, List.getElem_cons_succ, List.setIfInBounds_toArray, List.set_cons_zero, List.set_cons_succ]
    refine wpAnyH_take (i := 3) (v := ?_) rfl (by kernel_rfl) (by kernel_rfl) (by kernel_rfl) (fun _ _ _ h => h) (Or.inl ⟨by rfl, ?_⟩) (by assumption) ?_
    rotate_left
    · intro w hSw; obtain ⟨s0, s1⟩ := hSw; go_simp; try with_reducible rfl
    try simp only [Act.put, List.getElem_toArray, List.getElem_cons_zero, List.getElem_cons_succ, List.setIfInBounds_toArray, List.set_cons_zero, List.set_cons_succ]
    refine wpAnyH_take (i := 4) (v := ?_) rfl (by kernel_rfl) (by kernel_rfl) (by kernel_rfl) (fun _ _ _ h => h) (Or.inl ⟨by rfl, ?_⟩) (by assumption) ?_
    rotate_left
    · intro w hSw; obtain ⟨s0, s1⟩ := hSw; go_simp; try with_reducible rfl
    try simp only [Act.put, List.getElem_toArray, List.getElem_cons_zero, List.getElem_cons_succ, List.setIfInBounds_toArray, List.set_cons_zero, List.set_cons_succ]
    refine wpAnyH_ready (rs := [2, 7]) (by kernel_rfl) (by simp) ?_
    refine AllReadyH.cons rfl (fun K hK => ?_) (AllReadyH.cons rfl (fun K hK => ?_) AllReadyH.nil)
    · go_simp
      have hb1 : Below W0.heap.size W0 (W0.drew.alloc (.cells #[] 83)) := ((Below.refl _ _).drew).alloc (Nat.le_refl _) _
      refine hK.out _ _ (hS0.up ((Below.refl _ _).alloc (Nat.le_refl _) _) (by simp; omega)) (fun _ => ?_)
      clear hK K
      try simp only [Act.put, List.getElem_toArray, List.getElem_cons_zero, List.getElem_cons_succ, List.setIfInBounds_toArray, List.set_cons_zero, List.set_cons_succ]
      refine wpAnyH_ready (rs := [5, 7]) (by kernel_rfl) (by simp) ?_
      refine AllReadyH.cons rfl (fun K hK => ?_) (AllReadyH.cons rfl (fun K hK => ?_) AllReadyH.nil)
      · refine step_with rfl _ _ rfl W0.heap.size W0.heap.size b off c ws rfl (by exact World.ownsRow_made W0 #[] 0 (Nat.le_refl _) (by unfold maxLen; omega) rfl) rfl (by exact upw hw0 hb1) h0 h12 (by simp <;> omega) ?_
        intro g cap w4 hown4 hgrow4 hg4
        have hb4 : Below W0.heap.size W0 w4 := hb1.grown hgrow4 (by simp) (fun g hg => by cases hg; exact Nat.le_refl _)
        have hg := hown4.lt g rfl
        refine hK.out _ _ (C2.up hS00 hb4 (by omega)) (fun _ => ?_)
        clear hK K
        try simp only [Act.put, List.getElem_toArray, List.getElem_cons_zero, List.getElem_cons_succ, List.setIfInBounds_toArray, List.set_cons_zero, List.set_cons_succ]
        refine wpAnyH_take (i := 6) (v := ?_) rfl (by kernel_rfl) (by kernel_rfl) (by kernel_rfl) (fun _ _ _ h => h) (Or.inl ⟨by rfl, ?_⟩) (by assumption) ?_
        rotate_left
        · intro w hSw; obtain ⟨s0, s1⟩ := hSw; go_simp; try with_reducible rfl
        try simp only [Act.put, List.getElem_toArray, List.getElem_cons_zero, List.getElem_cons_succ, List.setIfInBounds_toArray, List.set_cons_zero, List.set_cons_succ]
        refine wpAnyH_ready (rs := [7]) (by kernel_rfl) (by simp) ?_
        refine AllReadyH.cons rfl (fun K hK => ?_) AllReadyH.nil
        go_simp
        refine hK.out _ _ (C2.up (C2.up hS00 hb4 (by omega)) ((Below.refl w4.heap.size w4).alloc (Nat.le_refl _) _) (by have := hb4.size; omega)) (fun _ => ?_)
        clear hK K
        try simp only [Act.put, List.getElem_toArray, List.getElem_cons_zero, List.getElem_cons_succ, List.setIfInBounds_toArray, List.set_cons_zero, List.set_cons_succ]
        refine wpAnyH_ready (rs := [8]) (by kernel_rfl) (by simp) ?_
        refine AllReadyH.cons rfl (fun K hK => ?_) AllReadyH.nil
        go_simp
        refine hK.out _ _ (C2.up (C2.up hS00 hb4 (by omega)) ((Below.refl w4.heap.size w4).alloc (Nat.le_refl _) _) (by have := hb4.size; omega)) (fun _ => ?_)
        clear hK K
        refine wpAnyH_done (by kernel_rfl) ?_ _
        have hs4 := hb4.size
        go_wp2_with fail
        go_meet
        exact ⟨w4.heap.size, g, cap, rfl, hs4, by simp, hg.1, by simp; omega, by omega, by simp [go_sem], by simp [go_sem], hown4.alloc _, hb4.alloc hs4 _⟩
      · go_simp
        have hb2 : Below W0.heap.size W0 (((W0.alloc (.cells #[] 83)).alloc (.cells #[.int .i64 0, .slice none 0 0] 30)).drew) := (((Below.refl _ _).alloc (Nat.le_refl _) _).alloc (by simp) _).drew
        refine hK.out _ _ (C2.up hS00 hb2 (by omega)) (fun _ => ?_)
        clear hK K
        try simp only [Act.put, List.getElem_toArray, List.getElem_cons_zero, List.getElem_cons_succ, List.setIfInBounds_toArray, List.set_cons_zero, List.set_cons_succ]
        refine wpAnyH_ready (rs := [5]) (by kernel_rfl) (by simp) ?_
        refine AllReadyH.cons rfl (fun K hK => ?_) AllReadyH.nil
        refine step_with rfl _ _ rfl W0.heap.size W0.heap.size b off c ws rfl (by exact (World.ownsRow_made W0 #[] 0 (Nat.le_refl _) (by unfold maxLen; omega) rfl).alloc _) rfl (by exact upw hw0 hb2) h0 h12 (by simp <;> omega) ?_
        intro g cap w4 hown4 hgrow4 hg4
        
        have hb4 : Below W0.heap.size W0 w4 := hb2.grown hgrow4 (by simp <;> omega) (fun g hg => by cases hg; first | exact Nat.le_refl _ | omega)
        have hg := hown4.lt g rfl
        have hg7 : ¬ (W0.heap.size + 1) = g := by
          rcases hg4 with h | h
          · omega
          · simp at h; omega
        have hs4 : W0.heap.size + 2 ≤ w4.heap.size := by have := hgrow4.size; simpa using this
        have y0 : w4.cell? ⟨W0.heap.size + 1, 0, none⟩ = some (.int .i64 0) := (World.cell?_of_block (a := ⟨W0.heap.size + 1, 0, none⟩) (hgrow4.block (W0.heap.size + 1) (by simp <;> omega) (by simp))).trans (by simp [go_sem])
        have y1 : w4.cell? ⟨W0.heap.size + 1, 1, none⟩ = some (.slice none 0 0) := (World.cell?_of_block (a := ⟨W0.heap.size + 1, 1, none⟩) (hgrow4.block (W0.heap.size + 1) (by simp <;> omega) (by simp))).trans (by simp [go_sem])
        have y2 : w4.frozen? ⟨W0.heap.size + 1, 0, none⟩ = false := (World.frozen?_of_block (a := ⟨W0.heap.size + 1, 0, none⟩) (hgrow4.block (W0.heap.size + 1) (by simp <;> omega) (by simp))).trans (by simp [go_sem])
        have y3 : w4.frozen? ⟨W0.heap.size + 1, 1, none⟩ = false := (World.frozen?_of_block (a := ⟨W0.heap.size + 1, 1, none⟩) (hgrow4.block (W0.heap.size + 1) (by simp <;> omega) (by simp))).trans (by simp [go_sem])
        refine hK.out _ _ (C2.up hS00 hb4 (by omega)) (fun _ => ?_)
        clear hK K
        try simp only [Act.put, List.getElem_toArray, List.getElem_cons_zero, List.getElem_cons_succ, List.setIfInBounds_toArray, List.set_cons_zero, List.set_cons_succ]
        refine wpAnyH_take (i := 6) (v := ?_) rfl (by kernel_rfl) (by kernel_rfl) (by kernel_rfl) (fun _ _ _ h => h) (Or.inl ⟨by rfl, ?_⟩) (by assumption) ?_
        rotate_left
        · intro w hSw; obtain ⟨s0, s1⟩ := hSw; go_simp; try with_reducible rfl
        try simp only [Act.put, List.getElem_toArray, List.getElem_cons_zero, List.getElem_cons_succ, List.setIfInBounds_toArray, List.set_cons_zero, List.set_cons_succ]
        refine wpAnyH_ready (rs := [8]) (by kernel_rfl) (by simp) ?_
        refine AllReadyH.cons rfl (fun K hK => ?_) AllReadyH.nil
        go_simp
        refine hK.out _ _ (C2.up hS00 ((hb4.setCell (p := ⟨W0.heap.size + 1, 0, none⟩) (by simp) _).setCell (p := ⟨W0.heap.size + 1, 1, none⟩) (by simp) _) (by omega)) (fun _ => ?_)
        clear hK K
        refine wpAnyH_done (by kernel_rfl) ?_ _
        go_wp2_with fail
        go_meet
        exact ⟨W0.heap.size + 1, g, cap, rfl, by omega, by simp; omega, hg.1, by simp; omega, hg7, by simp [go_sem, y0], by simp [go_sem, y1], ownsRow_setCell_other (ownsRow_setCell_other hown4 (by simp [Value.ownBlock]; omega) _) (by simp [Value.ownBlock]; omega) _, (hb4.setCell (p := ⟨W0.heap.size + 1, 0, none⟩) (by simp) _).setCell (p := ⟨W0.heap.size + 1, 1, none⟩) (by simp) _⟩
    · go_simp
      have hb1 : Below W0.heap.size W0 ((W0.alloc (.cells #[.int .i64 0, .slice none 0 0] 30)).drew) := ((Below.refl _ _).alloc (Nat.le_refl _) _).drew
      refine hK.out _ _ (C2.up hS00 hb1 (by omega)) (fun _ => ?_)
      clear hK K
      try simp only [Act.put, List.getElem_toArray, List.getElem_cons_zero, List.getElem_cons_succ, List.setIfInBounds_toArray, List.set_cons_zero, List.set_cons_succ]
      refine wpAnyH_ready (rs := [2]) (by kernel_rfl) (by simp) ?_
      refine AllReadyH.cons rfl (fun K hK => ?_) AllReadyH.nil
      go_simp
      have hb2 : Below W0.heap.size W0 (((W0.alloc (.cells #[.int .i64 0, .slice none 0 0] 30)).alloc (.cells #[] 83)).drew) := (((Below.refl _ _).alloc (Nat.le_refl _) _).alloc (by simp) _).drew
      refine hK.out _ _ (C2.up hS00 hb2 (by omega)) (fun _ => ?_)
      clear hK K
      try simp only [Act.put, List.getElem_toArray, List.getElem_cons_zero, List.getElem_cons_succ, List.setIfInBounds_toArray, List.set_cons_zero, List.set_cons_succ]
      refine wpAnyH_ready (rs := [5]) (by kernel_rfl) (by simp) ?_
      refine AllReadyH.cons rfl (fun K hK => ?_) AllReadyH.nil
      have hmade : (((W0.alloc (.cells #[.int .i64 0, .slice none 0 0] 30)).alloc (.cells #[] 83)).drew).ownsRow W0.heap.size 83 4 (.slice (some ⟨W0.heap.size + 1, 0, none⟩) 0 0) 0 [] := by
        have h := World.ownsRow_made (base := W0.heap.size) (e := 83) (size := 4) (W0.alloc (.cells #[.int .i64 0, .slice none 0 0] 30)) #[] 0 (by simp) (by unfold maxLen; omega) (by simp)
        simp only [World.size_alloc] at h
        exact h
      refine step_with rfl _ _ rfl W0.heap.size (W0.heap.size + 1) b off c ws rfl (by exact hmade) rfl (by exact upw hw0 hb2) h0 h12 (by simp <;> omega) ?_
      intro g cap w4 hown4 hgrow4 hg4
      
      have hb4 : Below W0.heap.size W0 w4 := hb2.grown hgrow4 (by simp <;> omega) (fun g hg => by cases hg; first | exact Nat.le_refl _ | omega)
      have hg := hown4.lt g rfl
      have hg7 : ¬ (W0.heap.size) = g := by
        rcases hg4 with h | h
        · omega
        · simp at h; omega
      have hs4 : W0.heap.size + 2 ≤ w4.heap.size := by have := hgrow4.size; simpa using this
      have y0 : w4.cell? ⟨W0.heap.size, 0, none⟩ = some (.int .i64 0) := (World.cell?_of_block (a := ⟨W0.heap.size, 0, none⟩) (hgrow4.block (W0.heap.size) (by simp <;> omega) (by simp))).trans (by simp [go_sem])
      have y1 : w4.cell? ⟨W0.heap.size, 1, none⟩ = some (.slice none 0 0) := (World.cell?_of_block (a := ⟨W0.heap.size, 1, none⟩) (hgrow4.block (W0.heap.size) (by simp <;> omega) (by simp))).trans (by simp [go_sem])
      have y2 : w4.frozen? ⟨W0.heap.size, 0, none⟩ = false := (World.frozen?_of_block (a := ⟨W0.heap.size, 0, none⟩) (hgrow4.block (W0.heap.size) (by simp <;> omega) (by simp))).trans (by simp [go_sem])
      have y3 : w4.frozen? ⟨W0.heap.size, 1, none⟩ = false := (World.frozen?_of_block (a := ⟨W0.heap.size, 1, none⟩) (hgrow4.block (W0.heap.size) (by simp <;> omega) (by simp))).trans (by simp [go_sem])
      refine hK.out _ _ (C2.up hS00 hb4 (by omega)) (fun _ => ?_)
      clear hK K
      try simp only [Act.put, List.getElem_toArray, List.getElem_cons_zero, List.getElem_cons_succ, List.setIfInBounds_toArray, List.set_cons_zero, List.set_cons_succ]
      refine wpAnyH_take (i := 6) (v := ?_) rfl (by kernel_rfl) (by kernel_rfl) (by kernel_rfl) (fun _ _ _ h => h) (Or.inl ⟨by rfl, ?_⟩) (by assumption) ?_
      rotate_left
      · intro w hSw; obtain ⟨s0, s1⟩ := hSw; go_simp; try with_reducible rfl
      try simp only [Act.put, List.getElem_toArray, List.getElem_cons_zero, List.getElem_cons_succ, List.setIfInBounds_toArray, List.set_cons_zero, List.set_cons_succ]
      refine wpAnyH_ready (rs := [8]) (by kernel_rfl) (by simp) ?_
      refine AllReadyH.cons rfl (fun K hK => ?_) AllReadyH.nil
      go_simp
      refine hK.out _ _ (C2.up hS00 ((hb4.setCell (p := ⟨W0.heap.size, 0, none⟩) (by simp) _).setCell (p := ⟨W0.heap.size, 1, none⟩) (by simp) _) (by omega)) (fun _ => ?_)
      clear hK K
      refine wpAnyH_done (by kernel_rfl) ?_ _
      go_wp2_with fail
      go_meet
      exact ⟨W0.heap.size, g, cap, rfl, by omega, by simp; omega, hg.1, by simp; omega, hg7, by simp [go_sem, y0], by simp [go_sem, y1], ownsRow_setCell_other (ownsRow_setCell_other hown4 (by simp [Value.ownBlock]; omega) _) (by simp [Value.ownBlock]; omega) _, (hb4.setCell (p := ⟨W0.heap.size, 0, none⟩) (by simp) _).setCell (p := ⟨W0.heap.size, 1, none⟩) (by simp) _⟩
  case rest =>
    obtain ⟨g7, g, cap, rfl, m1, m2, m3, m4, m5, m6, m7, m8, m9⟩ := hcut
    have HST := Lib.hid ((m8.stored (k * 4 + 2) (.int .i64 n)).1.stored (k * 4 + 3) (.int .i64 n)).1
    have hcl := wcells_len ws
    obtain ⟨_, _, v3, v4⟩ := wcells_get ws k x hx
    have e3 := (m8.cellAt (k * 4 + 2) (by omega)).trans v3
    have e4 := (m8.cellAt (k * 4 + 3) (by omega)).trans v4
    have e5 := m8.frozenAt (k * 4 + 2)
    have e6 := m8.frozenAt (k * 4 + 3)
    have d2 := (m9.cell (p := ⟨w.heap.size + 1, 0, none⟩) hz0).trans c2
    have d3 := (m9.cell (p := ⟨w.heap.size + 1, 1, none⟩) hz0).trans c3
    have d4 := (m9.frozen (p := ⟨w.heap.size + 1, 0, none⟩) hz0).trans f2
    have d5 := (m9.frozen (p := ⟨w.heap.size + 1, 1, none⟩) hz0).trans f3
    have hne1 : ¬ g7 = w.heap.size + 1 := by omega
    have hne2 : ¬ g = w.heap.size + 1 := by omega
    have hne3 : ¬ w.heap.size + 1 = g7 := by omega
    have hne4 : ¬ w.heap.size + 1 = g := by omega
    have hne5 : ¬ g = g7 := by omega
    clear v3 v4 hcl
    have HWH := Lib.hid (wcells_hi ws k x n hx)
    go_wp2
    go_region
    go_wp2
    refine bodyPost_ret (v := .agg #[.int .i64 R, .slice (some ⟨g, 0, none⟩) ws.length cap]) (by simp [results, Tryd.results66, go_sem, d2, d3]) rfl ⟨some ⟨g, 0, none⟩, cap, by rw [List.length_set], ?_, ?_, fun ad had => by cases had; exact Nat.le_of_lt (Nat.lt_of_lt_of_le hz0' m3)⟩
    · have h1 := HST.out
      rw [← HWH.out] at h1
      have h2 := ownsRow_setCell_below (ownsRow_setCell_below h1 (a := ⟨w.heap.size + 1, 0, none⟩) hz0 (.int .i64 R)) (a := ⟨w.heap.size + 1, 1, none⟩) hz0 (.slice (some ⟨g, 0, none⟩) ws.length cap)
      obtain ⟨A2, c2, h3, hA2⟩ := own_waysT h2
      injection h3 with h4
      subst h4
      exact hA2
    · exact (((((hb0.trans (m9.mono (by omega))).setCell (p := ⟨g, k * 4 + 2, none⟩) (by simp; omega) _).setCell (p := ⟨g, k * 4 + 3, none⟩) (by simp; omega) _).setCell (p := ⟨w.heap.size + 1, 0, none⟩) (by simp) _).setCell (p := ⟨w.heap.size + 1, 1, none⟩) (by simp) _).drew

theorem with_any (R n : Int) (k : Nat) (A : Option Addr) (c : Nat) (ws : List Wy) (x : Wy) (w : World) (h12 : ws.length ≤ 12) (hx : ws[k]? = some x) (hw : WaysAt w w.heap.size A ws) :
    Calls Tryd.prog 66 #[.agg #[.int .i64 R, .slice A ws.length c], .int .i64 k, .int .i64 n] w (RetGiven w R (ws.set k (fixW x n))) :=
  (withB_any R n k A c ws x w h12 hx hw).mono fun _ _ ⟨A', c', h1, h2, h3, _⟩ => ⟨A', c', h1, h2, h3⟩
end Go.Proofs.YtcebihijnedekaaDoor
