/-
  The statements' fillings: the size of a card; squares of the grid are set.
-/
import Derived.Test.YtlollcabnfncpaaDoorFilA
import Derived.Test.YtlollcabnfncpaaDoorWkA
import Derived.StillTailTactics
namespace Go.Proofs.YtlollcabnfncpaaDoor
open Go.RowKit

set_option maxRecDepth 100000 in
set_option maxHeartbeats 1000000 in
theorem lsize_any (s : Sh) (t : Bool) (w : World) :
    Calls Tryd.prog 95 #[.agg #[.int .i64 s.r, .int .i64 s.c, .int .i64 s.l, .int .i64 s.w], .bool t] w fun e w' => e = .returned (.tuple #[.int .i64 (hiS s t : Nat), .int .i64 (wiS s t : Nat)]) ∧ Below w.heap.size w w' := by
  rcases t with _ | _
  all_goals
    go_enter Tryd.func95, Tryd.ntmps95
    go_wp2
    go_quiet (fail)
    go_wp2
    go_ret2
    exact ⟨rfl, below_drewN (below_new _ _) _⟩

/-- The grid of squares lies in memory. -/
def GridAt (w : World) (g : Nat) (U : Nat → Nat → Bool) : Prop := (∀ r c, r < 6 → c < 6 → w.cell? ⟨g, r * 6 + c, none⟩ = some (.bool (U r c))) ∧ ∀ o, w.frozen? ⟨g, o, none⟩ = false
theorem GridAt.chg {w w' : World} {g : Nat} {U : Nat → Nat → Bool} {P : Nat → Prop} (h : GridAt w g U) (hc : Chg P w w') (hn : ¬ P g) : GridAt w' g U := by
  have hg : g < w.heap.size := lt_of_cell (h.1 0 0 (by decide) (by decide))
  exact ⟨fun r c hr hc' => (hc.cell (p := ⟨g, _, none⟩) hg hn).trans (h.1 r c hr hc'), fun o => (hc.frozen (p := ⟨g, _, none⟩) hg hn).trans (h.2 o)⟩
theorem GridAt.congr {w : World} {g : Nat} {U V : Nat → Nat → Bool} (h : GridAt w g U) (e : ∀ r c, U r c = V r c) : GridAt w g V := ⟨fun r c hr hc => by rw [← e]; exact h.1 r c hr hc, h.2⟩
/-- One square is set. -/
theorem GridAt.store {w : World} {g : Nat} {U : Nat → Nat → Bool} {a b : Nat} (v : Bool) (h : GridAt w g U) (hb : b < 6) : GridAt (w.setCell ⟨g, a * 6 + b, none⟩ (.bool v)) g (fun r c => if r = a ∧ c = b then v else U r c) := by
  refine ⟨fun r c hr hc => ?_, fun o => ?_⟩
  · by_cases e : r = a ∧ c = b
    · obtain ⟨rfl, rfl⟩ := e
      dsimp only
      rw [if_pos ⟨rfl, rfl⟩]
      simp [go_sem, h.1 r c hr hc]
    · dsimp only
      rw [if_neg e]
      simp [go_sem, h.1 r c hr hc]
  · simp [go_sem, h.2]

set_option maxRecDepth 100000 in
set_option maxHeartbeats 4000000 in
/-- Some squares are set. -/
theorem set_any (g1 g2 g g4 g5 : Nat) (v : Bool) (m n a b : Nat) (U : Nat → Nat → Bool) (w : World) (h1 : w.cell? ⟨g1, 0, none⟩ = some (.int .i64 m)) (h2 : w.cell? ⟨g2, 0, none⟩ = some (.int .i64 n)) (h4 : w.cell? ⟨g4, 0, none⟩ = some (.int .i64 a)) (h5 : w.cell? ⟨g5, 0, none⟩ = some (.int .i64 b))
    (hG : GridAt w g U) (n1 : ¬ g1 = g) (n2 : ¬ g2 = g) (n4 : ¬ g4 = g) (n5 : ¬ g5 = g) (ha : a + m ≤ 6) (hb : b + n ≤ 6) :
    Calls Tryd.prog 96 #[.bool v, .pointer (some ⟨g1, 0, none⟩), .pointer (some ⟨g2, 0, none⟩), .pointer (some ⟨g, 0, none⟩), .pointer (some ⟨g4, 0, none⟩), .pointer (some ⟨g5, 0, none⟩)] w
      fun e w' => e = .returned (.tuple #[]) ∧ GridAt w' g (setG U a b m n v) ∧ Chg (fun i => i = g) w w' := by
  go_enter Tryd.func96, Tryd.ntmps96
  go_wp2
  go_loopw [10] (fun i wr => ∃ p : Nat, p ≤ m ∧ i = .int .i64 p ∧ GridAt wr g (setG U a b p n v) ∧ Chg (fun i => i = g) w wr) (fun i _ => m - (intOf i).toNat)
  case atStart => exact ⟨0, Nat.zero_le _, rfl, by rw [setG_zero]; exact hG, Chg.refl _ _⟩
  case round =>
    obtain ⟨p, hp, rfl, hGp, hcp⟩ := hrel
    have k1 := (hcp.cell (p := ⟨g1, 0, none⟩) (lt_of_cell h1) n1).trans h1
    have k2 := (hcp.cell (p := ⟨g2, 0, none⟩) (lt_of_cell h2) n2).trans h2
    have k4 := (hcp.cell (p := ⟨g4, 0, none⟩) (lt_of_cell h4) n4).trans h4
    have k5 := (hcp.cell (p := ⟨g5, 0, none⟩) (lt_of_cell h5) n5).trans h5
    by_cases hlt : p < m
    · obtain ⟨wo, rfl⟩ : ∃ wo : World, wo = wr := ⟨_, rfl⟩
      have HG := Lib.hid hGp
      go_wp2
      go_loopw [14] (fun i wx => ∃ q : Nat, q ≤ n ∧ i = .int .i64 q ∧ GridAt wx g (rowG (setG U a b p n v) (a + p) b q v) ∧ Chg (fun i => i = g) w wx) (fun i _ => n - (intOf i).toNat)
      case atStart => exact ⟨0, Nat.zero_le _, rfl, by rw [rowG_zero]; exact HG.out, hcp⟩
      case round =>
        obtain ⟨q, hq, rfl, hGq, hcq⟩ := hrel
        have l1 := (hcq.cell (p := ⟨g1, 0, none⟩) (lt_of_cell h1) n1).trans h1
        have l2 := (hcq.cell (p := ⟨g2, 0, none⟩) (lt_of_cell h2) n2).trans h2
        have l4 := (hcq.cell (p := ⟨g4, 0, none⟩) (lt_of_cell h4) n4).trans h4
        have l5 := (hcq.cell (p := ⟨g5, 0, none⟩) (lt_of_cell h5) n5).trans h5
        by_cases hlt2 : q < n
        · have hw1 : IntKind.i64.wrap ((a : Int) + (p : Int)) = (a : Int) + (p : Int) := IntWalk.i64_in _ (by omega)
          have hw2 : IntKind.i64.wrap ((b : Int) + (q : Int)) = (b : Int) + (q : Int) := IntWalk.i64_in _ (by omega)
          have hcell := hGq.1 (a + p) (b + q) (by omega) (by omega)
          have hfz := hGq.2 ((a + p) * 6 + (b + q))
          have HN := Lib.hid (hGq.store v (a := a + p) (b := b + q) (by omega))
          have HNC := Lib.hid (hcq.trans (Chg.store wr ⟨g, (a + p) * 6 + (b + q), none⟩ (.bool v)) (fun _ _ h => h))
          generalize rowG (setG U a b p n v) (a + p) b q v (a + p) (b + q) = old at *
          have t1 : ((a : Int) + (p : Int)).toNat = a + p := by omega
          have t2 : ((b : Int) + (q : Int)).toNat = b + q := by omega
          have t3 : (a : Int) + (p : Int) < 6 := by omega
          have t4 : (b : Int) + (q : Int) < 6 := by omega
          have t5 : (0 : Int) ≤ (a : Int) + (p : Int) := by omega
          have t6 : (0 : Int) ≤ (b : Int) + (q : Int) := by omega
          clear hGq
          go_wp2
          refine wp_region_held_drew (S := fun W => W.cell? ⟨g4, 0, none⟩ = some (.int .i64 a) ∧ W.cell? ⟨g5, 0, none⟩ = some (.int .i64 b)) (by kernel_rfl) (⟨l4, l5⟩) (fun hHeld => ?_)
          refine wpAnyH_take (i := 0) (v := ?_) rfl (by kernel_rfl) (by kernel_rfl) (by kernel_rfl) (fun _ _ _ h => h) (Or.inl ⟨by rfl, ?_⟩) (by assumption) ?_
          rotate_left
          · intro w hSw; obtain ⟨y4, y5⟩ := hSw; go_simp; try with_reducible rfl
          try simp only [Act.put, List.getElem_toArray, List.getElem_cons_zero, List.setIfInBounds_toArray, List.set_cons_zero, List.set_cons_succ]
          refine wpAnyH_take (i := 1) (v := ?_) rfl (by kernel_rfl) (by kernel_rfl) (by kernel_rfl) (fun _ _ _ h => h) (Or.inl ⟨by rfl, ?_⟩) (by assumption) ?_
          rotate_left
          · intro w hSw; obtain ⟨y4, y5⟩ := hSw; go_simp; try with_reducible rfl
          try simp only [Act.put, List.getElem_toArray, List.getElem_cons_zero, List.getElem_cons_succ, List.setIfInBounds_toArray, List.set_cons_zero, List.set_cons_succ]
          refine wpAnyH_take (i := 2) (v := ?_) rfl (by kernel_rfl) (by kernel_rfl) (by kernel_rfl) (fun _ _ _ h => h) (Or.inl ⟨by rfl, ?_⟩) (by assumption) ?_
          rotate_left
          · intro w hSw; obtain ⟨y4, y5⟩ := hSw; go_simp; try with_reducible rfl
          try simp only [Act.put, List.getElem_toArray, List.getElem_cons_zero, List.getElem_cons_succ, List.setIfInBounds_toArray, List.set_cons_zero, List.set_cons_succ]
          refine wpAnyH_take (i := 3) (v := ?_) rfl (by kernel_rfl) (by kernel_rfl) (by kernel_rfl) (fun _ _ _ h => h) (Or.inl ⟨by rfl, ?_⟩) (by assumption) ?_
          rotate_left
          · intro w hSw; obtain ⟨y4, y5⟩ := hSw; go_simp; try with_reducible rfl
          try simp only [Act.put, List.getElem_toArray, List.getElem_cons_zero, List.getElem_cons_succ, List.setIfInBounds_toArray, List.set_cons_zero, List.set_cons_succ]
          refine wpAnyH_take (i := 4) (v := ?_) rfl (by kernel_rfl) (by kernel_rfl) (by kernel_rfl) (fun _ _ _ h => h) (Or.inl ⟨by rfl, ?_⟩) (by assumption) ?_
          rotate_left
          · intro w hSw; obtain ⟨y4, y5⟩ := hSw; go_simp; try with_reducible rfl
          try simp only [Act.put, List.getElem_toArray, List.getElem_cons_zero, List.getElem_cons_succ, List.setIfInBounds_toArray, List.set_cons_zero, List.set_cons_succ]
          refine wpAnyH_take (i := 5) (v := ?_) rfl (by kernel_rfl) (by kernel_rfl) (by kernel_rfl) (fun _ _ _ h => h) (Or.inl ⟨by rfl, ?_⟩) (by assumption) ?_
          rotate_left
          · intro w hSw; obtain ⟨y4, y5⟩ := hSw; go_simp; try with_reducible rfl
          try simp only [Act.put, List.getElem_toArray, List.getElem_cons_zero, List.getElem_cons_succ, List.setIfInBounds_toArray, List.set_cons_zero, List.set_cons_succ]
          refine wpAnyH_take (i := 6) (v := ?_) rfl (by kernel_rfl) (by kernel_rfl) (by kernel_rfl) (fun _ _ _ h => h) (Or.inl ⟨by rfl, ?_⟩) (by assumption) ?_
          rotate_left
          · intro w hSw; obtain ⟨y4, y5⟩ := hSw; go_simp; try with_reducible rfl
          try simp only [Act.put, List.getElem_toArray, List.getElem_cons_zero, List.getElem_cons_succ, List.setIfInBounds_toArray, List.set_cons_zero, List.set_cons_succ]
          refine wpAnyH_take (i := 7) (v := ?_) rfl (by kernel_rfl) (by kernel_rfl) (by kernel_rfl) (fun _ _ _ h => h) (Or.inl ⟨by rfl, ?_⟩) (by assumption) ?_
          rotate_left
          · intro w hSw; obtain ⟨y4, y5⟩ := hSw; go_simp; try with_reducible rfl
          try simp only [Act.put, List.getElem_toArray, List.getElem_cons_zero, List.getElem_cons_succ, List.setIfInBounds_toArray, List.set_cons_zero, List.set_cons_succ]
          refine wpAnyH_take (i := 8) (v := ?_) rfl (by kernel_rfl) (by kernel_rfl) (by kernel_rfl) (fun _ _ _ h => h) (Or.inl ⟨by rfl, ?_⟩) (by assumption) ?_
          rotate_left
          · intro w hSw; obtain ⟨y4, y5⟩ := hSw; go_simp; try with_reducible rfl
          try simp only [Act.put, List.getElem_toArray, List.getElem_cons_zero, List.getElem_cons_succ, List.setIfInBounds_toArray, List.set_cons_zero, List.set_cons_succ]
          refine wpAnyH_ready (rs := [9]) (by kernel_rfl) (by simp) ?_
          refine AllReadyH.cons rfl (fun K hK => ?_) AllReadyH.nil
          go_simp
          refine hK.out _ _ ⟨by simp [go_sem, l4], by simp [go_sem, l5]⟩ (fun _ => ?_)
          clear hK K
          refine wpAnyH_done (by kernel_rfl) ?_ _
          have HD := Lib.hid (show GridAt (wr.setCell ⟨g, (a + p) * 6 + (b + q), none⟩ (.bool v)).drew g (rowG (setG U a b p n v) (a + p) b (q + 1) v) from by
            rw [rowG_succ]; exact HN.out)
          go_wp2
          go_roundw
          case rel => exact ⟨q + 1, by omega, by go_num, HD.out, ⟨HNC.out.os, HNC.out.tape, HNC.out.output, HNC.out.size, HNC.out.block⟩⟩
          case measure => simp [intOf]; omega
        · have e : q = n := by omega
          have HF := Lib.hid (show rowG (setG U a b p n v) (a + p) b q v = setG U a b (p + 1) n v by rw [e, setG_succ])
          have HGQ := Lib.hid hGq
          clear e hGq
          go_wp2
          go_roundw
          case rel => exact ⟨p + 1, by omega, by go_num, by rw [← HF.out]; exact HGQ.out, hcq⟩
          case measure => simp [intOf]; omega
    · have e : p = m := by omega
      have HR := Lib.hid (show GridAt wr g (setG U a b m n v) from e ▸ hGp)
      clear e hGp
      go_wp2
      exact bodyPost_end (v := .tuple #[]) (by simp [results, Tryd.results96, go_sem]) rfl ⟨rfl, HR.out, hcp⟩
end Go.Proofs.YtlollcabnfncpaaDoor
