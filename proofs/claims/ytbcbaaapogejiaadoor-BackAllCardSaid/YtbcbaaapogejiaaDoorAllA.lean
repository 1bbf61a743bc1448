/-
  Too many backs to list them.
-/
import Derived.Test.YtbcbaaapogejiaaDoorExpD
namespace Go.Proofs.YtbcbaaapogejiaaDoor
open Go.RowKit

set_option maxRecDepth 100000 in
set_option maxHeartbeats 2000000 in
theorem all_full (p : Pr) (hp : p.Ok) (TA : Option Addr) (tc : Nat) (w : World) (hm : MovW w) (hT : IntsAt w w.heap.size TA (intsN p.T)) (hfull : 4096 < p.K ^ p.n) :
    Calls Tryd.prog 41 #[.agg #[.int .i64 p.R, .int .i64 p.C, .int .i64 p.K, .slice TA p.T.length tc]] w fun e w' => e = .returned (.tuple #[.slice none 0 0, .int .i64 16]) ∧ Below w.heap.size w w' := by
  have hbx := below_new w (.cells #[.int .i64 p.R, .int .i64 p.C, .int .i64 p.K, .slice TA p.T.length tc] 24)
  have HP := Lib.hid (plate_none p hp TA tc _ (hm.below hbx) (hT.up hbx))
  have HCe := Lib.hid (fun FA fc W => cells_any p.R p.C p.K (.slice TA p.T.length tc) (.slice FA p.T.length fc) W (by have := hp.r4; omega) (by have := hp.c4; omega))
  rw [show p.R * p.C = p.n from rfl] at HCe
  have HPo := Lib.hid (fun W => power_any p.K p.n W hp.k4 hp.n16.2)
  obtain ⟨V, hV⟩ : ∃ V, V = p.K ^ p.n := ⟨_, rfl⟩
  rw [← hV] at HPo hfull
  have hVi : (V : Int) > 4096 := by omega
  generalize p.n = n at *
  clear hm hT hp hV hfull
  go_enter Tryd.func41, Tryd.ntmps41
  go_upto_region 4 with (first
    | (go_at_call 74; refine (HP.out).mono ?_; rintro e w1 ⟨FA, fc, rfl, hF, hb2⟩; have hb3 := hbx.trans (hb2.mono hbx.size); have hb4 := hb3.trans ((below_new w1 (.cells #[.int .i64 p.R, .int .i64 p.C, .int .i64 p.K, .slice TA p.T.length tc, .slice FA p.T.length fc] 115)).mono hb3.size); have hg3 := gcells6 w1 (.int .i64 p.R) (.int .i64 p.C) (.int .i64 p.K) (.slice TA p.T.length tc) (.slice FA p.T.length fc); have hgs : w1.heap.size < (w1.alloc (.cells #[.int .i64 p.R, .int .i64 p.C, .int .i64 p.K, .slice TA p.T.length tc, .slice FA p.T.length fc] 115)).heap.size := (by simp))
    | fail)
  generalize w1.alloc (.cells #[.int .i64 p.R, .int .i64 p.C, .int .i64 p.K, .slice TA p.T.length tc, .slice FA p.T.length fc] 115) = w3 at *
  have HG := Lib.hid (fun (W : World) (hW : Below w3.heap.size w3 W) => show (W.cell? ⟨w1.heap.size, 0, none⟩ = some (.int .i64 p.R) ∧ W.cell? ⟨w1.heap.size, 1, none⟩ = some (.int .i64 p.C) ∧ W.cell? ⟨w1.heap.size, 2, none⟩ = some (.int .i64 p.K) ∧ W.cell? ⟨w1.heap.size, 3, none⟩ = some (.slice TA p.T.length tc) ∧ W.cell? ⟨w1.heap.size, 4, none⟩ = some (.slice FA p.T.length fc)) from
    ⟨(hW.cell (p := ⟨w1.heap.size, 0, none⟩) hgs).trans hg3.1, (hW.cell (p := ⟨w1.heap.size, 1, none⟩) hgs).trans hg3.2.1, (hW.cell (p := ⟨w1.heap.size, 2, none⟩) hgs).trans hg3.2.2.1, (hW.cell (p := ⟨w1.heap.size, 3, none⟩) hgs).trans hg3.2.2.2.1, (hW.cell (p := ⟨w1.heap.size, 4, none⟩) hgs).trans hg3.2.2.2.2⟩)
  have hbd : Below w3.heap.size w3 w3.drew := (Below.refl _ _).drew
  refine wp_region_held_drew (S := fun W => Below w3.heap.size w3 W) (by kernel_rfl) (hbd) (fun hHeld => ?_)
  refine wpAnyH_take (i := 0) (v := ?_) rfl (by kernel_rfl) (by kernel_rfl) (by kernel_rfl) (fun _ _ _ h => h) (Or.inl ⟨by rfl, ?_⟩) (by assumption) ?_
  rotate_left
  · intro w hSw; obtain ⟨q0, q1, q2, q3, q4⟩ := HG.out _ hSw; go_simp; try with_reducible rfl
  try simp only [Act.put, List.getElem_toArray, List.getElem_cons_zero, List.setIfInBounds_toArray, List.set_cons_zero, List.set_cons_succ]
  refine wpAnyH_take (i := 1) (v := ?_) rfl (by kernel_rfl) (by kernel_rfl) (by kernel_rfl) (fun _ _ _ h => h) (Or.inl ⟨by rfl, ?_⟩) (by assumption) ?_
  rotate_left
  · intro w hSw; obtain ⟨q0, q1, q2, q3, q4⟩ := HG.out _ hSw; go_simp; try with_reducible rfl
  try simp only [Act.put, List.getElem_toArray, List.getElem_cons_zero, List.getElem_cons_succ, List.setIfInBounds_toArray, List.set_cons_zero, List.set_cons_succ]
  refine wpAnyH_take (i := 2) (v := ?_) rfl (by kernel_rfl) (by kernel_rfl) (by kernel_rfl) (fun _ _ _ h => h) (Or.inl ⟨by rfl, ?_⟩) (by assumption) ?_
  rotate_left
  · intro w hSw; obtain ⟨q0, q1, q2, q3, q4⟩ := HG.out _ hSw; go_simp; try with_reducible rfl
  try simp only [Act.put, List.getElem_toArray, List.getElem_cons_zero, List.getElem_cons_succ, List.setIfInBounds_toArray, List.set_cons_zero, List.set_cons_succ]
  refine wpAnyH_take (i := 3) (v := ?_) rfl (by kernel_rfl) (by kernel_rfl) (by kernel_rfl) (fun _ _ _ h => h) (Or.inl ⟨by rfl, ?_⟩) (by assumption) ?_
  rotate_left
  · intro w hSw; obtain ⟨q0, q1, q2, q3, q4⟩ := HG.out _ hSw; go_simp; try with_reducible rfl
  try simp only [Act.put, List.getElem_toArray, List.getElem_cons_zero, List.getElem_cons_succ, List.setIfInBounds_toArray, List.set_cons_zero, List.set_cons_succ]
  refine wpAnyH_ready (rs := [4]) (by kernel_rfl) (by simp) ?_
  refine AllReadyH.cons rfl (fun K hK => ?_) AllReadyH.nil
  go_simp
  refine (HCe.out _ _ _).mono ?_
  rintro e w5 ⟨rfl, hb5⟩
  have hb6 := hbd.trans (hb5.mono hbd.size)
  refine hK.out _ _ (hb6) (fun _ => ?_)
  clear hK K
  try simp only [Act.put, List.getElem_toArray, List.getElem_cons_zero, List.getElem_cons_succ, List.setIfInBounds_toArray, List.set_cons_zero, List.set_cons_succ]
  refine wpAnyH_ready (rs := [5]) (by kernel_rfl) (by simp) ?_
  refine AllReadyH.cons rfl (fun K hK => ?_) AllReadyH.nil
  go_simp
  refine (HPo.out _).mono ?_
  rintro e w6 ⟨rfl, hw6⟩
  subst w6
  refine hK.out _ _ (hb6) (fun _ => ?_)
  clear hK K
  try simp only [Act.put, List.getElem_toArray, List.getElem_cons_zero, List.getElem_cons_succ, List.setIfInBounds_toArray, List.set_cons_zero, List.set_cons_succ]
  refine wpAnyH_take (i := 6) (v := ?_) rfl (by kernel_rfl) (by kernel_rfl) (by kernel_rfl) (fun _ _ _ h => h) (Or.inl ⟨by rfl, ?_⟩) (by assumption) ?_
  rotate_left
  · intro w hSw; obtain ⟨q0, q1, q2, q3, q4⟩ := HG.out _ hSw; go_simp; try with_reducible rfl
  try simp only [Act.put, List.getElem_toArray, List.getElem_cons_zero, List.getElem_cons_succ, List.setIfInBounds_toArray, List.set_cons_zero, List.set_cons_succ]
  refine wpAnyH_done (by kernel_rfl) ?_ _
  go_wp2
  go_ret2
  exact ⟨rfl, hb4.trans (hb6.mono hb4.size)⟩
end Go.Proofs.YtbcbaaapogejiaaDoor
