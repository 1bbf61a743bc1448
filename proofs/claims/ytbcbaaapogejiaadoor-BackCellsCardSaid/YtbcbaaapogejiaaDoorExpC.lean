/-
  How many backs stay with a turn; how many different ones there are, in all and with given amounts of colours.
-/
import Derived.Test.YtbcbaaapogejiaaDoorExpB
import Derived.Test.YtbcbaaapogejiaaDoorAvgA
namespace Go.Proofs.YtbcbaaapogejiaaDoor
open Go.RowKit

theorem loops_of_press {p : Pr} (hp : p.Ok) : ∀ s ∈ p.from, s.length < 1000 ∧ (∀ i ∈ s, 0 ≤ i ∧ i < (s.length : Nat)) ∧ (loopsN s).all ≤ 16 := by
  intro s hs
  obtain ⟨t, ht, rfl⟩ := List.mem_map.1 hs
  have h16 := hp.n16.2
  unfold Pr.n at h16
  refine ⟨by rw [srcs_len]; omega, fun i hi => by rw [srcs_len]; exact hp.cell ht hi, ?_⟩
  have h := loops_small p.R (by have := hp.r4; omega) p.C (by have := hp.c4; omega) t (hp.t8 t ht) (hp.kind t ht)
  rw [decide_eq_true_eq] at h
  have h1 := h.1
  unfold Lp.all
  omega
def Pr.count (p : Pr) : Nat := sumG (fun l => p.K ^ l.all) p.from / p.T.length
def Pr.withC (p : Pr) (xs : List Nat) : Nat := sumG (fun l => withN xs l) p.from / p.T.length

theorem gcell4 (W : World) (a b c : Int) (d e : Value) : (W.alloc (.cells #[.int .i64 a, .int .i64 b, .int .i64 c, d, e] 115)).cell? ⟨W.heap.size, 4, none⟩ = some e := by
  rw [cell_of_row _ _ _ _ _ _ (heap_new _ _)]; rfl
theorem gcell (W : World) (a b c : Int) (d e : Value) : (W.alloc (.cells #[.int .i64 a, .int .i64 b, .int .i64 c, d, e] 115)).cell? ⟨W.heap.size, 2, none⟩ = some (.int .i64 c) := by
  rw [cell_of_row _ _ _ _ _ _ (heap_new _ _)]; rfl

set_option maxRecDepth 100000 in
set_option maxHeartbeats 600000 in
theorem countF_ok (p : Pr) (hp : p.Ok) (TA : Option Addr) (tc : Nat) (w : World) (hm : MovW w) (hT : IntsAt w w.heap.size TA (intsN p.T)) :
    Calls Tryd.prog 37 #[.agg #[.int .i64 p.R, .int .i64 p.C, .int .i64 p.K, .slice TA p.T.length tc]] w fun e w' => e = .returned (.tuple #[.int .i64 (p.count : Nat), .int .i64 0]) ∧ Below w.heap.size w w' := by
  have hbx := below_new w (.cells #[.int .i64 p.R, .int .i64 p.C, .int .i64 p.K, .slice TA p.T.length tc] 24)
  have HP := Lib.hid (plate_none p hp TA tc _ (hm.below hbx) (hT.up hbx))
  have HK := Lib.hid (fun W FA fc gb (hW : Below w.heap.size w W) hF (hg : gb < W.heap.size) (h2 : W.cell? ⟨gb, 2, none⟩ = some (.int .i64 p.K)) => average87_any (fun l => p.K ^ l.all) gb p.R p.C p.K TA FA tc fc p.T p.from W hF (from_len p) hp.len hp.pos (fun s hs => by
    obtain ⟨h1, h2, h3⟩ := loops_of_press hp s hs
    exact ⟨h1, h2, h3, Nat.le_trans (pow_le hp.k4 h3) (by decide)⟩) (fun l W' hW' hl => count87_any l gb p.K W' hp.k4 hl (Nat.lt_of_lt_of_le hg hW'.size) ((hW'.cell (p := ⟨gb, 2, none⟩) hg).trans h2)))
  rw [show sumG (fun l => p.K ^ l.all) p.from / p.T.length = p.count from rfl] at HK
  generalize p.count = v at *
  clear hm hT hp
  have hmf : ∀ fn first cap w, (Instr.makeFunc fn first cap).run Tryd.prog w = .ok (.func fn first cap) w := fun _ _ _ _ => rfl
  go_enter Tryd.func37, Tryd.ntmps37
  go_wp2_with (first
    | (go_at_call 74; refine (HP.out).mono ?_; rintro e w1 ⟨FA, fc, rfl, hF, hb2⟩; have hb3 := hbx.trans (hb2.mono hbx.size); have hb4 := hb3.trans ((below_new w1 (.cells #[.int .i64 p.R, .int .i64 p.C, .int .i64 p.K, .slice TA p.T.length tc, .slice FA p.T.length fc] 115)).mono hb3.size); have hF2 := hF.up (below_new w1 (.cells #[.int .i64 p.R, .int .i64 p.C, .int .i64 p.K, .slice TA p.T.length tc, .slice FA p.T.length fc] 115)); have hgn := gcell w1 p.R p.C p.K (.slice TA p.T.length tc) (.slice FA p.T.length fc); have hgs : w1.heap.size < (w1.alloc (.cells #[.int .i64 p.R, .int .i64 p.C, .int .i64 p.K, .slice TA p.T.length tc, .slice FA p.T.length fc] 115)).heap.size := (by simp))
    | (go_at_call 86; refine (HK.out _ _ _ _ hb4 hF2 hgs hgn).mono ?_; rintro e w5 ⟨rfl, hb5⟩))
  go_ret2
  exact ⟨rfl, hb4.trans (hb5.mono hb4.size)⟩

set_option maxRecDepth 100000 in
set_option maxHeartbeats 1000000 in
theorem stayingF_ok (p : Pr) (hp : p.Ok) (TA : Option Addr) (tc : Nat) (k t : Nat) (w : World) (hm : MovW w) (hT : IntsAt w w.heap.size TA (intsN p.T)) (hk : p.T[k]? = some t) :
    Calls Tryd.prog 35 #[.agg #[.int .i64 p.R, .int .i64 p.C, .int .i64 p.K, .slice TA p.T.length tc], .int .i64 t] w fun e w' => e = .returned (.tuple #[.int .i64 (p.K ^ (loopsN (srcs p.R p.C (mv t))).all : Nat), .int .i64 0]) ∧ Below w.heap.size w w' := by
  have hbx := below_new w (.cells #[.int .i64 p.R, .int .i64 p.C, .int .i64 p.K, .slice TA p.T.length tc] 24)
  have HP := Lib.hid (plate_none p hp TA tc _ (hm.below hbx) (hT.up hbx))
  have hasc := hp.asc
  have hl8 := hp.len
  have HX := Lib.hid (fun W (hW : Below w.heap.size w W) => index_in TA tc (intsN p.T) (t : Int) k W W.heap.size (hT.up hW) (by rw [intsN_len]; omega) (intsN_get hk) (idx_first hasc hk))
  rw [intsN_len] at HX
  have hfm := from_get hk
  have HFm := Lib.hid hfm
  obtain ⟨i1, i2, i3⟩ := loops_of_press hp _ (mem_of_get hfm)
  have HLo := Lib.hid (fun D d W f2 => loops_any D d (srcs p.R p.C (mv t)) W f2 i2 i1)
  have HSt := Lib.hid (fun W => staying_any (loopsN (srcs p.R p.C (mv t))) p.K W hp.k4 i3)
  have hkl := lt_of_get hk
  have hk0 : ¬ (k : Int) < 0 := by omega
  have hk1 : (0 : Int) ≤ (k : Int) := by omega
  have hki : (k : Int) < (p.T.length : Int) := by omega
  obtain ⟨V, hV⟩ : ∃ V, V = p.K ^ (loopsN (srcs p.R p.C (mv t))).all := ⟨_, rfl⟩
  rw [← hV]
  rw [← hV] at HSt
  generalize loopsN (srcs p.R p.C (mv t)) = L at *
  obtain ⟨o, t', f⟩ := L
  clear hm hT hp hasc hk hfm i2 hV
  go_enter Tryd.func35, Tryd.ntmps35
  go_wp2_with (first
    | (go_at_call 74; refine (HP.out).mono ?_; rintro e w1 ⟨FA, fc, rfl, hF, hb2⟩; have hb3 := hbx.trans (hb2.mono hbx.size); have hb4 := hb3.trans ((below_new w1 (.cells #[.int .i64 p.R, .int .i64 p.C, .int .i64 p.K, .slice TA p.T.length tc, .slice FA p.T.length fc] 115)).mono hb3.size); have hF2 := hF.up (below_new w1 (.cells #[.int .i64 p.R, .int .i64 p.C, .int .i64 p.K, .slice TA p.T.length tc, .slice FA p.T.length fc] 115)); have hgn := gcell w1 p.R p.C p.K (.slice TA p.T.length tc) (.slice FA p.T.length fc); have hgs : w1.heap.size < (w1.alloc (.cells #[.int .i64 p.R, .int .i64 p.C, .int .i64 p.K, .slice TA p.T.length tc, .slice FA p.T.length fc] 115)).heap.size := (by simp))
    | (go_at_call 75; refine (HX.out _ hb4).mono ?_; rintro e w5 ⟨rfl, rfl⟩))
  obtain ⟨fb, fo, D, d, rfl, hfb, hfc, hDs⟩ := hF2 k _ HFm.out
  have hg4 := gcell4 w1 p.R p.C p.K (.slice TA p.T.length tc) (.slice (some ⟨fb, fo, none⟩) p.T.length fc)
  generalize w1.alloc (.cells #[.int .i64 p.R, .int .i64 p.C, .int .i64 p.K, .slice TA p.T.length tc, .slice (some ⟨fb, fo, none⟩) p.T.length fc] 115) = w3 at *
  have HS0 := Lib.hid (fun (W : World) (hW : Below w3.heap.size w3 W) => show W.cell? ⟨w1.heap.size, 2, none⟩ = some (.int .i64 p.K) ∧ W.cell? ⟨w1.heap.size, 4, none⟩ = some (.slice (some ⟨fb, fo, none⟩) p.T.length fc) ∧ W.cell? ⟨fb, fo + k, none⟩ = some (.slice D (srcs p.R p.C (mv t)).length d) from
    ⟨(hW.cell (p := ⟨w1.heap.size, 2, none⟩) hgs).trans hgn, (hW.cell (p := ⟨w1.heap.size, 4, none⟩) hgs).trans hg4, (hW.cell (p := ⟨fb, _, none⟩) hfb).trans hfc⟩)
  have hbd : Below w3.heap.size w3 w3.drew := (Below.refl _ _).drew
  have hbd0 : Below w3.heap.size w3 w3.drew := hbd
  refine wp_region_held_drew (S := fun W => Below w3.heap.size w3 W) (by kernel_rfl) (hbd) (fun hHeld => ?_)
  refine wpAnyH_take (i := 0) (v := ?_) rfl (by kernel_rfl) (by kernel_rfl) (by kernel_rfl) (fun _ _ _ h => h) (Or.inl ⟨by rfl, ?_⟩) (by assumption) ?_
  rotate_left
  · intro w hSw; obtain ⟨q0, q1, q2⟩ := HS0.out _ hSw; go_simp; try with_reducible rfl
  try simp only [Act.put, List.getElem_toArray, List.getElem_cons_zero, List.setIfInBounds_toArray, List.set_cons_zero, List.set_cons_succ]
  refine wpAnyH_take (i := 1) (v := ?_) rfl (by kernel_rfl) (by kernel_rfl) (by kernel_rfl) (fun _ _ _ h => h) (Or.inl ⟨by rfl, ?_⟩) (by assumption) ?_
  rotate_left
  · intro w hSw; obtain ⟨q0, q1, q2⟩ := HS0.out _ hSw; go_simp; try with_reducible rfl
  try simp only [Act.put, List.getElem_toArray, List.getElem_cons_zero, List.getElem_cons_succ, List.setIfInBounds_toArray, List.set_cons_zero, List.set_cons_succ]
  refine wpAnyH_take (i := 2) (v := ?_) rfl (by kernel_rfl) (by kernel_rfl) (by kernel_rfl) (fun _ _ _ h => h) (Or.inl ⟨by rfl, ?_⟩) (by assumption) ?_
  rotate_left
  · intro w hSw; obtain ⟨q0, q1, q2⟩ := HS0.out _ hSw; go_simp; try with_reducible rfl
  try simp only [Act.put, List.getElem_toArray, List.getElem_cons_zero, List.getElem_cons_succ, List.setIfInBounds_toArray, List.set_cons_zero, List.set_cons_succ]
  refine wpAnyH_take (i := 3) (v := ?_) rfl (by kernel_rfl) (by kernel_rfl) (by kernel_rfl) (fun _ _ _ h => h) (Or.inl ⟨by rfl, ?_⟩) (by assumption) ?_
  rotate_left
  · intro w hSw; obtain ⟨q0, q1, q2⟩ := HS0.out _ hSw; go_simp; try with_reducible rfl
  try simp only [Act.put, List.getElem_toArray, List.getElem_cons_zero, List.getElem_cons_succ, List.setIfInBounds_toArray, List.set_cons_zero, List.set_cons_succ]
  refine wpAnyH_take (i := 4) (v := ?_) rfl (by kernel_rfl) (by kernel_rfl) (by kernel_rfl) (fun _ _ _ h => h) (Or.inl ⟨by rfl, ?_⟩) (by assumption) ?_
  rotate_left
  · intro w hSw; obtain ⟨q0, q1, q2⟩ := HS0.out _ hSw; go_simp; try with_reducible rfl
  try simp only [Act.put, List.getElem_toArray, List.getElem_cons_zero, List.getElem_cons_succ, List.setIfInBounds_toArray, List.set_cons_zero, List.set_cons_succ]
  refine wpAnyH_take (i := 6) (v := ?_) rfl (by kernel_rfl) (by kernel_rfl) (by kernel_rfl) (fun _ _ _ h => h) (Or.inl ⟨by rfl, ?_⟩) (by assumption) ?_
  rotate_left
  · intro w hSw; obtain ⟨q0, q1, q2⟩ := HS0.out _ hSw; go_simp; try with_reducible rfl
  try simp only [Act.put, List.getElem_toArray, List.getElem_cons_zero, List.getElem_cons_succ, List.setIfInBounds_toArray, List.set_cons_zero, List.set_cons_succ]
  refine wpAnyH_take (i := 7) (v := ?_) rfl (by kernel_rfl) (by kernel_rfl) (by kernel_rfl) (fun _ _ _ h => h) (Or.inl ⟨by rfl, ?_⟩) (by assumption) ?_
  rotate_left
  · intro w hSw; obtain ⟨q0, q1, q2⟩ := HS0.out _ hSw; go_simp; try with_reducible rfl
  try simp only [Act.put, List.getElem_toArray, List.getElem_cons_zero, List.getElem_cons_succ, List.setIfInBounds_toArray, List.set_cons_zero, List.set_cons_succ]
  refine wpAnyH_take (i := 8) (v := ?_) rfl (by kernel_rfl) (by kernel_rfl) (by kernel_rfl) (fun _ _ _ h => h) (Or.inl ⟨by rfl, ?_⟩) (by assumption) ?_
  rotate_left
  · intro w hSw; obtain ⟨q0, q1, q2⟩ := HS0.out _ hSw; go_simp; try with_reducible rfl
  try simp only [Act.put, List.getElem_toArray, List.getElem_cons_zero, List.getElem_cons_succ, List.setIfInBounds_toArray, List.set_cons_zero, List.set_cons_succ]
  refine wpAnyH_ready (rs := [5]) (by kernel_rfl) (by simp) ?_
  refine AllReadyH.cons rfl (fun K hK => ?_) AllReadyH.nil
  go_simp
  refine (HLo.out D d _ (hDs.up hbd0)).mono ?_
  rintro e w5 ⟨rfl, hb5⟩
  have hb6 := hbd.trans (hb5.mono hbd.size)
  refine hK.out _ _ (hb6) (fun _ => ?_)
  clear hK K
  try simp only [Act.put, List.getElem_toArray, List.getElem_cons_zero, List.getElem_cons_succ, List.setIfInBounds_toArray, List.set_cons_zero, List.set_cons_succ]
  refine wpAnyH_ready (rs := [9]) (by kernel_rfl) (by simp) ?_
  refine AllReadyH.cons rfl (fun K hK => ?_) AllReadyH.nil
  go_simp
  refine (HSt.out _).mono ?_
  rintro e w6 ⟨rfl, hb7⟩
  have hb8 := hb6.trans (hb7.mono hb6.size)
  refine hK.out _ _ (hb8) (fun _ => ?_)
  clear hK K
  try simp only [Act.put, List.getElem_toArray, List.getElem_cons_zero, List.getElem_cons_succ, List.setIfInBounds_toArray, List.set_cons_zero, List.set_cons_succ]
  refine wpAnyH_take (i := 10) (v := ?_) rfl (by kernel_rfl) (by kernel_rfl) (by kernel_rfl) (fun _ _ _ h => h) (Or.inl ⟨by rfl, ?_⟩) (by assumption) ?_
  rotate_left
  · intro w hSw; obtain ⟨q0, q1, q2⟩ := HS0.out _ hSw; go_simp; try with_reducible rfl
  try simp only [Act.put, List.getElem_toArray, List.getElem_cons_zero, List.getElem_cons_succ, List.setIfInBounds_toArray, List.set_cons_zero, List.set_cons_succ]
  refine wpAnyH_take (i := 11) (v := ?_) rfl (by kernel_rfl) (by kernel_rfl) (by kernel_rfl) (fun _ _ _ h => h) (Or.inl ⟨by rfl, ?_⟩) (by assumption) ?_
  rotate_left
  · intro w hSw; obtain ⟨q0, q1, q2⟩ := HS0.out _ hSw; go_simp; try with_reducible rfl
  try simp only [Act.put, List.getElem_toArray, List.getElem_cons_zero, List.getElem_cons_succ, List.setIfInBounds_toArray, List.set_cons_zero, List.set_cons_succ]
  refine wpAnyH_done (by kernel_rfl) ?_ _
  go_wp2
  go_ret2
  exact ⟨rfl, hb4.trans (hb8.mono hb4.size)⟩
end Go.Proofs.YtbcbaaapogejiaaDoor
