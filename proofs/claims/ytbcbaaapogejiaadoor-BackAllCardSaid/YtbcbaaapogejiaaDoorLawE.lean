/-
  All different backs, walked. The walk of the statement on all different backs: it answers true.
-/
import Derived.Test.YtbcbaaapogejiaaDoorAllA
import Derived.Test.YtbcbaaapogejiaaDoorRefS
import Derived.Test.YtbcbaaapogejiaaDoorGErr
import Derived.Test.YtbcbaaapogejiaaDoorLawA
namespace Go.Proofs.YtbcbaaapogejiaaDoor
open Go.RowKit

set_option maxRecDepth 100000 in
set_option maxHeartbeats 2000000 in
theorem all_ok (p : Pr) (hp : p.Ok) (TA : Option Addr) (tc : Nat) (w : World) (hm : MovW w) (hT : IntsAt w w.heap.size TA (intsN p.T)) (hfull : p.K ^ p.n ≤ 4096) :
    Calls Tryd.prog 41 #[.agg #[.int .i64 p.R, .int .i64 p.C, .int .i64 p.K, .slice TA p.T.length tc]] w (RetLE w (allK p (p.K ^ p.n)) 0) := by
  have hbx := below_new w (.cells #[.int .i64 p.R, .int .i64 p.C, .int .i64 p.K, .slice TA p.T.length tc] 24)
  have HP := Lib.hid (plate_none p hp TA tc _ (hm.below hbx) (hT.up hbx))
  have HCe := Lib.hid (fun FA fc W => cells_any p.R p.C p.K (.slice TA p.T.length tc) (.slice FA p.T.length fc) W (by have := hp.r4; omega) (by have := hp.c4; omega))
  rw [show p.R * p.C = p.n from rfl] at HCe
  have HPo := Lib.hid (fun W => power_any p.K p.n W hp.k4 hp.n16.2)
  obtain ⟨V, hV⟩ : ∃ V, V = p.K ^ p.n := ⟨_, rfl⟩
  rw [← hV] at HPo hfull
  have hVi : ¬ (V : Int) > 4096 := by omega
  have HNb := Lib.hid (fun FA fc m W hm => numbered_any p hp TA FA tc fc m W hm)
  have HKi := Lib.hid (fun FA fc b (hb : BackOk p b) W (hW : Below w.heap.size w W) hF A c hA => kin_any p.R p.C p.K TA FA tc fc p.T p.from A c b W (hT.up hW) hF hA (from_len p) (from_in hp hb.1) (by have := hb.len hp; omega) hp.len hp.pos)
  have HBo := Lib.hid (fun m => back_dig hp m)
  have HKf := Lib.hid (fun b (hb : BackOk p b) => kin_first hp hb.1)
  have hn16 := hp.n16
  generalize hnn : p.n = n at *
  have HNn := Lib.hid hnn
  rw [← hV]
  clear hm hT hp hV hnn
  go_enter Tryd.func41, Tryd.ntmps41
  go_upto_region 4 with (first
    | (go_at_call 74; refine (HP.out).mono ?_; rintro e w1 ⟨FA, fc, rfl, hF, hb2⟩; have hb3 := hbx.trans (hb2.mono hbx.size); have hb4 := hb3.trans ((below_new w1 (.cells #[.int .i64 p.R, .int .i64 p.C, .int .i64 p.K, .slice TA p.T.length tc, .slice FA p.T.length fc] 115)).mono hb3.size); have hg3 := gcells6 w1 (.int .i64 p.R) (.int .i64 p.C) (.int .i64 p.K) (.slice TA p.T.length tc) (.slice FA p.T.length fc); have hgs : w1.heap.size < (w1.alloc (.cells #[.int .i64 p.R, .int .i64 p.C, .int .i64 p.K, .slice TA p.T.length tc, .slice FA p.T.length fc] 115)).heap.size := (by simp))
    | fail)
  have hF3 := hF.up (below_new w1 (.cells #[.int .i64 p.R, .int .i64 p.C, .int .i64 p.K, .slice TA p.T.length tc, .slice FA p.T.length fc] 115))
  generalize w1.alloc (.cells #[.int .i64 p.R, .int .i64 p.C, .int .i64 p.K, .slice TA p.T.length tc, .slice FA p.T.length fc] 115) = w3 at *
  have HG := Lib.hid (fun (W : World) (hW : Below w3.heap.size w3 W) => show (W.cell? ⟨w1.heap.size, 0, none⟩ = some (.int .i64 p.R) ∧ W.cell? ⟨w1.heap.size, 1, none⟩ = some (.int .i64 p.C) ∧ W.cell? ⟨w1.heap.size, 2, none⟩ = some (.int .i64 p.K) ∧ W.cell? ⟨w1.heap.size, 3, none⟩ = some (.slice TA p.T.length tc) ∧ W.cell? ⟨w1.heap.size, 4, none⟩ = some (.slice FA p.T.length fc)) from
    ⟨(hW.cell (p := ⟨w1.heap.size, 0, none⟩) hgs).trans hg3.1, (hW.cell (p := ⟨w1.heap.size, 1, none⟩) hgs).trans hg3.2.1, (hW.cell (p := ⟨w1.heap.size, 2, none⟩) hgs).trans hg3.2.2.1, (hW.cell (p := ⟨w1.heap.size, 3, none⟩) hgs).trans hg3.2.2.2.1, (hW.cell (p := ⟨w1.heap.size, 4, none⟩) hgs).trans hg3.2.2.2.2⟩)
  have hbd : Below w3.heap.size w3 w3.drew := (Below.refl _ _).drew
  refine wp_region_held_drew (S := fun W => Below w3.heap.size w3 W) (by kernel_rfl) (hbd) (fun hHeld => ?_)
  refine wpAnyH_take (i := 0) (v := ?_) rfl (by kernel_rfl) (by kernel_rfl) (by kernel_rfl) (fun _ _ _ h => h) (Or.inl ⟨by rfl, ?_⟩) (by assumption) ?_
  rotate_left
  · intro w hSw; obtain ⟨q0, q1, q2, q3, q4⟩ := HG.out _ hSw; go_simp; try with_reducible rfl
  try simp only [Act.put, List.getElem_toArray, List.getElem_cons_zero, List.setIfInBounds_toArray, List.set_cons_zero, List.set_cons_succ]
  refine wpAnyH_take (i := 1) (v := ?_) rfl (by kernel_rfl) (by kernel_rfl) (by kernel_rfl) (fun _ _ _ h => h) (Or.inl ⟨by rfl, ?_⟩) (by assumption) ?_
  rotate_left
  · intro w hSw; obtain ⟨q0, q1, q2, q3, q4⟩ := HG.out _ hSw; go_simp; try with_reducible rfl
  try simp only [Act.put, List.getElem_toArray, List.getElem_cons_zero, List.getElem_cons_succ, List.setIfInBounds_toArray, List.set_cons_zero, List.set_cons_succ]
  refine wpAnyH_take (i := 2) (v := ?_) rfl (by kernel_rfl) (by kernel_rfl) (by kernel_rfl) (fun _ _ _ h => h) (Or.inl ⟨by rfl, ?_⟩) (by assumption) ?_
  rotate_left
  · intro w hSw; obtain ⟨q0, q1, q2, q3, q4⟩ := HG.out _ hSw; go_simp; try with_reducible rfl
  try simp only [Act.put, List.getElem_toArray, List.getElem_cons_zero, List.getElem_cons_succ, List.setIfInBounds_toArray, List.set_cons_zero, List.set_cons_succ]
  refine wpAnyH_take (i := 3) (v := ?_) rfl (by kernel_rfl) (by kernel_rfl) (by kernel_rfl) (fun _ _ _ h => h) (Or.inl ⟨by rfl, ?_⟩) (by assumption) ?_
  rotate_left
  · intro w hSw; obtain ⟨q0, q1, q2, q3, q4⟩ := HG.out _ hSw; go_simp; try with_reducible rfl
  try simp only [Act.put, List.getElem_toArray, List.getElem_cons_zero, List.getElem_cons_succ, List.setIfInBounds_toArray, List.set_cons_zero, List.set_cons_succ]
  refine wpAnyH_ready (rs := [4]) (by kernel_rfl) (by simp) ?_
  refine AllReadyH.cons rfl (fun K hK => ?_) AllReadyH.nil
  go_simp
  refine (HCe.out _ _ _).mono ?_
  rintro e w5 ⟨rfl, hb5⟩
  have hb6 := hbd.trans (hb5.mono hbd.size)
  refine hK.out _ _ (hb6) (fun _ => ?_)
  clear hK K
  try simp only [Act.put, List.getElem_toArray, List.getElem_cons_zero, List.getElem_cons_succ, List.setIfInBounds_toArray, List.set_cons_zero, List.set_cons_succ]
  refine wpAnyH_ready (rs := [5]) (by kernel_rfl) (by simp) ?_
  refine AllReadyH.cons rfl (fun K hK => ?_) AllReadyH.nil
  go_simp
  refine (HPo.out _).mono ?_
  rintro e w6 ⟨rfl, hw6⟩
  subst w6
  refine hK.out _ _ (hb6) (fun _ => ?_)
  clear hK K
  try simp only [Act.put, List.getElem_toArray, List.getElem_cons_zero, List.getElem_cons_succ, List.setIfInBounds_toArray, List.set_cons_zero, List.set_cons_succ]
  refine wpAnyH_take (i := 6) (v := ?_) rfl (by kernel_rfl) (by kernel_rfl) (by kernel_rfl) (fun _ _ _ h => h) (Or.inl ⟨by rfl, ?_⟩) (by assumption) ?_
  rotate_left
  · intro w hSw; obtain ⟨q0, q1, q2, q3, q4⟩ := HG.out _ hSw; go_simp; try with_reducible rfl
  try simp only [Act.put, List.getElem_toArray, List.getElem_cons_zero, List.getElem_cons_succ, List.setIfInBounds_toArray, List.set_cons_zero, List.set_cons_succ]
  refine wpAnyH_done (by kernel_rfl) ?_ _
  have HF0 := Lib.hid (hb4.trans (hb6.mono hb4.size))
  have hs36 := hb6.size
  have HF2 := Lib.hid (hF3.up hb6)
  clear hgs hg3 hb2 hb3 hb4 hbd hb5 HCe HPo HP hbx hF hF3
  go_wp2
  go_loopw [7, 27] (fun v i wr => ∃ k : Nat, k ≤ V ∧ i = .int .i64 k ∧ Out w5.heap.size wr v (allK p k) ∧ Below w5.heap.size w5 wr) (fun _ i _ => V - (intOf i).toNat)
  case atStart => exact ⟨0, Nat.zero_le _, rfl, Out.nil _ _, Below.refl _ _⟩
  case round =>
    obtain ⟨k, hk, rfl, hO, hbr⟩ := hrel
    have hbwr := HF0.out.trans (hbr.mono HF0.out.size)
    have hb3r : Below w3.heap.size w3 wr := hb6.trans (hbr.mono hs36)
    obtain ⟨q0, q1, q2, q3, q4⟩ := HG.out _ hb3r
    have HF := Lib.hid hbwr
    by_cases hlt : k < V
    · have hki : (k : Int) < (V : Int) := by omega
      have hbk := HBo.out k
      have hst := allK_step p k
      rw [HNn.out] at hst
      have HSt := Lib.hid hst
      clear hst
      have HNk := Lib.hid (HNb.out FA fc k wr (by omega))
      have HKk := Lib.hid (fun W (hW : Below w.heap.size w W) hF A c hA => HKi.out FA fc _ hbk W hW hF A c hA)
      have hkf := HKf.out _ hbk
      have hbl := hbk.1
      have HL := Lib.hid (allK_len p k)
      rw [HNn.out] at hbl
      generalize intsN (digN p.K n k) = b at *
      have HBl := Lib.hid hbl
      generalize allK p k = L at *
      have HKi2 := Lib.hid hkf
      have hF9 := HF2.out.up hbr
      have hn16b : b.length ≤ 16 := by omega
      have HMl := Lib.hid (show (minF b (p.imgs b)).length ≤ 16 by have h1 := minF_len (p := p) hbk.1 p.T.length; rw [List.take_of_length_le (by rw [imgs_size]; omega)] at h1; omega)
      generalize minF b (p.imgs b) = mb at *
      obtain ⟨vA, vc, rfl⟩ := hO.slice
      have hOH := Lib.hid hO
      have hLk := HL.out
      rw [show kinU (List.map (fun s => tdL s b) p.from) = p.kin b from rfl] at HKk
      have hkpos : 0 < (p.kin b).length := lt_of_get hkf
      generalize p.kin b = KL at *
      have hkpi : (0 : Int) < (KL.length : Int) := by omega
      clear hkf hbl hO
      by_cases hm : mb = b
      · have HE := Lib.hid (HSt.out.trans (by rw [if_pos hm]))
        have X95 := Lib.hid (fun D9 D6 d9 d6 W (h1 : IntsAt W W.heap.size D9 mb) (h2 : IntsAt W W.heap.size D6 b) => show Calls Tryd.prog 95 #[.slice D9 mb.length d9, .slice D6 b.length d6] W fun e w' => e = .returned (.bool true) ∧ ∃ q, w' = W.drewN q from by
          have h := equal_any D9 D6 d9 d6 mb b W (by rw [hm]; omega) W.heap.size h1 h2
          rw [decide_eq_true hm] at h
          exact h)
        clear hm
        go_upto_region 13 with (first
          | (go_at_call 94; refine (HNk.out).mono ?_; rintro e w6 ⟨D6, d6, rfl, hI6, hb7, hN6⟩; have hr6 := hbr.trans (hb7.mono hbr.size); have hbw6 := HF.out.trans (hb7.mono HF.out.size); obtain ⟨r0, r1, r2, r3, r4⟩ := HG.out _ (hb3r.trans (hb7.mono hb3r.size)))
          | (go_at_call 79; refine (HKk.out w6 hbw6 (hF9.up hb7) D6 d6 hI6).mono ?_; rintro e w8 ⟨E8, c8, rfl, hL8, hb8⟩; obtain ⟨eb, eo, D9, d9, rfl, heb, g1, g2⟩ := hL8 0 _ HKi2.out; rw [Nat.add_zero] at g1)
          | (go_at_call 95; ((with_reducible refine (X95.out D9 D6 d9 d6 w8 g2 (hI6.up hb8)).mono ?_); rintro e w10 ⟨rfl, q, rfl⟩)))
        have hb9 : Below wr.heap.size wr (w8.drewN q) := below_drewN (hb7.trans (hb8.mono hb7.size)) q
        have hO9 := hOH.out.below hb9
        have hI9 := (hI6.up hb8).up (below_drewN (Below.refl w8.heap.size w8) q)
        have hs9 : w5.heap.size ≤ (w8.drewN q).heap.size := Nat.le_trans hbr.size hb9.size
        have hs68 := hb8.size
        have hwr6 := hb7.size
        have HOz := Lib.hid hOH.out
        generalize hw9 : w8.drewN q = w9 at *
        have hw89 : w8.heap.size = w9.heap.size := by rw [← hw9]; rfl
        clear q0 q1 q2 q3 q4 r0 r1 r2 r3 r4 g1 g2 hL8 X95
        go_wp2_with (at_builtin; go_must (refine wpList_append_list _ rfl _ _ rfl w5.heap.size w9.heap.size _ L b D6 d6 rfl (hO9.below (below_new _ _)) rfl (heap_new _ _) (hI9.up (below_new _ _)) (fun ad had => ⟨by have := (hN6 ad had).2; simp; omega, by have h1 := (hN6 ad had).1; have h2 := hbr.size; omega, fun e => by obtain ⟨us, h1, _⟩ := HOz.out; have h2 := (h1.lt _ e).2; have h3 := (hN6 ad had).1; omega⟩) (by omega) (by simp; omega) ?_); intro A10 c10 w10 hO10 hg10 hb10)
        have hbn : Below w5.heap.size w5 w10 := ((hbr.trans (hb9.mono hbr.size)).alloc hs9 _).trans hb10
        go_wp2
        go_roundw
        case rel => exact ⟨k + 1, by omega, by go_num, by rw [HE.out]; exact hO10, hbn⟩
        case measure => simp [intOf]; omega
      · have HE := Lib.hid (HSt.out.trans (by rw [if_neg hm, List.append_nil]))
        have X95 := Lib.hid (fun D9 D6 d9 d6 W (h1 : IntsAt W W.heap.size D9 mb) (h2 : IntsAt W W.heap.size D6 b) => show Calls Tryd.prog 95 #[.slice D9 mb.length d9, .slice D6 b.length d6] W fun e w' => e = .returned (.bool false) ∧ ∃ q, w' = W.drewN q from by
          have h := equal_any D9 D6 d9 d6 mb b W (by have := HMl.out; omega) W.heap.size h1 h2
          rw [decide_eq_false hm] at h
          exact h)
        clear hm
        go_upto_region 14 with (first
          | (go_at_call 94; refine (HNk.out).mono ?_; rintro e w6 ⟨D6, d6, rfl, hI6, hb7, hN6⟩; have hr6 := hbr.trans (hb7.mono hbr.size); have hbw6 := HF.out.trans (hb7.mono HF.out.size); obtain ⟨r0, r1, r2, r3, r4⟩ := HG.out _ (hb3r.trans (hb7.mono hb3r.size)))
          | (go_at_call 79; refine (HKk.out w6 hbw6 (hF9.up hb7) D6 d6 hI6).mono ?_; rintro e w8 ⟨E8, c8, rfl, hL8, hb8⟩; obtain ⟨eb, eo, D9, d9, rfl, heb, g1, g2⟩ := hL8 0 _ HKi2.out; rw [Nat.add_zero] at g1)
          | (go_at_call 95; ((with_reducible refine (X95.out D9 D6 d9 d6 w8 g2 (hI6.up hb8)).mono ?_); rintro e w10 ⟨rfl, q, rfl⟩)))
        have hb9 : Below wr.heap.size wr (w8.drewN q) := below_drewN (hb7.trans (hb8.mono hb7.size)) q
        have hO9 := hOH.out.below hb9
        clear q0 q1 q2 q3 q4 r0 r1 r2 r3 r4 g1 g2 hL8 X95
        go_wp2
        go_roundw
        case rel => exact ⟨k + 1, by omega, by go_num, by rw [HE.out]; exact hO9, hbr.trans (hb9.mono hbr.size)⟩
        case measure => simp [intOf]; omega
    · have e : k = V := by omega
      subst e
      have hki : ¬ (k : Int) < (k : Int) := by omega
      obtain ⟨vA, vc, rfl⟩ := hO.slice
      have HL := Lib.hid hO.lists
      clear hO q0 q1 q2 q3 q4
      go_wp2
      go_ret2
      exact ⟨vA, vc, rfl, HL.out, HF.out⟩

set_option maxHeartbeats 4000000 in
theorem alikeL_big (A D : Option Addr) (c d : Nat) (L : List (List Int)) (w : World) (hl : L.length < 1000000) (hll : ∀ x ∈ L, x.length < 1000000) (B : Nat) (hA : ListsAt w B A L) (hD : ListsAt w B D L) :
    Calls Tryd.prog 34 #[.slice A L.length c, .slice D L.length d] w fun e w' => e = .returned (.bool true) ∧ ∃ q, w' = w.drewN q := by
  have HA := Lib.hid hA
  have HD := Lib.hid hD
  have HL := Lib.hid hll
  clear hA hD hll
  go_enter Tryd.func34, Tryd.ntmps34
  go_wp2
  go_loopw [5] (fun i wr => ∃ k : Nat, k ≤ L.length ∧ i = .int .i64 k ∧ ∃ q, wr = w.drewN q) (fun i _ => L.length - (intOf i).toNat)
  case atStart => exact ⟨0, Nat.zero_le _, rfl, 0, rfl⟩
  case round =>
    obtain ⟨k, hk, rfl, q, rfl⟩ := hrel
    by_cases hlt : k < L.length
    · have hx : L[k]? = some L[k] := List.getElem?_eq_getElem hlt
      have hxl := HL.out _ (mem_of_get hx)
      obtain ⟨b1, o1, E, e, rfl, hb1, g1, g2⟩ := HA.out k _ hx
      obtain ⟨b2, o2, G, g, rfl, hb2, k1, k2⟩ := HD.out k _ hx
      have HS := Lib.hid (fun W (h1 : IntsAt W B E L[k]) (h2 : IntsAt W B G L[k]) => same_any E G e g L[k] L[k] W hxl B h1 h2)
      rw [decide_eq_true rfl] at HS
      have HG := Lib.hid (fun n => show IntsAt (w.drewN n) B E L[k] ∧ IntsAt (w.drewN n) B G L[k] from ⟨g2, k2⟩)
      clear hx g2 k2
      generalize L[k] = l at *
      have hki : (k : Int) < (L.length : Int) := by omega
      have hk0 : (0 : Int) ≤ (k : Int) := by omega
      go_wp2_with fail
      go_quiet (first | (go_at_call 29; refine (HS.out _ (HG.out _).1 (HG.out _).2).mono ?_; rintro e w1 ⟨rfl, q1, rfl⟩; exact ⟨rfl, _, by rw [World.drewN_drewN, Nat.add_assoc]⟩))
      go_wp2
      go_roundw
      case rel => exact ⟨k + 1, by omega, by go_num, _, by first | rfl | exact World.drewN_drewN _ _ _⟩
      case measure => simp [intOf]; omega
    · have hki : ¬ (k : Int) < (L.length : Int) := by omega
      go_wp2
      go_ret
      exact ⟨rfl, q, rfl⟩
theorem x_alikeB (A D : Option Addr) (c d n : Nat) (L : List (List Int)) (w : World) (hA : ListsAt w w.heap.size A L) (hD : ListsAt w w.heap.size D L) (hl : L.length = n) (hn : n < 1000000) (hll : ∀ x ∈ L, x.length < 1000000) : Calls Tryd.prog 34 #[.slice A n c, .slice D n d] w fun e w' => e = .returned (.bool true) ∧ Below w.heap.size w w' := by
  subst hl
  exact (alikeL_big A D c d L w hn hll w.heap.size hA hD).mono fun e w' ⟨h1, q, h2⟩ => ⟨h1, by rw [h2]; exact below_drewN (Below.refl _ _) q⟩

theorem all_both (R C K : Int) (T : List Int) (hn : T.length < 1000) : ∃ (l : List (List Int)) (E : Int), l.length < 1000000 ∧ (∀ y ∈ l, y.length < 1000000) ∧
    (∀ A c W, MovW W → IntsAt W W.heap.size A T → Calls Tryd.prog 41 #[.agg #[.int .i64 R, .int .i64 C, .int .i64 K, .slice A T.length c]] W (RetLE W l E)) ∧
    (∀ A c W, IntsAt W W.heap.size A T → Calls Tryd.prog 42 #[.agg #[.int .i64 R, .int .i64 C, .int .i64 K, .slice A T.length c]] W (RetLE W l E)) := by
  by_cases h : chkE R C K T = 0
  · obtain ⟨p, hp, rfl, rfl, rfl, rfl⟩ := ok_of_chk h
    by_cases hf : p.K ^ p.n ≤ 4096
    · refine ⟨allK p (p.K ^ p.n), 0, by have := allK_len p (p.K ^ p.n); omega, fun y hy => by rw [allK_mem hy]; have := hp.n16; omega, fun A c W hm hA => ?_, fun A c W hA => ?_⟩
      · rw [intsN_len]; exact all_ok p hp A c W hm hA hf
      · rw [intsN_len]; exact refAll_ok p hp A c W hA hf
    · refine ⟨[], 16, by simp, fun y hy => by simp at hy, fun A c W hm hA => ?_, fun A c W hA => ?_⟩
      · rw [intsN_len]
        exact (all_full p hp A c W hm hA (by omega)).mono fun e w' ⟨h1, h2⟩ => ⟨none, 0, h1, ListsAt.nil _ _ _, h2⟩
      · rw [intsN_len]; exact refAll_full p hp A c W hA (by omega)
  · exact ⟨[], chkE R C K T, by simp, fun y hy => by simp at hy, fun A c W hm hA => all_err R C K A c T W hm hA hn h, fun A c W hA => allR_err R C K A c T W hA hn h⟩

set_option maxRecDepth 100000 in
set_option maxHeartbeats 4000000 in
theorem lawAll_any (w : World) (R C K : Int) (A : Option Addr) (c : Nat) (T : List Int) (hT : IntsAt w w.heap.size A T) (hm : MovW w) :
    Calls Tryd.prog 7 #[.agg #[.int .i64 R, .int .i64 C, .int .i64 K, .slice A T.length c]] w fun e w' => e = .returned (.bool true) ∧ Below w.heap.size w w' := by
  have hb0 := below_new w (.cells #[.int .i64 R, .int .i64 C, .int .i64 K, .slice A T.length c] 24)
  have hc1 := own_cells4 w (.int .i64 R) (.int .i64 C) (.int .i64 K) (.slice A T.length c) 24
  have hz1 : w.heap.size < (w.alloc (.cells #[.int .i64 R, .int .i64 C, .int .i64 K, .slice A T.length c] 24)).heap.size := by simp
  replace hm := hm.below hb0
  replace hT := hT.up hb0
  by_cases hl : 30 < T.length ∨ 60 < 0 ∨ 60 < 0
  · have HL := Lib.hid (fun W => large_yes R C K A none none T.length c 0 0 0 0 W hl)
    clear hl hT hc1
    go_enter Tryd.func7, Tryd.ntmps7
    go_wp2_with (first
      | (go_at_call 17; refine (HL.out _).mono ?_; rintro e w2 ⟨rfl, hb2⟩; have hm2 := hm.below hb2)
      | (go_at_call 18; refine (works_any _ hm2).mono ?_; rintro e w3 ⟨rfl, hb3⟩))
    go_ret
    exact ⟨rfl, hb0.trans ((hb2.trans (hb3.mono hb2.size)).mono hb0.size)⟩
  have HL := Lib.hid (fun W => large_no R C K A none none T.length c 0 0 0 0 W hl)
  obtain ⟨l1, E1, hl1, hk1, A1, B1⟩ := all_both R C K T (by omega)
  clear hl
  go_enter Tryd.func7, Tryd.ntmps7
  go_upto_region 3 with (go_at_call 17; refine (HL.out _).mono ?_; rintro e w2 ⟨rfl, hb2⟩)
  generalize w.alloc (.cells #[.int .i64 R, .int .i64 C, .int .i64 K, .slice A T.length c] 24) = w1 at *
  replace hm := hm.below hb2
  replace hT := hT.up hb2
  have HB0 := Lib.hid (hb0.trans (hb2.mono hb0.size))
  have hz2 : w.heap.size < w2.heap.size := Nat.lt_of_lt_of_le hz1 hb2.size
  have HK := Lib.hid (fun (W : World) (h : Below w2.heap.size w2 W) => show W.cell? ⟨w.heap.size, 0, none⟩ = some (.int .i64 R) ∧ W.cell? ⟨w.heap.size, 1, none⟩ = some (.int .i64 C) ∧ W.cell? ⟨w.heap.size, 2, none⟩ = some (.int .i64 K) ∧ W.cell? ⟨w.heap.size, 3, none⟩ = some (.slice A T.length c) from
    ⟨(h.cell (p := ⟨w.heap.size, 0, none⟩) hz2).trans ((hb2.cell (p := ⟨w.heap.size, 0, none⟩) hz1).trans hc1.1), (h.cell (p := ⟨w.heap.size, 1, none⟩) hz2).trans ((hb2.cell (p := ⟨w.heap.size, 1, none⟩) hz1).trans hc1.2.1), (h.cell (p := ⟨w.heap.size, 2, none⟩) hz2).trans ((hb2.cell (p := ⟨w.heap.size, 2, none⟩) hz1).trans hc1.2.2.1), (h.cell (p := ⟨w.heap.size, 3, none⟩) hz2).trans ((hb2.cell (p := ⟨w.heap.size, 3, none⟩) hz1).trans hc1.2.2.2)⟩)
  clear hc1 hb2 hb0 hz1 hz2 HL
  have hz0 := Below.refl w2.heap.size w2
  obtain ⟨c10, c11, c12, c13⟩ := HK.out _ hz0
  go_wp2_with fail
  refine (A1 _ _ _ hm hT).mono ?_
  rintro e w3 ⟨D1, d1, rfl, hD1, hb3⟩
  have hz3 := hz0.trans (hb3.mono hz0.size)
  replace hm := hm.below hb3
  replace hT := hT.up hb3
  clear c10 c11 c12 c13 hb3
  obtain ⟨c10, c11, c12, c13⟩ := HK.out _ hz3
  go_wp2_with fail
  refine (B1 _ _ _ hT).mono ?_
  rintro e w4 ⟨D2, d2, rfl, hD2, hb4⟩
  have hz4 := hz3.trans (hb4.mono hz3.size)
  replace hm := hm.below hb4
  replace hD1 := hD1.up hb4
  clear c10 c11 c12 c13 hb4
  go_wp2_with fail
  refine (x_alikeB _ _ _ _ _ l1 _ hD1 hD2 rfl hl1 hk1).mono ?_
  rintro e w5 ⟨rfl, hb5⟩
  have hz5 := hz4.trans (hb5.mono hz4.size)
  replace hm := hm.below hb5
  clear hb5 hD1 hD2
  go_wp2_with fail
  refine (works_any _ hm).mono ?_
  rintro e w6 ⟨rfl, hb6⟩
  have hz6 := hz5.trans (hb6.mono hz5.size)
  go_wp2
  go_ret
  exact ⟨rfl, HB0.out.trans (hz6.mono HB0.out.size)⟩
end Go.Proofs.YtbcbaaapogejiaaDoor
