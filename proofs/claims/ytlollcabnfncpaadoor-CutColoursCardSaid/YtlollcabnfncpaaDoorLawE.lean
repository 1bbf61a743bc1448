/-
  The walk of CutColours.
-/
import Derived.Test.YtlollcabnfncpaaDoorBdA
import Derived.Test.YtlollcabnfncpaaDoorMathV
import Derived.Laws.OwnMore
import Derived.Deep.DeepCutAuto
namespace Go.Proofs.YtlollcabnfncpaaDoor
open Go.RowKit

theorem min_lt_max {L : List Int} (h : 1 ≤ L.length) (hne : ¬ minI L = maxI L) : minI L < maxI L := by
  match L, h, hne with
  | x :: l, _, hne =>
    have h1 := (foldl_min_le l x).1
    have h2 := (foldl_max_ge l x).1
    have hne' : ¬ l.foldl min x = l.foldl max x := hne
    show l.foldl min x < l.foldl max x
    omega

set_option maxRecDepth 100000 in
set_option maxHeartbeats 8000000 in
theorem lawColours_any (x : Bd) (k : Int) (w : World) (hx : okB x) (hk : 0 ≤ k ∧ k ≤ 255) (ht : TabW w) :
    Calls Tryd.prog 8 #[.agg #[.int .u8 x.a, .int .u8 x.b, .int .u8 x.c, .int .u8 x.d], .int .u8 k] w fun e w' => e = .returned (.bool true) ∧ Below w.heap.size w w' := by
  have HM := Lib.hid (fun W => bmade_any x W hx)
  have hs := bdS_ok x
  generalize bdS x = s at *
  obtain ⟨q, hq⟩ : ∃ q : Nat, k % 6 = q := ⟨(k % 6).toNat, by omega⟩
  have hq5 : q ≤ 5 := by omega
  obtain ⟨hk1, hk2⟩ := hk
  obtain ⟨n, hn⟩ : ∃ n : Nat, n = 1 + q := ⟨_, rfl⟩
  have hnI : 1 + (q : Int) = (n : Int) := by omega
  have hn6 : 1 ≤ n ∧ n ≤ 6 := by omega
  have HT := Lib.hid ht
  have hr6 := hs.r6
  have hc6 := hs.c6
  clear ht hx hn hq5
  obtain ⟨i0, hi, hz0, hz1, hz2⟩ := info_parts info3
  have HMK := Lib.hid (fun (W : World) (n : Nat) (h6 : n ≤ 6) => run_make_full (P := Tryd.prog) W W.heap.size 47 3 i0 _ 1 Tryd.underlying47 hi hz0 hz1 .i64 .i64 n (by rw [hz2]; omega) (by unfold maxLen; omega) (Nat.le_refl _))
  have hrep : ∀ k : Nat, (madeCells (Value.int .i64 0).cells (k * 1)).toList = (List.replicate k (0 : Int)).map (Value.int .i64) := fun k => by
    rw [Nat.mul_one, show (Value.int .i64 0).cells = #[.int .i64 0] from rfl, toList_madeCells_one]
    simp
  have HREP := Lib.hid hrep
  clear hrep hi hz0 hz1 hz2
  go_enter Tryd.func8, Tryd.ntmps8
  go_wp2_with fail
  refine (HM.out _).mono ?_
  rintro e w1 ⟨rfl, hb1⟩
  obtain ⟨w2, hmk, hown0, hg0⟩ := HMK.out (w1.alloc (.cells #[.int .i64 s.r, .int .i64 s.c, .int .i64 s.l, .int .i64 s.w] 23)) n hn6.2
  simp only [World.size_alloc] at hmk hown0
  have hz12 : w1.heap.size + 1 ≤ w2.heap.size := by have := (Chg.of_grown hg0).size; simpa using this
  have hzw1 : w.heap.size + 1 ≤ w1.heap.size := by have := hb1.size; simpa using this
  have hb2 : Below w.heap.size w w2 := ((below_via hb1).alloc (by omega) _).grown hg0 (by simp; omega) (by simp)
  have cc := fun (o : Nat) => (Chg.of_grown hg0).cell (p := ⟨w1.heap.size, o, none⟩) (by simp) (by simp)
  have p0 : w2.cell? ⟨w1.heap.size, 0, none⟩ = some (.int .i64 s.r) := (cc 0).trans (by simp [go_sem])
  have p1 : w2.cell? ⟨w1.heap.size, 1, none⟩ = some (.int .i64 s.c) := (cc 1).trans (by simp [go_sem])
  have p2 : w2.cell? ⟨w1.heap.size, 2, none⟩ = some (.int .i64 s.l) := (cc 2).trans (by simp [go_sem])
  have p3 : w2.cell? ⟨w1.heap.size, 3, none⟩ = some (.int .i64 s.w) := (cc 3).trans (by simp [go_sem])
  have HK := Lib.hid (fun (W : World) (h : Below (w1.heap.size + 1) w2 W) => show W.cell? ⟨w1.heap.size, 0, none⟩ = some (.int .i64 s.r) ∧ W.cell? ⟨w1.heap.size, 1, none⟩ = some (.int .i64 s.c) ∧ W.cell? ⟨w1.heap.size, 2, none⟩ = some (.int .i64 s.l) ∧ W.cell? ⟨w1.heap.size, 3, none⟩ = some (.int .i64 s.w) from
    ⟨(h.cell (p := ⟨w1.heap.size, 0, none⟩) (by simp)).trans p0, (h.cell (p := ⟨w1.heap.size, 1, none⟩) (by simp)).trans p1, (h.cell (p := ⟨w1.heap.size, 2, none⟩) (by simp)).trans p2, (h.cell (p := ⟨w1.heap.size, 3, none⟩) (by simp)).trans p3⟩)
  rw [HREP.out] at hown0
  have H0 := Lib.hid (show w2.ownsRow (w1.heap.size + 1) 3 1 (.slice (some ⟨w1.heap.size + 1, 0, none⟩) n n) n ((colA n s.c 0).map (Value.int .i64)) from hown0)
  have HB := Lib.hid hb2
  have HZ := Lib.hid (show w.heap.size ≤ w1.heap.size + 1 by omega)
  clear hb1 hown0 hg0 cc hb2 hzw1
  have hk0 : ((n : Int) == 0) = false := beq_eq_false_iff_ne.2 (by omega)
  have hknz : ¬ n = 0 := by omega
  go_wp2
  clear hmk
  go_loopw [35] (fun i wr => ∃ a : Nat, a ≤ s.r ∧ i = .int .i64 a ∧ wr.ownsRow (w1.heap.size + 1) 3 1 (.slice (some ⟨w1.heap.size + 1, 0, none⟩) n n) n ((colA n s.c a).map (Value.int .i64)) ∧ Below (w1.heap.size + 1) w2 wr) (fun i _ => s.r - (intOf i).toNat)
  case atStart => exact ⟨0, by omega, rfl, H0.out, Below.refl _ _⟩
  case round =>
    obtain ⟨a, ha, rfl, hown, hbr⟩ := hrel
    obtain ⟨r0, r1, r2, r3⟩ := HK.out _ hbr
    by_cases hlt : a < s.r
    · obtain ⟨wo, rfl⟩ : ∃ wo : World, wo = wr := ⟨_, rfl⟩
      have HO := Lib.hid hown
      clear hown
      go_wp2
      go_loopw [40] (fun i wx => ∃ b : Nat, b ≤ s.c ∧ i = .int .i64 b ∧ wx.ownsRow (w1.heap.size + 1) 3 1 (.slice (some ⟨w1.heap.size + 1, 0, none⟩) n n) n ((colR n a b (colA n s.c a)).map (Value.int .i64)) ∧ Below (w1.heap.size + 1) w2 wx) (fun i _ => s.c - (intOf i).toNat)
      case atStart => exact ⟨0, by omega, rfl, HO.out, hbr⟩
      case round =>
        obtain ⟨b, hb, rfl, hown, hbx⟩ := hrel
        obtain ⟨t0, t1, t2, t3⟩ := HK.out _ hbx
        by_cases hlt2 : b < s.c
        · have hmod : ((a : Int) + (b : Int)).tmod (n : Int) = (((a + b) % n : Nat) : Int) := by
            rw [show ((a : Int) + (b : Int)) = ((a + b : Nat) : Int) by omega]; rfl
          have hjk : (a + b) % n < n := Nat.mod_lt _ (by omega)
          have hbin := (colA_in n s.c a).colR (by omega) n a b
          have hac : a * s.c ≤ 36 := by have := Nat.mul_le_mul (show a ≤ 6 by omega) hc6; omega
          have hln : (colR n a b (colA n s.c a)).length = n := by rw [colR_len, colA_len]
          have hnx : colR n a (b + 1) (colA n s.c a) = bump (colR n a b (colA n s.c a)) ((a + b) % n) := rfl
          have HNX := Lib.hid hnx
          have HOW := Lib.hid hown
          generalize colR n a b (colA n s.c a) = L at *
          have hw1 : IntKind.i64.wrap ((a : Int) + (b : Int)) = (a : Int) + (b : Int) := IntWalk.i64_in _ (by omega)
          generalize (a + b) % n = j at *
          have hLj : L[j]? = some (L[j]'(by omega)) := List.getElem?_eq_getElem (by omega)
          generalize hy : L[j]'(by omega) = y at hLj
          have hyin := hbin y (List.mem_of_getElem? hLj)
          have hcell := (hown.cellAt j (by omega)).trans (show (L.map (Value.int .i64))[j]? = some (.int .i64 y) by rw [List.getElem?_map, hLj]; rfl)
          have hfz := hown.frozenAt j
          have hst := hown.stored j (.int .i64 (y + 1))
          have HST := Lib.hid hst
          have HY := Lib.hid (show (L.map (Value.int .i64)).set j (.int .i64 (y + 1)) = (bump L j).map (Value.int .i64) by
            rw [← List.map_set, bump, List.getD_eq_getElem?_getD, hLj]; rfl)
          clear hst hown hbin hLj hy hnx
          go_wp2
          go_roundw
          case rel =>
            refine ⟨b + 1, by omega, by go_num, ?_, ?_⟩
            · rw [HNX.out, ← HY.out]; exact HST.out.1
            · exact hbx.setCell (p := ⟨w1.heap.size + 1, j, none⟩) (by simp) _
          case measure => simp [intOf]; omega
        · have e : b = s.c := by omega
          have HF := Lib.hid (show (colR n a b (colA n s.c a)).map (Value.int .i64) = (colA n s.c (a + 1)).map (Value.int .i64) by rw [e]; rfl)
          have HOW := Lib.hid hown
          clear hown e
          go_wp2
          go_roundw
          case rel => exact ⟨a + 1, by omega, by go_num, by rw [← HF.out]; exact HOW.out, hbx⟩
          case measure => simp [intOf]; omega
    · have e : a = s.r := by omega
      rw [e] at hown
      obtain ⟨A, c, he, hA, hnn⟩ := own_ints hown
      rw [colA_len] at he hnn
      injection he with e1 e2 e3
      subst e1 e3
      have HA := Lib.hid hA
      have HBR := Lib.hid hbr
      clear hown hA hnn e2 e p0 p1 p2 p3 H0
      have hcl := colA_len n s.c s.r
      have hev := even_div ⟨hs.r1, hs.r6⟩ ⟨hs.c1, hs.c6⟩ hn6
      have h39 : Hid (∀ W, Calls Tryd.prog 39 #[.agg #[.int .i64 s.r, .int .i64 s.c, .int .i64 s.l, .int .i64 s.w], .int .i64 n] W (RetIntsE W (colA n s.c s.r) 0)) := Lib.hid (fun W => by
        have h := coloursF_any s.r s.c s.l s.w n W
        have hc : chkS s.r s.c s.l s.w = 0 ∧ (1 : Int) ≤ n ∧ (n : Int) ≤ 6 := ⟨chkS_ok hs, by omega, by omega⟩
        unfold colF colE at h
        rw [if_pos hc, if_pos hc] at h
        exact h)
      have HZR := Lib.hid hbr.size
      obtain ⟨W0, rfl⟩ : ∃ W0 : World, W0 = wr := ⟨_, rfl⟩
      have HKR := Lib.hid (fun (W : World) (h : Below W0.heap.size W0 W) => HK.out W (HBR.out.trans (h.mono (Nat.le_trans hz12 HZR.out))))
      generalize colA n s.c s.r = C at *
      unfold divS' at hev
      have HEV := Lib.hid hev
      have HCL := Lib.hid hcl
      have hCn : C.length = n := hcl
      clear hev hcl hCn
      go_wp2_with (go_at_call 39; (with_reducible refine (h39.out _).mono ?_); rintro e w3 ⟨A3, c3, rfl, hA3, hb3⟩)
      have hA4 := HA.out.up hb3
      obtain ⟨t0, t1, t2, t3⟩ := HKR.out _ hb3
      have HA3 := Lib.hid hA3
      have HA4 := Lib.hid hA4
      have HB3 := Lib.hid hb3
      clear r0 r1 r2 r3 hA3 hA4 hb3 hbr
      have HCN := Lib.hid hn6
      have Q34 := Lib.hid (fun W (Q : Ending → World → Prop) (hb : Below w3.heap.size w3 W) => same_q (c := c3) (d := n) (by have := HCL.out; have := HCN.out; omega) (HA3.out.up hb) (HA4.out.up hb) hb Q)
      have Q50 := Lib.hid (fun W (Q : Ending → World → Prop) (hb : Below w3.heap.size w3 W) (hQ : ∀ w', Below w3.heap.size w3 w' → Q (.returned (.int .i64 (minI C))) w') => (min_any _ n C W (HA4.out.up hb) (by have := HCL.out; have := HCN.out; omega) (by have := HCL.out; have := HCN.out; omega)).mono fun e w' ⟨he, h⟩ => he ▸ hQ w' (hb.trans (h.mono hb.size)))
      have Q51 := Lib.hid (fun W (Q : Ending → World → Prop) (hb : Below w3.heap.size w3 W) (hQ : ∀ w', Below w3.heap.size w3 w' → Q (.returned (.int .i64 (maxI C))) w') => (max_any _ n C W (HA4.out.up hb) (by have := HCL.out; have := HCN.out; omega) (by have := HCL.out; have := HCN.out; omega)).mono fun e w' ⟨he, h⟩ => he ▸ hQ w' (hb.trans (h.mono hb.size)))
      have HK3 := Lib.hid (fun (W : World) (h : Below w3.heap.size w3 W) => HKR.out W (HB3.out.trans (h.mono HB3.out.size)))
      rw [HCL.out] at Q34 Q50 Q51
      rw [HCL.out]
      go_cut [88] (fun s88 wx => s88 = .bool false ∧ Below w3.heap.size w3 wx)
      case first =>
        have hbd := (Below.refl w3.heap.size w3).drew
        have hbr := (Below.refl w3.heap.size w3)
        have hm1 : (s.r : Int).tmod (n : Int) = ((s.r % n : Nat) : Int) := rfl
        have hm2 : (s.c : Int).tmod (n : Int) = ((s.c % n : Nat) : Int) := rfl
        have hev := HEV.out
        generalize minI C = m1 at *
        generalize maxI C = m2 at *
        generalize s.r % n = y1 at *
        generalize s.c % n = y2 at *
        by_cases hy1 : y1 = 0
        · as_aux_lemma =>
            have hq1 : ((y1 : Int) == 0) = true := beq_iff_eq.2 (by omega)
            have hv : (m1 == m2) = true := by rw [hev, beq_iff_eq.2 hy1]; rfl
            clear hy1 hev
            refine wp_region_held_drew (S := fun W => W.cell? ⟨w1.heap.size, 0, none⟩ = some (.int .i64 s.r) ∧ W.cell? ⟨w1.heap.size, 1, none⟩ = some (.int .i64 s.c) ∧ W.cell? ⟨w1.heap.size, 2, none⟩ = some (.int .i64 s.l) ∧ W.cell? ⟨w1.heap.size, 3, none⟩ = some (.int .i64 s.w)) (by kernel_rfl) (HK3.out _ hbd) (fun hHeld => ?_)
            refine wpAnyH_take (i := 0) (v := ?_) rfl (by kernel_rfl) (by kernel_rfl) (by kernel_rfl) (fun _ _ _ h => h) (Or.inl ⟨by rfl, ?_⟩) (by assumption) ?_
            rotate_left
            · intro w hSw; obtain ⟨x0, x1, x2, x3⟩ := hSw; go_simp; try with_reducible rfl
            try simp only [Act.put, List.getElem_toArray, List.getElem_cons_zero, List.setIfInBounds_toArray, List.set_cons_zero, List.set_cons_succ]
            refine wpAnyH_take (i := 1) (v := ?_) rfl (by kernel_rfl) (by kernel_rfl) (by kernel_rfl) (fun _ _ _ h => h) (Or.inl ⟨by rfl, ?_⟩) (by assumption) ?_
            rotate_left
            · intro w hSw; obtain ⟨x0, x1, x2, x3⟩ := hSw; go_simp; try with_reducible rfl
            try simp only [Act.put, List.getElem_toArray, List.getElem_cons_zero, List.getElem_cons_succ, List.setIfInBounds_toArray, List.set_cons_zero, List.set_cons_succ]
            refine wpAnyH_take (i := 2) (v := ?_) rfl (by kernel_rfl) (by kernel_rfl) (by kernel_rfl) (fun _ _ _ h => h) (Or.inl ⟨by rfl, ?_⟩) (by assumption) ?_
            rotate_left
            · intro w hSw; obtain ⟨x0, x1, x2, x3⟩ := hSw; go_simp; try with_reducible rfl
            try simp only [Act.put, List.getElem_toArray, List.getElem_cons_zero, List.getElem_cons_succ, List.setIfInBounds_toArray, List.set_cons_zero, List.set_cons_succ]
            refine wpAnyH_take (i := 3) (v := ?_) rfl (by kernel_rfl) (by kernel_rfl) (by kernel_rfl) (fun _ _ _ h => h) (Or.inl ⟨by rfl, ?_⟩) (by assumption) ?_
            rotate_left
            · intro w hSw; obtain ⟨x0, x1, x2, x3⟩ := hSw; go_simp; try with_reducible rfl
            try simp only [Act.put, List.getElem_toArray, List.getElem_cons_zero, List.getElem_cons_succ, List.setIfInBounds_toArray, List.set_cons_zero, List.set_cons_succ]
            refine wpAnyH_take (i := 4) (v := ?_) rfl (by kernel_rfl) (by kernel_rfl) (by kernel_rfl) (fun _ _ _ h => h) (Or.inl ⟨by rfl, ?_⟩) (by assumption) ?_
            rotate_left
            · intro w hSw; obtain ⟨x0, x1, x2, x3⟩ := hSw; go_simp; try with_reducible rfl
            try simp only [Act.put, List.getElem_toArray, List.getElem_cons_zero, List.getElem_cons_succ, List.setIfInBounds_toArray, List.set_cons_zero, List.set_cons_succ]
            refine wpAnyH_ready (rs := [5]) (by kernel_rfl) (by simp) ?_
            refine AllReadyH.cons rfl (fun K hK => ?_) AllReadyH.nil
            go_simp
            with_reducible refine Q34.out _ _ (by assumption) ?_
            intro w4 hb4
            refine hK.out _ _ (HK3.out _ hb4) (fun _ => ?_)
            clear hK K
            try simp only [Act.put, List.getElem_toArray, List.getElem_cons_zero, List.getElem_cons_succ, List.setIfInBounds_toArray, List.set_cons_zero, List.set_cons_succ]
            refine wpAnyH_take (i := 6) (v := ?_) rfl (by kernel_rfl) (by kernel_rfl) (by kernel_rfl) (fun _ _ _ h => h) (Or.inl ⟨by rfl, ?_⟩) (by assumption) ?_
            rotate_left
            · intro w hSw; obtain ⟨x0, x1, x2, x3⟩ := hSw; go_simp; try with_reducible rfl
            try simp only [Act.put, List.getElem_toArray, List.getElem_cons_zero, List.getElem_cons_succ, List.setIfInBounds_toArray, List.set_cons_zero, List.set_cons_succ]
            refine wpAnyH_take (i := 7) (v := ?_) rfl (by kernel_rfl) (by kernel_rfl) (by kernel_rfl) (fun _ _ _ h => h) (Or.inl ⟨by rfl, ?_⟩) (by assumption) ?_
            rotate_left
            · intro w hSw; obtain ⟨x0, x1, x2, x3⟩ := hSw; go_simp; try with_reducible rfl
            try simp only [Act.put, List.getElem_toArray, List.getElem_cons_zero, List.getElem_cons_succ, List.setIfInBounds_toArray, List.set_cons_zero, List.set_cons_succ]
            refine wpAnyH_take (i := 8) (v := ?_) rfl (by kernel_rfl) (by kernel_rfl) (by kernel_rfl) (fun _ _ _ h => h) (Or.inl ⟨by rfl, ?_⟩) (by assumption) ?_
            rotate_left
            · intro w hSw; obtain ⟨x0, x1, x2, x3⟩ := hSw; go_simp; try with_reducible rfl
            try simp only [Act.put, List.getElem_toArray, List.getElem_cons_zero, List.getElem_cons_succ, List.setIfInBounds_toArray, List.set_cons_zero, List.set_cons_succ]
            refine wpAnyH_take (i := 9) (v := ?_) rfl (by kernel_rfl) (by kernel_rfl) (by kernel_rfl) (fun _ _ _ h => h) (Or.inl ⟨by rfl, ?_⟩) (by assumption) ?_
            rotate_left
            · intro w hSw; obtain ⟨x0, x1, x2, x3⟩ := hSw; go_simp; try with_reducible rfl
            try simp only [Act.put, List.getElem_toArray, List.getElem_cons_zero, List.getElem_cons_succ, List.setIfInBounds_toArray, List.set_cons_zero, List.set_cons_succ]
            refine wpAnyH_take (i := 11) (v := ?_) rfl (by kernel_rfl) (by kernel_rfl) (by kernel_rfl) (fun _ _ _ h => h) (Or.inl ⟨by rfl, ?_⟩) (by assumption) ?_
            rotate_left
            · intro w hSw; obtain ⟨x0, x1, x2, x3⟩ := hSw; go_simp; try with_reducible rfl
            try simp only [Act.put, List.getElem_toArray, List.getElem_cons_zero, List.getElem_cons_succ, List.setIfInBounds_toArray, List.set_cons_zero, List.set_cons_succ]
            refine wpAnyH_take (i := 14) (v := ?_) rfl (by kernel_rfl) (by kernel_rfl) (by kernel_rfl) (fun _ _ _ h => h) (Or.inl ⟨by rfl, ?_⟩) (by assumption) ?_
            rotate_left
            · intro w hSw; obtain ⟨x0, x1, x2, x3⟩ := hSw; go_simp; try with_reducible rfl
            try simp only [Act.put, List.getElem_toArray, List.getElem_cons_zero, List.getElem_cons_succ, List.setIfInBounds_toArray, List.set_cons_zero, List.set_cons_succ]
            refine wpAnyH_take (i := 15) (v := ?_) rfl (by kernel_rfl) (by kernel_rfl) (by kernel_rfl) (fun _ _ _ h => h) (Or.inl ⟨by rfl, ?_⟩) (by assumption) ?_
            rotate_left
            · intro w hSw; obtain ⟨x0, x1, x2, x3⟩ := hSw; go_simp; try with_reducible rfl
            try simp only [Act.put, List.getElem_toArray, List.getElem_cons_zero, List.getElem_cons_succ, List.setIfInBounds_toArray, List.set_cons_zero, List.set_cons_succ]
            refine wpAnyH_take (i := 16) (v := ?_) rfl (by kernel_rfl) (by kernel_rfl) (by kernel_rfl) (fun _ _ _ h => h) (Or.inl ⟨by rfl, ?_⟩) (by assumption) ?_
            rotate_left
            · intro w hSw; obtain ⟨x0, x1, x2, x3⟩ := hSw; go_simp; try with_reducible rfl
            try simp only [Act.put, List.getElem_toArray, List.getElem_cons_zero, List.getElem_cons_succ, List.setIfInBounds_toArray, List.set_cons_zero, List.set_cons_succ]
            refine wpAnyH_take (i := 17) (v := ?_) rfl (by kernel_rfl) (by kernel_rfl) (by kernel_rfl) (fun _ _ _ h => h) (Or.inl ⟨by rfl, ?_⟩) (by assumption) ?_
            rotate_left
            · intro w hSw; obtain ⟨x0, x1, x2, x3⟩ := hSw; go_simp; try with_reducible rfl
            try simp only [Act.put, List.getElem_toArray, List.getElem_cons_zero, List.getElem_cons_succ, List.setIfInBounds_toArray, List.set_cons_zero, List.set_cons_succ]
            refine wpAnyH_take (i := 18) (v := ?_) rfl (by kernel_rfl) (by kernel_rfl) (by kernel_rfl) (fun _ _ _ h => h) (Or.inl ⟨by rfl, ?_⟩) (by assumption) ?_
            rotate_left
            · intro w hSw; obtain ⟨x0, x1, x2, x3⟩ := hSw; go_simp; try with_reducible rfl
            try simp only [Act.put, List.getElem_toArray, List.getElem_cons_zero, List.getElem_cons_succ, List.setIfInBounds_toArray, List.set_cons_zero, List.set_cons_succ]
            refine wpAnyH_ready (rs := [10]) (by kernel_rfl) (by simp) ?_
            refine AllReadyH.cons rfl (fun K hK => ?_) AllReadyH.nil
            go_simp
            with_reducible refine Q50.out _ _ (by assumption) ?_
            intro w5 hb5
            refine hK.out _ _ (HK3.out _ hb5) (fun _ => ?_)
            clear hK K
            try simp only [Act.put, List.getElem_toArray, List.getElem_cons_zero, List.getElem_cons_succ, List.setIfInBounds_toArray, List.set_cons_zero, List.set_cons_succ]
            refine wpAnyH_ready (rs := [12]) (by kernel_rfl) (by simp) ?_
            refine AllReadyH.cons rfl (fun K hK => ?_) AllReadyH.nil
            go_simp
            with_reducible refine Q51.out _ _ (by assumption) ?_
            intro w6 hb6
            refine hK.out _ _ (HK3.out _ hb6) (fun _ => ?_)
            clear hK K
            try simp only [Act.put, List.getElem_toArray, List.getElem_cons_zero, List.getElem_cons_succ, List.setIfInBounds_toArray, List.set_cons_zero, List.set_cons_succ]
            refine wpAnyH_take (i := 13) (v := ?_) rfl (by kernel_rfl) (by kernel_rfl) (by kernel_rfl) (fun _ _ _ h => h) (Or.inl ⟨by rfl, ?_⟩) (by assumption) ?_
            rotate_left
            · intro w hSw; obtain ⟨x0, x1, x2, x3⟩ := hSw; go_simp; try with_reducible rfl
            try simp only [Act.put, List.getElem_toArray, List.getElem_cons_zero, List.getElem_cons_succ, List.setIfInBounds_toArray, List.set_cons_zero, List.set_cons_succ]
            refine wpAnyH_take (i := 19) (v := ?_) rfl (by kernel_rfl) (by kernel_rfl) (by kernel_rfl) (fun _ _ _ h => h) (Or.inl ⟨by rfl, ?_⟩) (by assumption) ?_
            rotate_left
            · intro w hSw; obtain ⟨x0, x1, x2, x3⟩ := hSw; go_simp; try with_reducible rfl
            try simp only [Act.put, List.getElem_toArray, List.getElem_cons_zero, List.getElem_cons_succ, List.setIfInBounds_toArray, List.set_cons_zero, List.set_cons_succ]
            refine wpAnyH_take (i := 20) (v := undef) rfl (by kernel_rfl) (by kernel_rfl) (by kernel_rfl) (fun _ _ _ h => h) (Or.inr ⟨by rfl, rfl⟩) (by assumption) ?_
            try simp only [Act.put, List.getElem_toArray, List.getElem_cons_zero, List.getElem_cons_succ, List.setIfInBounds_toArray, List.set_cons_zero, List.set_cons_succ]
            refine wpAnyH_take (i := 21) (v := undef) rfl (by kernel_rfl) (by kernel_rfl) (by kernel_rfl) (fun _ _ _ h => h) (Or.inr ⟨by rfl, rfl⟩) (by assumption) ?_
            try simp only [Act.put, List.getElem_toArray, List.getElem_cons_zero, List.getElem_cons_succ, List.setIfInBounds_toArray, List.set_cons_zero, List.set_cons_succ]
            refine wpAnyH_take (i := 22) (v := undef) rfl (by kernel_rfl) (by kernel_rfl) (by kernel_rfl) (fun _ _ _ h => h) (Or.inr ⟨by rfl, rfl⟩) (by assumption) ?_
            try simp only [Act.put, List.getElem_toArray, List.getElem_cons_zero, List.getElem_cons_succ, List.setIfInBounds_toArray, List.set_cons_zero, List.set_cons_succ]
            refine wpAnyH_take (i := 23) (v := undef) rfl (by kernel_rfl) (by kernel_rfl) (by kernel_rfl) (fun _ _ _ h => h) (Or.inr ⟨by rfl, rfl⟩) (by assumption) ?_
            try simp only [Act.put, List.getElem_toArray, List.getElem_cons_zero, List.getElem_cons_succ, List.setIfInBounds_toArray, List.set_cons_zero, List.set_cons_succ]
            refine wpAnyH_take (i := 24) (v := undef) rfl (by kernel_rfl) (by kernel_rfl) (by kernel_rfl) (fun _ _ _ h => h) (Or.inr ⟨by rfl, rfl⟩) (by assumption) ?_
            try simp only [Act.put, List.getElem_toArray, List.getElem_cons_zero, List.getElem_cons_succ, List.setIfInBounds_toArray, List.set_cons_zero, List.set_cons_succ]
            refine wpAnyH_take (i := 25) (v := ?_) rfl (by kernel_rfl) (by kernel_rfl) (by kernel_rfl) (fun _ _ _ h => h) (Or.inl ⟨by rfl, ?_⟩) (by assumption) ?_
            rotate_left
            · intro w hSw; obtain ⟨x0, x1, x2, x3⟩ := hSw; go_simp; try with_reducible rfl
            try simp only [Act.put, List.getElem_toArray, List.getElem_cons_zero, List.getElem_cons_succ, List.setIfInBounds_toArray, List.set_cons_zero, List.set_cons_succ]
            refine wpAnyH_take (i := 26) (v := ?_) rfl (by kernel_rfl) (by kernel_rfl) (by kernel_rfl) (fun _ _ _ h => h) (Or.inl ⟨by rfl, ?_⟩) (by assumption) ?_
            rotate_left
            · intro w hSw; obtain ⟨x0, x1, x2, x3⟩ := hSw; go_simp; try with_reducible rfl
            try simp only [Act.put, List.getElem_toArray, List.getElem_cons_zero, List.getElem_cons_succ, List.setIfInBounds_toArray, List.set_cons_zero, List.set_cons_succ]
            refine wpAnyH_take (i := 27) (v := ?_) rfl (by kernel_rfl) (by kernel_rfl) (by kernel_rfl) (fun _ _ _ h => h) (Or.inl ⟨by rfl, ?_⟩) (by assumption) ?_
            rotate_left
            · intro w hSw; obtain ⟨x0, x1, x2, x3⟩ := hSw; go_simp; try with_reducible rfl
            try simp only [Act.put, List.getElem_toArray, List.getElem_cons_zero, List.getElem_cons_succ, List.setIfInBounds_toArray, List.set_cons_zero, List.set_cons_succ]
            refine wpAnyH_done (by kernel_rfl) ?_ _
            go_wp2
            go_meet
            case rel => exact ⟨rfl, hb6⟩
        · have hq1 : ((y1 : Int) == 0) = false := beq_eq_false_iff_ne.2 (by omega)
          by_cases hy2 : y2 = 0
          · as_aux_lemma =>
              have hq2 : ((y2 : Int) == 0) = true := beq_iff_eq.2 (by omega)
              have hv : (m1 == m2) = true := by rw [hev, beq_iff_eq.2 hy2, Bool.or_true]
              clear hy1 hy2 hev
              refine wp_region_held_drew (S := fun W => W.cell? ⟨w1.heap.size, 0, none⟩ = some (.int .i64 s.r) ∧ W.cell? ⟨w1.heap.size, 1, none⟩ = some (.int .i64 s.c) ∧ W.cell? ⟨w1.heap.size, 2, none⟩ = some (.int .i64 s.l) ∧ W.cell? ⟨w1.heap.size, 3, none⟩ = some (.int .i64 s.w)) (by kernel_rfl) (HK3.out _ hbd) (fun hHeld => ?_)
              refine wpAnyH_take (i := 0) (v := ?_) rfl (by kernel_rfl) (by kernel_rfl) (by kernel_rfl) (fun _ _ _ h => h) (Or.inl ⟨by rfl, ?_⟩) (by assumption) ?_
              rotate_left
              · intro w hSw; obtain ⟨x0, x1, x2, x3⟩ := hSw; go_simp; try with_reducible rfl
              try simp only [Act.put, List.getElem_toArray, List.getElem_cons_zero, List.setIfInBounds_toArray, List.set_cons_zero, List.set_cons_succ]
              refine wpAnyH_take (i := 1) (v := ?_) rfl (by kernel_rfl) (by kernel_rfl) (by kernel_rfl) (fun _ _ _ h => h) (Or.inl ⟨by rfl, ?_⟩) (by assumption) ?_
              rotate_left
              · intro w hSw; obtain ⟨x0, x1, x2, x3⟩ := hSw; go_simp; try with_reducible rfl
              try simp only [Act.put, List.getElem_toArray, List.getElem_cons_zero, List.getElem_cons_succ, List.setIfInBounds_toArray, List.set_cons_zero, List.set_cons_succ]
              refine wpAnyH_take (i := 2) (v := ?_) rfl (by kernel_rfl) (by kernel_rfl) (by kernel_rfl) (fun _ _ _ h => h) (Or.inl ⟨by rfl, ?_⟩) (by assumption) ?_
              rotate_left
              · intro w hSw; obtain ⟨x0, x1, x2, x3⟩ := hSw; go_simp; try with_reducible rfl
              try simp only [Act.put, List.getElem_toArray, List.getElem_cons_zero, List.getElem_cons_succ, List.setIfInBounds_toArray, List.set_cons_zero, List.set_cons_succ]
              refine wpAnyH_take (i := 3) (v := ?_) rfl (by kernel_rfl) (by kernel_rfl) (by kernel_rfl) (fun _ _ _ h => h) (Or.inl ⟨by rfl, ?_⟩) (by assumption) ?_
              rotate_left
              · intro w hSw; obtain ⟨x0, x1, x2, x3⟩ := hSw; go_simp; try with_reducible rfl
              try simp only [Act.put, List.getElem_toArray, List.getElem_cons_zero, List.getElem_cons_succ, List.setIfInBounds_toArray, List.set_cons_zero, List.set_cons_succ]
              refine wpAnyH_take (i := 4) (v := ?_) rfl (by kernel_rfl) (by kernel_rfl) (by kernel_rfl) (fun _ _ _ h => h) (Or.inl ⟨by rfl, ?_⟩) (by assumption) ?_
              rotate_left
              · intro w hSw; obtain ⟨x0, x1, x2, x3⟩ := hSw; go_simp; try with_reducible rfl
              try simp only [Act.put, List.getElem_toArray, List.getElem_cons_zero, List.getElem_cons_succ, List.setIfInBounds_toArray, List.set_cons_zero, List.set_cons_succ]
              refine wpAnyH_ready (rs := [5]) (by kernel_rfl) (by simp) ?_
              refine AllReadyH.cons rfl (fun K hK => ?_) AllReadyH.nil
              go_simp
              with_reducible refine Q34.out _ _ (by assumption) ?_
              intro w4 hb4
              refine hK.out _ _ (HK3.out _ hb4) (fun _ => ?_)
              clear hK K
              try simp only [Act.put, List.getElem_toArray, List.getElem_cons_zero, List.getElem_cons_succ, List.setIfInBounds_toArray, List.set_cons_zero, List.set_cons_succ]
              refine wpAnyH_take (i := 6) (v := ?_) rfl (by kernel_rfl) (by kernel_rfl) (by kernel_rfl) (fun _ _ _ h => h) (Or.inl ⟨by rfl, ?_⟩) (by assumption) ?_
              rotate_left
              · intro w hSw; obtain ⟨x0, x1, x2, x3⟩ := hSw; go_simp; try with_reducible rfl
              try simp only [Act.put, List.getElem_toArray, List.getElem_cons_zero, List.getElem_cons_succ, List.setIfInBounds_toArray, List.set_cons_zero, List.set_cons_succ]
              refine wpAnyH_take (i := 7) (v := ?_) rfl (by kernel_rfl) (by kernel_rfl) (by kernel_rfl) (fun _ _ _ h => h) (Or.inl ⟨by rfl, ?_⟩) (by assumption) ?_
              rotate_left
              · intro w hSw; obtain ⟨x0, x1, x2, x3⟩ := hSw; go_simp; try with_reducible rfl
              try simp only [Act.put, List.getElem_toArray, List.getElem_cons_zero, List.getElem_cons_succ, List.setIfInBounds_toArray, List.set_cons_zero, List.set_cons_succ]
              refine wpAnyH_take (i := 8) (v := ?_) rfl (by kernel_rfl) (by kernel_rfl) (by kernel_rfl) (fun _ _ _ h => h) (Or.inl ⟨by rfl, ?_⟩) (by assumption) ?_
              rotate_left
              · intro w hSw; obtain ⟨x0, x1, x2, x3⟩ := hSw; go_simp; try with_reducible rfl
              try simp only [Act.put, List.getElem_toArray, List.getElem_cons_zero, List.getElem_cons_succ, List.setIfInBounds_toArray, List.set_cons_zero, List.set_cons_succ]
              refine wpAnyH_take (i := 9) (v := ?_) rfl (by kernel_rfl) (by kernel_rfl) (by kernel_rfl) (fun _ _ _ h => h) (Or.inl ⟨by rfl, ?_⟩) (by assumption) ?_
              rotate_left
              · intro w hSw; obtain ⟨x0, x1, x2, x3⟩ := hSw; go_simp; try with_reducible rfl
              try simp only [Act.put, List.getElem_toArray, List.getElem_cons_zero, List.getElem_cons_succ, List.setIfInBounds_toArray, List.set_cons_zero, List.set_cons_succ]
              refine wpAnyH_take (i := 11) (v := ?_) rfl (by kernel_rfl) (by kernel_rfl) (by kernel_rfl) (fun _ _ _ h => h) (Or.inl ⟨by rfl, ?_⟩) (by assumption) ?_
              rotate_left
              · intro w hSw; obtain ⟨x0, x1, x2, x3⟩ := hSw; go_simp; try with_reducible rfl
              try simp only [Act.put, List.getElem_toArray, List.getElem_cons_zero, List.getElem_cons_succ, List.setIfInBounds_toArray, List.set_cons_zero, List.set_cons_succ]
              refine wpAnyH_take (i := 14) (v := ?_) rfl (by kernel_rfl) (by kernel_rfl) (by kernel_rfl) (fun _ _ _ h => h) (Or.inl ⟨by rfl, ?_⟩) (by assumption) ?_
              rotate_left
              · intro w hSw; obtain ⟨x0, x1, x2, x3⟩ := hSw; go_simp; try with_reducible rfl
              try simp only [Act.put, List.getElem_toArray, List.getElem_cons_zero, List.getElem_cons_succ, List.setIfInBounds_toArray, List.set_cons_zero, List.set_cons_succ]
              refine wpAnyH_take (i := 15) (v := ?_) rfl (by kernel_rfl) (by kernel_rfl) (by kernel_rfl) (fun _ _ _ h => h) (Or.inl ⟨by rfl, ?_⟩) (by assumption) ?_
              rotate_left
              · intro w hSw; obtain ⟨x0, x1, x2, x3⟩ := hSw; go_simp; try with_reducible rfl
              try simp only [Act.put, List.getElem_toArray, List.getElem_cons_zero, List.getElem_cons_succ, List.setIfInBounds_toArray, List.set_cons_zero, List.set_cons_succ]
              refine wpAnyH_take (i := 16) (v := ?_) rfl (by kernel_rfl) (by kernel_rfl) (by kernel_rfl) (fun _ _ _ h => h) (Or.inl ⟨by rfl, ?_⟩) (by assumption) ?_
              rotate_left
              · intro w hSw; obtain ⟨x0, x1, x2, x3⟩ := hSw; go_simp; try with_reducible rfl
              try simp only [Act.put, List.getElem_toArray, List.getElem_cons_zero, List.getElem_cons_succ, List.setIfInBounds_toArray, List.set_cons_zero, List.set_cons_succ]
              refine wpAnyH_take (i := 17) (v := ?_) rfl (by kernel_rfl) (by kernel_rfl) (by kernel_rfl) (fun _ _ _ h => h) (Or.inl ⟨by rfl, ?_⟩) (by assumption) ?_
              rotate_left
              · intro w hSw; obtain ⟨x0, x1, x2, x3⟩ := hSw; go_simp; try with_reducible rfl
              try simp only [Act.put, List.getElem_toArray, List.getElem_cons_zero, List.getElem_cons_succ, List.setIfInBounds_toArray, List.set_cons_zero, List.set_cons_succ]
              refine wpAnyH_take (i := 18) (v := ?_) rfl (by kernel_rfl) (by kernel_rfl) (by kernel_rfl) (fun _ _ _ h => h) (Or.inl ⟨by rfl, ?_⟩) (by assumption) ?_
              rotate_left
              · intro w hSw; obtain ⟨x0, x1, x2, x3⟩ := hSw; go_simp; try with_reducible rfl
              try simp only [Act.put, List.getElem_toArray, List.getElem_cons_zero, List.getElem_cons_succ, List.setIfInBounds_toArray, List.set_cons_zero, List.set_cons_succ]
              refine wpAnyH_ready (rs := [10]) (by kernel_rfl) (by simp) ?_
              refine AllReadyH.cons rfl (fun K hK => ?_) AllReadyH.nil
              go_simp
              with_reducible refine Q50.out _ _ (by assumption) ?_
              intro w5 hb5
              refine hK.out _ _ (HK3.out _ hb5) (fun _ => ?_)
              clear hK K
              try simp only [Act.put, List.getElem_toArray, List.getElem_cons_zero, List.getElem_cons_succ, List.setIfInBounds_toArray, List.set_cons_zero, List.set_cons_succ]
              refine wpAnyH_ready (rs := [12]) (by kernel_rfl) (by simp) ?_
              refine AllReadyH.cons rfl (fun K hK => ?_) AllReadyH.nil
              go_simp
              with_reducible refine Q51.out _ _ (by assumption) ?_
              intro w6 hb6
              refine hK.out _ _ (HK3.out _ hb6) (fun _ => ?_)
              clear hK K
              try simp only [Act.put, List.getElem_toArray, List.getElem_cons_zero, List.getElem_cons_succ, List.setIfInBounds_toArray, List.set_cons_zero, List.set_cons_succ]
              refine wpAnyH_take (i := 13) (v := ?_) rfl (by kernel_rfl) (by kernel_rfl) (by kernel_rfl) (fun _ _ _ h => h) (Or.inl ⟨by rfl, ?_⟩) (by assumption) ?_
              rotate_left
              · intro w hSw; obtain ⟨x0, x1, x2, x3⟩ := hSw; go_simp; try with_reducible rfl
              try simp only [Act.put, List.getElem_toArray, List.getElem_cons_zero, List.getElem_cons_succ, List.setIfInBounds_toArray, List.set_cons_zero, List.set_cons_succ]
              refine wpAnyH_take (i := 19) (v := ?_) rfl (by kernel_rfl) (by kernel_rfl) (by kernel_rfl) (fun _ _ _ h => h) (Or.inl ⟨by rfl, ?_⟩) (by assumption) ?_
              rotate_left
              · intro w hSw; obtain ⟨x0, x1, x2, x3⟩ := hSw; go_simp; try with_reducible rfl
              try simp only [Act.put, List.getElem_toArray, List.getElem_cons_zero, List.getElem_cons_succ, List.setIfInBounds_toArray, List.set_cons_zero, List.set_cons_succ]
              refine wpAnyH_take (i := 20) (v := ?_) rfl (by kernel_rfl) (by kernel_rfl) (by kernel_rfl) (fun _ _ _ h => h) (Or.inl ⟨by rfl, ?_⟩) (by assumption) ?_
              rotate_left
              · intro w hSw; obtain ⟨x0, x1, x2, x3⟩ := hSw; go_simp; try with_reducible rfl
              try simp only [Act.put, List.getElem_toArray, List.getElem_cons_zero, List.getElem_cons_succ, List.setIfInBounds_toArray, List.set_cons_zero, List.set_cons_succ]
              refine wpAnyH_take (i := 21) (v := ?_) rfl (by kernel_rfl) (by kernel_rfl) (by kernel_rfl) (fun _ _ _ h => h) (Or.inl ⟨by rfl, ?_⟩) (by assumption) ?_
              rotate_left
              · intro w hSw; obtain ⟨x0, x1, x2, x3⟩ := hSw; go_simp; try with_reducible rfl
              try simp only [Act.put, List.getElem_toArray, List.getElem_cons_zero, List.getElem_cons_succ, List.setIfInBounds_toArray, List.set_cons_zero, List.set_cons_succ]
              refine wpAnyH_take (i := 22) (v := ?_) rfl (by kernel_rfl) (by kernel_rfl) (by kernel_rfl) (fun _ _ _ h => h) (Or.inl ⟨by rfl, ?_⟩) (by assumption) ?_
              rotate_left
              · intro w hSw; obtain ⟨x0, x1, x2, x3⟩ := hSw; go_simp; try with_reducible rfl
              try simp only [Act.put, List.getElem_toArray, List.getElem_cons_zero, List.getElem_cons_succ, List.setIfInBounds_toArray, List.set_cons_zero, List.set_cons_succ]
              refine wpAnyH_take (i := 23) (v := ?_) rfl (by kernel_rfl) (by kernel_rfl) (by kernel_rfl) (fun _ _ _ h => h) (Or.inl ⟨by rfl, ?_⟩) (by assumption) ?_
              rotate_left
              · intro w hSw; obtain ⟨x0, x1, x2, x3⟩ := hSw; go_simp; try with_reducible rfl
              try simp only [Act.put, List.getElem_toArray, List.getElem_cons_zero, List.getElem_cons_succ, List.setIfInBounds_toArray, List.set_cons_zero, List.set_cons_succ]
              refine wpAnyH_take (i := 24) (v := ?_) rfl (by kernel_rfl) (by kernel_rfl) (by kernel_rfl) (fun _ _ _ h => h) (Or.inl ⟨by rfl, ?_⟩) (by assumption) ?_
              rotate_left
              · intro w hSw; obtain ⟨x0, x1, x2, x3⟩ := hSw; go_simp; try with_reducible rfl
              try simp only [Act.put, List.getElem_toArray, List.getElem_cons_zero, List.getElem_cons_succ, List.setIfInBounds_toArray, List.set_cons_zero, List.set_cons_succ]
              refine wpAnyH_take (i := 25) (v := ?_) rfl (by kernel_rfl) (by kernel_rfl) (by kernel_rfl) (fun _ _ _ h => h) (Or.inl ⟨by rfl, ?_⟩) (by assumption) ?_
              rotate_left
              · intro w hSw; obtain ⟨x0, x1, x2, x3⟩ := hSw; go_simp; try with_reducible rfl
              try simp only [Act.put, List.getElem_toArray, List.getElem_cons_zero, List.getElem_cons_succ, List.setIfInBounds_toArray, List.set_cons_zero, List.set_cons_succ]
              refine wpAnyH_take (i := 26) (v := ?_) rfl (by kernel_rfl) (by kernel_rfl) (by kernel_rfl) (fun _ _ _ h => h) (Or.inl ⟨by rfl, ?_⟩) (by assumption) ?_
              rotate_left
              · intro w hSw; obtain ⟨x0, x1, x2, x3⟩ := hSw; go_simp; try with_reducible rfl
              try simp only [Act.put, List.getElem_toArray, List.getElem_cons_zero, List.getElem_cons_succ, List.setIfInBounds_toArray, List.set_cons_zero, List.set_cons_succ]
              refine wpAnyH_take (i := 27) (v := ?_) rfl (by kernel_rfl) (by kernel_rfl) (by kernel_rfl) (fun _ _ _ h => h) (Or.inl ⟨by rfl, ?_⟩) (by assumption) ?_
              rotate_left
              · intro w hSw; obtain ⟨x0, x1, x2, x3⟩ := hSw; go_simp; try with_reducible rfl
              try simp only [Act.put, List.getElem_toArray, List.getElem_cons_zero, List.getElem_cons_succ, List.setIfInBounds_toArray, List.set_cons_zero, List.set_cons_succ]
              refine wpAnyH_done (by kernel_rfl) ?_ _
              go_wp2
              go_meet
              case rel => exact ⟨rfl, hb6⟩
          · as_aux_lemma =>
              have hq2 : ((y2 : Int) == 0) = false := beq_eq_false_iff_ne.2 (by omega)
              have hv : (m1 == m2) = false := by rw [hev, beq_eq_false_iff_ne.2 hy1, beq_eq_false_iff_ne.2 hy2]; rfl
              clear hy1 hy2 hev
              refine wp_region_held_drew (S := fun W => W.cell? ⟨w1.heap.size, 0, none⟩ = some (.int .i64 s.r) ∧ W.cell? ⟨w1.heap.size, 1, none⟩ = some (.int .i64 s.c) ∧ W.cell? ⟨w1.heap.size, 2, none⟩ = some (.int .i64 s.l) ∧ W.cell? ⟨w1.heap.size, 3, none⟩ = some (.int .i64 s.w)) (by kernel_rfl) (HK3.out _ hbd) (fun hHeld => ?_)
              refine wpAnyH_take (i := 0) (v := ?_) rfl (by kernel_rfl) (by kernel_rfl) (by kernel_rfl) (fun _ _ _ h => h) (Or.inl ⟨by rfl, ?_⟩) (by assumption) ?_
              rotate_left
              · intro w hSw; obtain ⟨x0, x1, x2, x3⟩ := hSw; go_simp; try with_reducible rfl
              try simp only [Act.put, List.getElem_toArray, List.getElem_cons_zero, List.setIfInBounds_toArray, List.set_cons_zero, List.set_cons_succ]
              refine wpAnyH_take (i := 1) (v := ?_) rfl (by kernel_rfl) (by kernel_rfl) (by kernel_rfl) (fun _ _ _ h => h) (Or.inl ⟨by rfl, ?_⟩) (by assumption) ?_
              rotate_left
              · intro w hSw; obtain ⟨x0, x1, x2, x3⟩ := hSw; go_simp; try with_reducible rfl
              try simp only [Act.put, List.getElem_toArray, List.getElem_cons_zero, List.getElem_cons_succ, List.setIfInBounds_toArray, List.set_cons_zero, List.set_cons_succ]
              refine wpAnyH_take (i := 2) (v := ?_) rfl (by kernel_rfl) (by kernel_rfl) (by kernel_rfl) (fun _ _ _ h => h) (Or.inl ⟨by rfl, ?_⟩) (by assumption) ?_
              rotate_left
              · intro w hSw; obtain ⟨x0, x1, x2, x3⟩ := hSw; go_simp; try with_reducible rfl
              try simp only [Act.put, List.getElem_toArray, List.getElem_cons_zero, List.getElem_cons_succ, List.setIfInBounds_toArray, List.set_cons_zero, List.set_cons_succ]
              refine wpAnyH_take (i := 3) (v := ?_) rfl (by kernel_rfl) (by kernel_rfl) (by kernel_rfl) (fun _ _ _ h => h) (Or.inl ⟨by rfl, ?_⟩) (by assumption) ?_
              rotate_left
              · intro w hSw; obtain ⟨x0, x1, x2, x3⟩ := hSw; go_simp; try with_reducible rfl
              try simp only [Act.put, List.getElem_toArray, List.getElem_cons_zero, List.getElem_cons_succ, List.setIfInBounds_toArray, List.set_cons_zero, List.set_cons_succ]
              refine wpAnyH_take (i := 4) (v := ?_) rfl (by kernel_rfl) (by kernel_rfl) (by kernel_rfl) (fun _ _ _ h => h) (Or.inl ⟨by rfl, ?_⟩) (by assumption) ?_
              rotate_left
              · intro w hSw; obtain ⟨x0, x1, x2, x3⟩ := hSw; go_simp; try with_reducible rfl
              try simp only [Act.put, List.getElem_toArray, List.getElem_cons_zero, List.getElem_cons_succ, List.setIfInBounds_toArray, List.set_cons_zero, List.set_cons_succ]
              refine wpAnyH_ready (rs := [5]) (by kernel_rfl) (by simp) ?_
              refine AllReadyH.cons rfl (fun K hK => ?_) AllReadyH.nil
              go_simp
              with_reducible refine Q34.out _ _ (by assumption) ?_
              intro w4 hb4
              refine hK.out _ _ (HK3.out _ hb4) (fun _ => ?_)
              clear hK K
              try simp only [Act.put, List.getElem_toArray, List.getElem_cons_zero, List.getElem_cons_succ, List.setIfInBounds_toArray, List.set_cons_zero, List.set_cons_succ]
              refine wpAnyH_take (i := 6) (v := ?_) rfl (by kernel_rfl) (by kernel_rfl) (by kernel_rfl) (fun _ _ _ h => h) (Or.inl ⟨by rfl, ?_⟩) (by assumption) ?_
              rotate_left
              · intro w hSw; obtain ⟨x0, x1, x2, x3⟩ := hSw; go_simp; try with_reducible rfl
              try simp only [Act.put, List.getElem_toArray, List.getElem_cons_zero, List.getElem_cons_succ, List.setIfInBounds_toArray, List.set_cons_zero, List.set_cons_succ]
              refine wpAnyH_take (i := 7) (v := ?_) rfl (by kernel_rfl) (by kernel_rfl) (by kernel_rfl) (fun _ _ _ h => h) (Or.inl ⟨by rfl, ?_⟩) (by assumption) ?_
              rotate_left
              · intro w hSw; obtain ⟨x0, x1, x2, x3⟩ := hSw; go_simp; try with_reducible rfl
              try simp only [Act.put, List.getElem_toArray, List.getElem_cons_zero, List.getElem_cons_succ, List.setIfInBounds_toArray, List.set_cons_zero, List.set_cons_succ]
              refine wpAnyH_take (i := 8) (v := ?_) rfl (by kernel_rfl) (by kernel_rfl) (by kernel_rfl) (fun _ _ _ h => h) (Or.inl ⟨by rfl, ?_⟩) (by assumption) ?_
              rotate_left
              · intro w hSw; obtain ⟨x0, x1, x2, x3⟩ := hSw; go_simp; try with_reducible rfl
              try simp only [Act.put, List.getElem_toArray, List.getElem_cons_zero, List.getElem_cons_succ, List.setIfInBounds_toArray, List.set_cons_zero, List.set_cons_succ]
              refine wpAnyH_take (i := 9) (v := ?_) rfl (by kernel_rfl) (by kernel_rfl) (by kernel_rfl) (fun _ _ _ h => h) (Or.inl ⟨by rfl, ?_⟩) (by assumption) ?_
              rotate_left
              · intro w hSw; obtain ⟨x0, x1, x2, x3⟩ := hSw; go_simp; try with_reducible rfl
              try simp only [Act.put, List.getElem_toArray, List.getElem_cons_zero, List.getElem_cons_succ, List.setIfInBounds_toArray, List.set_cons_zero, List.set_cons_succ]
              refine wpAnyH_take (i := 11) (v := ?_) rfl (by kernel_rfl) (by kernel_rfl) (by kernel_rfl) (fun _ _ _ h => h) (Or.inl ⟨by rfl, ?_⟩) (by assumption) ?_
              rotate_left
              · intro w hSw; obtain ⟨x0, x1, x2, x3⟩ := hSw; go_simp; try with_reducible rfl
              try simp only [Act.put, List.getElem_toArray, List.getElem_cons_zero, List.getElem_cons_succ, List.setIfInBounds_toArray, List.set_cons_zero, List.set_cons_succ]
              refine wpAnyH_take (i := 14) (v := ?_) rfl (by kernel_rfl) (by kernel_rfl) (by kernel_rfl) (fun _ _ _ h => h) (Or.inl ⟨by rfl, ?_⟩) (by assumption) ?_
              rotate_left
              · intro w hSw; obtain ⟨x0, x1, x2, x3⟩ := hSw; go_simp; try with_reducible rfl
              try simp only [Act.put, List.getElem_toArray, List.getElem_cons_zero, List.getElem_cons_succ, List.setIfInBounds_toArray, List.set_cons_zero, List.set_cons_succ]
              refine wpAnyH_take (i := 15) (v := ?_) rfl (by kernel_rfl) (by kernel_rfl) (by kernel_rfl) (fun _ _ _ h => h) (Or.inl ⟨by rfl, ?_⟩) (by assumption) ?_
              rotate_left
              · intro w hSw; obtain ⟨x0, x1, x2, x3⟩ := hSw; go_simp; try with_reducible rfl
              try simp only [Act.put, List.getElem_toArray, List.getElem_cons_zero, List.getElem_cons_succ, List.setIfInBounds_toArray, List.set_cons_zero, List.set_cons_succ]
              refine wpAnyH_take (i := 16) (v := ?_) rfl (by kernel_rfl) (by kernel_rfl) (by kernel_rfl) (fun _ _ _ h => h) (Or.inl ⟨by rfl, ?_⟩) (by assumption) ?_
              rotate_left
              · intro w hSw; obtain ⟨x0, x1, x2, x3⟩ := hSw; go_simp; try with_reducible rfl
              try simp only [Act.put, List.getElem_toArray, List.getElem_cons_zero, List.getElem_cons_succ, List.setIfInBounds_toArray, List.set_cons_zero, List.set_cons_succ]
              refine wpAnyH_take (i := 17) (v := ?_) rfl (by kernel_rfl) (by kernel_rfl) (by kernel_rfl) (fun _ _ _ h => h) (Or.inl ⟨by rfl, ?_⟩) (by assumption) ?_
              rotate_left
              · intro w hSw; obtain ⟨x0, x1, x2, x3⟩ := hSw; go_simp; try with_reducible rfl
              try simp only [Act.put, List.getElem_toArray, List.getElem_cons_zero, List.getElem_cons_succ, List.setIfInBounds_toArray, List.set_cons_zero, List.set_cons_succ]
              refine wpAnyH_take (i := 18) (v := ?_) rfl (by kernel_rfl) (by kernel_rfl) (by kernel_rfl) (fun _ _ _ h => h) (Or.inl ⟨by rfl, ?_⟩) (by assumption) ?_
              rotate_left
              · intro w hSw; obtain ⟨x0, x1, x2, x3⟩ := hSw; go_simp; try with_reducible rfl
              try simp only [Act.put, List.getElem_toArray, List.getElem_cons_zero, List.getElem_cons_succ, List.setIfInBounds_toArray, List.set_cons_zero, List.set_cons_succ]
              refine wpAnyH_ready (rs := [10]) (by kernel_rfl) (by simp) ?_
              refine AllReadyH.cons rfl (fun K hK => ?_) AllReadyH.nil
              go_simp
              with_reducible refine Q50.out _ _ (by assumption) ?_
              intro w5 hb5
              refine hK.out _ _ (HK3.out _ hb5) (fun _ => ?_)
              clear hK K
              try simp only [Act.put, List.getElem_toArray, List.getElem_cons_zero, List.getElem_cons_succ, List.setIfInBounds_toArray, List.set_cons_zero, List.set_cons_succ]
              refine wpAnyH_ready (rs := [12]) (by kernel_rfl) (by simp) ?_
              refine AllReadyH.cons rfl (fun K hK => ?_) AllReadyH.nil
              go_simp
              with_reducible refine Q51.out _ _ (by assumption) ?_
              intro w6 hb6
              refine hK.out _ _ (HK3.out _ hb6) (fun _ => ?_)
              clear hK K
              try simp only [Act.put, List.getElem_toArray, List.getElem_cons_zero, List.getElem_cons_succ, List.setIfInBounds_toArray, List.set_cons_zero, List.set_cons_succ]
              refine wpAnyH_take (i := 13) (v := ?_) rfl (by kernel_rfl) (by kernel_rfl) (by kernel_rfl) (fun _ _ _ h => h) (Or.inl ⟨by rfl, ?_⟩) (by assumption) ?_
              rotate_left
              · intro w hSw; obtain ⟨x0, x1, x2, x3⟩ := hSw; go_simp; try with_reducible rfl
              try simp only [Act.put, List.getElem_toArray, List.getElem_cons_zero, List.getElem_cons_succ, List.setIfInBounds_toArray, List.set_cons_zero, List.set_cons_succ]
              refine wpAnyH_take (i := 19) (v := ?_) rfl (by kernel_rfl) (by kernel_rfl) (by kernel_rfl) (fun _ _ _ h => h) (Or.inl ⟨by rfl, ?_⟩) (by assumption) ?_
              rotate_left
              · intro w hSw; obtain ⟨x0, x1, x2, x3⟩ := hSw; go_simp; try with_reducible rfl
              try simp only [Act.put, List.getElem_toArray, List.getElem_cons_zero, List.getElem_cons_succ, List.setIfInBounds_toArray, List.set_cons_zero, List.set_cons_succ]
              refine wpAnyH_take (i := 20) (v := ?_) rfl (by kernel_rfl) (by kernel_rfl) (by kernel_rfl) (fun _ _ _ h => h) (Or.inl ⟨by rfl, ?_⟩) (by assumption) ?_
              rotate_left
              · intro w hSw; obtain ⟨x0, x1, x2, x3⟩ := hSw; go_simp; try with_reducible rfl
              try simp only [Act.put, List.getElem_toArray, List.getElem_cons_zero, List.getElem_cons_succ, List.setIfInBounds_toArray, List.set_cons_zero, List.set_cons_succ]
              refine wpAnyH_take (i := 21) (v := ?_) rfl (by kernel_rfl) (by kernel_rfl) (by kernel_rfl) (fun _ _ _ h => h) (Or.inl ⟨by rfl, ?_⟩) (by assumption) ?_
              rotate_left
              · intro w hSw; obtain ⟨x0, x1, x2, x3⟩ := hSw; go_simp; try with_reducible rfl
              try simp only [Act.put, List.getElem_toArray, List.getElem_cons_zero, List.getElem_cons_succ, List.setIfInBounds_toArray, List.set_cons_zero, List.set_cons_succ]
              refine wpAnyH_take (i := 22) (v := ?_) rfl (by kernel_rfl) (by kernel_rfl) (by kernel_rfl) (fun _ _ _ h => h) (Or.inl ⟨by rfl, ?_⟩) (by assumption) ?_
              rotate_left
              · intro w hSw; obtain ⟨x0, x1, x2, x3⟩ := hSw; go_simp; try with_reducible rfl
              try simp only [Act.put, List.getElem_toArray, List.getElem_cons_zero, List.getElem_cons_succ, List.setIfInBounds_toArray, List.set_cons_zero, List.set_cons_succ]
              refine wpAnyH_take (i := 23) (v := ?_) rfl (by kernel_rfl) (by kernel_rfl) (by kernel_rfl) (fun _ _ _ h => h) (Or.inl ⟨by rfl, ?_⟩) (by assumption) ?_
              rotate_left
              · intro w hSw; obtain ⟨x0, x1, x2, x3⟩ := hSw; go_simp; try with_reducible rfl
              try simp only [Act.put, List.getElem_toArray, List.getElem_cons_zero, List.getElem_cons_succ, List.setIfInBounds_toArray, List.set_cons_zero, List.set_cons_succ]
              refine wpAnyH_take (i := 24) (v := ?_) rfl (by kernel_rfl) (by kernel_rfl) (by kernel_rfl) (fun _ _ _ h => h) (Or.inl ⟨by rfl, ?_⟩) (by assumption) ?_
              rotate_left
              · intro w hSw; obtain ⟨x0, x1, x2, x3⟩ := hSw; go_simp; try with_reducible rfl
              try simp only [Act.put, List.getElem_toArray, List.getElem_cons_zero, List.getElem_cons_succ, List.setIfInBounds_toArray, List.set_cons_zero, List.set_cons_succ]
              refine wpAnyH_take (i := 25) (v := ?_) rfl (by kernel_rfl) (by kernel_rfl) (by kernel_rfl) (fun _ _ _ h => h) (Or.inl ⟨by rfl, ?_⟩) (by assumption) ?_
              rotate_left
              · intro w hSw; obtain ⟨x0, x1, x2, x3⟩ := hSw; go_simp; try with_reducible rfl
              try simp only [Act.put, List.getElem_toArray, List.getElem_cons_zero, List.getElem_cons_succ, List.setIfInBounds_toArray, List.set_cons_zero, List.set_cons_succ]
              refine wpAnyH_take (i := 26) (v := ?_) rfl (by kernel_rfl) (by kernel_rfl) (by kernel_rfl) (fun _ _ _ h => h) (Or.inl ⟨by rfl, ?_⟩) (by assumption) ?_
              rotate_left
              · intro w hSw; obtain ⟨x0, x1, x2, x3⟩ := hSw; go_simp; try with_reducible rfl
              try simp only [Act.put, List.getElem_toArray, List.getElem_cons_zero, List.getElem_cons_succ, List.setIfInBounds_toArray, List.set_cons_zero, List.set_cons_succ]
              refine wpAnyH_take (i := 27) (v := ?_) rfl (by kernel_rfl) (by kernel_rfl) (by kernel_rfl) (fun _ _ _ h => h) (Or.inl ⟨by rfl, ?_⟩) (by assumption) ?_
              rotate_left
              · intro w hSw; obtain ⟨x0, x1, x2, x3⟩ := hSw; go_simp; try with_reducible rfl
              try simp only [Act.put, List.getElem_toArray, List.getElem_cons_zero, List.getElem_cons_succ, List.setIfInBounds_toArray, List.set_cons_zero, List.set_cons_succ]
              refine wpAnyH_done (by kernel_rfl) ?_ _
              go_wp2
              go_meet
              case rel => exact ⟨rfl, hb6⟩
      case rest =>
        obtain ⟨rfl, hbc⟩ := hcut
        have hbk := HK3.out _ hbc
        obtain ⟨t0, t1, t2, t3⟩ := hbk
        have HBC := Lib.hid (HB3.out.trans (hbc.mono HB3.out.size))
        clear HK3 Q34 Q50 Q51 HA3 HA4 HA HEV HCL HCN h39 hk0 hknz hn6 hnI
        have hz1c : w1.heap.size < wc.heap.size := by have := HBC.out.size; have := HZR.out; omega
        go_wp2
        obtain ⟨W5, hW5⟩ : ∃ W5, W5 = wc.alloc (.cells #[.int .i64 s.l, .int .i64 s.w] 3) := ⟨_, rfl⟩
        have hb5 : Below wc.heap.size wc W5 := hW5 ▸ below_new wc _
        have hz5 : W5.heap.size = wc.heap.size + 1 := by rw [hW5]; simp
        have l0 : W5.cell? ⟨wc.heap.size, 0, none⟩ = some (.int .i64 s.l) := by rw [hW5]; simp [go_sem]
        have l1 : W5.cell? ⟨wc.heap.size, 1, none⟩ = some (.int .i64 s.w) := by rw [hW5]; simp [go_sem]
        have HL := Lib.hid (fun (W : World) (h : Below W5.heap.size W5 W) => show (W.cell? ⟨w1.heap.size, 0, none⟩ = some (.int .i64 s.r) ∧ W.cell? ⟨w1.heap.size, 1, none⟩ = some (.int .i64 s.c) ∧ W.cell? ⟨w1.heap.size, 2, none⟩ = some (.int .i64 s.l) ∧ W.cell? ⟨w1.heap.size, 3, none⟩ = some (.int .i64 s.w)) ∧ W.cell? ⟨wc.heap.size, 0, none⟩ = some (.int .i64 s.l) ∧ W.cell? ⟨wc.heap.size, 1, none⟩ = some (.int .i64 s.w) from
          ⟨HKR.out W (HBC.out.trans ((hb5.trans (h.mono (by omega))).mono HBC.out.size)), (h.cell (p := ⟨wc.heap.size, 0, none⟩) (by simp; omega)).trans l0, (h.cell (p := ⟨wc.heap.size, 1, none⟩) (by simp; omega)).trans l1⟩)
        rw [← hW5]
        have HB5 := Lib.hid hb5
        have hl1 := hs.l1
        have hl6 := hs.l6
        have hw1' := hs.w1
        have hw6 := hs.w6
        have HZ5 := Lib.hid hz5
        clear hW5 l0 l1 hb5 t0 t1 t2 t3 hbc hz5
        go_loopw [95] (fun i wr => ∃ j : Nat, j ≤ 2 ∧ i = .int .i64 j ∧ Below W5.heap.size W5 wr) (fun i _ => 2 - (intOf i).toNat)
        case atStart => exact ⟨0, by omega, rfl, Below.refl _ _⟩
        case round =>
          obtain ⟨j, hj, rfl, hbj⟩ := hrel
          obtain ⟨⟨r0, r1, r2, r3⟩, l0, l1⟩ := HL.out _ hbj
          by_cases hj2 : j < 2
          · as_aux_lemma =>
              obtain ⟨by', hby, hE, hlj⟩ : ∃ by' : Nat, (1 ≤ by' ∧ by' ≤ 6) ∧ (∀ at' : Nat, at' < 12 → minI (cdA by' at' s.w s.l) = maxI (cdA by' at' s.w s.l)) ∧ wr.cell? ⟨wc.heap.size, j, none⟩ = some (.int .i64 by') := by
                have hj01 : j = 0 ∨ j = 1 := by omega
                rcases hj01 with rfl | rfl
                · exact ⟨s.l, ⟨hl1, hl6⟩, fun at' h => (card_even ⟨hl1, hl6⟩ ⟨hw1', hw6⟩ h).1, l0⟩
                · exact ⟨s.w, ⟨hw1', hw6⟩, fun at' h => (card_even ⟨hl1, hl6⟩ ⟨hw1', hw6⟩ h).2, l1⟩
              have HE := Lib.hid hE
              obtain ⟨hby1, hby6⟩ := hby
              have hb0 : ((by' : Int) == 0) = false := beq_eq_false_iff_ne.2 (by omega)
              have hbnz : ¬ by' = 0 := by omega
              have hj2' : (j : Int) < 2 := by omega
              have hj0 : (0 : Int) ≤ (j : Int) := by omega
              obtain ⟨wo, rfl⟩ : ∃ wo : World, wo = wr := ⟨_, rfl⟩
              clear hE l0 l1
              go_wp2
              go_loopw [99] (fun i wr => ∃ a : Nat, a ≤ 12 ∧ i = .int .i64 a ∧ Below W5.heap.size W5 wr) (fun i _ => 12 - (intOf i).toNat)
              case atStart => exact ⟨0, by omega, rfl, hbj⟩
              case round =>
                obtain ⟨g, hg, rfl, hbg⟩ := hrel
                by_cases hg12 : g < 12
                · obtain ⟨w6, hmk, hown0, hg0⟩ := HMK.out wr by' hby6
                  have hz6 : wr.heap.size ≤ w6.heap.size := (Chg.of_grown hg0).size
                  have hzg := hbg.size
                  have hb6 : Below wr.heap.size wr w6 := (Below.refl _ _).grown hg0 (Nat.le_refl _) (by simp)
                  obtain ⟨⟨r0, r1, r2, r3⟩, _⟩ := HL.out _ (hbg.trans (hb6.mono hzg))
                  rw [HREP.out] at hown0
                  have H0 := Lib.hid (show w6.ownsRow wr.heap.size 3 1 (.slice (some ⟨wr.heap.size, 0, none⟩) by' by') by' ((cdA by' g s.w 0).map (Value.int .i64)) from hown0)
                  have HB6 := Lib.hid hb6
                  have hzw : w1.heap.size < wr.heap.size := by have := HZ5.out; omega
                  clear hown0 hg0 hb6
                  go_wp2
                  clear hmk
                  obtain ⟨Wg, rfl⟩ : ∃ Wg : World, Wg = wr := ⟨_, rfl⟩
                  go_loopw [106] (fun i wr => ∃ a : Nat, a ≤ s.l ∧ i = .int .i64 a ∧ wr.ownsRow Wg.heap.size 3 1 (.slice (some ⟨Wg.heap.size, 0, none⟩) by' by') by' ((cdA by' g s.w a).map (Value.int .i64)) ∧ Below Wg.heap.size w6 wr) (fun i _ => s.l - (intOf i).toNat)
                  case atStart => exact ⟨0, by omega, rfl, H0.out, Below.refl _ _⟩
                  case round =>
                    obtain ⟨a2, ha2, rfl, hown, hbr2⟩ := hrel
                    have hbt := hbg.trans ((HB6.out.trans hbr2).mono hzg)
                    obtain ⟨⟨r0, r1, r2, r3⟩, _⟩ := HL.out _ hbt
                    by_cases hlt : a2 < s.l
                    · obtain ⟨wo2, rfl⟩ : ∃ wo : World, wo = wr := ⟨_, rfl⟩
                      have HO := Lib.hid hown
                      clear hown
                      go_wp2
                      go_loopw [111] (fun i wx => ∃ b : Nat, b ≤ s.w ∧ i = .int .i64 b ∧ wx.ownsRow Wg.heap.size 3 1 (.slice (some ⟨Wg.heap.size, 0, none⟩) by' by') by' ((cdR by' (g + a2) b (cdA by' g s.w a2)).map (Value.int .i64)) ∧ Below Wg.heap.size w6 wx) (fun i _ => s.w - (intOf i).toNat)
                      case atStart => exact ⟨0, by omega, rfl, HO.out, hbr2⟩
                      case round =>
                        obtain ⟨b, hb, rfl, hown, hbx⟩ := hrel
                        obtain ⟨⟨t0, t1, t2, t3⟩, _⟩ := HL.out _ (hbg.trans ((HB6.out.trans hbx).mono hzg))
                        by_cases hlt2 : b < s.w
                        · have hmod : ((g : Int) + (a2 : Int) + (b : Int)).tmod (by' : Int) = (((g + a2 + b) % by' : Nat) : Int) := by
                            rw [show ((g : Int) + (a2 : Int) + (b : Int)) = ((g + a2 + b : Nat) : Int) by omega]; rfl
                          have hjk : (g + a2 + b) % by' < by' := Nat.mod_lt _ (by omega)
                          have hbin := (cdA_in by' g s.w a2).colR (by omega) by' (g + a2) b
                          have hac : a2 * s.w ≤ 36 := by have := Nat.mul_le_mul (show a2 ≤ 6 by omega) hw6; omega
                          have hln : (cdR by' (g + a2) b (cdA by' g s.w a2)).length = by' := by rw [cdR_eq, colR_len, cdA_len]
                          rw [← cdR_eq] at hbin
                          have hnx : cdR by' (g + a2) (b + 1) (cdA by' g s.w a2) = bump (cdR by' (g + a2) b (cdA by' g s.w a2)) ((g + a2 + b) % by') := rfl
                          have HNX := Lib.hid hnx
                          have HOW := Lib.hid hown
                          generalize cdR by' (g + a2) b (cdA by' g s.w a2) = L at *
                          have hw1 : IntKind.i64.wrap ((g : Int) + (a2 : Int)) = (g : Int) + (a2 : Int) := IntWalk.i64_in _ (by omega)
                          have hw2 : IntKind.i64.wrap ((g : Int) + (a2 : Int) + (b : Int)) = (g : Int) + (a2 : Int) + (b : Int) := IntWalk.i64_in _ (by omega)
                          generalize (g + a2 + b) % by' = j2 at *
                          have hLj : L[j2]? = some (L[j2]'(by omega)) := List.getElem?_eq_getElem (by omega)
                          generalize hy : L[j2]'(by omega) = y at hLj
                          have hyin := hbin y (List.mem_of_getElem? hLj)
                          have hcell := (hown.cellAt j2 (by omega)).trans (show (L.map (Value.int .i64))[j2]? = some (.int .i64 y) by rw [List.getElem?_map, hLj]; rfl)
                          have hfz := hown.frozenAt j2
                          have hst := hown.stored j2 (.int .i64 (y + 1))
                          have HST := Lib.hid hst
                          have HY := Lib.hid (show (L.map (Value.int .i64)).set j2 (.int .i64 (y + 1)) = (bump L j2).map (Value.int .i64) by
                            rw [← List.map_set, bump, List.getD_eq_getElem?_getD, hLj]; rfl)
                          clear hst hown hbin hLj hy hnx
                          go_wp2
                          go_roundw
                          case rel =>
                            refine ⟨b + 1, by omega, by go_num, ?_, ?_⟩
                            · rw [HNX.out, ← HY.out]; exact HST.out.1
                            · exact hbx.setCell (p := ⟨Wg.heap.size, j2, none⟩) (by simp) _
                          case measure => simp [intOf]; omega
                        · have e : b = s.w := by omega
                          have HF := Lib.hid (show (cdR by' (g + a2) b (cdA by' g s.w a2)).map (Value.int .i64) = (cdA by' g s.w (a2 + 1)).map (Value.int .i64) by rw [e]; rfl)
                          have HOW := Lib.hid hown
                          clear hown e
                          go_wp2
                          go_roundw
                          case rel => exact ⟨a2 + 1, by omega, by go_num, by rw [← HF.out]; exact HOW.out, hbx⟩
                          case measure => simp [intOf]; omega
                    · have e : a2 = s.l := by omega
                      rw [e] at hown
                      obtain ⟨A7, c7, he, hA7, hnn⟩ := own_ints hown
                      have hcl := cdA_len by' g s.w s.l
                      rw [hcl] at he hnn
                      injection he with e1 e2 e3
                      subst e1 e3
                      have heq := HE.out g hg12
                      have H50 := Lib.hid (min_any (some ⟨Wg.heap.size, 0, none⟩) by' (cdA by' g s.w s.l) wr hA7 (by omega) (by omega))
                      have H51 := Lib.hid (fun W (h : Below wr.heap.size wr W) => max_any (some ⟨Wg.heap.size, 0, none⟩) by' (cdA by' g s.w s.l) W (hA7.up h) (by omega) (by omega))
                      rw [hcl, heq] at H50
                      rw [hcl] at H51
                      generalize maxI (cdA by' g s.w s.l) = mm at *
                      have HBT := Lib.hid hbt
                      clear hown hA7 hnn e2 e hcl heq
                      go_wp2_with (first
                        | (go_at_call 50; (with_reducible refine H50.out.mono ?_); rintro e w8 ⟨rfl, hb8⟩)
                        | (go_at_call 51; (with_reducible refine (H51.out _ hb8).mono ?_); rintro e w9 ⟨rfl, hb9⟩))
                      go_roundw
                      case rel => exact ⟨g + 1, by omega, by go_num, HBT.out.trans ((hb8.trans (hb9.mono hb8.size)).mono HBT.out.size)⟩
                      case measure => simp [intOf]; omega
                · go_wp2
                  go_roundw
                  case rel => exact ⟨j + 1, by omega, by go_num, hbg⟩
                  case measure => simp [intOf]; omega
          · have HBJ := Lib.hid (HBC.out.trans ((HB5.out.trans (hbj.mono (by have := HZ5.out; omega))).mono HBC.out.size))
            clear l0 l1
            have HALL := Lib.hid ((HB.out.trans (HBR.out.mono HZ.out)).trans (HBJ.out.mono (by have := HZ.out; have := HZR.out; omega)))
            have hcw := can_want hs
            have hch := chkS_ok hs
            have e0 : agaF s.r s.c s.l s.w = if canS s.r s.c s.l s.w = true then (0, 0, 13) else if madeN s.r s.l s.w = false then (1, (s.r : Int), 0) else if madeN s.c s.l s.w = false then (1, (s.c : Int), 0) else if minI (colA s.l s.c s.r) = maxI (colA s.l s.c s.r) then (2, (s.w : Int), 0) else (2, (s.l : Int), 0) := by
              unfold agaF
              rw [if_pos hch]
              rfl
            have H41 := fun W h => against_any s.r s.c s.l s.w W h
            have H15 := fun W h => can_any s.r s.c s.l s.w W h
            have H48 := Lib.hid (fun (side : Nat) (h : 1 ≤ side ∧ side ≤ 6) W => lmade_any side s.l s.w W hl1 hl6 hw1' hw6 h.2)
            have HTW := Lib.hid (fun W (h : Below wr.heap.size wr W) => (HT.out.below HALL.out).below h)
            have HLR := Lib.hid (fun W (h : Below wr.heap.size wr W) => (HL.out W (hbj.trans (h.mono hbj.size))).1)
            have hjj : ¬ (j : Int) < 2 := by omega
            rw [hch] at H15
            have hsr : 1 ≤ s.r ∧ s.r ≤ 6 := ⟨hs.r1, hs.r6⟩
            have hsc : 1 ≤ s.c ∧ s.c ≤ 6 := ⟨hs.c1, hs.c6⟩
            by_cases hcan : canS s.r s.c s.l s.w = true
            · as_aux_lemma =>
                rw [if_pos hcan] at e0
                rw [e0] at H41
                rw [hcan] at H15
                have H41 := Lib.hid H41
                have H15 := Lib.hid H15
                clear hcan e0 hcw hch hj2 hj
                go_wp2_with (first
                  | (go_at_call 41; (with_reducible refine (H41.out _ (HTW.out _ (Below.refl _ _))).mono ?_); rintro e w8 ⟨rfl, hb8⟩; obtain ⟨t0, t1, t2, t3⟩ := HLR.out _ hb8)
                  | (go_at_call 15; (with_reducible refine (H15.out _ (HTW.out _ hb8)).mono ?_); rintro e w9 ⟨rfl, hb9⟩; have hb9' := hb8.trans (hb9.mono hb8.size))
                  | (go_at_call 22; (with_reducible refine (works_any _ (HTW.out _ hb9')).mono ?_); rintro e w10 ⟨rfl, hb10⟩; have hb10' := hb9'.trans (hb10.mono hb9'.size)))
                go_ret
                exact ⟨rfl, HALL.out.trans (hb10'.mono HALL.out.size)⟩
            · rw [if_neg hcan] at e0
              have hcf : canS s.r s.c s.l s.w = false := Bool.eq_false_iff.2 hcan
              rw [hcf] at H15
              rw [hcf] at hcw
              have H15 := Lib.hid H15
              clear hcan hcf hj2 hj
              have HR48 := H48.out s.r hsr
              have HC48 := H48.out s.c hsc
              clear H48
              rcases hm1 : madeN s.r s.l s.w with _ | _
              · as_aux_lemma =>
                  rw [if_pos hm1] at e0
                  rw [e0] at H41
                  rw [hm1] at HR48
                  have H41 := Lib.hid H41
                  have HR48 := Lib.hid HR48
                  clear hm1 e0 hcw hch HC48
                  go_wp2_with (first
                    | (go_at_call 41; (with_reducible refine (H41.out _ (HTW.out _ (Below.refl _ _))).mono ?_); rintro e w8 ⟨rfl, hb8⟩; obtain ⟨t0, t1, t2, t3⟩ := HLR.out _ hb8)
                    | (go_at_call 15; (with_reducible refine (H15.out _ (HTW.out _ hb8)).mono ?_); rintro e w9 ⟨rfl, hb9⟩; have hb9' := hb8.trans (hb9.mono hb8.size); obtain ⟨u0, u1, u2, u3⟩ := HLR.out _ hb9')
                    | (go_at_call 48; (with_reducible refine (HR48.out _).mono ?_); rintro e w11 ⟨rfl, rfl⟩)
                    | (go_at_call 22; (with_reducible refine (works_any _ (HTW.out _ hb9')).mono ?_); rintro e w10 ⟨rfl, hb10⟩; have hb10' := hb9'.trans (hb10.mono hb9'.size)))
                  go_ret
                  exact ⟨rfl, HALL.out.trans (hb10'.mono HALL.out.size)⟩
              · rw [if_neg (by rw [hm1]; decide)] at e0
                rw [hm1] at HR48
                rcases hm2 : madeN s.c s.l s.w with _ | _
                · as_aux_lemma =>
                    rw [if_pos hm2] at e0
                    rw [e0] at H41
                    rw [hm2] at HC48
                    have hrc : ((s.c : Int) == (s.r : Int)) = false := by
                      rw [beq_eq_false_iff_ne]
                      intro h
                      have h : s.c = s.r := by omega
                      rw [h, hm1] at hm2
                      cases hm2
                    have H41 := Lib.hid H41
                    have HR48 := Lib.hid HR48
                    have HC48 := Lib.hid HC48
                    clear hm1 hm2 e0 hcw hch
                    go_wp2_with (first
                      | (go_at_call 41; (with_reducible refine (H41.out _ (HTW.out _ (Below.refl _ _))).mono ?_); rintro e w8 ⟨rfl, hb8⟩; obtain ⟨t0, t1, t2, t3⟩ := HLR.out _ hb8)
                      | (go_at_call 15; (with_reducible refine (H15.out _ (HTW.out _ hb8)).mono ?_); rintro e w9 ⟨rfl, hb9⟩; have hb9' := hb8.trans (hb9.mono hb8.size); obtain ⟨u0, u1, u2, u3⟩ := HLR.out _ hb9')
                      | (go_at_call 48; (with_reducible refine (HR48.out _).mono ?_); rintro e w11 ⟨rfl, rfl⟩)
                      | (go_at_call 48; (with_reducible refine (HC48.out _).mono ?_); rintro e w11 ⟨rfl, rfl⟩)
                      | (go_at_call 22; (with_reducible refine (works_any _ (HTW.out _ hb9')).mono ?_); rintro e w10 ⟨rfl, hb10⟩; have hb10' := hb9'.trans (hb10.mono hb9'.size)))
                    go_ret
                    exact ⟨rfl, HALL.out.trans (hb10'.mono HALL.out.size)⟩
                · rw [if_neg (by rw [hm2]; decide)] at e0
                  rw [hm2] at HC48
                  have HR48 := Lib.hid HR48
                  have HC48 := Lib.hid HC48
                  have hw0 : (divS' s.r s.c s.l && divS' s.r s.c s.w) = false := by
                    have h := hcw
                    unfold wantB at h
                    rw [hm1, hm2] at h
                    simpa using h.symm
                  have hel := even_div hsr hsc ⟨hl1, hl6⟩
                  have hew := even_div hsr hsc ⟨hw1', hw6⟩
                  clear hm1 hm2 hcw hch
                  have hl0 : ((s.l : Int) == 0) = false := beq_eq_false_iff_ne.2 (by omega)
                  have hlnz : ¬ s.l = 0 := by omega
                  have hmr : (s.r : Int).tmod (s.l : Int) = ((s.r % s.l : Nat) : Int) := rfl
                  have hmc : (s.c : Int).tmod (s.l : Int) = ((s.c % s.l : Nat) : Int) := rfl
                  by_cases hev : minI (colA s.l s.c s.r) = maxI (colA s.l s.c s.r)
                  · rw [if_pos hev] at e0
                    rw [e0] at H41
                    rw [beq_iff_eq.2 hev] at hel
                    rw [← hel, Bool.true_and] at hw0
                    rw [hw0, beq_eq_false_iff_ne] at hew
                    have hun := hew
                    have hwl : ¬ s.w = s.l := fun h => by rw [h, ← hel] at hw0; cases hw0
                    have hne : ((s.w : Int) != (s.l : Int)) = true := by rw [bne_iff_ne]; omega
                    have hne2 : ((s.w : Int) == (s.l : Int)) = false := beq_eq_false_iff_ne.2 (by omega)
                    have H41 := Lib.hid H41
                    unfold divS' at hel
                    clear e0 hev hw0 hew hwl
                    have H39 := Lib.hid (show ∀ W, Calls Tryd.prog 39 #[.agg #[.int .i64 s.r, .int .i64 s.c, .int .i64 s.l, .int .i64 s.w], .int .i64 s.w] W (fun e w' => ∃ A c, e = .returned (.tuple #[.slice A s.w c, .int .i64 0]) ∧ IntsAt w' w'.heap.size A (colA s.w s.c s.r) ∧ Below W.heap.size W w') from fun W => by
                      have h := coloursF_any s.r s.c s.l s.w s.w W
                      have hc : chkS s.r s.c s.l s.w = 0 ∧ (1 : Int) ≤ s.w ∧ (s.w : Int) ≤ 6 := ⟨chkS_ok hs, by omega, by omega⟩
                      unfold colF colE RetIntsE at h
                      rw [if_pos hc, if_pos hc, colA_len] at h
                      exact h)
                    have hcl := colA_len s.w s.c s.r
                    have H50 := Lib.hid (fun A c W (hA : IntsAt W W.heap.size A (colA s.w s.c s.r)) => hcl ▸ min_any A c (colA s.w s.c s.r) W hA (by omega) (by omega))
                    have H51 := Lib.hid (fun A c W (hA : IntsAt W W.heap.size A (colA s.w s.c s.r)) => hcl ▸ max_any A c (colA s.w s.c s.r) W hA (by omega) (by omega))
                    have hlt := min_lt_max (L := colA s.w s.c s.r) (by omega) hun
                    generalize colA s.w s.c s.r = C at *
                    generalize minI C = m1 at *
                    generalize maxI C = m2 at *
                    clear hun hcl
                    generalize s.r % s.l = y1 at *
                    generalize s.c % s.l = y2 at *
                    by_cases hy1 : y1 = 0
                    · as_aux_lemma =>
                        have hq1 : ((y1 : Int) == 0) = true := beq_iff_eq.2 (by omega)
                        clear hy1 hel
                        go_wp2_with (first
                          | (go_at_call 41; (with_reducible refine (H41.out _ (HTW.out _ (Below.refl _ _))).mono ?_); rintro e w8 ⟨rfl, hb8⟩; obtain ⟨t0, t1, t2, t3⟩ := HLR.out _ hb8)
                          | (go_at_call 15; (with_reducible refine (H15.out _ (HTW.out _ hb8)).mono ?_); rintro e w9 ⟨rfl, hb9⟩; have hb9' := hb8.trans (hb9.mono hb8.size); obtain ⟨u0, u1, u2, u3⟩ := HLR.out _ hb9')
                          | (go_at_call 48; (with_reducible refine (HR48.out _).mono ?_); rintro e w11 ⟨rfl, rfl⟩)
                          | (go_at_call 48; (with_reducible refine (HC48.out _).mono ?_); rintro e w11 ⟨rfl, rfl⟩)
                          | (go_at_call 39; (with_reducible refine (H39.out _).mono ?_); rintro e w12 ⟨A12, c12, rfl, hA12, hb12⟩; have hb12' := hb9'.trans (hb12.mono hb9'.size); obtain ⟨v0, v1, v2, v3⟩ := HLR.out _ hb12')
                          | (go_at_call 50; (with_reducible refine (H50.out _ _ _ hA12).mono ?_); rintro e w13 ⟨rfl, hb13⟩; have hb13' := hb12'.trans (hb13.mono hb12'.size); have hA13 := hA12.up hb13)
                          | (go_at_call 51; (with_reducible refine (H51.out _ _ _ hA13).mono ?_); rintro e w14 ⟨rfl, hb14⟩; have hb14' := hb13'.trans (hb14.mono hb13'.size); obtain ⟨x0, x1, x2, x3⟩ := HLR.out _ hb14')
                          | (go_at_call 22; (with_reducible refine (works_any _ (HTW.out _ hb14')).mono ?_); rintro e w10 ⟨rfl, hb10⟩; have hb10' := hb14'.trans (hb10.mono hb14'.size)))
                        go_ret
                        exact ⟨rfl, HALL.out.trans (hb10'.mono HALL.out.size)⟩
                    · as_aux_lemma =>
                        have hq1 : ((y1 : Int) == 0) = false := beq_eq_false_iff_ne.2 (by omega)
                        have hq2 : ((y2 : Int) == 0) = true := by
                          rw [beq_eq_false_iff_ne.2 hy1, Bool.false_or] at hel
                          have := beq_iff_eq.1 hel.symm
                          exact beq_iff_eq.2 (by omega)
                        clear hy1 hel
                        go_wp2_with (first
                          | (go_at_call 41; (with_reducible refine (H41.out _ (HTW.out _ (Below.refl _ _))).mono ?_); rintro e w8 ⟨rfl, hb8⟩; obtain ⟨t0, t1, t2, t3⟩ := HLR.out _ hb8)
                          | (go_at_call 15; (with_reducible refine (H15.out _ (HTW.out _ hb8)).mono ?_); rintro e w9 ⟨rfl, hb9⟩; have hb9' := hb8.trans (hb9.mono hb8.size); obtain ⟨u0, u1, u2, u3⟩ := HLR.out _ hb9')
                          | (go_at_call 48; (with_reducible refine (HR48.out _).mono ?_); rintro e w11 ⟨rfl, rfl⟩)
                          | (go_at_call 48; (with_reducible refine (HC48.out _).mono ?_); rintro e w11 ⟨rfl, rfl⟩)
                          | (go_at_call 39; (with_reducible refine (H39.out _).mono ?_); rintro e w12 ⟨A12, c12, rfl, hA12, hb12⟩; have hb12' := hb9'.trans (hb12.mono hb9'.size); obtain ⟨v0, v1, v2, v3⟩ := HLR.out _ hb12')
                          | (go_at_call 50; (with_reducible refine (H50.out _ _ _ hA12).mono ?_); rintro e w13 ⟨rfl, hb13⟩; have hb13' := hb12'.trans (hb13.mono hb12'.size); have hA13 := hA12.up hb13)
                          | (go_at_call 51; (with_reducible refine (H51.out _ _ _ hA13).mono ?_); rintro e w14 ⟨rfl, hb14⟩; have hb14' := hb13'.trans (hb14.mono hb13'.size); obtain ⟨x0, x1, x2, x3⟩ := HLR.out _ hb14')
                          | (go_at_call 22; (with_reducible refine (works_any _ (HTW.out _ hb14')).mono ?_); rintro e w10 ⟨rfl, hb10⟩; have hb10' := hb14'.trans (hb10.mono hb14'.size)))
                        go_ret
                        exact ⟨rfl, HALL.out.trans (hb10'.mono HALL.out.size)⟩
                  · as_aux_lemma =>
                      rw [if_neg hev] at e0
                      rw [e0] at H41
                      have hun := hev
                      have H41 := Lib.hid H41
                      clear e0 hev hw0 hew hel
                      have H39 := Lib.hid (show ∀ W, Calls Tryd.prog 39 #[.agg #[.int .i64 s.r, .int .i64 s.c, .int .i64 s.l, .int .i64 s.w], .int .i64 s.l] W (fun e w' => ∃ A c, e = .returned (.tuple #[.slice A s.l c, .int .i64 0]) ∧ IntsAt w' w'.heap.size A (colA s.l s.c s.r) ∧ Below W.heap.size W w') from fun W => by
                        have h := coloursF_any s.r s.c s.l s.w s.l W
                        have hc : chkS s.r s.c s.l s.w = 0 ∧ (1 : Int) ≤ s.l ∧ (s.l : Int) ≤ 6 := ⟨chkS_ok hs, by omega, by omega⟩
                        unfold colF colE RetIntsE at h
                        rw [if_pos hc, if_pos hc, colA_len] at h
                        exact h)
                      have hcl := colA_len s.l s.c s.r
                      have H50 := Lib.hid (fun A c W (hA : IntsAt W W.heap.size A (colA s.l s.c s.r)) => hcl ▸ min_any A c (colA s.l s.c s.r) W hA (by omega) (by omega))
                      have H51 := Lib.hid (fun A c W (hA : IntsAt W W.heap.size A (colA s.l s.c s.r)) => hcl ▸ max_any A c (colA s.l s.c s.r) W hA (by omega) (by omega))
                      have hlt := min_lt_max (L := colA s.l s.c s.r) (by omega) hun
                      generalize colA s.l s.c s.r = C at *
                      generalize minI C = m1 at *
                      generalize maxI C = m2 at *
                      clear hun hcl
                      go_wp2_with (first
                        | (go_at_call 41; (with_reducible refine (H41.out _ (HTW.out _ (Below.refl _ _))).mono ?_); rintro e w8 ⟨rfl, hb8⟩; obtain ⟨t0, t1, t2, t3⟩ := HLR.out _ hb8)
                        | (go_at_call 15; (with_reducible refine (H15.out _ (HTW.out _ hb8)).mono ?_); rintro e w9 ⟨rfl, hb9⟩; have hb9' := hb8.trans (hb9.mono hb8.size); obtain ⟨u0, u1, u2, u3⟩ := HLR.out _ hb9')
                        | (go_at_call 48; (with_reducible refine (HR48.out _).mono ?_); rintro e w11 ⟨rfl, rfl⟩)
                        | (go_at_call 48; (with_reducible refine (HC48.out _).mono ?_); rintro e w11 ⟨rfl, rfl⟩)
                        | (go_at_call 39; (with_reducible refine (H39.out _).mono ?_); rintro e w12 ⟨A12, c12, rfl, hA12, hb12⟩; have hb12' := hb9'.trans (hb12.mono hb9'.size); obtain ⟨v0, v1, v2, v3⟩ := HLR.out _ hb12')
                        | (go_at_call 50; (with_reducible refine (H50.out _ _ _ hA12).mono ?_); rintro e w13 ⟨rfl, hb13⟩; have hb13' := hb12'.trans (hb13.mono hb12'.size); have hA13 := hA12.up hb13)
                        | (go_at_call 51; (with_reducible refine (H51.out _ _ _ hA13).mono ?_); rintro e w14 ⟨rfl, hb14⟩; have hb14' := hb13'.trans (hb14.mono hb13'.size); obtain ⟨x0, x1, x2, x3⟩ := HLR.out _ hb14')
                        | (go_at_call 22; (with_reducible refine (works_any _ (HTW.out _ hb14')).mono ?_); rintro e w10 ⟨rfl, hb10⟩; have hb10' := hb14'.trans (hb10.mono hb14'.size)))
                      go_ret
                      exact ⟨rfl, HALL.out.trans (hb10'.mono HALL.out.size)⟩
end Go.Proofs.YtlollcabnfncpaaDoor
