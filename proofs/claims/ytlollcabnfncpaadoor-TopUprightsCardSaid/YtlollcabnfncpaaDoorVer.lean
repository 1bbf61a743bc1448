/-
  The check of a filling: the walk of Verify.
-/
import Derived.Test.YtlollcabnfncpaaDoorSolA
namespace Go.Proofs.YtlollcabnfncpaaDoor
open Go.RowKit

theorem sqI_ge {s : Sh} {x : Cd} (h : fitP s x) : 0 ≤ sqI s x := by
  obtain ⟨h1, h2, h3, h4⟩ := h
  unfold sqI
  have := Int.mul_nonneg h1 (show (0 : Int) ≤ s.c by omega)
  omega

/-- The number of a card's first square. -/
theorem number_card (s : Sh) (x : Cd) (w : World) (hs : s.Ok) (hx : fitP s x) :
    Calls Tryd.prog 81 #[.agg #[.int .i64 s.r, .int .i64 s.c, .int .i64 s.l, .int .i64 s.w], .int .i64 x.row, .int .i64 x.col] w fun e w' => e = .returned (.int .i64 (sqI s x)) ∧ Below w.heap.size w w' := by
  obtain ⟨h1, h2, h3, h4⟩ := hx
  have a1 := (hiS_le hs x.t).1
  have a2 := (wiS_le hs x.t).1
  have := hs.r6; have := hs.c6
  exact number_any s x.row x.col w hs.c6 h1 (by omega) h3 (by omega)

set_option maxRecDepth 100000 in
set_option maxHeartbeats 4000000 in
theorem verify_ok (s : Sh) (A : Option Addr) (c : Nat) (l : List Cd) (w : World) (hs : s.Ok) (hA : CardsAt w w.heap.size A l) (hn : l.length < 1000000) :
    Calls Tryd.prog 35 #[.agg #[.int .i64 s.r, .int .i64 s.c, .int .i64 s.l, .int .i64 s.w], .slice A l.length c] w fun e w' => e = .returned (.int .i64 (verS s l)) ∧ Below w.heap.size w w' := by
  have HC := Lib.hid (fun W => check_any s.r s.c s.l s.w W)
  rw [chkS_ok hs] at HC
  have HQ := Lib.hid (fun W => square_any s W)
  have HW := Lib.hid (fun W => whole_any s W hs)
  have hw36 := whl_lt36 hs
  have hc6 := hs.c6
  have hr6 := hs.r6
  unfold verS
  generalize hV : verM s l 0 (-1) = V
  have HV := Lib.hid hV
  clear hV
  go_enter Tryd.func35, Tryd.ntmps35
  go_wp2_with (go_at_call 20; refine (HC.out _).mono ?_; rintro e w1 ⟨rfl, hb1⟩; obtain ⟨q1, q2, q3⟩ := bcell hb1; simp only [World.size_alloc] at q1 q2 q3; have hbb := below_via hb1)
  have p0 : w1.cell? ⟨w.heap.size, 0, none⟩ = some (.int .i64 s.r) := by rw [q1 _ _ (by omega)]; simp [go_sem]
  have p1 : w1.cell? ⟨w.heap.size, 1, none⟩ = some (.int .i64 s.c) := by rw [q1 _ _ (by omega)]; simp [go_sem]
  have p2 : w1.cell? ⟨w.heap.size, 2, none⟩ = some (.int .i64 s.l) := by rw [q1 _ _ (by omega)]; simp [go_sem]
  have p3 : w1.cell? ⟨w.heap.size, 3, none⟩ = some (.int .i64 s.w) := by rw [q1 _ _ (by omega)]; simp [go_sem]
  have HA := Lib.hid (hA.below hbb (Nat.le_refl _))
  have hz1 : w.heap.size < w1.heap.size := by omega
  have HB := Lib.hid hbb
  clear hb1 q1 q2 hA hbb q3 HC
  go_loopw [6, 7, 17] (fun v u i wr => ∃ (k cov : Nat) (last : Int), k ≤ l.length ∧ i = .int .i64 k ∧ v = .int .u64 cov ∧ u = .int .i64 last ∧ InS s cov ∧ (-1 ≤ last ∧ last ≤ 35) ∧ Hid (verM s (l.drop k) cov last = V) ∧ Below w1.heap.size w1 wr) (fun _ _ i _ => l.length - (intOf i).toNat)
  case atStart => exact ⟨0, 0, -1, by omega, rfl, rfl, rfl, InS.zero s, by omega, HV, Below.refl _ _⟩
  case round =>
    obtain ⟨k, cov, last, hk, rfl, rfl, rfl, hin, hla, HM, hbr⟩ := hrel
    have r0 := (hbr.cell (p := ⟨w.heap.size, 0, none⟩) hz1).trans p0
    have r1 := (hbr.cell (p := ⟨w.heap.size, 1, none⟩) hz1).trans p1
    have r2 := (hbr.cell (p := ⟨w.heap.size, 2, none⟩) hz1).trans p2
    have r3 := (hbr.cell (p := ⟨w.heap.size, 3, none⟩) hz1).trans p3
    have hzr := hbr.size
    have hwr : w.heap.size < wr.heap.size := by omega
    have hc36 := hin.lt36 hs
    by_cases hlt : k < l.length
    · have hx : l[k]? = some l[k] := List.getElem?_eq_getElem hlt
      generalize l[k] = x at hx
      obtain ⟨b, off, rfl, hb, d0, d1, d2⟩ := HA.out k x hx
      replace d0 := (hbr.cell (p := ⟨b, _, none⟩) (by simp; omega)).trans d0
      replace d1 := (hbr.cell (p := ⟨b, _, none⟩) (by simp; omega)).trans d1
      replace d2 := (hbr.cell (p := ⟨b, _, none⟩) (by simp; omega)).trans d2
      have hbz : b < wr.heap.size := by omega
      have HX := Lib.hid hx
      have HMM := Lib.hid (show verM s (x :: l.drop (k + 1)) cov last = V by rw [← HM.out, drop_cons hx])
      have HE := Lib.hid (HB.out.trans (hbr.mono (by omega)))
      clear hx
      obtain ⟨row, col, tt⟩ := x
      dsimp only at d0 d1 d2
      rcases tt with _ | _
      · obtain ⟨W1, hW1⟩ : ∃ W1, W1 = wr.alloc (.cells #[.int .i64 row, .int .i64 col, .bool false] 69) := ⟨_, rfl⟩
        have hbW : Below wr.heap.size wr W1 := by rw [hW1]; exact below_new _ _
        have hzW : W1.heap.size = wr.heap.size + 1 := by rw [hW1]; simp
        have e0 : W1.cell? ⟨wr.heap.size, 0, none⟩ = some (.int .i64 row) := by rw [hW1]; simp [go_sem]
        have e1 : W1.cell? ⟨wr.heap.size, 1, none⟩ = some (.int .i64 col) := by rw [hW1]; simp [go_sem]
        have e2 : W1.cell? ⟨wr.heap.size, 2, none⟩ = some (.bool false) := by rw [hW1]; simp [go_sem]
        have HK := Lib.hid (fun (W : World) (h : Below W1.heap.size W1 W) => show W.cell? ⟨w.heap.size, 0, none⟩ = some (.int .i64 s.r) ∧ W.cell? ⟨w.heap.size, 1, none⟩ = some (.int .i64 s.c) ∧ W.cell? ⟨w.heap.size, 2, none⟩ = some (.int .i64 s.l) ∧ W.cell? ⟨w.heap.size, 3, none⟩ = some (.int .i64 s.w) ∧
            W.cell? ⟨wr.heap.size, 0, none⟩ = some (.int .i64 row) ∧ W.cell? ⟨wr.heap.size, 1, none⟩ = some (.int .i64 col) ∧ W.cell? ⟨wr.heap.size, 2, none⟩ = some (.bool false) from
          have g := fun {o v} (e : wr.cell? ⟨w.heap.size, o, none⟩ = some v) => (h.cell (p := ⟨w.heap.size, o, none⟩) (by simp; omega)).trans ((hbW.cell (p := ⟨w.heap.size, o, none⟩) hwr).trans e)
          have g' := fun {o v} (e : W1.cell? ⟨wr.heap.size, o, none⟩ = some v) => (h.cell (p := ⟨wr.heap.size, o, none⟩) (by simp; omega)).trans e
          ⟨g r0, g r1, g r2, g r3, g' e0, g' e1, g' e2⟩)
        have HE1 := Lib.hid (HE.out.trans (hbW.mono (by omega)))
        have HZ := Lib.hid (show w.heap.size ≤ W1.heap.size by omega)
        have hbb := Below.refl W1.heap.size W1
        clear hbW e0 e1 e2
        have hns : ¬ ((⟨row, col, false⟩ : Cd).t = true ∧ s.l = s.w) := by simp
        by_cases hfit : fitP s ⟨row, col, false⟩
        · have HF := Lib.hid (fun W (Q : Ending → World → Prop) (h : Below W1.heap.size W1 W) (hQ : ∀ w', Below W1.heap.size W1 w' → Q (.returned (.bool true)) w') => (fits_any s ⟨row, col, false⟩ W hs).mono fun e w' ⟨he, hb⟩ => by rw [he, decide_eq_true hfit]; exact hQ w' (h.trans (hb.mono h.size)))
          have HN := Lib.hid (fun W (Q : Ending → World → Prop) (h : Below W1.heap.size W1 W) (hQ : ∀ w', Below W1.heap.size W1 w' → Q (.returned (.int .i64 (sqI s ⟨row, col, false⟩))) w') => (number_card s ⟨row, col, false⟩ W hs hfit).mono fun e w' ⟨he, hb⟩ => he ▸ hQ w' (h.trans (hb.mono h.size)))
          have HU := Lib.hid (fun W (Q : Ending → World → Prop) (h : Below W1.heap.size W1 W) (hQ : ∀ w', Below W1.heap.size W1 w' → Q (.returned (.int .u64 (und s ⟨row, col, false⟩ : Nat))) w') => (under_any s ⟨row, col, false⟩ W hs hfit).mono fun e w' ⟨he, hb⟩ => he ▸ hQ w' (h.trans (hb.mono h.size)))
          have hu36 := und_lt36 hs hfit
          have hand := u64_and_nat cov (und s ⟨row, col, false⟩) (by omega) (by omega)
          have hor := u64_or_nat cov (und s ⟨row, col, false⟩) (by omega) (by omega)
          have hinx := hin.or hfit
          have hq := sqI_in hs hfit
          have HVO := Lib.hid (verM_cons_order (l := l.drop (k + 1)) (cov := cov) (last := last) hns hfit)
          have HVC := Lib.hid (verM_cons_clash (l := l.drop (k + 1)) (cov := cov) (last := last) hns hfit)
          have HVK := Lib.hid (verM_cons_ok (l := l.drop (k + 1)) (cov := cov) (last := last) hns hfit)
          clear hfit hns hzW
          subst hW1
          generalize sqI s ⟨row, col, false⟩ = sq at *
          generalize und s ⟨row, col, false⟩ = y at *
          by_cases hord : sq ≤ last
          · go_wp2_with (first  | (go_at_call 80; with_reducible refine HF.out _ _ (by assumption) ?_; intro w3 hb3; obtain ⟨s0, s1, s2, s3, x0, x1, x2⟩ := HK.out _ hb3) | (go_at_call 81; with_reducible refine HN.out _ _ (by assumption) ?_; intro w4 hb4; obtain ⟨t0, t1, t2, t3, y0, y1, y2⟩ := HK.out _ hb4))
            go_ret
            exact ⟨ret_eq ((HVO.out hord).symm.trans HMM.out), HE1.out.trans (hb4.mono HZ.out)⟩
          · by_cases hcl : cov &&& y = 0
            · rw [hcl] at hand
              have HVK' := Lib.hid ((HVK.out hord hcl).symm.trans HMM.out)
              have HCL := Lib.hid hcl
              clear hcl
              go_wp2_with (first  | (go_at_call 80; with_reducible refine HF.out _ _ (by assumption) ?_; intro w3 hb3; obtain ⟨s0, s1, s2, s3, x0, x1, x2⟩ := HK.out _ hb3) | (go_at_call 81; with_reducible refine HN.out _ _ (by assumption) ?_; intro w4 hb4; obtain ⟨t0, t1, t2, t3, y0, y1, y2⟩ := HK.out _ hb4) | (go_at_call 82; with_reducible refine HU.out _ _ (by assumption) ?_; intro w5 hb5; obtain ⟨u0, u1, u2, u3, z0, z1, z2⟩ := HK.out _ hb5))
              have hbd := hb5.drew
              have HK2 := Lib.hid (fun (W : World) (h : Below (wr.alloc (.cells #[.int .i64 row, .int .i64 col, .bool false] 69)).heap.size (wr.alloc (.cells #[.int .i64 row, .int .i64 col, .bool false] 69)) W) => And.intro h (HK.out W h))
              go_region_held3 (fun W => Below (wr.alloc (.cells #[.int .i64 row, .int .i64 col, .bool false] 69)).heap.size (wr.alloc (.cells #[.int .i64 row, .int .i64 col, .bool false] 69)) W ∧ W.cell? ⟨w.heap.size, 0, none⟩ = some (.int .i64 s.r) ∧ W.cell? ⟨w.heap.size, 1, none⟩ = some (.int .i64 s.c) ∧ W.cell? ⟨w.heap.size, 2, none⟩ = some (.int .i64 s.l) ∧ W.cell? ⟨w.heap.size, 3, none⟩ = some (.int .i64 s.w) ∧
                  W.cell? ⟨wr.heap.size, 0, none⟩ = some (.int .i64 row) ∧ W.cell? ⟨wr.heap.size, 1, none⟩ = some (.int .i64 col) ∧ W.cell? ⟨wr.heap.size, 2, none⟩ = some (.bool false))
                (exact HK2.out _ (by assumption))
                (first
                  | (go_at_call 82; with_reducible refine HU.out _ _ (by assumption) ?_; intro w6 hb6)
                  | (go_at_call 81; with_reducible refine HN.out _ _ (by assumption) ?_; intro w7 hb7))
              all_goals
                go_wp2_with fail
                go_roundw
                case rel => exact ⟨k + 1, cov ||| y, sq, by omega, by go_num, rfl, rfl, hinx, by omega, HVK', hbr.trans (((below_new wr _).trans (Below.mono (by assumption) (by simp))).mono (by omega))⟩
                case measure => simp [intOf]; omega
            · have hcl' : (((cov &&& y : Nat) : Int) == 0) = false := by simp; exact hcl
              have HCC := Lib.hid ((HVC.out hord hcl).symm.trans HMM.out)
              clear hcl
              generalize cov &&& y = z at *
              go_wp2_with (first  | (go_at_call 80; with_reducible refine HF.out _ _ (by assumption) ?_; intro w3 hb3; obtain ⟨s0, s1, s2, s3, x0, x1, x2⟩ := HK.out _ hb3) | (go_at_call 81; with_reducible refine HN.out _ _ (by assumption) ?_; intro w4 hb4; obtain ⟨t0, t1, t2, t3, y0, y1, y2⟩ := HK.out _ hb4) | (go_at_call 82; with_reducible refine HU.out _ _ (by assumption) ?_; intro w5 hb5; obtain ⟨u0, u1, u2, u3, z0, z1, z2⟩ := HK.out _ hb5))
              go_ret
              exact ⟨ret_eq HCC.out, HE1.out.trans (hb5.mono HZ.out)⟩
        · have HF := Lib.hid (fun W (Q : Ending → World → Prop) (h : Below W1.heap.size W1 W) (hQ : ∀ w', Below W1.heap.size W1 w' → Q (.returned (.bool false)) w') => (fits_any s ⟨row, col, false⟩ W hs).mono fun e w' ⟨he, hb⟩ => by rw [he, decide_eq_false hfit]; exact hQ w' (h.trans (hb.mono h.size)))
          have HVF := Lib.hid ((verM_cons_fit hns hfit).symm.trans HMM.out)
          clear hfit hns hzW
          subst hW1
          go_wp2_with (first  | (go_at_call 80; with_reducible refine HF.out _ _ (by assumption) ?_; intro w3 hb3; obtain ⟨s0, s1, s2, s3, x0, x1, x2⟩ := HK.out _ hb3))
          go_ret
          exact ⟨ret_eq HVF.out, HE1.out.trans (hb3.mono HZ.out)⟩
      · by_cases hsq : s.l = s.w
        · have HVS := Lib.hid ((verM_cons_shape (s := s) (x := ⟨row, col, true⟩) (l := l.drop (k + 1)) (cov := cov) (last := last) rfl hsq).symm.trans HMM.out)
          rw [decide_eq_true hsq] at HQ
          clear hsq
          go_wp2_with (go_at_call 79; refine (HQ.out _).mono ?_; rintro e w3 ⟨rfl, hb3⟩)
          go_ret
          exact ⟨ret_eq HVS.out, HE.out.trans (((below_new wr _).trans (hb3.mono (by simp))).mono (by omega))⟩
        · obtain ⟨W1, hW1⟩ : ∃ W1, W1 = wr.alloc (.cells #[.int .i64 row, .int .i64 col, .bool true] 69) := ⟨_, rfl⟩
          have hbW : Below wr.heap.size wr W1 := by rw [hW1]; exact below_new _ _
          have hzW : W1.heap.size = wr.heap.size + 1 := by rw [hW1]; simp
          have e0 : W1.cell? ⟨wr.heap.size, 0, none⟩ = some (.int .i64 row) := by rw [hW1]; simp [go_sem]
          have e1 : W1.cell? ⟨wr.heap.size, 1, none⟩ = some (.int .i64 col) := by rw [hW1]; simp [go_sem]
          have e2 : W1.cell? ⟨wr.heap.size, 2, none⟩ = some (.bool true) := by rw [hW1]; simp [go_sem]
          have HK := Lib.hid (fun (W : World) (h : Below W1.heap.size W1 W) => show W.cell? ⟨w.heap.size, 0, none⟩ = some (.int .i64 s.r) ∧ W.cell? ⟨w.heap.size, 1, none⟩ = some (.int .i64 s.c) ∧ W.cell? ⟨w.heap.size, 2, none⟩ = some (.int .i64 s.l) ∧ W.cell? ⟨w.heap.size, 3, none⟩ = some (.int .i64 s.w) ∧
              W.cell? ⟨wr.heap.size, 0, none⟩ = some (.int .i64 row) ∧ W.cell? ⟨wr.heap.size, 1, none⟩ = some (.int .i64 col) ∧ W.cell? ⟨wr.heap.size, 2, none⟩ = some (.bool true) from
            have g := fun {o v} (e : wr.cell? ⟨w.heap.size, o, none⟩ = some v) => (h.cell (p := ⟨w.heap.size, o, none⟩) (by simp; omega)).trans ((hbW.cell (p := ⟨w.heap.size, o, none⟩) hwr).trans e)
            have g' := fun {o v} (e : W1.cell? ⟨wr.heap.size, o, none⟩ = some v) => (h.cell (p := ⟨wr.heap.size, o, none⟩) (by simp; omega)).trans e
            ⟨g r0, g r1, g r2, g r3, g' e0, g' e1, g' e2⟩)
          have HQ1 := Lib.hid (fun W (Q : Ending → World → Prop) (h : Below W1.heap.size W1 W) (hQ : ∀ w', Below W1.heap.size W1 w' → Q (.returned (.bool false)) w') => (square_any s W).mono fun e w' ⟨he, hb⟩ => by rw [he, decide_eq_false hsq]; exact hQ w' (h.trans (hb.mono h.size)))
          have HE1 := Lib.hid (HE.out.trans (hbW.mono (by omega)))
          have HZ := Lib.hid (show w.heap.size ≤ W1.heap.size by omega)
          have hbb := Below.refl W1.heap.size W1
          clear hbW e0 e1 e2
          have hns : ¬ ((⟨row, col, true⟩ : Cd).t = true ∧ s.l = s.w) := by simp [hsq]
          by_cases hfit : fitP s ⟨row, col, true⟩
          · have HF := Lib.hid (fun W (Q : Ending → World → Prop) (h : Below W1.heap.size W1 W) (hQ : ∀ w', Below W1.heap.size W1 w' → Q (.returned (.bool true)) w') => (fits_any s ⟨row, col, true⟩ W hs).mono fun e w' ⟨he, hb⟩ => by rw [he, decide_eq_true hfit]; exact hQ w' (h.trans (hb.mono h.size)))
            have HN := Lib.hid (fun W (Q : Ending → World → Prop) (h : Below W1.heap.size W1 W) (hQ : ∀ w', Below W1.heap.size W1 w' → Q (.returned (.int .i64 (sqI s ⟨row, col, true⟩))) w') => (number_card s ⟨row, col, true⟩ W hs hfit).mono fun e w' ⟨he, hb⟩ => he ▸ hQ w' (h.trans (hb.mono h.size)))
            have HU := Lib.hid (fun W (Q : Ending → World → Prop) (h : Below W1.heap.size W1 W) (hQ : ∀ w', Below W1.heap.size W1 w' → Q (.returned (.int .u64 (und s ⟨row, col, true⟩ : Nat))) w') => (under_any s ⟨row, col, true⟩ W hs hfit).mono fun e w' ⟨he, hb⟩ => he ▸ hQ w' (h.trans (hb.mono h.size)))
            have hu36 := und_lt36 hs hfit
            have hand := u64_and_nat cov (und s ⟨row, col, true⟩) (by omega) (by omega)
            have hor := u64_or_nat cov (und s ⟨row, col, true⟩) (by omega) (by omega)
            have hinx := hin.or hfit
            have hq := sqI_in hs hfit
            have HVO := Lib.hid (verM_cons_order (l := l.drop (k + 1)) (cov := cov) (last := last) hns hfit)
            have HVC := Lib.hid (verM_cons_clash (l := l.drop (k + 1)) (cov := cov) (last := last) hns hfit)
            have HVK := Lib.hid (verM_cons_ok (l := l.drop (k + 1)) (cov := cov) (last := last) hns hfit)
            clear hfit hns hzW
            subst hW1
            generalize sqI s ⟨row, col, true⟩ = sq at *
            generalize und s ⟨row, col, true⟩ = y at *
            by_cases hord : sq ≤ last
            · go_wp2_with (first | (go_at_call 79; with_reducible refine HQ1.out _ _ (by assumption) ?_; intro w2 hb2; obtain ⟨v0, v1, v2, v3, m0, m1, m2⟩ := HK.out _ hb2) | (go_at_call 80; with_reducible refine HF.out _ _ (by assumption) ?_; intro w3 hb3; obtain ⟨s0, s1, s2, s3, x0, x1, x2⟩ := HK.out _ hb3) | (go_at_call 81; with_reducible refine HN.out _ _ (by assumption) ?_; intro w4 hb4; obtain ⟨t0, t1, t2, t3, y0, y1, y2⟩ := HK.out _ hb4))
              go_ret
              exact ⟨ret_eq ((HVO.out hord).symm.trans HMM.out), HE1.out.trans (hb4.mono HZ.out)⟩
            · by_cases hcl : cov &&& y = 0
              · rw [hcl] at hand
                have HVK' := Lib.hid ((HVK.out hord hcl).symm.trans HMM.out)
                have HCL := Lib.hid hcl
                clear hcl
                go_wp2_with (first | (go_at_call 79; with_reducible refine HQ1.out _ _ (by assumption) ?_; intro w2 hb2; obtain ⟨v0, v1, v2, v3, m0, m1, m2⟩ := HK.out _ hb2) | (go_at_call 80; with_reducible refine HF.out _ _ (by assumption) ?_; intro w3 hb3; obtain ⟨s0, s1, s2, s3, x0, x1, x2⟩ := HK.out _ hb3) | (go_at_call 81; with_reducible refine HN.out _ _ (by assumption) ?_; intro w4 hb4; obtain ⟨t0, t1, t2, t3, y0, y1, y2⟩ := HK.out _ hb4) | (go_at_call 82; with_reducible refine HU.out _ _ (by assumption) ?_; intro w5 hb5; obtain ⟨u0, u1, u2, u3, z0, z1, z2⟩ := HK.out _ hb5))
                have hbd := hb5.drew
                have HK2 := Lib.hid (fun (W : World) (h : Below (wr.alloc (.cells #[.int .i64 row, .int .i64 col, .bool true] 69)).heap.size (wr.alloc (.cells #[.int .i64 row, .int .i64 col, .bool true] 69)) W) => And.intro h (HK.out W h))
                go_region_held3 (fun W => Below (wr.alloc (.cells #[.int .i64 row, .int .i64 col, .bool true] 69)).heap.size (wr.alloc (.cells #[.int .i64 row, .int .i64 col, .bool true] 69)) W ∧ W.cell? ⟨w.heap.size, 0, none⟩ = some (.int .i64 s.r) ∧ W.cell? ⟨w.heap.size, 1, none⟩ = some (.int .i64 s.c) ∧ W.cell? ⟨w.heap.size, 2, none⟩ = some (.int .i64 s.l) ∧ W.cell? ⟨w.heap.size, 3, none⟩ = some (.int .i64 s.w) ∧
                    W.cell? ⟨wr.heap.size, 0, none⟩ = some (.int .i64 row) ∧ W.cell? ⟨wr.heap.size, 1, none⟩ = some (.int .i64 col) ∧ W.cell? ⟨wr.heap.size, 2, none⟩ = some (.bool true))
                  (exact HK2.out _ (by assumption))
                  (first
                    | (go_at_call 82; with_reducible refine HU.out _ _ (by assumption) ?_; intro w6 hb6)
                    | (go_at_call 81; with_reducible refine HN.out _ _ (by assumption) ?_; intro w7 hb7))
                all_goals
                  go_wp2_with fail
                  go_roundw
                  case rel => exact ⟨k + 1, cov ||| y, sq, by omega, by go_num, rfl, rfl, hinx, by omega, HVK', hbr.trans (((below_new wr _).trans (Below.mono (by assumption) (by simp))).mono (by omega))⟩
                  case measure => simp [intOf]; omega
              · have hcl' : (((cov &&& y : Nat) : Int) == 0) = false := by simp; exact hcl
                have HCC := Lib.hid ((HVC.out hord hcl).symm.trans HMM.out)
                clear hcl
                generalize cov &&& y = z at *
                go_wp2_with (first | (go_at_call 79; with_reducible refine HQ1.out _ _ (by assumption) ?_; intro w2 hb2; obtain ⟨v0, v1, v2, v3, m0, m1, m2⟩ := HK.out _ hb2) | (go_at_call 80; with_reducible refine HF.out _ _ (by assumption) ?_; intro w3 hb3; obtain ⟨s0, s1, s2, s3, x0, x1, x2⟩ := HK.out _ hb3) | (go_at_call 81; with_reducible refine HN.out _ _ (by assumption) ?_; intro w4 hb4; obtain ⟨t0, t1, t2, t3, y0, y1, y2⟩ := HK.out _ hb4) | (go_at_call 82; with_reducible refine HU.out _ _ (by assumption) ?_; intro w5 hb5; obtain ⟨u0, u1, u2, u3, z0, z1, z2⟩ := HK.out _ hb5))
                go_ret
                exact ⟨ret_eq HCC.out, HE1.out.trans (hb5.mono HZ.out)⟩
          · have HF := Lib.hid (fun W (Q : Ending → World → Prop) (h : Below W1.heap.size W1 W) (hQ : ∀ w', Below W1.heap.size W1 w' → Q (.returned (.bool false)) w') => (fits_any s ⟨row, col, true⟩ W hs).mono fun e w' ⟨he, hb⟩ => by rw [he, decide_eq_false hfit]; exact hQ w' (h.trans (hb.mono h.size)))
            have HVF := Lib.hid ((verM_cons_fit hns hfit).symm.trans HMM.out)
            clear hfit hns hzW
            subst hW1
            go_wp2_with (first | (go_at_call 79; with_reducible refine HQ1.out _ _ (by assumption) ?_; intro w2 hb2; obtain ⟨v0, v1, v2, v3, m0, m1, m2⟩ := HK.out _ hb2) | (go_at_call 80; with_reducible refine HF.out _ _ (by assumption) ?_; intro w3 hb3; obtain ⟨s0, s1, s2, s3, x0, x1, x2⟩ := HK.out _ hb3))
            go_ret
            exact ⟨ret_eq HVF.out, HE1.out.trans (hb3.mono HZ.out)⟩
    · have e : l.drop k = [] := List.drop_eq_nil_of_le (by omega)
      have HE := Lib.hid (HB.out.trans (hbr.mono (by omega)))
      have HM2 := HM.out
      rw [e] at HM2
      by_cases hcw : cov = whl s
      · have hz : V = 0 := by rw [← HM2, verM, if_pos hcw]
        have hcb : ((cov : Int) == (whl s : Int)) = true := by rw [beq_iff_eq, hcw]
        have HZV := Lib.hid hz
        clear hcw HM2 hz e
        generalize whl s = wh at *
        go_wp2_with (go_at_call 83; refine (HW.out _).mono ?_; rintro e w3 ⟨rfl, hb3⟩)
        go_ret
        exact ⟨ret_eq HZV.out.symm, HE.out.trans (hb3.mono (by omega))⟩
      · have hz : V = 21 := by rw [← HM2, verM, if_neg hcw]
        have hcb : ((cov : Int) == (whl s : Int)) = false := by simp; omega
        have HZV := Lib.hid hz
        clear hcw HM2 hz e
        generalize whl s = wh at *
        go_wp2_with (go_at_call 83; refine (HW.out _).mono ?_; rintro e w3 ⟨rfl, hb3⟩)
        go_ret
        exact ⟨ret_eq HZV.out.symm, HE.out.trans (hb3.mono (by omega))⟩

/-- The error of a list of cards. -/
def verF (r c l v : Int) (x : List Cd) : Int := if chkS r c l v = 0 then verS ⟨r.toNat, c.toNat, l.toNat, v.toNat⟩ x else 1

set_option maxRecDepth 100000 in
set_option maxHeartbeats 1000000 in
theorem verify_any (r c l v : Int) (A : Option Addr) (cap : Nat) (x : List Cd) (w : World) (hA : CardsAt w w.heap.size A x) (hn : x.length < 1000000) :
    Calls Tryd.prog 35 #[.agg #[.int .i64 r, .int .i64 c, .int .i64 l, .int .i64 v], .slice A x.length cap] w fun e w' => e = .returned (.int .i64 (verF r c l v x)) ∧ Below w.heap.size w w' := by
  by_cases h0 : chkS r c l v = 0
  · obtain ⟨s, hs, rfl, rfl, rfl, rfl⟩ := ok_of_chk h0
    have e1 : verF s.r s.c s.l s.w x = verS s x := by unfold verF; rw [if_pos h0]; rfl
    rw [e1]
    exact verify_ok s A cap x w hs hA hn
  · have e1 : verF r c l v x = 1 := by unfold verF; rw [if_neg h0]
    rw [e1]
    have HC := Lib.hid (fun W => check_any r c l v W)
    have e1 := (chkS_01 r c l v).resolve_left h0
    rw [e1] at HC
    clear e1 h0 hA
    go_enter Tryd.func35, Tryd.ntmps35
    go_wp2_with (go_at_call 20; refine (HC.out _).mono ?_; rintro e w1 ⟨rfl, hb1⟩)
    go_ret
    exact ⟨rfl, below_via hb1⟩
end Go.Proofs.YtlollcabnfncpaaDoor
