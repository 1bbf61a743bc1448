/-
  The walk of CutFillings.
-/
import Derived.Test.YtlollcabnfncpaaDoorFlR
import Derived.Test.YtlollcabnfncpaaDoorWorks
namespace Go.Proofs.YtlollcabnfncpaaDoor
open Go.RowKit

theorem cutsF_len (r c l v : Int) (x : List Cd) : (cutsF r c l v x).1.length < 1000000 ∧ (cutsF r c l v x).2.length < 1000000 := by
  unfold cutsF
  split
  · rename_i h
    obtain ⟨s, hs, rfl, rfl, rfl, rfl, _⟩ := ver_ok h
    have h1 := gapN_len 0 (s.r - 1) (spnB s true x)
    have h2 := gapN_len 0 (s.c - 1) (spnB s false x)
    have h3 := hs.r6
    have h4 := hs.c6
    have e1 := cutB_rows hs x
    have e2 := cutB_cols hs x
    unfold cutB at e1 e2
    simp only [if_true, Bool.false_eq_true, if_false] at e1 e2
    show (cutsR s x).length < 1000000 ∧ (cutsC s x).length < 1000000
    rw [← e1, ← e2]
    omega
  · exact ⟨by simp, by simp⟩

set_option maxRecDepth 100000 in
set_option maxHeartbeats 8000000 in
theorem lawFillings_any (r c l v : Int) (A : Option Addr) (x : List Cd) (cap : Nat) (w : World) (hA : CardsAt w w.heap.size A x) (ht : TabW w) :
    Calls Tryd.prog 5 #[.agg #[.int .i64 r, .int .i64 c, .int .i64 l, .int .i64 v], .slice A x.length cap] w fun e w' => e = .returned (.bool true) ∧ Below w.heap.size w w' := by
  have HW := Lib.hid (fun W h => works_any W h)
  have HT := Lib.hid ht
  clear ht
  by_cases h60 : 60 < x.length
  · have h60' : (60 : Int) < (x.length : Int) := by omega
    clear hA h60
    go_enter Tryd.func5, Tryd.ntmps5
    go_wp2_with (go_at_call 22; refine (HW.out _ (HT.out.below (below_new w _))).mono ?_; rintro e w1 ⟨rfl, hb1⟩)
    go_ret
    exact ⟨rfl, below_via hb1⟩
  have h60' : ¬ (60 : Int) < (x.length : Int) := by omega
  have hn : x.length < 1000000 := by omega
  obtain ⟨W0, hW0⟩ : ∃ W0, W0 = w.alloc (.cells #[.int .i64 r, .int .i64 c, .int .i64 l, .int .i64 v] 23) := ⟨_, rfl⟩
  have hb0 : Below w.heap.size w W0 := hW0 ▸ below_new w _
  have HB := Lib.hid hb0
  have HA := Lib.hid ((hA.below hb0 (Nat.le_refl _)).mono (show w.heap.size ≤ W0.heap.size from hb0.size))
  have hz0 : W0.heap.size = w.heap.size + 1 := by rw [hW0]; simp
  have p0 : W0.cell? ⟨w.heap.size, 0, none⟩ = some (.int .i64 r) := by rw [hW0]; simp [go_sem]
  have p1 : W0.cell? ⟨w.heap.size, 1, none⟩ = some (.int .i64 c) := by rw [hW0]; simp [go_sem]
  have p2 : W0.cell? ⟨w.heap.size, 2, none⟩ = some (.int .i64 l) := by rw [hW0]; simp [go_sem]
  have p3 : W0.cell? ⟨w.heap.size, 3, none⟩ = some (.int .i64 v) := by rw [hW0]; simp [go_sem]
  have HGV := Lib.hid (fun (W : World) (h : Below W0.heap.size W0 W) => given_cap A cap x W (HA.out.up h) hn)
  have hbW : Below W0.heap.size W0 W0 := Below.refl _ _
  go_enter Tryd.func5, Tryd.ntmps5
  go_upto_region 3 with fail
  rw [← hW0]
  clear hW0 hb0 hA h60
  have hbd : Below W0.heap.size W0 W0.drew := hbW.drew
  have HK0 := Lib.hid (fun (W : World) (h : Below W0.heap.size W0 W) => show W.cell? ⟨w.heap.size, 0, none⟩ = some (.int .i64 r) ∧ W.cell? ⟨w.heap.size, 1, none⟩ = some (.int .i64 c) ∧ W.cell? ⟨w.heap.size, 2, none⟩ = some (.int .i64 l) ∧ W.cell? ⟨w.heap.size, 3, none⟩ = some (.int .i64 v) from ⟨(h.cell (p := ⟨w.heap.size, 0, none⟩) (lt_of_cell p0)).trans p0, (h.cell (p := ⟨w.heap.size, 1, none⟩) (lt_of_cell p0)).trans p1, (h.cell (p := ⟨w.heap.size, 2, none⟩) (lt_of_cell p0)).trans p2, (h.cell (p := ⟨w.heap.size, 3, none⟩) (lt_of_cell p0)).trans p3⟩)
  have HD2 := Lib.hid (fun o => (hbW.alloc (Nat.le_refl _) o).drew)
  go_cut [5, 6] (fun s5 s6 wx => ∃ g5 A6 c6, s5 = .pointer (some ⟨g5, 0, none⟩) ∧ s6 = .slice A6 x.length c6 ∧ x.length ≤ c6 ∧ RcdsAt wx wx.heap.size A6 x ∧ (wx.cell? ⟨g5, 0, none⟩ = some (.int .i64 r) ∧ wx.cell? ⟨g5, 1, none⟩ = some (.int .i64 c) ∧ wx.cell? ⟨g5, 2, none⟩ = some (.int .i64 l) ∧ wx.cell? ⟨g5, 3, none⟩ = some (.int .i64 v)) ∧ g5 < wx.heap.size ∧ Below W0.heap.size W0 wx)
  case first =>
    refine wp_region_held_drew (S := fun W => Below W0.heap.size W0 W) (by kernel_rfl) hbd (fun hHeld => ?_)
    refine wpAnyH_take (i := 0) (v := ?_) rfl (by kernel_rfl) (by kernel_rfl) (by kernel_rfl) (fun _ _ _ h => h) (Or.inl ⟨by rfl, ?_⟩) (by assumption) ?_
    rotate_left
    · intro w' hSw; obtain ⟨x0, x1, x2, x3⟩ := HK0.out _ hSw; go_simp; try with_reducible rfl
    try simp only [Act.put, List.getElem_toArray, List.getElem_cons_zero, List.setIfInBounds_toArray, List.set_cons_zero, List.set_cons_succ]
    refine wpAnyH_take (i := 1) (v := ?_) rfl (by kernel_rfl) (by kernel_rfl) (by kernel_rfl) (fun _ _ _ h => h) (Or.inl ⟨by rfl, ?_⟩) (by assumption) ?_
    rotate_left
    · intro w' hSw; obtain ⟨x0, x1, x2, x3⟩ := HK0.out _ hSw; go_simp; try with_reducible rfl
    try simp only [Act.put, List.getElem_toArray, List.getElem_cons_zero, List.getElem_cons_succ, List.setIfInBounds_toArray, List.set_cons_zero, List.set_cons_succ]
    refine wpAnyH_ready (rs := [2, 3]) (by kernel_rfl) (by simp) ?_
    refine AllReadyH.cons rfl (fun K hK => ?_) (AllReadyH.cons rfl (fun K hK => ?_) AllReadyH.nil)
    · go_simp
      refine (HGV.out _ hbd).mono ?_
      rintro e w5 ⟨A6, c6, rfl, hc6, hA6, hb6, hge6⟩
      have hb5 := hbd.trans (hb6.mono hbd.size)
      refine hK.out _ _ (hb5) (fun _ => ?_)
      clear hK K
      try simp only [Act.put, List.getElem_toArray, List.getElem_cons_zero, List.getElem_cons_succ, List.setIfInBounds_toArray, List.set_cons_zero, List.set_cons_succ]
      refine wpAnyH_ready (rs := [3]) (by kernel_rfl) (by simp) ?_
      refine AllReadyH.cons rfl (fun K hK => ?_) AllReadyH.nil
      go_simp
      refine hK.out _ _ (hb5.alloc hb5.size _) (fun _ => ?_)
      clear hK K
      try simp only [Act.put, List.getElem_toArray, List.getElem_cons_zero, List.getElem_cons_succ, List.setIfInBounds_toArray, List.set_cons_zero, List.set_cons_succ]
      refine wpAnyH_ready (rs := [4]) (by kernel_rfl) (by simp) ?_
      refine AllReadyH.cons rfl (fun K hK => ?_) AllReadyH.nil
      go_simp
      refine hK.out _ _ (hb5.alloc hb5.size _) (fun _ => ?_)
      clear hK K
      try simp only [Act.put, List.getElem_toArray, List.getElem_cons_zero, List.getElem_cons_succ, List.setIfInBounds_toArray, List.set_cons_zero, List.set_cons_succ]
      refine wpAnyH_ready (rs := [5]) (by kernel_rfl) (by simp) ?_
      refine AllReadyH.cons rfl (fun K hK => ?_) AllReadyH.nil
      go_simp
      refine hK.out _ _ (hb5.alloc hb5.size _) (fun _ => ?_)
      clear hK K
      try simp only [Act.put, List.getElem_toArray, List.getElem_cons_zero, List.getElem_cons_succ, List.setIfInBounds_toArray, List.set_cons_zero, List.set_cons_succ]
      refine wpAnyH_done (by kernel_rfl) ?_ _
      go_wp2_with fail
      go_meet
      refine ⟨w5.heap.size, A6, c6, rfl, rfl, hc6, hA6.up (below_new w5 _), ⟨by simp [go_sem], by simp [go_sem], by simp [go_sem], by simp [go_sem]⟩, by simp, hb5.alloc hb5.size _⟩
    · go_simp
      refine hK.out _ _ (HD2.out _) (fun _ => ?_)
      clear hK K
      try simp only [Act.put, List.getElem_toArray, List.getElem_cons_zero, List.getElem_cons_succ, List.setIfInBounds_toArray, List.set_cons_zero, List.set_cons_succ]
      refine wpAnyH_ready (rs := [2]) (by kernel_rfl) (by simp) ?_
      refine AllReadyH.cons rfl (fun K hK => ?_) AllReadyH.nil
      go_simp
      refine (HGV.out _ (HD2.out _)).mono ?_
      rintro e w5 ⟨A6, c6, rfl, hc6, hA6, hb6, hge6⟩
      have hb5 := (HD2.out (.cells #[.int .i64 0, .int .i64 0, .int .i64 0, .int .i64 0] 24)).trans (hb6.mono (HD2.out _).size)
      have m0 : w5.cell? ⟨w.heap.size + 1, 0, none⟩ = some (.int .i64 0) := (hb6.cell (p := ⟨w.heap.size + 1, 0, none⟩) (by simp [hz0])).trans (by simp [go_sem, ← hz0])
      have f0 : w5.frozen? ⟨w.heap.size + 1, 0, none⟩ = false := (hb6.frozen (p := ⟨w.heap.size + 1, 0, none⟩) (by simp [hz0])).trans (by simp [go_sem, ← hz0])
      have m1 : w5.cell? ⟨w.heap.size + 1, 1, none⟩ = some (.int .i64 0) := (hb6.cell (p := ⟨w.heap.size + 1, 1, none⟩) (by simp [hz0])).trans (by simp [go_sem, ← hz0])
      have f1 : w5.frozen? ⟨w.heap.size + 1, 1, none⟩ = false := (hb6.frozen (p := ⟨w.heap.size + 1, 1, none⟩) (by simp [hz0])).trans (by simp [go_sem, ← hz0])
      have m2 : w5.cell? ⟨w.heap.size + 1, 2, none⟩ = some (.int .i64 0) := (hb6.cell (p := ⟨w.heap.size + 1, 2, none⟩) (by simp [hz0])).trans (by simp [go_sem, ← hz0])
      have f2 : w5.frozen? ⟨w.heap.size + 1, 2, none⟩ = false := (hb6.frozen (p := ⟨w.heap.size + 1, 2, none⟩) (by simp [hz0])).trans (by simp [go_sem, ← hz0])
      have m3 : w5.cell? ⟨w.heap.size + 1, 3, none⟩ = some (.int .i64 0) := (hb6.cell (p := ⟨w.heap.size + 1, 3, none⟩) (by simp [hz0])).trans (by simp [go_sem, ← hz0])
      have f3 : w5.frozen? ⟨w.heap.size + 1, 3, none⟩ = false := (hb6.frozen (p := ⟨w.heap.size + 1, 3, none⟩) (by simp [hz0])).trans (by simp [go_sem, ← hz0])
      refine hK.out _ _ (hb5) (fun _ => ?_)
      clear hK K
      try simp only [Act.put, List.getElem_toArray, List.getElem_cons_zero, List.getElem_cons_succ, List.setIfInBounds_toArray, List.set_cons_zero, List.set_cons_succ]
      refine wpAnyH_ready (rs := [4]) (by kernel_rfl) (by simp) ?_
      refine AllReadyH.cons rfl (fun K hK => ?_) AllReadyH.nil
      go_simp
      have hb7 := (((hb5.setCell (p := ⟨w.heap.size + 1, 0, none⟩) (by simp only; omega) (.int .i64 r)).setCell (p := ⟨w.heap.size + 1, 1, none⟩) (by simp only; omega) (.int .i64 c)).setCell (p := ⟨w.heap.size + 1, 2, none⟩) (by simp only; omega) (.int .i64 l)).setCell (p := ⟨w.heap.size + 1, 3, none⟩) (by simp only; omega) (.int .i64 v)
      refine hK.out _ _ hb7 (fun _ => ?_)
      clear hK K
      try simp only [Act.put, List.getElem_toArray, List.getElem_cons_zero, List.getElem_cons_succ, List.setIfInBounds_toArray, List.set_cons_zero, List.set_cons_succ]
      refine wpAnyH_ready (rs := [5]) (by kernel_rfl) (by simp) ?_
      refine AllReadyH.cons rfl (fun K hK => ?_) AllReadyH.nil
      go_simp
      refine hK.out _ _ hb7 (fun _ => ?_)
      clear hK K
      try simp only [Act.put, List.getElem_toArray, List.getElem_cons_zero, List.getElem_cons_succ, List.setIfInBounds_toArray, List.set_cons_zero, List.set_cons_succ]
      refine wpAnyH_done (by kernel_rfl) ?_ _
      have hch : Chg (fun i => i = w.heap.size + 1) w5 ((((w5.setCell ⟨w.heap.size + 1, 0, none⟩ (.int .i64 r)).setCell ⟨w.heap.size + 1, 1, none⟩ (.int .i64 c)).setCell ⟨w.heap.size + 1, 2, none⟩ (.int .i64 l)).setCell ⟨w.heap.size + 1, 3, none⟩ (.int .i64 v)) :=
        (((Chg.store w5 ⟨w.heap.size + 1, 0, none⟩ (.int .i64 r)).trans (Chg.store _ ⟨w.heap.size + 1, 1, none⟩ (.int .i64 c)) (fun _ _ e => e)).trans (Chg.store _ ⟨w.heap.size + 1, 2, none⟩ (.int .i64 l)) (fun _ _ e => e)).trans (Chg.store _ ⟨w.heap.size + 1, 3, none⟩ (.int .i64 v)) (fun _ _ e => e)
      have hlt := lt_of_cell m0
      go_wp2_with fail
      go_meet
      refine ⟨w.heap.size + 1, A6, c6, rfl, rfl, hc6, hA6.chg hch (fun ad e h => ?_), ⟨by simp [go_sem, m0], by simp [go_sem, m1], by simp [go_sem, m2], by simp [go_sem, m3]⟩, by simpa using hlt, hb7⟩
      have h9 := hge6 ad e
      simp [hz0] at h9
      omega
  case rest =>
    obtain ⟨g5, A6, c6, rfl, rfl, hc6, hA6, ⟨e0, e1, e2, e3⟩, hg5, hbc⟩ := hcut
    obtain ⟨p0, p1, p2, p3⟩ := HK0.out _ hbc
    have hA := HA.out.up hbc
    have HK := Lib.hid (fun (W' : World) (h : Below wc.heap.size wc W') => show (W'.cell? ⟨w.heap.size, 0, none⟩ = some (.int .i64 r) ∧ W'.cell? ⟨w.heap.size, 1, none⟩ = some (.int .i64 c) ∧ W'.cell? ⟨w.heap.size, 2, none⟩ = some (.int .i64 l) ∧ W'.cell? ⟨w.heap.size, 3, none⟩ = some (.int .i64 v)) ∧ (W'.cell? ⟨g5, 0, none⟩ = some (.int .i64 r) ∧ W'.cell? ⟨g5, 1, none⟩ = some (.int .i64 c) ∧ W'.cell? ⟨g5, 2, none⟩ = some (.int .i64 l) ∧ W'.cell? ⟨g5, 3, none⟩ = some (.int .i64 v)) from ⟨⟨(h.cell (p := ⟨w.heap.size, 0, none⟩) (lt_of_cell p0)).trans p0, (h.cell (p := ⟨w.heap.size, 1, none⟩) (lt_of_cell p0)).trans p1, (h.cell (p := ⟨w.heap.size, 2, none⟩) (lt_of_cell p0)).trans p2, (h.cell (p := ⟨w.heap.size, 3, none⟩) (lt_of_cell p0)).trans p3⟩, (h.cell (p := ⟨g5, 0, none⟩) hg5).trans e0, (h.cell (p := ⟨g5, 1, none⟩) hg5).trans e1, (h.cell (p := ⟨g5, 2, none⟩) hg5).trans e2, (h.cell (p := ⟨g5, 3, none⟩) hg5).trans e3⟩)
    have HBC := Lib.hid (HB.out.trans (hbc.mono (by omega)))
    have HTC := Lib.hid (HT.out.below HBC.out)
    have H28 := Lib.hid (fun (W : World) (h : Below wc.heap.size wc W) => cutsF_any r c l v A cap x W (hA.up h) hn)
    have H29 := Lib.hid (fun (W : World) (h : Below wc.heap.size wc W) => rcutsF_any r c l v A6 c6 x W (hA6.up h) hn hc6)
    have H30 := Lib.hid (fun (W : World) (h : Below wc.heap.size wc W) => straight_any r c l v A cap x W (hA.up h) hn)
    have H31 := Lib.hid (fun (W : World) (h : Below wc.heap.size wc W) => rstraightF_any r c l v A6 c6 x W (hA6.up h) hn hc6)
    have H32 := Lib.hid (fun (W : World) (h : Below wc.heap.size wc W) => rounds_any r c l v A cap x W (hA.up h) hn)
    have H33 := Lib.hid (fun (W : World) (h : Below wc.heap.size wc W) => rroundsF_any r c l v A6 c6 x W (hA6.up h) hn hc6)
    have H35 := Lib.hid (fun (W : World) (h : Below wc.heap.size wc W) => verify_any r c l v A cap x W (hA.up h) hn)
    have H36 := Lib.hid (fun (W : World) (h : Below wc.heap.size wc W) => rverify_any r c l v A6 c6 x W (hA6.up h) hn hc6)
    obtain ⟨hP, hQ⟩ := cutsF_len r c l v x
    unfold RetCut3 at H28 H29
    generalize (cutsF r c l v x).1 = P at *
    generalize (cutsF r c l v x).2 = Q at *
    generalize verF r c l v x = z at *
    generalize strF r c l v x = sf at *
    generalize rouF r c l v x = rf at *
    generalize rouE r c l v x = re at *
    have hcc : Below wc.heap.size wc wc := Below.refl _ _
    clear hA hA6 e0 e1 e2 e3 hbc HA HGV HD2 HK0 hbd hbW hn hc6 HB HT
    have hb0 := hcc
    go_upto_region 10 with (first
      | (go_at_call 28; refine (H28.out _ hb0).mono ?_; rintro e w1 ⟨A1, c1, A2, c2, rfl, hI1, hI2, hb1'⟩; have hb1 := hb0.trans (hb1'.mono hb0.size); obtain ⟨⟨x10, x11, x12, x13⟩, y10, y11, y12, y13⟩ := HK.out _ hb1)
      | (go_at_call 29; refine (H29.out _ hb1).mono ?_; rintro e w2 ⟨A3, c3, A4, c4, rfl, hI3, hI4, hb2'⟩; have hb2 := hb1.trans (hb2'.mono hb1.size); obtain ⟨⟨x20, x21, x22, x23⟩, y20, y21, y22, y23⟩ := HK.out _ hb2)
      | (go_at_call 30; refine (H30.out _ hb2).mono ?_; rintro e w3 ⟨rfl, hb3'⟩; have hb3 := hb2.trans (hb3'.mono hb2.size); obtain ⟨⟨x30, x31, x32, x33⟩, y30, y31, y32, y33⟩ := HK.out _ hb3)
      | (go_at_call 31; refine (H31.out _ hb3).mono ?_; rintro e w4 ⟨rfl, hb4'⟩; have hb4 := hb3.trans (hb4'.mono hb3.size); obtain ⟨⟨x40, x41, x42, x43⟩, y40, y41, y42, y43⟩ := HK.out _ hb4)
      | (go_at_call 32; refine (H32.out _ hb4).mono ?_; rintro e w5 ⟨rfl, hb5'⟩; have hb5 := hb4.trans (hb5'.mono hb4.size); obtain ⟨⟨x50, x51, x52, x53⟩, y50, y51, y52, y53⟩ := HK.out _ hb5)
      | (go_at_call 33; refine (H33.out _ hb5).mono ?_; rintro e w6 ⟨rfl, hb6'⟩; have hb6 := hb5.trans (hb6'.mono hb5.size); obtain ⟨⟨x60, x61, x62, x63⟩, y60, y61, y62, y63⟩ := HK.out _ hb6))
    have HJ1 := Lib.hid (((((hI1.up hb2').up hb3').up hb4').up hb5').up hb6')
    have HJ2 := Lib.hid (((((hI2.up hb2').up hb3').up hb4').up hb5').up hb6')
    have HJ3 := Lib.hid ((((hI3.up hb3').up hb4').up hb5').up hb6')
    have HJ4 := Lib.hid ((((hI4.up hb3').up hb4').up hb5').up hb6')
    have HB6 := Lib.hid hb6
    have HK6 := Lib.hid (fun (W : World) (h : Below w6.heap.size w6 W) => HK.out W (HB6.out.trans (h.mono HB6.out.size)))
    have QA := Lib.hid (fun (W : World) (Q' : Ending → World → Prop) (h : Below w6.heap.size w6 W) (hQ' : ∀ w', Below w6.heap.size w6 w' → Q' (.returned (.bool true)) w') => (same_any A1 A3 c1 c3 P P W hP (HJ1.out.up h) (HJ3.out.up h)).mono fun e w' ⟨he, hb⟩ => by rw [he, decide_eq_true rfl]; exact hQ' w' (h.trans (hb.mono h.size)))
    have QB := Lib.hid (fun (W : World) (Q' : Ending → World → Prop) (h : Below w6.heap.size w6 W) (hQ' : ∀ w', Below w6.heap.size w6 w' → Q' (.returned (.bool true)) w') => (same_any A2 A4 c2 c4 Q Q W hQ (HJ2.out.up h) (HJ4.out.up h)).mono fun e w' ⟨he, hb⟩ => by rw [he, decide_eq_true rfl]; exact hQ' w' (h.trans (hb.mono h.size)))
    have QC := Lib.hid (fun (W : World) (Q' : Ending → World → Prop) (h : Below w6.heap.size w6 W) (hQ' : ∀ w', Below w6.heap.size w6 w' → Q' (.returned (.int .i64 z)) w') => (H35.out W (HB6.out.trans (h.mono HB6.out.size))).mono fun e w' ⟨he, hb⟩ => he ▸ hQ' w' (h.trans (hb.mono h.size)))
    have QD := Lib.hid (fun (W : World) (Q' : Ending → World → Prop) (h : Below w6.heap.size w6 W) (hQ' : ∀ w', Below w6.heap.size w6 w' → Q' (.returned (.int .i64 z)) w') => (H36.out W (HB6.out.trans (h.mono HB6.out.size))).mono fun e w' ⟨he, hb⟩ => he ▸ hQ' w' (h.trans (hb.mono h.size)))
    have QE := Lib.hid (fun (W : World) (Q' : Ending → World → Prop) (h : Below w6.heap.size w6 W) (hQ' : ∀ w', Below w6.heap.size w6 w' → Q' (.returned (.bool true)) w') => (HW.out W (HTC.out.below (HB6.out.trans (h.mono HB6.out.size)))).mono fun e w' ⟨he, hb⟩ => he ▸ hQ' w' (h.trans (hb.mono h.size)))
    have hd6 : Below w6.heap.size w6 w6.drew := (Below.refl _ _).drew
    have HF := Lib.hid (HBC.out.trans (HB6.out.mono HBC.out.size))
    clear hI1 hI2 hI3 hI4 hb0 hb1 hb2 hb3 hb4 hb5 hb6 hb1' hb2' hb3' hb4' hb5' hb6' hcc x10 y10 x11 y11 x12 y12 x13 y13 x20 y20 x21 y21 x22 y22 x23 y23 x30 y30 x31 y31 x32 y32 x33 y33 x40 y40 x41 y41 x42 y42 x43 y43 x50 y50 x51 y51 x52 y52 x53 y53 x60 y60 x61 y61 x62 y62 x63 y63 p0 p1 p2 p3
    go_region_held3 (fun W => (W.cell? ⟨w.heap.size, 0, none⟩ = some (.int .i64 r) ∧ W.cell? ⟨w.heap.size, 1, none⟩ = some (.int .i64 c) ∧ W.cell? ⟨w.heap.size, 2, none⟩ = some (.int .i64 l) ∧ W.cell? ⟨w.heap.size, 3, none⟩ = some (.int .i64 v)) ∧ (W.cell? ⟨g5, 0, none⟩ = some (.int .i64 r) ∧ W.cell? ⟨g5, 1, none⟩ = some (.int .i64 c) ∧ W.cell? ⟨g5, 2, none⟩ = some (.int .i64 l) ∧ W.cell? ⟨g5, 3, none⟩ = some (.int .i64 v)))
      (exact HK6.out _ (by assumption))
      (first
        | (go_at_call 34; with_reducible refine QA.out _ _ (by assumption) ?_; intro v1 k1)
        | (go_at_call 34; with_reducible refine QB.out _ _ (by assumption) ?_; intro v2 k2)
        | (go_at_call 35; with_reducible refine QC.out _ _ (by assumption) ?_; intro v3 k3)
        | (go_at_call 36; with_reducible refine QD.out _ _ (by assumption) ?_; intro v4 k4)
        | (go_at_call 22; with_reducible refine QE.out _ _ (by assumption) ?_; intro v5 k5))
    all_goals
      go_wp2
      go_ret
      exact ⟨rfl, HF.out.trans (Below.mono (by assumption) HF.out.size)⟩
end Go.Proofs.YtlollcabnfncpaaDoor
