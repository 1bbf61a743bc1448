/-
  The walk of the statement on one more way and on a way told more exactly: it answers true.
-/
import Derived.Test.YtcebihijnedekaaDoorMoreB
namespace Go.Proofs.YtcebihijnedekaaDoor
open Go.RowKit

/-- Two cells of a block. -/
def C2M (h0 : Nat) (x y : Value) (w : World) : Prop := w.cell? ⟨h0, 0, none⟩ = some x ∧ w.cell? ⟨h0, 1, none⟩ = some y
/-- What the two last changes read. -/
def C2N (g7 g : Nat) (v : Value) (off : Nat) (u : Value) (w : World) : Prop := w.cell? ⟨g7, 1, none⟩ = some v ∧ w.cell? ⟨g, off, none⟩ = some u
theorem run_field24 (R : Int) (B : Option Addr) (n c : Nat) (W : World) : (Instr.field 24 (.agg #[.int .i64 R, .slice B n c]) 1).run Tryd.prog W = .ok (.slice B n c) W := by kernel_rfl
theorem C2M.up {h0 : Nat} {x y : Value} {W W' : World} (h : C2M h0 x y W) {B : Nat} (hb : Below B W W') (hl : h0 < B) : C2M h0 x y W' := ⟨(hb.cell (p := ⟨h0, 0, none⟩) hl).trans h.1, (hb.cell (p := ⟨h0, 1, none⟩) hl).trans h.2⟩


set_option maxRecDepth 100000 in
set_option maxHeartbeats 8000000 in
theorem lawMore_T (w : World) (q p b : Int) (more : H4) (A : Option Addr) (c : Nat) (hs : List H4) (hq : 0 ≤ q ∧ q ≤ 255) (hp : 0 ≤ p ∧ p ≤ 255) (hb : 0 ≤ b ∧ b ≤ 255) (hmo : okH more) (hok : ∀ h ∈ hs, okH h) (hw : HouseAt w w.heap.size A hs) (ht : SizesAt w) (hag0 : agrS (roomsH q).toNat (madeS q hs 11) = true) :
    Calls Tryd.prog 12 #[.agg #[.int .u8 q, .slice A hs.length c], .int .u8 p, .int .u8 b, .agg #[.int .u8 more.a, .int .u8 more.b, .int .u8 more.c, .int .u8 more.d]] w fun e w' => e = .returned (.bool true) ∧ Below w.heap.size w w' := by
  have hbx : Below w.heap.size w ((w.alloc (.cells #[.int .u8 q, .slice A hs.length c] 63)).alloc (.cells #[.int .u8 more.a, .int .u8 more.b, .int .u8 more.c, .int .u8 more.d] 76)) := ((Below.refl w.heap.size w).alloc (Nat.le_refl _) _).alloc (by simp) _
  have hw0 := (hw.below hbx (Nat.le_refl _)).mono (B' := ((w.alloc (.cells #[.int .u8 q, .slice A hs.length c] 63)).alloc (.cells #[.int .u8 more.a, .int .u8 more.b, .int .u8 more.c, .int .u8 more.d] 76)).heap.size) (by simp <;> omega)
  have ht0 := ht.below hbx
  have HM := Lib.hid (fun W hW => madeE_any q hq A c 11 hs W (by decide) (by decide) hok hW)
  obtain ⟨rooms, hR, hr2, hr4, hch, hv, hsd, hwd⟩ := chk_made (r := q) (hs := hs) (most := 11) hok (by decide)
  rw [hR] at HM hag0
  change agrS rooms (madeS q hs 11) = true at hag0
  have hl11 := madeS_len q hs 11
  have hyo := wayH_ok (R := rooms) (by omega) hmo
  have HM1 := Lib.hid (fun A' W hW => made1_any q hq rooms hR more hmo A' W hW)
  generalize madeS q hs 11 = ws at HM hch hag0 hv hsd hwd hl11
  have ha := (agrS_iff hv.inW).1 hag0
  obtain ⟨y, hy⟩ : ∃ y : Wy, y = { wayH rooms more with lo := 0 } := ⟨_, rfl⟩
  have hY : y.src = (wayH rooms more).src ∧ y.dst = (wayH rooms more).dst ∧ y.lo = 0 ∧ y.hi = (wayH rooms more).hi := by subst hy; exact ⟨rfl, rfl, rfl, rfl⟩
  generalize wayH rooms more = z at hyo HM1 hY
  clear hy
  obtain ⟨N1, hN1⟩ : ∃ N1, ws.length + 1 = N1 := ⟨_, rfl⟩
  have hall : ∀ x ∈ ws ++ [y], (0 ≤ x.src ∧ x.src < rooms) ∧ (0 ≤ x.dst ∧ x.dst < rooms) ∧ x.src ≠ x.dst ∧ 0 ≤ x.lo ∧ x.lo ≤ x.hi ∧ x.hi ≤ 99 := by
    intro x hx
    rcases List.mem_append.1 hx with hx | hx
    · have h1 := hv.way x hx
      exact ⟨h1.1, h1.2.1, hsd x hx, h1.2.2.1, h1.2.2.2.1, h1.2.2.2.2⟩
    · obtain rfl : x = y := by simpa using hx
      omega
  have hch2 := chk_of (rooms := rooms) hr2 (by omega) (by simp; omega) hall
  obtain ⟨rooms', hre, _, hv2, _⟩ := chk_ok hch2
  obtain rfl : rooms = rooms' := by omega
  have hag2 := (agrS_iff hv2.inW).2 (agr_snoc hv.inW hv.okW hv2.inW ha hY.2.2.1 (by omega))
  have HSPA := Lib.hid (fun A' c' W hW hT => spans_ok hch hag0 A' c' ws.length W rfl hW hT)
  have HSPB := Lib.hid (fun A' c' W hW hT => spans_ok hch2 hag2 A' c' N1 W (by simp; omega) hW hT)
  have HWD : Hid (∀ (j : Nat) p, (ws.map (spanS rooms ws))[j]? = some p → ∃ p2, ((ws ++ [y]).map (spanS rooms (ws ++ [y])))[j]? = some p2 ∧ p2.1 ≤ p.1 ∧ p.2 ≤ p2.2) := Lib.hid (fun j p hp => by
    rw [List.getElem?_map] at hp
    cases hx : ws[j]? with
    | none => rw [hx] at hp; cases hp
    | some x =>
      rw [hx] at hp
      cases hp
      have hs := span_wide hv.inW hv.okW ha hv2.inW hY.2.2.1 (by omega) hx
      exact ⟨_, by rw [List.getElem?_map, List.getElem?_append_left (lt_of_get hx), hx]; rfl, hs.1, hs.2⟩)
  have HNR := Lib.hid (fun h0 => nar_facts (b := b) hr2 hv hsd h0 hp.1)
  have HY := Lib.hid hY
  have hspl : (ws.map (spanS rooms ws)).length = ws.length := by simp
  have hwp1 : IntKind.i64.wrap p = p := IntWalk.i64_in _ (by omega)
  have hwp2 : IntKind.i64.wrap b = b := IntWalk.i64_in _ (by omega)
  have hwN : IntKind.i64.wrap ((ws.length : Int) + 1) = (N1 : Int) := by rw [IntWalk.i64_in _ (by omega)]; omega
  generalize ws.map (spanS rooms ws) = sp at HSPA HWD HNR hspl
  generalize (ws ++ [y]).map (spanS rooms (ws ++ [y])) = sp2 at HSPB HWD
  clear hok hR hag0 hag2 hch2 hall hw hmo hre hv2 hyo ha hch hv hsd hwd hY
  have hfld := run_field24
  go_enter Tryd.func12, Tryd.ntmps12
  go_wp2_with (first
    | (go_at_call 44; (fail_if_success (have := hP2)); refine (HM.out _ hw0).mono ?_; rintro e w1 ⟨A1, c1, rfl, hz1, hA1, hb1⟩; have hs1 := hb1.size; simp only [World.size_alloc] at hs1; have ht2 := (ht0.below hb1).below (bnew w1 (.cells #[.int .i64 rooms, .slice A1 ws.length c1] 24)); have hA1' := waysUp hA1 (bnew w1 (.cells #[.int .i64 rooms, .slice A1 ws.length c1] 24)))
    | (go_at_call 35; refine (HSPA.out A1 c1 _ hA1' ht2).mono ?_; rintro e w2 ⟨A2, c2, rfl, hP2, hb2⟩; have hs2 := hb2.size; simp only [World.size_alloc] at hs2; have ht3 := ht2.below hb2; have hA2 := waysUp hA1' hb2; have e0 : w2.cell? ⟨w1.heap.size, 0, none⟩ = some (.int .i64 rooms) := ((hb2.cell (p := ⟨w1.heap.size, 0, none⟩) (by simp)).trans (by simp [go_sem])); have e1 : w2.cell? ⟨w1.heap.size, 1, none⟩ = some (.slice A1 ws.length c1) := ((hb2.cell (p := ⟨w1.heap.size, 1, none⟩) (by simp)).trans (by simp [go_sem]));
        have hb12 : Below (w.heap.size + 2) ((w.alloc (.cells #[.int .u8 q, .slice A hs.length c] 63)).alloc (.cells #[.int .u8 more.a, .int .u8 more.b, .int .u8 more.c, .int .u8 more.d] 76)) w2 := (hb1.mono (by simp)).trans (((bnew w1 _).mono (by omega)).trans (hb2.mono (by simp; omega)));
        have x0 : w2.cell? ⟨w.heap.size, 0, none⟩ = some (.int .u8 q) := (hb12.cell (p := ⟨w.heap.size, 0, none⟩) (by simp)).trans (by simp [go_sem]);
        have x1 : w2.cell? ⟨w.heap.size + 1, 0, none⟩ = some (.int .u8 more.a) := (hb12.cell (p := ⟨w.heap.size + 1, 0, none⟩) (by simp)).trans (by simp [go_sem]);
        have x2 : w2.cell? ⟨w.heap.size + 1, 1, none⟩ = some (.int .u8 more.b) := (hb12.cell (p := ⟨w.heap.size + 1, 1, none⟩) (by simp)).trans (by simp [go_sem]);
        have x3 : w2.cell? ⟨w.heap.size + 1, 2, none⟩ = some (.int .u8 more.c) := (hb12.cell (p := ⟨w.heap.size + 1, 2, none⟩) (by simp)).trans (by simp [go_sem]);
        have x4 : w2.cell? ⟨w.heap.size + 1, 3, none⟩ = some (.int .u8 more.d) := (hb12.cell (p := ⟨w.heap.size + 1, 3, none⟩) (by simp)).trans (by simp [go_sem]);
        have hho := house_one w2 more)
    | (go_at_call 44; refine (HM1.out _ _ hho).mono ?_; rintro e w3 ⟨g3, c3, rfl, k1, k2, k3, k4, k5, k6, k7, hb3⟩; simp only [World.size_alloc] at k1; have hb3' := (bnew w2 _).trans (hb3.mono (by simp)); have e2 := (hb3'.cell (p := ⟨w1.heap.size, 0, none⟩) (by simp; omega)).trans e0; have e3 := (hb3'.cell (p := ⟨w1.heap.size, 1, none⟩) (by simp; omega)).trans e1))
  clear hfld
  have hs3 := hb3.size
  simp only [World.size_alloc] at hs3
  obtain ⟨W0, hW0⟩ : ∃ W0, W0 = w3.setCell ⟨g3, 2, none⟩ (.int .i64 0) := ⟨_, rfl⟩
  have hb20 : Below w2.heap.size w2 W0 := by rw [hW0]; exact hb3'.setCell (p := ⟨g3, 2, none⟩) (by simp; omega) _
  have hg9 : w1.heap.size < W0.heap.size := by rw [hW0]; simp; omega
  have hA0 : WaysAt W0 W0.heap.size A1 ws := waysUp hA2 hb20
  have hP0 := pairsUpM hP2 hb20
  have ht4 := ht3.below hb20
  have f0 : W0.cell? ⟨w1.heap.size, 0, none⟩ = some (.int .i64 rooms) := (hb20.cell (p := ⟨w1.heap.size, 0, none⟩) (by simp; omega)).trans e0
  have f1 : W0.cell? ⟨w1.heap.size, 1, none⟩ = some (.slice A1 ws.length c1) := (hb20.cell (p := ⟨w1.heap.size, 1, none⟩) (by simp; omega)).trans e1
  have hY0 : WaysAt W0 W0.heap.size (some ⟨g3, 0, none⟩) [y] := by
    intro k x hx
    obtain rfl : k = 0 := by have := lt_of_get hx; simp at this; omega
    cases hx
    obtain ⟨v1, v2, v3, v4⟩ := HY.out
    refine ⟨g3, 0, rfl, by rw [hW0]; simpa using k2, ?_, ?_, ?_, ?_⟩
    · rw [v1, hW0]; simp [go_sem, k3]
    · rw [v2, hW0]; simp [go_sem, k4]
    · rw [v3, hW0]; simp [go_sem, k5]
    · rw [v4, hW0]; simp [go_sem, k6]
  have hb00 : Below w.heap.size w W0 := hbx.trans ((hb1.mono (by simp <;> omega)).trans (((bnew w1 _).mono (by omega)).trans ((hb2.mono (by simp; omega)).trans (hb20.mono (by omega)))))
  have hsW : w.heap.size ≤ W0.heap.size := hb00.size
  rw [← hW0]
  clear hW0 hb20 hb3' hb3 hb2 hb1 hb12 x0 x1 x2 x3 x4 hho e0 e1 e2 e3 k1 k2 k3 k4 k5 k6 k7 hs3 hs2 hs1 hA2 hA1' hA1 hP2 ht3 ht2 ht0 hw0 ht hbx HM HM1 HSPA HY
  obtain ⟨g9, hg⟩ : ∃ g9, g9 = w1.heap.size := ⟨_, rfl⟩
  rw [← hg] at hg9 f0 f1
  rw [← hg]
  clear hg
  go_upto_region 9 with fail
  go_cut [13] (fun s7 wx => ∃ g7 g cap : Nat, s7 = .pointer (some ⟨g7, 0, none⟩) ∧ W0.heap.size ≤ g7 ∧ g7 < wx.heap.size ∧ W0.heap.size ≤ g ∧ g < wx.heap.size ∧ ¬ g7 = g ∧ wx.cell? ⟨g7, 0, none⟩ = some (.int .i64 rooms) ∧ wx.cell? ⟨g7, 1, none⟩ = some (.slice (some ⟨g, 0, none⟩) N1 cap) ∧
    wx.ownsRow W0.heap.size 74 4 (.slice (some ⟨g, 0, none⟩) N1 cap) N1 (wcells ws ++ wcells [y]) ∧ Below W0.heap.size W0 wx)
  case first =>
    clear HSPB HWD HNR
    have hS00 : C2M g9 (.int .i64 rooms) (.slice A1 ws.length c1) W0 := ⟨f0, f1⟩
    have hS0 : C2M g9 (.int .i64 rooms) (.slice A1 ws.length c1) W0.drew := ⟨f0, f1⟩
    refine wp_region_held (S := C2M g9 (.int .i64 rooms) (.slice A1 ws.length c1)) (by kernel_rfl) ?_
    try (change wpAnyH _ _ _ _ _ _ _ _ (World.drew _))
    refine wpAnyH_take (i := 0) (v := ?_) rfl (by kernel_rfl) (by kernel_rfl) (by kernel_rfl) (fun _ _ _ h => h) (Or.inl ⟨by rfl, ?_⟩) (by assumption) ?_
    rotate_left
    · intro w hSw; obtain ⟨s0, s1⟩ := hSw; go_simp; try with_reducible rfl
    try simp only [Act.put, List.getElem_toArray, List.getElem_cons_zero, List.setIfInBounds_toArray, List.set_cons_zero, List.set_cons_succ]
    refine wpAnyH_take (i := 1) (v := ?_) rfl (by kernel_rfl) (by kernel_rfl) (by kernel_rfl) (fun _ _ _ h => h) (Or.inl ⟨by rfl, ?_⟩) (by assumption) ?_
    rotate_left
    · intro w hSw; obtain ⟨s0, s1⟩ := hSw; go_simp; try with_reducible rfl
    try simp only [Act.put, List.getElem_toArray, List.getElem_cons_zero, List.getElem_cons_succ, List.setIfInBounds_toArray, List.set_cons_zero, List.set_cons_succ]
    refine wpAnyH_take (i := 3) (v := ?_) rfl (by kernel_rfl) (by kernel_rfl) (by kernel_rfl) (fun _ _ _ h => h) (Or.inl ⟨by rfl, ?_⟩) (by assumption) ?_
    rotate_left
    · intro w hSw; obtain ⟨s0, s1⟩ := hSw; go_simp; try with_reducible rfl
    try simp only [Act.put, List.getElem_toArray, List.getElem_cons_zero, List.getElem_cons_succ, List.setIfInBounds_toArray, List.set_cons_zero, List.set_cons_succ]
    refine wpAnyH_take (i := 4) (v := ?_) rfl (by kernel_rfl) (by kernel_rfl) (by kernel_rfl) (fun _ _ _ h => h) (Or.inl ⟨by rfl, ?_⟩) (by assumption) ?_
    rotate_left
    · intro w hSw; obtain ⟨s0, s1⟩ := hSw; go_simp; try with_reducible rfl
    try simp only [Act.put, List.getElem_toArray, List.getElem_cons_zero, List.getElem_cons_succ, List.setIfInBounds_toArray, List.set_cons_zero, List.set_cons_succ]
    refine wpAnyH_take (i := 6) (v := ?_) rfl (by kernel_rfl) (by kernel_rfl) (by kernel_rfl) (fun _ _ _ h => h) (Or.inl ⟨by rfl, ?_⟩) (by assumption) ?_
    rotate_left
    · intro w hSw; obtain ⟨s0, s1⟩ := hSw; go_simp; try with_reducible rfl
    try simp only [Act.put, List.getElem_toArray, List.getElem_cons_zero, List.getElem_cons_succ, List.setIfInBounds_toArray, List.set_cons_zero, List.set_cons_succ]
    refine wpAnyH_ready (rs := [2, 9]) (by kernel_rfl) (by simp) ?_
    refine AllReadyH.cons rfl (fun K hK => ?_) (AllReadyH.cons rfl (fun K hK => ?_) AllReadyH.nil)
    · go_simp
      have hb1 : Below W0.heap.size W0 (W0.drew.alloc (.cells #[] 74)) := ((Below.refl _ _).drew).alloc (Nat.le_refl _) _
      refine hK.out _ _ (hS0.up ((Below.refl _ _).alloc (Nat.le_refl _) _) (by simp; omega)) (fun _ => ?_)
      clear hK K
      try simp only [Act.put, List.getElem_toArray, List.getElem_cons_zero, List.getElem_cons_succ, List.setIfInBounds_toArray, List.set_cons_zero, List.set_cons_succ]
      refine wpAnyH_ready (rs := [5, 9]) (by kernel_rfl) (by simp) ?_
      refine AllReadyH.cons rfl (fun K hK => ?_) (AllReadyH.cons rfl (fun K hK => ?_) AllReadyH.nil)
      · refine step_ways rfl _ _ rfl W0.heap.size 0 ws.length ws.length W0.heap.size 0 c1 [] A1 ws rfl (by exact World.ownsRow_made W0 #[] 0 (Nat.le_refl _) (by unfold maxLen; omega) rfl) rfl rfl hz1 (by exact waysUp hA0 hb1) (by omega) (by omega) (by simp <;> omega) ?_
        intro g4 cap4 w4 hown4 hgrow4 hg4
        have hb4 : Below W0.heap.size W0 w4 := hb1.grown hgrow4 (by simp) (fun g hg => by cases hg; exact Nat.le_refl _)
        have hgl4 := hown4.lt g4 rfl
        refine hK.out _ _ (hS00.up hb4 (by omega)) (fun _ => ?_)
        clear hK K
        try simp only [Act.put, List.getElem_toArray, List.getElem_cons_zero, List.getElem_cons_succ, List.setIfInBounds_toArray, List.set_cons_zero, List.set_cons_succ]
        refine wpAnyH_ready (rs := [7, 9]) (by kernel_rfl) (by simp) ?_
        refine AllReadyH.cons rfl (fun K hK => ?_) (AllReadyH.cons rfl (fun K hK => ?_) AllReadyH.nil)
        · refine step_ways rfl _ _ rfl W0.heap.size ws.length 1 N1 g4 cap4 c3 (wcells ws) (some ⟨g3, 0, none⟩) [y] rfl (by exact hown4) rfl rfl (fun h => absurd h (by decide)) (by exact waysUp hY0 hb4) hN1 (by omega) (by first | exact hb4.size | (simp <;> omega)) ?_
          intro g5 cap5 w5 hown5 hgrow5 hg5
          have hb5 : Below W0.heap.size W0 w5 := hb4.grown hgrow5 hb4.size (fun g hg => by cases hg; exact hgl4.1)
          have hgl5 := hown5.lt g5 rfl
          refine hK.out _ _ (hS00.up hb5 (by omega)) (fun _ => ?_)
          clear hK K
          try simp only [Act.put, List.getElem_toArray, List.getElem_cons_zero, List.getElem_cons_succ, List.setIfInBounds_toArray, List.set_cons_zero, List.set_cons_succ]
          refine wpAnyH_take (i := 8) (v := ?_) rfl (by kernel_rfl) (by kernel_rfl) (by kernel_rfl) (fun _ _ _ h => h) (Or.inl ⟨by rfl, ?_⟩) (by assumption) ?_
          rotate_left
          · intro w hSw; obtain ⟨s0, s1⟩ := hSw; go_simp; try with_reducible rfl
          try simp only [Act.put, List.getElem_toArray, List.getElem_cons_zero, List.getElem_cons_succ, List.setIfInBounds_toArray, List.set_cons_zero, List.set_cons_succ]
          refine wpAnyH_ready (rs := [9]) (by kernel_rfl) (by simp) ?_
          refine AllReadyH.cons rfl (fun K hK => ?_) AllReadyH.nil
          go_simp
          refine hK.out _ _ ((hS00.up hb5 (by omega)).up ((Below.refl w5.heap.size w5).alloc (Nat.le_refl _) _) (by have := hb5.size; omega)) (fun _ => ?_)
          clear hK K
          try simp only [Act.put, List.getElem_toArray, List.getElem_cons_zero, List.getElem_cons_succ, List.setIfInBounds_toArray, List.set_cons_zero, List.set_cons_succ]
          refine wpAnyH_ready (rs := [10]) (by kernel_rfl) (by simp) ?_
          refine AllReadyH.cons rfl (fun K hK => ?_) AllReadyH.nil
          go_simp
          refine hK.out _ _ ((hS00.up hb5 (by omega)).up ((Below.refl w5.heap.size w5).alloc (Nat.le_refl _) _) (by have := hb5.size; omega)) (fun _ => ?_)
          clear hK K
          try simp only [Act.put, List.getElem_toArray, List.getElem_cons_zero, List.getElem_cons_succ, List.setIfInBounds_toArray, List.set_cons_zero, List.set_cons_succ]
          refine wpAnyH_done (by kernel_rfl) ?_ _
          have hs5 := hb5.size
          go_wp2_with fail
          go_meet
          exact ⟨w5.heap.size, g5, cap5, rfl, hs5, by simp, hgl5.1, by simp; omega, by omega, by simp [go_sem], by simp [go_sem], hown5.alloc _, hb5.alloc hs5 _⟩
        · go_simp
          have hb4a : Below W0.heap.size W0 (w4.alloc (.cells #[.int .i64 0, .slice none 0 0] 24)) := hb4.alloc hb4.size _
          refine hK.out _ _ (hS00.up hb4a (by omega)) (fun _ => ?_)
          clear hK K
          try simp only [Act.put, List.getElem_toArray, List.getElem_cons_zero, List.getElem_cons_succ, List.setIfInBounds_toArray, List.set_cons_zero, List.set_cons_succ]
          refine wpAnyH_ready (rs := [7]) (by kernel_rfl) (by simp) ?_
          refine AllReadyH.cons rfl (fun K hK => ?_) AllReadyH.nil
          refine step_ways rfl _ _ rfl W0.heap.size ws.length 1 N1 g4 cap4 c3 (wcells ws) (some ⟨g3, 0, none⟩) [y] rfl (by exact (hown4.alloc _)) rfl rfl (fun h => absurd h (by decide)) (by exact waysUp hY0 hb4a) hN1 (by omega) (by first | exact hb4.size | (simp <;> omega)) ?_
          intro g5 cap5 w5 hown5 hgrow5 hg5
          have hb5 : Below W0.heap.size W0 w5 := hb4a.grown hgrow5 hb4a.size (fun g hg => by cases hg; exact hgl4.1)
          have hgl5 := hown5.lt g5 rfl
          have hn5 : ¬ w4.heap.size = g5 := by
            rcases hg5 with h | h
            · omega
            · simp at h; omega
          have hs4 := hb4.size
          have hs5 : w4.heap.size + 1 ≤ w5.heap.size := by have := hgrow5.size; simpa using this
          have y0 : w5.cell? ⟨w4.heap.size, 0, none⟩ = some (.int .i64 0) := (World.cell?_of_block (a := ⟨w4.heap.size, 0, none⟩) (hgrow5.block (w4.heap.size) (by simp <;> omega) (by simp <;> omega))).trans (by simp [go_sem])
          have y1 : w5.cell? ⟨w4.heap.size, 1, none⟩ = some (.slice none 0 0) := (World.cell?_of_block (a := ⟨w4.heap.size, 1, none⟩) (hgrow5.block (w4.heap.size) (by simp <;> omega) (by simp <;> omega))).trans (by simp [go_sem])
          have y2 : w5.frozen? ⟨w4.heap.size, 0, none⟩ = false := (World.frozen?_of_block (a := ⟨w4.heap.size, 0, none⟩) (hgrow5.block (w4.heap.size) (by simp <;> omega) (by simp <;> omega))).trans (by simp [go_sem])
          have y3 : w5.frozen? ⟨w4.heap.size, 1, none⟩ = false := (World.frozen?_of_block (a := ⟨w4.heap.size, 1, none⟩) (hgrow5.block (w4.heap.size) (by simp <;> omega) (by simp <;> omega))).trans (by simp [go_sem])
          refine hK.out _ _ (hS00.up hb5 (by omega)) (fun _ => ?_)
          clear hK K
          try simp only [Act.put, List.getElem_toArray, List.getElem_cons_zero, List.getElem_cons_succ, List.setIfInBounds_toArray, List.set_cons_zero, List.set_cons_succ]
          refine wpAnyH_take (i := 8) (v := ?_) rfl (by kernel_rfl) (by kernel_rfl) (by kernel_rfl) (fun _ _ _ h => h) (Or.inl ⟨by rfl, ?_⟩) (by assumption) ?_
          rotate_left
          · intro w hSw; obtain ⟨s0, s1⟩ := hSw; go_simp; try with_reducible rfl
          try simp only [Act.put, List.getElem_toArray, List.getElem_cons_zero, List.getElem_cons_succ, List.setIfInBounds_toArray, List.set_cons_zero, List.set_cons_succ]
          refine wpAnyH_ready (rs := [10]) (by kernel_rfl) (by simp) ?_
          refine AllReadyH.cons rfl (fun K hK => ?_) AllReadyH.nil
          go_simp
          refine hK.out _ _ (hS00.up ((hb5.setCell (p := ⟨w4.heap.size, 0, none⟩) (by simp; omega) _).setCell (p := ⟨w4.heap.size, 1, none⟩) (by simp; omega) _) (by omega)) (fun _ => ?_)
          clear hK K
          try simp only [Act.put, List.getElem_toArray, List.getElem_cons_zero, List.getElem_cons_succ, List.setIfInBounds_toArray, List.set_cons_zero, List.set_cons_succ]
          refine wpAnyH_done (by kernel_rfl) ?_ _
          go_wp2_with fail
          go_meet
          exact ⟨w4.heap.size, g5, cap5, rfl, by omega, by simp; omega, hgl5.1, by simp; omega, hn5, by simp [go_sem, y0], by simp [go_sem, y1], ownsRow_setCell_other (ownsRow_setCell_other hown5 (by simp [Value.ownBlock]; omega) _) (by simp [Value.ownBlock]; omega) _, (hb5.setCell (p := ⟨w4.heap.size, 0, none⟩) (by simp <;> omega) _).setCell (p := ⟨w4.heap.size, 1, none⟩) (by simp <;> omega) _⟩
      · go_simp
        have hb2 : Below W0.heap.size W0 (((W0.alloc (.cells #[] 74)).alloc (.cells #[.int .i64 0, .slice none 0 0] 24)).drew) := (((Below.refl _ _).alloc (Nat.le_refl _) _).alloc (by simp) _).drew
        refine hK.out _ _ (hS00.up hb2 (by omega)) (fun _ => ?_)
        clear hK K
        try simp only [Act.put, List.getElem_toArray, List.getElem_cons_zero, List.getElem_cons_succ, List.setIfInBounds_toArray, List.set_cons_zero, List.set_cons_succ]
        refine wpAnyH_ready (rs := [5]) (by kernel_rfl) (by simp) ?_
        refine AllReadyH.cons rfl (fun K hK => ?_) AllReadyH.nil
        refine step_ways rfl _ _ rfl W0.heap.size 0 ws.length ws.length W0.heap.size 0 c1 [] A1 ws rfl (by exact (World.ownsRow_made W0 #[] 0 (Nat.le_refl _) (by unfold maxLen; omega) rfl).alloc _) rfl rfl hz1 (by exact waysUp hA0 hb2) (by omega) (by omega) (by simp <;> omega) ?_
        intro g4 cap4 w4 hown4 hgrow4 hg4
        have hb4 : Below W0.heap.size W0 w4 := hb2.grown hgrow4 (by simp <;> omega) (fun g hg => by cases hg; first | exact Nat.le_refl _ | omega)
        have hgl4 := hown4.lt g4 rfl
        have hn4 : ¬ (W0.heap.size + 1) = g4 := by
          rcases hg4 with h | h
          · omega
          · simp at h; omega
        have hs4 : W0.heap.size + 2 ≤ w4.heap.size := by have := hgrow4.size; simpa using this
        have y0 : w4.cell? ⟨(W0.heap.size + 1), 0, none⟩ = some (.int .i64 0) := (World.cell?_of_block (a := ⟨(W0.heap.size + 1), 0, none⟩) (hgrow4.block ((W0.heap.size + 1)) (by simp <;> omega) (by simp <;> omega))).trans (by simp [go_sem])
        have y1 : w4.cell? ⟨(W0.heap.size + 1), 1, none⟩ = some (.slice none 0 0) := (World.cell?_of_block (a := ⟨(W0.heap.size + 1), 1, none⟩) (hgrow4.block ((W0.heap.size + 1)) (by simp <;> omega) (by simp <;> omega))).trans (by simp [go_sem])
        have y2 : w4.frozen? ⟨(W0.heap.size + 1), 0, none⟩ = false := (World.frozen?_of_block (a := ⟨(W0.heap.size + 1), 0, none⟩) (hgrow4.block ((W0.heap.size + 1)) (by simp <;> omega) (by simp <;> omega))).trans (by simp [go_sem])
        have y3 : w4.frozen? ⟨(W0.heap.size + 1), 1, none⟩ = false := (World.frozen?_of_block (a := ⟨(W0.heap.size + 1), 1, none⟩) (hgrow4.block ((W0.heap.size + 1)) (by simp <;> omega) (by simp <;> omega))).trans (by simp [go_sem])
        refine hK.out _ _ (hS00.up hb4 (by omega)) (fun _ => ?_)
        clear hK K
        try simp only [Act.put, List.getElem_toArray, List.getElem_cons_zero, List.getElem_cons_succ, List.setIfInBounds_toArray, List.set_cons_zero, List.set_cons_succ]
        refine wpAnyH_ready (rs := [7]) (by kernel_rfl) (by simp) ?_
        refine AllReadyH.cons rfl (fun K hK => ?_) AllReadyH.nil
        refine step_ways rfl _ _ rfl W0.heap.size ws.length 1 N1 g4 cap4 c3 (wcells ws) (some ⟨g3, 0, none⟩) [y] rfl (by exact hown4) rfl rfl (fun h => absurd h (by decide)) (by exact waysUp hY0 hb4) hN1 (by omega) (by first | exact hb4.size | (simp <;> omega)) ?_
        intro g5 cap5 w5 hown5 hgrow5 hg5
        have hb5 : Below W0.heap.size W0 w5 := hb4.grown hgrow5 hb4.size (fun g hg => by cases hg; exact hgl4.1)
        have hgl5 := hown5.lt g5 rfl
        have hn5 : ¬ (W0.heap.size + 1) = g5 := by
          rcases hg5 with h | h
          · omega
          · omega
        have hs5 := hgrow5.size
        have z0 := (World.cell?_of_block (a := ⟨(W0.heap.size + 1), 0, none⟩) (hgrow5.block ((W0.heap.size + 1)) (by omega) (by simp <;> omega))).trans y0
        have z1 := (World.cell?_of_block (a := ⟨(W0.heap.size + 1), 1, none⟩) (hgrow5.block ((W0.heap.size + 1)) (by omega) (by simp <;> omega))).trans y1
        have z2 := (World.frozen?_of_block (a := ⟨(W0.heap.size + 1), 0, none⟩) (hgrow5.block ((W0.heap.size + 1)) (by omega) (by simp <;> omega))).trans y2
        have z3 := (World.frozen?_of_block (a := ⟨(W0.heap.size + 1), 1, none⟩) (hgrow5.block ((W0.heap.size + 1)) (by omega) (by simp <;> omega))).trans y3
        clear y0 y1 y2 y3
        refine hK.out _ _ (hS00.up hb5 (by omega)) (fun _ => ?_)
        clear hK K
        try simp only [Act.put, List.getElem_toArray, List.getElem_cons_zero, List.getElem_cons_succ, List.setIfInBounds_toArray, List.set_cons_zero, List.set_cons_succ]
        refine wpAnyH_take (i := 8) (v := ?_) rfl (by kernel_rfl) (by kernel_rfl) (by kernel_rfl) (fun _ _ _ h => h) (Or.inl ⟨by rfl, ?_⟩) (by assumption) ?_
        rotate_left
        · intro w hSw; obtain ⟨s0, s1⟩ := hSw; go_simp; try with_reducible rfl
        try simp only [Act.put, List.getElem_toArray, List.getElem_cons_zero, List.getElem_cons_succ, List.setIfInBounds_toArray, List.set_cons_zero, List.set_cons_succ]
        refine wpAnyH_ready (rs := [10]) (by kernel_rfl) (by simp) ?_
        refine AllReadyH.cons rfl (fun K hK => ?_) AllReadyH.nil
        go_simp
        refine hK.out _ _ (hS00.up ((hb5.setCell (p := ⟨(W0.heap.size + 1), 0, none⟩) (by simp) _).setCell (p := ⟨(W0.heap.size + 1), 1, none⟩) (by simp) _) (by omega)) (fun _ => ?_)
        clear hK K
        try simp only [Act.put, List.getElem_toArray, List.getElem_cons_zero, List.getElem_cons_succ, List.setIfInBounds_toArray, List.set_cons_zero, List.set_cons_succ]
        refine wpAnyH_done (by kernel_rfl) ?_ _
        go_wp2_with fail
        go_meet
        exact ⟨(W0.heap.size + 1), g5, cap5, rfl, by omega, by simp; omega, hgl5.1, by simp; omega, hn5, by simp [go_sem, z0], by simp [go_sem, z1], ownsRow_setCell_other (ownsRow_setCell_other hown5 (by simp [Value.ownBlock]; omega) _) (by simp [Value.ownBlock]; omega) _, (hb5.setCell (p := ⟨(W0.heap.size + 1), 0, none⟩) (by simp <;> omega) _).setCell (p := ⟨(W0.heap.size + 1), 1, none⟩) (by simp <;> omega) _⟩
    · go_simp
      have hb1 : Below W0.heap.size W0 ((W0.alloc (.cells #[.int .i64 0, .slice none 0 0] 24)).drew) := ((Below.refl _ _).alloc (Nat.le_refl _) _).drew
      refine hK.out _ _ (hS00.up hb1 (by omega)) (fun _ => ?_)
      clear hK K
      try simp only [Act.put, List.getElem_toArray, List.getElem_cons_zero, List.getElem_cons_succ, List.setIfInBounds_toArray, List.set_cons_zero, List.set_cons_succ]
      refine wpAnyH_ready (rs := [2]) (by kernel_rfl) (by simp) ?_
      refine AllReadyH.cons rfl (fun K hK => ?_) AllReadyH.nil
      have hmade : (((W0.alloc (.cells #[.int .i64 0, .slice none 0 0] 24)).alloc (.cells #[] 74)).drew).ownsRow W0.heap.size 74 4 (.slice (some ⟨W0.heap.size + 1, 0, none⟩) 0 0) 0 [] := by
        have h := World.ownsRow_made (base := W0.heap.size) (e := 74) (size := 4) (W0.alloc (.cells #[.int .i64 0, .slice none 0 0] 24)) #[] 0 (by simp) (by unfold maxLen; omega) (by simp)
        simp only [World.size_alloc] at h
        exact h
      go_simp
      have hb2 : Below W0.heap.size W0 (((W0.alloc (.cells #[.int .i64 0, .slice none 0 0] 24)).alloc (.cells #[] 74)).drew) := (((Below.refl _ _).alloc (Nat.le_refl _) _).alloc (by simp) _).drew
      refine hK.out _ _ (hS00.up hb2 (by omega)) (fun _ => ?_)
      clear hK K
      try simp only [Act.put, List.getElem_toArray, List.getElem_cons_zero, List.getElem_cons_succ, List.setIfInBounds_toArray, List.set_cons_zero, List.set_cons_succ]
      refine wpAnyH_ready (rs := [5]) (by kernel_rfl) (by simp) ?_
      refine AllReadyH.cons rfl (fun K hK => ?_) AllReadyH.nil
      refine step_ways rfl _ _ rfl W0.heap.size 0 ws.length ws.length (W0.heap.size + 1) 0 c1 [] A1 ws rfl (by exact hmade) rfl rfl hz1 (by exact waysUp hA0 hb2) (by omega) (by omega) (by simp <;> omega) ?_
      intro g4 cap4 w4 hown4 hgrow4 hg4
      have hb4 : Below W0.heap.size W0 w4 := hb2.grown hgrow4 (by simp <;> omega) (fun g hg => by cases hg; first | exact Nat.le_refl _ | omega)
      have hgl4 := hown4.lt g4 rfl
      have hn4 : ¬ W0.heap.size = g4 := by
        rcases hg4 with h | h
        · omega
        · simp at h; omega
      have hs4 : W0.heap.size + 2 ≤ w4.heap.size := by have := hgrow4.size; simpa using this
      have y0 : w4.cell? ⟨W0.heap.size, 0, none⟩ = some (.int .i64 0) := (World.cell?_of_block (a := ⟨W0.heap.size, 0, none⟩) (hgrow4.block (W0.heap.size) (by simp <;> omega) (by simp <;> omega))).trans (by simp [go_sem])
      have y1 : w4.cell? ⟨W0.heap.size, 1, none⟩ = some (.slice none 0 0) := (World.cell?_of_block (a := ⟨W0.heap.size, 1, none⟩) (hgrow4.block (W0.heap.size) (by simp <;> omega) (by simp <;> omega))).trans (by simp [go_sem])
      have y2 : w4.frozen? ⟨W0.heap.size, 0, none⟩ = false := (World.frozen?_of_block (a := ⟨W0.heap.size, 0, none⟩) (hgrow4.block (W0.heap.size) (by simp <;> omega) (by simp <;> omega))).trans (by simp [go_sem])
      have y3 : w4.frozen? ⟨W0.heap.size, 1, none⟩ = false := (World.frozen?_of_block (a := ⟨W0.heap.size, 1, none⟩) (hgrow4.block (W0.heap.size) (by simp <;> omega) (by simp <;> omega))).trans (by simp [go_sem])
      refine hK.out _ _ (hS00.up hb4 (by omega)) (fun _ => ?_)
      clear hK K
      try simp only [Act.put, List.getElem_toArray, List.getElem_cons_zero, List.getElem_cons_succ, List.setIfInBounds_toArray, List.set_cons_zero, List.set_cons_succ]
      refine wpAnyH_ready (rs := [7]) (by kernel_rfl) (by simp) ?_
      refine AllReadyH.cons rfl (fun K hK => ?_) AllReadyH.nil
      refine step_ways rfl _ _ rfl W0.heap.size ws.length 1 N1 g4 cap4 c3 (wcells ws) (some ⟨g3, 0, none⟩) [y] rfl (by exact hown4) rfl rfl (fun h => absurd h (by decide)) (by exact waysUp hY0 hb4) hN1 (by omega) (by first | exact hb4.size | (simp <;> omega)) ?_
      intro g5 cap5 w5 hown5 hgrow5 hg5
      have hb5 : Below W0.heap.size W0 w5 := hb4.grown hgrow5 hb4.size (fun g hg => by cases hg; exact hgl4.1)
      have hgl5 := hown5.lt g5 rfl
      have hn5 : ¬ W0.heap.size = g5 := by
        rcases hg5 with h | h
        · omega
        · omega
      have hs5 := hgrow5.size
      have z0 := (World.cell?_of_block (a := ⟨W0.heap.size, 0, none⟩) (hgrow5.block (W0.heap.size) (by omega) (by simp <;> omega))).trans y0
      have z1 := (World.cell?_of_block (a := ⟨W0.heap.size, 1, none⟩) (hgrow5.block (W0.heap.size) (by omega) (by simp <;> omega))).trans y1
      have z2 := (World.frozen?_of_block (a := ⟨W0.heap.size, 0, none⟩) (hgrow5.block (W0.heap.size) (by omega) (by simp <;> omega))).trans y2
      have z3 := (World.frozen?_of_block (a := ⟨W0.heap.size, 1, none⟩) (hgrow5.block (W0.heap.size) (by omega) (by simp <;> omega))).trans y3
      clear y0 y1 y2 y3
      refine hK.out _ _ (hS00.up hb5 (by omega)) (fun _ => ?_)
      clear hK K
      try simp only [Act.put, List.getElem_toArray, List.getElem_cons_zero, List.getElem_cons_succ, List.setIfInBounds_toArray, List.set_cons_zero, List.set_cons_succ]
      refine wpAnyH_take (i := 8) (v := ?_) rfl (by kernel_rfl) (by kernel_rfl) (by kernel_rfl) (fun _ _ _ h => h) (Or.inl ⟨by rfl, ?_⟩) (by assumption) ?_
      rotate_left
      · intro w hSw; obtain ⟨s0, s1⟩ := hSw; go_simp; try with_reducible rfl
      try simp only [Act.put, List.getElem_toArray, List.getElem_cons_zero, List.getElem_cons_succ, List.setIfInBounds_toArray, List.set_cons_zero, List.set_cons_succ]
      refine wpAnyH_ready (rs := [10]) (by kernel_rfl) (by simp) ?_
      refine AllReadyH.cons rfl (fun K hK => ?_) AllReadyH.nil
      go_simp
      refine hK.out _ _ (hS00.up ((hb5.setCell (p := ⟨W0.heap.size, 0, none⟩) (by simp) _).setCell (p := ⟨W0.heap.size, 1, none⟩) (by simp) _) (by omega)) (fun _ => ?_)
      clear hK K
      try simp only [Act.put, List.getElem_toArray, List.getElem_cons_zero, List.getElem_cons_succ, List.setIfInBounds_toArray, List.set_cons_zero, List.set_cons_succ]
      refine wpAnyH_done (by kernel_rfl) ?_ _
      go_wp2_with fail
      go_meet
      exact ⟨W0.heap.size, g5, cap5, rfl, by omega, by simp; omega, hgl5.1, by simp; omega, hn5, by simp [go_sem, z0], by simp [go_sem, z1], ownsRow_setCell_other (ownsRow_setCell_other hown5 (by simp [Value.ownBlock]; omega) _) (by simp [Value.ownBlock]; omega) _, (hb5.setCell (p := ⟨W0.heap.size, 0, none⟩) (by simp <;> omega) _).setCell (p := ⟨W0.heap.size, 1, none⟩) (by simp <;> omega) _⟩
  case rest =>
    obtain ⟨g7, g, cap, rfl, m1, m2, m3, m4, m5, m6, m7, m8, m9⟩ := hcut
    rw [← wcells_append] at m8
    have hW2 := own_ways m8
    have hP1 := pairsUpM hP0 m9
    have hA1 := waysUp hA0 m9
    have ht5 := ht4.below m9
    have d0 := (m9.cell (p := ⟨g9, 0, none⟩) hg9).trans f0
    have d1 := (m9.cell (p := ⟨g9, 1, none⟩) hg9).trans f1
    have hs9 := m9.size
    have hb1c := hb00.trans (m9.mono hsW)
    have hg9' : g9 < wc.heap.size := by omega
    clear m8 hP0 hA0 ht4 f0 f1 hY0 m1 m3 m4 hz1 hb00 m9 hg9
    go_wp2_with (first
      | (go_at_call 35; refine (HSPB.out (some ⟨g, 0, none⟩) cap _ hW2 ht5).mono ?_; rintro e w5 ⟨A5, c5, rfl, hP5, hb5⟩; have hs5 := hb5.size; have ht6 := ht5.below hb5; have hA5 := waysUp hA1 hb5; have hL5 := pairsUpM hP1 hb5; have e0 := (hb5.cell (p := ⟨g9, 0, none⟩) hg9').trans d0; have e1 := (hb5.cell (p := ⟨g9, 1, none⟩) hg9').trans d1; have hg95 : g9 < w5.heap.size := (by omega)))
    have hb05 := hb1c.trans (hb5.mono (by omega))
    have hs05 : w.heap.size ≤ w5.heap.size := by omega
    clear hb5 hs5 ht5 hA1 hP1 d0 d1 hW2 m2 m6 m7 hg9' hb1c hs9 HSPB m5
    go_loopw [76] (fun u wr => ∃ j : Nat, j ≤ ws.length ∧ u = .int .i64 (j : Nat) ∧ Below w5.heap.size w5 wr) (fun u _ => ws.length - (intOf u).toNat)
    case atStart => exact ⟨0, Nat.zero_le _, rfl, Below.refl _ _⟩
    case round =>
      obtain ⟨j, hj, rfl, hbw⟩ := hrel
      have hsw := hbw.size
      by_cases hlt : j < ws.length
      · have hx : sp[j]? = some (sp[j]'(by omega)) := List.getElem?_eq_getElem (by omega)
        generalize sp[j]'(by omega) = r at hx
        obtain ⟨r2, hx2, ha1, ha2⟩ := HWD.out j r hx
        obtain ⟨b1, o1, rfl, hb1, h1, h2⟩ := (hL5.below hbw (Nat.le_refl _)) j r hx
        obtain ⟨b2, o2, rfl, hb2, h3, h4⟩ := (hP5.below hbw (Nat.le_refl _)) j r2 hx2
        have hki : (j : Int) < (ws.length : Int) := by omega
        have hkj : (j : Int) < (N1 : Int) := by omega
        have hk0 : (0 : Int) ≤ (j : Int) := by omega
        have hd1 : decide (r.1 < r2.1) = false := decide_eq_false (by omega)
        have hd2 : decide (r2.2 < r.2) = false := decide_eq_false (by omega)
        clear hx hx2
        go_wp2_with fail
        go_quiet (fail)
        go_wp2_with fail
        go_roundw
        case rel => exact ⟨j + 1, hlt, by go_num, below_drewN' hbw _⟩
        case measure => simp [intOf]; omega
      · have hje : j = ws.length := by omega
        subst hje
        have hA6 := waysUp hA5 hbw
        have ht7 := ht6.below hbw
        have f0 := (hbw.cell (p := ⟨g9, 0, none⟩) hg95).trans e0
        have f1 := (hbw.cell (p := ⟨g9, 1, none⟩) hg95).trans e1
        have hL6 := pairsUpM hL5 hbw
        have hg96 : g9 < wr.heap.size := by omega
        have hb06 := hb05.trans (hbw.mono hs05)
        have hs06 : w.heap.size ≤ wr.heap.size := by omega
        clear hP5 HWD hL5 hA5 ht6 e0 e1 hg95 hb05 hs05 hbw hsw hlt hj
        by_cases h0 : ws.length = 0
        · have hz0 : ((ws.length : Int) == 0) = true := by rw [h0]; rfl
          go_wp2_with (go_at_call 16; refine (works_any _ ht7).mono ?_; rintro e w9 ⟨rfl, hb9⟩)
          go_ret
          exact ⟨rfl, hb06.trans (hb9.mono hs06)⟩
        · obtain ⟨k, x, hkl, hrem, hx, hxb, hnf⟩ := HNR.out (by omega)
          have hz0 : ((ws.length : Int) == 0) = false := by simpa using (by omega : ¬ (ws.length : Int) = 0)
          have hzn : ¬ (ws.length : Int) = 0 := by omega
          have HX := Lib.hid hx
          have HNF := Lib.hid hnf
          have hze : ws.length = 0 → A1 = none ∧ c1 = 0 := fun h => absurd h h0
          clear h0 hx hnf HNR
          go_wp2_with fail
          go_upto_region 22 with fail
          go_cut [18] (fun s7 wx => ∃ g7 g cap : Nat, s7 = .pointer (some ⟨g7, 0, none⟩) ∧ wr.heap.size ≤ g7 ∧ g7 < wx.heap.size ∧ wr.heap.size ≤ g ∧ g < wx.heap.size ∧ ¬ g7 = g ∧ wx.cell? ⟨g7, 0, none⟩ = some (.int .i64 rooms) ∧ wx.cell? ⟨g7, 1, none⟩ = some (.slice (some ⟨g, 0, none⟩) ws.length cap) ∧
    wx.ownsRow wr.heap.size 74 4 (.slice (some ⟨g, 0, none⟩) ws.length cap) ws.length (wcells ws) ∧ Below wr.heap.size wr wx)
          case first =>
            clear HX HNF hrem
            have hS00 : C2M g9 (.int .i64 rooms) (.slice A1 ws.length c1) wr := ⟨f0, f1⟩
            have hS0 : C2M g9 (.int .i64 rooms) (.slice A1 ws.length c1) wr.drew := ⟨f0, f1⟩
            refine wp_region_held (S := C2M g9 (.int .i64 rooms) (.slice A1 ws.length c1)) (by kernel_rfl) ?_
            try (change wpAnyH _ _ _ _ _ _ _ _ (World.drew _))
            refine wpAnyH_take (i := 0) (v := ?_) rfl (by kernel_rfl) (by kernel_rfl) (by kernel_rfl) (fun _ _ _ h => h) (Or.inl ⟨by rfl, ?_⟩) (by assumption) ?_
            rotate_left
            · intro w hSw; obtain ⟨s0, s1⟩ := hSw; go_simp; try with_reducible rfl
            try simp only [Act.put, List.getElem_toArray, List.getElem_cons_zero, List.setIfInBounds_toArray, List.set_cons_zero, List.set_cons_succ]
            refine wpAnyH_take (i := 1) (v := ?_) rfl (by kernel_rfl) (by kernel_rfl) (by kernel_rfl) (fun _ _ _ h => h) (Or.inl ⟨by rfl, ?_⟩) (by assumption) ?_
            rotate_left
            · intro w hSw; obtain ⟨s0, s1⟩ := hSw; go_simp; try with_reducible rfl
            try simp only [Act.put, List.getElem_toArray, List.getElem_cons_zero, List.getElem_cons_succ, List.setIfInBounds_toArray, List.set_cons_zero, List.set_cons_succ]
            refine wpAnyH_take (i := 3) (v := ?_) rfl (by kernel_rfl) (by kernel_rfl) (by kernel_rfl) (fun _ _ _ h => h) (Or.inl ⟨by rfl, ?_⟩) (by assumption) ?_
            rotate_left
            · intro w hSw; obtain ⟨s0, s1⟩ := hSw; go_simp; try with_reducible rfl
            try simp only [Act.put, List.getElem_toArray, List.getElem_cons_zero, List.getElem_cons_succ, List.setIfInBounds_toArray, List.set_cons_zero, List.set_cons_succ]
            refine wpAnyH_take (i := 4) (v := ?_) rfl (by kernel_rfl) (by kernel_rfl) (by kernel_rfl) (fun _ _ _ h => h) (Or.inl ⟨by rfl, ?_⟩) (by assumption) ?_
            rotate_left
            · intro w hSw; obtain ⟨s0, s1⟩ := hSw; go_simp; try with_reducible rfl
            try simp only [Act.put, List.getElem_toArray, List.getElem_cons_zero, List.getElem_cons_succ, List.setIfInBounds_toArray, List.set_cons_zero, List.set_cons_succ]
            refine wpAnyH_ready (rs := [2, 7]) (by kernel_rfl) (by simp) ?_
            refine AllReadyH.cons rfl (fun K hK => ?_) (AllReadyH.cons rfl (fun K hK => ?_) AllReadyH.nil)
            · go_simp
              have hb1 : Below wr.heap.size wr (wr.drew.alloc (.cells #[] 74)) := ((Below.refl _ _).drew).alloc (Nat.le_refl _) _
              refine hK.out _ _ (hS0.up ((Below.refl _ _).alloc (Nat.le_refl _) _) (by simp; omega)) (fun _ => ?_)
              clear hK K
              try simp only [Act.put, List.getElem_toArray, List.getElem_cons_zero, List.getElem_cons_succ, List.setIfInBounds_toArray, List.set_cons_zero, List.set_cons_succ]
              refine wpAnyH_ready (rs := [5, 7]) (by kernel_rfl) (by simp) ?_
              refine AllReadyH.cons rfl (fun K hK => ?_) (AllReadyH.cons rfl (fun K hK => ?_) AllReadyH.nil)
              · refine step_ways rfl _ _ rfl wr.heap.size 0 ws.length ws.length wr.heap.size 0 c1 [] A1 ws rfl (by exact World.ownsRow_made wr #[] 0 (Nat.le_refl _) (by unfold maxLen; omega) rfl) rfl rfl hze (by exact waysUp hA6 hb1) (by omega) (by omega) (by simp <;> omega) ?_
                intro g4 cap4 w4 hown4 hgrow4 hg4
                have hb4 : Below wr.heap.size wr w4 := hb1.grown hgrow4 (by simp) (fun g hg => by cases hg; exact Nat.le_refl _)
                have hgl4 := hown4.lt g4 rfl
                refine hK.out _ _ (hS00.up hb4 (by omega)) (fun _ => ?_)
                clear hK K
                try simp only [Act.put, List.getElem_toArray, List.getElem_cons_zero, List.getElem_cons_succ, List.setIfInBounds_toArray, List.set_cons_zero, List.set_cons_succ]
                refine wpAnyH_take (i := 6) (v := ?_) rfl (by kernel_rfl) (by kernel_rfl) (by kernel_rfl) (fun _ _ _ h => h) (Or.inl ⟨by rfl, ?_⟩) (by assumption) ?_
                rotate_left
                · intro w hSw; obtain ⟨s0, s1⟩ := hSw; go_simp; try with_reducible rfl
                try simp only [Act.put, List.getElem_toArray, List.getElem_cons_zero, List.getElem_cons_succ, List.setIfInBounds_toArray, List.set_cons_zero, List.set_cons_succ]
                refine wpAnyH_ready (rs := [7]) (by kernel_rfl) (by simp) ?_
                refine AllReadyH.cons rfl (fun K hK => ?_) AllReadyH.nil
                go_simp
                refine hK.out _ _ ((hS00.up hb4 (by omega)).up ((Below.refl w4.heap.size w4).alloc (Nat.le_refl _) _) (by have := hb4.size; omega)) (fun _ => ?_)
                clear hK K
                try simp only [Act.put, List.getElem_toArray, List.getElem_cons_zero, List.getElem_cons_succ, List.setIfInBounds_toArray, List.set_cons_zero, List.set_cons_succ]
                refine wpAnyH_ready (rs := [8]) (by kernel_rfl) (by simp) ?_
                refine AllReadyH.cons rfl (fun K hK => ?_) AllReadyH.nil
                go_simp
                refine hK.out _ _ ((hS00.up hb4 (by omega)).up ((Below.refl w4.heap.size w4).alloc (Nat.le_refl _) _) (by have := hb4.size; omega)) (fun _ => ?_)
                clear hK K
                try simp only [Act.put, List.getElem_toArray, List.getElem_cons_zero, List.getElem_cons_succ, List.setIfInBounds_toArray, List.set_cons_zero, List.set_cons_succ]
                refine wpAnyH_done (by kernel_rfl) ?_ _
                have hs4 := hb4.size
                go_wp2_with fail
                go_meet
                exact ⟨w4.heap.size, g4, cap4, rfl, hs4, by simp, hgl4.1, by simp; omega, by omega, by simp [go_sem], by simp [go_sem], hown4.alloc _, hb4.alloc hs4 _⟩
              · go_simp
                have hb2 : Below wr.heap.size wr (((wr.alloc (.cells #[] 74)).alloc (.cells #[.int .i64 0, .slice none 0 0] 24)).drew) := (((Below.refl _ _).alloc (Nat.le_refl _) _).alloc (by simp) _).drew
                refine hK.out _ _ (hS00.up hb2 (by omega)) (fun _ => ?_)
                clear hK K
                try simp only [Act.put, List.getElem_toArray, List.getElem_cons_zero, List.getElem_cons_succ, List.setIfInBounds_toArray, List.set_cons_zero, List.set_cons_succ]
                refine wpAnyH_ready (rs := [5]) (by kernel_rfl) (by simp) ?_
                refine AllReadyH.cons rfl (fun K hK => ?_) AllReadyH.nil
                refine step_ways rfl _ _ rfl wr.heap.size 0 ws.length ws.length wr.heap.size 0 c1 [] A1 ws rfl (by exact (World.ownsRow_made wr #[] 0 (Nat.le_refl _) (by unfold maxLen; omega) rfl).alloc _) rfl rfl hze (by exact waysUp hA6 hb2) (by omega) (by omega) (by simp <;> omega) ?_
                intro g4 cap4 w4 hown4 hgrow4 hg4
                have hb4 : Below wr.heap.size wr w4 := hb2.grown hgrow4 (by simp <;> omega) (fun g hg => by cases hg; first | exact Nat.le_refl _ | omega)
                have hgl4 := hown4.lt g4 rfl
                have hn4 : ¬ (wr.heap.size + 1) = g4 := by
                  rcases hg4 with h | h
                  · omega
                  · simp at h; omega
                have hs4 : wr.heap.size + 2 ≤ w4.heap.size := by have := hgrow4.size; simpa using this
                have y0 : w4.cell? ⟨(wr.heap.size + 1), 0, none⟩ = some (.int .i64 0) := (World.cell?_of_block (a := ⟨(wr.heap.size + 1), 0, none⟩) (hgrow4.block ((wr.heap.size + 1)) (by simp <;> omega) (by simp <;> omega))).trans (by simp [go_sem])
                have y1 : w4.cell? ⟨(wr.heap.size + 1), 1, none⟩ = some (.slice none 0 0) := (World.cell?_of_block (a := ⟨(wr.heap.size + 1), 1, none⟩) (hgrow4.block ((wr.heap.size + 1)) (by simp <;> omega) (by simp <;> omega))).trans (by simp [go_sem])
                have y2 : w4.frozen? ⟨(wr.heap.size + 1), 0, none⟩ = false := (World.frozen?_of_block (a := ⟨(wr.heap.size + 1), 0, none⟩) (hgrow4.block ((wr.heap.size + 1)) (by simp <;> omega) (by simp <;> omega))).trans (by simp [go_sem])
                have y3 : w4.frozen? ⟨(wr.heap.size + 1), 1, none⟩ = false := (World.frozen?_of_block (a := ⟨(wr.heap.size + 1), 1, none⟩) (hgrow4.block ((wr.heap.size + 1)) (by simp <;> omega) (by simp <;> omega))).trans (by simp [go_sem])
                refine hK.out _ _ (hS00.up hb4 (by omega)) (fun _ => ?_)
                clear hK K
                try simp only [Act.put, List.getElem_toArray, List.getElem_cons_zero, List.getElem_cons_succ, List.setIfInBounds_toArray, List.set_cons_zero, List.set_cons_succ]
                refine wpAnyH_take (i := 6) (v := ?_) rfl (by kernel_rfl) (by kernel_rfl) (by kernel_rfl) (fun _ _ _ h => h) (Or.inl ⟨by rfl, ?_⟩) (by assumption) ?_
                rotate_left
                · intro w hSw; obtain ⟨s0, s1⟩ := hSw; go_simp; try with_reducible rfl
                try simp only [Act.put, List.getElem_toArray, List.getElem_cons_zero, List.getElem_cons_succ, List.setIfInBounds_toArray, List.set_cons_zero, List.set_cons_succ]
                refine wpAnyH_ready (rs := [8]) (by kernel_rfl) (by simp) ?_
                refine AllReadyH.cons rfl (fun K hK => ?_) AllReadyH.nil
                go_simp
                refine hK.out _ _ (hS00.up ((hb4.setCell (p := ⟨(wr.heap.size + 1), 0, none⟩) (by simp) _).setCell (p := ⟨(wr.heap.size + 1), 1, none⟩) (by simp) _) (by omega)) (fun _ => ?_)
                clear hK K
                try simp only [Act.put, List.getElem_toArray, List.getElem_cons_zero, List.getElem_cons_succ, List.setIfInBounds_toArray, List.set_cons_zero, List.set_cons_succ]
                refine wpAnyH_done (by kernel_rfl) ?_ _
                go_wp2_with fail
                go_meet
                exact ⟨(wr.heap.size + 1), g4, cap4, rfl, by omega, by simp; omega, hgl4.1, by simp; omega, hn4, by simp [go_sem, y0], by simp [go_sem, y1], ownsRow_setCell_other (ownsRow_setCell_other hown4 (by simp [Value.ownBlock]; omega) _) (by simp [Value.ownBlock]; omega) _, (hb4.setCell (p := ⟨(wr.heap.size + 1), 0, none⟩) (by simp <;> omega) _).setCell (p := ⟨(wr.heap.size + 1), 1, none⟩) (by simp <;> omega) _⟩
            · go_simp
              have hb1 : Below wr.heap.size wr ((wr.alloc (.cells #[.int .i64 0, .slice none 0 0] 24)).drew) := ((Below.refl _ _).alloc (Nat.le_refl _) _).drew
              refine hK.out _ _ (hS00.up hb1 (by omega)) (fun _ => ?_)
              clear hK K
              try simp only [Act.put, List.getElem_toArray, List.getElem_cons_zero, List.getElem_cons_succ, List.setIfInBounds_toArray, List.set_cons_zero, List.set_cons_succ]
              refine wpAnyH_ready (rs := [2]) (by kernel_rfl) (by simp) ?_
              refine AllReadyH.cons rfl (fun K hK => ?_) AllReadyH.nil
              have hmade : (((wr.alloc (.cells #[.int .i64 0, .slice none 0 0] 24)).alloc (.cells #[] 74)).drew).ownsRow wr.heap.size 74 4 (.slice (some ⟨wr.heap.size + 1, 0, none⟩) 0 0) 0 [] := by
                have h := World.ownsRow_made (base := wr.heap.size) (e := 74) (size := 4) (wr.alloc (.cells #[.int .i64 0, .slice none 0 0] 24)) #[] 0 (by simp) (by unfold maxLen; omega) (by simp)
                simp only [World.size_alloc] at h
                exact h
              go_simp
              have hb2 : Below wr.heap.size wr (((wr.alloc (.cells #[.int .i64 0, .slice none 0 0] 24)).alloc (.cells #[] 74)).drew) := (((Below.refl _ _).alloc (Nat.le_refl _) _).alloc (by simp) _).drew
              refine hK.out _ _ (hS00.up hb2 (by omega)) (fun _ => ?_)
              clear hK K
              try simp only [Act.put, List.getElem_toArray, List.getElem_cons_zero, List.getElem_cons_succ, List.setIfInBounds_toArray, List.set_cons_zero, List.set_cons_succ]
              refine wpAnyH_ready (rs := [5]) (by kernel_rfl) (by simp) ?_
              refine AllReadyH.cons rfl (fun K hK => ?_) AllReadyH.nil
              refine step_ways rfl _ _ rfl wr.heap.size 0 ws.length ws.length (wr.heap.size + 1) 0 c1 [] A1 ws rfl (by exact hmade) rfl rfl hze (by exact waysUp hA6 hb2) (by omega) (by omega) (by simp <;> omega) ?_
              intro g4 cap4 w4 hown4 hgrow4 hg4
              have hb4 : Below wr.heap.size wr w4 := hb2.grown hgrow4 (by simp <;> omega) (fun g hg => by cases hg; first | exact Nat.le_refl _ | omega)
              have hgl4 := hown4.lt g4 rfl
              have hn4 : ¬ wr.heap.size = g4 := by
                rcases hg4 with h | h
                · omega
                · simp at h; omega
              have hs4 : wr.heap.size + 2 ≤ w4.heap.size := by have := hgrow4.size; simpa using this
              have y0 : w4.cell? ⟨wr.heap.size, 0, none⟩ = some (.int .i64 0) := (World.cell?_of_block (a := ⟨wr.heap.size, 0, none⟩) (hgrow4.block (wr.heap.size) (by simp <;> omega) (by simp <;> omega))).trans (by simp [go_sem])
              have y1 : w4.cell? ⟨wr.heap.size, 1, none⟩ = some (.slice none 0 0) := (World.cell?_of_block (a := ⟨wr.heap.size, 1, none⟩) (hgrow4.block (wr.heap.size) (by simp <;> omega) (by simp <;> omega))).trans (by simp [go_sem])
              have y2 : w4.frozen? ⟨wr.heap.size, 0, none⟩ = false := (World.frozen?_of_block (a := ⟨wr.heap.size, 0, none⟩) (hgrow4.block (wr.heap.size) (by simp <;> omega) (by simp <;> omega))).trans (by simp [go_sem])
              have y3 : w4.frozen? ⟨wr.heap.size, 1, none⟩ = false := (World.frozen?_of_block (a := ⟨wr.heap.size, 1, none⟩) (hgrow4.block (wr.heap.size) (by simp <;> omega) (by simp <;> omega))).trans (by simp [go_sem])
              refine hK.out _ _ (hS00.up hb4 (by omega)) (fun _ => ?_)
              clear hK K
              try simp only [Act.put, List.getElem_toArray, List.getElem_cons_zero, List.getElem_cons_succ, List.setIfInBounds_toArray, List.set_cons_zero, List.set_cons_succ]
              refine wpAnyH_take (i := 6) (v := ?_) rfl (by kernel_rfl) (by kernel_rfl) (by kernel_rfl) (fun _ _ _ h => h) (Or.inl ⟨by rfl, ?_⟩) (by assumption) ?_
              rotate_left
              · intro w hSw; obtain ⟨s0, s1⟩ := hSw; go_simp; try with_reducible rfl
              try simp only [Act.put, List.getElem_toArray, List.getElem_cons_zero, List.getElem_cons_succ, List.setIfInBounds_toArray, List.set_cons_zero, List.set_cons_succ]
              refine wpAnyH_ready (rs := [8]) (by kernel_rfl) (by simp) ?_
              refine AllReadyH.cons rfl (fun K hK => ?_) AllReadyH.nil
              go_simp
              refine hK.out _ _ (hS00.up ((hb4.setCell (p := ⟨wr.heap.size, 0, none⟩) (by simp) _).setCell (p := ⟨wr.heap.size, 1, none⟩) (by simp) _) (by omega)) (fun _ => ?_)
              clear hK K
              try simp only [Act.put, List.getElem_toArray, List.getElem_cons_zero, List.getElem_cons_succ, List.setIfInBounds_toArray, List.set_cons_zero, List.set_cons_succ]
              refine wpAnyH_done (by kernel_rfl) ?_ _
              go_wp2_with fail
              go_meet
              exact ⟨wr.heap.size, g4, cap4, rfl, by omega, by simp; omega, hgl4.1, by simp; omega, hn4, by simp [go_sem, y0], by simp [go_sem, y1], ownsRow_setCell_other (ownsRow_setCell_other hown4 (by simp [Value.ownBlock]; omega) _) (by simp [Value.ownBlock]; omega) _, (hb4.setCell (p := ⟨wr.heap.size, 0, none⟩) (by simp <;> omega) _).setCell (p := ⟨wr.heap.size, 1, none⟩) (by simp <;> omega) _⟩
          case rest =>
            obtain ⟨g7, g, cap, rfl, m1, m2, m3, m4, m5, m6, m7, m8, m9⟩ := hcut
            have hx := HX.out
            obtain ⟨_, _, v3, v4⟩ := wcells_get ws k x hx
            have hcl := wcells_len ws
            have e3 := (m8.cellAt (k * 4 + 2) (by omega)).trans v3
            have e4 := (m8.cellAt (k * 4 + 3) (by omega)).trans v4
            have q5 := m8.frozenAt (k * 4 + 2)
            have q6 := m8.frozenAt (k * 4 + 3)
            have hki : (k : Int) < (ws.length : Int) := by omega
            have hk0 : (0 : Int) ≤ (k : Int) := by omega
            obtain ⟨nv1, nv2⟩ := nar_val x b
            have HWN := Lib.hid (wcells_nar (b := b) hx)
            have HNI := Lib.hid (nar_in (b := b) hxb.2.1)
            obtain ⟨nx, hnx⟩ : ∃ nx, nx = nar x b := ⟨_, rfl⟩
            rw [← hnx] at nv1 nv2 HWN HNI HNF
            clear hnx hcl v3 v4 hx
            have hmin := nv1.symm
            have hmax := nv2.symm
            clear nv1 nv2
            have hb2 : 0 ≤ b % 2 ∧ b % 2 ≤ 1 := by omega
            have hb3 : 0 ≤ b / 2 % 2 ∧ b / 2 % 2 ≤ 1 := by omega
            have hu1 : b.tmod 2 = b % 2 := Int.tmod_eq_emod_of_nonneg hb.1
            have hu2 : b.tdiv 2 = b / 2 := Int.tdiv_eq_ediv_of_nonneg hb.1
            have hu3 : (b / 2).tmod 2 = b / 2 % 2 := Int.tmod_eq_emod_of_nonneg (by omega)
            have hu4 : IntKind.i64.wrap (x.lo + b % 2) = x.lo + b % 2 := IntWalk.i64_in _ (by omega)
            have hu5 : IntKind.i64.wrap (x.hi - b / 2 % 2) = x.hi - b / 2 % 2 := IntWalk.i64_in _ (by omega)
            have hu6 : IntKind.i64.wrap (b / 2) = b / 2 := IntWalk.i64_in _ (by omega)
            have hne7 : ¬ g = g7 := fun h => m5 h.symm
            clear hA6
            go_wp2_with fail
            go_upto_region 23 with fail
            have hS0 : C2N g7 g (.slice (some ⟨g, 0, none⟩) ws.length cap) (k * 4 + 3) (.int .i64 x.hi) wc.drew := ⟨m7, e4⟩
            refine wp_region_held (S := C2N g7 g (.slice (some ⟨g, 0, none⟩) ws.length cap) (k * 4 + 3) (.int .i64 x.hi)) (by kernel_rfl) ?_
            try (change wpAnyH _ _ _ _ _ _ _ _ (World.drew _))
            refine wpAnyH_take (i := 0) (v := ?_) rfl (by kernel_rfl) (by kernel_rfl) (by kernel_rfl) (fun _ _ _ h => h) (Or.inl ⟨by rfl, ?_⟩) (by assumption) ?_
            rotate_left
            · intro w hSw; obtain ⟨s0, s1⟩ := hSw; go_simp; try with_reducible rfl
            try simp only [Act.put, List.getElem_toArray, List.getElem_cons_zero, List.setIfInBounds_toArray, List.set_cons_zero, List.set_cons_succ]
            refine wpAnyH_take (i := 1) (v := ?_) rfl (by kernel_rfl) (by kernel_rfl) (by kernel_rfl) (fun _ _ _ h => h) (Or.inl ⟨by rfl, ?_⟩) (by assumption) ?_
            rotate_left
            · intro w hSw; obtain ⟨s0, s1⟩ := hSw; go_simp; try with_reducible rfl
            try simp only [Act.put, List.getElem_toArray, List.getElem_cons_zero, List.getElem_cons_succ, List.setIfInBounds_toArray, List.set_cons_zero, List.set_cons_succ]
            refine wpAnyH_take (i := 2) (v := ?_) rfl (by kernel_rfl) (by kernel_rfl) (by kernel_rfl) (fun _ _ _ h => h) (Or.inl ⟨by rfl, ?_⟩) (by assumption) ?_
            rotate_left
            · intro w hSw; obtain ⟨s0, s1⟩ := hSw; go_simp; try with_reducible rfl
            try simp only [Act.put, List.getElem_toArray, List.getElem_cons_zero, List.getElem_cons_succ, List.setIfInBounds_toArray, List.set_cons_zero, List.set_cons_succ]
            refine wpAnyH_take (i := 3) (v := ?_) rfl (by kernel_rfl) (by kernel_rfl) (by kernel_rfl) (fun _ _ _ h => h) (Or.inl ⟨by rfl, ?_⟩) (by assumption) ?_
            rotate_left
            · intro w hSw; obtain ⟨s0, s1⟩ := hSw; go_simp; try with_reducible rfl
            try simp only [Act.put, List.getElem_toArray, List.getElem_cons_zero, List.getElem_cons_succ, List.setIfInBounds_toArray, List.set_cons_zero, List.set_cons_succ]
            refine wpAnyH_take (i := 4) (v := ?_) rfl (by kernel_rfl) (by kernel_rfl) (by kernel_rfl) (fun _ _ _ h => h) (Or.inl ⟨by rfl, ?_⟩) (by assumption) ?_
            rotate_left
            · intro w hSw; obtain ⟨s0, s1⟩ := hSw; go_simp; try with_reducible rfl
            try simp only [Act.put, List.getElem_toArray, List.getElem_cons_zero, List.getElem_cons_succ, List.setIfInBounds_toArray, List.set_cons_zero, List.set_cons_succ]
            refine wpAnyH_take (i := 5) (v := ?_) rfl (by kernel_rfl) (by kernel_rfl) (by kernel_rfl) (fun _ _ _ h => h) (Or.inl ⟨by rfl, ?_⟩) (by assumption) ?_
            rotate_left
            · intro w hSw; obtain ⟨s0, s1⟩ := hSw; go_simp; try with_reducible rfl
            try simp only [Act.put, List.getElem_toArray, List.getElem_cons_zero, List.getElem_cons_succ, List.setIfInBounds_toArray, List.set_cons_zero, List.set_cons_succ]
            refine wpAnyH_take (i := 6) (v := ?_) rfl (by kernel_rfl) (by kernel_rfl) (by kernel_rfl) (fun _ _ _ h => h) (Or.inl ⟨by rfl, ?_⟩) (by assumption) ?_
            rotate_left
            · intro w hSw; obtain ⟨s0, s1⟩ := hSw; go_simp; try with_reducible rfl
            try simp only [Act.put, List.getElem_toArray, List.getElem_cons_zero, List.getElem_cons_succ, List.setIfInBounds_toArray, List.set_cons_zero, List.set_cons_succ]
            refine wpAnyH_take (i := 7) (v := ?_) rfl (by kernel_rfl) (by kernel_rfl) (by kernel_rfl) (fun _ _ _ h => h) (Or.inl ⟨by rfl, ?_⟩) (by assumption) ?_
            rotate_left
            · intro w hSw; obtain ⟨s0, s1⟩ := hSw; go_simp; try with_reducible rfl
            try simp only [Act.put, List.getElem_toArray, List.getElem_cons_zero, List.getElem_cons_succ, List.setIfInBounds_toArray, List.set_cons_zero, List.set_cons_succ]
            refine wpAnyH_take (i := 8) (v := ?_) rfl (by kernel_rfl) (by kernel_rfl) (by kernel_rfl) (fun _ _ _ h => h) (Or.inl ⟨by rfl, ?_⟩) (by assumption) ?_
            rotate_left
            · intro w hSw; obtain ⟨s0, s1⟩ := hSw; go_simp; try with_reducible rfl
            try simp only [Act.put, List.getElem_toArray, List.getElem_cons_zero, List.getElem_cons_succ, List.setIfInBounds_toArray, List.set_cons_zero, List.set_cons_succ]
            refine wpAnyH_take (i := 9) (v := ?_) rfl (by kernel_rfl) (by kernel_rfl) (by kernel_rfl) (fun _ _ _ h => h) (Or.inl ⟨by rfl, ?_⟩) (by assumption) ?_
            rotate_left
            · intro w hSw; obtain ⟨s0, s1⟩ := hSw; go_simp; try with_reducible rfl
            try simp only [Act.put, List.getElem_toArray, List.getElem_cons_zero, List.getElem_cons_succ, List.setIfInBounds_toArray, List.set_cons_zero, List.set_cons_succ]
            refine wpAnyH_take (i := 10) (v := ?_) rfl (by kernel_rfl) (by kernel_rfl) (by kernel_rfl) (fun _ _ _ h => h) (Or.inl ⟨by rfl, ?_⟩) (by assumption) ?_
            rotate_left
            · intro w hSw; obtain ⟨s0, s1⟩ := hSw; go_simp; try with_reducible rfl
            try simp only [Act.put, List.getElem_toArray, List.getElem_cons_zero, List.getElem_cons_succ, List.setIfInBounds_toArray, List.set_cons_zero, List.set_cons_succ]
            refine wpAnyH_take (i := 11) (v := ?_) rfl (by kernel_rfl) (by kernel_rfl) (by kernel_rfl) (fun _ _ _ h => h) (Or.inl ⟨by rfl, ?_⟩) (by assumption) ?_
            rotate_left
            · intro w hSw; obtain ⟨s0, s1⟩ := hSw; go_simp; try with_reducible rfl
            try simp only [Act.put, List.getElem_toArray, List.getElem_cons_zero, List.getElem_cons_succ, List.setIfInBounds_toArray, List.set_cons_zero, List.set_cons_succ]
            refine wpAnyH_take (i := 12) (v := ?_) rfl (by kernel_rfl) (by kernel_rfl) (by kernel_rfl) (fun _ _ _ h => h) (Or.inl ⟨by rfl, ?_⟩) (by assumption) ?_
            rotate_left
            · intro w hSw; obtain ⟨s0, s1⟩ := hSw; go_simp; try with_reducible rfl
            try simp only [Act.put, List.getElem_toArray, List.getElem_cons_zero, List.getElem_cons_succ, List.setIfInBounds_toArray, List.set_cons_zero, List.set_cons_succ]
            refine wpAnyH_take (i := 13) (v := ?_) rfl (by kernel_rfl) (by kernel_rfl) (by kernel_rfl) (fun _ _ _ h => h) (Or.inl ⟨by rfl, ?_⟩) (by assumption) ?_
            rotate_left
            · intro w hSw; obtain ⟨s0, s1⟩ := hSw; go_simp; try with_reducible rfl
            try simp only [Act.put, List.getElem_toArray, List.getElem_cons_zero, List.getElem_cons_succ, List.setIfInBounds_toArray, List.set_cons_zero, List.set_cons_succ]
            refine wpAnyH_take (i := 15) (v := ?_) rfl (by kernel_rfl) (by kernel_rfl) (by kernel_rfl) (fun _ _ _ h => h) (Or.inl ⟨by rfl, ?_⟩) (by assumption) ?_
            rotate_left
            · intro w hSw; obtain ⟨s0, s1⟩ := hSw; go_simp; try with_reducible rfl
            try simp only [Act.put, List.getElem_toArray, List.getElem_cons_zero, List.getElem_cons_succ, List.setIfInBounds_toArray, List.set_cons_zero, List.set_cons_succ]
            refine wpAnyH_take (i := 16) (v := ?_) rfl (by kernel_rfl) (by kernel_rfl) (by kernel_rfl) (fun _ _ _ h => h) (Or.inl ⟨by rfl, ?_⟩) (by assumption) ?_
            rotate_left
            · intro w hSw; obtain ⟨s0, s1⟩ := hSw; go_simp; try with_reducible rfl
            try simp only [Act.put, List.getElem_toArray, List.getElem_cons_zero, List.getElem_cons_succ, List.setIfInBounds_toArray, List.set_cons_zero, List.set_cons_succ]
            refine wpAnyH_take (i := 17) (v := ?_) rfl (by kernel_rfl) (by kernel_rfl) (by kernel_rfl) (fun _ _ _ h => h) (Or.inl ⟨by rfl, ?_⟩) (by assumption) ?_
            rotate_left
            · intro w hSw; obtain ⟨s0, s1⟩ := hSw; go_simp; try with_reducible rfl
            try simp only [Act.put, List.getElem_toArray, List.getElem_cons_zero, List.getElem_cons_succ, List.setIfInBounds_toArray, List.set_cons_zero, List.set_cons_succ]
            refine wpAnyH_ready (rs := [14]) (by kernel_rfl) (by simp) ?_
            refine AllReadyH.cons rfl (fun K hK => ?_) AllReadyH.nil
            go_simp
            refine hK.out _ _ hS0 (fun _ => ?_)
            clear hK K
            try simp only [Act.put, List.getElem_toArray, List.getElem_cons_zero, List.getElem_cons_succ, List.setIfInBounds_toArray, List.set_cons_zero, List.set_cons_succ]
            refine wpAnyH_take (i := 18) (v := ?_) rfl (by kernel_rfl) (by kernel_rfl) (by kernel_rfl) (fun _ _ _ h => h) (Or.inl ⟨by rfl, ?_⟩) (by assumption) ?_
            rotate_left
            · intro w hSw; obtain ⟨s0, s1⟩ := hSw; go_simp; try with_reducible rfl
            try simp only [Act.put, List.getElem_toArray, List.getElem_cons_zero, List.getElem_cons_succ, List.setIfInBounds_toArray, List.set_cons_zero, List.set_cons_succ]
            refine wpAnyH_take (i := 19) (v := ?_) rfl (by kernel_rfl) (by kernel_rfl) (by kernel_rfl) (fun _ _ _ h => h) (Or.inl ⟨by rfl, ?_⟩) (by assumption) ?_
            rotate_left
            · intro w hSw; obtain ⟨s0, s1⟩ := hSw; go_simp; try with_reducible rfl
            try simp only [Act.put, List.getElem_toArray, List.getElem_cons_zero, List.getElem_cons_succ, List.setIfInBounds_toArray, List.set_cons_zero, List.set_cons_succ]
            refine wpAnyH_take (i := 20) (v := ?_) rfl (by kernel_rfl) (by kernel_rfl) (by kernel_rfl) (fun _ _ _ h => h) (Or.inl ⟨by rfl, ?_⟩) (by assumption) ?_
            rotate_left
            · intro w hSw; obtain ⟨s0, s1⟩ := hSw; go_simp; try with_reducible rfl
            try simp only [Act.put, List.getElem_toArray, List.getElem_cons_zero, List.getElem_cons_succ, List.setIfInBounds_toArray, List.set_cons_zero, List.set_cons_succ]
            refine wpAnyH_take (i := 21) (v := ?_) rfl (by kernel_rfl) (by kernel_rfl) (by kernel_rfl) (fun _ _ _ h => h) (Or.inl ⟨by rfl, ?_⟩) (by assumption) ?_
            rotate_left
            · intro w hSw; obtain ⟨s0, s1⟩ := hSw; go_simp; try with_reducible rfl
            try simp only [Act.put, List.getElem_toArray, List.getElem_cons_zero, List.getElem_cons_succ, List.setIfInBounds_toArray, List.set_cons_zero, List.set_cons_succ]
            refine wpAnyH_ready (rs := [22]) (by kernel_rfl) (by simp) ?_
            refine AllReadyH.cons rfl (fun K hK => ?_) AllReadyH.nil
            go_simp
            refine hK.out _ _ ⟨by simp [go_sem, m7], by simp [go_sem, e4]⟩ (fun _ => ?_)
            clear hK K
            try simp only [Act.put, List.getElem_toArray, List.getElem_cons_zero, List.getElem_cons_succ, List.setIfInBounds_toArray, List.set_cons_zero, List.set_cons_succ]
            refine wpAnyH_done (by kernel_rfl) ?_ _
            go_wp2_with fail
            obtain ⟨W1, hW1⟩ : ∃ W1, W1 = (wc.setCell ⟨g, k * 4 + 2, none⟩ (.int .i64 nx.lo)).drew := ⟨_, rfl⟩
            rw [← hW1]
            have n6 : W1.cell? ⟨g7, 0, none⟩ = some (.int .i64 rooms) := by rw [hW1]; simp [go_sem, m6]
            have n7 : W1.cell? ⟨g7, 1, none⟩ = some (.slice (some ⟨g, 0, none⟩) ws.length cap) := by rw [hW1]; simp [go_sem, m7]
            have n3 : W1.cell? ⟨g, k * 4 + 2, none⟩ = some (.int .i64 nx.lo) := by rw [hW1]; simp [go_sem, e3]
            have n4 : W1.cell? ⟨g, k * 4 + 3, none⟩ = some (.int .i64 x.hi) := by rw [hW1]; simp [go_sem, e4]
            have p6 : W1.frozen? ⟨g, k * 4 + 3, none⟩ = false := by rw [hW1]; simp [go_sem, q6]
            have n8 : W1.ownsRow wr.heap.size 74 4 (.slice (some ⟨g, 0, none⟩) ws.length cap) ws.length ((wcells ws).set (k * 4 + 2) (.int .i64 nx.lo)) := by rw [hW1]; exact (m8.stored (k * 4 + 2) (.int .i64 nx.lo)).1
            have n9 : Below wr.heap.size wr W1 := by rw [hW1]; exact (m9.setCell (p := ⟨g, k * 4 + 2, none⟩) m3 _).drew
            clear hW1 m6 m7 m8 m9 e3 e4 q5 q6 m2 m4 hmin hu1 hu4
            go_upto_region 24 with fail
            have hS0 : C2N g7 g (.slice (some ⟨g, 0, none⟩) ws.length cap) (k * 4 + 2) (.int .i64 nx.lo) W1.drew := ⟨n7, n3⟩
            refine wp_region_held (S := C2N g7 g (.slice (some ⟨g, 0, none⟩) ws.length cap) (k * 4 + 2) (.int .i64 nx.lo)) (by kernel_rfl) ?_
            try (change wpAnyH _ _ _ _ _ _ _ _ (World.drew _))
            refine wpAnyH_take (i := 0) (v := ?_) rfl (by kernel_rfl) (by kernel_rfl) (by kernel_rfl) (fun _ _ _ h => h) (Or.inl ⟨by rfl, ?_⟩) (by assumption) ?_
            rotate_left
            · intro w hSw; obtain ⟨s0, s1⟩ := hSw; go_simp; try with_reducible rfl
            try simp only [Act.put, List.getElem_toArray, List.getElem_cons_zero, List.setIfInBounds_toArray, List.set_cons_zero, List.set_cons_succ]
            refine wpAnyH_take (i := 1) (v := ?_) rfl (by kernel_rfl) (by kernel_rfl) (by kernel_rfl) (fun _ _ _ h => h) (Or.inl ⟨by rfl, ?_⟩) (by assumption) ?_
            rotate_left
            · intro w hSw; obtain ⟨s0, s1⟩ := hSw; go_simp; try with_reducible rfl
            try simp only [Act.put, List.getElem_toArray, List.getElem_cons_zero, List.getElem_cons_succ, List.setIfInBounds_toArray, List.set_cons_zero, List.set_cons_succ]
            refine wpAnyH_take (i := 2) (v := ?_) rfl (by kernel_rfl) (by kernel_rfl) (by kernel_rfl) (fun _ _ _ h => h) (Or.inl ⟨by rfl, ?_⟩) (by assumption) ?_
            rotate_left
            · intro w hSw; obtain ⟨s0, s1⟩ := hSw; go_simp; try with_reducible rfl
            try simp only [Act.put, List.getElem_toArray, List.getElem_cons_zero, List.getElem_cons_succ, List.setIfInBounds_toArray, List.set_cons_zero, List.set_cons_succ]
            refine wpAnyH_take (i := 3) (v := ?_) rfl (by kernel_rfl) (by kernel_rfl) (by kernel_rfl) (fun _ _ _ h => h) (Or.inl ⟨by rfl, ?_⟩) (by assumption) ?_
            rotate_left
            · intro w hSw; obtain ⟨s0, s1⟩ := hSw; go_simp; try with_reducible rfl
            try simp only [Act.put, List.getElem_toArray, List.getElem_cons_zero, List.getElem_cons_succ, List.setIfInBounds_toArray, List.set_cons_zero, List.set_cons_succ]
            refine wpAnyH_take (i := 4) (v := ?_) rfl (by kernel_rfl) (by kernel_rfl) (by kernel_rfl) (fun _ _ _ h => h) (Or.inl ⟨by rfl, ?_⟩) (by assumption) ?_
            rotate_left
            · intro w hSw; obtain ⟨s0, s1⟩ := hSw; go_simp; try with_reducible rfl
            try simp only [Act.put, List.getElem_toArray, List.getElem_cons_zero, List.getElem_cons_succ, List.setIfInBounds_toArray, List.set_cons_zero, List.set_cons_succ]
            refine wpAnyH_take (i := 5) (v := ?_) rfl (by kernel_rfl) (by kernel_rfl) (by kernel_rfl) (fun _ _ _ h => h) (Or.inl ⟨by rfl, ?_⟩) (by assumption) ?_
            rotate_left
            · intro w hSw; obtain ⟨s0, s1⟩ := hSw; go_simp; try with_reducible rfl
            try simp only [Act.put, List.getElem_toArray, List.getElem_cons_zero, List.getElem_cons_succ, List.setIfInBounds_toArray, List.set_cons_zero, List.set_cons_succ]
            refine wpAnyH_take (i := 6) (v := ?_) rfl (by kernel_rfl) (by kernel_rfl) (by kernel_rfl) (fun _ _ _ h => h) (Or.inl ⟨by rfl, ?_⟩) (by assumption) ?_
            rotate_left
            · intro w hSw; obtain ⟨s0, s1⟩ := hSw; go_simp; try with_reducible rfl
            try simp only [Act.put, List.getElem_toArray, List.getElem_cons_zero, List.getElem_cons_succ, List.setIfInBounds_toArray, List.set_cons_zero, List.set_cons_succ]
            refine wpAnyH_take (i := 7) (v := ?_) rfl (by kernel_rfl) (by kernel_rfl) (by kernel_rfl) (fun _ _ _ h => h) (Or.inl ⟨by rfl, ?_⟩) (by assumption) ?_
            rotate_left
            · intro w hSw; obtain ⟨s0, s1⟩ := hSw; go_simp; try with_reducible rfl
            try simp only [Act.put, List.getElem_toArray, List.getElem_cons_zero, List.getElem_cons_succ, List.setIfInBounds_toArray, List.set_cons_zero, List.set_cons_succ]
            refine wpAnyH_take (i := 8) (v := ?_) rfl (by kernel_rfl) (by kernel_rfl) (by kernel_rfl) (fun _ _ _ h => h) (Or.inl ⟨by rfl, ?_⟩) (by assumption) ?_
            rotate_left
            · intro w hSw; obtain ⟨s0, s1⟩ := hSw; go_simp; try with_reducible rfl
            try simp only [Act.put, List.getElem_toArray, List.getElem_cons_zero, List.getElem_cons_succ, List.setIfInBounds_toArray, List.set_cons_zero, List.set_cons_succ]
            refine wpAnyH_take (i := 9) (v := ?_) rfl (by kernel_rfl) (by kernel_rfl) (by kernel_rfl) (fun _ _ _ h => h) (Or.inl ⟨by rfl, ?_⟩) (by assumption) ?_
            rotate_left
            · intro w hSw; obtain ⟨s0, s1⟩ := hSw; go_simp; try with_reducible rfl
            try simp only [Act.put, List.getElem_toArray, List.getElem_cons_zero, List.getElem_cons_succ, List.setIfInBounds_toArray, List.set_cons_zero, List.set_cons_succ]
            refine wpAnyH_take (i := 10) (v := ?_) rfl (by kernel_rfl) (by kernel_rfl) (by kernel_rfl) (fun _ _ _ h => h) (Or.inl ⟨by rfl, ?_⟩) (by assumption) ?_
            rotate_left
            · intro w hSw; obtain ⟨s0, s1⟩ := hSw; go_simp; try with_reducible rfl
            try simp only [Act.put, List.getElem_toArray, List.getElem_cons_zero, List.getElem_cons_succ, List.setIfInBounds_toArray, List.set_cons_zero, List.set_cons_succ]
            refine wpAnyH_take (i := 11) (v := ?_) rfl (by kernel_rfl) (by kernel_rfl) (by kernel_rfl) (fun _ _ _ h => h) (Or.inl ⟨by rfl, ?_⟩) (by assumption) ?_
            rotate_left
            · intro w hSw; obtain ⟨s0, s1⟩ := hSw; go_simp; try with_reducible rfl
            try simp only [Act.put, List.getElem_toArray, List.getElem_cons_zero, List.getElem_cons_succ, List.setIfInBounds_toArray, List.set_cons_zero, List.set_cons_succ]
            refine wpAnyH_take (i := 12) (v := ?_) rfl (by kernel_rfl) (by kernel_rfl) (by kernel_rfl) (fun _ _ _ h => h) (Or.inl ⟨by rfl, ?_⟩) (by assumption) ?_
            rotate_left
            · intro w hSw; obtain ⟨s0, s1⟩ := hSw; go_simp; try with_reducible rfl
            try simp only [Act.put, List.getElem_toArray, List.getElem_cons_zero, List.getElem_cons_succ, List.setIfInBounds_toArray, List.set_cons_zero, List.set_cons_succ]
            refine wpAnyH_take (i := 13) (v := ?_) rfl (by kernel_rfl) (by kernel_rfl) (by kernel_rfl) (fun _ _ _ h => h) (Or.inl ⟨by rfl, ?_⟩) (by assumption) ?_
            rotate_left
            · intro w hSw; obtain ⟨s0, s1⟩ := hSw; go_simp; try with_reducible rfl
            try simp only [Act.put, List.getElem_toArray, List.getElem_cons_zero, List.getElem_cons_succ, List.setIfInBounds_toArray, List.set_cons_zero, List.set_cons_succ]
            refine wpAnyH_take (i := 15) (v := ?_) rfl (by kernel_rfl) (by kernel_rfl) (by kernel_rfl) (fun _ _ _ h => h) (Or.inl ⟨by rfl, ?_⟩) (by assumption) ?_
            rotate_left
            · intro w hSw; obtain ⟨s0, s1⟩ := hSw; go_simp; try with_reducible rfl
            try simp only [Act.put, List.getElem_toArray, List.getElem_cons_zero, List.getElem_cons_succ, List.setIfInBounds_toArray, List.set_cons_zero, List.set_cons_succ]
            refine wpAnyH_take (i := 16) (v := ?_) rfl (by kernel_rfl) (by kernel_rfl) (by kernel_rfl) (fun _ _ _ h => h) (Or.inl ⟨by rfl, ?_⟩) (by assumption) ?_
            rotate_left
            · intro w hSw; obtain ⟨s0, s1⟩ := hSw; go_simp; try with_reducible rfl
            try simp only [Act.put, List.getElem_toArray, List.getElem_cons_zero, List.getElem_cons_succ, List.setIfInBounds_toArray, List.set_cons_zero, List.set_cons_succ]
            refine wpAnyH_take (i := 17) (v := ?_) rfl (by kernel_rfl) (by kernel_rfl) (by kernel_rfl) (fun _ _ _ h => h) (Or.inl ⟨by rfl, ?_⟩) (by assumption) ?_
            rotate_left
            · intro w hSw; obtain ⟨s0, s1⟩ := hSw; go_simp; try with_reducible rfl
            try simp only [Act.put, List.getElem_toArray, List.getElem_cons_zero, List.getElem_cons_succ, List.setIfInBounds_toArray, List.set_cons_zero, List.set_cons_succ]
            refine wpAnyH_take (i := 18) (v := ?_) rfl (by kernel_rfl) (by kernel_rfl) (by kernel_rfl) (fun _ _ _ h => h) (Or.inl ⟨by rfl, ?_⟩) (by assumption) ?_
            rotate_left
            · intro w hSw; obtain ⟨s0, s1⟩ := hSw; go_simp; try with_reducible rfl
            try simp only [Act.put, List.getElem_toArray, List.getElem_cons_zero, List.getElem_cons_succ, List.setIfInBounds_toArray, List.set_cons_zero, List.set_cons_succ]
            refine wpAnyH_ready (rs := [14]) (by kernel_rfl) (by simp) ?_
            refine AllReadyH.cons rfl (fun K hK => ?_) AllReadyH.nil
            go_simp
            refine hK.out _ _ hS0 (fun _ => ?_)
            clear hK K
            try simp only [Act.put, List.getElem_toArray, List.getElem_cons_zero, List.getElem_cons_succ, List.setIfInBounds_toArray, List.set_cons_zero, List.set_cons_succ]
            refine wpAnyH_take (i := 19) (v := ?_) rfl (by kernel_rfl) (by kernel_rfl) (by kernel_rfl) (fun _ _ _ h => h) (Or.inl ⟨by rfl, ?_⟩) (by assumption) ?_
            rotate_left
            · intro w hSw; obtain ⟨s0, s1⟩ := hSw; go_simp; try with_reducible rfl
            try simp only [Act.put, List.getElem_toArray, List.getElem_cons_zero, List.getElem_cons_succ, List.setIfInBounds_toArray, List.set_cons_zero, List.set_cons_succ]
            refine wpAnyH_take (i := 20) (v := ?_) rfl (by kernel_rfl) (by kernel_rfl) (by kernel_rfl) (fun _ _ _ h => h) (Or.inl ⟨by rfl, ?_⟩) (by assumption) ?_
            rotate_left
            · intro w hSw; obtain ⟨s0, s1⟩ := hSw; go_simp; try with_reducible rfl
            try simp only [Act.put, List.getElem_toArray, List.getElem_cons_zero, List.getElem_cons_succ, List.setIfInBounds_toArray, List.set_cons_zero, List.set_cons_succ]
            refine wpAnyH_take (i := 21) (v := ?_) rfl (by kernel_rfl) (by kernel_rfl) (by kernel_rfl) (fun _ _ _ h => h) (Or.inl ⟨by rfl, ?_⟩) (by assumption) ?_
            rotate_left
            · intro w hSw; obtain ⟨s0, s1⟩ := hSw; go_simp; try with_reducible rfl
            try simp only [Act.put, List.getElem_toArray, List.getElem_cons_zero, List.getElem_cons_succ, List.setIfInBounds_toArray, List.set_cons_zero, List.set_cons_succ]
            refine wpAnyH_take (i := 22) (v := ?_) rfl (by kernel_rfl) (by kernel_rfl) (by kernel_rfl) (fun _ _ _ h => h) (Or.inl ⟨by rfl, ?_⟩) (by assumption) ?_
            rotate_left
            · intro w hSw; obtain ⟨s0, s1⟩ := hSw; go_simp; try with_reducible rfl
            try simp only [Act.put, List.getElem_toArray, List.getElem_cons_zero, List.getElem_cons_succ, List.setIfInBounds_toArray, List.set_cons_zero, List.set_cons_succ]
            refine wpAnyH_ready (rs := [23]) (by kernel_rfl) (by simp) ?_
            refine AllReadyH.cons rfl (fun K hK => ?_) AllReadyH.nil
            go_simp
            refine hK.out _ _ ⟨by simp [go_sem, n7], by simp [go_sem, n3]⟩ (fun _ => ?_)
            clear hK K
            try simp only [Act.put, List.getElem_toArray, List.getElem_cons_zero, List.getElem_cons_succ, List.setIfInBounds_toArray, List.set_cons_zero, List.set_cons_succ]
            refine wpAnyH_done (by kernel_rfl) ?_ _
            go_wp2_with fail
            obtain ⟨W2, hW2⟩ : ∃ W2, W2 = (W1.setCell ⟨g, k * 4 + 3, none⟩ (.int .i64 nx.hi)).drew := ⟨_, rfl⟩
            have z6 : W2.cell? ⟨g7, 0, none⟩ = some (.int .i64 rooms) := by rw [hW2]; simp [go_sem, n6]
            have z7 : W2.cell? ⟨g7, 1, none⟩ = some (.slice (some ⟨g, 0, none⟩) ws.length cap) := by rw [hW2]; simp [go_sem, n7]
            have z8 : W2.ownsRow wr.heap.size 74 4 (.slice (some ⟨g, 0, none⟩) ws.length cap) ws.length (((wcells ws).set (k * 4 + 2) (.int .i64 nx.lo)).set (k * 4 + 3) (.int .i64 nx.hi)) := by rw [hW2]; exact (n8.stored (k * 4 + 3) (.int .i64 nx.hi)).1
            have z9 : Below wr.heap.size wr W2 := by rw [hW2]; exact (n9.setCell (p := ⟨g, k * 4 + 3, none⟩) m3 _).drew
            rw [← HWN.out] at z8
            have hVS := own_ways z8
            have ht9 := ht7.below z9
            have hL9 := pairsUpM hL6 z9
            have hb09 := hb06.trans (z9.mono hs06)
            have hs09 : w.heap.size ≤ W2.heap.size := by have := z9.size; omega
            rw [← hW2]
            have hnf := HNF.out
            unfold NarF at hnf
            clear hW2 z8 z9 n6 n7 n8 n9 n3 n4 p6 m1 m3 m5 hmax hu2 hu3 hu5 hu6 hb2 hb3 hL6 hb06 hs06 ht7 HNI HWN HNF
            rcases hnf with HLO | ⟨sp3, HC3, HOK3⟩
            · have HLO := Lib.hid HLO
              go_wp2_with (first
                | (go_at_call 35; refine (HLO.out _ _ _ hVS ht9).mono ?_; rintro e w10 ⟨A10, c10, rfl, hb10⟩; have ht10 := ht9.below hb10; have hs10 := hb10.size)
                | (go_at_call 16; refine (works_any _ ht10).mono ?_; rintro e w11 ⟨rfl, hb11⟩))
              go_ret
              exact ⟨rfl, hb09.trans ((hb10.mono hs09).trans (hb11.mono (by omega)))⟩
            · have HC4 := Lib.hid HC3
              have HOK4 := Lib.hid HOK3
              clear HC3 HOK3
              go_wp2_with (first
                | (go_at_call 35; refine (HOK4.out _ _ _ hVS ht9).mono ?_; rintro e w10 ⟨A10, c10, rfl, hP10, hb10⟩; have ht10 := ht9.below hb10; have hs10 := hb10.size; have hL10 := pairsUpM hL9 hb10))
              have hb010 := hb09.trans (hb10.mono hs09)
              have hs010 : w.heap.size ≤ w10.heap.size := by omega
              clear hL9 hb09 hs09 hb10 hs10 ht9 hVS z6 z7 HOK4
              go_loopw [186] (fun u wz => ∃ j : Nat, j ≤ ws.length ∧ u = .int .i64 (j : Nat) ∧ Below w10.heap.size w10 wz) (fun u _ => ws.length - (intOf u).toNat)
              case atStart => exact ⟨0, Nat.zero_le _, rfl, Below.refl _ _⟩
              case round =>
                obtain ⟨j, hj, rfl, hbz⟩ := hrel
                by_cases hlt : j < ws.length
                · have hx : sp[j]? = some (sp[j]'(by omega)) := List.getElem?_eq_getElem (by omega)
                  generalize sp[j]'(by omega) = r at hx
                  obtain ⟨r2, hx2, ha1, ha2⟩ := HC4.out j r hx
                  obtain ⟨b1, o1, rfl, hb1, h1, h2⟩ := (hL10.below hbz (Nat.le_refl _)) j r hx
                  obtain ⟨b2, o2, rfl, hb2, h3, h4⟩ := (hP10.below hbz (Nat.le_refl _)) j r2 hx2
                  have hji : (j : Int) < (ws.length : Int) := by omega
                  have hj0 : (0 : Int) ≤ (j : Int) := by omega
                  have hd1 : decide (r2.1 < r.1) = false := decide_eq_false (by omega)
                  have hd2 : decide (r.2 < r2.2) = false := decide_eq_false (by omega)
                  clear hx hx2
                  go_wp2_with fail
                  go_quiet (fail)
                  go_wp2_with fail
                  go_roundw
                  case rel => exact ⟨j + 1, hlt, by go_num, below_drewN' hbz _⟩
                  case measure => simp [intOf]; omega
                · have hje : j = ws.length := by omega
                  subst hje
                  have ht11 := ht10.below hbz
                  have hsz := hbz.size
                  go_wp2_with (go_at_call 16; refine (works_any _ ht11).mono ?_; rintro e w12 ⟨rfl, hb12⟩)
                  go_ret
                  exact ⟨rfl, hb010.trans ((hbz.mono hs010).trans (hb12.mono (by omega)))⟩

theorem lawMore_any (w : World) (q p b : Int) (more : H4) (A : Option Addr) (c : Nat) (hs : List H4) (hq : 0 ≤ q ∧ q ≤ 255) (hp : 0 ≤ p ∧ p ≤ 255) (hb : 0 ≤ b ∧ b ≤ 255) (hmo : okH more) (hok : ∀ h ∈ hs, okH h) (hw : HouseAt w w.heap.size A hs) (ht : SizesAt w) : Calls Tryd.prog 12 #[.agg #[.int .u8 q, .slice A hs.length c], .int .u8 p, .int .u8 b, .agg #[.int .u8 more.a, .int .u8 more.b, .int .u8 more.c, .int .u8 more.d]] w fun e w' => e = .returned (.bool true) ∧ Below w.heap.size w w' := by
  cases h : agrS (roomsH q).toNat (madeS q hs 11) with
  | true => exact lawMore_T w q p b more A c hs hq hp hb hmo hok hw ht h
  | false => exact lawMore_F w q p b more A c hs hq hok hw ht h
end Go.Proofs.YtcebihijnedekaaDoor
