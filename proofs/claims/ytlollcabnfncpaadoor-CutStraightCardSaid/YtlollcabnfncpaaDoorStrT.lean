/-
  The walk of CutStraight, where the chosen filling is straight.
-/
import Derived.Test.YtlollcabnfncpaaDoorStrN
import Derived.Test.YtlollcabnfncpaaDoorFilG
import Derived.Test.YtlollcabnfncpaaDoorBdA
import Derived.Test.YtlollcabnfncpaaDoorWkA
import Derived.Lib.SliceRun
import Derived.Deep.RegionHeld3
namespace Go.Proofs.YtlollcabnfncpaaDoor
open Go.RowKit

set_option maxRecDepth 100000 in
set_option maxHeartbeats 8000000 in
theorem lawStraight_true (x : Bd) (s : Sh) (qn : Nat) (w : World) (hx : okB x) (hxs : bdS x = s) (hq : qn < 65536) (ht : TabW w) (hd : ∀ y, (filC s 0 [])[qn % (filC s 0 []).length]? = some y → (divS s y).st = true) :
    Calls Tryd.prog 9 #[.agg #[.int .u8 x.a, .int .u8 x.b, .int .u8 x.c, .int .u8 x.d], .int .u16 qn] w fun e w' => e = .returned (.bool true) ∧ Below w.heap.size w w' := by
  have HM := Lib.hid (fun W => bmade_any x W hx)
  have hs := bdS_ok x
  have har := bdS_area x
  rw [hxs] at HM hs har
  clear hxs
  obtain ⟨a, b, c, d⟩ := x
  dsimp only at *
  have HT := Lib.hid ht
  have hmf : ∀ (fn : Fn) (first cap : Array Value) (w : World), (Instr.makeFunc fn first cap).run Tryd.prog w = .ok (.func fn first cap) w := fun _ _ _ _ => rfl
  have q29 : ∀ (w : World) (a : Option Addr) (n c n' c' : Nat), (binOp .eql 29 (.slice a n c) (.slice none n' c')).run Tryd.prog w = .ok (.bool a.isNone) w := fun w a n c n' c' => Lib.run_eql_slice_nil w _ _ a n c n' c' Tryd.underlying29
  have hcl := cntC_len s 0 []
  have hsm := filC_small hs 0 []
  have HCNT := Lib.hid (fun W h => count_at hs W h)
  rw [← hcl] at HCNT
  have HW := Lib.hid (fun W h => works_any W h)
  have hsome := some_str hs har
  clear ht hcl har
  go_enter Tryd.func9, Tryd.ntmps9
  go_wp2_with fail
  refine (HM.out _).mono ?_
  rintro e w1 ⟨rfl, hb1⟩
  have hb1' := below_via (below_via hb1)
  have hz1 := hb1.size
  simp only [World.size_alloc] at hz1
  have qv1 : w1.cell? ⟨w.heap.size + 1, 0, none⟩ = some (.int .u16 qn) := (hb1.cell (p := ⟨w.heap.size + 1, 0, none⟩) (by simp)).trans (by simp [go_sem])
  have ht1 := HT.out.below hb1'
  clear hb1 HM
  obtain ⟨N, hN⟩ : ∃ N, (filC s 0 []).length = N := ⟨_, rfl⟩
  rw [hN] at HCNT hsm hd
  have hNi : ¬ (N : Int) < 0 := by omega
  have hNb : ¬ 1048576 < (N : Int) := by omega
  by_cases hN0 : N = 0
  · have hNe : ((N : Int) == 0) = true := beq_iff_eq.2 (by omega)
    clear hN hN0 hsome hd
    go_wp2_with (first
      | (go_at_call 23; refine (HCNT.out _ (ht1.below (below_new w1 _))).mono ?_; rintro e w2 ⟨rfl, hb2⟩; have hb12 := below_via hb2; have ht2 := ht1.below hb12)
      | (go_at_call 22; refine (HW.out _ (ht2.below (below_new w2 _))).mono ?_; rintro e w3 ⟨rfl, hb3⟩))
    go_ret
    exact ⟨rfl, (hb1'.trans (hb12.mono hb1'.size)).trans ((below_via hb3).mono (Nat.le_trans hb1'.size hb12.size))⟩
  · have hNe : ((N : Int) == 0) = false := beq_eq_false_iff_ne.2 (by omega)
    have hN1 : 1 ≤ N := by omega
    go_upto_region 9 with (first
      | (go_at_call 23; refine (HCNT.out _ (ht1.below (below_new w1 _))).mono ?_; rintro e w2 ⟨rfl, hb2⟩; have hb12 := below_via hb2; have ht2 := ht1.below hb12))
    obtain ⟨gs, hgs⟩ : ∃ g, g = w1.heap.size := ⟨_, rfl⟩
    obtain ⟨gn, hgn⟩ : ∃ g, g = w2.heap.size := ⟨_, rfl⟩
    obtain ⟨W0, hW0⟩ : ∃ W0, W0 = (((w2.alloc (.cells #[.int .i64 N] 3)).alloc (.cells #[.int .i64 0] 3)).alloc (.cells #[.bool false] 4)).alloc (.cells #[.slice none 0 0] 29) := ⟨_, rfl⟩
    have hz2 := hb2.size
    simp only [World.size_alloc] at hz2
    have hb02 : Below w2.heap.size w2 W0 := hW0 ▸ ((((Below.refl _ w2).alloc (Nat.le_refl _) _).alloc (by simp) _).alloc (by simp; omega) _).alloc (by simp; omega) _
    have hb0 : Below w.heap.size w W0 := (hb1'.trans (hb12.mono hb1'.size)).trans (hb02.mono (by omega))
    have hz0 : W0.heap.size = gn + 4 := by rw [hW0, hgn]; simp
    have p0 : W0.cell? ⟨gs, 0, none⟩ = some (.int .i64 s.r) := (hb02.cell (p := ⟨gs, 0, none⟩) (by simp only; omega)).trans ((hb2.cell (p := ⟨gs, 0, none⟩) (by simp; omega)).trans (by rw [hgs]; simp [go_sem]))
    have p1 : W0.cell? ⟨gs, 1, none⟩ = some (.int .i64 s.c) := (hb02.cell (p := ⟨gs, 1, none⟩) (by simp only; omega)).trans ((hb2.cell (p := ⟨gs, 1, none⟩) (by simp; omega)).trans (by rw [hgs]; simp [go_sem]))
    have p2 : W0.cell? ⟨gs, 2, none⟩ = some (.int .i64 s.l) := (hb02.cell (p := ⟨gs, 2, none⟩) (by simp only; omega)).trans ((hb2.cell (p := ⟨gs, 2, none⟩) (by simp; omega)).trans (by rw [hgs]; simp [go_sem]))
    have p3 : W0.cell? ⟨gs, 3, none⟩ = some (.int .i64 s.w) := (hb02.cell (p := ⟨gs, 3, none⟩) (by simp only; omega)).trans ((hb2.cell (p := ⟨gs, 3, none⟩) (by simp; omega)).trans (by rw [hgs]; simp [go_sem]))
    have pq : W0.cell? ⟨w.heap.size + 1, 0, none⟩ = some (.int .u16 qn) := (hb02.cell (p := ⟨w.heap.size + 1, 0, none⟩) (by simp only; omega)).trans ((hb12.cell (p := ⟨w.heap.size + 1, 0, none⟩) (by simp only; omega)).trans qv1)
    obtain ⟨Z, hZ⟩ : ∃ Z : SP, Z = ⟨w.heap.size + 1, gs, gn, gn + 1, gn + 1 + 1, gn + 1 + 1 + 1⟩ := ⟨_, rfl⟩
    have hI : StrI s Z qn N 0 none false (fun i => i = w.heap.size + 1 ∨ i = gs ∨ i = gn ∨ i = gn + 1 ∨ i = gn + 1 + 1 ∨ i = gn + 1 + 1 + 1) W0 := by
      rw [hZ]
      refine ⟨p0, p1, p2, p3, pq, ?_, ?_, ?_, ?_, ?_, ⟨⟨.slice none 0 0, 0, ⟨?_, ?_⟩, World.ownsRow_nil _ _ _ _, fun i hi => by cases hi⟩, by dsimp only; omega⟩, fun _ => ?_, ⟨by dsimp only; omega, by dsimp only; omega, by dsimp only; omega, by dsimp only; omega, by dsimp only; omega⟩, ⟨by dsimp only; omega, by dsimp only; omega, by dsimp only; omega, by dsimp only; omega, by dsimp only; omega⟩, fun i hi => by omega⟩
      all_goals (rw [hW0, hgn]; simp [go_sem])
    have hKN := Nat.mod_lt qn (show 0 < N by omega)
    obtain ⟨y, hy⟩ : ∃ y, (filC s 0 [])[qn % N]? = some y := ⟨_, List.getElem?_eq_getElem (by rw [hN]; exact hKN)⟩
    have HFI := Lib.hid (fillings_any s (strE s Z qn N) (0, none, false) _ W0 hs (str_eachS s hs Z qn N hq hN1 (by omega)) hI)
    obtain ⟨r1, r2⟩ := str_run s (qn % N) N y (filC s 0 []) 0 none false (by rw [Nat.zero_add]; exact hN) (by omega) hKN (fun h => absurd h (Nat.not_lt_zero _)) (fun _ => by rw [Nat.sub_zero]; exact hy)
    have hym : y ∈ filC s 0 [] := mem_of_get hy
    have hbig : (runF (strN s (qn % N)) (((0 : Nat) : Int), none, false) (filC s 0 [])).1.2.2 = true ∨ 40 < N := by
      by_cases h40 : N ≤ 40
      · left
        rw [r2 h40, Bool.false_or, List.any_eq_true]
        obtain ⟨z, hz, hd⟩ := hsome (ne_of_mem hym)
        exact ⟨z, hz, decide_eq_true hd⟩
      · right; omega
    change Hid (Calls Tryd.prog 44 #[.agg #[.int .i64 s.r, .int .i64 s.c, .int .i64 s.l, .int .i64 s.w], .func (.func 52) #[] #[.pointer (some ⟨Z.ga, 0, none⟩), .pointer (some ⟨Z.gq, 0, none⟩), .pointer (some ⟨Z.gn, 0, none⟩), .pointer (some ⟨Z.gc, 0, none⟩), .pointer (some ⟨Z.gt, 0, none⟩), .pointer (some ⟨Z.gs, 0, none⟩)]] W0 fun e w' => e = .returned (.bool (runF (strN s (qn % N)) (((0 : Nat) : Int), none, false) (filC s 0 [])).2) ∧ ∃ B', (StrI s Z qn N (runF (strN s (qn % N)) (((0 : Nat) : Int), none, false) (filC s 0 [])).1.1 (runF (strN s (qn % N)) (((0 : Nat) : Int), none, false) (filC s 0 [])).1.2.1 (runF (strN s (qn % N)) (((0 : Nat) : Int), none, false) (filC s 0 [])).1.2.2 B' w' ∧ ∀ i, B' i → (i = w.heap.size + 1 ∨ i = gs ∨ i = gn ∨ i = gn + 1 ∨ i = gn + 1 + 1 ∨ i = gn + 1 + 1 + 1) ∨ W0.heap.size ≤ i) ∧ Chg (fun i => i = w.heap.size + 1 ∨ i = gs ∨ i = gn ∨ i = gn + 1 ∨ i = gn + 1 + 1 ∨ i = gn + 1 + 1 + 1) W0 w') at HFI
    clear r2 hI hsome
    rw [r1] at HFI
    clear r1
    generalize (runF (strN s (qn % N)) (((0 : Nat) : Int), none, false) (filC s 0 [])).1.2.2 = sx at *
    generalize (runF (strN s (qn % N)) (((0 : Nat) : Int), none, false) (filC s 0 [])).1.1 = sa at *
    generalize (runF (strN s (qn % N)) (((0 : Nat) : Int), none, false) (filC s 0 [])).2 = sb at *
    rw [hZ] at HFI
    clear hZ
    have hne := fil_ne hs hym
    have hl36 := filC_len hs hym
    have hfit := filC_fit hym
    have hver := filC_ver hs hym
    have hdp := dep_all hs hver (n := 41) (by omega)
    obtain ⟨hst, hvf⟩ := strF_ok hs hver
    obtain ⟨hrf, hre⟩ := rou_ok hs hver
    have hdl := div_len hs hl36 hver
    have hnc := no_cuts hs hfit
    have hd13 : (divS s y).n ≤ 13 := divC_le _ _
    have HDP := Lib.hid (fun A c W (h : CardsAt W W.heap.size A y) => depth_any s hs 41 (by omega) A c y W h hfit (by omega))
    rw [hdp] at HDP
    have HST := Lib.hid (fun A c W (h : CardsAt W W.heap.size A y) => straight_any s.r s.c s.l s.w A c y W h (by omega))
    rw [hst, hvf] at HST
    have HRO := Lib.hid (fun A c W (h : CardsAt W W.heap.size A y) => rounds_any s.r s.c s.l s.w A c y W h (by omega))
    rw [hrf, hre] at HRO
    have HCU := Lib.hid (fun A c W (h : CardsAt W W.heap.size A y) => cuts_ok s A c y W hs h hver (by omega))
    rw [← cutB_rows hs, ← cutB_cols hs] at HCU
    have HVE := Lib.hid (fun A c W (h : CardsAt W W.heap.size A y) => verify_ok s A c y W hs h (by omega))
    rw [hver] at HVE
    have HGO := Lib.hid (fun A c (ac : Bool) (at' : Int) W (h : CardsAt W W.heap.size A y) => goes_any s A c y ac at' W hs h hfit (by omega))
    have HNZ : Hid (∀ (A : Option Addr) (W : World), CardsAt W W.heap.size A y → ∃ b o, A = some ⟨b, o, none⟩) := Lib.hid (fun A W h => by
      obtain ⟨z, hz⟩ : ∃ z, y[0]? = some z := by
        rcases y with _ | ⟨z, y⟩
        · exact absurd rfl hne
        · exact ⟨z, rfl⟩
      obtain ⟨b, o, e, _⟩ := h 0 z hz
      exact ⟨b, o, e⟩)
    have HAL1 := Lib.hid (cutN_all hs true y)
    have HAL2 := Lib.hid (cutN_all hs false y)
    have HY1 := Lib.hid (fun (j : Nat) (h : j + 1 < s.r) ht => cutN_yes (s := s) (ac := true) (l := y) (j := j) h ht)
    have HY2 := Lib.hid (fun (j : Nat) (h : j + 1 < s.c) ht => cutN_yes (s := s) (ac := false) (l := y) (j := j) h ht)
    have HN1 := Lib.hid (fun (j : Nat) (h : ¬ (j + 1 < s.r ∧ thrA s true (1 + (j : Int)) y = true)) => cutN_no (s := s) (ac := true) (l := y) (j := j) h)
    have HN2 := Lib.hid (fun (j : Nat) (h : ¬ (j + 1 < s.c ∧ thrA s false (1 + (j : Int)) y = true)) => cutN_no (s := s) (ac := false) (l := y) (j := j) h)
    have hdst := hd y hy
    clear hd hN hy hym hver hdp hst hvf hrf hre hfit hKN
    generalize divS s y = dv at *
    obtain ⟨dst, dn⟩ := dv
    dsimp only at hdl hnc hd13 hdst
    subst hdst
    have hr6 := hs.r6
    have hc6 := hs.c6
    have hgw : w.heap.size + 1 < gs := by omega
    have hgg : gs < gn := by omega
    have HDL := Lib.hid hdl
    have HNC := Lib.hid hnc
    rw [← hgs, ← hgn, ← hW0]
    clear hW0 hgs hgn hb1' hb12 hb2 hz2 hz1 hb02 hs hx qv1 HCNT hdl hnc
    go_upto_region 12 with (go_at_call 44; refine HFI.out.mono ?_; rintro e w3 ⟨rfl, B', ⟨hI3, hBB⟩, hc3⟩; obtain ⟨q0, q1, q2, q3, _, qn3, _, _, qt, _, ⟨⟨v, base, ⟨v1, v2⟩, v3, _⟩, _⟩, _, _, _, _⟩ := hI3; obtain ⟨A1, c1, rfl, hA1, _⟩ := own_cards v3; obtain ⟨b1, o1, rfl⟩ := HNZ.out _ _ hA1)
    change w3.cell? ⟨gs, 0, none⟩ = _ at q0
    change w3.cell? ⟨gs, 1, none⟩ = _ at q1
    change w3.cell? ⟨gs, 2, none⟩ = _ at q2
    change w3.cell? ⟨gs, 3, none⟩ = _ at q3
    change w3.cell? ⟨gn, 0, none⟩ = _ at qn3
    change w3.cell? ⟨gn + 1 + 1, 0, none⟩ = _ at qt
    change w3.cell? ⟨gn + 1 + 1 + 1, 0, none⟩ = _ at v1
    have hB3 : Below w.heap.size w w3 := hb0.trans (hc3.below (by omega) (fun i hi => by omega))
    have ht3 := HT.out.below hB3
    have HK := Lib.hid (fun (W' : World) (h : Below w3.heap.size w3 W') => show W'.cell? ⟨gs, 0, none⟩ = some (.int .i64 s.r) ∧ W'.cell? ⟨gs, 1, none⟩ = some (.int .i64 s.c) ∧ W'.cell? ⟨gs, 2, none⟩ = some (.int .i64 s.l) ∧ W'.cell? ⟨gs, 3, none⟩ = some (.int .i64 s.w) ∧ W'.cell? ⟨gn, 0, none⟩ = some (.int .i64 N) ∧ W'.cell? ⟨gn + 1 + 1, 0, none⟩ = some (.bool sx) ∧ W'.cell? ⟨gn + 1 + 1 + 1, 0, none⟩ = some (.slice (some ⟨b1, o1, none⟩) y.length c1) from
      ⟨(h.cell (p := ⟨gs, 0, none⟩) (lt_of_cell q0)).trans q0, (h.cell (p := ⟨gs, 1, none⟩) (lt_of_cell q0)).trans q1, (h.cell (p := ⟨gs, 2, none⟩) (lt_of_cell q0)).trans q2, (h.cell (p := ⟨gs, 3, none⟩) (lt_of_cell q0)).trans q3, (h.cell (p := ⟨gn, 0, none⟩) (lt_of_cell qn3)).trans qn3, (h.cell (p := ⟨gn + 1 + 1, 0, none⟩) (lt_of_cell qt)).trans qt, (h.cell (p := ⟨gn + 1 + 1 + 1, 0, none⟩) (lt_of_cell v1)).trans v1⟩)
    have HA1 := Lib.hid hA1
    have hb33 : Below w3.heap.size w3 w3 := Below.refl _ _
    clear hc3 hBB v2 v3 HFI hb0 hz0 p0 p1 p2 p3 pq hA1 hmf HNZ HT
    have HBIG := Lib.hid hbig
    clear hbig
    unfold valD at HDP
    simp only [if_true] at HDP HRO
    have hd0 : (0 : Int) ≤ (dn : Int) := by omega
    have hcu := fun W h => HCU.out _ c1 W (HA1.out.up h)
    unfold RetCut3 at hcu
    have HCU' := Lib.hid hcu
    clear hcu HCU
    generalize hl1 : (cutB s true y).length = n1 at *
    generalize hl2 : (cutB s false y).length = n2 at *
    have HL1 := Lib.hid hl1
    have HL2 := Lib.hid hl2
    clear hl1 hl2
    go_wp2_with (first
      | (go_at_call 53; refine (HDP.out _ _ _ (HA1.out.up hb33)).mono ?_; rintro e w4 ⟨rfl, hb4'⟩; have hb4 := hb33.trans (hb4'.mono hb33.size); obtain ⟨x40, x41, x42, x43, x44, x45, x46⟩ := HK.out _ hb4)
      | (go_at_call 30; refine (HST.out _ _ _ (HA1.out.up hb4)).mono ?_; rintro e w5 ⟨rfl, hb5'⟩; have hb5 := hb4.trans (hb5'.mono hb4.size); obtain ⟨x50, x51, x52, x53, x54, x55, x56⟩ := HK.out _ hb5)
      | (go_at_call 32; refine (HRO.out _ _ _ (HA1.out.up hb5)).mono ?_; rintro e w6 ⟨rfl, hb6'⟩; have hb6 := hb5.trans (hb6'.mono hb5.size); obtain ⟨x60, x61, x62, x63, x64, x65, x66⟩ := HK.out _ hb6)
      | (go_at_call 28; refine (HCU'.out _ hb6).mono ?_; rintro e w7 ⟨A7, c7, A8, c8, rfl, hA7, hA8, hb7'⟩; have hb7 := hb6.trans (hb7'.mono hb6.size); obtain ⟨x70, x71, x72, x73, x74, x75, x76⟩ := HK.out _ hb7)
      | (go_at_call 35; refine (HVE.out _ _ _ (HA1.out.up hb7)).mono ?_; rintro e w8 ⟨rfl, hb8'⟩; have hA78 := hA7.up hb8'; have hA88 := hA8.up hb8'; have hb8 := hb7.trans (hb8'.mono hb7.size); obtain ⟨x80, x81, x82, x83, x84, x85, x86⟩ := HK.out _ hb8))
    have HI7 := Lib.hid hA78
    have HI8 := Lib.hid hA88
    have HK8 := Lib.hid (fun (W' : World) (h : Below w8.heap.size w8 W') => HK.out W' (hb8.trans (h.mono hb8.size)))
    have HB8 := Lib.hid (hB3.trans (hb8.mono hB3.size))
    have ht8 := ht3.below hb8
    have HT8 := Lib.hid ht8
    have HA8 := Lib.hid (HA1.out.up hb8)
    have hb88 : Below w8.heap.size w8 w8 := Below.refl _ _
    have hq1 := cutN_zero s true y
    have hq2 := cutN_zero s false y
    have HQ1 := Lib.hid hq1
    have HQ2 := Lib.hid hq2
    clear hA7 hA8 hA78 hA88 hb4' hb5' hb6' hb7' hb8' hb4 hb5 hb6 hb7 hb8 hb33 hB3 ht3 HDP HST HRO HCU' HVE HK HA1 hq1 hq2 ht8 x40 x41 x42 x43 x44 x45 x46 x50 x51 x52 x53 x54 x55 x56 x60 x61 x62 x63 x64 x65 x66 x70 x71 x72 x73 x74 x75 x76 x80 x81 x82 x83 x84 x85 x86 q0 q1 q2 q3 qn3 qt v1
    go_loopw [19, 20, 21] (fun ri ki xi wr => ∃ j : Nat, j ≤ 5 ∧ xi = .int .i64 (1 + (j : Int)) ∧ ri = .int .i64 (cutN s true y j : Nat) ∧ ki = .int .i64 (cutN s false y j : Nat) ∧ Below w8.heap.size w8 wr) (fun _ _ xi _ => 8 - (intOf xi).toNat)
    case atStart => exact ⟨0, by omega, by simp, by rw [HQ1.out]; rfl, by rw [HQ2.out]; rfl, hb88⟩
    case round =>
      obtain ⟨j, hj, rfl, rfl, rfl, hbr⟩ := hrel
      have hzr := hbr.size
      by_cases hlt : j < 5
      · have hlt' : 1 + (j : Int) < 6 := by omega
        obtain ⟨r0, r1, r2, r3, _, _, r6⟩ := HK8.out _ hbr
        have HG1 := Lib.hid (HGO.out (some ⟨b1, o1, none⟩) c1 true (1 + (j : Int)))
        have HG2 := Lib.hid (HGO.out (some ⟨b1, o1, none⟩) c1 false (1 + (j : Int)))
        have HYA := Lib.hid (HY1.out j)
        have HYB := Lib.hid (HY2.out j)
        have HNA := Lib.hid (HN1.out j)
        have HNB := Lib.hid (HN2.out j)
        have hcj1 := cutN_le s true y j
        have hcj2 := cutN_le s false y j
        generalize thrA s true (1 + (j : Int)) y = tT at *
        generalize thrA s false (1 + (j : Int)) y = tF at *
        generalize hk1 : cutN s true y j = k1 at *
        generalize hk2 : cutN s false y j = k2 at *
        clear hk1 hk2
        by_cases hr1 : j + 1 < s.r
        · have hr1' : 1 + (j : Int) < (s.r : Int) := by omega
          rcases tT with _ | _
          · have HRA := Lib.hid (HNA.out (fun e => by cases e.2))
            by_cases hc1 : j + 1 < s.c
            · have hc1' : 1 + (j : Int) < (s.c : Int) := by omega
              rcases tF with _ | _
              · have HRB := Lib.hid (HNB.out (fun e => by cases e.2))
                go_wp2_with (first
                  | (go_at_call 54; with_reducible refine (HG1.out _ (HA8.out.up hbr)).mono ?_; rintro e w9 ⟨rfl, hb9'⟩; have hb9 := hbr.trans (hb9'.mono hzr); have hz9 := hb9.size; obtain ⟨s0, s1, s2, s3, _, _, s6⟩ := HK8.out _ hb9)
                  | (go_at_call 54; with_reducible refine (HG2.out _ (HA8.out.up hb9)).mono ?_; rintro e w10 ⟨rfl, hb10'⟩; have hb10 := hb9.trans (hb10'.mono hz9); obtain ⟨t0, t1, t2, t3, _, _, t6⟩ := HK8.out _ hb10))
                go_roundw
                case rel => exact ⟨j + 1, by omega, by go_num, by (rw [HRA.out] <;> (first | rfl | go_num)), by (rw [HRB.out] <;> (first | rfl | go_num)), hb10⟩
                case measure => simp [intOf]; omega
              · obtain ⟨hgB, hrB⟩ := HYB.out hc1 rfl
                have HRB := Lib.hid hrB
                have hlB := (List.getElem?_eq_some_iff.1 hgB).1
                rw [HL2.out] at hlB
                have hlB' : (k2 : Int) < (n2 : Int) := by omega
                have hlB2 : ¬ (n2 : Int) ≤ (k2 : Int) := by omega
                have hlB3 : (0 : Int) ≤ (k2 : Int) := by omega
                obtain ⟨bB, oB, rfl, hzB, hcB⟩ := HI8.out k2 _ hgB
                have HCB := Lib.hid (fun (W' : World) (h : Below w8.heap.size w8 W') => (h.cell (p := ⟨bB, oB + k2, none⟩) hzB).trans hcB)
                clear hgB hrB hcB hzB
                go_wp2_with (first
                  | (go_at_call 54; with_reducible refine (HG1.out _ (HA8.out.up hbr)).mono ?_; rintro e w9 ⟨rfl, hb9'⟩; have hb9 := hbr.trans (hb9'.mono hzr); have hz9 := hb9.size; obtain ⟨s0, s1, s2, s3, _, _, s6⟩ := HK8.out _ hb9)
                  | (go_at_call 54; with_reducible refine (HG2.out _ (HA8.out.up hb9)).mono ?_; rintro e w10 ⟨rfl, hb10'⟩; have hb10 := hb9.trans (hb10'.mono hz9); obtain ⟨t0, t1, t2, t3, _, _, t6⟩ := HK8.out _ hb10; have hcB := HCB.out _ hb10))
                go_roundw
                case rel => exact ⟨j + 1, by omega, by go_num, by (rw [HRA.out] <;> (first | rfl | go_num)), by (rw [HRB.out] <;> (first | rfl | go_num)), hb10⟩
                case measure => simp [intOf]; omega
            · have hc1' : ¬ 1 + (j : Int) < (s.c : Int) := by omega
              have HRB := Lib.hid (HNB.out (fun e => hc1 e.1))
              go_wp2_with (first
                | (go_at_call 54; with_reducible refine (HG1.out _ (HA8.out.up hbr)).mono ?_; rintro e w9 ⟨rfl, hb9'⟩; have hb9 := hbr.trans (hb9'.mono hzr); have hz9 := hb9.size; obtain ⟨s0, s1, s2, s3, _, _, s6⟩ := HK8.out _ hb9))
              go_roundw
              case rel => exact ⟨j + 1, by omega, by go_num, by (rw [HRA.out] <;> (first | rfl | go_num)), by (rw [HRB.out] <;> (first | rfl | go_num)), hb9⟩
              case measure => simp [intOf]; omega
          · obtain ⟨hgA, hrA⟩ := HYA.out hr1 rfl
            have HRA := Lib.hid hrA
            have hlA := (List.getElem?_eq_some_iff.1 hgA).1
            rw [HL1.out] at hlA
            have hlA' : (k1 : Int) < (n1 : Int) := by omega
            have hlA2 : ¬ (n1 : Int) ≤ (k1 : Int) := by omega
            have hlA3 : (0 : Int) ≤ (k1 : Int) := by omega
            obtain ⟨bA, oA, rfl, hzA, hcA⟩ := HI7.out k1 _ hgA
            have HCA := Lib.hid (fun (W' : World) (h : Below w8.heap.size w8 W') => (h.cell (p := ⟨bA, oA + k1, none⟩) hzA).trans hcA)
            clear hgA hrA hcA hzA
            by_cases hc1 : j + 1 < s.c
            · have hc1' : 1 + (j : Int) < (s.c : Int) := by omega
              rcases tF with _ | _
              · have HRB := Lib.hid (HNB.out (fun e => by cases e.2))
                go_wp2_with (first
                  | (go_at_call 54; with_reducible refine (HG1.out _ (HA8.out.up hbr)).mono ?_; rintro e w9 ⟨rfl, hb9'⟩; have hb9 := hbr.trans (hb9'.mono hzr); have hz9 := hb9.size; obtain ⟨s0, s1, s2, s3, _, _, s6⟩ := HK8.out _ hb9; have hcA := HCA.out _ hb9)
                  | (go_at_call 54; with_reducible refine (HG2.out _ (HA8.out.up hb9)).mono ?_; rintro e w10 ⟨rfl, hb10'⟩; have hb10 := hb9.trans (hb10'.mono hz9); obtain ⟨t0, t1, t2, t3, _, _, t6⟩ := HK8.out _ hb10))
                go_roundw
                case rel => exact ⟨j + 1, by omega, by go_num, by (rw [HRA.out] <;> (first | rfl | go_num)), by (rw [HRB.out] <;> (first | rfl | go_num)), hb10⟩
                case measure => simp [intOf]; omega
              · obtain ⟨hgB, hrB⟩ := HYB.out hc1 rfl
                have HRB := Lib.hid hrB
                have hlB := (List.getElem?_eq_some_iff.1 hgB).1
                rw [HL2.out] at hlB
                have hlB' : (k2 : Int) < (n2 : Int) := by omega
                have hlB2 : ¬ (n2 : Int) ≤ (k2 : Int) := by omega
                have hlB3 : (0 : Int) ≤ (k2 : Int) := by omega
                obtain ⟨bB, oB, rfl, hzB, hcB⟩ := HI8.out k2 _ hgB
                have HCB := Lib.hid (fun (W' : World) (h : Below w8.heap.size w8 W') => (h.cell (p := ⟨bB, oB + k2, none⟩) hzB).trans hcB)
                clear hgB hrB hcB hzB
                go_wp2_with (first
                  | (go_at_call 54; with_reducible refine (HG1.out _ (HA8.out.up hbr)).mono ?_; rintro e w9 ⟨rfl, hb9'⟩; have hb9 := hbr.trans (hb9'.mono hzr); have hz9 := hb9.size; obtain ⟨s0, s1, s2, s3, _, _, s6⟩ := HK8.out _ hb9; have hcA := HCA.out _ hb9)
                  | (go_at_call 54; with_reducible refine (HG2.out _ (HA8.out.up hb9)).mono ?_; rintro e w10 ⟨rfl, hb10'⟩; have hb10 := hb9.trans (hb10'.mono hz9); obtain ⟨t0, t1, t2, t3, _, _, t6⟩ := HK8.out _ hb10; have hcB := HCB.out _ hb10))
                go_roundw
                case rel => exact ⟨j + 1, by omega, by go_num, by (rw [HRA.out] <;> (first | rfl | go_num)), by (rw [HRB.out] <;> (first | rfl | go_num)), hb10⟩
                case measure => simp [intOf]; omega
            · have hc1' : ¬ 1 + (j : Int) < (s.c : Int) := by omega
              have HRB := Lib.hid (HNB.out (fun e => hc1 e.1))
              go_wp2_with (first
                | (go_at_call 54; with_reducible refine (HG1.out _ (HA8.out.up hbr)).mono ?_; rintro e w9 ⟨rfl, hb9'⟩; have hb9 := hbr.trans (hb9'.mono hzr); have hz9 := hb9.size; obtain ⟨s0, s1, s2, s3, _, _, s6⟩ := HK8.out _ hb9; have hcA := HCA.out _ hb9))
              go_roundw
              case rel => exact ⟨j + 1, by omega, by go_num, by (rw [HRA.out] <;> (first | rfl | go_num)), by (rw [HRB.out] <;> (first | rfl | go_num)), hb9⟩
              case measure => simp [intOf]; omega
        · have hr1' : ¬ 1 + (j : Int) < (s.r : Int) := by omega
          have HRA := Lib.hid (HNA.out (fun e => hr1 e.1))
          by_cases hc1 : j + 1 < s.c
          · have hc1' : 1 + (j : Int) < (s.c : Int) := by omega
            rcases tF with _ | _
            · have HRB := Lib.hid (HNB.out (fun e => by cases e.2))
              go_wp2_with (first
                | (go_at_call 54; with_reducible refine (HG2.out _ (HA8.out.up hbr)).mono ?_; rintro e w10 ⟨rfl, hb10'⟩; have hb10 := hbr.trans (hb10'.mono hzr); obtain ⟨t0, t1, t2, t3, _, _, t6⟩ := HK8.out _ hb10))
              go_roundw
              case rel => exact ⟨j + 1, by omega, by go_num, by (rw [HRA.out] <;> (first | rfl | go_num)), by (rw [HRB.out] <;> (first | rfl | go_num)), hb10⟩
              case measure => simp [intOf]; omega
            · obtain ⟨hgB, hrB⟩ := HYB.out hc1 rfl
              have HRB := Lib.hid hrB
              have hlB := (List.getElem?_eq_some_iff.1 hgB).1
              rw [HL2.out] at hlB
              have hlB' : (k2 : Int) < (n2 : Int) := by omega
              have hlB2 : ¬ (n2 : Int) ≤ (k2 : Int) := by omega
              have hlB3 : (0 : Int) ≤ (k2 : Int) := by omega
              obtain ⟨bB, oB, rfl, hzB, hcB⟩ := HI8.out k2 _ hgB
              have HCB := Lib.hid (fun (W' : World) (h : Below w8.heap.size w8 W') => (h.cell (p := ⟨bB, oB + k2, none⟩) hzB).trans hcB)
              clear hgB hrB hcB hzB
              go_wp2_with (first
                | (go_at_call 54; with_reducible refine (HG2.out _ (HA8.out.up hbr)).mono ?_; rintro e w10 ⟨rfl, hb10'⟩; have hb10 := hbr.trans (hb10'.mono hzr); obtain ⟨t0, t1, t2, t3, _, _, t6⟩ := HK8.out _ hb10; have hcB := HCB.out _ hb10))
              go_roundw
              case rel => exact ⟨j + 1, by omega, by go_num, by (rw [HRA.out] <;> (first | rfl | go_num)), by (rw [HRB.out] <;> (first | rfl | go_num)), hb10⟩
              case measure => simp [intOf]; omega
          · have hc1' : ¬ 1 + (j : Int) < (s.c : Int) := by omega
            have HRB := Lib.hid (HNB.out (fun e => hc1 e.1))
            go_wp2
            go_roundw
            case rel => exact ⟨j + 1, by omega, by go_num, by (rw [HRA.out] <;> (first | rfl | go_num)), by (rw [HRB.out] <;> (first | rfl | go_num)), hbr⟩
            case measure => simp [intOf]; omega
      · obtain rfl : j = 5 := by omega
        have e1 : cutN s true y 5 = n1 := HAL1.out
        have e2 : cutN s false y 5 = n2 := HAL2.out
        rw [e1, e2]
        obtain ⟨r0, r1, r2, r3, r4, r5, r6⟩ := HK8.out _ hbr
        have HKR := Lib.hid (fun (W' : World) (h : Below wr.heap.size wr W') => HK8.out W' (hbr.trans (h.mono hzr)))
        have HTR := Lib.hid (HT8.out.below hbr)
        have HBR := Lib.hid (HB8.out.trans (hbr.mono HB8.out.size))
        have hn1 := cutN_le s true y 5
        have hn2 := cutN_le s false y 5
        rw [e1] at hn1
        rw [e2] at hn2
        have hlt' : ¬ 1 + ((5 : Nat) : Int) < 6 := by omega
        have HNC2 := Lib.hid HNC.out
        have hbW : Below wr.heap.size wr wr := Below.refl _ _
        clear e1 e2 hbr hzr hlt hj
        by_cases h00 : n1 + n2 = 0
        · have hy1 := HNC2.out (by omega) (by omega) (by first | rfl | trivial)
          have hs0 : (((n1 : Int) + (n2 : Int)) == 0) = true := beq_iff_eq.2 (by omega)
          have hyl : ¬ 1 < (y.length : Int) := by omega
          have hn10 : n1 = 0 := by omega
          have hn20 : n2 = 0 := by omega
          subst hn10 hn20
          clear hy1 h00 hs0
          go_upto_region 32 with fail
          have hbd : Below wr.heap.size wr wr.drew := (Below.refl _ _).drew
          have hdl2 := HDL.out (by first | rfl | trivial)
          have hsh := shl_val hd13
          have hle : (y.length : Int) ≤ ((2 ^ dn : Nat) : Int) := by omega
          clear hdl2 hd13
          generalize ((2 ^ dn : Nat) : Int) = sv at *
          rcases sx with _ | _
          · have h40 : (40 : Int) < (N : Int) := by rcases HBIG.out with e | e; exact absurd e (by decide); omega
            refine wp_region_held_drew (S := fun W' => W'.cell? ⟨gs, 0, none⟩ = some (.int .i64 s.r) ∧ W'.cell? ⟨gs, 1, none⟩ = some (.int .i64 s.c) ∧ W'.cell? ⟨gs, 2, none⟩ = some (.int .i64 s.l) ∧ W'.cell? ⟨gs, 3, none⟩ = some (.int .i64 s.w) ∧ W'.cell? ⟨gn, 0, none⟩ = some (.int .i64 N) ∧ W'.cell? ⟨gn + 1 + 1, 0, none⟩ = some (.bool false) ∧ W'.cell? ⟨gn + 1 + 1 + 1, 0, none⟩ = some (.slice (some ⟨b1, o1, none⟩) y.length c1)) (by kernel_rfl) (HKR.out _ hbd) (fun hHeld => ?_)
            refine wpAnyH_take (i := 0) (v := ?_) rfl (by kernel_rfl) (by kernel_rfl) (by kernel_rfl) (fun _ _ _ h => h) (Or.inl ⟨by rfl, ?_⟩) (by assumption) ?_
            rotate_left
            · intro w hSw; obtain ⟨x0, x1, x2, x3, x4, x5, x6⟩ := hSw; go_simp; try with_reducible rfl
            try simp only [Act.put, List.getElem_toArray, List.getElem_cons_zero, List.setIfInBounds_toArray, List.set_cons_zero, List.set_cons_succ]
            refine wpAnyH_take (i := 1) (v := ?_) rfl (by kernel_rfl) (by kernel_rfl) (by kernel_rfl) (fun _ _ _ h => h) (Or.inl ⟨by rfl, ?_⟩) (by assumption) ?_
            rotate_left
            · intro w hSw; obtain ⟨x0, x1, x2, x3, x4, x5, x6⟩ := hSw; go_simp; try with_reducible rfl
            try simp only [Act.put, List.getElem_toArray, List.getElem_cons_zero, List.getElem_cons_succ, List.setIfInBounds_toArray, List.set_cons_zero, List.set_cons_succ]
            refine wpAnyH_take (i := 2) (v := ?_) rfl (by kernel_rfl) (by kernel_rfl) (by kernel_rfl) (fun _ _ _ h => h) (Or.inl ⟨by rfl, ?_⟩) (by assumption) ?_
            rotate_left
            · intro w hSw; obtain ⟨x0, x1, x2, x3, x4, x5, x6⟩ := hSw; go_simp; try with_reducible rfl
            try simp only [Act.put, List.getElem_toArray, List.getElem_cons_zero, List.getElem_cons_succ, List.setIfInBounds_toArray, List.set_cons_zero, List.set_cons_succ]
            refine wpAnyH_take (i := 3) (v := ?_) rfl (by kernel_rfl) (by kernel_rfl) (by kernel_rfl) (fun _ _ _ h => h) (Or.inl ⟨by rfl, ?_⟩) (by assumption) ?_
            rotate_left
            · intro w hSw; obtain ⟨x0, x1, x2, x3, x4, x5, x6⟩ := hSw; go_simp; try with_reducible rfl
            try simp only [Act.put, List.getElem_toArray, List.getElem_cons_zero, List.getElem_cons_succ, List.setIfInBounds_toArray, List.set_cons_zero, List.set_cons_succ]
            refine wpAnyH_take (i := 4) (v := ?_) rfl (by kernel_rfl) (by kernel_rfl) (by kernel_rfl) (fun _ _ _ h => h) (Or.inl ⟨by rfl, ?_⟩) (by assumption) ?_
            rotate_left
            · intro w hSw; obtain ⟨x0, x1, x2, x3, x4, x5, x6⟩ := hSw; go_simp; try with_reducible rfl
            try simp only [Act.put, List.getElem_toArray, List.getElem_cons_zero, List.getElem_cons_succ, List.setIfInBounds_toArray, List.set_cons_zero, List.set_cons_succ]
            refine wpAnyH_take (i := 5) (v := ?_) rfl (by kernel_rfl) (by kernel_rfl) (by kernel_rfl) (fun _ _ _ h => h) (Or.inl ⟨by rfl, ?_⟩) (by assumption) ?_
            rotate_left
            · intro w hSw; obtain ⟨x0, x1, x2, x3, x4, x5, x6⟩ := hSw; go_simp; try with_reducible rfl
            try simp only [Act.put, List.getElem_toArray, List.getElem_cons_zero, List.getElem_cons_succ, List.setIfInBounds_toArray, List.set_cons_zero, List.set_cons_succ]
            refine wpAnyH_take (i := 6) (v := ?_) rfl (by kernel_rfl) (by kernel_rfl) (by kernel_rfl) (fun _ _ _ h => h) (Or.inl ⟨by rfl, ?_⟩) (by assumption) ?_
            rotate_left
            · intro w hSw; obtain ⟨x0, x1, x2, x3, x4, x5, x6⟩ := hSw; go_simp; try with_reducible rfl
            try simp only [Act.put, List.getElem_toArray, List.getElem_cons_zero, List.getElem_cons_succ, List.setIfInBounds_toArray, List.set_cons_zero, List.set_cons_succ]
            refine wpAnyH_take (i := 7) (v := ?_) rfl (by kernel_rfl) (by kernel_rfl) (by kernel_rfl) (fun _ _ _ h => h) (Or.inl ⟨by rfl, ?_⟩) (by assumption) ?_
            rotate_left
            · intro w hSw; obtain ⟨x0, x1, x2, x3, x4, x5, x6⟩ := hSw; go_simp; try with_reducible rfl
            try simp only [Act.put, List.getElem_toArray, List.getElem_cons_zero, List.getElem_cons_succ, List.setIfInBounds_toArray, List.set_cons_zero, List.set_cons_succ]
            refine wpAnyH_take (i := 8) (v := ?_) rfl (by kernel_rfl) (by kernel_rfl) (by kernel_rfl) (fun _ _ _ h => h) (Or.inl ⟨by rfl, ?_⟩) (by assumption) ?_
            rotate_left
            · intro w hSw; obtain ⟨x0, x1, x2, x3, x4, x5, x6⟩ := hSw; go_simp; try with_reducible rfl
            try simp only [Act.put, List.getElem_toArray, List.getElem_cons_zero, List.getElem_cons_succ, List.setIfInBounds_toArray, List.set_cons_zero, List.set_cons_succ]
            refine wpAnyH_take (i := 9) (v := ?_) rfl (by kernel_rfl) (by kernel_rfl) (by kernel_rfl) (fun _ _ _ h => h) (Or.inl ⟨by rfl, ?_⟩) (by assumption) ?_
            rotate_left
            · intro w hSw; obtain ⟨x0, x1, x2, x3, x4, x5, x6⟩ := hSw; go_simp; try with_reducible rfl
            try simp only [Act.put, List.getElem_toArray, List.getElem_cons_zero, List.getElem_cons_succ, List.setIfInBounds_toArray, List.set_cons_zero, List.set_cons_succ]
            refine wpAnyH_take (i := 10) (v := ?_) rfl (by kernel_rfl) (by kernel_rfl) (by kernel_rfl) (fun _ _ _ h => h) (Or.inl ⟨by rfl, ?_⟩) (by assumption) ?_
            rotate_left
            · intro w hSw; obtain ⟨x0, x1, x2, x3, x4, x5, x6⟩ := hSw; go_simp; try with_reducible rfl
            try simp only [Act.put, List.getElem_toArray, List.getElem_cons_zero, List.getElem_cons_succ, List.setIfInBounds_toArray, List.set_cons_zero, List.set_cons_succ]
            refine wpAnyH_take (i := 11) (v := ?_) rfl (by kernel_rfl) (by kernel_rfl) (by kernel_rfl) (fun _ _ _ h => h) (Or.inl ⟨by rfl, ?_⟩) (by assumption) ?_
            rotate_left
            · intro w hSw; obtain ⟨x0, x1, x2, x3, x4, x5, x6⟩ := hSw; go_simp; try with_reducible rfl
            try simp only [Act.put, List.getElem_toArray, List.getElem_cons_zero, List.getElem_cons_succ, List.setIfInBounds_toArray, List.set_cons_zero, List.set_cons_succ]
            refine wpAnyH_take (i := 12) (v := ?_) rfl (by kernel_rfl) (by kernel_rfl) (by kernel_rfl) (fun _ _ _ h => h) (Or.inl ⟨by rfl, ?_⟩) (by assumption) ?_
            rotate_left
            · intro w hSw; obtain ⟨x0, x1, x2, x3, x4, x5, x6⟩ := hSw; go_simp; try with_reducible rfl
            try simp only [Act.put, List.getElem_toArray, List.getElem_cons_zero, List.getElem_cons_succ, List.setIfInBounds_toArray, List.set_cons_zero, List.set_cons_succ]
            refine wpAnyH_take (i := 13) (v := ?_) rfl (by kernel_rfl) (by kernel_rfl) (by kernel_rfl) (fun _ _ _ h => h) (Or.inl ⟨by rfl, ?_⟩) (by assumption) ?_
            rotate_left
            · intro w hSw; obtain ⟨x0, x1, x2, x3, x4, x5, x6⟩ := hSw; go_simp; try with_reducible rfl
            try simp only [Act.put, List.getElem_toArray, List.getElem_cons_zero, List.getElem_cons_succ, List.setIfInBounds_toArray, List.set_cons_zero, List.set_cons_succ]
            refine wpAnyH_take (i := 14) (v := ?_) rfl (by kernel_rfl) (by kernel_rfl) (by kernel_rfl) (fun _ _ _ h => h) (Or.inl ⟨by rfl, ?_⟩) (by assumption) ?_
            rotate_left
            · intro w hSw; obtain ⟨x0, x1, x2, x3, x4, x5, x6⟩ := hSw; go_simp; try with_reducible rfl
            try simp only [Act.put, List.getElem_toArray, List.getElem_cons_zero, List.getElem_cons_succ, List.setIfInBounds_toArray, List.set_cons_zero, List.set_cons_succ]
            refine wpAnyH_take (i := 15) (v := ?_) rfl (by kernel_rfl) (by kernel_rfl) (by kernel_rfl) (fun _ _ _ h => h) (Or.inl ⟨by rfl, ?_⟩) (by assumption) ?_
            rotate_left
            · intro w hSw; obtain ⟨x0, x1, x2, x3, x4, x5, x6⟩ := hSw; go_simp; try with_reducible rfl
            try simp only [Act.put, List.getElem_toArray, List.getElem_cons_zero, List.getElem_cons_succ, List.setIfInBounds_toArray, List.set_cons_zero, List.set_cons_succ]
            refine wpAnyH_take (i := 16) (v := ?_) rfl (by kernel_rfl) (by kernel_rfl) (by kernel_rfl) (fun _ _ _ h => h) (Or.inl ⟨by rfl, ?_⟩) (by assumption) ?_
            rotate_left
            · intro w hSw; obtain ⟨x0, x1, x2, x3, x4, x5, x6⟩ := hSw; go_simp; try with_reducible rfl
            try simp only [Act.put, List.getElem_toArray, List.getElem_cons_zero, List.getElem_cons_succ, List.setIfInBounds_toArray, List.set_cons_zero, List.set_cons_succ]
            refine wpAnyH_ready (rs := [17]) (by kernel_rfl) (by simp) ?_
            refine AllReadyH.cons rfl (fun K hK => ?_) AllReadyH.nil
            go_simp
            refine (HW.out _ (HTR.out.below hbd)).mono ?_
            rintro e w9 ⟨rfl, hb9⟩
            have hb9 := hbd.trans (hb9.mono hbd.size)
            refine hK.out _ _ (HKR.out _ hb9) (fun _ => ?_)
            clear hK K
            try simp only [Act.put, List.getElem_toArray, List.getElem_cons_zero, List.getElem_cons_succ, List.setIfInBounds_toArray, List.set_cons_zero, List.set_cons_succ]
            refine wpAnyH_take (i := 18) (v := ?_) rfl (by kernel_rfl) (by kernel_rfl) (by kernel_rfl) (fun _ _ _ h => h) (Or.inl ⟨by rfl, ?_⟩) (by assumption) ?_
            rotate_left
            · intro w hSw; obtain ⟨x0, x1, x2, x3, x4, x5, x6⟩ := hSw; go_simp; try with_reducible rfl
            try simp only [Act.put, List.getElem_toArray, List.getElem_cons_zero, List.getElem_cons_succ, List.setIfInBounds_toArray, List.set_cons_zero, List.set_cons_succ]
            refine wpAnyH_take (i := 19) (v := ?_) rfl (by kernel_rfl) (by kernel_rfl) (by kernel_rfl) (fun _ _ _ h => h) (Or.inl ⟨by rfl, ?_⟩) (by assumption) ?_
            rotate_left
            · intro w hSw; obtain ⟨x0, x1, x2, x3, x4, x5, x6⟩ := hSw; go_simp; try with_reducible rfl
            try simp only [Act.put, List.getElem_toArray, List.getElem_cons_zero, List.getElem_cons_succ, List.setIfInBounds_toArray, List.set_cons_zero, List.set_cons_succ]
            refine wpAnyH_done (by kernel_rfl) ?_ _
            go_wp2
            go_ret
            exact ⟨rfl, HBR.out.trans (hb9.mono HBR.out.size)⟩
          · skip
            refine wp_region_held_drew (S := fun W' => W'.cell? ⟨gs, 0, none⟩ = some (.int .i64 s.r) ∧ W'.cell? ⟨gs, 1, none⟩ = some (.int .i64 s.c) ∧ W'.cell? ⟨gs, 2, none⟩ = some (.int .i64 s.l) ∧ W'.cell? ⟨gs, 3, none⟩ = some (.int .i64 s.w) ∧ W'.cell? ⟨gn, 0, none⟩ = some (.int .i64 N) ∧ W'.cell? ⟨gn + 1 + 1, 0, none⟩ = some (.bool true) ∧ W'.cell? ⟨gn + 1 + 1 + 1, 0, none⟩ = some (.slice (some ⟨b1, o1, none⟩) y.length c1)) (by kernel_rfl) (HKR.out _ hbd) (fun hHeld => ?_)
            refine wpAnyH_take (i := 0) (v := ?_) rfl (by kernel_rfl) (by kernel_rfl) (by kernel_rfl) (fun _ _ _ h => h) (Or.inl ⟨by rfl, ?_⟩) (by assumption) ?_
            rotate_left
            · intro w hSw; obtain ⟨x0, x1, x2, x3, x4, x5, x6⟩ := hSw; go_simp; try with_reducible rfl
            try simp only [Act.put, List.getElem_toArray, List.getElem_cons_zero, List.setIfInBounds_toArray, List.set_cons_zero, List.set_cons_succ]
            refine wpAnyH_take (i := 1) (v := ?_) rfl (by kernel_rfl) (by kernel_rfl) (by kernel_rfl) (fun _ _ _ h => h) (Or.inl ⟨by rfl, ?_⟩) (by assumption) ?_
            rotate_left
            · intro w hSw; obtain ⟨x0, x1, x2, x3, x4, x5, x6⟩ := hSw; go_simp; try with_reducible rfl
            try simp only [Act.put, List.getElem_toArray, List.getElem_cons_zero, List.getElem_cons_succ, List.setIfInBounds_toArray, List.set_cons_zero, List.set_cons_succ]
            refine wpAnyH_take (i := 2) (v := undef) rfl (by kernel_rfl) (by kernel_rfl) (by kernel_rfl) (fun _ _ _ h => h) (Or.inr ⟨by rfl, rfl⟩) (by assumption) ?_
            try simp only [Act.put, List.getElem_toArray, List.getElem_cons_zero, List.getElem_cons_succ, List.setIfInBounds_toArray, List.set_cons_zero, List.set_cons_succ]
            refine wpAnyH_take (i := 3) (v := undef) rfl (by kernel_rfl) (by kernel_rfl) (by kernel_rfl) (fun _ _ _ h => h) (Or.inr ⟨by rfl, rfl⟩) (by assumption) ?_
            try simp only [Act.put, List.getElem_toArray, List.getElem_cons_zero, List.getElem_cons_succ, List.setIfInBounds_toArray, List.set_cons_zero, List.set_cons_succ]
            refine wpAnyH_take (i := 4) (v := ?_) rfl (by kernel_rfl) (by kernel_rfl) (by kernel_rfl) (fun _ _ _ h => h) (Or.inl ⟨by rfl, ?_⟩) (by assumption) ?_
            rotate_left
            · intro w hSw; obtain ⟨x0, x1, x2, x3, x4, x5, x6⟩ := hSw; go_simp; try with_reducible rfl
            try simp only [Act.put, List.getElem_toArray, List.getElem_cons_zero, List.getElem_cons_succ, List.setIfInBounds_toArray, List.set_cons_zero, List.set_cons_succ]
            refine wpAnyH_take (i := 5) (v := ?_) rfl (by kernel_rfl) (by kernel_rfl) (by kernel_rfl) (fun _ _ _ h => h) (Or.inl ⟨by rfl, ?_⟩) (by assumption) ?_
            rotate_left
            · intro w hSw; obtain ⟨x0, x1, x2, x3, x4, x5, x6⟩ := hSw; go_simp; try with_reducible rfl
            try simp only [Act.put, List.getElem_toArray, List.getElem_cons_zero, List.getElem_cons_succ, List.setIfInBounds_toArray, List.set_cons_zero, List.set_cons_succ]
            refine wpAnyH_take (i := 6) (v := ?_) rfl (by kernel_rfl) (by kernel_rfl) (by kernel_rfl) (fun _ _ _ h => h) (Or.inl ⟨by rfl, ?_⟩) (by assumption) ?_
            rotate_left
            · intro w hSw; obtain ⟨x0, x1, x2, x3, x4, x5, x6⟩ := hSw; go_simp; try with_reducible rfl
            try simp only [Act.put, List.getElem_toArray, List.getElem_cons_zero, List.getElem_cons_succ, List.setIfInBounds_toArray, List.set_cons_zero, List.set_cons_succ]
            refine wpAnyH_take (i := 7) (v := ?_) rfl (by kernel_rfl) (by kernel_rfl) (by kernel_rfl) (fun _ _ _ h => h) (Or.inl ⟨by rfl, ?_⟩) (by assumption) ?_
            rotate_left
            · intro w hSw; obtain ⟨x0, x1, x2, x3, x4, x5, x6⟩ := hSw; go_simp; try with_reducible rfl
            try simp only [Act.put, List.getElem_toArray, List.getElem_cons_zero, List.getElem_cons_succ, List.setIfInBounds_toArray, List.set_cons_zero, List.set_cons_succ]
            refine wpAnyH_take (i := 8) (v := ?_) rfl (by kernel_rfl) (by kernel_rfl) (by kernel_rfl) (fun _ _ _ h => h) (Or.inl ⟨by rfl, ?_⟩) (by assumption) ?_
            rotate_left
            · intro w hSw; obtain ⟨x0, x1, x2, x3, x4, x5, x6⟩ := hSw; go_simp; try with_reducible rfl
            try simp only [Act.put, List.getElem_toArray, List.getElem_cons_zero, List.getElem_cons_succ, List.setIfInBounds_toArray, List.set_cons_zero, List.set_cons_succ]
            refine wpAnyH_take (i := 9) (v := ?_) rfl (by kernel_rfl) (by kernel_rfl) (by kernel_rfl) (fun _ _ _ h => h) (Or.inl ⟨by rfl, ?_⟩) (by assumption) ?_
            rotate_left
            · intro w hSw; obtain ⟨x0, x1, x2, x3, x4, x5, x6⟩ := hSw; go_simp; try with_reducible rfl
            try simp only [Act.put, List.getElem_toArray, List.getElem_cons_zero, List.getElem_cons_succ, List.setIfInBounds_toArray, List.set_cons_zero, List.set_cons_succ]
            refine wpAnyH_take (i := 10) (v := ?_) rfl (by kernel_rfl) (by kernel_rfl) (by kernel_rfl) (fun _ _ _ h => h) (Or.inl ⟨by rfl, ?_⟩) (by assumption) ?_
            rotate_left
            · intro w hSw; obtain ⟨x0, x1, x2, x3, x4, x5, x6⟩ := hSw; go_simp; try with_reducible rfl
            try simp only [Act.put, List.getElem_toArray, List.getElem_cons_zero, List.getElem_cons_succ, List.setIfInBounds_toArray, List.set_cons_zero, List.set_cons_succ]
            refine wpAnyH_take (i := 11) (v := ?_) rfl (by kernel_rfl) (by kernel_rfl) (by kernel_rfl) (fun _ _ _ h => h) (Or.inl ⟨by rfl, ?_⟩) (by assumption) ?_
            rotate_left
            · intro w hSw; obtain ⟨x0, x1, x2, x3, x4, x5, x6⟩ := hSw; go_simp; try with_reducible rfl
            try simp only [Act.put, List.getElem_toArray, List.getElem_cons_zero, List.getElem_cons_succ, List.setIfInBounds_toArray, List.set_cons_zero, List.set_cons_succ]
            refine wpAnyH_take (i := 12) (v := ?_) rfl (by kernel_rfl) (by kernel_rfl) (by kernel_rfl) (fun _ _ _ h => h) (Or.inl ⟨by rfl, ?_⟩) (by assumption) ?_
            rotate_left
            · intro w hSw; obtain ⟨x0, x1, x2, x3, x4, x5, x6⟩ := hSw; go_simp; try with_reducible rfl
            try simp only [Act.put, List.getElem_toArray, List.getElem_cons_zero, List.getElem_cons_succ, List.setIfInBounds_toArray, List.set_cons_zero, List.set_cons_succ]
            refine wpAnyH_take (i := 13) (v := ?_) rfl (by kernel_rfl) (by kernel_rfl) (by kernel_rfl) (fun _ _ _ h => h) (Or.inl ⟨by rfl, ?_⟩) (by assumption) ?_
            rotate_left
            · intro w hSw; obtain ⟨x0, x1, x2, x3, x4, x5, x6⟩ := hSw; go_simp; try with_reducible rfl
            try simp only [Act.put, List.getElem_toArray, List.getElem_cons_zero, List.getElem_cons_succ, List.setIfInBounds_toArray, List.set_cons_zero, List.set_cons_succ]
            refine wpAnyH_take (i := 14) (v := ?_) rfl (by kernel_rfl) (by kernel_rfl) (by kernel_rfl) (fun _ _ _ h => h) (Or.inl ⟨by rfl, ?_⟩) (by assumption) ?_
            rotate_left
            · intro w hSw; obtain ⟨x0, x1, x2, x3, x4, x5, x6⟩ := hSw; go_simp; try with_reducible rfl
            try simp only [Act.put, List.getElem_toArray, List.getElem_cons_zero, List.getElem_cons_succ, List.setIfInBounds_toArray, List.set_cons_zero, List.set_cons_succ]
            refine wpAnyH_take (i := 15) (v := ?_) rfl (by kernel_rfl) (by kernel_rfl) (by kernel_rfl) (fun _ _ _ h => h) (Or.inl ⟨by rfl, ?_⟩) (by assumption) ?_
            rotate_left
            · intro w hSw; obtain ⟨x0, x1, x2, x3, x4, x5, x6⟩ := hSw; go_simp; try with_reducible rfl
            try simp only [Act.put, List.getElem_toArray, List.getElem_cons_zero, List.getElem_cons_succ, List.setIfInBounds_toArray, List.set_cons_zero, List.set_cons_succ]
            refine wpAnyH_take (i := 16) (v := ?_) rfl (by kernel_rfl) (by kernel_rfl) (by kernel_rfl) (fun _ _ _ h => h) (Or.inl ⟨by rfl, ?_⟩) (by assumption) ?_
            rotate_left
            · intro w hSw; obtain ⟨x0, x1, x2, x3, x4, x5, x6⟩ := hSw; go_simp; try with_reducible rfl
            try simp only [Act.put, List.getElem_toArray, List.getElem_cons_zero, List.getElem_cons_succ, List.setIfInBounds_toArray, List.set_cons_zero, List.set_cons_succ]
            refine wpAnyH_ready (rs := [17]) (by kernel_rfl) (by simp) ?_
            refine AllReadyH.cons rfl (fun K hK => ?_) AllReadyH.nil
            go_simp
            refine (HW.out _ (HTR.out.below hbd)).mono ?_
            rintro e w9 ⟨rfl, hb9⟩
            have hb9 := hbd.trans (hb9.mono hbd.size)
            refine hK.out _ _ (HKR.out _ hb9) (fun _ => ?_)
            clear hK K
            try simp only [Act.put, List.getElem_toArray, List.getElem_cons_zero, List.getElem_cons_succ, List.setIfInBounds_toArray, List.set_cons_zero, List.set_cons_succ]
            refine wpAnyH_take (i := 18) (v := ?_) rfl (by kernel_rfl) (by kernel_rfl) (by kernel_rfl) (fun _ _ _ h => h) (Or.inl ⟨by rfl, ?_⟩) (by assumption) ?_
            rotate_left
            · intro w hSw; obtain ⟨x0, x1, x2, x3, x4, x5, x6⟩ := hSw; go_simp; try with_reducible rfl
            try simp only [Act.put, List.getElem_toArray, List.getElem_cons_zero, List.getElem_cons_succ, List.setIfInBounds_toArray, List.set_cons_zero, List.set_cons_succ]
            refine wpAnyH_take (i := 19) (v := ?_) rfl (by kernel_rfl) (by kernel_rfl) (by kernel_rfl) (fun _ _ _ h => h) (Or.inl ⟨by rfl, ?_⟩) (by assumption) ?_
            rotate_left
            · intro w hSw; obtain ⟨x0, x1, x2, x3, x4, x5, x6⟩ := hSw; go_simp; try with_reducible rfl
            try simp only [Act.put, List.getElem_toArray, List.getElem_cons_zero, List.getElem_cons_succ, List.setIfInBounds_toArray, List.set_cons_zero, List.set_cons_succ]
            refine wpAnyH_done (by kernel_rfl) ?_ _
            go_wp2
            go_ret
            exact ⟨rfl, HBR.out.trans (hb9.mono HBR.out.size)⟩
        · have hs0 : (((n1 : Int) + (n2 : Int)) == 0) = false := beq_eq_false_iff_ne.2 (by omega)
          clear h00
          go_upto_region 32 with fail
          have hbd : Below wr.heap.size wr wr.drew := (Below.refl _ _).drew
          have hdl2 := HDL.out (by first | rfl | trivial)
          have hsh := shl_val hd13
          have hle : (y.length : Int) ≤ ((2 ^ dn : Nat) : Int) := by omega
          clear hdl2 hd13
          generalize ((2 ^ dn : Nat) : Int) = sv at *
          rcases sx with _ | _
          · have h40 : (40 : Int) < (N : Int) := by rcases HBIG.out with e | e; exact absurd e (by decide); omega
            refine wp_region_held_drew (S := fun W' => W'.cell? ⟨gs, 0, none⟩ = some (.int .i64 s.r) ∧ W'.cell? ⟨gs, 1, none⟩ = some (.int .i64 s.c) ∧ W'.cell? ⟨gs, 2, none⟩ = some (.int .i64 s.l) ∧ W'.cell? ⟨gs, 3, none⟩ = some (.int .i64 s.w) ∧ W'.cell? ⟨gn, 0, none⟩ = some (.int .i64 N) ∧ W'.cell? ⟨gn + 1 + 1, 0, none⟩ = some (.bool false) ∧ W'.cell? ⟨gn + 1 + 1 + 1, 0, none⟩ = some (.slice (some ⟨b1, o1, none⟩) y.length c1)) (by kernel_rfl) (HKR.out _ hbd) (fun hHeld => ?_)
            refine wpAnyH_take (i := 0) (v := ?_) rfl (by kernel_rfl) (by kernel_rfl) (by kernel_rfl) (fun _ _ _ h => h) (Or.inl ⟨by rfl, ?_⟩) (by assumption) ?_
            rotate_left
            · intro w hSw; obtain ⟨x0, x1, x2, x3, x4, x5, x6⟩ := hSw; go_simp; try with_reducible rfl
            try simp only [Act.put, List.getElem_toArray, List.getElem_cons_zero, List.setIfInBounds_toArray, List.set_cons_zero, List.set_cons_succ]
            refine wpAnyH_take (i := 1) (v := ?_) rfl (by kernel_rfl) (by kernel_rfl) (by kernel_rfl) (fun _ _ _ h => h) (Or.inl ⟨by rfl, ?_⟩) (by assumption) ?_
            rotate_left
            · intro w hSw; obtain ⟨x0, x1, x2, x3, x4, x5, x6⟩ := hSw; go_simp; try with_reducible rfl
            try simp only [Act.put, List.getElem_toArray, List.getElem_cons_zero, List.getElem_cons_succ, List.setIfInBounds_toArray, List.set_cons_zero, List.set_cons_succ]
            refine wpAnyH_take (i := 2) (v := ?_) rfl (by kernel_rfl) (by kernel_rfl) (by kernel_rfl) (fun _ _ _ h => h) (Or.inl ⟨by rfl, ?_⟩) (by assumption) ?_
            rotate_left
            · intro w hSw; obtain ⟨x0, x1, x2, x3, x4, x5, x6⟩ := hSw; go_simp; try with_reducible rfl
            try simp only [Act.put, List.getElem_toArray, List.getElem_cons_zero, List.getElem_cons_succ, List.setIfInBounds_toArray, List.set_cons_zero, List.set_cons_succ]
            refine wpAnyH_take (i := 3) (v := ?_) rfl (by kernel_rfl) (by kernel_rfl) (by kernel_rfl) (fun _ _ _ h => h) (Or.inl ⟨by rfl, ?_⟩) (by assumption) ?_
            rotate_left
            · intro w hSw; obtain ⟨x0, x1, x2, x3, x4, x5, x6⟩ := hSw; go_simp; try with_reducible rfl
            try simp only [Act.put, List.getElem_toArray, List.getElem_cons_zero, List.getElem_cons_succ, List.setIfInBounds_toArray, List.set_cons_zero, List.set_cons_succ]
            refine wpAnyH_take (i := 4) (v := ?_) rfl (by kernel_rfl) (by kernel_rfl) (by kernel_rfl) (fun _ _ _ h => h) (Or.inl ⟨by rfl, ?_⟩) (by assumption) ?_
            rotate_left
            · intro w hSw; obtain ⟨x0, x1, x2, x3, x4, x5, x6⟩ := hSw; go_simp; try with_reducible rfl
            try simp only [Act.put, List.getElem_toArray, List.getElem_cons_zero, List.getElem_cons_succ, List.setIfInBounds_toArray, List.set_cons_zero, List.set_cons_succ]
            refine wpAnyH_take (i := 5) (v := ?_) rfl (by kernel_rfl) (by kernel_rfl) (by kernel_rfl) (fun _ _ _ h => h) (Or.inl ⟨by rfl, ?_⟩) (by assumption) ?_
            rotate_left
            · intro w hSw; obtain ⟨x0, x1, x2, x3, x4, x5, x6⟩ := hSw; go_simp; try with_reducible rfl
            try simp only [Act.put, List.getElem_toArray, List.getElem_cons_zero, List.getElem_cons_succ, List.setIfInBounds_toArray, List.set_cons_zero, List.set_cons_succ]
            refine wpAnyH_take (i := 6) (v := ?_) rfl (by kernel_rfl) (by kernel_rfl) (by kernel_rfl) (fun _ _ _ h => h) (Or.inl ⟨by rfl, ?_⟩) (by assumption) ?_
            rotate_left
            · intro w hSw; obtain ⟨x0, x1, x2, x3, x4, x5, x6⟩ := hSw; go_simp; try with_reducible rfl
            try simp only [Act.put, List.getElem_toArray, List.getElem_cons_zero, List.getElem_cons_succ, List.setIfInBounds_toArray, List.set_cons_zero, List.set_cons_succ]
            refine wpAnyH_take (i := 7) (v := ?_) rfl (by kernel_rfl) (by kernel_rfl) (by kernel_rfl) (fun _ _ _ h => h) (Or.inl ⟨by rfl, ?_⟩) (by assumption) ?_
            rotate_left
            · intro w hSw; obtain ⟨x0, x1, x2, x3, x4, x5, x6⟩ := hSw; go_simp; try with_reducible rfl
            try simp only [Act.put, List.getElem_toArray, List.getElem_cons_zero, List.getElem_cons_succ, List.setIfInBounds_toArray, List.set_cons_zero, List.set_cons_succ]
            refine wpAnyH_take (i := 8) (v := ?_) rfl (by kernel_rfl) (by kernel_rfl) (by kernel_rfl) (fun _ _ _ h => h) (Or.inl ⟨by rfl, ?_⟩) (by assumption) ?_
            rotate_left
            · intro w hSw; obtain ⟨x0, x1, x2, x3, x4, x5, x6⟩ := hSw; go_simp; try with_reducible rfl
            try simp only [Act.put, List.getElem_toArray, List.getElem_cons_zero, List.getElem_cons_succ, List.setIfInBounds_toArray, List.set_cons_zero, List.set_cons_succ]
            refine wpAnyH_take (i := 9) (v := ?_) rfl (by kernel_rfl) (by kernel_rfl) (by kernel_rfl) (fun _ _ _ h => h) (Or.inl ⟨by rfl, ?_⟩) (by assumption) ?_
            rotate_left
            · intro w hSw; obtain ⟨x0, x1, x2, x3, x4, x5, x6⟩ := hSw; go_simp; try with_reducible rfl
            try simp only [Act.put, List.getElem_toArray, List.getElem_cons_zero, List.getElem_cons_succ, List.setIfInBounds_toArray, List.set_cons_zero, List.set_cons_succ]
            refine wpAnyH_take (i := 10) (v := ?_) rfl (by kernel_rfl) (by kernel_rfl) (by kernel_rfl) (fun _ _ _ h => h) (Or.inl ⟨by rfl, ?_⟩) (by assumption) ?_
            rotate_left
            · intro w hSw; obtain ⟨x0, x1, x2, x3, x4, x5, x6⟩ := hSw; go_simp; try with_reducible rfl
            try simp only [Act.put, List.getElem_toArray, List.getElem_cons_zero, List.getElem_cons_succ, List.setIfInBounds_toArray, List.set_cons_zero, List.set_cons_succ]
            refine wpAnyH_take (i := 11) (v := ?_) rfl (by kernel_rfl) (by kernel_rfl) (by kernel_rfl) (fun _ _ _ h => h) (Or.inl ⟨by rfl, ?_⟩) (by assumption) ?_
            rotate_left
            · intro w hSw; obtain ⟨x0, x1, x2, x3, x4, x5, x6⟩ := hSw; go_simp; try with_reducible rfl
            try simp only [Act.put, List.getElem_toArray, List.getElem_cons_zero, List.getElem_cons_succ, List.setIfInBounds_toArray, List.set_cons_zero, List.set_cons_succ]
            refine wpAnyH_take (i := 12) (v := ?_) rfl (by kernel_rfl) (by kernel_rfl) (by kernel_rfl) (fun _ _ _ h => h) (Or.inl ⟨by rfl, ?_⟩) (by assumption) ?_
            rotate_left
            · intro w hSw; obtain ⟨x0, x1, x2, x3, x4, x5, x6⟩ := hSw; go_simp; try with_reducible rfl
            try simp only [Act.put, List.getElem_toArray, List.getElem_cons_zero, List.getElem_cons_succ, List.setIfInBounds_toArray, List.set_cons_zero, List.set_cons_succ]
            refine wpAnyH_take (i := 13) (v := ?_) rfl (by kernel_rfl) (by kernel_rfl) (by kernel_rfl) (fun _ _ _ h => h) (Or.inl ⟨by rfl, ?_⟩) (by assumption) ?_
            rotate_left
            · intro w hSw; obtain ⟨x0, x1, x2, x3, x4, x5, x6⟩ := hSw; go_simp; try with_reducible rfl
            try simp only [Act.put, List.getElem_toArray, List.getElem_cons_zero, List.getElem_cons_succ, List.setIfInBounds_toArray, List.set_cons_zero, List.set_cons_succ]
            refine wpAnyH_take (i := 14) (v := ?_) rfl (by kernel_rfl) (by kernel_rfl) (by kernel_rfl) (fun _ _ _ h => h) (Or.inl ⟨by rfl, ?_⟩) (by assumption) ?_
            rotate_left
            · intro w hSw; obtain ⟨x0, x1, x2, x3, x4, x5, x6⟩ := hSw; go_simp; try with_reducible rfl
            try simp only [Act.put, List.getElem_toArray, List.getElem_cons_zero, List.getElem_cons_succ, List.setIfInBounds_toArray, List.set_cons_zero, List.set_cons_succ]
            refine wpAnyH_take (i := 15) (v := ?_) rfl (by kernel_rfl) (by kernel_rfl) (by kernel_rfl) (fun _ _ _ h => h) (Or.inl ⟨by rfl, ?_⟩) (by assumption) ?_
            rotate_left
            · intro w hSw; obtain ⟨x0, x1, x2, x3, x4, x5, x6⟩ := hSw; go_simp; try with_reducible rfl
            try simp only [Act.put, List.getElem_toArray, List.getElem_cons_zero, List.getElem_cons_succ, List.setIfInBounds_toArray, List.set_cons_zero, List.set_cons_succ]
            refine wpAnyH_take (i := 16) (v := ?_) rfl (by kernel_rfl) (by kernel_rfl) (by kernel_rfl) (fun _ _ _ h => h) (Or.inl ⟨by rfl, ?_⟩) (by assumption) ?_
            rotate_left
            · intro w hSw; obtain ⟨x0, x1, x2, x3, x4, x5, x6⟩ := hSw; go_simp; try with_reducible rfl
            try simp only [Act.put, List.getElem_toArray, List.getElem_cons_zero, List.getElem_cons_succ, List.setIfInBounds_toArray, List.set_cons_zero, List.set_cons_succ]
            refine wpAnyH_ready (rs := [17]) (by kernel_rfl) (by simp) ?_
            refine AllReadyH.cons rfl (fun K hK => ?_) AllReadyH.nil
            go_simp
            refine (HW.out _ (HTR.out.below hbd)).mono ?_
            rintro e w9 ⟨rfl, hb9⟩
            have hb9 := hbd.trans (hb9.mono hbd.size)
            refine hK.out _ _ (HKR.out _ hb9) (fun _ => ?_)
            clear hK K
            try simp only [Act.put, List.getElem_toArray, List.getElem_cons_zero, List.getElem_cons_succ, List.setIfInBounds_toArray, List.set_cons_zero, List.set_cons_succ]
            refine wpAnyH_take (i := 18) (v := ?_) rfl (by kernel_rfl) (by kernel_rfl) (by kernel_rfl) (fun _ _ _ h => h) (Or.inl ⟨by rfl, ?_⟩) (by assumption) ?_
            rotate_left
            · intro w hSw; obtain ⟨x0, x1, x2, x3, x4, x5, x6⟩ := hSw; go_simp; try with_reducible rfl
            try simp only [Act.put, List.getElem_toArray, List.getElem_cons_zero, List.getElem_cons_succ, List.setIfInBounds_toArray, List.set_cons_zero, List.set_cons_succ]
            refine wpAnyH_take (i := 19) (v := ?_) rfl (by kernel_rfl) (by kernel_rfl) (by kernel_rfl) (fun _ _ _ h => h) (Or.inl ⟨by rfl, ?_⟩) (by assumption) ?_
            rotate_left
            · intro w hSw; obtain ⟨x0, x1, x2, x3, x4, x5, x6⟩ := hSw; go_simp; try with_reducible rfl
            try simp only [Act.put, List.getElem_toArray, List.getElem_cons_zero, List.getElem_cons_succ, List.setIfInBounds_toArray, List.set_cons_zero, List.set_cons_succ]
            refine wpAnyH_done (by kernel_rfl) ?_ _
            go_wp2
            go_ret
            exact ⟨rfl, HBR.out.trans (hb9.mono HBR.out.size)⟩
          · skip
            refine wp_region_held_drew (S := fun W' => W'.cell? ⟨gs, 0, none⟩ = some (.int .i64 s.r) ∧ W'.cell? ⟨gs, 1, none⟩ = some (.int .i64 s.c) ∧ W'.cell? ⟨gs, 2, none⟩ = some (.int .i64 s.l) ∧ W'.cell? ⟨gs, 3, none⟩ = some (.int .i64 s.w) ∧ W'.cell? ⟨gn, 0, none⟩ = some (.int .i64 N) ∧ W'.cell? ⟨gn + 1 + 1, 0, none⟩ = some (.bool true) ∧ W'.cell? ⟨gn + 1 + 1 + 1, 0, none⟩ = some (.slice (some ⟨b1, o1, none⟩) y.length c1)) (by kernel_rfl) (HKR.out _ hbd) (fun hHeld => ?_)
            refine wpAnyH_take (i := 0) (v := ?_) rfl (by kernel_rfl) (by kernel_rfl) (by kernel_rfl) (fun _ _ _ h => h) (Or.inl ⟨by rfl, ?_⟩) (by assumption) ?_
            rotate_left
            · intro w hSw; obtain ⟨x0, x1, x2, x3, x4, x5, x6⟩ := hSw; go_simp; try with_reducible rfl
            try simp only [Act.put, List.getElem_toArray, List.getElem_cons_zero, List.setIfInBounds_toArray, List.set_cons_zero, List.set_cons_succ]
            refine wpAnyH_take (i := 1) (v := ?_) rfl (by kernel_rfl) (by kernel_rfl) (by kernel_rfl) (fun _ _ _ h => h) (Or.inl ⟨by rfl, ?_⟩) (by assumption) ?_
            rotate_left
            · intro w hSw; obtain ⟨x0, x1, x2, x3, x4, x5, x6⟩ := hSw; go_simp; try with_reducible rfl
            try simp only [Act.put, List.getElem_toArray, List.getElem_cons_zero, List.getElem_cons_succ, List.setIfInBounds_toArray, List.set_cons_zero, List.set_cons_succ]
            refine wpAnyH_take (i := 2) (v := undef) rfl (by kernel_rfl) (by kernel_rfl) (by kernel_rfl) (fun _ _ _ h => h) (Or.inr ⟨by rfl, rfl⟩) (by assumption) ?_
            try simp only [Act.put, List.getElem_toArray, List.getElem_cons_zero, List.getElem_cons_succ, List.setIfInBounds_toArray, List.set_cons_zero, List.set_cons_succ]
            refine wpAnyH_take (i := 3) (v := undef) rfl (by kernel_rfl) (by kernel_rfl) (by kernel_rfl) (fun _ _ _ h => h) (Or.inr ⟨by rfl, rfl⟩) (by assumption) ?_
            try simp only [Act.put, List.getElem_toArray, List.getElem_cons_zero, List.getElem_cons_succ, List.setIfInBounds_toArray, List.set_cons_zero, List.set_cons_succ]
            refine wpAnyH_take (i := 4) (v := ?_) rfl (by kernel_rfl) (by kernel_rfl) (by kernel_rfl) (fun _ _ _ h => h) (Or.inl ⟨by rfl, ?_⟩) (by assumption) ?_
            rotate_left
            · intro w hSw; obtain ⟨x0, x1, x2, x3, x4, x5, x6⟩ := hSw; go_simp; try with_reducible rfl
            try simp only [Act.put, List.getElem_toArray, List.getElem_cons_zero, List.getElem_cons_succ, List.setIfInBounds_toArray, List.set_cons_zero, List.set_cons_succ]
            refine wpAnyH_take (i := 5) (v := ?_) rfl (by kernel_rfl) (by kernel_rfl) (by kernel_rfl) (fun _ _ _ h => h) (Or.inl ⟨by rfl, ?_⟩) (by assumption) ?_
            rotate_left
            · intro w hSw; obtain ⟨x0, x1, x2, x3, x4, x5, x6⟩ := hSw; go_simp; try with_reducible rfl
            try simp only [Act.put, List.getElem_toArray, List.getElem_cons_zero, List.getElem_cons_succ, List.setIfInBounds_toArray, List.set_cons_zero, List.set_cons_succ]
            refine wpAnyH_take (i := 6) (v := ?_) rfl (by kernel_rfl) (by kernel_rfl) (by kernel_rfl) (fun _ _ _ h => h) (Or.inl ⟨by rfl, ?_⟩) (by assumption) ?_
            rotate_left
            · intro w hSw; obtain ⟨x0, x1, x2, x3, x4, x5, x6⟩ := hSw; go_simp; try with_reducible rfl
            try simp only [Act.put, List.getElem_toArray, List.getElem_cons_zero, List.getElem_cons_succ, List.setIfInBounds_toArray, List.set_cons_zero, List.set_cons_succ]
            refine wpAnyH_take (i := 7) (v := ?_) rfl (by kernel_rfl) (by kernel_rfl) (by kernel_rfl) (fun _ _ _ h => h) (Or.inl ⟨by rfl, ?_⟩) (by assumption) ?_
            rotate_left
            · intro w hSw; obtain ⟨x0, x1, x2, x3, x4, x5, x6⟩ := hSw; go_simp; try with_reducible rfl
            try simp only [Act.put, List.getElem_toArray, List.getElem_cons_zero, List.getElem_cons_succ, List.setIfInBounds_toArray, List.set_cons_zero, List.set_cons_succ]
            refine wpAnyH_take (i := 8) (v := ?_) rfl (by kernel_rfl) (by kernel_rfl) (by kernel_rfl) (fun _ _ _ h => h) (Or.inl ⟨by rfl, ?_⟩) (by assumption) ?_
            rotate_left
            · intro w hSw; obtain ⟨x0, x1, x2, x3, x4, x5, x6⟩ := hSw; go_simp; try with_reducible rfl
            try simp only [Act.put, List.getElem_toArray, List.getElem_cons_zero, List.getElem_cons_succ, List.setIfInBounds_toArray, List.set_cons_zero, List.set_cons_succ]
            refine wpAnyH_take (i := 9) (v := ?_) rfl (by kernel_rfl) (by kernel_rfl) (by kernel_rfl) (fun _ _ _ h => h) (Or.inl ⟨by rfl, ?_⟩) (by assumption) ?_
            rotate_left
            · intro w hSw; obtain ⟨x0, x1, x2, x3, x4, x5, x6⟩ := hSw; go_simp; try with_reducible rfl
            try simp only [Act.put, List.getElem_toArray, List.getElem_cons_zero, List.getElem_cons_succ, List.setIfInBounds_toArray, List.set_cons_zero, List.set_cons_succ]
            refine wpAnyH_take (i := 10) (v := ?_) rfl (by kernel_rfl) (by kernel_rfl) (by kernel_rfl) (fun _ _ _ h => h) (Or.inl ⟨by rfl, ?_⟩) (by assumption) ?_
            rotate_left
            · intro w hSw; obtain ⟨x0, x1, x2, x3, x4, x5, x6⟩ := hSw; go_simp; try with_reducible rfl
            try simp only [Act.put, List.getElem_toArray, List.getElem_cons_zero, List.getElem_cons_succ, List.setIfInBounds_toArray, List.set_cons_zero, List.set_cons_succ]
            refine wpAnyH_take (i := 11) (v := ?_) rfl (by kernel_rfl) (by kernel_rfl) (by kernel_rfl) (fun _ _ _ h => h) (Or.inl ⟨by rfl, ?_⟩) (by assumption) ?_
            rotate_left
            · intro w hSw; obtain ⟨x0, x1, x2, x3, x4, x5, x6⟩ := hSw; go_simp; try with_reducible rfl
            try simp only [Act.put, List.getElem_toArray, List.getElem_cons_zero, List.getElem_cons_succ, List.setIfInBounds_toArray, List.set_cons_zero, List.set_cons_succ]
            refine wpAnyH_take (i := 12) (v := ?_) rfl (by kernel_rfl) (by kernel_rfl) (by kernel_rfl) (fun _ _ _ h => h) (Or.inl ⟨by rfl, ?_⟩) (by assumption) ?_
            rotate_left
            · intro w hSw; obtain ⟨x0, x1, x2, x3, x4, x5, x6⟩ := hSw; go_simp; try with_reducible rfl
            try simp only [Act.put, List.getElem_toArray, List.getElem_cons_zero, List.getElem_cons_succ, List.setIfInBounds_toArray, List.set_cons_zero, List.set_cons_succ]
            refine wpAnyH_take (i := 13) (v := ?_) rfl (by kernel_rfl) (by kernel_rfl) (by kernel_rfl) (fun _ _ _ h => h) (Or.inl ⟨by rfl, ?_⟩) (by assumption) ?_
            rotate_left
            · intro w hSw; obtain ⟨x0, x1, x2, x3, x4, x5, x6⟩ := hSw; go_simp; try with_reducible rfl
            try simp only [Act.put, List.getElem_toArray, List.getElem_cons_zero, List.getElem_cons_succ, List.setIfInBounds_toArray, List.set_cons_zero, List.set_cons_succ]
            refine wpAnyH_take (i := 14) (v := ?_) rfl (by kernel_rfl) (by kernel_rfl) (by kernel_rfl) (fun _ _ _ h => h) (Or.inl ⟨by rfl, ?_⟩) (by assumption) ?_
            rotate_left
            · intro w hSw; obtain ⟨x0, x1, x2, x3, x4, x5, x6⟩ := hSw; go_simp; try with_reducible rfl
            try simp only [Act.put, List.getElem_toArray, List.getElem_cons_zero, List.getElem_cons_succ, List.setIfInBounds_toArray, List.set_cons_zero, List.set_cons_succ]
            refine wpAnyH_take (i := 15) (v := ?_) rfl (by kernel_rfl) (by kernel_rfl) (by kernel_rfl) (fun _ _ _ h => h) (Or.inl ⟨by rfl, ?_⟩) (by assumption) ?_
            rotate_left
            · intro w hSw; obtain ⟨x0, x1, x2, x3, x4, x5, x6⟩ := hSw; go_simp; try with_reducible rfl
            try simp only [Act.put, List.getElem_toArray, List.getElem_cons_zero, List.getElem_cons_succ, List.setIfInBounds_toArray, List.set_cons_zero, List.set_cons_succ]
            refine wpAnyH_take (i := 16) (v := ?_) rfl (by kernel_rfl) (by kernel_rfl) (by kernel_rfl) (fun _ _ _ h => h) (Or.inl ⟨by rfl, ?_⟩) (by assumption) ?_
            rotate_left
            · intro w hSw; obtain ⟨x0, x1, x2, x3, x4, x5, x6⟩ := hSw; go_simp; try with_reducible rfl
            try simp only [Act.put, List.getElem_toArray, List.getElem_cons_zero, List.getElem_cons_succ, List.setIfInBounds_toArray, List.set_cons_zero, List.set_cons_succ]
            refine wpAnyH_ready (rs := [17]) (by kernel_rfl) (by simp) ?_
            refine AllReadyH.cons rfl (fun K hK => ?_) AllReadyH.nil
            go_simp
            refine (HW.out _ (HTR.out.below hbd)).mono ?_
            rintro e w9 ⟨rfl, hb9⟩
            have hb9 := hbd.trans (hb9.mono hbd.size)
            refine hK.out _ _ (HKR.out _ hb9) (fun _ => ?_)
            clear hK K
            try simp only [Act.put, List.getElem_toArray, List.getElem_cons_zero, List.getElem_cons_succ, List.setIfInBounds_toArray, List.set_cons_zero, List.set_cons_succ]
            refine wpAnyH_take (i := 18) (v := ?_) rfl (by kernel_rfl) (by kernel_rfl) (by kernel_rfl) (fun _ _ _ h => h) (Or.inl ⟨by rfl, ?_⟩) (by assumption) ?_
            rotate_left
            · intro w hSw; obtain ⟨x0, x1, x2, x3, x4, x5, x6⟩ := hSw; go_simp; try with_reducible rfl
            try simp only [Act.put, List.getElem_toArray, List.getElem_cons_zero, List.getElem_cons_succ, List.setIfInBounds_toArray, List.set_cons_zero, List.set_cons_succ]
            refine wpAnyH_take (i := 19) (v := ?_) rfl (by kernel_rfl) (by kernel_rfl) (by kernel_rfl) (fun _ _ _ h => h) (Or.inl ⟨by rfl, ?_⟩) (by assumption) ?_
            rotate_left
            · intro w hSw; obtain ⟨x0, x1, x2, x3, x4, x5, x6⟩ := hSw; go_simp; try with_reducible rfl
            try simp only [Act.put, List.getElem_toArray, List.getElem_cons_zero, List.getElem_cons_succ, List.setIfInBounds_toArray, List.set_cons_zero, List.set_cons_succ]
            refine wpAnyH_done (by kernel_rfl) ?_ _
            go_wp2
            go_ret
            exact ⟨rfl, HBR.out.trans (hb9.mono HBR.out.size)⟩
end Go.Proofs.YtlollcabnfncpaaDoor
