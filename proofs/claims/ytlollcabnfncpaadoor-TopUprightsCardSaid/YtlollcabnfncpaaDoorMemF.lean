/-
  The walks of a memo of ends, and of its rule.
-/
import Derived.Test.YtlollcabnfncpaaDoorMemE
import Derived.Test.YtlollcabnfncpaaDoorSrcB
import Derived.Deep.RegionHeld3
import Derived.Deep.QuietTactic
import Derived.BigQuiet
namespace Go.Proofs.YtlollcabnfncpaaDoor
open Go.RowKit Go.Maps

/-- The map of a memo's struct, and a new element. -/
def G5 (p b g7 : Nat) (E : En) (w : World) : Prop := w.cell? ⟨p, 1, none⟩ = some (.map (some b)) ∧ w.cell? ⟨g7, 0, none⟩ = some (.int .i64 E.lo) ∧ w.cell? ⟨g7, 1, none⟩ = some (.int .i64 E.hi) ∧ w.cell? ⟨g7, 2, none⟩ = some (.bool E.fd)

theorem step_update_en {ops : Array Oper} {o : Oper} {a : Act} {K : Act → World → Prop} {Q : Exit → Act → World → Prop} {E : Prop} {w : World} (hg : o.guard = none) (m x v : Operand) (hop : o.op = Op.mapUpdate 162 m x v) (b n : Nat) (D : DataW Unit)
    (hm : a.eval m = .map (some b)) (hown : w.ownsMap Tryd.prog 105 enR b n D) (hn : n < maxLen) (k : Nat) (e : En) (hx : a.eval x = .int .u64 k) (hv : a.eval v = .agg #[.int .i64 e.lo, .int .i64 e.hi, .bool e.fd]) (hkey : keyOf Tryd.prog 105 (.int .u64 k) = some (.int .u64 k))
    (hK : ∀ w', w'.ownsMap Tryd.prog 105 enR b (n + 1) (D.put (.int .u64 k) (enD e)) → w.grownBy w' (some b) → K (a.put o.dst undef) w') :
    if Region.wanted o (yielded ops a.tmps) = true then Oper.wp Tryd.prog o a w K Q else E := by
  have hw : Region.wanted o (yielded ops a.tmps) = true := by simp [Region.wanted, hg]
  rw [if_pos hw]
  obtain ⟨w', hrun, r1, r2⟩ := hown.update law105 Tryd.underlying162 hn hkey (enR_mk e)
  unfold Oper.wp
  simp only [enV] at hrun
  simp [execOp, hop, hm, hx, hv, hrun, Result.andThen]
  exact hK w' r1 r2

set_option maxRecDepth 100000 in
set_option maxHeartbeats 1000000 in
theorem ofE_step (s : Sh) (p b g n : Nat) (hs : s.Ok) (hr : RuleSpecE s p b g n) : OfSpecE s p b g (n + 1) := by
  intro cov w m D hl hc hm hN
  have hN' : m + 2 * 2 ^ n ≤ 1152921504606846976 := by rw [Nat.pow_succ] at hN; omega
  have h2 : 2 ^ (n + 1) = 2 * 2 ^ n := by rw [Nat.pow_succ]; omega
  have hpos := Nat.two_pow_pos n
  have hR := Lib.hid (fun W (h : MemE s p b g W m D) => hr cov W m D hl hc h hN')
  have hkey := keyOf_int_mk (P := Tryd.prog) Tryd.underlying105 (wf_u64 (k := cov) (by have := hc.lt36 hs; omega))
  rw [h2]
  clear hr h2 hN
  generalize 2 ^ n = N at *
  have hm1 := hm.below (below_new w (.cells #[.int .i64 0, .int .i64 0, .bool false] 107))
  have hfn := hm1.fn
  have hmp := hm1.mp
  have hown := hm1.own
  have hpl := lt_of_cell hm.fn
  by_cases hh : Maps.has D (.int .u64 (cov : Int)) = true
  · have hgd := Lib.hid (hm.good cov hh)
    generalize hE : enC s cov = E at hgd hR ⊢
    clear hE
    go_enter Tryd.func71, Tryd.ntmps71
    go_wp2_with (at_lookup; refine wpList_lookup_en _ rfl _ _ rfl b m D rfl hown _ _ rfl hkey ?_; intro c hat)
    have hc' : c = E := (enD_inj (hgd.out.symm.trans hat)).symm
    subst hc'
    refine bodyPost_ret (v := .agg #[.int .i64 c.lo, .int .i64 c.hi, .bool c.fd]) (by simp [results, Tryd.results71, go_sem]) rfl ⟨rfl, m, D, ?_, by omega, ?_⟩
    · exact hm.below (((Below.refl _ _).alloc (Nat.le_refl _) _).alloc (by simp) _)
    · exact Chg.of_below (((Below.refl _ _).alloc (Nat.le_refl _) _).alloc (by simp) _)
  · have hh' := Bool.eq_false_iff.2 hh
    have HM := Lib.hid hm
    clear hh
    generalize hE : enC s cov = E at *
    have HE := Lib.hid hE
    clear hE
    go_enter Tryd.func71, Tryd.ntmps71
    go_wp2_with (first
      | (at_lookup; refine wpList_lookup_en _ rfl _ _ rfl b m D rfl hown _ _ rfl hkey ?_; intro c hat)
      | (go_at_call 109; refine (hR.out _ (HM.out.below (((Below.refl _ _).alloc (Nat.le_refl _) _).alloc (by simp) _))).mono ?_; rintro e w1 ⟨rfl, m1, D1, hm1', hle1, hch1⟩; have hfn1 := hm1'.fn; have hmp1 := hm1'.mp; have hown1 := hm1'.own))
    have hm2 := hm1'.below (below_new w1 (.cells #[.int .i64 E.lo, .int .i64 E.hi, .bool E.fd] 107))
    have hpl2 := lt_of_cell hmp1
    obtain ⟨wX, hX⟩ : ∃ wX, wX = w1.alloc (.cells #[.int .i64 E.lo, .int .i64 E.hi, .bool E.fd] 107) := ⟨_, rfl⟩
    have hbX : Below w1.heap.size w1 wX := by rw [hX]; exact below_new _ _
    have x0 : wX.cell? ⟨w1.heap.size, 0, none⟩ = some (.int .i64 E.lo) := by rw [hX]; simp [go_sem]
    have x1 : wX.cell? ⟨w1.heap.size, 1, none⟩ = some (.int .i64 E.hi) := by rw [hX]; simp [go_sem]
    have x2 : wX.cell? ⟨w1.heap.size, 2, none⟩ = some (.bool E.fd) := by rw [hX]; simp [go_sem]
    rw [← hX] at hm2 ⊢
    have x3 := hm2.mp
    have hown2 : wX.drew.ownsMap Tryd.prog 105 enR b m1 D1 := hm2.own
    have ne := fun {i o v} (h : wX.cell? ⟨i, o, none⟩ = some v) => ne_of_map hm2.own h
    have hS0 : G5 p b w1.heap.size E wX.drew := ⟨x3, x0, x1, x2⟩
    refine wp_region_held (S := G5 p b w1.heap.size E) (by kernel_rfl) ?_
    try (change wpAnyH _ _ _ _ _ _ _ _ (World.drew _))
    refine wpAnyH_take (i := 0) (v := ?_) rfl (by kernel_rfl) (by kernel_rfl) (by kernel_rfl) (fun _ _ _ h => h) (Or.inl ⟨by rfl, ?_⟩) (by assumption) ?_
    rotate_left
    · intro w hSw; obtain ⟨x0, x1, x2, x3⟩ := hSw; go_simp; try with_reducible rfl
    try simp only [Act.put, List.getElem_toArray, List.getElem_cons_zero, List.setIfInBounds_toArray, List.set_cons_zero, List.set_cons_succ]
    refine wpAnyH_take (i := 1) (v := ?_) rfl (by kernel_rfl) (by kernel_rfl) (by kernel_rfl) (fun _ _ _ h => h) (Or.inl ⟨by rfl, ?_⟩) (by assumption) ?_
    rotate_left
    · intro w hSw; obtain ⟨x0, x1, x2, x3⟩ := hSw; go_simp; try with_reducible rfl
    try simp only [Act.put, List.getElem_toArray, List.getElem_cons_zero, List.getElem_cons_succ, List.setIfInBounds_toArray, List.set_cons_zero, List.set_cons_succ]
    refine wpAnyH_take (i := 2) (v := ?_) rfl (by kernel_rfl) (by kernel_rfl) (by kernel_rfl) (fun _ _ _ h => h) (Or.inl ⟨by rfl, ?_⟩) (by assumption) ?_
    rotate_left
    · intro w hSw; obtain ⟨x0, x1, x2, x3⟩ := hSw; go_simp; try with_reducible rfl
    try simp only [Act.put, List.getElem_toArray, List.getElem_cons_zero, List.getElem_cons_succ, List.setIfInBounds_toArray, List.set_cons_zero, List.set_cons_succ]
    refine wpAnyH_take (i := 3) (v := ?_) rfl (by kernel_rfl) (by kernel_rfl) (by kernel_rfl) (fun _ _ _ h => h) (Or.inl ⟨by rfl, ?_⟩) (by assumption) ?_
    rotate_left
    · intro w hSw; obtain ⟨x0, x1, x2, x3⟩ := hSw; go_simp; try with_reducible rfl
    try simp only [Act.put, List.getElem_toArray, List.getElem_cons_zero, List.getElem_cons_succ, List.setIfInBounds_toArray, List.set_cons_zero, List.set_cons_succ]
    refine wpAnyH_take (i := 4) (v := ?_) rfl (by kernel_rfl) (by kernel_rfl) (by kernel_rfl) (fun _ _ _ h => h) (Or.inl ⟨by rfl, ?_⟩) (by assumption) ?_
    rotate_left
    · intro w hSw; obtain ⟨x0, x1, x2, x3⟩ := hSw; go_simp; try with_reducible rfl
    try simp only [Act.put, List.getElem_toArray, List.getElem_cons_zero, List.getElem_cons_succ, List.setIfInBounds_toArray, List.set_cons_zero, List.set_cons_succ]
    refine wpAnyH_take (i := 5) (v := ?_) rfl (by kernel_rfl) (by kernel_rfl) (by kernel_rfl) (fun _ _ _ h => h) (Or.inl ⟨by rfl, ?_⟩) (by assumption) ?_
    rotate_left
    · intro w hSw; obtain ⟨x0, x1, x2, x3⟩ := hSw; go_simp; try with_reducible rfl
    try simp only [Act.put, List.getElem_toArray, List.getElem_cons_zero, List.getElem_cons_succ, List.setIfInBounds_toArray, List.set_cons_zero, List.set_cons_succ]
    refine wpAnyH_ready (rs := [6]) (by kernel_rfl) (by simp) ?_
    refine AllReadyH.cons rfl (fun K hK => ?_) AllReadyH.nil
    refine step_update_en rfl _ _ _ rfl b m1 D1 rfl hown2 (by unfold maxLen; omega) cov E rfl rfl hkey ?_
    intro w5 hown5 hgr5
    have gc := fun {i o v} (h : wX.cell? ⟨i, o, none⟩ = some v) => ((Chg.of_grown hgr5).cell (p := ⟨i, o, none⟩) (lt_of_cell h) (fun e => ne h (Option.some.inj e))).trans h
    refine hK.out _ _ ⟨gc x3, gc x0, gc x1, gc x2⟩ (fun _ => ?_)
    clear hK K
    try simp only [Act.put, List.getElem_toArray, List.getElem_cons_zero, List.getElem_cons_succ]
    refine wpAnyH_done (by kernel_rfl) ?_ _
    have hbw : b < w.heap.size := by obtain ⟨es, clock, h, _⟩ := HM.out.own; exact lt_of_heap h
    have hgw := lt_of_cell HM.out.s0
    have h0w := HM.out.tab.1
    have hzs := hch1.size
    simp only [World.size_alloc] at hzs
    have hne : ¬ w.heap.size = b := by omega
    have cz := fun {o v} (h : ((w.alloc (.cells #[.int .i64 0, .int .i64 0, .bool false] 107)).alloc (.cells #[.int .i64 c.lo, .int .i64 c.hi, .bool c.fd] 107)).cell? ⟨w.heap.size, o, none⟩ = some v) =>
      gc ((hbX.cell (p := ⟨w.heap.size, o, none⟩) (by simp only; omega)).trans ((hch1.cell (p := ⟨w.heap.size, o, none⟩) (by simp; omega) hne).trans h))
    have fz := fun {o v} (h : ((w.alloc (.cells #[.int .i64 0, .int .i64 0, .bool false] 107)).alloc (.cells #[.int .i64 c.lo, .int .i64 c.hi, .bool c.fd] 107)).frozen? ⟨w.heap.size, o, none⟩ = v) =>
      ((Chg.of_grown hgr5).frozen (p := ⟨w.heap.size, o, none⟩) (show w.heap.size < wX.heap.size by have := hbX.size; omega) (fun e => hne (Option.some.inj e))).trans ((hbX.frozen (p := ⟨w.heap.size, o, none⟩) (by simp only; omega)).trans ((hch1.frozen (p := ⟨w.heap.size, o, none⟩) (by simp; omega) hne).trans h))
    have z0 := cz (o := 0) (v := .int .i64 0) (by simp [go_sem])
    have z1 := cz (o := 1) (v := .int .i64 0) (by simp [go_sem])
    have z2 := cz (o := 2) (v := .bool false) (by simp [go_sem])
    have f0 := fz (o := 0) (v := false) (by simp [go_sem])
    have f1 := fz (o := 1) (v := false) (by simp [go_sem])
    have f2 := fz (o := 2) (v := false) (by simp [go_sem])
    have y0 := gc x0
    have y1 := gc x1
    have y2 := gc x2
    have hmF := Lib.hid ((hm2.below (Below.refl wX.heap.size wX).drew).put (k := cov) (by rw [HE.out]; exact hown5) hgr5)
    have hgrF := Lib.hid hgr5
    have hmX := Lib.hid hbX
    clear cz fz gc ne hgr5 hown5 hm2 hbX hown2 x0 x1 x2 x3 hS0
    go_wp2
    refine bodyPost_ret (v := .agg #[.int .i64 E.lo, .int .i64 E.hi, .bool E.fd]) (by simp [results, Tryd.results71, go_sem, z0, z1, z2]) rfl ⟨rfl, m1 + 1, _, hmF.out.keep (P := fun i => i = w.heap.size) ?_ (by omega) (by omega) (by omega) (by omega), by omega, ?_⟩
    · exact ((Chg.store w5 ⟨w.heap.size, 0, none⟩ _).trans (Chg.store _ ⟨w.heap.size, 1, none⟩ _) (fun _ _ h => h)).trans (Chg.store _ ⟨w.heap.size, 2, none⟩ _) (fun _ _ h => h)
    · have k1 : Chg (fun i => i = b) w w1 := (Chg.of_below (((Below.refl w.heap.size w).alloc (Nat.le_refl _) _).alloc (by simp) _)).trans hch1 (fun _ _ h => h)
      have k2 : Chg (fun i => i = b) w w5 := ((k1.then_below hmX.out).then_below (Below.refl wX.heap.size wX).drew).trans (Chg.of_grown hgrF.out) (fun _ _ h => Option.some.inj h)
      exact ((k2.trans (Chg.store w5 ⟨w.heap.size, 0, none⟩ _) (fun i hi h => by have : i = w.heap.size := h; omega)).trans (Chg.store _ ⟨w.heap.size, 1, none⟩ _) (fun i hi h => by have : i = w.heap.size := h; omega)).trans (Chg.store _ ⟨w.heap.size, 2, none⟩ _) (fun i hi h => by have : i = w.heap.size := h; omega)

theorem chg3 (w : World) (g : Nat) (u0 u1 u2 : Value) : Chg (fun i => i = g) w (((w.setCell ⟨g, 0, none⟩ u0).setCell ⟨g, 1, none⟩ u1).setCell ⟨g, 2, none⟩ u2) :=
  ((Chg.store w ⟨g, 0, none⟩ u0).trans (Chg.store _ ⟨g, 1, none⟩ u1) (fun _ _ h => h)).trans (Chg.store _ ⟨g, 2, none⟩ u2) (fun _ _ h => h)
/-- Ends lie in block g, which can be written. -/
structure Ac (g : Nat) (a : En) (w : World) : Prop where
  c0 : w.cell? ⟨g, 0, none⟩ = some (.int .i64 a.lo)
  c1 : w.cell? ⟨g, 1, none⟩ = some (.int .i64 a.hi)
  c2 : w.cell? ⟨g, 2, none⟩ = some (.bool a.fd)
  f0 : w.frozen? ⟨g, 0, none⟩ = false
  f1 : w.frozen? ⟨g, 1, none⟩ = false
  f2 : w.frozen? ⟨g, 2, none⟩ = false
theorem Ac.chg {g : Nat} {a : En} {w w' : World} {P : Nat → Prop} (h : Ac g a w) (hc : Chg P w w') (hn : ¬ P g) : Ac g a w' :=
  have hl := lt_of_cell h.c0
  ⟨(hc.cell (p := ⟨g, _, none⟩) hl hn).trans h.c0, (hc.cell (p := ⟨g, _, none⟩) hl hn).trans h.c1, (hc.cell (p := ⟨g, _, none⟩) hl hn).trans h.c2, (hc.frozen (p := ⟨g, _, none⟩) hl hn).trans h.f0, (hc.frozen (p := ⟨g, _, none⟩) hl hn).trans h.f1, (hc.frozen (p := ⟨g, _, none⟩) hl hn).trans h.f2⟩
theorem Ac.below {g : Nat} {a : En} {w w' : World} (h : Ac g a w) (hb : Below w.heap.size w w') : Ac g a w' := h.chg (P := fun _ => False) (Chg.of_below hb) (fun h => h)
theorem Ac.new (w : World) (a : En) : Ac w.heap.size a (w.alloc (.cells #[.int .i64 a.lo, .int .i64 a.hi, .bool a.fd] 107)) := by
  refine ⟨?_, ?_, ?_, ?_, ?_, ?_⟩ <;> simp [go_sem]
theorem lt_of_map {H : Type} {w : World} {P : Program} {k : TypeId} {R : Value → Option (DataW H × List MemPlace)} {b n : Nat} {D : DataW H} (hm : w.ownsMap P k R b n D) : b < w.heap.size := by
  obtain ⟨es, clock, h, _⟩ := hm
  exact lt_of_heap h

set_option maxRecDepth 100000 in
set_option maxHeartbeats 4000000 in
theorem ruleE_step (s : Sh) (p b g n : Nat) (hs : s.Ok) (ho : OfSpecE s p b g n) : RuleSpecE s p b g n := by
  intro cov w m D hl hc hm hN
  have hpos := Nat.two_pow_pos n
  unfold OfSpecE at ho
  generalize 2 ^ n = N at *
  have HO := Lib.hid ho
  clear ho
  have hW := Lib.hid (fun W => whole_any s W hs)
  have hc36 := hc.lt36 hs
  have hw36 := whl_lt36 hs
  have hm0 := hm.below (below_new w (.cells #[.int .i64 0, .int .i64 0, .bool false] 107))
  have e0 := hm0.s0
  have e1 := hm0.s1
  have e2 := hm0.s2
  have e3 := hm0.s3
  have hgl := lt_of_cell hm.s0
  by_cases hwh : cov = whl s
  · have hb : ((cov : Int) == (whl s : Int)) = true := by rw [beq_iff_eq, hwh]
    have hv : enC s cov = ⟨0, 0, true⟩ := by rw [enC_eq hs, if_pos hwh]
    rw [hv]
    have HM := Lib.hid hm
    clear hv hwh hm0
    generalize whl s = z at hW hb hw36
    go_enter Tryd.func109, Tryd.ntmps109
    go_wp2_with (go_at_call 83; refine (hW.out _).mono ?_; rintro e w1 ⟨rfl, hb1⟩; have c0 := (hb1.cell (p := ⟨w.heap.size, 0, none⟩) (by simp)).trans (show _ = some (Value.int .i64 0) by simp [go_sem]); have c1 := (hb1.cell (p := ⟨w.heap.size, 1, none⟩) (by simp)).trans (show _ = some (Value.int .i64 0) by simp [go_sem]); have c2 := (hb1.cell (p := ⟨w.heap.size, 2, none⟩) (by simp)).trans (show _ = some (Value.bool false) by simp [go_sem]); have f0 := (hb1.frozen (p := ⟨w.heap.size, 0, none⟩) (by simp)).trans (show _ = false by simp [go_sem]); have f1 := (hb1.frozen (p := ⟨w.heap.size, 1, none⟩) (by simp)).trans (show _ = false by simp [go_sem]); have f2 := (hb1.frozen (p := ⟨w.heap.size, 2, none⟩) (by simp)).trans (show _ = false by simp [go_sem]))
    refine bodyPost_ret (v := .agg #[.int .i64 0, .int .i64 0, .bool true]) (by simp [results, Tryd.results109, go_sem, c0, c1, c2]) rfl ⟨rfl, m, D, (HM.out.below ((below_new w _).trans (hb1.mono (by simp)))).keep (chg3 w1 _ _ _ _) (by have := lt_of_cell HM.out.fn; omega) (by omega) (by have := lt_of_map HM.out.own; omega) (by have := HM.out.tab.1; omega), by omega, ?_⟩
    exact ((Chg.of_below (below_new w _)).then_below hb1).trans (chg3 w1 _ _ _ _) (fun i hi h => by omega)
  · have hb : ((cov : Int) == (whl s : Int)) = false := by simp; omega
    have hNx := Lib.hid (fun W h => next_any s cov W hs hc hwh h)
    have hmem := fun x (h : x ∈ nxt s cov) => mem_nxt h
    have hlft := fun x (h : x ∈ nxt s cov) => lft_nxt hs h
    have hL2 := nxt_len s cov
    have hEQ : enC s cov = (nxt s cov).foldl (fun a x => a.or (if x.t = true then enC s (cov ||| und s x) else (enC s (cov ||| und s x)).more)) ⟨0, 0, false⟩ := by rw [enC_eq hs, if_neg hwh]
    generalize enC s cov = F at hEQ ⊢
    have HEQ := Lib.hid hEQ
    have hpl := lt_of_cell hm.fn
    have hbl := lt_of_map hm.own
    have h0l := hm.tab.1
    have HM := Lib.hid hm
    clear hwh hEQ
    generalize nxt s cov = L at *
    generalize whl s = z at hW hb hw36
    go_enter Tryd.func109, Tryd.ntmps109
    go_wp2_with (first
      | (go_at_call 83; refine (hW.out _).mono ?_; rintro e w1 ⟨rfl, hb1⟩; have hz1 := hb1.size; simp only [World.size_alloc] at hz1; have hm1 := hm0.below hb1; have hm1' := hm1.below (below_new w1 (.cells #[.int .i64 0, .int .i64 0, .bool false] 107)); have e01 := hm1'.s0; have e11 := hm1'.s1; have e21 := hm1'.s2; have e31 := hm1'.s3)
      | (go_at_call 107; refine (hNx.out _ hm1'.tab).mono ?_; rintro e w2 ⟨A, c, rfl, hA, hb2, hAn⟩))
    have hm2 := hm1'.below hb2
    have hz2 := hb2.size
    simp only [World.size_alloc] at hz2
    have r0 := (hb2.cell (p := ⟨w.heap.size, 0, none⟩) (by simp; omega)).trans ((World.cell?_alloc_past _ _ _ (by omega)).trans ((hb1.cell (p := ⟨w.heap.size, 0, none⟩) (by simp)).trans (show _ = some (Value.int .i64 0) by simp [go_sem])))
    have r1 := (hb2.cell (p := ⟨w.heap.size, 1, none⟩) (by simp; omega)).trans ((World.cell?_alloc_past _ _ _ (by omega)).trans ((hb1.cell (p := ⟨w.heap.size, 1, none⟩) (by simp)).trans (show _ = some (Value.int .i64 0) by simp [go_sem])))
    have r2 := (hb2.cell (p := ⟨w.heap.size, 2, none⟩) (by simp; omega)).trans ((World.cell?_alloc_past _ _ _ (by omega)).trans ((hb1.cell (p := ⟨w.heap.size, 2, none⟩) (by simp)).trans (show _ = some (Value.bool false) by simp [go_sem])))
    have v0 := (hb2.frozen (p := ⟨w.heap.size, 0, none⟩) (by simp; omega)).trans ((World.frozen?_alloc_past _ _ _ (by omega)).trans ((hb1.frozen (p := ⟨w.heap.size, 0, none⟩) (by simp)).trans (show _ = false by simp [go_sem])))
    have v1 := (hb2.frozen (p := ⟨w.heap.size, 1, none⟩) (by simp; omega)).trans ((World.frozen?_alloc_past _ _ _ (by omega)).trans ((hb1.frozen (p := ⟨w.heap.size, 1, none⟩) (by simp)).trans (show _ = false by simp [go_sem])))
    have v2 := (hb2.frozen (p := ⟨w.heap.size, 2, none⟩) (by simp; omega)).trans ((World.frozen?_alloc_past _ _ _ (by omega)).trans ((hb1.frozen (p := ⟨w.heap.size, 2, none⟩) (by simp)).trans (show _ = false by simp [go_sem])))
    have c0 := (hb2.cell (p := ⟨w1.heap.size, 0, none⟩) (by simp)).trans (show _ = some (Value.int .i64 0) by simp [go_sem])
    have c1 := (hb2.cell (p := ⟨w1.heap.size, 1, none⟩) (by simp)).trans (show _ = some (Value.int .i64 0) by simp [go_sem])
    have c2 := (hb2.cell (p := ⟨w1.heap.size, 2, none⟩) (by simp)).trans (show _ = some (Value.bool false) by simp [go_sem])
    have f0 := (hb2.frozen (p := ⟨w1.heap.size, 0, none⟩) (by simp)).trans (show _ = false by simp [go_sem])
    have f1 := (hb2.frozen (p := ⟨w1.heap.size, 1, none⟩) (by simp)).trans (show _ = false by simp [go_sem])
    have f2 := (hb2.frozen (p := ⟨w1.heap.size, 2, none⟩) (by simp)).trans (show _ = false by simp [go_sem])
    have hch0 : Chg (fun i => i = b) w w2 := (((Chg.of_below (below_new w _)).then_below hb1).alloc _).then_below hb2
    have HLF := Lib.hid hlft
    have HMM := Lib.hid hmem
    have HAN := Lib.hid hAn
    have HWS := Lib.hid hm2
    have HRV := Lib.hid (And.intro (And.intro r0 (And.intro r1 r2)) (And.intro v0 (And.intro v1 v2)))
    have HCF := Lib.hid (And.intro (And.intro c0 (And.intro c1 c2)) (And.intro f0 (And.intro f1 f2)))
    clear hlft hmem hm hm0 hm1 hm1' e0 e1 e2 e3 e01 e11 e21 e31 hNx hW hb hAn r0 r1 r2 v0 v1 v2 c0 c1 c2 f0 f1 f2 hb1 hb2 hm2
    go_loopw [19] (fun i wr => ∃ (k m' : Nat) (D' : DataW Unit) (acc : En), k ≤ L.length ∧ i = .int .i64 k ∧ MemE s p b g wr m' D' ∧ m' + k ≤ m + k * N ∧ Chg (fun i => i = b ∨ i = w1.heap.size) w2 wr ∧
      (wr.cell? ⟨w1.heap.size, 0, none⟩ = some (.int .i64 acc.lo) ∧ wr.cell? ⟨w1.heap.size, 1, none⟩ = some (.int .i64 acc.hi) ∧ wr.cell? ⟨w1.heap.size, 2, none⟩ = some (.bool acc.fd)) ∧
      (wr.frozen? ⟨w1.heap.size, 0, none⟩ = false ∧ wr.frozen? ⟨w1.heap.size, 1, none⟩ = false ∧ wr.frozen? ⟨w1.heap.size, 2, none⟩ = false) ∧
      Hid (acc = (L.take k).foldl (fun a x => a.or (if x.t = true then enC s (cov ||| und s x) else (enC s (cov ||| und s x)).more)) ⟨0, 0, false⟩)) (fun i _ => L.length - (intOf i).toNat)
    case atStart => exact ⟨0, m, D, ⟨0, 0, false⟩, Nat.zero_le _, rfl, HWS.out, by omega, Chg.refl _ _, HCF.out.1, HCF.out.2, Lib.hid rfl⟩
    case round =>
      obtain ⟨k, m', D', acc, hk, rfl, hmr, hle, hcr, ⟨c0, c1, c2⟩, ⟨f0, f1, f2⟩, HACC⟩ := hrel
      have hzr := hcr.size
      have hgr1 := lt_of_cell hmr.s0
      have hmr' := Lib.hid hmr
      by_cases hlt : k < L.length
      · have hx : L[k]? = some L[k] := List.getElem?_eq_getElem hlt
        generalize L[k] = x at hx
        have hxm := mem_of_get hx
        obtain ⟨_, hfit, _⟩ := HMM.out x hxm
        have hlx := HLF.out x hxm
        have hts := take_snoc hx
        have hkN : k * N ≤ 1 * N := Nat.mul_le_mul_right N (by omega)
        have hkS : (k + 1) * N = k * N + N := Nat.succ_mul k N
        have hin := hc.or hfit
        have hor := u64_or_nat cov (und s x) (by omega) (by have := und_lt36 hs hfit; omega)
        have hnext : ((L.take (k + 1)).foldl (fun a x => a.or (if x.t = true then enC s (cov ||| und s x) else (enC s (cov ||| und s x)).more)) ⟨0, 0, false⟩) = acc.or (if x.t = true then enC s (cov ||| und s x) else (enC s (cov ||| und s x)).more) := by rw [hts, List.foldl_append, ← HACC.out]; rfl
        have HU := Lib.hid (fun W => under_any s x W hs hfit)
        have HI := Lib.hid (fun W (h : MemE s p b g W m' D') => HO.out (cov ||| und s x) W m' D' (by omega) hin h (by omega))
        have hen := enC_in s (cov ||| und s x)
        obtain ⟨b', off, rfl, hb', d0, d1, d2⟩ := hA k x hx
        have hbn := HAN.out _ rfl
        simp only [World.size_alloc] at hbn
        have hnb : ¬ (b' = b ∨ b' = w1.heap.size) := by omega
        replace d0 := (hcr.cell (p := ⟨b', _, none⟩) (lt_of_cell d0) hnb).trans d0
        replace d1 := (hcr.cell (p := ⟨b', _, none⟩) (lt_of_cell d1) hnb).trans d1
        replace d2 := (hcr.cell (p := ⟨b', _, none⟩) (lt_of_cell d2) hnb).trans d2
        have e0 := hmr.s0
        have e1 := hmr.s1
        have e2 := hmr.s2
        have e3 := hmr.s3
        generalize enC s (cov ||| und s x) = E at HI hen hnext
        have HNX := Lib.hid hnext
        have HKS := Lib.hid hkS
        have hN3 := Lib.hid (And.intro hlx hkN)
        clear hx hnext hts hkS hlx hxm hin hfit hmr hkN
        generalize und s x = y at HU hor HI
        obtain ⟨row, col, tt⟩ := x
        dsimp only at d0 d1 d2 HNX
        have hgw : w1.heap.size < wr.heap.size := by omega
        have HOR1 := Lib.hid (fun W => or_any acc E W)
        have HOR2 := Lib.hid (fun W => or_any acc E.more W)
        have HMO := Lib.hid (fun W => more_any E W hen)
        have hne6 : ¬ w1.heap.size = b := by omega
        have hzb : b < wr.heap.size := by omega
        have A0 := Lib.hid (show Ac w1.heap.size acc wr from ⟨c0, c1, c2, f0, f1, f2⟩)
        clear c0 c1 c2 f0 f1 f2
        rcases tt with _ | _
        · go_wp2_with (first
            | (go_at_call 82; refine (HU.out _).mono ?_; rintro e w3 ⟨rfl, hb3⟩; have hm3 := (hmr'.out.below (below_new _ _)).below hb3; have hz3 := hb3.size; simp only [World.size_alloc] at hz3)
            | (go_at_call 71; refine (HI.out _ hm3).mono ?_; rintro e w4 ⟨rfl, m4, D4, hm4, hle4, hch4⟩; have KC := keep_card (x := (⟨row, col, false⟩ : Cd)) (zb := b) hb3 hch4 hzb; dsimp only at KC; obtain ⟨⟨k0, k1, k2⟩, hz4⟩ := KC; have A4 := Lib.hid ((((A0.out.below (below_new _ _)).below hb3).chg hch4 hne6).below (below_new _ (.cells #[.int .i64 E.lo, .int .i64 E.hi, .bool E.fd] 107))))
            | (go_at_call 110; refine (HMO.out _).mono ?_; rintro e w5 ⟨rfl, hb5⟩; have hz5 := hb5.size; simp only [World.size_alloc] at hz5; have A5 := Lib.hid (A4.out.below hb5); have T5 := (Ac.new w4 E).below hb5; have t0 := T5.c0; have t1 := T5.c1; have t2 := T5.c2; have t3 := T5.f0; have t4 := T5.f1; have t5 := T5.f2; have A5' := Lib.hid (A5.out.chg (chg3 w5 w4.heap.size (.int .i64 E.more.lo) (.int .i64 E.more.hi) (.bool E.more.fd)) (by omega)); obtain ⟨a0, a1, a2, a3, a4, a5⟩ := A5.out)
            | (go_at_call 111; refine (HOR2.out _).mono ?_; rintro e w6 ⟨rfl, hb6⟩; have A6 := Lib.hid (A5'.out.below hb6); obtain ⟨q0, q1, q2, q3, q4, q5⟩ := A6.out))
          go_roundw
          case rel =>
            refine ⟨k + 1, m4, D4, acc.or E.more, by omega, by go_num, ?_, by have := hN3.out; rw [HKS.out]; omega, ?_, ?_, ?_, Lib.hid ?_⟩
            · exact ((((hm4.below (below_new _ _)).below hb5).keep (chg3 w5 w4.heap.size _ _ _) (by omega) (by omega) (by omega) (by omega)).below hb6).keep (chg3 w6 w1.heap.size _ _ _) (by omega) (by omega) (by omega) (by omega)
            · have k1 := (((hcr.alloc (.cells #[.int .i64 row, .int .i64 col, .bool false] 69)).then_below hb3).trans hch4 (fun _ _ h => .inl h)).alloc (.cells #[.int .i64 E.lo, .int .i64 E.hi, .bool E.fd] 107)
              exact (((k1.then_below hb5).trans (chg3 w5 w4.heap.size _ _ _) (fun i hi h => by omega)).then_below hb6).trans (chg3 w6 w1.heap.size _ _ _) (fun _ _ h => .inr h)
            · simp [go_sem, q0, q1, q2]
            · simp [go_sem, q3, q4, q5]
            · rw [HNX.out]; rfl
          case measure => simp [intOf]; omega
        · go_wp2_with (first
            | (go_at_call 82; refine (HU.out _).mono ?_; rintro e w3 ⟨rfl, hb3⟩; have hm3 := (hmr'.out.below (below_new _ _)).below hb3; have hz3 := hb3.size; simp only [World.size_alloc] at hz3)
            | (go_at_call 71; refine (HI.out _ hm3).mono ?_; rintro e w4 ⟨rfl, m4, D4, hm4, hle4, hch4⟩; have KC := keep_card (x := (⟨row, col, true⟩ : Cd)) (zb := b) hb3 hch4 hzb; dsimp only at KC; obtain ⟨⟨k0, k1, k2⟩, hz4⟩ := KC; have A4 := Lib.hid ((((A0.out.below (below_new _ _)).below hb3).chg hch4 hne6).below (below_new _ (.cells #[.int .i64 E.lo, .int .i64 E.hi, .bool E.fd] 107))); obtain ⟨a0, a1, a2, a3, a4, a5⟩ := A4.out)
            | (go_at_call 111; refine (HOR1.out _).mono ?_; rintro e w6 ⟨rfl, hb6⟩; have A6 := Lib.hid (A4.out.below hb6); obtain ⟨q0, q1, q2, q3, q4, q5⟩ := A6.out))
          go_roundw
          case rel =>
            refine ⟨k + 1, m4, D4, acc.or E, by omega, by go_num, ?_, by have := hN3.out; rw [HKS.out]; omega, ?_, ?_, ?_, Lib.hid ?_⟩
            · exact ((hm4.below (below_new _ _)).below hb6).keep (chg3 w6 w1.heap.size _ _ _) (by omega) (by omega) (by omega) (by omega)
            · have k1 := (((hcr.alloc (.cells #[.int .i64 row, .int .i64 col, .bool true] 69)).then_below hb3).trans hch4 (fun _ _ h => .inl h)).alloc (.cells #[.int .i64 E.lo, .int .i64 E.hi, .bool E.fd] 107)
              exact (k1.then_below hb6).trans (chg3 w6 w1.heap.size _ _ _) (fun _ _ h => .inr h)
            · simp [go_sem, q0, q1, q2]
            · simp [go_sem, q3, q4, q5]
            · rw [HNX.out]; rfl
          case measure => simp [intOf]; omega
      · have e : L.take k = L := List.take_of_length_le (by omega)
        have hF : F = acc := by rw [HEQ.out, HACC.out, e]
        have hkN : k * N + 2 ≤ 2 * N + k := by
          have hk2 : k ≤ 2 := by omega
          match k, hk2 with
          | 0, _ | 1, _ | 2, _ => omega
        obtain ⟨⟨r0, r1, r2⟩, v0, v1, v2⟩ := HRV.out
        have hz2r := hcr.size
        have hn1 : ¬ (w.heap.size = b ∨ w.heap.size = w1.heap.size) := by omega
        replace r0 := (hcr.cell (p := ⟨w.heap.size, 0, none⟩) (by simp; omega) hn1).trans r0
        replace r1 := (hcr.cell (p := ⟨w.heap.size, 1, none⟩) (by simp; omega) hn1).trans r1
        replace r2 := (hcr.cell (p := ⟨w.heap.size, 2, none⟩) (by simp; omega) hn1).trans r2
        replace v0 := (hcr.frozen (p := ⟨w.heap.size, 0, none⟩) (by simp; omega) hn1).trans v0
        replace v1 := (hcr.frozen (p := ⟨w.heap.size, 1, none⟩) (by simp; omega) hn1).trans v1
        replace v2 := (hcr.frozen (p := ⟨w.heap.size, 2, none⟩) (by simp; omega) hn1).trans v2
        have HF := Lib.hid hF
        clear hmr e hF hA
        go_wp2
        rw [HF.out]
        refine bodyPost_ret (v := .agg #[.int .i64 acc.lo, .int .i64 acc.hi, .bool acc.fd]) (by simp [results, Tryd.results109, go_sem, r0, r1, r2]) rfl ⟨rfl, m', D', hmr'.out.keep (chg3 wr w.heap.size _ _ _) (by omega) (by omega) (by omega) (by omega), by omega, ?_⟩
        exact (hch0.trans hcr (fun i hi h => by omega)).trans (chg3 wr w.heap.size _ _ _) (fun i hi h => by omega)

theorem ofE_any (s : Sh) (p b g : Nat) (hs : s.Ok) : ∀ n, OfSpecE s p b g n
  | 0 => fun _ _ _ _ hl => absurd hl (Nat.not_lt_zero _)
  | n + 1 => ofE_step s p b g n hs (ruleE_step s p b g n hs (ofE_any s p b g hs n))

/-- The ends of what is left. -/
theorem ofE37 (s : Sh) (p b g cov m : Nat) (D : DataW Unit) (w : World) (hs : s.Ok) (hc : InS s cov) (hm : MemE s p b g w m D) (hN : m ≤ 576460752303423488) :
    Calls Tryd.prog 71 #[.pointer (some ⟨p, 0, none⟩), .int .u64 cov] w (RetMemE s p b g m 137438953472 w (enC s cov)) :=
  ofE_any s p b g hs 37 cov w m D (by have := lft_le hs cov; omega) hc hm (by omega)

theorem newMemoE_any (k : Nat) (q : Addr) (w : World) :
    Calls Tryd.prog 108 #[.func (.func k) #[] #[.pointer (some q)]] w fun e w' => e = .returned (.pointer (some ⟨w.heap.size + 1, 0, none⟩)) ∧ (w.alloc (.map #[] 0)).alloc (.cells #[.func (.func k) #[] #[.pointer (some q)], .map (some w.heap.size)] 164) = w' := by
  have hmm := @run_makeMap Tryd.prog
  go_enter Tryd.func108, Tryd.ntmps108
  go_wp2
  go_ret
  exact ⟨rfl, rfl⟩

def RetUprights (s : Sh) (w : World) (e : Ending) (w' : World) : Prop := ∃ p b g, e = .returned (.pointer (some ⟨p, 0, none⟩)) ∧ MemE s p b g w' 0 (.map []) ∧ Below w.heap.size w w' ∧ w.heap.size ≤ b

theorem uprights_any (s : Sh) (w : World) (ht : TabW w) :
    Calls Tryd.prog 70 #[.agg #[.int .i64 s.r, .int .i64 s.c, .int .i64 s.l, .int .i64 s.w]] w (RetUprights s w) := by
  have hmf : ∀ (fn : Fn) (first cap : Array Value) (w : World), (Instr.makeFunc fn first cap).run Tryd.prog w = .ok (.func fn first cap) w := fun _ _ _ _ => rfl
  go_enter Tryd.func70, Tryd.ntmps70
  go_wp2_with (go_at_call 108; refine (newMemoE_any 109 _ _).mono ?_; rintro e w1 ⟨rfl, rfl⟩)
  go_ret
  have hb : Below w.heap.size w (((w.alloc (.cells #[.int .i64 s.r, .int .i64 s.c, .int .i64 s.l, .int .i64 s.w] 23)).alloc (.map #[] 0)).alloc (.cells #[.func (.func 109) #[] #[.pointer (some ⟨w.heap.size, 0, none⟩)], .map (some (w.heap.size + 1))] 164)) := (((Below.refl _ _).alloc (Nat.le_refl _) _).alloc (by simp) _).alloc (by simp; omega) _
  refine ⟨w.heap.size + 1 + 1, w.heap.size + 1, w.heap.size, rfl, ⟨?_, ?_, ?_, ?_, ?_, ?_, ?_, ?_, ht.below hb⟩, hb, by omega⟩
  · simp [go_sem]
  · simp [go_sem]
  · simp [go_sem]
  · simp [go_sem]
  · simp [go_sem]
  · simp [go_sem]
  · have := World.ownsMap_made (H := Unit) (w.alloc (.cells #[.int .i64 s.r, .int .i64 s.c, .int .i64 s.l, .int .i64 s.w] 23)) Tryd.prog 105 enR
    rw [World.size_alloc] at this
    exact this.alloc _
  · intro k hk
    simp [Maps.has] at hk

/-- How many cards stand upright, and the error. -/
def upS (r c l v : Int) : En := if chkS r c l v = 0 then if (enC ⟨r.toNat, c.toNat, l.toNat, v.toNat⟩ 0).fd = true then enC ⟨r.toNat, c.toNat, l.toNat, v.toNat⟩ 0 else ⟨0, 0, false⟩ else ⟨0, 0, false⟩
def upE (r c l v : Int) : Int := if chkS r c l v = 0 then if (enC ⟨r.toNat, c.toNat, l.toNat, v.toNat⟩ 0).fd = true then 0 else 12 else 1

set_option maxRecDepth 100000 in
set_option maxHeartbeats 2000000 in
theorem upright_any (r c l v : Int) (w : World) (ht : TabW w) :
    Calls Tryd.prog 25 #[.agg #[.int .i64 r, .int .i64 c, .int .i64 l, .int .i64 v]] w fun e w' => e = .returned (.tuple #[.int .i64 (upS r c l v).lo, .int .i64 (upS r c l v).hi, .int .i64 (upE r c l v)]) ∧ Below w.heap.size w w' := by
  have HC := Lib.hid (fun W => check_any r c l v W)
  by_cases h0 : chkS r c l v = 0
  · obtain ⟨s, hs, rfl, rfl, rfl, rfl⟩ := ok_of_chk h0
    have e1 : upS s.r s.c s.l s.w = if (enC s 0).fd = true then enC s 0 else ⟨0, 0, false⟩ := by unfold upS; rw [if_pos h0]; rfl
    have e2 : upE s.r s.c s.l s.w = if (enC s 0).fd = true then 0 else 12 := by unfold upE; rw [if_pos h0]; rfl
    rw [e1, e2]
    rw [h0] at HC
    clear e1 e2 h0
    have HN := Lib.hid (fun W h => uprights_any s W h)
    have HO := Lib.hid (fun p b g W h => ofE37 s p b g 0 0 (.map []) W hs (InS.zero s) h (by omega))
    generalize enC s 0 = z at HO ⊢
    obtain ⟨lo, hi, fd⟩ := z
    dsimp only at HO ⊢
    rcases fd with _ | _
    all_goals
      go_enter Tryd.func25, Tryd.ntmps25
      go_wp2_with (first
        | (go_at_call 20; refine (HC.out _).mono ?_; rintro e w1 ⟨rfl, hb1⟩; obtain ⟨q1, q2, q3⟩ := bcell hb1; simp only [World.size_alloc] at q1 q2 q3; have hbb := below_via hb1)
        | (go_at_call 70; refine (HN.out _ (ht.below hbb)).mono ?_; rintro e w2 ⟨p, b, g, rfl, hm, hb2, hlb⟩)
        | (go_at_call 71; refine (HO.out _ _ _ _ hm).mono ?_; rintro e w3 ⟨rfl, m', D', hm', _, hch⟩))
      try (go_quiet (fail); go_wp2)
      go_ret3
      have hbF := (below_then hbb hb2).trans (hch.below (by have := hb2.size; omega) (fun i hi h => by have := hbb.size; omega))
      first
        | exact ⟨rfl, hbF.alloc (by have := hb2.size; have := hch.size; have := hbb.size; omega) _⟩
        | exact ⟨rfl, below_drewN (hbF.alloc (by have := hb2.size; have := hch.size; have := hbb.size; omega) _) _⟩
  · have e1 := (chkS_01 r c l v).resolve_left h0
    have e2 : upS r c l v = ⟨0, 0, false⟩ := by unfold upS; rw [if_neg h0]
    have e3 : upE r c l v = 1 := by unfold upE; rw [if_neg h0]
    rw [e2, e3]
    rw [e1] at HC
    clear e1 h0 e2 e3
    go_enter Tryd.func25, Tryd.ntmps25
    go_wp2_with (go_at_call 20; refine (HC.out _).mono ?_; rintro e w1 ⟨rfl, hb1⟩)
    go_ret3
    exact ⟨rfl, below_via hb1⟩
end Go.Proofs.YtlollcabnfncpaaDoor
