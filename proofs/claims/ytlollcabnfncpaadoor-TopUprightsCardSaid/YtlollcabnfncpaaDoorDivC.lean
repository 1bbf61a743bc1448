/-
  The walks of a memo of divisions, of its rule, and of the best division.
-/
import Derived.Test.YtlollcabnfncpaaDoorDivB
namespace Go.Proofs.YtlollcabnfncpaaDoor
open Go.RowKit Go.Maps

def OfSpecD (all : List Bl) (B p b g n : Nat) : Prop := ∀ (q : Bl) (w : World) (m : Nat) (D : DataW Unit), q.m < n → q.Ok → MemD all B p b g w m D → m + 22 ^ n ≤ 1152921504606846976 →
  Calls Tryd.prog 120 #[.pointer (some ⟨p, 0, none⟩), .agg #[.int .i64 q.a, .int .i64 q.b, .int .i64 q.c, .int .i64 q.d]] w (RetMemD all B p b g m (22 ^ n) w (divC all q))

def RuleSpecD (all : List Bl) (B p b g n : Nat) : Prop := ∀ (q : Bl) (w : World) (m : Nat) (D : DataW Unit), q.m < n + 1 → q.Ok → MemD all B p b g w m D → m + 22 * 22 ^ n ≤ 1152921504606846976 →
  Calls Tryd.prog 116 #[.pointer (some ⟨p, 0, none⟩), .agg #[.int .i64 q.a, .int .i64 q.b, .int .i64 q.c, .int .i64 q.d], .pointer (some ⟨g, 0, none⟩)] w (RetMemD all B p b g m (22 * 22 ^ n - 1) w (divC all q))

/-- A block, and the rule of a memo, lie in memory. -/
def G7 (p g h0 : Nat) (q : Bl) (w : World) : Prop := w.cell? ⟨h0, 0, none⟩ = some (.int .i64 q.a) ∧ w.cell? ⟨h0, 1, none⟩ = some (.int .i64 q.b) ∧ w.cell? ⟨h0, 2, none⟩ = some (.int .i64 q.c) ∧ w.cell? ⟨h0, 3, none⟩ = some (.int .i64 q.d) ∧ w.cell? ⟨p, 0, none⟩ = some (.func (.func 116) #[] #[.pointer (some ⟨g, 0, none⟩)])

/-- The map of a memo's struct, a key, and a new element. -/
def G8 (p b h0 g7 : Nat) (q : Bl) (E : Dv) (w : World) : Prop := w.cell? ⟨p, 1, none⟩ = some (.map (some b)) ∧ w.cell? ⟨h0, 0, none⟩ = some (.int .i64 q.a) ∧ w.cell? ⟨h0, 1, none⟩ = some (.int .i64 q.b) ∧ w.cell? ⟨h0, 2, none⟩ = some (.int .i64 q.c) ∧ w.cell? ⟨h0, 3, none⟩ = some (.int .i64 q.d) ∧
  w.cell? ⟨g7, 0, none⟩ = some (.bool E.st) ∧ w.cell? ⟨g7, 1, none⟩ = some (.int .i64 (E.n : Nat))

theorem step_update_dv {ops : Array Oper} {o : Oper} {a : Act} {K : Act → World → Prop} {Q : Exit → Act → World → Prop} {E : Prop} {w : World} (hg : o.guard = none) (m x v : Operand) (hop : o.op = Op.mapUpdate 190 m x v) (b n : Nat) (D : DataW Unit)
    (hm : a.eval m = .map (some b)) (hown : w.ownsMap Tryd.prog 117 dvR b n D) (hn : n < maxLen) (q : Bl) (e : Dv) (hx : a.eval x = .agg #[.int .i64 q.a, .int .i64 q.b, .int .i64 q.c, .int .i64 q.d]) (hv : a.eval v = .agg #[.bool e.st, .int .i64 (e.n : Nat)]) (hkey : keyOf Tryd.prog 117 (.agg #[.int .i64 q.a, .int .i64 q.b, .int .i64 q.c, .int .i64 q.d]) = some (keyB q))
    (hK : ∀ w', w'.ownsMap Tryd.prog 117 dvR b (n + 1) (D.put (keyB q) (dvD e)) → w.grownBy w' (some b) → K (a.put o.dst undef) w') :
    if Region.wanted o (yielded ops a.tmps) = true then Oper.wp Tryd.prog o a w K Q else E := by
  have hw : Region.wanted o (yielded ops a.tmps) = true := by simp [Region.wanted, hg]
  rw [if_pos hw]
  obtain ⟨w', hrun, r1, r2⟩ := hown.update law117 Tryd.underlying190 hn hkey (dvR_mk e)
  unfold Oper.wp
  simp only [dvV] at hrun
  simp [execOp, hop, hm, hx, hv, hrun, Result.andThen]
  exact hK w' r1 r2

theorem chg2 (w : World) (g : Nat) (u0 u1 : Value) : Chg (fun i => i = g) w ((w.setCell ⟨g, 0, none⟩ u0).setCell ⟨g, 1, none⟩ u1) :=
  (Chg.store w ⟨g, 0, none⟩ u0).trans (Chg.store _ ⟨g, 1, none⟩ u1) (fun _ _ h => h)

/-- What a look-up returns, in each world with this map. -/
theorem look_dv {w : World} {b m : Nat} {D : DataW Unit} {kl : Lit} {key : Value} (hown : w.ownsMap Tryd.prog 117 dvR b m D) (hkey : keyOf Tryd.prog 117 key = some kl) :
    ∃ c : Dv, D.atKey kl (dvD ⟨false, 0⟩) = dvD c ∧ ∀ w' : World, w'.ownsMap Tryd.prog 117 dvR b m D → (Instr.lookup 190 (.map (some b)) key true).run Tryd.prog w' = .ok (.tuple #[.agg #[.bool c.st, .int .i64 (c.n : Nat)], .bool (Maps.has D kl)]) w' := by
  obtain ⟨v, ps, _, hv⟩ := hown.look_ok law117 Tryd.underlying190 (zero123 w) (dvR_mk _) hkey
  obtain ⟨c, rfl, hc⟩ := dvR_inv hv
  refine ⟨c, hc, fun w' hown' => ?_⟩
  obtain ⟨v', ps', hrun, hv'⟩ := hown'.look_ok law117 Tryd.underlying190 (zero123 w') (dvR_mk _) hkey
  obtain ⟨c', rfl, hc'⟩ := dvR_inv hv'
  have : c' = c := dvD_inj (hc'.symm.trans hc)
  subst this
  exact hrun

set_option maxRecDepth 100000 in
set_option maxHeartbeats 4000000 in
theorem ofD_step (all : List Bl) (B p b g n : Nat) (hr : RuleSpecD all B p b g n) : OfSpecD all B p b g (n + 1) := by
  intro q w m D hl hq hm hN
  have hN' : m + 22 * 22 ^ n ≤ 1152921504606846976 := by rw [Nat.pow_succ] at hN; omega
  have h2 : 22 ^ (n + 1) = 22 * 22 ^ n := by rw [Nat.pow_succ]; omega
  have hpos : 0 < 22 ^ n := Nat.pow_pos (by omega)
  have hR := Lib.hid (fun W (h : MemD all B p b g W m D) => hr q W m D hl hq h hN')
  have hkey := key117 q hq
  rw [h2]
  clear hr h2 hN
  generalize 22 ^ n = N at *
  generalize hE : divC all q = E at *
  have HE := Lib.hid hE
  clear hE
  obtain ⟨w0, hw0⟩ : ∃ w0, w0 = (w.alloc (.cells #[.int .i64 q.a, .int .i64 q.b, .int .i64 q.c, .int .i64 q.d] 117)).alloc (.cells #[.bool false, .int .i64 0] 123) := ⟨_, rfl⟩
  have hb0 : Below w.heap.size w w0 := by rw [hw0]; exact ((Below.refl _ _).alloc (Nat.le_refl _) _).alloc (by simp) _
  have hm0 := hm.below hb0
  obtain ⟨c, hat, hlk⟩ := look_dv hm0.own hkey
  have x0 : w0.cell? ⟨w.heap.size, 0, none⟩ = some (.int .i64 q.a) := by rw [hw0]; simp [go_sem]
  have x1 : w0.cell? ⟨w.heap.size, 1, none⟩ = some (.int .i64 q.b) := by rw [hw0]; simp [go_sem]
  have x2 : w0.cell? ⟨w.heap.size, 2, none⟩ = some (.int .i64 q.c) := by rw [hw0]; simp [go_sem]
  have x3 : w0.cell? ⟨w.heap.size, 3, none⟩ = some (.int .i64 q.d) := by rw [hw0]; simp [go_sem]
  have z0 : w0.cell? ⟨w.heap.size + 1, 0, none⟩ = some (.bool false) := by rw [hw0]; simp [go_sem]
  have z1 : w0.cell? ⟨w.heap.size + 1, 1, none⟩ = some (.int .i64 0) := by rw [hw0]; simp [go_sem]
  have f0 : w0.frozen? ⟨w.heap.size + 1, 0, none⟩ = false := by rw [hw0]; simp [go_sem]
  have f1 : w0.frozen? ⟨w.heap.size + 1, 1, none⟩ = false := by rw [hw0]; simp [go_sem]
  have hz0 : w0.heap.size = w.heap.size + 1 + 1 := by rw [hw0]; simp
  have hbB := hm.old
  have hBw := hm.bs
  have HK := Lib.hid (fun (W : World) (h : Below w0.heap.size w0 W) => show W.ownsMap Tryd.prog 117 dvR b m D ∧ W.cell? ⟨p, 1, none⟩ = some (.map (some b)) ∧ W.cell? ⟨w.heap.size, 0, none⟩ = some (.int .i64 q.a) ∧ W.cell? ⟨w.heap.size, 1, none⟩ = some (.int .i64 q.b) ∧ W.cell? ⟨w.heap.size, 2, none⟩ = some (.int .i64 q.c) ∧ W.cell? ⟨w.heap.size, 3, none⟩ = some (.int .i64 q.d) from
    ⟨own_map_below hm0.own h, (h.cell (p := ⟨p, 1, none⟩) (by simp only; omega)).trans hm0.mp, (h.cell (p := ⟨w.heap.size, 0, none⟩) (by simp only; omega)).trans x0, (h.cell (p := ⟨w.heap.size, 1, none⟩) (by simp only; omega)).trans x1, (h.cell (p := ⟨w.heap.size, 2, none⟩) (by simp only; omega)).trans x2, (h.cell (p := ⟨w.heap.size, 3, none⟩) (by simp only; omega)).trans x3⟩)
  have hbd : Below w0.heap.size w0 w0.drew := (Below.refl _ _).drew
  have hbd2 := hbd.alloc (Nat.le_refl _) (.cells #[.bool false, .int .i64 0] 123)
  have hbd3 := hbd.alloc (Nat.le_refl _) (.cells #[.bool c.st, .int .i64 (c.n : Nat)] 123)
  have HZ := Lib.hid (And.intro (And.intro z0 z1) (And.intro f0 f1))
  have HX := Lib.hid (And.intro (And.intro x0 x1) (And.intro x2 x3))
  have HM := Lib.hid hm0
  clear z0 z1 f0 f1 x0 x1 x2 x3 hm hm0
  go_enter Tryd.func120, Tryd.ntmps120
  go_wp2
  rw [← hw0]
  clear hw0
  go_region_held3 (fun W => W.ownsMap Tryd.prog 117 dvR b m D ∧ W.cell? ⟨p, 1, none⟩ = some (.map (some b)) ∧ W.cell? ⟨w.heap.size, 0, none⟩ = some (.int .i64 q.a) ∧ W.cell? ⟨w.heap.size, 1, none⟩ = some (.int .i64 q.b) ∧ W.cell? ⟨w.heap.size, 2, none⟩ = some (.int .i64 q.c) ∧ W.cell? ⟨w.heap.size, 3, none⟩ = some (.int .i64 q.d))
    (exact HK.out _ (by assumption))
    (fail)
  all_goals
    have hbW := Lib.hid hbd3
    have y0 : (w0.alloc (.cells #[.bool c.st, .int .i64 (c.n : Nat)] 123)).drew.cell? ⟨w.heap.size + 1 + 1, 0, none⟩ = some (.bool c.st) := by rw [← hz0]; simp [go_sem]
    have y1 : (w0.alloc (.cells #[.bool c.st, .int .i64 (c.n : Nat)] 123)).drew.cell? ⟨w.heap.size + 1 + 1, 1, none⟩ = some (.int .i64 (c.n : Nat)) := by rw [← hz0]; simp [go_sem]
    have hbW' : Below w0.heap.size w0 (w0.alloc (.cells #[.bool c.st, .int .i64 (c.n : Nat)] 123)).drew := (below_new _ _).drew
    generalize (w0.alloc (.cells #[.bool c.st, .int .i64 (c.n : Nat)] 123)).drew = W1 at *
    have hzW := hbW'.size
    have hmW := HM.out.below hbW'
    obtain ⟨⟨z0, z1⟩, f0, f1⟩ := HZ.out
    replace z0 := (hbW'.cell (p := ⟨w.heap.size + 1, 0, none⟩) (by simp only; omega)).trans z0
    replace z1 := (hbW'.cell (p := ⟨w.heap.size + 1, 1, none⟩) (by simp only; omega)).trans z1
    replace f0 := (hbW'.frozen (p := ⟨w.heap.size + 1, 0, none⟩) (by simp only; omega)).trans f0
    replace f1 := (hbW'.frozen (p := ⟨w.heap.size + 1, 1, none⟩) (by simp only; omega)).trans f1
    have hB1 := hb0.trans (hbW'.mono (by omega))
    clear hbd hbd2 hbd3 hlk hb0
  all_goals
    rcases hh : Maps.has D (keyB q) with _ | _
    · have HMW := Lib.hid hmW
      have HB1 := Lib.hid hB1
      have HRW := Lib.hid (hR.out W1.drew (hmW.below (Below.refl W1.heap.size W1).drew))
      have HRA := Lib.hid (hR.out (W1.drew.alloc (.cells #[.bool false, .int .i64 0] 123)) (hmW.below ((Below.refl W1.heap.size W1).drew.alloc (Nat.le_refl _) _)))
      have HX1 := HX.out
      have x0 := (hbW'.cell (p := ⟨w.heap.size, 0, none⟩) (by simp only; omega)).trans HX1.1.1
      have x1 := (hbW'.cell (p := ⟨w.heap.size, 1, none⟩) (by simp only; omega)).trans HX1.1.2
      have x2 := (hbW'.cell (p := ⟨w.heap.size, 2, none⟩) (by simp only; omega)).trans HX1.2.1
      have x3 := (hbW'.cell (p := ⟨w.heap.size, 3, none⟩) (by simp only; omega)).trans HX1.2.2
      have x4 := hmW.fn
      have HZZ := Lib.hid (And.intro (And.intro z0 z1) (And.intro f0 f1))
      clear hR HX1 hmW hB1 hbW' hat y0 y1 z0 z1 f0 f1
      have hS0 : G7 p g w.heap.size q W1.drew := ⟨x0, x1, x2, x3, x4⟩
      have HSC := Lib.hid (fun (W : World) (h : Chg (fun i => i = b) W1 W) => (show G7 p g w.heap.size q W from
        ⟨(h.cell (p := ⟨w.heap.size, 0, none⟩) (by simp only; omega) (by simp only; omega)).trans x0, (h.cell (p := ⟨w.heap.size, 1, none⟩) (by simp only; omega) (by simp only; omega)).trans x1, (h.cell (p := ⟨w.heap.size, 2, none⟩) (by simp only; omega) (by simp only; omega)).trans x2, (h.cell (p := ⟨w.heap.size, 3, none⟩) (by simp only; omega) (by simp only; omega)).trans x3, (h.cell (p := ⟨p, 0, none⟩) (by simp only; omega) (ne_of_map HMW.out.own x4)).trans x4⟩))
      go_wp2
      refine wp_region_held (S := G7 p g w.heap.size q) (by kernel_rfl) ?_
      try (change wpAnyH _ _ _ _ _ _ _ _ (World.drew _))
      refine wpAnyH_take (i := 0) (v := ?_) rfl (by kernel_rfl) (by kernel_rfl) (by kernel_rfl) (fun _ _ _ h => h) (Or.inl ⟨by rfl, ?_⟩) (by assumption) ?_
      rotate_left
      · intro w hSw; obtain ⟨x0, x1, x2, x3, x4⟩ := hSw; go_simp; try with_reducible rfl
      try simp only [Act.put, List.getElem_toArray, List.getElem_cons_zero, List.setIfInBounds_toArray, List.set_cons_zero, List.set_cons_succ]
      refine wpAnyH_take (i := 1) (v := ?_) rfl (by kernel_rfl) (by kernel_rfl) (by kernel_rfl) (fun _ _ _ h => h) (Or.inl ⟨by rfl, ?_⟩) (by assumption) ?_
      rotate_left
      · intro w hSw; obtain ⟨x0, x1, x2, x3, x4⟩ := hSw; go_simp; try with_reducible rfl
      try simp only [Act.put, List.getElem_toArray, List.getElem_cons_zero, List.getElem_cons_succ, List.setIfInBounds_toArray, List.set_cons_zero, List.set_cons_succ]
      refine wpAnyH_take (i := 2) (v := ?_) rfl (by kernel_rfl) (by kernel_rfl) (by kernel_rfl) (fun _ _ _ h => h) (Or.inl ⟨by rfl, ?_⟩) (by assumption) ?_
      rotate_left
      · intro w hSw; obtain ⟨x0, x1, x2, x3, x4⟩ := hSw; go_simp; try with_reducible rfl
      try simp only [Act.put, List.getElem_toArray, List.getElem_cons_zero, List.getElem_cons_succ, List.setIfInBounds_toArray, List.set_cons_zero, List.set_cons_succ]
      refine wpAnyH_take (i := 3) (v := ?_) rfl (by kernel_rfl) (by kernel_rfl) (by kernel_rfl) (fun _ _ _ h => h) (Or.inl ⟨by rfl, ?_⟩) (by assumption) ?_
      rotate_left
      · intro w hSw; obtain ⟨x0, x1, x2, x3, x4⟩ := hSw; go_simp; try with_reducible rfl
      try simp only [Act.put, List.getElem_toArray, List.getElem_cons_zero, List.getElem_cons_succ, List.setIfInBounds_toArray, List.set_cons_zero, List.set_cons_succ]
      refine wpAnyH_take (i := 4) (v := ?_) rfl (by kernel_rfl) (by kernel_rfl) (by kernel_rfl) (fun _ _ _ h => h) (Or.inl ⟨by rfl, ?_⟩) (by assumption) ?_
      rotate_left
      · intro w hSw; obtain ⟨x0, x1, x2, x3, x4⟩ := hSw; go_simp; try with_reducible rfl
      try simp only [Act.put, List.getElem_toArray, List.getElem_cons_zero, List.getElem_cons_succ, List.setIfInBounds_toArray, List.set_cons_zero, List.set_cons_succ]
      refine wpAnyH_take (i := 5) (v := ?_) rfl (by kernel_rfl) (by kernel_rfl) (by kernel_rfl) (fun _ _ _ h => h) (Or.inl ⟨by rfl, ?_⟩) (by assumption) ?_
      rotate_left
      · intro w hSw; obtain ⟨x0, x1, x2, x3, x4⟩ := hSw; go_simp; try with_reducible rfl
      try simp only [Act.put, List.getElem_toArray, List.getElem_cons_zero, List.getElem_cons_succ, List.setIfInBounds_toArray, List.set_cons_zero, List.set_cons_succ]
      refine wpAnyH_ready (rs := [6, 7]) (by kernel_rfl) (by simp) ?_
      refine AllReadyH.cons rfl (fun K hK => ?_) (AllReadyH.cons rfl (fun K hK => ?_) AllReadyH.nil)
      · go_simp
        refine HRW.out.mono ?_
        rintro e w2 ⟨rfl, m2, D2, hm2, hle2, hch2⟩
        have kc : Chg (fun i => i = b) W1 w2 := (Chg.of_below (Below.refl W1.heap.size W1).drew).trans hch2 (fun _ _ h => h)
        refine hK.out _ _ (HSC.out _ kc) (fun _ => ?_)
        clear hK K
        try simp only [Act.put, List.getElem_toArray, List.getElem_cons_zero, List.getElem_cons_succ, List.setIfInBounds_toArray, List.set_cons_zero, List.set_cons_succ]
        refine wpAnyH_ready (rs := [7]) (by kernel_rfl) (by simp) ?_
        refine AllReadyH.cons rfl (fun K hK => ?_) AllReadyH.nil
        go_simp
        refine hK.out _ _ (HSC.out _ (kc.alloc _)) (fun _ => ?_)
        clear hK K
        try simp only [Act.put, List.getElem_toArray, List.getElem_cons_zero, List.getElem_cons_succ, List.setIfInBounds_toArray, List.set_cons_zero, List.set_cons_succ]
        refine wpAnyH_ready (rs := [8]) (by kernel_rfl) (by simp) ?_
        refine AllReadyH.cons rfl (fun K hK => ?_) AllReadyH.nil
        go_simp
        refine hK.out _ _ (HSC.out _ (kc.alloc _)) (fun _ => ?_)
        clear hK K
        refine wpAnyH_done (by kernel_rfl) ?_ _
        have kF := kc.alloc (.cells #[.bool E.st, .int .i64 (E.n : Nat)] 123)
        have hmF := hm2.below (below_new w2 (.cells #[.bool E.st, .int .i64 (E.n : Nat)] 123))
        have t0 : (w2.alloc (.cells #[.bool E.st, .int .i64 (E.n : Nat)] 123)).cell? ⟨w2.heap.size, 0, none⟩ = some (.bool E.st) := by simp [go_sem]
        have t1 : (w2.alloc (.cells #[.bool E.st, .int .i64 (E.n : Nat)] 123)).cell? ⟨w2.heap.size, 1, none⟩ = some (.int .i64 (E.n : Nat)) := by simp [go_sem]
        generalize w2.alloc (.cells #[.bool E.st, .int .i64 (E.n : Nat)] 123) = wF at *
        generalize w2.heap.size = g7 at t0 t1 ⊢
        clear hm2 hch2 kc
        obtain ⟨y0, y1, y2, y3, _⟩ := HSC.out _ kF
        have ym := hmF.mp
        have hownF : wF.drew.ownsMap Tryd.prog 117 dvR b m2 D2 := hmF.own
        have hS5 : G8 p b w.heap.size g7 q E wF.drew := ⟨ym, y0, y1, y2, y3, t0, t1⟩
        have ne := fun {i o v} (h : wF.cell? ⟨i, o, none⟩ = some v) => ne_of_map hmF.own h
        go_wp2
        refine wp_region_held (S := G8 p b w.heap.size g7 q E) (by kernel_rfl) ?_
        try (change wpAnyH _ _ _ _ _ _ _ _ (World.drew _))
        refine wpAnyH_take (i := 0) (v := ?_) rfl (by kernel_rfl) (by kernel_rfl) (by kernel_rfl) (fun _ _ _ h => h) (Or.inl ⟨by rfl, ?_⟩) (by assumption) ?_
        rotate_left
        · intro w hSw; obtain ⟨x0, x1, x2, x3, x4, x5, x6⟩ := hSw; go_simp; try with_reducible rfl
        try simp only [Act.put, List.getElem_toArray, List.getElem_cons_zero, List.setIfInBounds_toArray, List.set_cons_zero, List.set_cons_succ]
        refine wpAnyH_take (i := 1) (v := ?_) rfl (by kernel_rfl) (by kernel_rfl) (by kernel_rfl) (fun _ _ _ h => h) (Or.inl ⟨by rfl, ?_⟩) (by assumption) ?_
        rotate_left
        · intro w hSw; obtain ⟨x0, x1, x2, x3, x4, x5, x6⟩ := hSw; go_simp; try with_reducible rfl
        try simp only [Act.put, List.getElem_toArray, List.getElem_cons_zero, List.getElem_cons_succ, List.setIfInBounds_toArray, List.set_cons_zero, List.set_cons_succ]
        refine wpAnyH_take (i := 2) (v := ?_) rfl (by kernel_rfl) (by kernel_rfl) (by kernel_rfl) (fun _ _ _ h => h) (Or.inl ⟨by rfl, ?_⟩) (by assumption) ?_
        rotate_left
        · intro w hSw; obtain ⟨x0, x1, x2, x3, x4, x5, x6⟩ := hSw; go_simp; try with_reducible rfl
        try simp only [Act.put, List.getElem_toArray, List.getElem_cons_zero, List.getElem_cons_succ, List.setIfInBounds_toArray, List.set_cons_zero, List.set_cons_succ]
        refine wpAnyH_take (i := 3) (v := ?_) rfl (by kernel_rfl) (by kernel_rfl) (by kernel_rfl) (fun _ _ _ h => h) (Or.inl ⟨by rfl, ?_⟩) (by assumption) ?_
        rotate_left
        · intro w hSw; obtain ⟨x0, x1, x2, x3, x4, x5, x6⟩ := hSw; go_simp; try with_reducible rfl
        try simp only [Act.put, List.getElem_toArray, List.getElem_cons_zero, List.getElem_cons_succ, List.setIfInBounds_toArray, List.set_cons_zero, List.set_cons_succ]
        refine wpAnyH_take (i := 4) (v := ?_) rfl (by kernel_rfl) (by kernel_rfl) (by kernel_rfl) (fun _ _ _ h => h) (Or.inl ⟨by rfl, ?_⟩) (by assumption) ?_
        rotate_left
        · intro w hSw; obtain ⟨x0, x1, x2, x3, x4, x5, x6⟩ := hSw; go_simp; try with_reducible rfl
        try simp only [Act.put, List.getElem_toArray, List.getElem_cons_zero, List.getElem_cons_succ, List.setIfInBounds_toArray, List.set_cons_zero, List.set_cons_succ]
        refine wpAnyH_take (i := 5) (v := ?_) rfl (by kernel_rfl) (by kernel_rfl) (by kernel_rfl) (fun _ _ _ h => h) (Or.inl ⟨by rfl, ?_⟩) (by assumption) ?_
        rotate_left
        · intro w hSw; obtain ⟨x0, x1, x2, x3, x4, x5, x6⟩ := hSw; go_simp; try with_reducible rfl
        try simp only [Act.put, List.getElem_toArray, List.getElem_cons_zero, List.getElem_cons_succ, List.setIfInBounds_toArray, List.set_cons_zero, List.set_cons_succ]
        refine wpAnyH_ready (rs := [6]) (by kernel_rfl) (by simp) ?_
        refine AllReadyH.cons rfl (fun K hK => ?_) AllReadyH.nil
        refine step_update_dv rfl _ _ _ rfl b m2 D2 rfl hownF (by unfold maxLen; omega) q E (by rfl) (by rfl) hkey ?_
        intro w5 hown5 hgr5
        have gc := fun {i o v} (h : wF.cell? ⟨i, o, none⟩ = some v) => ((Chg.of_grown hgr5).cell (p := ⟨i, o, none⟩) (lt_of_cell h) (fun e => ne h (Option.some.inj e))).trans h
        refine hK.out _ _ ⟨gc ym, gc y0, gc y1, gc y2, gc y3, gc t0, gc t1⟩ (fun _ => ?_)
        clear hK K
        try simp only [Act.put, List.getElem_toArray, List.getElem_cons_zero, List.getElem_cons_succ]
        refine wpAnyH_done (by kernel_rfl) ?_ _
        have k5 : Chg (fun i => i = b) W1 w5 := (kF.then_below (Below.refl wF.heap.size wF).drew).trans (Chg.of_grown hgr5) (fun _ _ h => Option.some.inj h)
        have hm5 := Lib.hid ((hmF.below (Below.refl wF.heap.size wF).drew).put hq (by rw [HE.out]; exact hown5) hgr5)
        have hn4 : ¬ w.heap.size + 1 = b := by omega
        obtain ⟨⟨z0, z1⟩, f0, f1⟩ := HZZ.out
        replace z0 := (k5.cell (p := ⟨w.heap.size + 1, 0, none⟩) (by simp only; omega) hn4).trans z0
        replace z1 := (k5.cell (p := ⟨w.heap.size + 1, 1, none⟩) (by simp only; omega) hn4).trans z1
        replace f0 := (k5.frozen (p := ⟨w.heap.size + 1, 0, none⟩) (by simp only; omega) hn4).trans f0
        replace f1 := (k5.frozen (p := ⟨w.heap.size + 1, 1, none⟩) (by simp only; omega) hn4).trans f1
        have v0 := gc t0
        have v1 := gc t1
        have K5 := Lib.hid k5
        clear gc ne hgr5 hown5 hmF hownF hS5 y0 y1 y2 y3 ym t0 t1 kF k5
        go_wp2
        refine bodyPost_ret (v := .agg #[.bool E.st, .int .i64 (E.n : Nat)]) (by simp [results, Tryd.results120, go_sem, z0, z1]) rfl ⟨rfl, m2 + 1, _, hm5.out.keep (chg2 w5 (w.heap.size + 1) _ _) (fun i h => by omega), by omega, ?_⟩
        exact ((Chg.of_below (HB1.out.mono (Nat.le_refl _))).trans K5.out (fun _ _ h => h)).trans (chg2 w5 (w.heap.size + 1) _ _) (fun i hi h => by omega)
      · go_simp
        refine hK.out _ _ (HSC.out _ ((Chg.of_below (Below.refl W1.heap.size W1).drew).alloc _)) (fun _ => ?_)
        clear hK K
        try simp only [Act.put, List.getElem_toArray, List.getElem_cons_zero, List.getElem_cons_succ, List.setIfInBounds_toArray, List.set_cons_zero, List.set_cons_succ]
        refine wpAnyH_ready (rs := [6]) (by kernel_rfl) (by simp) ?_
        refine AllReadyH.cons rfl (fun K hK => ?_) AllReadyH.nil
        go_simp
        refine HRA.out.mono ?_
        rintro e w2 ⟨rfl, m2, D2, hm2, hle2, hch2⟩
        have kc : Chg (fun i => i = b) W1 w2 := ((Chg.of_below (Below.refl W1.heap.size W1).drew).alloc _).trans hch2 (fun _ _ h => h)
        refine hK.out _ _ (HSC.out _ kc) (fun _ => ?_)
        clear hK K
        try simp only [Act.put, List.getElem_toArray, List.getElem_cons_zero, List.getElem_cons_succ, List.setIfInBounds_toArray, List.set_cons_zero, List.set_cons_succ]
        have hnb : ¬ W1.heap.size = b := by omega
        have u0 := (hch2.cell (p := ⟨W1.heap.size, 0, none⟩) (by simp) hnb).trans (show _ = some (Value.bool false) by simp [go_sem])
        have u1 := (hch2.cell (p := ⟨W1.heap.size, 1, none⟩) (by simp) hnb).trans (show _ = some (Value.int .i64 0) by simp [go_sem])
        have v0 := (hch2.frozen (p := ⟨W1.heap.size, 0, none⟩) (by simp) hnb).trans (show _ = false by simp [go_sem])
        have v1 := (hch2.frozen (p := ⟨W1.heap.size, 1, none⟩) (by simp) hnb).trans (show _ = false by simp [go_sem])
        refine wpAnyH_ready (rs := [8]) (by kernel_rfl) (by simp) ?_
        refine AllReadyH.cons rfl (fun K hK => ?_) AllReadyH.nil
        go_simp
        have kF := kc.trans (chg2 w2 W1.heap.size (.bool E.st) (.int .i64 (E.n : Nat))) (fun i hi h => by omega)
        refine hK.out _ _ (HSC.out _ kF) (fun _ => ?_)
        clear hK K
        refine wpAnyH_done (by kernel_rfl) ?_ _
        have hmF := hm2.keep (chg2 w2 W1.heap.size (.bool E.st) (.int .i64 (E.n : Nat))) (fun i h => by omega)
        have t0 : ((w2.setCell ⟨W1.heap.size, 0, none⟩ (.bool E.st)).setCell ⟨W1.heap.size, 1, none⟩ (.int .i64 (E.n : Nat))).cell? ⟨W1.heap.size, 0, none⟩ = some (.bool E.st) := by simp [go_sem, u0]
        have t1 : ((w2.setCell ⟨W1.heap.size, 0, none⟩ (.bool E.st)).setCell ⟨W1.heap.size, 1, none⟩ (.int .i64 (E.n : Nat))).cell? ⟨W1.heap.size, 1, none⟩ = some (.int .i64 (E.n : Nat)) := by simp [go_sem, u1]
        generalize ((w2.setCell ⟨W1.heap.size, 0, none⟩ (.bool E.st)).setCell ⟨W1.heap.size, 1, none⟩ (.int .i64 (E.n : Nat))) = wF at *
        obtain ⟨g7, hg7⟩ : ∃ g7, g7 = W1.heap.size := ⟨_, rfl⟩
        rw [← hg7] at t0 t1 ⊢
        clear hm2 hch2 kc u0 u1 v0 v1 hg7
        obtain ⟨y0, y1, y2, y3, _⟩ := HSC.out _ kF
        have ym := hmF.mp
        have hownF : wF.drew.ownsMap Tryd.prog 117 dvR b m2 D2 := hmF.own
        have hS5 : G8 p b w.heap.size g7 q E wF.drew := ⟨ym, y0, y1, y2, y3, t0, t1⟩
        have ne := fun {i o v} (h : wF.cell? ⟨i, o, none⟩ = some v) => ne_of_map hmF.own h
        go_wp2
        refine wp_region_held (S := G8 p b w.heap.size g7 q E) (by kernel_rfl) ?_
        try (change wpAnyH _ _ _ _ _ _ _ _ (World.drew _))
        refine wpAnyH_take (i := 0) (v := ?_) rfl (by kernel_rfl) (by kernel_rfl) (by kernel_rfl) (fun _ _ _ h => h) (Or.inl ⟨by rfl, ?_⟩) (by assumption) ?_
        rotate_left
        · intro w hSw; obtain ⟨x0, x1, x2, x3, x4, x5, x6⟩ := hSw; go_simp; try with_reducible rfl
        try simp only [Act.put, List.getElem_toArray, List.getElem_cons_zero, List.setIfInBounds_toArray, List.set_cons_zero, List.set_cons_succ]
        refine wpAnyH_take (i := 1) (v := ?_) rfl (by kernel_rfl) (by kernel_rfl) (by kernel_rfl) (fun _ _ _ h => h) (Or.inl ⟨by rfl, ?_⟩) (by assumption) ?_
        rotate_left
        · intro w hSw; obtain ⟨x0, x1, x2, x3, x4, x5, x6⟩ := hSw; go_simp; try with_reducible rfl
        try simp only [Act.put, List.getElem_toArray, List.getElem_cons_zero, List.getElem_cons_succ, List.setIfInBounds_toArray, List.set_cons_zero, List.set_cons_succ]
        refine wpAnyH_take (i := 2) (v := ?_) rfl (by kernel_rfl) (by kernel_rfl) (by kernel_rfl) (fun _ _ _ h => h) (Or.inl ⟨by rfl, ?_⟩) (by assumption) ?_
        rotate_left
        · intro w hSw; obtain ⟨x0, x1, x2, x3, x4, x5, x6⟩ := hSw; go_simp; try with_reducible rfl
        try simp only [Act.put, List.getElem_toArray, List.getElem_cons_zero, List.getElem_cons_succ, List.setIfInBounds_toArray, List.set_cons_zero, List.set_cons_succ]
        refine wpAnyH_take (i := 3) (v := ?_) rfl (by kernel_rfl) (by kernel_rfl) (by kernel_rfl) (fun _ _ _ h => h) (Or.inl ⟨by rfl, ?_⟩) (by assumption) ?_
        rotate_left
        · intro w hSw; obtain ⟨x0, x1, x2, x3, x4, x5, x6⟩ := hSw; go_simp; try with_reducible rfl
        try simp only [Act.put, List.getElem_toArray, List.getElem_cons_zero, List.getElem_cons_succ, List.setIfInBounds_toArray, List.set_cons_zero, List.set_cons_succ]
        refine wpAnyH_take (i := 4) (v := ?_) rfl (by kernel_rfl) (by kernel_rfl) (by kernel_rfl) (fun _ _ _ h => h) (Or.inl ⟨by rfl, ?_⟩) (by assumption) ?_
        rotate_left
        · intro w hSw; obtain ⟨x0, x1, x2, x3, x4, x5, x6⟩ := hSw; go_simp; try with_reducible rfl
        try simp only [Act.put, List.getElem_toArray, List.getElem_cons_zero, List.getElem_cons_succ, List.setIfInBounds_toArray, List.set_cons_zero, List.set_cons_succ]
        refine wpAnyH_take (i := 5) (v := ?_) rfl (by kernel_rfl) (by kernel_rfl) (by kernel_rfl) (fun _ _ _ h => h) (Or.inl ⟨by rfl, ?_⟩) (by assumption) ?_
        rotate_left
        · intro w hSw; obtain ⟨x0, x1, x2, x3, x4, x5, x6⟩ := hSw; go_simp; try with_reducible rfl
        try simp only [Act.put, List.getElem_toArray, List.getElem_cons_zero, List.getElem_cons_succ, List.setIfInBounds_toArray, List.set_cons_zero, List.set_cons_succ]
        refine wpAnyH_ready (rs := [6]) (by kernel_rfl) (by simp) ?_
        refine AllReadyH.cons rfl (fun K hK => ?_) AllReadyH.nil
        refine step_update_dv rfl _ _ _ rfl b m2 D2 rfl hownF (by unfold maxLen; omega) q E (by rfl) (by rfl) hkey ?_
        intro w5 hown5 hgr5
        have gc := fun {i o v} (h : wF.cell? ⟨i, o, none⟩ = some v) => ((Chg.of_grown hgr5).cell (p := ⟨i, o, none⟩) (lt_of_cell h) (fun e => ne h (Option.some.inj e))).trans h
        refine hK.out _ _ ⟨gc ym, gc y0, gc y1, gc y2, gc y3, gc t0, gc t1⟩ (fun _ => ?_)
        clear hK K
        try simp only [Act.put, List.getElem_toArray, List.getElem_cons_zero, List.getElem_cons_succ]
        refine wpAnyH_done (by kernel_rfl) ?_ _
        have k5 : Chg (fun i => i = b) W1 w5 := (kF.then_below (Below.refl wF.heap.size wF).drew).trans (Chg.of_grown hgr5) (fun _ _ h => Option.some.inj h)
        have hm5 := Lib.hid ((hmF.below (Below.refl wF.heap.size wF).drew).put hq (by rw [HE.out]; exact hown5) hgr5)
        have hn4 : ¬ w.heap.size + 1 = b := by omega
        obtain ⟨⟨z0, z1⟩, f0, f1⟩ := HZZ.out
        replace z0 := (k5.cell (p := ⟨w.heap.size + 1, 0, none⟩) (by simp only; omega) hn4).trans z0
        replace z1 := (k5.cell (p := ⟨w.heap.size + 1, 1, none⟩) (by simp only; omega) hn4).trans z1
        replace f0 := (k5.frozen (p := ⟨w.heap.size + 1, 0, none⟩) (by simp only; omega) hn4).trans f0
        replace f1 := (k5.frozen (p := ⟨w.heap.size + 1, 1, none⟩) (by simp only; omega) hn4).trans f1
        have v0 := gc t0
        have v1 := gc t1
        have K5 := Lib.hid k5
        clear gc ne hgr5 hown5 hmF hownF hS5 y0 y1 y2 y3 ym t0 t1 kF k5
        go_wp2
        refine bodyPost_ret (v := .agg #[.bool E.st, .int .i64 (E.n : Nat)]) (by simp [results, Tryd.results120, go_sem, z0, z1]) rfl ⟨rfl, m2 + 1, _, hm5.out.keep (chg2 w5 (w.heap.size + 1) _ _) (fun i h => by omega), by omega, ?_⟩
        exact ((Chg.of_below (HB1.out.mono (Nat.le_refl _))).trans K5.out (fun _ _ h => h)).trans (chg2 w5 (w.heap.size + 1) _ _) (fun i hi h => by omega)
    · have hgd := HM.out.good q hq hh
      have hc : c = E := (dvD_inj (hgd.symm.trans hat)).symm.trans HE.out
      have HCE := Lib.hid hc
      have HMW := Lib.hid hmW
      have HB1 := Lib.hid hB1
      clear hgd hc hat hR hmW hB1 hbW'
      go_wp2
      refine bodyPost_ret (v := .agg #[.bool c.st, .int .i64 (c.n : Nat)]) (by simp [results, Tryd.results120, go_sem, z0, z1]) rfl ⟨by rw [HCE.out], m, D, HMW.out.keep (chg2 W1 (w.heap.size + 1) _ _) (fun i h => by omega), by omega, ?_⟩
      exact (Chg.of_below (HB1.out.mono (Nat.le_refl _))).trans (chg2 W1 (w.heap.size + 1) _ _) (fun i hi h => by omega)
end Go.Proofs.YtlollcabnfncpaaDoor
