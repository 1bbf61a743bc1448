/-
  Fillings without a cut: the walks of solid, of its closure in the search, and of Solid.
-/
import Derived.Test.YtlollcabnfncpaaDoorBlkC
import Derived.Test.YtlollcabnfncpaaDoorSrcC
namespace Go.Proofs.YtlollcabnfncpaaDoor
open Go.RowKit Go.Maps

theorem areaB_ok {s : Sh} (hs : s.Ok) : (areaB s).Ok := by
  have := hs.r6; have := hs.c6
  unfold areaB Bl.Ok
  dsimp only
  omega

/-- What cuts of a whole sheet leave. -/
theorem cuts_area (s : Sh) (hs : s.Ok) (A : Option Addr) (c : Nat) (l : List Bl) (w : World) (hA : BlksAt w w.heap.size A l) (hn : l.length < 1000000) :
    Calls Tryd.prog 73 #[.agg #[.int .i64 0, .int .i64 s.r, .int .i64 0, .int .i64 s.c], .slice A l.length c] w (RetCuts w (areaB s) l) := cuts_any (areaB s) (areaB_ok hs) A c l w hA hn

set_option maxRecDepth 100000 in
set_option maxHeartbeats 4000000 in
theorem solid_any (s : Sh) (A : Option Addr) (c : Nat) (l : List Cd) (w : World) (hs : s.Ok) (hA : CardsAt w w.heap.size A l) (hf : ∀ x ∈ l, fitP s x) (hn : l.length < 1000000) :
    Calls Tryd.prog 88 #[.agg #[.int .i64 s.r, .int .i64 s.c, .int .i64 s.l, .int .i64 s.w], .slice A l.length c] w fun e w' => e = .returned (.bool (solidP s l)) ∧ Below w.heap.size w w' := by
  have hlm : (l.map (blk s)).length = l.length := List.length_map ..
  have HS : solidP s l = ((gapL 0 s.r (rowsB (l.map (blk s)))).length == 0 && (gapL 0 s.c (colsB (l.map (blk s)))).length == 0) := rfl
  generalize solidP s l = qv at HS ⊢
  go_enter Tryd.func88, Tryd.ntmps88
  go_wp2
  obtain ⟨W0, hW0⟩ : ∃ W0, W0 = w.alloc (.cells #[.int .i64 s.r, .int .i64 s.c, .int .i64 s.l, .int .i64 s.w] 23) := ⟨_, rfl⟩
  have hb0 : Below w.heap.size w W0 := by rw [hW0]; exact below_new _ _
  have hz0 : W0.heap.size = w.heap.size + 1 := by rw [hW0]; simp
  have p0 : W0.cell? ⟨w.heap.size, 0, none⟩ = some (.int .i64 s.r) := by rw [hW0]; simp [go_sem]
  have p1 : W0.cell? ⟨w.heap.size, 1, none⟩ = some (.int .i64 s.c) := by rw [hW0]; simp [go_sem]
  have p2 : W0.cell? ⟨w.heap.size, 2, none⟩ = some (.int .i64 s.l) := by rw [hW0]; simp [go_sem]
  have p3 : W0.cell? ⟨w.heap.size, 3, none⟩ = some (.int .i64 s.w) := by rw [hW0]; simp [go_sem]
  have hA0 : CardsAt W0 W0.heap.size A l := (hA.below hb0 (Nat.le_refl _)).mono (by omega)
  rw [← hW0]
  have HB := Lib.hid hb0
  have hbd : Below W0.heap.size W0 W0.drew := (Below.refl _ _).drew
  have hzw : w.heap.size < W0.heap.size := by omega
  have HK := Lib.hid (fun (W : World) (h : Below W0.heap.size W0 W) => show Below W0.heap.size W0 W ∧ W.cell? ⟨w.heap.size, 0, none⟩ = some (.int .i64 s.r) ∧ W.cell? ⟨w.heap.size, 1, none⟩ = some (.int .i64 s.c) ∧ W.cell? ⟨w.heap.size, 2, none⟩ = some (.int .i64 s.l) ∧ W.cell? ⟨w.heap.size, 3, none⟩ = some (.int .i64 s.w) from
    ⟨h, (h.cell (p := ⟨w.heap.size, 0, none⟩) hzw).trans p0, (h.cell (p := ⟨w.heap.size, 1, none⟩) hzw).trans p1, (h.cell (p := ⟨w.heap.size, 2, none⟩) hzw).trans p2, (h.cell (p := ⟨w.heap.size, 3, none⟩) hzw).trans p3⟩)
  have H74 := Lib.hid (fun W (Q : Ending → World → Prop) (h : Below W0.heap.size W0 W) (hQ : ∀ w', Below W0.heap.size W0 w' → Below W.heap.size W w' → Q (.returned (.agg #[.int .i64 0, .int .i64 s.r, .int .i64 0, .int .i64 s.c])) w') =>
    (area_any s W).mono fun e w' ⟨he, hb⟩ => he ▸ hQ w' (h.trans (hb.mono h.size)) hb)
  have H75 := Lib.hid (fun W (Q : Ending → World → Prop) (h : Below W0.heap.size W0 W) (hQ : ∀ B d w', BlksAt w' w'.heap.size B (l.map (blk s)) → Below W0.heap.size W0 w' → Q (.returned (.slice B l.length d)) w') =>
    (places_any s A c l W hs (hA0.up h) hf hn).mono fun e w' ⟨B, d, he, hi, hb, _⟩ => by rw [he, hlm]; exact hQ B d w' hi (h.trans (hb.mono h.size)))
  have H73 := Lib.hid (fun B d W (hB : BlksAt W W.heap.size B (l.map (blk s))) => hlm ▸ cuts_area s hs B d (l.map (blk s)) W hB (by rw [hlm]; exact hn))
  clear hW0 hA hA0 hf hb0 p0 p1 p2 p3 hlm
  go_region_held3 (fun w' => Below W0.heap.size W0 w' ∧ w'.cell? ⟨w.heap.size, 0, none⟩ = some (.int .i64 s.r) ∧ w'.cell? ⟨w.heap.size, 1, none⟩ = some (.int .i64 s.c) ∧ w'.cell? ⟨w.heap.size, 2, none⟩ = some (.int .i64 s.l) ∧ w'.cell? ⟨w.heap.size, 3, none⟩ = some (.int .i64 s.w))
    (exact HK.out _ (by assumption))
    (first
      | (go_at_call 74; with_reducible refine H74.out _ _ (by assumption) ?_; intro w8 hb8 hu8)
      | (go_at_call 75; with_reducible refine H75.out _ _ (by assumption) ?_; intro A9 c9 w9 hA9 hb9)
      | (go_at_call 73; refine (H73.out _ _ _ (by assumption)).mono ?_; rintro e w10 ⟨A1, c1, A2, c2, rfl, _, _, hb10⟩; have hb11 := hb9.trans (hb10.mono hb9.size)))
  have HS' : qv = ((gapL (areaB s).a (areaB s).b (rowsB (l.map (blk s)))).length == 0 && (gapL (areaB s).c (areaB s).d (colsB (l.map (blk s)))).length == 0) := HS
  have HF := Lib.hid (HB.out.trans (hb11.mono (by omega)))
  generalize (gapL (areaB s).a (areaB s).b (rowsB (l.map (blk s)))).length = ga at *
  generalize (gapL (areaB s).c (areaB s).d (colsB (l.map (blk s)))).length = gb at *
  have HQ := Lib.hid HS'
  clear HS HS' hb11 hb10 hb9 hbd HB
  rcases ga with _ | ga
  · rcases gb with _ | gb
    · go_wp2
      go_ret
      exact ⟨ret_bool (by rw [HQ.out]; rfl), HF.out⟩
    · have hn2 : (((gb + 1 : Nat) : Int) == 0) = false := by simp; omega
      go_wp2
      go_ret
      exact ⟨ret_bool (by rw [HQ.out]; simp <;> omega), HF.out⟩
  · have hn2 : (((ga + 1 : Nat) : Int) == 0) = false := by simp; omega
    go_wp2
    go_ret
    exact ⟨ret_bool (by rw [HQ.out]; simp <;> omega), HF.out⟩

/-- Which fillings Solid wants. -/
theorem wanted87 (s : Sh) (Z : LP) (hs : s.Ok) : Wanted s Z 87 #[.pointer (some ⟨Z.gz, 0, none⟩)] (solidP s) := by
  intro W A c l z0 z1 z2 z3 hA hf hn
  have HS := Lib.hid (solid_any s A c l W hs hA hf (by omega))
  have hz := lt_of_cell z0
  show Calls Tryd.prog 87 #[.slice A l.length c, .pointer (some ⟨Z.gz, 0, none⟩)] W _
  go_enter Tryd.func87, Tryd.ntmps87
  go_wp2_with (go_at_call 88; refine HS.out.mono ?_; rintro e w1 ⟨rfl, hb1⟩)
  go_ret
  exact ⟨rfl, hb1⟩

set_option maxRecDepth 100000 in
set_option maxHeartbeats 2000000 in
/-- A filling is complete: is it solid? -/
theorem lay_whole87 (s : Sh) (Z : LP) (q : List Cd → Bool) (hs : s.Ok) (hq : Wanted s Z 87 #[.pointer (some ⟨Z.gz, 0, none⟩)] q) (cov : Nat) (pre : List Cd) (w : World) (D : DataW Unit) (v : Value) (hwh : cov = whl s) (hp : ∀ x ∈ pre, fitP s x) (hlen : pre.length ≤ 36)
    (hI : LayI s Z (.func (.func 87) #[] #[.pointer (some ⟨Z.gz, 0, none⟩)]) w D v pre) :
    Calls Tryd.prog 128 #[.int .u64 cov, .pointer (some ⟨Z.gs, 0, none⟩), .pointer (some ⟨Z.gw, 0, none⟩), .pointer (some ⟨Z.gl, 0, none⟩), .pointer (some ⟨Z.gc, 0, none⟩), .pointer (some ⟨Z.gy, 0, none⟩)] w
      (RetLay s Z (.func (.func 87) #[] #[.pointer (some ⟨Z.gz, 0, none⟩)]) w v pre ((filC s cov pre).find? q)) := by
  have hW := Lib.hid (fun W => whole_any s W hs)
  have hw36 := whl_lt36 hs
  have e0 := hI.s0
  have e1 := hI.s1
  have e2 := hI.s2
  have e3 := hI.s3
  have hb : ((cov : Int) == (whl s : Int)) = true := by rw [beq_iff_eq, hwh]
  have hv : (filC s cov pre).find? q = if q pre then some pre else none := by
    rw [filC_eq hs, if_pos hwh, List.find?_cons]
    rcases q pre <;> rfl
  obtain ⟨A, c, rfl, hA, _⟩ := own_cards hI.lo
  have hc36 : cov < 68719476736 := by rw [hwh]; exact hw36
  generalize hR : (filC s cov pre).find? q = R at hv ⊢
  have HV := Lib.hid hv
  clear hv hwh hR
  have HQ := Lib.hid (fun W (h : Below w.heap.size w W) => hq W A c pre ((h.cell (lt_of_cell hI.z0)).trans hI.z0) ((h.cell (lt_of_cell hI.z1)).trans hI.z1) ((h.cell (lt_of_cell hI.z2)).trans hI.z2) ((h.cell (lt_of_cell hI.z3)).trans hI.z3) (hA.up h) hp hlen)
  have e4 := hI.lv
  have e5 := hI.fn
  have hz4 := lt_of_cell e4
  have hz5 := lt_of_cell e5
  generalize whl s = z at hW hb hw36
  go_enter Tryd.func128, Tryd.ntmps128
  go_wp2_with (first
    | (go_at_call 83; refine (hW.out _).mono ?_; rintro e w1 ⟨rfl, hb1⟩; obtain ⟨q1, q2, q3⟩ := bcell hb1)
    | (go_at_call 87; refine (HQ.out _ hb1).mono ?_; rintro e w2 ⟨rfl, hb2⟩))
  go_ret
  refine ⟨?_, .slice A pre.length c, D, ?_, .inl rfl, Chg.of_below (below_then hb1 hb2)⟩
  · rw [HV.out]; rcases q pre <;> rfl
  · have := hI.below (below_then hb1 hb2)
    rw [HV.out]
    rcases q pre <;> exact this
theorem lay_any87 (s : Sh) (Z : LP) (q : List Cd → Bool) (hs : s.Ok) (hq : Wanted s Z 87 #[.pointer (some ⟨Z.gz, 0, none⟩)] q) : ∀ n, LaySpec s Z (.func (.func 87) #[] #[.pointer (some ⟨Z.gz, 0, none⟩)]) q n
  | 0 => fun _ _ _ _ _ hl => absurd hl (Nat.not_lt_zero _)
  | n + 1 => fun cov pre w D v hl hc hp hlen hI => by
    by_cases hwh : cov = whl s
    · exact lay_whole87 s Z q hs hq cov pre w D v hwh hp (by omega) hI
    · exact lay_more s Z _ q n hs (lay_any87 s Z q hs hq n) cov pre w D v hwh hl hc hp hlen hI

/-- The first solid filling of a sheet. -/
def solS (r c l v : Int) : Option (List Cd) := if chkS r c l v = 0 then (allF ⟨r.toNat, c.toNat, l.toNat, v.toNat⟩).find? (solidP ⟨r.toNat, c.toNat, l.toNat, v.toNat⟩) else none

set_option maxRecDepth 100000 in
set_option maxHeartbeats 2000000 in
theorem solidF_any (r c l v : Int) (w : World) (ht : TabW w) :
    Calls Tryd.prog 37 #[.agg #[.int .i64 r, .int .i64 c, .int .i64 l, .int .i64 v]] w (RetFirst (solS r c l v) (errS r c l v (solS r c l v)) w) := by
  have hmf : ∀ (fn : Fn) (first cap : Array Value) (w : World), (Instr.makeFunc fn first cap).run Tryd.prog w = .ok (.func fn first cap) w := fun _ _ _ _ => rfl
  by_cases h0 : chkS r c l v = 0
  · obtain ⟨s, hs, rfl, rfl, rfl, rfl⟩ := ok_of_chk h0
    have e1 : solS s.r s.c s.l s.w = (allF s).find? (solidP s) := by unfold solS; rw [if_pos h0]; rfl
    have e2 : ∀ f, errS s.r s.c s.l s.w f = if f.isSome then 0 else 12 := fun f => by unfold errS; rw [if_pos h0]
    rw [e2, e1]
    have HF := Lib.hid (fun W h z0 z1 z2 z3 => firstOf_any s 87 #[.pointer (some ⟨w.heap.size, 0, none⟩)] w.heap.size (solidP s) W hs h (fun Z hZ => hZ ▸ lay_any87 s Z _ hs (wanted87 s Z hs) 37) z0 z1 z2 z3)
    have hb := below_new w (.cells #[.int .i64 s.r, .int .i64 s.c, .int .i64 s.l, .int .i64 s.w] 23)
    generalize ((allF s).find? (solidP s)) = R at HF ⊢
    generalize (if R.isSome = true then (0 : Int) else 12) = z at HF ⊢
    go_enter Tryd.func37, Tryd.ntmps37
    go_wp2_with (go_at_call 65; refine (HF.out _ (ht.below hb) (by simp [go_sem]) (by simp [go_sem]) (by simp [go_sem]) (by simp [go_sem])).mono ?_; rintro e w1 ⟨A, c, rfl, hA, hb1⟩)
    go_ret2
    exact ⟨A, c, rfl, hA, below_via hb1⟩
  · have e1 : solS r c l v = none := by unfold solS; rw [if_neg h0]
    have e2 : ∀ f, errS r c l v f = 1 := fun f => by unfold errS; rw [if_neg h0]
    rw [e2, e1]
    have HF := Lib.hid (fun f W => firstOf_bad r c l v f W h0)
    clear h0 e1 e2
    go_enter Tryd.func37, Tryd.ntmps37
    go_wp2_with (go_at_call 65; refine (HF.out _ _).mono ?_; rintro e w1 ⟨A, c, rfl, hA, hb1⟩)
    go_ret2
    exact ⟨A, c, rfl, hA, below_via hb1⟩
end Go.Proofs.YtlollcabnfncpaaDoor
