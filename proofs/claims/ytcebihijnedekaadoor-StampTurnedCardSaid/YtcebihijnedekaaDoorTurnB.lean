/-
  The walk of the statement on turned books: it answers true.
-/
import Derived.Test.YtcebihijnedekaaDoorTurnA
import Derived.Test.YtcebihijnedekaaDoorWalkR
import Derived.ChangeKeysEq
namespace Go.Proofs.YtcebihijnedekaaDoor
open Go.RowKit

theorem add_mod_form {n s i : Nat} (hi : i < n) : (i + s) % n = if i + s % n < n then i + s % n else i + s % n - n := by
  rw [Nat.add_mod, Nat.mod_eq_of_lt hi]
  have : s % n < n := Nat.mod_lt _ (by omega)
  split
  · rename_i h; exact Nat.mod_eq_of_lt h
  · rename_i h
    rw [Nat.mod_eq_sub_mod (by omega)]
    exact Nat.mod_eq_of_lt (by omega)

/-- One more way is turned. -/
theorem turned_step {R1 a : Int} {back : Bool} {ws us : List Wy} {k s : Nat} {x : Wy} (hl : us.length = ws.length) (hk : k < ws.length) (hx : ws[k]? = some x)
    (h : ∀ (i : Nat) (y : Wy), i < k → ws[i]? = some y → us[(i + s) % ws.length]? = some (turn R1 a back y)) :
    ∀ (i : Nat) (y : Wy), i < k + 1 → ws[i]? = some y → (us.set ((k + s) % ws.length) (turn R1 a back x))[(i + s) % ws.length]? = some (turn R1 a back y) := by
  intro i y hi hy
  have hkm : (k + s) % ws.length < us.length := by rw [hl]; exact Nat.mod_lt _ (by omega)
  rw [getElem?_mem_set hkm]
  rcases Nat.lt_or_ge i k with hik | hik
  · have hne : ¬ (i + s) % ws.length = (k + s) % ws.length := by
      rw [add_mod_form (by omega : i < ws.length), add_mod_form hk]
      have : s % ws.length < ws.length := Nat.mod_lt _ (by omega)
      split <;> split <;> omega
    rw [if_neg (by omega)]
    exact h i y hik hy
  · obtain rfl : i = k := by omega
    rw [hx] at hy
    cases hy
    rw [if_pos rfl]

/-- Two spans that are the same. -/
theorem neq72 (a b : Int) (w : World) : (binOp .neq 72 (.agg #[.int .i64 a, .int .i64 b]) (.agg #[.int .i64 a, .int .i64 b])).run Tryd.prog w = .ok (.bool false) w := by
  obtain ⟨i0, hi, hz0, hz1, hz2⟩ := info_parts info3
  have h := run_equalIn_array (P := Tryd.prog) (w := w) 9999 (i := i0) #[.int .i64 a, .int .i64 b] #[.int .i64 a, .int .i64 b] Tryd.underlying72 hi
  have hr : List.range 2 = [0, 1] := rfl
  rw [cells3, hr] at h
  simp [Op.eqItems, go_sem, Tryd.underlying3] at h
  simp only [binOp]
  simp [Op.equal, Op.maxDepth, h]

theorem stT_none {r : Int} {ws : List Wy} {k : Nat} {x : Wy} (hx : ws[k]? = some x) (hd : ¬ x.dst = r) (hs : ¬ x.src = r) : stT r ws (k + 1) = ((stT r ws k).1, (stT r ws k).2.1, (stT r ws k).2.2) := by
  rw [stT, hx]; dsimp only; simp only [hd, hs, if_false]
theorem stT_into {r : Int} {ws : List Wy} {k : Nat} {x : Wy} (hx : ws[k]? = some x) (hd : x.dst = r) (hs : ¬ x.src = r) : stT r ws (k + 1) = ((k : Int), (stT r ws k).2.1, (stT r ws k).2.2 && decide ((stT r ws k).1 < 0)) := by
  rw [stT, hx]; dsimp only; simp only [hd, hs, if_false, if_true]
theorem stT_out {r : Int} {ws : List Wy} {k : Nat} {x : Wy} (hx : ws[k]? = some x) (hd : ¬ x.dst = r) (hs : x.src = r) : stT r ws (k + 1) = ((stT r ws k).1, (k : Int), (stT r ws k).2.2 && decide ((stT r ws k).2.1 < 0)) := by
  rw [stT, hx]; dsimp only; simp only [hd, hs, if_false, if_true]

/-- Two cells of a block. -/
def C2T (h0 : Nat) (x y : Value) (w : World) : Prop := w.cell? ⟨h0, 0, none⟩ = some x ∧ w.cell? ⟨h0, 1, none⟩ = some y
theorem C2T.up {h0 : Nat} {x y : Value} {W W' : World} (h : C2T h0 x y W) {B : Nat} (hb : Below B W W') (hl : h0 < B) : C2T h0 x y W' := ⟨(hb.cell (p := ⟨h0, 0, none⟩) hl).trans h.1, (hb.cell (p := ⟨h0, 1, none⟩) hl).trans h.2⟩

/-- The world behind a round: one more way lies in the new books. -/
theorem turned_world {W0 wr : World} {g g7 j n : Nat} {us : List Wy} {R : Value} (y : Wy) (O : Obj) (hn : us.length = n) (hj : j < n) (m3 : W0.heap.size ≤ g) (m5 : ¬ g7 = g) (p2 : g7 < wr.heap.size) (p4 : g < wr.heap.size)
    (p6 : wr.cell? ⟨g7, 0, none⟩ = some R) (p7 : wr.cell? ⟨g7, 1, none⟩ = some (.slice (some ⟨g, 0, none⟩) n n)) (p8 : wr.ownsRow W0.heap.size 74 4 (.slice (some ⟨g, 0, none⟩) n n) n (wcells us)) (p9 : Below W0.heap.size W0 wr) :
    g7 < (((((wr.setCell ⟨g, j * 4, none⟩ (.int .i64 y.src)).setCell ⟨g, j * 4 + 1, none⟩ (.int .i64 y.dst)).setCell ⟨g, j * 4 + 2, none⟩ (.int .i64 y.lo)).setCell ⟨g, j * 4 + 3, none⟩ (.int .i64 y.hi)).alloc O).drew.drew.heap.size ∧
    g < (((((wr.setCell ⟨g, j * 4, none⟩ (.int .i64 y.src)).setCell ⟨g, j * 4 + 1, none⟩ (.int .i64 y.dst)).setCell ⟨g, j * 4 + 2, none⟩ (.int .i64 y.lo)).setCell ⟨g, j * 4 + 3, none⟩ (.int .i64 y.hi)).alloc O).drew.drew.heap.size ∧
    (((((wr.setCell ⟨g, j * 4, none⟩ (.int .i64 y.src)).setCell ⟨g, j * 4 + 1, none⟩ (.int .i64 y.dst)).setCell ⟨g, j * 4 + 2, none⟩ (.int .i64 y.lo)).setCell ⟨g, j * 4 + 3, none⟩ (.int .i64 y.hi)).alloc O).drew.drew.cell? ⟨g7, 0, none⟩ = some R ∧
    (((((wr.setCell ⟨g, j * 4, none⟩ (.int .i64 y.src)).setCell ⟨g, j * 4 + 1, none⟩ (.int .i64 y.dst)).setCell ⟨g, j * 4 + 2, none⟩ (.int .i64 y.lo)).setCell ⟨g, j * 4 + 3, none⟩ (.int .i64 y.hi)).alloc O).drew.drew.cell? ⟨g7, 1, none⟩ = some (.slice (some ⟨g, 0, none⟩) n n) ∧
    (((((wr.setCell ⟨g, j * 4, none⟩ (.int .i64 y.src)).setCell ⟨g, j * 4 + 1, none⟩ (.int .i64 y.dst)).setCell ⟨g, j * 4 + 2, none⟩ (.int .i64 y.lo)).setCell ⟨g, j * 4 + 3, none⟩ (.int .i64 y.hi)).alloc O).drew.drew.ownsRow W0.heap.size 74 4 (.slice (some ⟨g, 0, none⟩) n n) n (wcells (us.set j y)) ∧
    Below W0.heap.size W0 (((((wr.setCell ⟨g, j * 4, none⟩ (.int .i64 y.src)).setCell ⟨g, j * 4 + 1, none⟩ (.int .i64 y.dst)).setCell ⟨g, j * 4 + 2, none⟩ (.int .i64 y.lo)).setCell ⟨g, j * 4 + 3, none⟩ (.int .i64 y.hi)).alloc O).drew.drew := by
  have hb := (((p9.setCell (p := ⟨g, j * 4, none⟩) m3 (.int .i64 y.src)).setCell (p := ⟨g, j * 4 + 1, none⟩) m3 (.int .i64 y.dst)).setCell (p := ⟨g, j * 4 + 2, none⟩) m3 (.int .i64 y.lo)).setCell (p := ⟨g, j * 4 + 3, none⟩) m3 (.int .i64 y.hi)
  refine ⟨by simp; omega, by simp; omega, ?_, ?_, ?_, ((hb.alloc hb.size O).drew).drew⟩
  · rw [World.cell?_drew, World.cell?_drew]
    refine ((bnew _ O).cell (p := ⟨g7, 0, none⟩) (by simpa using p2)).trans ?_
    simp [go_sem, p6]
  · rw [World.cell?_drew, World.cell?_drew]
    refine ((bnew _ O).cell (p := ⟨g7, 1, none⟩) (by simpa using p2)).trans ?_
    simp [go_sem, p7]
  · rw [wcells_put us j y (by omega)]
    exact (((((((p8.stored (j * 4) (.int .i64 y.src)).1).stored (j * 4 + 1) (.int .i64 y.dst)).1).stored (j * 4 + 2) (.int .i64 y.lo)).1).stored (j * 4 + 3) (.int .i64 y.hi)).1.alloc O

set_option maxRecDepth 100000 in
set_option maxHeartbeats 8000000 in
theorem lawTurned_any (w : World) (q a s : Int) (back : Bool) (A : Option Addr) (c : Nat) (hs : List H4) (hq : 0 ≤ q ∧ q ≤ 255) (ha : 0 ≤ a ∧ a ≤ 255) (hsv : 0 ≤ s ∧ s ≤ 255) (hok : ∀ h ∈ hs, okH h) (hw : HouseAt w w.heap.size A hs) (ht : SizesAt w) :
    Calls Tryd.prog 13 #[.agg #[.int .u8 q, .slice A hs.length c], .int .u8 a, .int .u8 s, .bool back] w fun e w' => e = .returned (.bool true) ∧ Below w.heap.size w w' := by
  have hbx : Below w.heap.size w ((w.alloc (.cells #[.int .u8 q, .slice A hs.length c] 63)).alloc (.cells #[.int .u8 a] 5)) := ((Below.refl w.heap.size w).alloc (Nat.le_refl _) _).alloc (by simp) _
  have hw0 := (hw.below hbx (Nat.le_refl _)).mono (B' := ((w.alloc (.cells #[.int .u8 q, .slice A hs.length c] 63)).alloc (.cells #[.int .u8 a] 5)).heap.size) (by simp <;> omega)
  have ht0 := ht.below hbx
  have HM := Lib.hid (fun W hW => madeE_any q hq A c 12 hs W (by decide) (by decide) hok hW)
  obtain ⟨rooms, hR, hr2, hr4, hch, hv, hsd, hwd⟩ := chk_made (r := q) (hs := hs) (most := 12) hok (by decide)
  rw [hR] at HM
  have hl12 := madeS_len q hs 12
  generalize madeS q hs 12 = ws at HM hch hv hsd hwd hl12
  obtain ⟨R1, hR1⟩ : ∃ R1 : Nat, R1 = rooms + 1 := ⟨_, rfl⟩
  have HTF := Lib.hid (fun (us : List Wy) (hl : us.length = ws.length) h => turnF_holds (rooms := rooms) (us := us) (a := a) (s := s.toNat) (back := back) hR1 (by omega) hch hv hsd hl h)
  have HWAY := Lib.hid (fun (k : Nat) (x : Wy) (hx : ws[k]? = some x) => hv.way x (mem_of_get hx))
  have HSD := Lib.hid (fun (k : Nat) (x : Wy) (hx : ws[k]? = some x) => hsd x (mem_of_get hx))
  have hwpR : IntKind.i64.wrap ((rooms : Int) + 1) = (R1 : Int) := by rw [IntWalk.i64_in _ (by omega)]; omega
  have hR3 : 3 ≤ (R1 : Int) ∧ (R1 : Int) ≤ 7 := by omega
  have hr0 : (0 : Int) ≤ (rooms : Int) := by omega
  have hr6 : (rooms : Int) ≤ 6 := by omega
  have HR1 := Lib.hid hR1
  clear hok hR hw hR1 hch hv hsd hwd
  go_enter Tryd.func13, Tryd.ntmps13
  go_wp2_with (first
    | (go_at_call 44; refine (HM.out _ hw0).mono ?_; rintro e w1 ⟨A1, c1, rfl, hz1, hA1, hb1⟩; have hs1 := hb1.size; simp only [World.size_alloc] at hs1; have ht2 := (ht0.below hb1).below (bnew w1 (.cells #[.int .i64 rooms, .slice A1 ws.length c1] 24)); have hA1' := waysUp hA1 (bnew w1 (.cells #[.int .i64 rooms, .slice A1 ws.length c1] 24))))
  obtain ⟨W0, hW0⟩ : ∃ W0, W0 = w1.alloc (.cells #[.int .i64 rooms, .slice A1 ws.length c1] 24) := ⟨_, rfl⟩
  have hb1x : Below (w.heap.size + 2) ((w.alloc (.cells #[.int .u8 q, .slice A hs.length c] 63)).alloc (.cells #[.int .u8 a] 5)) W0 := by rw [hW0]; exact (hb1.mono (by simp)).trans ((bnew w1 _).mono (by omega))
  have x5 : W0.cell? ⟨w.heap.size + 1, 0, none⟩ = some (.int .u8 a) := (hb1x.cell (p := ⟨w.heap.size + 1, 0, none⟩) (by simp)).trans (by simp [go_sem])
  have f0 : W0.cell? ⟨w1.heap.size, 0, none⟩ = some (.int .i64 rooms) := by rw [hW0]; simp [go_sem]
  have f1 : W0.cell? ⟨w1.heap.size, 1, none⟩ = some (.slice A1 ws.length c1) := by rw [hW0]; simp [go_sem]
  have hb00 : Below w.heap.size w W0 := by rw [hW0]; exact hbx.trans ((hb1.mono (by simp <;> omega)).trans ((bnew w1 _).mono (by omega)))
  have hg9 : w1.heap.size < W0.heap.size := by rw [hW0]; simp
  have hg5 : w.heap.size + 1 < W0.heap.size := by omega
  have hsW : w.heap.size ≤ W0.heap.size := by omega
  rw [← hW0] at ht2 hA1'
  rw [← hW0]
  clear hW0 hb1x hb1 hA1 hbx hw0 ht0 hs1 HM
  obtain ⟨g9, hg⟩ : ∃ g9, g9 = w1.heap.size := ⟨_, rfl⟩
  rw [← hg] at hg9 f0 f1
  rw [← hg]
  clear hg
  obtain ⟨g5, hg⟩ : ∃ g5, g5 = w.heap.size + 1 := ⟨_, rfl⟩
  rw [← hg] at hg5 x5
  rw [← hg]
  clear hg
  go_upto_region 3 with fail
  go_cut [11] (fun s7 wx => ∃ g7 g : Nat, s7 = .pointer (some ⟨g7, 0, none⟩) ∧ W0.heap.size ≤ g7 ∧ g7 < wx.heap.size ∧ W0.heap.size ≤ g ∧ g < wx.heap.size ∧ ¬ g7 = g ∧ wx.cell? ⟨g7, 0, none⟩ = some (.int .i64 R1) ∧ wx.cell? ⟨g7, 1, none⟩ = some (.slice (some ⟨g, 0, none⟩) ws.length ws.length) ∧
    wx.ownsRow W0.heap.size 74 4 (.slice (some ⟨g, 0, none⟩) ws.length ws.length) ws.length (wcells (List.replicate ws.length ⟨0, 0, 0, 0⟩)) ∧ Below W0.heap.size W0 wx)
  case first =>
    have hS00 : C2T g9 (.int .i64 rooms) (.slice A1 ws.length c1) W0 := ⟨f0, f1⟩
    have hS0 : C2T g9 (.int .i64 rooms) (.slice A1 ws.length c1) W0.drew := ⟨f0, f1⟩
    refine wp_region_held (S := C2T g9 (.int .i64 rooms) (.slice A1 ws.length c1)) (by kernel_rfl) ?_
    try (change wpAnyH _ _ _ _ _ _ _ _ (World.drew _))
    refine wpAnyH_take (i := 0) (v := ?_) rfl (by kernel_rfl) (by kernel_rfl) (by kernel_rfl) (fun _ _ _ h => h) (Or.inl ⟨by rfl, ?_⟩) (by assumption) ?_
    rotate_left
    · intro w hSw; obtain ⟨s0, s1⟩ := hSw; go_simp; try with_reducible rfl
    try simp only [Act.put, List.getElem_toArray, List.getElem_cons_zero, List.setIfInBounds_toArray, List.set_cons_zero, List.set_cons_succ]
    refine wpAnyH_take (i := 1) (v := ?_) rfl (by kernel_rfl) (by kernel_rfl) (by kernel_rfl) (fun _ _ _ h => h) (Or.inl ⟨by rfl, ?_⟩) (by assumption) ?_
    rotate_left
    · intro w hSw; obtain ⟨s0, s1⟩ := hSw; go_simp; try with_reducible rfl
    try simp only [Act.put, List.getElem_toArray, List.getElem_cons_zero, List.getElem_cons_succ, List.setIfInBounds_toArray, List.set_cons_zero, List.set_cons_succ]
    refine wpAnyH_take (i := 2) (v := ?_) rfl (by kernel_rfl) (by kernel_rfl) (by kernel_rfl) (fun _ _ _ h => h) (Or.inl ⟨by rfl, ?_⟩) (by assumption) ?_
    rotate_left
    · intro w hSw; obtain ⟨s0, s1⟩ := hSw; go_simp; try with_reducible rfl
    try simp only [Act.put, List.getElem_toArray, List.getElem_cons_zero, List.getElem_cons_succ, List.setIfInBounds_toArray, List.set_cons_zero, List.set_cons_succ]
    refine wpAnyH_take (i := 3) (v := ?_) rfl (by kernel_rfl) (by kernel_rfl) (by kernel_rfl) (fun _ _ _ h => h) (Or.inl ⟨by rfl, ?_⟩) (by assumption) ?_
    rotate_left
    · intro w hSw; obtain ⟨s0, s1⟩ := hSw; go_simp; try with_reducible rfl
    try simp only [Act.put, List.getElem_toArray, List.getElem_cons_zero, List.getElem_cons_succ, List.setIfInBounds_toArray, List.set_cons_zero, List.set_cons_succ]
    refine wpAnyH_ready (rs := [4, 6]) (by kernel_rfl) (by simp) ?_
    refine AllReadyH.cons rfl (fun K hK => ?_) (AllReadyH.cons rfl (fun K hK => ?_) AllReadyH.nil)
    · refine step_make rfl _ _ rfl W0.heap.size ws.length rfl rfl (by omega) (Nat.le_refl _) ?_
      intro w4 hown4 hgrow4
      have hb4 : Below W0.heap.size W0 w4 := ((Below.refl _ _).drew).grown hgrow4 (Nat.le_refl _) (fun g hg => by cases hg)
      have hgl4 := hown4.lt _ rfl
      refine hK.out _ _ (hS00.up hb4 (by omega)) (fun _ => ?_)
      clear hK K
      try simp only [Act.put, List.getElem_toArray, List.getElem_cons_zero, List.getElem_cons_succ, List.setIfInBounds_toArray, List.set_cons_zero, List.set_cons_succ]
      refine wpAnyH_take (i := 5) (v := ?_) rfl (by kernel_rfl) (by kernel_rfl) (by kernel_rfl) (fun _ _ _ h => h) (Or.inl ⟨by rfl, ?_⟩) (by assumption) ?_
      rotate_left
      · intro w hSw; obtain ⟨s0, s1⟩ := hSw; go_simp; try with_reducible rfl
      try simp only [Act.put, List.getElem_toArray, List.getElem_cons_zero, List.getElem_cons_succ, List.setIfInBounds_toArray, List.set_cons_zero, List.set_cons_succ]
      refine wpAnyH_ready (rs := [6]) (by kernel_rfl) (by simp) ?_
      refine AllReadyH.cons rfl (fun K hK => ?_) AllReadyH.nil
      go_simp
      refine hK.out _ _ ((hS00.up hb4 (by omega)).up ((Below.refl w4.heap.size w4).alloc (Nat.le_refl _) _) (by have := hb4.size; omega)) (fun _ => ?_)
      clear hK K
      try simp only [Act.put, List.getElem_toArray, List.getElem_cons_zero, List.getElem_cons_succ, List.setIfInBounds_toArray, List.set_cons_zero, List.set_cons_succ]
      refine wpAnyH_ready (rs := [7]) (by kernel_rfl) (by simp) ?_
      refine AllReadyH.cons rfl (fun K hK => ?_) AllReadyH.nil
      go_simp
      refine hK.out _ _ ((hS00.up hb4 (by omega)).up ((Below.refl w4.heap.size w4).alloc (Nat.le_refl _) _) (by have := hb4.size; omega)) (fun _ => ?_)
      clear hK K
      try simp only [Act.put, List.getElem_toArray, List.getElem_cons_zero, List.getElem_cons_succ, List.setIfInBounds_toArray, List.set_cons_zero, List.set_cons_succ]
      refine wpAnyH_done (by kernel_rfl) ?_ _
      have hs4 := hb4.size
      go_wp2_with fail
      go_meet
      exact ⟨w4.heap.size, W0.heap.size, rfl, hs4, by simp, hgl4.1, by simp; exact Nat.lt_succ_of_lt hgl4.2, by have := hgl4.2; omega, by simp [go_sem], by simp [go_sem], hown4.alloc _, hb4.alloc hs4 _⟩
    · go_simp
      have hb1 : Below W0.heap.size W0 ((W0.alloc (.cells #[.int .i64 0, .slice none 0 0] 24)).drew) := ((Below.refl _ _).alloc (Nat.le_refl _) _).drew
      refine hK.out _ _ (hS00.up hb1 (by omega)) (fun _ => ?_)
      clear hK K
      try simp only [Act.put, List.getElem_toArray, List.getElem_cons_zero, List.getElem_cons_succ, List.setIfInBounds_toArray, List.set_cons_zero, List.set_cons_succ]
      refine wpAnyH_ready (rs := [4]) (by kernel_rfl) (by simp) ?_
      refine AllReadyH.cons rfl (fun K hK => ?_) AllReadyH.nil
      refine step_make rfl _ _ rfl W0.heap.size ws.length rfl rfl (by omega) hb1.size ?_
      intro w4 hown4 hgrow4
      have hb4 : Below W0.heap.size W0 w4 := hb1.grown hgrow4 hb1.size (fun g hg => by cases hg)
      have hs1 : ((W0.alloc (.cells #[.int .i64 0, .slice none 0 0] 24)).drew).heap.size = W0.heap.size + 1 := by simp
      rw [hs1] at hown4
      have hgl4 := hown4.lt _ rfl
      have hs4 : W0.heap.size + 1 ≤ w4.heap.size := by have := hgrow4.size; simpa using this
      have y0 : w4.cell? ⟨W0.heap.size, 0, none⟩ = some (.int .i64 0) := (World.cell?_of_block (a := ⟨W0.heap.size, 0, none⟩) (hgrow4.block (W0.heap.size) (by simp <;> omega) (by simp <;> omega))).trans (by simp [go_sem])
      have y1 : w4.cell? ⟨W0.heap.size, 1, none⟩ = some (.slice none 0 0) := (World.cell?_of_block (a := ⟨W0.heap.size, 1, none⟩) (hgrow4.block (W0.heap.size) (by simp <;> omega) (by simp <;> omega))).trans (by simp [go_sem])
      have y2 : w4.frozen? ⟨W0.heap.size, 0, none⟩ = false := (World.frozen?_of_block (a := ⟨W0.heap.size, 0, none⟩) (hgrow4.block (W0.heap.size) (by simp <;> omega) (by simp <;> omega))).trans (by simp [go_sem])
      have y3 : w4.frozen? ⟨W0.heap.size, 1, none⟩ = false := (World.frozen?_of_block (a := ⟨W0.heap.size, 1, none⟩) (hgrow4.block (W0.heap.size) (by simp <;> omega) (by simp <;> omega))).trans (by simp [go_sem])
      rw [hs1]
      clear hs1
      refine hK.out _ _ (hS00.up hb4 (by omega)) (fun _ => ?_)
      clear hK K
      try simp only [Act.put, List.getElem_toArray, List.getElem_cons_zero, List.getElem_cons_succ, List.setIfInBounds_toArray, List.set_cons_zero, List.set_cons_succ]
      refine wpAnyH_take (i := 5) (v := ?_) rfl (by kernel_rfl) (by kernel_rfl) (by kernel_rfl) (fun _ _ _ h => h) (Or.inl ⟨by rfl, ?_⟩) (by assumption) ?_
      rotate_left
      · intro w hSw; obtain ⟨s0, s1⟩ := hSw; go_simp; try with_reducible rfl
      try simp only [Act.put, List.getElem_toArray, List.getElem_cons_zero, List.getElem_cons_succ, List.setIfInBounds_toArray, List.set_cons_zero, List.set_cons_succ]
      refine wpAnyH_ready (rs := [7]) (by kernel_rfl) (by simp) ?_
      refine AllReadyH.cons rfl (fun K hK => ?_) AllReadyH.nil
      go_simp
      refine hK.out _ _ (hS00.up ((hb4.setCell (p := ⟨W0.heap.size, 0, none⟩) (Nat.le_refl _) _).setCell (p := ⟨W0.heap.size, 1, none⟩) (Nat.le_refl _) _) (by omega)) (fun _ => ?_)
      clear hK K
      try simp only [Act.put, List.getElem_toArray, List.getElem_cons_zero, List.getElem_cons_succ, List.setIfInBounds_toArray, List.set_cons_zero, List.set_cons_succ]
      refine wpAnyH_done (by kernel_rfl) ?_ _
      go_wp2_with fail
      go_meet
      exact ⟨W0.heap.size, W0.heap.size + 1, rfl, Nat.le_refl _, by simp; omega, by omega, by simp; exact hgl4.2, by omega, by simp [go_sem, y0], by simp [go_sem, y1], ownsRow_setCell_other (ownsRow_setCell_other hown4 (by simp [Value.ownBlock]) _) (by simp [Value.ownBlock]) _, (hb4.setCell (p := ⟨W0.heap.size, 0, none⟩) (Nat.le_refl _) _).setCell (p := ⟨W0.heap.size, 1, none⟩) (Nat.le_refl _) _⟩
  case rest =>
    obtain ⟨g7, g, rfl, m1, m2, m3, m4, m5, m6, m7, m8, m9⟩ := hcut
    have d0 := (m9.cell (p := ⟨g9, 0, none⟩) hg9).trans f0
    have d1 := (m9.cell (p := ⟨g9, 1, none⟩) hg9).trans f1
    have H49 := Lib.hid (fun (v : Int) W h5 h11 hv => to49 v a R1 g5 g7 W h5 h11 hv ha hR3)
    go_wp2_with fail
    go_loopw [41] (fun i wr => ∃ (k : Nat) (us : List Wy), k ≤ ws.length ∧ i = .int .i64 (k : Nat) ∧ us.length = ws.length ∧ Hid (∀ (i : Nat) (y : Wy), i < k → ws[i]? = some y → us[(i + s.toNat) % ws.length]? = some (turn (R1 : Int) a back y)) ∧ g7 < wr.heap.size ∧ g < wr.heap.size ∧ wr.cell? ⟨g7, 0, none⟩ = some (.int .i64 R1) ∧ wr.cell? ⟨g7, 1, none⟩ = some (.slice (some ⟨g, 0, none⟩) ws.length ws.length) ∧ wr.ownsRow W0.heap.size 74 4 (.slice (some ⟨g, 0, none⟩) ws.length ws.length) ws.length (wcells us) ∧ Below W0.heap.size W0 wr) (fun i _ => ws.length - (intOf i).toNat)
    case atStart => exact ⟨0, List.replicate ws.length ⟨0, 0, 0, 0⟩, Nat.zero_le _, rfl, by simp, Lib.hid (fun i y h => by omega), m2, m4, m6, m7, m8, m9⟩
    case round =>
      obtain ⟨k, us, hk, rfl, hul, HT, p2, p4, p6, p7, p8, p9⟩ := hrel
      have HUL := Lib.hid hul
      clear hul m6 m7 m8 d0 d1
      have D0 := (p9.cell (p := ⟨g9, 0, none⟩) hg9).trans f0
      have D1 := (p9.cell (p := ⟨g9, 1, none⟩) hg9).trans f1
      have X5 := (p9.cell (p := ⟨g5, 0, none⟩) hg5).trans x5
      have hsz := p9.size
      by_cases hlt : k < ws.length
      · skip
        have hx : ws[k]? = some (ws[k]'(by omega)) := List.getElem?_eq_getElem (by omega)
        generalize ws[k]'(by omega) = x at hx
        obtain ⟨b1, o1, rfl, hb1, z1, z2, z3, z4⟩ := (hA1'.below p9 (Nat.le_refl _)) k x hx
        have hway := HWAY.out k x hx
        have HX := Lib.hid hx
        have hki : (k : Int) < (ws.length : Int) := by omega
        have hk0 : (0 : Int) ≤ (k : Int) := by omega
        have q5 : (wr.alloc (.cells #[.int .i64 x.src, .int .i64 x.dst, .int .i64 x.lo, .int .i64 x.hi] 74)).cell? ⟨g5, 0, none⟩ = some (.int .u8 a) := ((bnew wr _).cell (p := ⟨g5, 0, none⟩) (show g5 < wr.heap.size by omega)).trans X5
        have q7 : (wr.alloc (.cells #[.int .i64 x.src, .int .i64 x.dst, .int .i64 x.lo, .int .i64 x.hi] 74)).cell? ⟨g7, 0, none⟩ = some (.int .i64 R1) := ((bnew wr _).cell (p := ⟨g7, 0, none⟩) (show g7 < wr.heap.size by omega)).trans p6
        clear hx
        go_upto_region 8 with fail
        go_cut [] (fun wx => wx = (wr.alloc (.cells #[.int .i64 ((x.src + a) % R1), .int .i64 ((x.dst + a) % R1), .int .i64 x.lo, .int .i64 x.hi] 74)).drew)
        case first =>
          go_region_with ((go_at_call 49; refine (H49.out _ _ (by exact q5) (by exact q7) (by omega)).mono ?_; rintro e w2 ⟨rfl, rfl⟩))
          all_goals
            go_wp2_with fail
            go_meet
            exact rfl
        case rest =>
          obtain rfl := hcut
          obtain ⟨j, hj⟩ : ∃ j : Nat, j = (k + s.toNat) % ws.length := ⟨_, rfl⟩
          have hjl : j < ws.length := by rw [hj]; exact Nat.mod_lt _ (by omega)
          have r1 : IntKind.i64.wrap s = s := IntWalk.i64_in _ (by omega)
          have r2 : IntKind.i64.wrap ((k : Int) + s) = (k : Int) + s := IntWalk.i64_in _ (by omega)
          have r3 : ((k : Int) + s).tmod (ws.length : Int) = (j : Int) := by
            have e : ((k : Int) + s).toNat = k + s.toNat := by omega
            rw [rem_len (by omega), e, hj]
          have HST := Lib.hid (turned_step (R1 := (R1 : Int)) (a := a) (back := back) HUL.out hlt HX.out HT.out)
          rw [← hj] at HST
          clear hj
          have r4 : (0 : Int) ≤ (j : Int) := by omega
          have r5 : (j : Int) < (ws.length : Int) := by omega
          have r6 : ((ws.length : Int) == 0) = false := by simpa using (by omega : ¬ (ws.length : Int) = 0)
          have r7 : ¬ (ws.length : Int) = 0 := by omega
          have hgw : ¬ g = wr.heap.size := by omega
          have hg7w : ¬ g7 = wr.heap.size := by omega
          obtain ⟨u0, hu0⟩ : ∃ u0, us[j]? = some u0 := ⟨_, List.getElem?_eq_getElem (by have := HUL.out; omega)⟩
          obtain ⟨v1, v2, v3, v4⟩ := wcells_get us j u0 hu0
          have hcl := wcells_len us
          rw [HUL.out] at hcl
          have e1 := (p8.cellAt (j * 4) (by omega)).trans v1
          have e2 := (p8.cellAt (j * 4 + 1) (by omega)).trans v2
          have e3 := (p8.cellAt (j * 4 + 2) (by omega)).trans v3
          have e4 := (p8.cellAt (j * 4 + 3) (by omega)).trans v4
          have e5 := p8.frozenAt (j * 4)
          have e6 := p8.frozenAt (j * 4 + 1)
          have e7 := p8.frozenAt (j * 4 + 2)
          have e8 := p8.frozenAt (j * 4 + 3)
          clear hu0 hcl v1 v2 v3 v4
          cases back
          · go_wp2_with fail
            go_region
            go_wp2_with fail
            go_roundw
            case rel => exact ⟨k + 1, _, hlt, by go_num, by rw [List.length_set]; exact HUL.out, HST, turned_world (turn (R1 : Int) a false x) _ HUL.out hjl m3 m5 p2 p4 p6 p7 p8 p9⟩
            case measure => simp [intOf]; omega
          · go_wp2_with fail
            go_region
            go_wp2_with fail
            go_roundw
            case rel => exact ⟨k + 1, _, hlt, by go_num, by rw [List.length_set]; exact HUL.out, HST, turned_world (turn (R1 : Int) a true x) _ HUL.out hjl m3 m5 p2 p4 p6 p7 p8 p9⟩
            case measure => simp [intOf]; omega
      · have hke : k = ws.length := by omega
        subst hke
        have hus := own_ways p8
        have hHT := HTF.out us HUL.out (fun i x hx => HT.out i x (lt_of_get hx) hx)
        unfold TurnF at hHT
        have ht3 := ht2.below p9
        have hA2 := waysUp hA1' p9
        have hb03 := hb00.trans (p9.mono hsW)
        have hs03 : w.heap.size ≤ wr.heap.size := by omega
        have hg9r : g9 < wr.heap.size := by omega
        clear HT p8 HTF X5 x5 ht2 hA1' H49 m1 m2 m3 m4 m9 hb00 hsW f0 f1 hg5 p9 HUL hg9 hz1 hsz
        rcases hHT with ⟨hL1, hL2⟩ | ⟨sp, sp2, hsl, hse, hst, hO1, hO2⟩
        · skip
          have HL1 := Lib.hid hL1
          have HL2 := Lib.hid hL2
          clear hL1 hL2
          go_wp2_with (first
            | (go_at_call 35; (fail_if_success (have := mk)); refine (HL1.out _ _ _ hA2 ht3).mono ?_; rintro e w2 ⟨A2, c2, rfl, hb2⟩; have mk := True.intro; have hs2 := hb2.size; have ht4 := ht3.below hb2; have hus2 := waysUp hus hb2; have P6 := (hb2.cell (p := ⟨g7, 0, none⟩) p2).trans p6; have P7 := (hb2.cell (p := ⟨g7, 1, none⟩) p2).trans p7)
            | (go_at_call 35; refine (HL2.out _ _ _ hus2 ht4).mono ?_; rintro e w3 ⟨A3, c3, rfl, hb3⟩; have hs3 := hb3.size; have ht5 := ht4.below hb3)
            | (go_at_call 16; refine (works_any _ ht5).mono ?_; rintro e w4 ⟨rfl, hb4⟩))
          go_ret
          exact ⟨rfl, hb03.trans ((hb2.mono hs03).trans ((hb3.mono (by omega)).trans (hb4.mono (by omega))))⟩
        · have HO1 := Lib.hid hO1
          have HO2 := Lib.hid hO2
          have HSE := Lib.hid hse
          have HSQ := Lib.hid hst
          have HSL := Lib.hid hsl
          clear hO1 hO2 hse hst hsl
          go_wp2_with (first
            | (go_at_call 35; (fail_if_success (have := mk)); refine (HO1.out _ _ _ hA2 ht3).mono ?_; rintro e w2 ⟨A2, c2, rfl, hP2, hb2⟩; have mk := True.intro; have hs2 := hb2.size; have ht4 := ht3.below hb2; have hus2 := waysUp hus hb2; have P6 := (hb2.cell (p := ⟨g7, 0, none⟩) p2).trans p6; have P7 := (hb2.cell (p := ⟨g7, 1, none⟩) p2).trans p7; have E0 := (hb2.cell (p := ⟨g9, 0, none⟩) hg9r).trans D0; have E1 := (hb2.cell (p := ⟨g9, 1, none⟩) hg9r).trans D1; have hg92 : g9 < w2.heap.size := (by omega))
            | (go_at_call 35; refine (HO2.out _ _ _ hus2 ht4).mono ?_; rintro e w3 ⟨A3, c3, rfl, hP3, hb3⟩; have hs3 := hb3.size; have ht5 := ht4.below hb3; have F0 := (hb3.cell (p := ⟨g9, 0, none⟩) hg92).trans E0; have F1 := (hb3.cell (p := ⟨g9, 1, none⟩) hg92).trans E1; have hL3 := pairsUpM hP2 hb3; have hA3 := waysUp (waysUp hA2 hb2) hb3))
          have hb04 := hb03.trans ((hb2.mono hs03).trans (hb3.mono (by omega)))
          have hs04 : w.heap.size ≤ w3.heap.size := by omega
          have hg93 : g9 < w3.heap.size := by omega
          clear hb2 hs2 ht4 ht3 hus2 hus P6 P7 E0 E1 hg92 hb3 hs3 hP2 hA2 D0 D1 p2 p4 p6 p7 hb03 hs03 hg9r HO1 HO2 mk
          go_loopw [110] (fun u wx => ∃ j : Nat, j ≤ ws.length ∧ u = .int .i64 (j : Nat) ∧ Below w3.heap.size w3 wx) (fun u _ => ws.length - (intOf u).toNat)
          case atStart => exact ⟨0, Nat.zero_le _, rfl, Below.refl _ _⟩
          case round =>
            obtain ⟨j, hj, rfl, hbw⟩ := hrel
            have hsw := hbw.size
            by_cases hlt : j < ws.length
            · skip
              have hx : sp[j]? = some (sp[j]'(by have := HSL.out; omega)) := List.getElem?_eq_getElem (by have := HSL.out; omega)
              generalize sp[j]'(by have := HSL.out; omega) = r at hx
              have hx2 := HSE.out j r hx
              obtain ⟨m, hm⟩ : ∃ m : Nat, m = (j + s.toNat) % ws.length := ⟨_, rfl⟩
              have hml : m < ws.length := by rw [hm]; exact Nat.mod_lt _ (by omega)
              have r3 : ((j : Int) + s).tmod (ws.length : Int) = (m : Int) := by
                have e : ((j : Int) + s).toNat = j + s.toNat := by omega
                rw [rem_len (by omega), e, hm]
              rw [← hm] at hx2
              clear hm
              obtain ⟨b1, o1, rfl, hb1, h1, h2⟩ := (hL3.below hbw (Nat.le_refl _)) j r hx
              obtain ⟨b2, o2, rfl, hb2, h3, h4⟩ := (hP3.below hbw (Nat.le_refl _)) m r hx2
              have r1 : IntKind.i64.wrap s = s := IntWalk.i64_in _ (by omega)
              have r2 : IntKind.i64.wrap ((j : Int) + s) = (j : Int) + s := IntWalk.i64_in _ (by omega)
              have r4 : (0 : Int) ≤ (m : Int) := by omega
              have r5 : (m : Int) < (ws.length : Int) := by omega
              have r6 : ((ws.length : Int) == 0) = false := by simpa using (by omega : ¬ (ws.length : Int) = 0)
              have r7 : ¬ (ws.length : Int) = 0 := by omega
              have hki : (j : Int) < (ws.length : Int) := by omega
              have hk0 : (0 : Int) ≤ (j : Int) := by omega
              have hnil : ¬ ws = [] := by intro h; rw [h] at hlt; simp at hlt
              have hneq := neq72
              clear hx hx2
              go_wp2_with fail
              go_quiet (fail)
              go_wp2_with fail
              go_roundw
              case rel => exact ⟨j + 1, hlt, by go_num, below_drewN' hbw _⟩
              case measure => simp [intOf]; omega
            · have hje : j = ws.length := by omega
              subst hje
              have ht6 := ht5.below hbw
              have hL4 := pairsUpM hL3 hbw
              have hA4 := waysUp hA3 hbw
              have G0 := (hbw.cell (p := ⟨g9, 0, none⟩) hg93).trans F0
              have G1 := (hbw.cell (p := ⟨g9, 1, none⟩) hg93).trans F1
              have hb05 := hb04.trans (hbw.mono hs04)
              have hs05 : w.heap.size ≤ wr.heap.size := by omega
              have hg94 : g9 < wr.heap.size := by omega
              obtain ⟨wr_0, rfl⟩ : ∃ wr_0, wr_0 = wr := ⟨_, rfl⟩
              clear hb04 hs04 hg93 F0 F1 hA3 hL3 ht5 hP3 HSE hbw
              go_wp2_with fail
              go_loopw [130] (fun u wx => ∃ r : Nat, r ≤ rooms ∧ u = .int .i64 (r : Nat) ∧ Below wr_0.heap.size wr_0 wx) (fun u _ => rooms - (intOf u).toNat)
              case atStart => exact ⟨0, Nat.zero_le _, rfl, Below.refl _ _⟩
              case round =>
                obtain ⟨r, hr, rfl, hbr⟩ := hrel
                have hsr := hbr.size
                have ht7 := ht6.below hbr
                have hb06 := hb05.trans (hbr.mono hs05)
                by_cases hlr : r < rooms
                · have hri : (r : Int) < (rooms : Int) := by omega
                  have hri0 : (0 : Int) ≤ (r : Int) := by omega
                  have I0 := (hbr.cell (p := ⟨g9, 0, none⟩) hg94).trans G0
                  have I1 := (hbr.cell (p := ⟨g9, 1, none⟩) hg94).trans G1
                  have hL5 := pairsUpM hL4 hbr
                  have hA5 := waysUp hA4 hbr
                  have HSR := Lib.hid (HSQ.out (r : Int))
                  go_wp2_with fail
                  obtain ⟨w5, rfl⟩ : ∃ w5, w5 = wr := ⟨_, rfl⟩
                  go_loopw [21, 22, 23, 136] (fun i o sg u wx => ∃ k : Nat, k ≤ ws.length ∧ u = .int .i64 (k : Nat) ∧ i = .int .i64 (stT r ws k).1 ∧ o = .int .i64 (stT r ws k).2.1 ∧ sg = .bool (stT r ws k).2.2 ∧ Below w5.heap.size w5 wx) (fun _ _ _ u _ => ws.length - (intOf u).toNat)
                  case atStart => exact ⟨0, Nat.zero_le _, rfl, rfl, rfl, rfl, Below.refl _ _⟩
                  case round =>
                    obtain ⟨k, hk, rfl, rfl, rfl, rfl, hbk⟩ := hrel
                    have hsk := hbk.size
                    by_cases hlt : k < ws.length
                    · have hx : ws[k]? = some (ws[k]'(by omega)) := List.getElem?_eq_getElem (by omega)
                      generalize ws[k]'(by omega) = x at hx
                      obtain ⟨b1, o1, rfl, hb1, z1, z2, z3, z4⟩ := (hA5.below hbk (Nat.le_refl _)) k x hx
                      have hsd := HSD.out k x hx
                      have hki : (k : Int) < (ws.length : Int) := by omega
                      have hk0 : (0 : Int) ≤ (k : Int) := by omega
                      clear HSR
                      by_cases hd : x.dst = (r : Int)
                      · have hsn : ¬ x.src = (r : Int) := by omega
                        have HE := Lib.hid (stT_into hx hd hsn)
                        have e1 : (x.dst == (r : Int)) = true := by simpa using hd
                        have e2 : (x.src == (r : Int)) = false := by simpa using hsn
                        clear hd hsn hsd hx
                        generalize stT (r : Int) ws k = S at HE ⊢
                        obtain ⟨i0, o0, sg⟩ := S
                        cases sg
                        · go_wp2_with fail
                          go_roundw
                          case rel => exact ⟨k + 1, hlt, by go_num, by rw [HE.out], by rw [HE.out], by rw [HE.out]; rfl, hbk.alloc hsk _⟩
                          case measure => simp [intOf]; omega
                        · by_cases hi : i0 < 0
                          · have hi' : decide (i0 < 0) = true := decide_eq_true hi
                            go_wp2_with fail
                            go_roundw
                            case rel => exact ⟨k + 1, hlt, by go_num, by rw [HE.out], by rw [HE.out], by rw [HE.out]; simp [hi], hbk.alloc hsk _⟩
                            case measure => simp [intOf]; omega
                          · have hi' : decide (i0 < 0) = false := decide_eq_false hi
                            go_wp2_with fail
                            go_roundw
                            case rel => exact ⟨k + 1, hlt, by go_num, by rw [HE.out], by rw [HE.out], by rw [HE.out]; simp [hi], hbk.alloc hsk _⟩
                            case measure => simp [intOf]; omega
                      · by_cases hsn : x.src = (r : Int)
                        · have HE := Lib.hid (stT_out hx hd hsn)
                          have e1 : (x.dst == (r : Int)) = false := by simpa using hd
                          have e2 : (x.src == (r : Int)) = true := by simpa using hsn
                          clear hd hsn hsd hx
                          generalize stT (r : Int) ws k = S at HE ⊢
                          obtain ⟨i0, o0, sg⟩ := S
                          cases sg
                          · go_wp2_with fail
                            go_roundw
                            case rel => exact ⟨k + 1, hlt, by go_num, by rw [HE.out], by rw [HE.out], by rw [HE.out]; rfl, hbk.alloc hsk _⟩
                            case measure => simp [intOf]; omega
                          · by_cases hi : o0 < 0
                            · have hi' : decide (o0 < 0) = true := decide_eq_true hi
                              go_wp2_with fail
                              go_roundw
                              case rel => exact ⟨k + 1, hlt, by go_num, by rw [HE.out], by rw [HE.out], by rw [HE.out]; simp [hi], hbk.alloc hsk _⟩
                              case measure => simp [intOf]; omega
                            · have hi' : decide (o0 < 0) = false := decide_eq_false hi
                              go_wp2_with fail
                              go_roundw
                              case rel => exact ⟨k + 1, hlt, by go_num, by rw [HE.out], by rw [HE.out], by rw [HE.out]; simp [hi], hbk.alloc hsk _⟩
                              case measure => simp [intOf]; omega
                        · have HE := Lib.hid (stT_none hx hd hsn)
                          have e1 : (x.dst == (r : Int)) = false := by simpa using hd
                          have e2 : (x.src == (r : Int)) = false := by simpa using hsn
                          clear hd hsn hsd hx
                          go_wp2_with fail
                          go_roundw
                          case rel => exact ⟨k + 1, hlt, by go_num, by rw [HE.out], by rw [HE.out], by rw [HE.out], hbk.alloc hsk _⟩
                          case measure => simp [intOf]; omega
                    · have hke : k = ws.length := by omega
                      subst hke
                      have hq := HSR.out
                      have hL6 := hL5.below hbk (Nat.le_refl _)
                      clear HSR
                      generalize stT (r : Int) ws ws.length = S at hq ⊢
                      obtain ⟨i0, o0, sg⟩ := S
                      dsimp only at hq
                      have hbe : Below wr_0.heap.size wr_0 wr := hbr.trans (hbk.mono hsr)
                      cases sg
                      · have HQ := Lib.hid hq
                        clear hq
                        go_wp2_with fail
                        go_quiet (fail)
                        go_wp2_with fail
                        go_roundw
                        case rel => exact ⟨r + 1, hlr, by go_num, below_drewN' hbe _⟩
                        case measure => simp [intOf]; omega
                      · by_cases hi : 0 ≤ i0
                        · by_cases ho : 0 ≤ o0
                          · obtain ⟨i, o, p, rfl, rfl, hp1, hp2⟩ := hq rfl hi ho
                            have hil : (i : Int) < (ws.length : Int) := by have := lt_of_get hp1; have := HSL.out; omega
                            have hol : (o : Int) < (ws.length : Int) := by have := lt_of_get hp2; have := HSL.out; omega
                            obtain ⟨b1, o1, rfl, hb1, z1, z2⟩ := hL6 i p hp1
                            obtain ⟨b2, o2, hbo, hb2, z3, z4⟩ := hL6 o p hp2
                            cases hbo
                            have hneq := neq72
                            have di : decide ((i : Int) ≥ 0) = true := decide_eq_true hi
                            have do_ : decide ((o : Int) ≥ 0) = true := decide_eq_true ho
                            clear hp1 hp2
                            go_wp2_with fail
                            go_quiet (fail)
                            go_wp2_with fail
                            go_roundw
                            case rel => exact ⟨r + 1, hlr, by go_num, below_drewN' hbe _⟩
                            case measure => simp [intOf]; omega
                          · have HQ := Lib.hid hq
                            clear hq
                            have di : decide (i0 ≥ 0) = true := decide_eq_true hi
                            have do_ : decide (o0 ≥ 0) = false := decide_eq_false ho
                            go_wp2_with fail
                            go_quiet (fail)
                            go_wp2_with fail
                            go_roundw
                            case rel => exact ⟨r + 1, hlr, by go_num, below_drewN' hbe _⟩
                            case measure => simp [intOf]; omega
                        · have HQ := Lib.hid hq
                          clear hq
                          have di : decide (i0 ≥ 0) = false := decide_eq_false hi
                          go_wp2_with fail
                          go_quiet (fail)
                          go_wp2_with fail
                          go_roundw
                          case rel => exact ⟨r + 1, hlr, by go_num, below_drewN' hbe _⟩
                          case measure => simp [intOf]; omega
                · have hre : r = rooms := by omega
                  subst hre
                  go_wp2_with (go_at_call 16; refine (works_any _ ht7).mono ?_; rintro e w9 ⟨rfl, hb9⟩)
                  go_ret
                  exact ⟨rfl, hb06.trans (hb9.mono (by omega))⟩
end Go.Proofs.YtcebihijnedekaaDoor
