/-
  The walk of Bound.
-/
import Derived.Test.YtcebihijnedekaaDoorWalkT
import Derived.Test.YtcebihijnedekaaDoorWalkS
import Derived.Deep.DeepCutAuto
import Derived.BigRegion
namespace Go.Proofs.YtcebihijnedekaaDoor
open Go.RowKit

/-- The end of a span that is asked for, the bound that is told, and how the way must lead. -/
def endS (rooms : Nat) (ws : List Wy) (x : Wy) (gr : Bool) : Int := if gr then (spanS rooms ws x).2 else (spanS rooms ws x).1
def toldS (x : Wy) (gr : Bool) : Int := if gr then x.hi else x.lo
def wantS (gr : Bool) : Int := if gr then 1 else 2

/-- Rooms that prove the end of a span, and the error. -/
def bndS (R : Int) (ws : List Wy) (k : Int) (gr : Bool) : List Int × Int :=
  if chkN R ws k = 0 then
    (if agrS R.toNat ws then
      (match ws[k.toNat]? with
        | some x => if endS R.toNat ws x gr = toldS x gr then ([], 0) else (listS R.toNat (fewS (qB R.toNat ws x (wantS gr) (endS R.toNat ws x gr)) R.toNat).1, 0)
        | none => ([], 0))
      else ([], 12))
  else ([], chkN R ws k)

set_option maxRecDepth 100000 in
set_option maxHeartbeats 2000000 in
theorem bound_any (R k : Int) (gr : Bool) (A : Option Addr) (c : Nat) (ws : List Wy) (w : World) (hw : WaysAt w w.heap.size A ws) (ht : SizesAt w) :
    Calls Tryd.prog 42 #[.agg #[.int .i64 R, .slice A ws.length c], .int .i64 k, .bool gr] w (RetList w (bndS R ws k gr).1 (bndS R ws k gr).2) := by
  have HC := Lib.hid (fun W hW => checkNamed_any R k A c ws W hW)
  have hba := fun o o' => ((Below.refl w.heap.size w).alloc (Nat.le_refl _) o).alloc (B := w.heap.size) (by simp) o'
  have hw1 := fun o o' => (hw.below (hba o o') (Nat.le_refl _)).mono (B' := ((w.alloc o).alloc o').heap.size) (by simp; omega)
  have ht1 := fun o o' => ht.below (hba o o')
  unfold bndS
  by_cases h0 : chkN R ws k = 0
  rotate_left
  · rw [if_neg h0]
    generalize chkN R ws k = v at h0 HC ⊢
    go_enter Tryd.func42, Tryd.ntmps42
    go_wp2_with (go_at_call 75; refine (HC.out _ (hw1 _ _)).mono ?_; rintro e w1 ⟨rfl, hb1⟩; obtain ⟨q1, q2, q3⟩ := bcell hb1; simp only [World.size_alloc] at q1 q2 q3)
    go_ret2
    exact retList_none ((hba _ _).trans (hb1.mono (by simp; omega)))
  obtain ⟨hk0, n, x, rfl, hx⟩ := chkN_ok h0
  obtain ⟨rooms, rfl, _, hv, _⟩ := chk_ok hk0
  have HA := Lib.hid (fun W hW hT => agree_any rooms A c ws W hv hW hT)
  rw [if_pos h0, show ((rooms : Int).toNat) = rooms from rfl, show ((n : Int).toNat) = n from rfl, hx]
  dsimp only
  rw [h0] at HC
  rcases hag : agrS rooms ws with _ | _
  · simp only [Bool.false_eq_true, if_false]
    rw [hag] at HA
    clear h0 hk0 hv hx hag
    go_enter Tryd.func42, Tryd.ntmps42
    go_wp2_with (first
      | (go_at_call 75; refine (HC.out _ (hw1 _ _)).mono ?_; rintro e w1 ⟨rfl, hb1⟩; obtain ⟨q1, q2, q3⟩ := bcell hb1; simp only [World.size_alloc] at q1 q2 q3; have hw2 := ((hw1 _ _).below hb1 (Nat.le_refl _)).mono hb1.size; have ht2 := (ht1 _ _).below hb1)
      | (go_at_call 54; refine (HA.out _ hw2 ht2).mono ?_; rintro e w2 ⟨rfl, hb2⟩))
    go_ret2
    exact retList_none ((hba _ _).trans ((hb1.mono (by simp; omega)).trans (hb2.mono (by omega))))
  simp only [if_true]
  rw [hag] at HA
  have HS := Lib.hid (fun W hW => span_any rooms n A c ws x W hv hx hW)
  have hn := lt_of_get hx
  have hlen := hv.len
  have hni : (n : Int) < (ws.length : Int) := by omega
  have hr6 := hv.r6
  have HL := Lib.hid (fun W s h => listOf_any rooms s W hr6 h)
  have HQ := Lib.hid (fun W s g1 g2 g3 g4 wanted end_ hs hW h3 h4 c0 c1 c2 c3 c4 => bound1_any rooms s n A c g1 g2 g3 g4 wanted end_ ws x W hv hs hx hW h3 h4 c0 c1 c2 c3 c4)
  obtain ⟨b, off, rfl, hb, x1, x2, x3, x4⟩ := hw n x hx
  generalize hP : spanS rooms ws x = P at HS
  obtain ⟨P1, P2⟩ := P
  have HP := Lib.hid hP
  dsimp only at HS
  generalize hR : (if endS rooms ws x gr = toldS x gr then (([], 0) : List Int × Int) else (listS rooms (fewS (qB rooms ws x (wantS gr) (endS rooms ws x gr)) rooms).1, 0)) = Rv
  have HR := Lib.hid hR
  clear h0 hk0 hag hP hv hx hR
  rcases gr with _ | _
  · have HEV := Lib.hid (show endS rooms ws x false = P1 by show (spanS rooms ws x).1 = P1; rw [HP.out])
    go_enter Tryd.func42, Tryd.ntmps42
    go_wp2_with (first
      | (go_at_call 75; refine (HC.out _ (hw1 _ _)).mono ?_; rintro e w1 ⟨rfl, hb1⟩; obtain ⟨q1, q2, q3⟩ := bcell hb1; simp only [World.size_alloc] at q1 q2 q3; have hw2 := ((hw1 _ _).below hb1 (Nat.le_refl _)).mono hb1.size; have ht2 := (ht1 _ _).below hb1; have hz2 : w.heap.size + 1 < w1.heap.size := (by omega); have hz2' : w.heap.size < w1.heap.size := (by omega))
      | (go_at_call 54; refine (HA.out _ hw2 ht2).mono ?_; rintro e w2 ⟨rfl, hb2⟩; obtain ⟨p1, p2, p3⟩ := bcell hb2; have hw3 := (hw2.below hb2 (Nat.le_refl _)).mono hb2.size; have ht3 := ht2.below hb2; have hz3 : w.heap.size + 1 < w2.heap.size := (by omega); have hz3' : w.heap.size < w2.heap.size := (by omega))
      | (go_at_call 76; refine (HS.out _ hw3).mono ?_; rintro e w3 ⟨rfl, hb3⟩; obtain ⟨r1, r2, r3⟩ := bcell hb3))
    have hb0 : Below w.heap.size w w3 := (hba _ _).trans ((hb1.mono (by simp; omega)).trans ((hb2.mono (by omega)).trans (hb3.mono (by omega))))
    have c0 : w3.cell? ⟨w.heap.size, 0, none⟩ = some (.int .i64 rooms) := by rw [r1 _ _ (by omega), p1 _ _ (by omega), q1 _ _ (by omega)]; simp [go_sem]
    have c1 : w3.cell? ⟨w.heap.size, 1, none⟩ = some (.slice (some ⟨b, off, none⟩) ws.length c) := by rw [r1 _ _ (by omega), p1 _ _ (by omega), q1 _ _ (by omega)]; simp [go_sem]
    have c2 : w3.cell? ⟨w.heap.size + 1, 0, none⟩ = some (.int .i64 n) := by rw [r1 _ _ (by omega), p1 _ _ (by omega), q1 _ _ (by omega)]; simp [go_sem]
    have c3 : w3.cell? ⟨b, off + n * 4 + 2, none⟩ = some (.int .i64 x.lo) := (hb0.cell (p := ⟨b, _, none⟩) hb).trans x3
    have c4 : w3.cell? ⟨b, off + n * 4 + 3, none⟩ = some (.int .i64 x.hi) := (hb0.cell (p := ⟨b, _, none⟩) hb).trans x4
    have hw4 := (hw3.below hb3 (Nat.le_refl _)).mono hb3.size
    have ht4 := ht3.below hb3
    have hz4 : w.heap.size + 1 < w3.heap.size := by omega
    have hb4 : b < w3.heap.size := by omega
    have hb4' : b < w3.heap.size + 1 := by omega
    have hz4' : w.heap.size < w3.heap.size := by omega
    have hz4'' : w.heap.size < w3.heap.size + 1 := by omega
    clear hw1 hw2 hw3 ht1 ht2 ht3 q1 q2 p1 p2 r1 r2 x1 x2 x3 x4 hw ht HC HA HS hba
    go_cut [11, 12, 13] (fun s11 s12 s13 wx => ∃ g4 g3 : Nat, s11 = .pointer (some ⟨g4, 0, none⟩) ∧ s12 = .int .i64 x.lo ∧ s13 = .pointer (some ⟨g3, 0, none⟩) ∧ w3.heap.size ≤ g4 ∧ w3.heap.size ≤ g3 ∧ g4 < wx.heap.size ∧ g3 < wx.heap.size ∧ ¬ g4 = g3 ∧
      wx.cell? ⟨g4, 0, none⟩ = some (.int .i64 P1) ∧ wx.cell? ⟨g3, 0, none⟩ = some (.int .i64 2) ∧ wx.frozen? ⟨g4, 0, none⟩ = false ∧ wx.frozen? ⟨g3, 0, none⟩ = false ∧ Below w3.heap.size w3 wx)
    case first =>
      go_region
      all_goals
        go_wp2_with fail
        go_meet
      · exact ⟨w3.heap.size, w3.heap.size + 1, rfl, rfl, rfl, Nat.le_refl _, Nat.le_succ _, by simp <;> omega, by simp <;> omega, by omega, by simp [go_sem], by simp [go_sem], by simp [go_sem], by simp [go_sem], (((Below.refl w3.heap.size w3).alloc (Nat.le_refl _) _).alloc (by simp) _).drew⟩
      · exact ⟨w3.heap.size + 1, w3.heap.size, rfl, rfl, rfl, Nat.le_succ _, Nat.le_refl _, by simp <;> omega, by simp <;> omega, by omega, by simp [go_sem], by simp [go_sem], by simp [go_sem], by simp [go_sem], (((Below.refl w3.heap.size w3).alloc (Nat.le_refl _) _).alloc (by simp) _).drew⟩
    case rest =>
    obtain ⟨g4, g3, rfl, rfl, rfl, k1, k2, k3, k4, k5, k6, k7, k8, k9, k10⟩ := hcut
    have d0 := (k10.cell (p := ⟨w.heap.size, 0, none⟩) (by simp; omega)).trans c0
    have d1 := (k10.cell (p := ⟨w.heap.size, 1, none⟩) (by simp; omega)).trans c1
    have d2 := (k10.cell (p := ⟨w.heap.size + 1, 0, none⟩) (by simp; omega)).trans c2
    have d3 := (k10.cell (p := ⟨b, off + n * 4 + 2, none⟩) (by simp; omega)).trans c3
    have d4 := (k10.cell (p := ⟨b, off + n * 4 + 3, none⟩) (by simp; omega)).trans c4
    have hw5 := (hw4.below k10 (Nat.le_refl _)).mono k10.size
    have ht5 := ht4.below k10
    have hs5 := k10.size
    clear c0 c1 c2 c3 c4 hw4 ht4
    have hbc : Below w.heap.size w wc := hb0.trans (k10.mono (by omega))
    by_cases he : P1 = x.lo
    · have he' : (P1 == x.lo) = true := by simpa using he
      have HRV := Lib.hid (show Rv = ([], 0) by rw [← HR.out, if_pos (by unfold toldS; rw [HEV.out]; exact he)])
      clear he
      go_wp2
      go_ret2
      rw [HRV.out]
      exact retList_none hbc
    · have he' : (P1 == x.lo) = false := by simpa using he
      have HRV := Lib.hid (show Rv = (listS rooms (fewS (qB rooms ws x 2 P1) rooms).1, 0) by rw [← HR.out, if_neg (by unfold toldS; rw [HEV.out]; exact he), HEV.out]; rfl)
      have hfl := fewS_lt (q := qB rooms ws x 2 P1) hr6
      have HF := Lib.hid (fewest_bound rooms (qB rooms ws x 2 P1) ⟨w.heap.size, 0, none⟩ ⟨w.heap.size + 1, 0, none⟩ ⟨g3, 0, none⟩ ⟨g4, 0, none⟩ wc hr6 ht5 (fun W s hs hbW =>
        HQ.out W s w.heap.size (w.heap.size + 1) g3 g4 2 P1 hs ((hw5.below hbW (Nat.le_refl _)).mono hbW.size) (Nat.lt_of_lt_of_le k4 hbW.size) (Nat.lt_of_lt_of_le k3 hbW.size)
          ((hbW.cell (p := ⟨w.heap.size, 0, none⟩) (by simp; omega)).trans d0) ((hbW.cell (p := ⟨w.heap.size, 1, none⟩) (by simp; omega)).trans d1) ((hbW.cell (p := ⟨w.heap.size + 1, 0, none⟩) (by simp; omega)).trans d2)
          ((hbW.cell (p := ⟨g3, 0, none⟩) k4).trans k7) ((hbW.cell (p := ⟨g4, 0, none⟩) k3).trans k6)))
      generalize fewS (qB rooms ws x 2 P1) rooms = r at HRV hfl HF
      obtain ⟨r1, r2⟩ := r
      dsimp only at hfl HF HRV
      have HLL := Lib.hid (fun W => HL.out W r1 hfl)
      generalize listS rooms r1 = L at HRV HLL
      have hz9 : w.heap.size < wc.heap.size := by omega
      clear he
      go_wp2_with (first
        | (go_at_call 83; refine HF.out.mono ?_; rintro e w6 ⟨rfl, hb6⟩; obtain ⟨p1, p2, p3⟩ := bcell hb6)
        | (go_at_call 68; refine (HLL.out _).mono ?_; rintro e w7 ⟨A', c', rfl, hA', hb7⟩))
      go_ret2
      rw [HRV.out]
      exact ⟨A', c', rfl, hA', hbc.trans ((hb6.mono (by omega)).trans (hb7.mono (by omega)))⟩
  · have HEV := Lib.hid (show endS rooms ws x true = P2 by show (spanS rooms ws x).2 = P2; rw [HP.out])
    go_enter Tryd.func42, Tryd.ntmps42
    go_wp2_with (first
      | (go_at_call 75; refine (HC.out _ (hw1 _ _)).mono ?_; rintro e w1 ⟨rfl, hb1⟩; obtain ⟨q1, q2, q3⟩ := bcell hb1; simp only [World.size_alloc] at q1 q2 q3; have hw2 := ((hw1 _ _).below hb1 (Nat.le_refl _)).mono hb1.size; have ht2 := (ht1 _ _).below hb1; have hz2 : w.heap.size + 1 < w1.heap.size := (by omega); have hz2' : w.heap.size < w1.heap.size := (by omega))
      | (go_at_call 54; refine (HA.out _ hw2 ht2).mono ?_; rintro e w2 ⟨rfl, hb2⟩; obtain ⟨p1, p2, p3⟩ := bcell hb2; have hw3 := (hw2.below hb2 (Nat.le_refl _)).mono hb2.size; have ht3 := ht2.below hb2; have hz3 : w.heap.size + 1 < w2.heap.size := (by omega); have hz3' : w.heap.size < w2.heap.size := (by omega))
      | (go_at_call 76; refine (HS.out _ hw3).mono ?_; rintro e w3 ⟨rfl, hb3⟩; obtain ⟨r1, r2, r3⟩ := bcell hb3))
    have hb0 : Below w.heap.size w w3 := (hba _ _).trans ((hb1.mono (by simp; omega)).trans ((hb2.mono (by omega)).trans (hb3.mono (by omega))))
    have c0 : w3.cell? ⟨w.heap.size, 0, none⟩ = some (.int .i64 rooms) := by rw [r1 _ _ (by omega), p1 _ _ (by omega), q1 _ _ (by omega)]; simp [go_sem]
    have c1 : w3.cell? ⟨w.heap.size, 1, none⟩ = some (.slice (some ⟨b, off, none⟩) ws.length c) := by rw [r1 _ _ (by omega), p1 _ _ (by omega), q1 _ _ (by omega)]; simp [go_sem]
    have c2 : w3.cell? ⟨w.heap.size + 1, 0, none⟩ = some (.int .i64 n) := by rw [r1 _ _ (by omega), p1 _ _ (by omega), q1 _ _ (by omega)]; simp [go_sem]
    have c3 : w3.cell? ⟨b, off + n * 4 + 2, none⟩ = some (.int .i64 x.lo) := (hb0.cell (p := ⟨b, _, none⟩) hb).trans x3
    have c4 : w3.cell? ⟨b, off + n * 4 + 3, none⟩ = some (.int .i64 x.hi) := (hb0.cell (p := ⟨b, _, none⟩) hb).trans x4
    have hw4 := (hw3.below hb3 (Nat.le_refl _)).mono hb3.size
    have ht4 := ht3.below hb3
    have hz4 : w.heap.size + 1 < w3.heap.size := by omega
    have hb4 : b < w3.heap.size := by omega
    have hb4' : b < w3.heap.size + 1 := by omega
    have hz4' : w.heap.size < w3.heap.size := by omega
    have hz4'' : w.heap.size < w3.heap.size + 1 := by omega
    clear hw1 hw2 hw3 ht1 ht2 ht3 q1 q2 p1 p2 r1 r2 x1 x2 x3 x4 hw ht HC HA HS hba
    go_cut [11, 12, 13] (fun s11 s12 s13 wx => ∃ g4 g3 : Nat, s11 = .pointer (some ⟨g4, 0, none⟩) ∧ s12 = .int .i64 x.lo ∧ s13 = .pointer (some ⟨g3, 0, none⟩) ∧ w3.heap.size ≤ g4 ∧ w3.heap.size ≤ g3 ∧ g4 < wx.heap.size ∧ g3 < wx.heap.size ∧ ¬ g4 = g3 ∧
      wx.cell? ⟨g4, 0, none⟩ = some (.int .i64 P1) ∧ wx.cell? ⟨g3, 0, none⟩ = some (.int .i64 2) ∧ wx.frozen? ⟨g4, 0, none⟩ = false ∧ wx.frozen? ⟨g3, 0, none⟩ = false ∧ Below w3.heap.size w3 wx)
    case first =>
      go_region
      all_goals
        go_wp2_with fail
        go_meet
      · exact ⟨w3.heap.size, w3.heap.size + 1, rfl, rfl, rfl, Nat.le_refl _, Nat.le_succ _, by simp <;> omega, by simp <;> omega, by omega, by simp [go_sem], by simp [go_sem], by simp [go_sem], by simp [go_sem], (((Below.refl w3.heap.size w3).alloc (Nat.le_refl _) _).alloc (by simp) _).drew⟩
      · exact ⟨w3.heap.size + 1, w3.heap.size, rfl, rfl, rfl, Nat.le_succ _, Nat.le_refl _, by simp <;> omega, by simp <;> omega, by omega, by simp [go_sem], by simp [go_sem], by simp [go_sem], by simp [go_sem], (((Below.refl w3.heap.size w3).alloc (Nat.le_refl _) _).alloc (by simp) _).drew⟩
    case rest =>
    obtain ⟨g4, g3, rfl, rfl, rfl, k1, k2, k3, k4, k5, k6, k7, k8, k9, k10⟩ := hcut
    have d0 := (k10.cell (p := ⟨w.heap.size, 0, none⟩) (by simp; omega)).trans c0
    have d1 := (k10.cell (p := ⟨w.heap.size, 1, none⟩) (by simp; omega)).trans c1
    have d2 := (k10.cell (p := ⟨w.heap.size + 1, 0, none⟩) (by simp; omega)).trans c2
    have d3 := (k10.cell (p := ⟨b, off + n * 4 + 2, none⟩) (by simp; omega)).trans c3
    have d4 := (k10.cell (p := ⟨b, off + n * 4 + 3, none⟩) (by simp; omega)).trans c4
    have hw5 := (hw4.below k10 (Nat.le_refl _)).mono k10.size
    have ht5 := ht4.below k10
    have hs5 := k10.size
    clear c0 c1 c2 c3 c4
    have hbc : Below w.heap.size w wc := hb0.trans (k10.mono (by omega))
    by_cases he : P2 = x.hi
    · have he' : (P2 == x.hi) = true := by simpa using he
      have HRV := Lib.hid (show Rv = ([], 0) by rw [← HR.out, if_pos (by unfold toldS; rw [HEV.out]; exact he)])
      clear he
      go_wp2
      go_region
      go_wp2
      go_ret2
      rw [HRV.out]
      exact retList_none (((hbc.setCell (p := ⟨g4, 0, none⟩) (by simp; omega) _).setCell (p := ⟨g3, 0, none⟩) (by simp; omega) _).drew)
    · have he' : (P2 == x.hi) = false := by simpa using he
      have HRV := Lib.hid (show Rv = (listS rooms (fewS (qB rooms ws x 1 P2) rooms).1, 0) by rw [← HR.out, if_neg (by unfold toldS; rw [HEV.out]; exact he), HEV.out]; rfl)
      have hfl := fewS_lt (q := qB rooms ws x 1 P2) hr6
      go_wp2
      go_region
      obtain ⟨W9, hW9⟩ : ∃ W9, W9 = ((wc.setCell ⟨g4, 0, none⟩ (.int .i64 P2)).setCell ⟨g3, 0, none⟩ (.int .i64 1)).drew := ⟨_, rfl⟩
      have n1 : ¬ w.heap.size = g4 := by omega
      have n2 : ¬ w.heap.size = g3 := by omega
      have n3 : ¬ w.heap.size + 1 = g4 := by omega
      have n4 : ¬ w.heap.size + 1 = g3 := by omega
      have e0 : W9.cell? ⟨w.heap.size, 0, none⟩ = some (.int .i64 rooms) := by rw [hW9]; simp [go_sem, d0]
      have e1 : W9.cell? ⟨w.heap.size, 1, none⟩ = some (.slice (some ⟨b, off, none⟩) ws.length c) := by rw [hW9]; simp [go_sem, d1]
      have e2 : W9.cell? ⟨w.heap.size + 1, 0, none⟩ = some (.int .i64 n) := by rw [hW9]; simp [go_sem, d2]
      have e3 : W9.cell? ⟨g3, 0, none⟩ = some (.int .i64 1) := by rw [hW9]; simp [go_sem, k7]
      have e4 : W9.cell? ⟨g4, 0, none⟩ = some (.int .i64 P2) := by rw [hW9]; simp [go_sem, k6]
      have b9 : Below w.heap.size w W9 := by rw [hW9]; exact ((hbc.setCell (p := ⟨g4, 0, none⟩) (by simp; omega) _).setCell (p := ⟨g3, 0, none⟩) (by simp; omega) _).drew
      have b93 : Below w3.heap.size w3 W9 := by rw [hW9]; exact ((k10.setCell (p := ⟨g4, 0, none⟩) k1 _).setCell (p := ⟨g3, 0, none⟩) k2 _).drew
      have hz99 : W9.heap.size = wc.heap.size := by rw [hW9]; simp
      rw [← hW9]
      have hw9 := (hw4.below b93 (Nat.le_refl _)).mono b93.size
      have ht9 := ht4.below b93
      clear hW9 k6 k7 k8 k9 d0 d1 d2 d3 d4 hw5 ht5 k10 hw4 ht4
      have HF := Lib.hid (fewest_bound rooms (qB rooms ws x 1 P2) ⟨w.heap.size, 0, none⟩ ⟨w.heap.size + 1, 0, none⟩ ⟨g3, 0, none⟩ ⟨g4, 0, none⟩ W9 hr6 ht9 (fun W s hs hbW =>
        HQ.out W s w.heap.size (w.heap.size + 1) g3 g4 1 P2 hs ((hw9.below hbW (Nat.le_refl _)).mono hbW.size) (Nat.lt_of_lt_of_le (by omega) hbW.size) (Nat.lt_of_lt_of_le (by omega) hbW.size)
          ((hbW.cell (p := ⟨w.heap.size, 0, none⟩) (by simp; omega)).trans e0) ((hbW.cell (p := ⟨w.heap.size, 1, none⟩) (by simp; omega)).trans e1) ((hbW.cell (p := ⟨w.heap.size + 1, 0, none⟩) (by simp; omega)).trans e2)
          ((hbW.cell (p := ⟨g3, 0, none⟩) (by simp; omega)).trans e3) ((hbW.cell (p := ⟨g4, 0, none⟩) (by simp; omega)).trans e4)))
      generalize fewS (qB rooms ws x 1 P2) rooms = r at HRV hfl HF
      obtain ⟨r1, r2⟩ := r
      dsimp only at hfl HF HRV
      have HLL := Lib.hid (fun W => HL.out W r1 hfl)
      generalize listS rooms r1 = L at HRV HLL
      have hz9 : w.heap.size < W9.heap.size := by omega
      clear he hz99
      go_wp2_with (first
        | (go_at_call 83; refine HF.out.mono ?_; rintro e w6 ⟨rfl, hb6⟩; obtain ⟨p1, p2, p3⟩ := bcell hb6)
        | (go_at_call 68; refine (HLL.out _).mono ?_; rintro e w7 ⟨A', c', rfl, hA', hb7⟩))
      go_ret2
      rw [HRV.out]
      exact ⟨A', c', rfl, hA', b9.trans ((hb6.mono (by omega)).trans (hb7.mono (by omega)))⟩
end Go.Proofs.YtcebihijnedekaaDoor
