/-
  The reference: the errors of books that must agree and of ways that are asked for, and the span of a way.
-/
import Derived.Test.YtcebihijnedekaaDoorRefH
import Derived.Test.YtcebihijnedekaaDoorWalkP
import Derived.IntWalk
namespace Go.Proofs.YtcebihijnedekaaDoor
open Go.RowKit

set_option maxHeartbeats 1000000 in
theorem agreeR_any (R : Int) (A : Option Addr) (c : Nat) (ws : List Wy) (w : World) (hw : WaysAt w w.heap.size A ws) :
    Calls Tryd.prog 58 #[.agg #[.int .i64 R, .slice A ws.length c]] w fun e w' => e = .returned (.int .i64 (chkA R ws)) ∧ Below w.heap.size w w' := by
  have HC := Lib.hid (fun W hW => canR19_any R A c ws W hW)
  have hw1 := fun o => (hw.alloc (Nat.le_refl _) o).mono (B' := (w.alloc o).heap.size) (by simp)
  unfold chkA
  unfold canS at HC
  by_cases h0 : chk R ws = 0
  · rw [if_pos h0]
    rw [h0] at HC
    simp only [decide_true, Bool.true_and] at HC
    clear h0
    generalize agrS R.toNat ws = v at HC ⊢
    rcases v with _ | _
    all_goals
      go_enter Tryd.func58, Tryd.ntmps58
      go_wp2_with (go_at_call 19; refine (HC.out _ (hw1 _)).mono ?_; rintro e w1 ⟨rfl, hb1⟩)
      go_ret
      exact ⟨rfl, ((Below.refl _ _).alloc (Nat.le_refl _) _).trans (hb1.mono (by simp))⟩
  · rw [if_neg h0]
    rw [decide_eq_false h0] at HC
    simp only [Bool.false_and] at HC
    generalize chk R ws = v at h0 HC ⊢
    go_enter Tryd.func58, Tryd.ntmps58
    go_wp2_with (go_at_call 19; refine (HC.out _ (hw1 _)).mono ?_; rintro e w1 ⟨rfl, hb1⟩)
    go_ret
    exact ⟨rfl, ((Below.refl _ _).alloc (Nat.le_refl _) _).trans (hb1.mono (by simp))⟩

set_option maxHeartbeats 1000000 in
theorem askedR_any (R k : Int) (A : Option Addr) (c : Nat) (ws : List Wy) (w : World) (hw : WaysAt w w.heap.size A ws) :
    Calls Tryd.prog 77 #[.agg #[.int .i64 R, .slice A ws.length c], .int .i64 k] w fun e w' => e = .returned (.int .i64 (chkN R ws k)) ∧ Below w.heap.size w w' := by
  have HC := Lib.hid (fun W hW => checkR_any R A c ws W hW)
  have hw1 := fun o => (hw.alloc (Nat.le_refl _) o).mono (B' := (w.alloc o).heap.size) (by simp)
  unfold chkN
  by_cases h0 : chk R ws = 0
  · have hlen : ws.length ≤ 12 := by obtain ⟨rooms, _, _, hv, _⟩ := chk_ok h0; exact hv.len
    rw [if_pos h0]
    rw [h0] at HC
    clear h0
    have I1 := Lib.hid (fun W => in_any k 0 ((ws.length : Int) - 1) W)
    have hl0 : (0 : Int) ≤ (ws.length : Int) := by omega
    have hl1 : (ws.length : Int) ≤ 12 := by omega
    by_cases h1 : 0 ≤ k ∧ k ≤ (ws.length : Int) - 1
    · rw [if_neg (by omega)]
      rw [inB_t h1] at I1
      clear h1
      go_enter Tryd.func77, Tryd.ntmps77
      go_wp2_with (first
        | (go_at_call 24; refine (HC.out _ (hw1 _)).mono ?_; rintro e w1 ⟨rfl, hb1⟩; obtain ⟨q1, q2, q3⟩ := bcell hb1; simp only [World.size_alloc] at q1 q2 q3)
        | (go_at_call 61; refine (I1.out _).mono ?_; rintro e w2 ⟨rfl, rfl⟩))
      go_ret
      exact ⟨rfl, ((Below.refl _ _).alloc (Nat.le_refl _) _).trans (hb1.mono (by simp))⟩
    · rw [if_pos (by omega)]
      rw [inB_f h1] at I1
      clear h1
      go_enter Tryd.func77, Tryd.ntmps77
      go_wp2_with (first
        | (go_at_call 24; refine (HC.out _ (hw1 _)).mono ?_; rintro e w1 ⟨rfl, hb1⟩; obtain ⟨q1, q2, q3⟩ := bcell hb1; simp only [World.size_alloc] at q1 q2 q3)
        | (go_at_call 61; refine (I1.out _).mono ?_; rintro e w2 ⟨rfl, rfl⟩))
      go_ret
      exact ⟨rfl, ((Below.refl _ _).alloc (Nat.le_refl _) _).trans (hb1.mono (by simp))⟩
  · rw [if_neg h0]
    generalize chk R ws = v at h0 HC ⊢
    go_enter Tryd.func77, Tryd.ntmps77
    go_wp2_with (go_at_call 24; refine (HC.out _ (hw1 _)).mono ?_; rintro e w1 ⟨rfl, hb1⟩; obtain ⟨q1, q2, q3⟩ := bcell hb1; simp only [World.size_alloc] at q1 q2 q3)
    go_ret
    exact ⟨rfl, ((Below.refl _ _).alloc (Nat.le_refl _) _).trans (hb1.mono (by simp))⟩

theorem ValB.fix {rooms k : Nat} {ws : List Wy} {x : Wy} (hv : ValB rooms ws) (hx : ws[k]? = some x) {n : Int} (h0 : 0 ≤ n) (h1 : n ≤ 99) : ValB rooms (ws.set k (fixW x n)) := by
  refine ⟨hv.r6, by rw [List.length_set]; exact hv.len, fun y hy => ?_⟩
  rcases List.mem_or_eq_of_mem_set hy with hy | hy
  · exact hv.way y hy
  · subst hy
    obtain ⟨a, b, _⟩ := hv.way x (mem_of_get hx)
    exact ⟨a, b, h0, Int.le_refl _, h1⟩

/-- Whether books agree in which a way has one number. -/
theorem fixS {rooms k : Nat} {ws : List Wy} {x : Wy} (hv : ValB rooms ws) (ha : Agr ws) (hx : ws[k]? = some x) {n : Int} (h1 : x.lo ≤ n) (h2 : n ≤ x.hi) :
    agrS rooms (ws.set k (fixW x n)) = decide ((spanS rooms ws x).1 ≤ n ∧ n ≤ (spanS rooms ws x).2) := by
  have h3 := agr_fix hv.inW ha hx n h1 h2
  have h4 := agrS_iff (inW_set hv.inW hx n)
  rw [Bool.eq_iff_iff, h4, h3, decide_eq_true_iff]

theorem canF_any {rooms k : Nat} {ws : List Wy} {x : Wy} (hv : ValB rooms ws) (hx : ws[k]? = some x) {n : Int} (h0 : 0 ≤ n) (h1 : n ≤ 99) (A : Option Addr) (c : Nat) (W : World) (hW : WaysAt W W.heap.size A (ws.set k (fixW x n))) :
    Calls Tryd.prog 55 #[.agg #[.int .i64 rooms, .slice A ws.length c]] W fun e w' => e = .returned (.bool (agrS rooms (ws.set k (fixW x n)))) ∧ Below W.heap.size W w' := by
  have h := canR_any rooms A c (ws.set k (fixW x n)) W (hv.fix hx h0 h1) hW
  rwa [List.length_set] at h

set_option maxHeartbeats 2000000 in
theorem spanR_any (rooms k : Nat) (A : Option Addr) (c : Nat) (ws : List Wy) (x : Wy) (w : World) (hv : ValB rooms ws) (ha : Agr ws) (hx : ws[k]? = some x) (hw : WaysAt w w.heap.size A ws) :
    Calls Tryd.prog 78 #[.agg #[.int .i64 rooms, .slice A ws.length c], .int .i64 k] w fun e w' => e = .returned (.tuple #[.int .i64 (spanS rooms ws x).1, .int .i64 (spanS rooms ws x).2]) ∧ Below w.heap.size w w' := by
  have hk := lt_of_get hx
  obtain ⟨_, _, hx3, hx4, hx5⟩ := hv.way x (mem_of_get hx)
  obtain ⟨s1, s2, s3⟩ := span_in (rooms := rooms) hx ha hv.okW
  have HW := Lib.hid (fun n W hW => with_any rooms n k A c ws x W hv.len hx hW)
  have HC := Lib.hid (fun n (h : x.lo ≤ n ∧ n ≤ x.hi) A' c' W hW => canF_any hv hx (n := n) (by omega) (by omega) A' c' W hW)
  have HF := Lib.hid (fun n (h : x.lo ≤ n ∧ n ≤ x.hi) => fixS hv ha hx h.1 h.2)
  generalize spanS rooms ws x = P at s1 s2 s3 HF ⊢
  obtain ⟨P1, P2⟩ := P
  dsimp only at s1 s2 s3 HF ⊢
  obtain ⟨b, off, rfl, hb, h1, h2, h3, h4⟩ := hw k x hx
  have hk0 : (0 : Int) ≤ (k : Int) := by omega
  have hk1 : (k : Int) < (ws.length : Int) := by omega
  go_enter Tryd.func78, Tryd.ntmps78
  go_wp2_with fail
  go_quiet (fail)
  go_wp2_with fail
  obtain ⟨W0, hW0⟩ : ∃ W0, W0 = (w.alloc (.cells #[.int .i64 rooms, .slice (some ⟨b, off, none⟩) ws.length c] 30)).drewN nq := ⟨_, rfl⟩
  have hz0 : w.heap.size < W0.heap.size := by rw [hW0]; simp
  have hb0 : Below w.heap.size w W0 := by rw [hW0]; exact below_drewN' ((Below.refl w.heap.size w).alloc (Nat.le_refl _) _) _
  have c0 : W0.cell? ⟨w.heap.size, 0, none⟩ = some (.int .i64 rooms) := by rw [hW0]; simp [go_sem]
  have c1 : W0.cell? ⟨w.heap.size, 1, none⟩ = some (.slice (some ⟨b, off, none⟩) ws.length c) := by rw [hW0]; simp [go_sem]
  have hw0 := upw (upw hw ((Below.refl w.heap.size w).alloc (Nat.le_refl _) (.cells #[.int .i64 rooms, .slice (some ⟨b, off, none⟩) ws.length c] 30))) (below_drewN' (Below.refl _ _) nq)
  rw [← hW0] at hw0 ⊢
  have HW0 := Lib.hid hw0
  clear hW0 hw hw0 h1 h2 h3 h4 hv ha hx hk
  go_loopw [6] (fun v wr => ∃ n : Int, v = .int .i64 n ∧ x.lo ≤ n ∧ n ≤ P1 ∧ Below W0.heap.size W0 wr) (fun v _ => (P1 - intOf v).toNat)
  case atStart => exact ⟨x.lo, rfl, Int.le_refl _, s1, Below.refl _ _⟩
  case round =>
    obtain ⟨n, rfl, hn1, hn2, hbw⟩ := hrel
    have d0 := (hbw.cell (p := ⟨w.heap.size, 0, none⟩) hz0).trans c0
    have d1 := (hbw.cell (p := ⟨w.heap.size, 1, none⟩) hz0).trans c1
    have hwr := Lib.hid (upw HW0.out hbw)
    have hzr : w.heap.size < wr.heap.size := by have := hbw.size; omega
    have HC1 := Lib.hid (fun A' c' W hW => HC.out n ⟨hn1, by omega⟩ A' c' W hW)
    have HF1 := HF.out n ⟨hn1, by omega⟩
    by_cases hnp : n < P1
    · rw [decide_eq_false (by omega)] at HF1
      rw [HF1] at HC1
      clear HF1
      go_wp2_with (first
        | (go_at_call 66; refine (HW.out n _ hwr.out).mono ?_; rintro e w1 ⟨A1, c1', rfl, hA1, hb1⟩)
        | (go_at_call 55; refine (HC1.out _ _ _ hA1).mono ?_; rintro e w2 ⟨rfl, hb2⟩))
      go_roundw
      case rel => exact ⟨n + 1, by go_num, by omega, by omega, hbw.trans ((hb1.mono hbw.size).trans (hb2.mono (by have := hbw.size; have := hb1.size; omega)))⟩
      case measure => simp [intOf]; omega
    · have hne : n = P1 := by omega
      subst hne
      rw [decide_eq_true (by omega)] at HF1
      rw [HF1] at HC1
      clear HF1
      go_wp2_with (first
        | (go_at_call 66; refine (HW.out n _ hwr.out).mono ?_; rintro e w1 ⟨A1, c1', rfl, hA1, hb1⟩)
        | (go_at_call 55; refine (HC1.out _ _ _ hA1).mono ?_; rintro e w2 ⟨rfl, hb2⟩))
      have hbx : Below W0.heap.size W0 w2 := hbw.trans ((hb1.mono hbw.size).trans (hb2.mono (by have := hbw.size; have := hb1.size; omega)))
      clear hb1 hb2 hA1 hbw d0 d1 hwr hzr HC1
      go_loopw [7] (fun v wr => ∃ m : Int, v = .int .i64 m ∧ P2 ≤ m ∧ m ≤ x.hi ∧ Below W0.heap.size W0 wr) (fun v _ => (intOf v - P2).toNat)
      case atStart => exact ⟨x.hi, rfl, s3, Int.le_refl _, hbx⟩
      case round =>
        obtain ⟨m, rfl, hm1, hm2, hbw⟩ := hrel
        have d0 := (hbw.cell (p := ⟨w.heap.size, 0, none⟩) hz0).trans c0
        have d1 := (hbw.cell (p := ⟨w.heap.size, 1, none⟩) hz0).trans c1
        have hwr := Lib.hid (upw HW0.out hbw)
        have HC1 := Lib.hid (fun A' c' W hW => HC.out m ⟨by omega, hm2⟩ A' c' W hW)
        have HF1 := HF.out m ⟨by omega, hm2⟩
        by_cases hmp : P2 < m
        · rw [decide_eq_false (by omega)] at HF1
          rw [HF1] at HC1
          clear HF1
          go_wp2_with (first
            | (go_at_call 66; refine (HW.out m _ hwr.out).mono ?_; rintro e w1 ⟨A1, c1', rfl, hA1, hb1⟩)
            | (go_at_call 55; refine (HC1.out _ _ _ hA1).mono ?_; rintro e w2 ⟨rfl, hb2⟩))
          go_roundw
          case rel => exact ⟨m - 1, by go_num, by omega, by omega, hbw.trans ((hb1.mono hbw.size).trans (hb2.mono (by have := hbw.size; have := hb1.size; omega)))⟩
          case measure => simp [intOf]; omega
        · have hme : m = P2 := by omega
          subst hme
          rw [decide_eq_true (by omega)] at HF1
          rw [HF1] at HC1
          clear HF1
          go_wp2_with (first
            | (go_at_call 66; refine (HW.out m _ hwr.out).mono ?_; rintro e w1 ⟨A1, c1', rfl, hA1, hb1⟩)
            | (go_at_call 55; refine (HC1.out _ _ _ hA1).mono ?_; rintro e w2 ⟨rfl, hb2⟩))
          go_ret2
          exact ⟨rfl, hb0.trans (Below.mono (hbw.trans ((hb1.mono hbw.size).trans (hb2.mono (by have := hbw.size; have := hb1.size; omega)))) (by omega))⟩
end Go.Proofs.YtcebihijnedekaaDoor
