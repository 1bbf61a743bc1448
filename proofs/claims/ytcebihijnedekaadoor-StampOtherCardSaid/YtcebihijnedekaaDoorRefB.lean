/-
  The reference: whether rooms are a proof against books, and whether books agree.
-/
import Derived.Test.YtcebihijnedekaaDoorRefA
import Derived.Test.YtcebihijnedekaaDoorMathB
namespace Go.Proofs.YtcebihijnedekaaDoor
open Go.RowKit

set_option maxHeartbeats 1000000 in
theorem proofR_any (rooms s : Nat) (A : Option Addr) (c : Nat) (ws : List Wy) (w : World) (hv : ValB rooms ws) (hs : s < 64) (hw : WaysAt w w.heap.size A ws) :
    Calls Tryd.prog 70 #[.agg #[.int .i64 rooms, .slice A ws.length c], .int .i64 s] w fun e w' =>
      e = .returned (.bool (decide (0 < ex (memR s) ws))) ∧ Below w.heap.size w w' := by
  have hr6 := hv.r6
  have hlen := hv.len
  go_enter Tryd.func70, Tryd.ntmps70
  go_wp2
  obtain ⟨W0, hW0⟩ : ∃ W0, W0 = w.alloc (.cells #[.int .i64 rooms, .slice A ws.length c] 30) := ⟨_, rfl⟩
  have hz0 : W0.heap.size = w.heap.size + 1 := by rw [hW0]; simp
  have hb0 : Below w.heap.size w W0 := by rw [hW0]; exact (Below.refl _ _).alloc (Nat.le_refl _) _
  have hc0 : W0.cell? ⟨w.heap.size, 0, none⟩ = some (.int .i64 rooms) := by rw [hW0]; simp [go_sem]
  have hc1 : W0.cell? ⟨w.heap.size, 1, none⟩ = some (.slice A ws.length c) := by rw [hW0]; simp [go_sem]
  have hw0 := hw.below hb0 (Nat.le_refl _)
  rw [← hW0]
  clear hW0
  go_loopw [5, 6] (fun v i wr => ∃ k : Nat, k ≤ ws.length ∧ i = .int .i64 k ∧ v = .int .i64 (ex (memR s) (ws.take k)) ∧ Below W0.heap.size W0 wr) (fun _ i _ => ws.length - (intOf i).toNat)
  case atStart => exact ⟨0, Nat.zero_le _, rfl, rfl, Below.refl _ _⟩
  case round =>
    obtain ⟨k, hk, rfl, rfl, hbw⟩ := hrel
    have hd0 := (hbw.cell (p := ⟨w.heap.size, 0, none⟩) (by simp; omega)).trans hc0
    have hd1 := (hbw.cell (p := ⟨w.heap.size, 1, none⟩) (by simp; omega)).trans hc1
    have hww := hw0.below hbw (by omega)
    have hsz : w.heap.size < wr.heap.size := by have := hbw.size; omega
    by_cases hlt : k < ws.length
    · have hx : ws[k]? = some ws[k] := List.getElem?_eq_getElem hlt
      generalize ws[k] = x at hx
      obtain ⟨b, off, rfl, hb, h1, h2, h3, h4⟩ := hww k x hx
      obtain ⟨hx1, hx2, hx3, hx4, hx5⟩ := hv.way x (mem_of_get hx)
      have htk := ex_take_succ (memR s) hx
      have HX := Lib.hid hx
      clear hx hw hw0 hww
      have hbd := ex_bound (ws := ws.take k) (fun y hy => hv.way y (List.mem_of_mem_take hy)) (memR s)
      have hl12 : (ws.take k).length ≤ 12 := by rw [List.length_take]; omega
      obtain ⟨E, hE⟩ : ∃ E, E = ex (memR s) (ws.take k) := ⟨_, rfl⟩
      rw [← hE] at hbd htk ⊢
      have hbd' : -1188 ≤ E ∧ E ≤ 1188 := by omega
      clear hbd hl12
      have HE := Lib.hid hE
      clear hE
      have hbr : b < wr.heap.size := by omega
      have H80 := fun W => leaves_any s x W (by assumption) (by omega) (by omega) (by omega) (by omega)
      have H81 := fun W => enters_any s x W (by assumption) (by omega) (by omega) (by omega) (by omega)
      rcases xb_cases (memR s) x with ⟨a1, a2, se, _⟩ | ⟨a1, a2, se, _⟩ | ⟨a1, a2, se, _⟩
      all_goals
        rw [a1] at H80
        rw [a2] at H81
        rw [se] at htk
        have HC := Lib.hid H80
        have HD := Lib.hid H81
        have HT := Lib.hid htk
        clear H80 H81 htk se a1 a2
        go_wp2_with (first
          | (go_at_call 80; refine (HC.out _).mono ?_; rintro e w1 ⟨rfl, hb1⟩; obtain ⟨q1, q2, q3⟩ := bcell hb1; have hz1 : w.heap.size < w1.heap.size := (by omega); have hbr1 : b < w1.heap.size := (by omega))
          | (go_at_call 81; refine (HD.out _).mono ?_; rintro e w2 ⟨rfl, hb2⟩; obtain ⟨r1, r2, r3⟩ := bcell hb2))
        go_roundw
        case rel => exact ⟨k + 1, by omega, by go_num, by rw [HT.out]; try (first | rfl | go_num), hbw.trans ((hb1.mono (by omega)).trans (hb2.mono (by omega)))⟩
        case measure => simp [intOf]; omega
    · have : k = ws.length := by omega
      subst this
      rw [List.take_length]
      go_wp2
      go_ret
      exact ⟨rfl, hb0.trans (hbw.mono (by omega))⟩

set_option maxHeartbeats 1000000 in
theorem canR_any (rooms : Nat) (A : Option Addr) (c : Nat) (ws : List Wy) (w : World) (hv : ValB rooms ws) (hw : WaysAt w w.heap.size A ws) :
    Calls Tryd.prog 55 #[.agg #[.int .i64 rooms, .slice A ws.length c]] w fun e w' => e = .returned (.bool (agrS rooms ws)) ∧ Below w.heap.size w w' := by
  have hr6 := hv.r6
  have hp := pow_le_64 hr6
  have hsh := shl_val hr6
  have hN : ∀ n, 2 ^ rooms ≤ n → (∀ s, s < n → ex (memR s) ws ≤ 0) → true = agrS rooms ws := fun n hn h => ((agrS_iff hv.inW).2 ((agr_iffR hv.inW).2 fun s hs => h s (by omega))).symm
  have hF : ∀ s, s < 2 ^ rooms → 0 < ex (memR s) ws → false = agrS rooms ws := by
    intro s hs h
    cases hc : agrS rooms ws with
    | false => rfl
    | true => have := (agr_iffR hv.inW).1 ((agrS_iff hv.inW).1 hc) s hs; omega
  generalize agrS rooms ws = r at hN hF ⊢
  generalize 2 ^ rooms = N at hp hsh hN hF
  have HN := Lib.hid hN
  have HF := Lib.hid hF
  clear hN hF
  go_enter Tryd.func55, Tryd.ntmps55
  go_wp2
  obtain ⟨W0, hW0⟩ : ∃ W0, W0 = w.alloc (.cells #[.int .i64 rooms, .slice A ws.length c] 30) := ⟨_, rfl⟩
  have hz0 : W0.heap.size = w.heap.size + 1 := by rw [hW0]; simp
  have hb0 : Below w.heap.size w W0 := by rw [hW0]; exact (Below.refl _ _).alloc (Nat.le_refl _) _
  have hc0 : W0.cell? ⟨w.heap.size, 0, none⟩ = some (.int .i64 rooms) := by rw [hW0]; simp [go_sem]
  have hc1 : W0.cell? ⟨w.heap.size, 1, none⟩ = some (.slice A ws.length c) := by rw [hW0]; simp [go_sem]
  have hw0 := hw.below hb0 (Nat.le_refl _)
  rw [← hW0]
  clear hW0
  go_loopw [3] (fun i wr => ∃ k : Nat, k ≤ N ∧ i = .int .i64 k ∧ Hid (∀ s, s < k → ex (memR s) ws ≤ 0) ∧ Below W0.heap.size W0 wr) (fun i _ => N - (intOf i).toNat)
  case atStart => exact ⟨0, Nat.zero_le _, rfl, Lib.hid (fun s hs => by omega), Below.refl _ _⟩
  case round =>
    obtain ⟨k, hk, rfl, HK, hbw⟩ := hrel
    have hd0 := (hbw.cell (p := ⟨w.heap.size, 0, none⟩) (by simp; omega)).trans hc0
    have hd1 := (hbw.cell (p := ⟨w.heap.size, 1, none⟩) (by simp; omega)).trans hc1
    have hww := (hw0.below hbw (by omega)).mono (show w.heap.size ≤ wr.heap.size by have := hbw.size; omega)
    have hsz : w.heap.size < wr.heap.size := by have := hbw.size; omega
    by_cases hlt : k < N
    · have HC := Lib.hid (fun W h => proofR_any rooms k A c ws W hv (by omega) h)
      by_cases hx : 0 < ex (memR k) ws
      · rw [decide_eq_true hx] at HC
        have HR := Lib.hid (HF.out k hlt hx)
        clear HF HN HK hx
        have HW := Lib.hid hww
        clear hww hw hw0
        go_wp2_with (go_at_call 70; refine (HC.out _ HW.out).mono ?_; rintro e w1 ⟨rfl, hb1⟩; obtain ⟨q1, q2, q3⟩ := bcell hb1)
        go_ret
        exact ⟨retb_eq HR.out, hb0.trans ((hbw.mono (by omega)).trans (hb1.mono (by omega)))⟩
      · rw [decide_eq_false hx] at HC
        have HK' : Hid (∀ s, s < k + 1 → ex (memR s) ws ≤ 0) := Lib.hid (fun s hs => by
          rcases Nat.lt_or_ge s k with h | h
          · exact HK.out s h
          · have : s = k := by omega
            subst this; omega)
        clear HK hx
        have HW := Lib.hid hww
        clear hww hw hw0
        go_wp2_with (go_at_call 70; refine (HC.out _ HW.out).mono ?_; rintro e w1 ⟨rfl, hb1⟩; obtain ⟨q1, q2, q3⟩ := bcell hb1)
        go_roundw
        case rel => exact ⟨k + 1, by omega, by go_num, HK', hbw.trans (hb1.mono (by omega))⟩
        case measure => simp [intOf]; omega
    · have : k = N := by omega
      subst this
      have HR := Lib.hid (HN.out k (Nat.le_refl _) HK.out)
      clear HF HN HK
      go_wp2
      go_ret
      exact ⟨retb_eq HR.out, hb0.trans (hbw.mono (by omega))⟩
end Go.Proofs.YtcebihijnedekaaDoor
