/-
  The reference: rooms that prove that books do not agree are returned as stated.
-/
import Derived.Test.YtcebihijnedekaaDoorRefD
import Derived.Test.YtcebihijnedekaaDoorRefE
import Derived.Test.YtcebihijnedekaaDoorWalkP
namespace Go.Proofs.YtcebihijnedekaaDoor
open Go.RowKit

/-- Whether a set is a proof, room 0 being the lowest bit. -/
def qR (ws : List Wy) (s : Nat) : Bool := decide (0 < ex (memR s) ws)

theorem ex_all (m : Int → Bool) : ∀ (ws : List Wy), (∀ x ∈ ws, m x.src = m x.dst) → ex m ws = 0
  | [], _ => rfl
  | x :: ws, h => by
    rw [ex, ex_all m ws (fun y hy => h y (List.mem_cons_of_mem _ hy))]
    have := h x (List.mem_cons_self ..)
    unfold ex1
    rw [this]
    cases m x.dst <;> rfl

theorem memR_full {rooms : Nat} (r : Int) (h0 : 0 ≤ r) (h1 : r < rooms) : memR (2 ^ rooms - 1) r = true := by
  unfold memR
  rw [Nat.testBit_two_pow_sub_one]
  exact decide_eq_true (by omega)

theorem qR_full {rooms : Nat} {ws : List Wy} (hv : inW rooms ws) : qR ws (2 ^ rooms - 1) = false := by
  unfold qR
  rw [ex_all _ ws (fun x hx => by rw [memR_full _ (hv x hx).1.1 (hv x hx).1.2, memR_full _ (hv x hx).2.1 (hv x hx).2.2])]
  rfl

theorem qR_rv {rooms : Nat} {ws : List Wy} (hr : rooms ≤ 6) (hv : inW rooms ws) (s : Nat) (hs : s < 2 ^ rooms) : qR ws (rv rooms s) = qP rooms ws s := by
  unfold qR qP
  rw [ex_congr hv (fun r h0 h1 => memR_rv hr hs r h0 h1)]

theorem best_against {rooms : Nat} {ws : List Wy} (hr : rooms ≤ 6) (hv : inW rooms ws) (h : agrS rooms ws = false) : bestK (qR ws) (listR (2 ^ rooms - 1)) (2 ^ rooms) = listS rooms (fewS (qP rooms ws) rooms).1 := by
  refine best_eq hr (qR_rv hr hv) (qR_full hv) ?_
  unfold agrS at h
  simpa using h

theorem listR_len (s : Nat) : (listR s).length ≤ 6 := listRK_len s 6

set_option maxHeartbeats 2000000 in
theorem againstR_any (R : Int) (A : Option Addr) (c : Nat) (ws : List Wy) (w : World) (hw : WaysAt w w.heap.size A ws) :
    Calls Tryd.prog 30 #[.agg #[.int .i64 R, .slice A ws.length c]] w (RetList w (agaS R ws).1 (agaS R ws).2) := by
  have HC := Lib.hid (fun W hW => canR19_any R A c ws W hW)
  have hw1 := fun o => (hw.alloc (Nat.le_refl _) o).mono (B' := (w.alloc o).heap.size) (by simp)
  unfold agaS
  by_cases h0 : chk R ws = 0
  rotate_left
  · rw [if_neg h0]
    unfold canS at HC
    rw [decide_eq_false h0] at HC
    simp only [Bool.false_and] at HC
    generalize chk R ws = v at h0 HC ⊢
    go_enter Tryd.func30, Tryd.ntmps30
    go_wp2_with (go_at_call 19; refine (HC.out _ (hw1 _)).mono ?_; rintro e w1 ⟨rfl, hb1⟩; obtain ⟨q1, q2, q3⟩ := bcell hb1; simp only [World.size_alloc] at q1 q2 q3)
    go_ret2
    exact retList_none (((Below.refl _ _).alloc (Nat.le_refl _) _).trans (hb1.mono (by simp)))
  obtain ⟨rooms, rfl, _, hv, _⟩ := chk_ok h0
  rw [if_pos h0, show ((rooms : Int).toNat) = rooms from rfl]
  unfold canS at HC
  rw [h0, show ((rooms : Int).toNat) = rooms from rfl] at HC
  simp only [decide_true, Bool.true_and] at HC
  cases ha : agrS rooms ws
  rotate_left
  · rw [ha] at HC
    simp only [if_true]
    clear ha hv h0
    go_enter Tryd.func30, Tryd.ntmps30
    go_wp2_with (go_at_call 19; refine (HC.out _ (hw1 _)).mono ?_; rintro e w1 ⟨rfl, hb1⟩; obtain ⟨q1, q2, q3⟩ := bcell hb1; simp only [World.size_alloc] at q1 q2 q3)
    go_ret2
    exact retList_none (((Below.refl _ _).alloc (Nat.le_refl _) _).trans (hb1.mono (by simp)))
  rw [ha] at HC
  simp only [Bool.false_eq_true, if_false]
  rw [← best_against hv.r6 hv.inW ha]
  have hr6 := hv.r6
  have hp := pow_le_64 hr6
  have hp1 : 1 ≤ 2 ^ rooms := Nat.one_le_two_pow
  have hsh := shl_val hr6
  have hr0 : (0 : Int) ≤ (rooms : Int) := by omega
  have hr1 : (rooms : Int) ≤ 6 := by omega
  generalize 2 ^ rooms = N at hp hp1 hsh ⊢
  have HQ := Lib.hid (fun k W (hk : k < 64) h => proofR_any rooms k A c ws W hv hk h)
  change Hid (∀ (k : Nat) W, k < 64 → WaysAt W W.heap.size A ws → Calls Tryd.prog 70 #[.agg #[.int .i64 rooms, .slice A ws.length c], .int .i64 k] W fun e w' => e = .returned (.bool (qR ws k)) ∧ Below W.heap.size W w') at HQ
  generalize qR ws = q at HQ ⊢
  have HS := Lib.hid (fun W => listed_any (N - 1) W (by omega))
  have hcN : IntKind.i64.wrap ((N : Int) - 1) = ((N - 1 : Nat) : Int) := by rw [IntKind.wrap_i64]; omega
  generalize N - 1 = M at HS hcN ⊢
  clear ha hv h0
  obtain ⟨z, hz⟩ : ∃ z, z = listR M := ⟨_, rfl⟩
  rw [← hz] at HS ⊢
  clear hz
  go_enter Tryd.func30, Tryd.ntmps30
  go_wp2_with (first
    | (go_at_call 19; refine (HC.out _ (hw1 _)).mono ?_; rintro e w1 ⟨rfl, hb1⟩; obtain ⟨q1, q2, q3⟩ := bcell hb1; simp only [World.size_alloc] at q1 q2 q3)
    | (go_at_call 69; refine (HS.out _).mono ?_; rintro e w2 ⟨A2, c2, rfl, hA2, hb2⟩; obtain ⟨r1, r2, r3⟩ := bcell hb2))
  have hb0 : Below w.heap.size w w2 := ((Below.refl _ _).alloc (Nat.le_refl _) _).trans ((hb1.mono (by simp)).trans (hb2.mono (by omega)))
  have hsz2 : w.heap.size < w2.heap.size := by omega
  have hc0 : w2.cell? ⟨w.heap.size, 0, none⟩ = some (.int .i64 rooms) := by rw [r1 _ _ (by omega), q1 _ _ (by omega)]; simp [go_sem]
  have hc1 : w2.cell? ⟨w.heap.size, 1, none⟩ = some (.slice A ws.length c) := by rw [r1 _ _ (by omega), q1 _ _ (by omega)]; simp [go_sem]
  have hw2 := (hw.below hb0 (Nat.le_refl _)).mono (show w.heap.size ≤ w2.heap.size by omega)
  clear q1 q2 q3 r1 r2 r3 hb1 hb2
  go_loopw [6, 7] (fun v i wr => ∃ (k : Nat) (L : List Int) (A' : Option Addr) (c' : Nat), k ≤ N ∧ i = .int .i64 k ∧ v = .slice A' L.length c' ∧ Hid (L = bestK q z k) ∧ IntsAt wr wr.heap.size A' L ∧ Below w2.heap.size w2 wr) (fun _ i _ => N - (intOf i).toNat)
  case atStart => exact ⟨0, z, A2, c2, Nat.zero_le _, rfl, rfl, Lib.hid rfl, hA2, Below.refl _ _⟩
  case round =>
    obtain ⟨k, L, A', c', hk, rfl, rfl, HL, hA', hbw⟩ := hrel
    have hd0 := (hbw.cell (p := ⟨w.heap.size, 0, none⟩) (by simp; omega)).trans hc0
    have hd1 := (hbw.cell (p := ⟨w.heap.size, 1, none⟩) (by simp; omega)).trans hc1
    have hww := (hw2.below hbw (by omega)).mono hbw.size
    have hsz : w.heap.size < wr.heap.size := by have := hbw.size; omega
    by_cases hlt : k < N
    · have hk64 : k < 64 := by omega
      have hki : (k : Int) < (N : Int) := by omega
      have H70 := Lib.hid (fun W h => HQ.out k W hk64 h)
      have H69 := Lib.hid (fun W => listed_any k W hk64)
      have HB := Lib.hid (fun W D d hx hy => before_any D A' d c' (listR k) L W (by have := listR_len k; omega) hx hy)
      have HK : Hid (bestK q z (k + 1) = if q k = true ∧ bef (listR k) L = true then listR k else L) := Lib.hid (by rw [bestK, HL.out])
      generalize listR k = K at H69 HB HK
      rcases hq : q k with _ | _
      · rw [hq] at H70 HK
        have HK' := Lib.hid (show L = bestK q z (k + 1) by rw [HK.out, if_neg (by simp)])
        clear HK hq HL
        go_wp2_with (go_at_call 70; refine (H70.out _ (by assumption)).mono ?_; rintro e w3 ⟨rfl, hb3⟩)
        go_roundw
        case rel => exact ⟨k + 1, L, A', c', by omega, by go_num, rfl, HK', (hA'.below hb3 (Nat.le_refl _)).mono hb3.size, hbw.trans (hb3.mono hbw.size)⟩
        case measure => simp [intOf]; omega
      · rw [hq] at H70 HK
        rcases hbf : bef K L with _ | _
        · rw [hbf] at HB HK
          have HK' := Lib.hid (show L = bestK q z (k + 1) by rw [HK.out, if_neg (by simp)])
          clear HK hq HL hbf
          go_wp2_with (first
            | (go_at_call 70; refine (H70.out _ (by assumption)).mono ?_; rintro e w3 ⟨rfl, hb3⟩; have hA3 := (hA'.below hb3 (Nat.le_refl _)).mono hb3.size)
            | (go_at_call 69; refine (H69.out _).mono ?_; rintro e w4 ⟨A4, c4, rfl, hK4, hb4⟩; have hA4 := (hA3.below hb4 (Nat.le_refl _)).mono hb4.size)
            | (go_at_call 71; refine (HB.out _ _ _ hK4 hA4).mono ?_; rintro e w5 ⟨rfl, hb5⟩))
          go_roundw
          case rel => exact ⟨k + 1, L, A', c', by omega, by go_num, rfl, HK', (hA4.below hb5 (Nat.le_refl _)).mono hb5.size, hbw.trans ((hb3.mono hbw.size).trans ((hb4.mono (by have := hbw.size; have := hb3.size; omega)).trans (hb5.mono (by have := hbw.size; have := hb3.size; have := hb4.size; omega))))⟩
          case measure => simp [intOf]; omega
        · rw [hbf] at HB HK
          have HK' := Lib.hid (show K = bestK q z (k + 1) by rw [HK.out, if_pos (by simp)])
          clear HK hq HL hbf
          go_wp2_with (first
            | (go_at_call 70; refine (H70.out _ (by assumption)).mono ?_; rintro e w3 ⟨rfl, hb3⟩; have hA3 := (hA'.below hb3 (Nat.le_refl _)).mono hb3.size)
            | (go_at_call 71; refine (HB.out _ _ _ hK4 hA4).mono ?_; rintro e w5 ⟨rfl, hb5⟩; have h5 := True.intro)
            | (go_at_call 69; (fail_if_success (have := h5)); refine (H69.out _).mono ?_; rintro e w4 ⟨A4, c4, rfl, hK4, hb4⟩; have hA4 := (hA3.below hb4 (Nat.le_refl _)).mono hb4.size)
            | (go_at_call 69; refine (H69.out _).mono ?_; rintro e w6 ⟨A6, c6, rfl, hK6, hb6⟩))
          go_roundw
          case rel => exact ⟨k + 1, K, A6, c6, by omega, by go_num, rfl, HK', hK6, hbw.trans ((hb3.mono hbw.size).trans ((hb4.mono (by have := hbw.size; have := hb3.size; omega)).trans ((hb5.mono (by have := hbw.size; have := hb3.size; have := hb4.size; omega)).trans (hb6.mono (by have := hbw.size; have := hb3.size; have := hb4.size; have := hb5.size; omega)))))⟩
          case measure => simp [intOf]; omega
    · have : k = N := by omega
      subst this
      have HT := Lib.hid (HL.out)
      clear HL
      go_wp2
      go_ret2
      refine ⟨A', c', by rw [← HT.out]; rfl, by rw [← HT.out]; exact hA', hb0.trans (hbw.mono (by omega))⟩
end Go.Proofs.YtcebihijnedekaaDoor
