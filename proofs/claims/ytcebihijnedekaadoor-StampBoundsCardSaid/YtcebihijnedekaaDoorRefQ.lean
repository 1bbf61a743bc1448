/-
  The reference: rooms that prove the end of a span.
-/
import Derived.Test.YtcebihijnedekaaDoorRefP
namespace Go.Proofs.YtcebihijnedekaaDoor
open Go.RowKit


set_option maxRecDepth 100000 in
set_option maxHeartbeats 2000000 in
theorem boundR_lo (rooms n : Nat) (P1 P2 : Int) (A : Option Addr) (c : Nat) (ws : List Wy) (x : Wy) (w : World) (hv : ValB rooms ws) (hw : WaysAt w w.heap.size A ws) (hx : ws[n]? = some x) (hs : spnS rooms ws n = (P1, P2, 0)) (hne : ¬ P1 = x.lo) :
    Calls Tryd.prog 43 #[.agg #[.int .i64 rooms, .slice A ws.length c], .int .i64 n, .bool false] w (RetList w (bestK (qRB ws x false P1) (listR (2 ^ rooms - 1)) (2 ^ rooms)) 0) := by
  have HS := Lib.hid (fun W hW => span34_any rooms n A c ws W hW)
  rw [hs] at HS
  dsimp only at HS
  have hw1 := fun o => (hw.alloc (Nat.le_refl _) o).mono (B' := (w.alloc o).heap.size) (by simp)
  have hni : (n : Int) < (ws.length : Int) := by have := lt_of_get hx; omega
  have hn0 : (0 : Int) ≤ (n : Int) := by omega
  have hne' : (P1 == x.lo) = false := by simpa using hne
  have hr6 := hv.r6
  have hp := pow_le_64 hr6
  have hp1 : 1 ≤ 2 ^ rooms := Nat.one_le_two_pow
  have hsh := shl_val hr6
  have hr0 : (0 : Int) ≤ (rooms : Int) := by omega
  have hr1 : (rooms : Int) ≤ 6 := by omega
  have hway := hv.way x (mem_of_get hx)
  obtain ⟨⟨hx1, hx2⟩, ⟨hx3, hx4⟩, _⟩ := hway
  have H80 := Lib.hid (fun (k : Nat) W (hk : k < 64) => enters_any k x W hk (by omega) (by omega) (by omega) (by omega))
  have H82 := Lib.hid (fun (k : Nat) W (hk : k < 64) (hl : en (memR k) x = true) hW => saysR_any rooms k n A c ws x W hv hk hx (.inr hl) hW)
  have HQ : Hid (∀ k, qRB ws x false P1 k = (en (memR k) x && decide (saysV (memR k) ws x = P1))) := Lib.hid (fun k => rfl)
  generalize qRB ws x false P1 = q at HQ ⊢
  obtain ⟨bb, off, rfl, hb, z1, z2, z3, z4⟩ := hw n x hx
  have hbz : bb < w.heap.size + 1 := by omega
  generalize 2 ^ rooms = N at hp hp1 hsh ⊢
  have H69 := Lib.hid (fun W => listed_any (N - 1) W (lt64 hp1 hp))
  have hcN : IntKind.i64.wrap ((N : Int) - 1) = ((N - 1 : Nat) : Int) := wrapN1 hp1 hp
  generalize hM : N - 1 = M at H69 hcN ⊢
  obtain ⟨z, hz⟩ : ∃ z, z = listR M := ⟨_, rfl⟩
  rw [← hz] at H69 ⊢
  clear hz hM hv hs hne hx hw hx1 hx2 hx3 hx4
  go_enter Tryd.func43, Tryd.ntmps43
  go_wp2_with (first
    | (go_at_call 34; refine (HS.out _ (hw1 _)).mono ?_; rintro e w1 ⟨rfl, hb1⟩; obtain ⟨q1, q2, q3⟩ := bcell hb1; simp only [World.size_alloc] at q1 q2 q3; have hw2 := upw (hw1 _) hb1; have hzz : w.heap.size < w1.heap.size := (by omega); have hbz1 : bb < w1.heap.size := (by omega))
    | (go_at_call 69; refine (H69.out _).mono ?_; rintro e w2 ⟨A2, c2, rfl, hA2, hb2⟩))
  have hb0 : Below w.heap.size w w2 := ((Below.refl _ _).alloc (Nat.le_refl _) _).trans (((hb1.mono (by simp)).alloc (Nat.le_of_lt hzz) _).trans (hb2.mono (by simp; omega)))
  obtain ⟨r1, r2, r3⟩ := bcell hb2
  simp only [World.size_alloc] at r1 r2 r3
  have hsz2 : w.heap.size < w2.heap.size := by omega
  have hsg2 : w1.heap.size < w2.heap.size := by omega
  have hb12 : Below w1.heap.size w1 w2 := ((Below.refl _ _).alloc (Nat.le_refl _) _).trans (hb2.mono (by simp))
  have hc0 : w2.cell? ⟨w.heap.size, 0, none⟩ = some (.int .i64 rooms) := (hb12.cell (p := ⟨w.heap.size, 0, none⟩) hzz).trans (by rw [q1 _ _ (by omega)]; simp [go_sem])
  have hc1 : w2.cell? ⟨w.heap.size, 1, none⟩ = some (.slice (some ⟨bb, off, none⟩) ws.length c) := (hb12.cell (p := ⟨w.heap.size, 1, none⟩) hzz).trans (by rw [q1 _ _ (by omega)]; simp [go_sem])
  have he0 : w2.cell? ⟨w1.heap.size, 0, none⟩ = some (.int .i64 x.src) := by rw [r1 _ _ (by omega)]; simp [go_sem]
  have he1 : w2.cell? ⟨w1.heap.size, 1, none⟩ = some (.int .i64 x.dst) := by rw [r1 _ _ (by omega)]; simp [go_sem]
  have he2 : w2.cell? ⟨w1.heap.size, 2, none⟩ = some (.int .i64 x.lo) := by rw [r1 _ _ (by omega)]; simp [go_sem]
  have he3 : w2.cell? ⟨w1.heap.size, 3, none⟩ = some (.int .i64 x.hi) := by rw [r1 _ _ (by omega)]; simp [go_sem]
  have hw3 := (hw2.below (((Below.refl _ _).alloc (Nat.le_refl _) _).trans (hb2.mono (by simp))) (Nat.le_refl _)).mono (B' := w2.heap.size) (by omega)
  have hzG : w.heap.size < w1.heap.size := hzz
  clear q1 q2 q3 r1 r2 r3 hb12 hb1 hb2 z1 z2 z3 z4 hbz hbz1 hb hw1 hw2 HS H69
  generalize w1.heap.size = g at *
  go_loopw [12, 13, 14] (fun v i _ wr => ∃ (k : Nat) (L : List Int) (A' : Option Addr) (c' : Nat), k ≤ N ∧ i = .int .i64 k ∧ v = .slice A' L.length c' ∧ Hid (L = bestK q z k) ∧ IntsAt wr wr.heap.size A' L ∧ Below w2.heap.size w2 wr) (fun _ i _ _ => N - (intOf i).toNat)
  case atStart => exact ⟨0, z, A2, c2, Nat.zero_le _, rfl, rfl, Lib.hid rfl, hA2, Below.refl _ _⟩
  case round =>
    obtain ⟨k, L, A', c', hk, rfl, rfl, HL, hA', hbw⟩ := hrel
    have d0 := (hbw.cell (p := ⟨w.heap.size, 0, none⟩) hsz2).trans hc0
    have d1 := (hbw.cell (p := ⟨w.heap.size, 1, none⟩) hsz2).trans hc1
    have e0 := (hbw.cell (p := ⟨g, 0, none⟩) hsg2).trans he0
    have e1 := (hbw.cell (p := ⟨g, 1, none⟩) hsg2).trans he1
    have e2 := (hbw.cell (p := ⟨g, 2, none⟩) hsg2).trans he2
    have e3 := (hbw.cell (p := ⟨g, 3, none⟩) hsg2).trans he3
    clear hc0 hc1 he0 he1 he2 he3
    have hww := upw hw3 hbw
    have hsw := hbw.size
    have hsz : w.heap.size < wr.heap.size := Nat.lt_of_lt_of_le hsz2 hsw
    have hsg : g < wr.heap.size := Nat.lt_of_lt_of_le hsg2 hsw
    by_cases hlt : k < N
    · have hk64 : k < 64 := Nat.lt_of_lt_of_le hlt hp
      have hki : (k : Int) < (N : Int) := Int.ofNat_lt.2 hlt
      have hk0 : (0 : Int) ≤ (k : Int) := Int.natCast_nonneg k
      have K80 := Lib.hid (fun W => H80.out k W hk64)
      have K82 := Lib.hid (fun W hl h => H82.out k W hk64 hl h)
      have HQk := HQ.out k
      have H69 := Lib.hid (fun W => listed_any k W hk64)
      have HB := Lib.hid (fun W D d hx hy => before_any D A' d c' (listR k) L W (by have := listR_len k; omega) hx hy)
      have HK : Hid (bestK q z (k + 1) = if q k = true ∧ bef (listR k) L = true then listR k else L) := Lib.hid (by rw [bestK, HL.out])
      generalize listR k = K at H69 HB HK
      generalize saysV (memR k) ws x = V at K82 HQk
      generalize en (memR k) x = lvb at K80 K82 HQk
      clear H80 H82 HL HQ
      cases lvb
      · rw [Bool.false_and] at HQk
        rw [HQk] at HK
        have HK' := Lib.hid (show L = bestK q z (k + 1) by rw [HK.out, if_neg (by simp)])
        clear HK HQk
        go_wp2_with (go_at_call 81; refine (K80.out _).mono ?_; rintro e w6 ⟨rfl, hb6⟩; have hs6 := hb6.size)
        go_roundw
        case rel => exact ⟨k + 1, L, A', c', hlt, by go_num, rfl, HK', upi hA' hb6, hbw.trans (hb6.mono hsw)⟩
        case measure => simp [intOf]; omega
      · rw [Bool.true_and] at HQk
        have K82b := Lib.hid (fun W h => K82.out W rfl h)
        clear K82
        by_cases hve : V = P1
        · rw [decide_eq_true hve] at HQk
          subst hve
          rw [HQk] at HK
          rcases hbf : bef K L with _ | _
          · rw [hbf] at HB HK
            have HK' := Lib.hid (show L = bestK q z (k + 1) by rw [HK.out, if_neg (by simp)])
            clear HK HQk hbf
            go_wp2_with (first
              | (go_at_call 81; refine (K80.out _).mono ?_; rintro e w6 ⟨rfl, hb6⟩; have hs6 := hb6.size; have hw6 := upw hww hb6; have d0' := (hb6.cell (p := ⟨w.heap.size, 0, none⟩) hsz).trans d0; have d1' := (hb6.cell (p := ⟨w.heap.size, 1, none⟩) hsz).trans d1)
              | (go_at_call 82; refine (K82b.out _ hw6).mono ?_; rintro e w3 ⟨rfl, hb3⟩; have hs3 := hb3.size; have hA3 := upi (upi hA' hb6) hb3)
              | (go_at_call 69; refine (H69.out _).mono ?_; rintro e w4 ⟨A4, c4, rfl, hK4, hb4⟩; have hA4 := upi hA3 hb4; have hs4 := hb4.size)
              | (go_at_call 71; refine (HB.out _ _ _ hK4 hA4).mono ?_; rintro e w5 ⟨rfl, hb5⟩; have hs5 := hb5.size; have mk := True.intro))
            go_roundw
            case rel => exact ⟨k + 1, L, A', c', hlt, by go_num, rfl, HK', upi hA4 hb5, hbw.trans ((hb6.mono hsw).trans ((hb3.mono (by omega)).trans ((hb4.mono (by omega)).trans (hb5.mono (by omega)))))⟩
            case measure => simp [intOf]; omega
          · rw [hbf] at HB HK
            have HK' := Lib.hid (show K = bestK q z (k + 1) by rw [HK.out, if_pos (by simp)])
            clear HK HQk hbf
            go_wp2_with (first
              | (go_at_call 81; refine (K80.out _).mono ?_; rintro e w6 ⟨rfl, hb6⟩; have hs6 := hb6.size; have hw6 := upw hww hb6; have d0' := (hb6.cell (p := ⟨w.heap.size, 0, none⟩) hsz).trans d0; have d1' := (hb6.cell (p := ⟨w.heap.size, 1, none⟩) hsz).trans d1)
              | (go_at_call 82; refine (K82b.out _ hw6).mono ?_; rintro e w3 ⟨rfl, hb3⟩; have hs3 := hb3.size; have hA3 := upi (upi hA' hb6) hb3)
              | (go_at_call 71; refine (HB.out _ _ _ hK4 hA4).mono ?_; rintro e w5 ⟨rfl, hb5⟩; have hs5 := hb5.size; have mk := True.intro)
              | (go_at_call 69; (fail_if_success (have := mk)); refine (H69.out _).mono ?_; rintro e w4 ⟨A4, c4, rfl, hK4, hb4⟩; have hA4 := upi hA3 hb4; have hs4 := hb4.size)
              | (go_at_call 69; refine (H69.out _).mono ?_; rintro e w7 ⟨A6, c6, rfl, hK6, hb7⟩))
            go_roundw
            case rel => exact ⟨k + 1, K, A6, c6, hlt, by go_num, rfl, HK', hK6, hbw.trans ((hb6.mono hsw).trans ((hb3.mono (by omega)).trans ((hb4.mono (by omega)).trans ((hb5.mono (by omega)).trans (hb7.mono (by omega))))))⟩
            case measure => simp [intOf]; omega
        · have hve' : (V == P1) = false := by simpa using hve
          rw [decide_eq_false hve] at HQk
          rw [HQk] at HK
          have HK' := Lib.hid (show L = bestK q z (k + 1) by rw [HK.out, if_neg (by simp)])
          clear HK HQk hve
          go_wp2_with (first
            | (go_at_call 81; refine (K80.out _).mono ?_; rintro e w6 ⟨rfl, hb6⟩; have hs6 := hb6.size; have hw6 := upw hww hb6; have d0' := (hb6.cell (p := ⟨w.heap.size, 0, none⟩) hsz).trans d0; have d1' := (hb6.cell (p := ⟨w.heap.size, 1, none⟩) hsz).trans d1)
            | (go_at_call 82; refine (K82b.out _ hw6).mono ?_; rintro e w3 ⟨rfl, hb3⟩; have hs3 := hb3.size; have hA3 := upi (upi hA' hb6) hb3))
          go_roundw
          case rel => exact ⟨k + 1, L, A', c', hlt, by go_num, rfl, HK', hA3, hbw.trans ((hb6.mono hsw).trans (hb3.mono (by omega)))⟩
          case measure => simp [intOf]; omega
    · have : k = N := by omega
      subst this
      have HT := Lib.hid (HL.out)
      clear HL
      go_wp2
      go_ret2
      refine ⟨A', c', by rw [← HT.out]; rfl, by rw [← HT.out]; exact hA', hb0.trans (hbw.mono (by omega))⟩

theorem spnS_err {R k : Int} {ws : List Wy} {gr : Bool} (h : ¬ (spnS R ws k).2.2 = 0) : bndS R ws k gr = ([], (spnS R ws k).2.2) := by
  unfold spnS bndS at *
  split <;> rename_i h0
  · rw [if_pos h0] at h
    split <;> rename_i ha
    · rw [if_pos ha] at h
      split at h <;> rename_i hx <;> exact absurd rfl h
    · rfl
  · rfl

/-- THE REFERENCE's Bound. -/
theorem boundR_any (R k : Int) (gr : Bool) (A : Option Addr) (c : Nat) (ws : List Wy) (w : World) (hw : WaysAt w w.heap.size A ws) :
    Calls Tryd.prog 43 #[.agg #[.int .i64 R, .slice A ws.length c], .int .i64 k, .bool gr] w (RetList w (bndS R ws k gr).1 (bndS R ws k gr).2) := by
  by_cases he : (spnS R ws k).2.2 = 0
  · by_cases h0 : chkN R ws k = 0
    · obtain ⟨hk0, n, x, rfl, hx⟩ := chkN_ok h0
      obtain ⟨rooms, rfl, _, hv, _⟩ := chk_ok hk0
      have hs := spn_of h0 hx
      have hag : agrS rooms ws = true := by
        cases ha : agrS rooms ws
        · rw [hs, ha] at he; simp at he
        · rfl
      rw [hag] at hs
      simp only [if_true] at hs
      have hb : bndS rooms ws n gr = if endS rooms ws x gr = toldS x gr then ([], 0) else (listS rooms (fewS (qB rooms ws x (wantS gr) (endS rooms ws x gr)) rooms).1, 0) := by
        unfold bndS
        rw [if_pos h0, show ((rooms : Int).toNat) = rooms from rfl, if_pos hag, show ((n : Int).toNat) = n from rfl, hx]
      rw [hb]
      by_cases ht : endS rooms ws x gr = toldS x gr
      · rw [if_pos ht]
        refine boundR_told rooms _ _ n gr A c ws x w hw hx hs ?_
        cases gr <;> exact ht
      · rw [if_neg ht, ← best_bound hv hx gr ht]
        cases gr
        · exact boundR_lo rooms n _ _ A c ws x w hv hw hx hs ht
        · exact boundR_hi rooms n _ _ A c ws x w hv hw hx hs ht
    · have : spnS R ws k = (0, 0, chkN R ws k) := by unfold spnS; rw [if_neg h0]
      rw [this] at he
      exact absurd he h0
  · rw [spnS_err he]
    exact boundR_err R k gr A c ws w hw he
end Go.Proofs.YtcebihijnedekaaDoor
