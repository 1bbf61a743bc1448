/-
  The reference: the set of a list of rooms, and whether rooms are accepted as a proof.
-/
import Derived.Test.YtcebihijnedekaaDoorRefC
import Derived.Test.YtcebihijnedekaaDoorMathC
import Derived.Test.YtcebihijnedekaaDoorWalkN
import Derived.Deep.QuietTactic
import Derived.BigQuiet
namespace Go.Proofs.YtcebihijnedekaaDoor
open Go.RowKit

theorem shlR_val {r : Int} (h0 : 0 ≤ r) (h1 : r < 6) : wrap64 (2 ^ r.toNat) = ((2 ^ r.toNat : Nat) : Int) := by
  obtain ⟨k, rfl⟩ := Int.eq_ofNat_of_zero_le h0
  match k, h1 with
  | 0, _ | 1, _ | 2, _ | 3, _ | 4, _ | 5, _ => decide +kernel

theorem or_bitR {s : Nat} {r : Int} (hs : s < 64) (h0 : 0 ≤ r) (h1 : r < 6) :
    bits .or .i64 (s : Int) ((2 ^ r.toNat : Nat) : Int) = ((s ||| 2 ^ r.toNat : Nat) : Int) ∧ s ||| 2 ^ r.toNat < 64 := by
  have hp : 2 ^ r.toNat < 64 := Nat.lt_of_le_of_lt (Nat.pow_le_pow_right (by decide) (show r.toNat ≤ 5 by omega)) (by decide)
  exact ⟨i64_or_nat _ _ (by omega) (by omega), Nat.or_lt_two_pow (n := 6) hs hp⟩

theorem setRR_lt {rooms : Nat} (hr : rooms ≤ 6) : ∀ (l : List Int) (s : Nat) (z : Int), s < 64 → (setRR rooms l s z).1 < 64
  | [], s, z, h => h
  | r :: l, s, z, h => by
    unfold setRR
    split
    · exact (by decide)
    · split
      · exact (by decide)
      · exact setRR_lt hr l _ _ (or_bitR h (by omega) (by omega)).2

theorem in_any' (n lo hi : Int) (w : World) : Calls Tryd.prog 61 #[.int .i64 n, .int .i64 lo, .int .i64 hi] w fun e w' => e = .returned (.bool (inB n lo hi)) ∧ w' = w := (in_any n lo hi w).mono fun _ _ ⟨he, hw⟩ => ⟨he, hw.symm⟩

set_option maxHeartbeats 1000000 in
theorem roomsR_any (rooms : Nat) (A D : Option Addr) (n c d : Nat) (l : List Int) (w : World) (hr6 : rooms ≤ 6) (hl : l.length ≤ 1000) (hw : IntsAt w w.heap.size D l) :
    Calls Tryd.prog 74 #[.agg #[.int .i64 rooms, .slice A n c], .slice D l.length d] w fun e w' => e = .returned (.tuple #[.int .i64 ((setRR rooms l 0 (-1)).1 : Nat), .int .i64 (setRR rooms l 0 (-1)).2]) ∧ Below w.heap.size w w' := by
  go_enter Tryd.func74, Tryd.ntmps74
  go_wp2
  obtain ⟨W0, hW0⟩ : ∃ W0, W0 = w.alloc (.cells #[.int .i64 rooms, .slice A n c] 30) := ⟨_, rfl⟩
  have hz0 : W0.heap.size = w.heap.size + 1 := by rw [hW0]; simp
  have hb0 : Below w.heap.size w W0 := by rw [hW0]; exact (Below.refl _ _).alloc (Nat.le_refl _) _
  have hc0 : W0.cell? ⟨w.heap.size, 0, none⟩ = some (.int .i64 rooms) := by rw [hW0]; simp [go_sem]
  have hw0 := hw.below hb0 (Nat.le_refl _)
  rw [← hW0]
  clear hW0
  go_loopw [6, 7] (fun st i wr => ∃ (k s : Nat) (z : Int), k ≤ l.length ∧ i = .int .i64 k ∧ st = .int .i64 s ∧ s < 64 ∧ Hid (setRR rooms (l.drop k) s z = setRR rooms l 0 (-1)) ∧ Hid (k = 0 ∧ z = -1 ∨ 0 < k ∧ l[k - 1]? = some z) ∧ Below W0.heap.size W0 wr) (fun _ i _ => l.length - (intOf i).toNat)
  case atStart => exact ⟨0, 0, -1, Nat.zero_le _, rfl, rfl, by decide, Lib.hid rfl, Lib.hid (.inl ⟨rfl, rfl⟩), Below.refl _ _⟩
  case round =>
    obtain ⟨k, s, z, hk, rfl, rfl, hs, HK, HZ, hbw⟩ := hrel
    have hd0 := (hbw.cell (p := ⟨w.heap.size, 0, none⟩) (by simp; omega)).trans hc0
    have hsz : w.heap.size < wr.heap.size := by have := hbw.size; omega
    have hbT : Below w.heap.size w wr := hb0.trans (hbw.mono (by omega))
    have hww := hw0.below hbw (by omega)
    by_cases hlt : k < l.length
    · have hx : l[k]? = some l[k] := List.getElem?_eq_getElem hlt
      generalize l[k] = r at hx
      have HX := Lib.hid hx
      obtain ⟨b, off, rfl, hb, h1⟩ := hww k r hx
      have hki : (k : Int) < (l.length : Int) := by omega
      have hk0 : (0 : Int) ≤ (k : Int) := by omega
      have hr0 : (0 : Int) ≤ (rooms : Int) := by omega
      have hr1 : (rooms : Int) ≤ 6 := by omega
      have hst := HK.out
      rw [drop_cons hx, setRR] at hst
      clear hx HK hw hw0
      have I1 := Lib.hid (fun W => in_any' r 0 (rooms - 1) W)
      by_cases a1 : 0 ≤ r ∧ r ≤ (rooms : Int) - 1
      rotate_left
      · rw [if_pos (by omega)] at hst
        rw [inB_f a1] at I1
        have HT := Lib.hid hst
        clear hst a1 hww
        go_wp2
        go_quiet ((go_at_call 61; exact Calls.quiet_of_same (I1.out _)))
        go_wp2
        go_ret2
        exact ⟨by rw [← HT.out]; rfl, by first | exact below_drewN' hbT _ | exact below_drewN' (below_drewN' hbT _) _⟩
      rw [if_neg (by omega)] at hst
      rw [inB_t a1] at I1
      have a2 : 0 ≤ r := a1.1
      have a3 : r < 6 := by omega
      clear a1
      rcases HZ.out with ⟨rfl, rfl⟩ | ⟨hkp, hz⟩
      · rw [if_neg (by omega)] at hst
        have HT := Lib.hid hst
        clear hst HZ
        simp only [Nat.add_zero] at h1
        obtain ⟨ob1, ob2⟩ := or_bitR hs a2 a3
        have hsh := shlR_val a2 a3
        generalize 2 ^ r.toNat = t at ob1 ob2 hsh HT
        generalize s ||| t = u at ob1 ob2 HT
        go_wp2
        go_quiet ((go_at_call 61; exact Calls.quiet_of_same (I1.out _)))
        go_wp2
        go_quiet (fail)
        go_wp2
        try simp only [hsh, ob1]
        go_roundw
        case rel => exact ⟨0 + 1, u, r, by omega, by go_num, rfl, ob2, HT, Lib.hid (.inr ⟨by omega, HX.out⟩), by first | exact below_drewN' hbw _ | exact below_drewN' (below_drewN' hbw _) _⟩
        case measure => simp [intOf]; omega
      · obtain ⟨j, hj⟩ : ∃ j, j = k - 1 := ⟨_, rfl⟩
        rw [← hj] at hz
        obtain ⟨b', off', e', hb', h2⟩ := hww j z hz
        cases e'
        have hk1 : (0 : Int) < (k : Int) := by omega
        have hj0 : (0 : Int) ≤ (j : Int) := by omega
        have hj1 : (j : Int) < (l.length : Int) := by omega
        have hwk : IntKind.i64.wrap ((k : Int) - 1) = (j : Int) := by rw [IntKind.wrap_i64]; omega
        clear hj
        by_cases a4 : r ≤ z
        · rw [if_pos a4] at hst
          have HT := Lib.hid hst
          clear hst HZ hz hww
          go_wp2
          go_quiet ((go_at_call 61; exact Calls.quiet_of_same (I1.out _)))
          go_wp2
          go_quiet (fail)
          go_wp2
          go_ret2
          exact ⟨by rw [← HT.out]; rfl, by first | exact below_drewN' hbT _ | exact below_drewN' (below_drewN' hbT _) _⟩
        · rw [if_neg a4] at hst
          have HT := Lib.hid hst
          clear hst HZ hz hww
          obtain ⟨ob1, ob2⟩ := or_bitR hs a2 a3
          have hsh := shlR_val a2 a3
          generalize 2 ^ r.toNat = t at ob1 ob2 hsh HT
          generalize s ||| t = u at ob1 ob2 HT
          go_wp2
          go_quiet ((go_at_call 61; exact Calls.quiet_of_same (I1.out _)))
          go_wp2
          go_quiet (fail)
          go_wp2
          try simp only [hsh, ob1]
          go_roundw
          case rel => exact ⟨k + 1, u, r, by omega, by go_num, rfl, ob2, HT, Lib.hid (.inr ⟨by omega, HX.out⟩), by first | exact below_drewN' hbw _ | exact below_drewN' (below_drewN' hbw _) _⟩
          case measure => simp [intOf]; omega
    · have : k = l.length := by omega
      subst this
      have HT := Lib.hid (show setRR rooms l 0 (-1) = (s, 0) by rw [← HK.out, List.drop_length]; rfl)
      clear HK
      go_wp2
      go_ret2
      exact ⟨by rw [HT.out]; rfl, hbT⟩

set_option maxHeartbeats 1000000 in
theorem provesR_any (R : Int) (A D : Option Addr) (c d : Nat) (ws : List Wy) (l : List Int) (w : World) (hl : l.length ≤ 1000) (hw : WaysAt w w.heap.size A ws) (hd : IntsAt w w.heap.size D l) :
    Calls Tryd.prog 32 #[.agg #[.int .i64 R, .slice A ws.length c], .slice D l.length d] w fun e w' => e = .returned (.int .i64 (prvS R ws l)) ∧ Below w.heap.size w w' := by
  have HC := Lib.hid (fun W hW => checkR_any R A c ws W hW)
  have hw1 := fun o => (hw.alloc (Nat.le_refl _) o).mono (B' := (w.alloc o).heap.size) (by simp)
  have hd1 := fun o => (hd.alloc (Nat.le_refl _) o).mono (B' := (w.alloc o).heap.size) (by simp)
  unfold prvS
  by_cases h0 : chk R ws = 0
  · obtain ⟨rooms, rfl, _, hv, _⟩ := chk_ok h0
    rw [if_pos h0, show ((rooms : Int).toNat) = rooms from rfl]
    rw [h0] at HC
    clear h0
    have HL := Lib.hid (fun W hD => roomsR_any rooms A D ws.length c d l W hv.r6 hl hD)
    have hs64 := setRR_lt hv.r6 l 0 (-1) (by decide)
    obtain ⟨q1, q2⟩ := setRR_eq (rooms := rooms) l 0 0 (-1) (fun r _ _ => by unfold memR memP; simp)
    have q3 : (setS rooms l 0 (-1)).2 = 0 → ex (memP rooms (setS rooms l 0 (-1)).1) ws = ex (memR (setRR rooms l 0 (-1)).1) ws := fun h => (ex_congr hv.inW (q2 h)).symm
    generalize setS rooms l 0 (-1) = r' at q1 q3 ⊢
    generalize setRR rooms l 0 (-1) = r at HL hs64 q1 q3 ⊢
    clear q2
    obtain ⟨s, er⟩ := r
    obtain ⟨s', er'⟩ := r'
    dsimp only at HL hs64 q1 q3 ⊢
    subst q1
    have HE := Lib.hid (fun W h => proofR_any rooms s A c ws W hv hs64 h)
    clear hv
    by_cases h1 : er = 0
    · rw [q3 h1]
      generalize ex (memR s) ws = E at HE ⊢
      subst h1
      rw [if_pos rfl]
      clear q3
      by_cases h2 : 0 < E
      all_goals
        first | rw [if_pos h2] | rw [if_neg h2]
        first | rw [decide_eq_true h2] at HE | rw [decide_eq_false h2] at HE
        go_enter Tryd.func32, Tryd.ntmps32
        go_wp2_with (first
          | (go_at_call 24; refine (HC.out _ (hw1 _)).mono ?_; rintro e w1 ⟨rfl, hb1⟩; obtain ⟨q1, q2, q3⟩ := bcell hb1; simp only [World.size_alloc] at q1 q2 q3; have hw2 := ((hw1 _).below hb1 (Nat.le_refl _)).mono hb1.size; have hd2 := ((hd1 _).below hb1 (Nat.le_refl _)).mono hb1.size)
          | (go_at_call 74; refine (HL.out _ (by assumption)).mono ?_; rintro e w2 ⟨rfl, hb2⟩; obtain ⟨r1, r2, r3⟩ := bcell hb2; have hw3 := (hw2.below hb2 (Nat.le_refl _)).mono hb2.size; have hz3 : w.heap.size < w1.heap.size := (by omega))
          | (go_at_call 70; refine (HE.out _ (by assumption)).mono ?_; rintro e w3 ⟨rfl, hb3⟩))
        go_ret
        exact ⟨rfl, ((Below.refl _ _).alloc (Nat.le_refl _) _).trans ((hb1.mono (by simp)).trans ((hb2.mono (by omega)).trans (hb3.mono (by omega))))⟩
    · rw [if_neg h1]
      go_enter Tryd.func32, Tryd.ntmps32
      go_wp2_with (first
        | (go_at_call 24; refine (HC.out _ (hw1 _)).mono ?_; rintro e w1 ⟨rfl, hb1⟩; obtain ⟨q1, q2, q3⟩ := bcell hb1; simp only [World.size_alloc] at q1 q2 q3; have hd2 := ((hd1 _).below hb1 (Nat.le_refl _)).mono hb1.size)
        | (go_at_call 74; refine (HL.out _ (by assumption)).mono ?_; rintro e w2 ⟨rfl, hb2⟩))
      go_ret
      exact ⟨rfl, ((Below.refl _ _).alloc (Nat.le_refl _) _).trans ((hb1.mono (by simp)).trans (hb2.mono (by omega)))⟩
  · rw [if_neg h0]
    generalize chk R ws = v at h0 HC ⊢
    go_enter Tryd.func32, Tryd.ntmps32
    go_wp2_with (go_at_call 24; refine (HC.out _ (hw1 _)).mono ?_; rintro e w1 ⟨rfl, hb1⟩; obtain ⟨q1, q2, q3⟩ := bcell hb1; simp only [World.size_alloc] at q1 q2 q3)
    go_ret
    exact ⟨rfl, ((Below.refl _ _).alloc (Nat.le_refl _) _).trans (hb1.mono (by simp))⟩
end Go.Proofs.YtcebihijnedekaaDoor
