/-
  The reference: First, and whether a flow is accepted.
-/
import Derived.Test.YtcebihijnedekaaDoorRefK
import Derived.Test.YtcebihijnedekaaDoorRefD
import Derived.Test.YtcebihijnedekaaDoorWalkU
import Derived.Deep.QuietTactic
import Derived.BigQuiet
namespace Go.Proofs.YtcebihijnedekaaDoor
open Go.RowKit

set_option maxHeartbeats 1000000 in
theorem first21_any (R : Int) (A : Option Addr) (c : Nat) (ws : List Wy) (w : World) (hw : WaysAt w w.heap.size A ws) :
    Calls Tryd.prog 21 #[.agg #[.int .i64 R, .slice A ws.length c]] w (RetList w (frsS R ws).1 (frsS R ws).2) := by
  have HC := Lib.hid (fun W hW => agreeR_any R A c ws W hW)
  have hw1 := fun o => (hw.alloc (Nat.le_refl _) o).mono (B' := (w.alloc o).heap.size) (by simp)
  unfold frsS
  by_cases h0 : chkA R ws = 0
  · rw [if_pos h0]
    obtain ⟨rooms, rfl, _, hv, ha⟩ := chkA_ok h0
    rw [h0] at HC
    rw [show ((rooms : Int).toNat) = rooms from rfl]
    have HF := Lib.hid (fun W hW => firstR_any rooms A c ws W hv ha hW)
    generalize firstS rooms ws = L at HF ⊢
    clear h0 hv ha
    go_enter Tryd.func21, Tryd.ntmps21
    go_wp2_with (first
      | (go_at_call 58; refine (HC.out _ (hw1 _)).mono ?_; rintro e w1 ⟨rfl, hb1⟩; obtain ⟨q1, q2, q3⟩ := bcell hb1; simp only [World.size_alloc] at q1 q2 q3; have hw2 := upw (hw1 _) hb1)
      | (go_at_call 59; refine (HF.out _ hw2).mono ?_; rintro e w2 ⟨A2, c2, rfl, hA2, hb2⟩))
    go_ret2
    exact ⟨A2, c2, rfl, hA2, ((Below.refl _ _).alloc (Nat.le_refl _) _).trans ((hb1.mono (by simp)).trans (hb2.mono (by omega)))⟩
  · rw [if_neg h0]
    generalize chkA R ws = v at h0 HC ⊢
    go_enter Tryd.func21, Tryd.ntmps21
    go_wp2_with (go_at_call 58; refine (HC.out _ (hw1 _)).mono ?_; rintro e w1 ⟨rfl, hb1⟩; obtain ⟨q1, q2, q3⟩ := bcell hb1; simp only [World.size_alloc] at q1 q2 q3)
    go_ret2
    exact retList_none (((Below.refl _ _).alloc (Nat.le_refl _) _).trans (hb1.mono (by simp)))

theorem bal_false {rooms : Nat} {ws : List Wy} {fl : List Int} (hv : ValB rooms ws) {r : Int} (h : net r ws fl ≠ 0) : balS ws fl = false := by
  cases hb : balS ws fl with
  | false => rfl
  | true => exact absurd ((balS_iff hv).1 hb r) h

theorem bal_true {rooms : Nat} {ws : List Wy} {fl : List Int} (hv : ValB rooms ws) (h : ∀ s : Nat, s < rooms → net s ws fl = 0) : balS ws fl = true := by
  refine (balS_iff hv).2 fun r => ?_
  by_cases hr : 0 ≤ r ∧ r < rooms
  · have := h r.toNat (by omega)
    rwa [show ((r.toNat : Nat) : Int) = r by omega] at this
  · refine net_none r ws fl fun x hx => ?_
    obtain ⟨a, b, _⟩ := hv.way x hx
    omega

set_option maxHeartbeats 2000000 in
theorem verifyR_any (R : Int) (A D : Option Addr) (c d : Nat) (ws : List Wy) (fl : List Int) (w : World) (hw : WaysAt w w.heap.size A ws) (hd : IntsAt w w.heap.size D fl) :
    Calls Tryd.prog 26 #[.agg #[.int .i64 R, .slice A ws.length c], .slice D fl.length d] w fun e w' => e = .returned (.int .i64 (verS R ws fl)) ∧ Below w.heap.size w w' := by
  have HC := Lib.hid (fun W hW => checkR_any R A c ws W hW)
  have hw1 := fun o => (hw.alloc (Nat.le_refl _) o).mono (B' := (w.alloc o).heap.size) (by simp)
  unfold verS
  by_cases h0 : chk R ws = 0
  rotate_left
  · rw [if_neg h0]
    generalize chk R ws = v at h0 HC ⊢
    go_enter Tryd.func26, Tryd.ntmps26
    go_wp2_with (go_at_call 24; refine (HC.out _ (hw1 _)).mono ?_; rintro e w1 ⟨rfl, hb1⟩; obtain ⟨q1, q2, q3⟩ := bcell hb1; simp only [World.size_alloc] at q1 q2 q3)
    go_ret
    exact ⟨rfl, ((Below.refl _ _).alloc (Nat.le_refl _) _).trans (hb1.mono (by simp))⟩
  obtain ⟨rooms, rfl, _, hv, hne⟩ := chk_ok h0
  rw [if_pos h0]
  rw [h0] at HC
  have hlen := hv.len
  have hr6 := hv.r6
  clear h0
  by_cases hl : fl.length = ws.length
  rotate_left
  · rw [if_neg hl]
    have hl' : ((fl.length : Int) != (ws.length : Int)) = true := by simpa using (by omega : ¬ (fl.length : Int) = ws.length)
    go_enter Tryd.func26, Tryd.ntmps26
    go_wp2_with (go_at_call 24; refine (HC.out _ (hw1 _)).mono ?_; rintro e w1 ⟨rfl, hb1⟩; obtain ⟨q1, q2, q3⟩ := bcell hb1; simp only [World.size_alloc] at q1 q2 q3)
    go_ret
    exact ⟨rfl, ((Below.refl _ _).alloc (Nat.le_refl _) _).trans (hb1.mono (by simp))⟩
  rw [if_pos hl]
  have hl' : ((fl.length : Int) != (ws.length : Int)) = false := by simpa using (by omega : (fl.length : Int) = ws.length)
  have HL := Lib.hid hl
  have hfl12 : fl.length ≤ 12 := by omega
  clear hl
  go_enter Tryd.func26, Tryd.ntmps26
  go_wp2_with (go_at_call 24; refine (HC.out _ (hw1 _)).mono ?_; rintro e w1 ⟨rfl, hb1⟩; obtain ⟨q1, q2, q3⟩ := bcell hb1; simp only [World.size_alloc] at q1 q2 q3)
  have hb0 : Below w.heap.size w w1 := ((Below.refl _ _).alloc (Nat.le_refl _) _).trans (hb1.mono (by simp))
  have hc0 : w1.cell? ⟨w.heap.size, 0, none⟩ = some (.int .i64 rooms) := by rw [q1 _ _ (by omega)]; simp [go_sem]
  have hc1 : w1.cell? ⟨w.heap.size, 1, none⟩ = some (.slice A ws.length c) := by rw [q1 _ _ (by omega)]; simp [go_sem]
  have hw0 := hw.below hb0 (Nat.le_refl _)
  have hd0 := hd.below hb0 (Nat.le_refl _)
  clear hl' q1 q2 hb1 hw hd hw1 HC
  go_loopw [6] (fun i wr => ∃ k : Nat, k ≤ fl.length ∧ i = .int .i64 k ∧ Hid (rngL (ws.take k) (fl.take k) = true) ∧ Below w1.heap.size w1 wr) (fun i _ => fl.length - (intOf i).toNat)
  case atStart => exact ⟨0, Nat.zero_le _, rfl, Lib.hid rfl, Below.refl _ _⟩
  case round =>
    obtain ⟨k, hk, rfl, HK, hbw⟩ := hrel
    have hd0' := (hbw.cell (p := ⟨w.heap.size, 0, none⟩) (by simp; omega)).trans hc0
    have hd1' := (hbw.cell (p := ⟨w.heap.size, 1, none⟩) (by simp; omega)).trans hc1
    have hsz : w.heap.size < wr.heap.size := by have := hbw.size; omega
    have hww := hw0.below hbw (by omega)
    have hdd := hd0.below hbw (by omega)
    by_cases hlt : k < fl.length
    · have hlw : k < ws.length := by have := HL.out; omega
      have hx : ws[k]? = some ws[k] := List.getElem?_eq_getElem hlw
      have hy : fl[k]? = some fl[k] := List.getElem?_eq_getElem hlt
      generalize ws[k] = x at hx
      generalize fl[k] = f at hy
      obtain ⟨b1, o1, rfl, hb1, h1, h2, h3, h4⟩ := hww k x hx
      obtain ⟨b2, o2, rfl, hb2, h5⟩ := hdd k f hy
      have hki : (k : Int) < (fl.length : Int) := by omega
      have hkj : (k : Int) < (ws.length : Int) := by omega
      have hk0 : (0 : Int) ≤ (k : Int) := by omega
      have HG := Lib.hid (fun h => rngL_get (ws := ws) (fl := fl) h k x f hx hy)
      have HS := Lib.hid (fun a b => rngL_step hx hy HK.out a b)
      have I1 := Lib.hid (fun W => in_any' f x.lo x.hi W)
      clear hx hy hw0 hd0 hww hdd
      by_cases a1 : x.lo ≤ f ∧ f ≤ x.hi
      · rw [inB_t a1] at I1
        have HT := Lib.hid (HS.out a1.1 a1.2)
        clear a1
        go_wp2
        go_quiet ((go_at_call 61; exact Calls.quiet_of_same (I1.out _)))
        go_wp2
        go_roundw
        case rel => exact ⟨k + 1, by omega, by go_num, HT, below_drewN' hbw _⟩
        case measure => simp [intOf]; omega
      · rw [inB_f a1] at I1
        have HB := Lib.hid (show 1 = verT ws fl from (verT_bad (fun h => a1 (HG.out h))).symm)
        clear a1
        go_wp2
        go_quiet ((go_at_call 61; exact Calls.quiet_of_same (I1.out _)))
        go_wp2
        go_ret
        exact ⟨ret_eq HB.out, hb0.trans (below_drewN' (hbw.mono (by omega)) _)⟩
    · have : k = fl.length := by omega
      subst this
      have hr : rngL ws fl = true := by have h1 := HK.out; have h2 := HL.out; rw [List.take_length, h2, List.take_length] at h1; exact h1
      have HVG := Lib.hid (verT_good hr)
      have hrng : ∀ f ∈ fl, 0 ≤ f ∧ f ≤ 99 := fun f hf => by
        obtain ⟨i, hi, rfl⟩ := List.getElem_of_mem hf
        have hiw : i < ws.length := by have := HL.out; omega
        have h3 := rngL_get hr i ws[i] fl[i] (List.getElem?_eq_getElem hiw) (List.getElem?_eq_getElem hi)
        obtain ⟨_, _, h4, h5, h6⟩ := hv.way ws[i] (List.getElem_mem hiw)
        omega
      have HR := Lib.hid hrng
      have hbT : Below w.heap.size w wr := hb0.trans (hbw.mono (by omega))
      have HWW := Lib.hid hww
      have HDD := Lib.hid hdd
      have HV := Lib.hid hv
      have HNE := Lib.hid hne
      have hr0 : (0 : Int) ≤ (rooms : Int) := by omega
      have hr1 : (rooms : Int) ≤ 6 := by omega
      clear hr hrng HK hww hdd hw0 hd0 hv hne hc0 hc1
      go_wp2_with fail
      go_loop [7, 8, 9] (fun rm _ _ => ∃ r : Nat, r ≤ rooms ∧ rm = .int .i64 r ∧ Hid (∀ s : Nat, s < r → net s ws fl = 0)) (fun rm _ _ => rooms - (intOf rm).toNat)
      case atStart => exact ⟨0, Nat.zero_le _, rfl, Lib.hid (fun s hs => by omega)⟩
      case round =>
        obtain ⟨r, hr, rfl, HZ⟩ := hrel
        by_cases hlr : r < rooms
        · have hri : (r : Int) < (rooms : Int) := by omega
          have hrj : (0 : Int) ≤ (r : Int) := by omega
          go_wp2_with fail
          go_loop [8, 9] (fun v i => ∃ k : Nat, k ≤ fl.length ∧ i = .int .i64 k ∧ v = .int .i64 (net r (ws.take k) (fl.take k))) (fun _ i => fl.length - (intOf i).toNat)
          case atStart => exact ⟨0, Nat.zero_le _, rfl, rfl⟩
          case round =>
            obtain ⟨k, hk, rfl, rfl⟩ := hrel
            by_cases hlt : k < fl.length
            · have hlw : k < ws.length := by have := HL.out; omega
              have hx : ws[k]? = some ws[k] := List.getElem?_eq_getElem hlw
              have hy : fl[k]? = some fl[k] := List.getElem?_eq_getElem hlt
              generalize ws[k] = x at hx
              generalize fl[k] = f at hy
              have hf := HR.out f (mem_of_get hy)
              have htk := net_take r ws fl k x f hx hy
              have hbd := net_bound r (ws.take k) (fl.take k) (fun g hg => HR.out g (List.mem_of_mem_take hg))
              have hl12 : (ws.take k).length ≤ 12 := by rw [List.length_take]; omega
              have hxn := HNE.out x (mem_of_get hx)
              obtain ⟨b1, o1, rfl, hb1, h1, h2, h3, h4⟩ := HWW.out k x hx
              obtain ⟨b2, o2, rfl, hb2, h5⟩ := HDD.out k f hy
              obtain ⟨E, hE⟩ : ∃ E, E = net r (ws.take k) (fl.take k) := ⟨_, rfl⟩
              rw [← hE] at hbd htk ⊢
              have hbd' : -1188 ≤ E ∧ E ≤ 1188 := by omega
              have hki : (k : Int) < (fl.length : Int) := by omega
              have hkj : (k : Int) < (ws.length : Int) := by omega
              have hk0 : (0 : Int) ≤ (k : Int) := by omega
              have HE := Lib.hid hE
              clear hE hbd hl12 hx hy
              by_cases hd : x.dst = r
              · have hs : ¬ x.src = r := by omega
                have hd' : (x.dst == (r : Int)) = true := by simpa using hd
                have hs' : (x.src == (r : Int)) = false := by simpa using hs
                rw [if_pos hd, if_neg hs] at htk
                have HT := Lib.hid htk
                clear htk hd hs hxn
                go_wp2
                go_round
                case rel => exact ⟨k + 1, by omega, by go_num, by rw [HT.out]; go_num⟩
                case measure => simp [intOf]; omega
              · by_cases hs : x.src = r
                · have hd' : (x.dst == (r : Int)) = false := by simpa using hd
                  have hs' : (x.src == (r : Int)) = true := by simpa using hs
                  rw [if_neg hd, if_pos hs] at htk
                  have HT := Lib.hid htk
                  clear htk hd hs hxn
                  go_wp2
                  go_round
                  case rel => exact ⟨k + 1, by omega, by go_num, by rw [HT.out]; go_num⟩
                  case measure => simp [intOf]; omega
                · have hd' : (x.dst == (r : Int)) = false := by simpa using hd
                  have hs' : (x.src == (r : Int)) = false := by simpa using hs
                  rw [if_neg hd, if_neg hs] at htk
                  have HT := Lib.hid htk
                  clear htk hd hs hxn
                  go_wp2
                  go_round
                  case rel => exact ⟨k + 1, by omega, by go_num, by rw [HT.out]; go_num⟩
                  case measure => simp [intOf]; omega
            · have : k = fl.length := by omega
              subst this
              have hN : net r (ws.take fl.length) (fl.take fl.length) = net r ws fl := by rw [HL.out, List.take_length, ← HL.out, List.take_length]
              rw [hN]
              clear hN
              by_cases hn : net r ws fl = 0
              · have HZ' : Hid (∀ s : Nat, s < r + 1 → net s ws fl = 0) := Lib.hid (fun s hs => by
                  rcases Nat.lt_or_ge s r with h | h
                  · exact HZ.out s h
                  · have : s = r := by omega
                    subst this; exact hn)
                generalize net r ws fl = N at hn
                subst hn
                go_wp2
                go_round
                case rel => exact ⟨r + 1, by omega, by go_num, HZ'⟩
                case measure => simp [intOf]; omega
              · have HB := Lib.hid (show 17 = verT ws fl by rw [HVG.out, bal_false HV.out hn]; rfl)
                generalize net r ws fl = N at hn
                have hn' : (N != 0) = true := by simpa using hn
                clear hn
                go_wp2
                go_ret
                exact ⟨ret_eq HB.out, hbT⟩
        · have : r = rooms := by omega
          subst this
          have HB := Lib.hid (show 0 = verT ws fl by rw [HVG.out, bal_true HV.out HZ.out]; rfl)
          clear HVG
          go_wp2
          go_ret
          exact ⟨ret_eq HB.out, hbT⟩
end Go.Proofs.YtcebihijnedekaaDoor
