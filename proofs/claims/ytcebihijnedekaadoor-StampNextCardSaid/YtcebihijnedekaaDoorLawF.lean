/-
  The walk of the statement on the next flow: it answers true.
-/
import Derived.Test.YtcebihijnedekaaDoorOutB
import Derived.Test.YtcebihijnedekaaDoorHouseB
namespace Go.Proofs.YtcebihijnedekaaDoor
open Go.RowKit

set_option maxRecDepth 100000 in
set_option maxHeartbeats 4000000 in
theorem lawNext_any (w : World) (q p : Int) (A : Option Addr) (c : Nat) (hs : List H4) (hq : 0 ≤ q ∧ q ≤ 255) (hp : 0 ≤ p ∧ p ≤ 255) (hok : ∀ h ∈ hs, okH h) (hw : HouseAt w w.heap.size A hs) (ht : SizesAt w) :
    Calls Tryd.prog 11 #[.agg #[.int .u8 q, .slice A hs.length c], .int .u8 p] w fun e w' => e = .returned (.bool true) ∧ Below w.heap.size w w' := by
  have hw1 := fun o => (hw.below ((Below.refl w.heap.size w).alloc (Nat.le_refl _) o) (Nat.le_refl _)).mono (B' := (w.alloc o).heap.size) (by simp)
  have ht1 := fun o => ht.alloc o
  have HM := Lib.hid (fun W hW => made_any q hq A c 5 hs W (by decide) hok hW)
  obtain ⟨rooms, hR, _, _, hch, hv, hsd, hwd⟩ := chk_made (r := q) (hs := hs) (most := 5) hok (by decide)
  rw [hR] at HM
  have hl5 := madeS_len q hs 5
  generalize madeS q hs 5 = ws at HM hch hv hsd hwd hl5
  have HF := Lib.hid (fun A' c' W hW => flows_any rooms A' c' ws W hv hsd hwd hl5 hW)
  have HO := Lib.hid (fun (k : Nat) (fl : List Int) (hk : (flowsS ws)[k]? = some fl) => oth_listed hv hch hk)
  have HMEM := Lib.hid (fun fl hm => (flowsS_mem hv fl).1 hm)
  have HTWO := Lib.hid (fun a b ha hb hne => flows_two (a := a) (b := b) hsd ha hb hne)
  have hasc := flowsS_asc hv
  have HOT := Lib.hid (fun A' c' D d fl W (hc : fl.length ≤ d) hW hD hT => other_any rooms A' D c' d ws fl W hc hW hD hT)
  have hN : (flowsS ws).length ≤ 1024 := Nat.le_trans (putS_len hwd ws.length []) (Nat.le_trans (Nat.pow_le_pow_right (by decide) hl5) (by decide))
  generalize flowsS ws = all at HF HO HMEM hasc hN
  clear hw ht hok hR hch hv hsd hwd
  have wp1 : IntKind.i64.wrap p = p := IntWalk.i64_in _ (by omega)
  by_cases h0 : all.length = 0
  · have hz : all = [] := List.eq_nil_of_length_eq_zero h0
    subst hz
    clear HO HMEM hasc hN h0 HTWO HOT
    go_enter Tryd.func11, Tryd.ntmps11
    go_wp2_with (first
      | (go_at_call 44; refine (HM.out _ (hw1 _)).mono ?_; rintro e w1 ⟨A1, c1, rfl, hA1, hb1⟩; have hs1 := hb1.size; have ht2 := (ht1 _).below hb1)
      | (go_at_call 45; refine (HF.out A1 c1 _ (waysUp hA1 (bnew w1 _))).mono ?_; rintro e w2 ⟨A2, c2, rfl, hL2, hb2⟩; have hs2 := hb2.size; have ht3 := (ht2.below (bnew w1 _)).below hb2)
      | (go_at_call 16; refine (works_any _ ht3).mono ?_; rintro e w3 ⟨rfl, hb3⟩))
    go_ret
    exact ⟨rfl, ((Below.refl _ _).alloc (Nat.le_refl _) _).trans ((hb1.mono (by simp)).trans (((bnew w1 _).mono (by simp at hs1; omega)).trans ((hb2.mono (by simp at hs1 ⊢; omega)).trans (hb3.mono (by simp at hs1 hs2; omega)))))⟩
  have hNpos : 0 < all.length := by omega
  obtain ⟨kk, hkk⟩ : ∃ kk, kk = p.toNat % all.length := ⟨_, rfl⟩
  have hkl : kk < all.length := by rw [hkk]; exact Nat.mod_lt _ hNpos
  have vrem : p.tmod (all.length : Int) = (kk : Int) := by rw [rem_len hp.1, hkk]
  have hne0 : ¬ (all.length : Int) = 0 := by omega
  have hki : (kk : Int) < (all.length : Int) := by omega
  have hk0 : (0 : Int) ≤ (kk : Int) := by omega
  clear hkk h0
  have hkx : all[kk]? = some all[kk] := List.getElem?_eq_getElem hkl
  have hfm := HMEM.out _ (List.mem_of_getElem? hkx)
  have hoth := HO.out kk _ hkx
  generalize hfl : all[kk] = fl at hkx hfm hoth
  have HOTF := Lib.hid (fun A' c' D d W (hc : fl.length ≤ d) hW hD hT => by have h := HOT.out A' c' D d fl W hc hW hD hT; rw [hoth] at h; exact h)
  clear hoth hfl HO HOT
  by_cases h1 : all.length = 1
  · simp only [h1, if_true] at HOTF
    have hk00 : kk = 0 := by omega
    subst hk00
    have hone : ((all.length : Int) == 1) = true := by rw [h1]; rfl
    have hlen1 : (all.length : Int) = 1 := by omega
    clear hasc hfm HTWO HMEM
    go_enter Tryd.func11, Tryd.ntmps11
    go_wp2_with (first
    | (go_at_call 44; refine (HM.out _ (hw1 _)).mono ?_; rintro e w1 ⟨A1, c1, rfl, hA1, hb1⟩; have hs1 := hb1.size; simp only [World.size_alloc] at hs1; have ht2 := ((ht1 _).below hb1).below (bnew w1 (.cells #[.int .i64 rooms, .slice A1 ws.length c1] 24)); have hA1' := waysUp hA1 (bnew w1 (.cells #[.int .i64 rooms, .slice A1 ws.length c1] 24)))
    | (go_at_call 45; refine (HF.out A1 c1 _ hA1').mono ?_; rintro e w2 ⟨A2, c2, rfl, hL2, hb2⟩; have hs2 := hb2.size; simp only [World.size_alloc] at hs2; have ht3 := ht2.below hb2; have hA2 := waysUp hA1' hb2; have e0 : w2.cell? ⟨w1.heap.size, 0, none⟩ = some (.int .i64 rooms) := ((hb2.cell (p := ⟨w1.heap.size, 0, none⟩) (by simp)).trans (by simp [go_sem])); have e1 : w2.cell? ⟨w1.heap.size, 1, none⟩ = some (.slice A1 ws.length c1) := ((hb2.cell (p := ⟨w1.heap.size, 1, none⟩) (by simp)).trans (by simp [go_sem])); obtain ⟨b3, o3, A3, c3, rfl, hbz, hcl, hil, hcap⟩ := hL2 0 fl hkx; rw [Nat.add_zero] at hcl; have hz1 : w1.heap.size < w2.heap.size := (by omega)))
    go_region_with ((go_at_call 27; refine (HOTF.out _ _ _ _ _ hcap (by exact hA2) (by exact hil) (by exact ht3)).mono ?_; rintro e w4 ⟨A4, c4, rfl, hA4, hb4'⟩; have hb4 : Below w2.heap.size w2 w4 := ⟨hb4'.os, hb4'.tape, hb4'.output, hb4'.size, hb4'.block⟩; have ht4 := ht3.below hb4; have hs4 := hb4.size))
    all_goals
      go_wp2_with (first
        | (go_at_call 16; refine (works_any _ ht4).mono ?_; rintro e w5 ⟨rfl, hb5⟩))
      go_ret
      exact ⟨rfl, ((Below.refl _ _).alloc (Nat.le_refl _) _).trans ((hb1.mono (by simp)).trans (((bnew w1 _).mono (by omega)).trans ((hb2.mono (by simp; omega)).trans ((hb4.mono (by omega)).trans (hb5.mono (by omega))))))⟩
  · simp only [if_neg h1] at HOTF
    have hg1 : ¬ (all.length : Int) = 1 := by omega
    have hi0 : (0 : Int) < (all.length : Int) := by omega
    have hi1 : (1 : Int) < (all.length : Int) := by omega
    obtain ⟨j, hj⟩ : ∃ j, j = (if kk = 0 then 1 else 0 : Nat) := ⟨_, rfl⟩
    have hjl : j < all.length := by rw [hj]; split <;> omega
    have hjk : j ≠ kk := by rw [hj]; split <;> omega
    have hjx : all[j]? = some all[j] := List.getElem?_eq_getElem hjl
    have hgm := HMEM.out _ (List.mem_of_getElem? hjx)
    rw [← hj, List.getD_eq_getElem?_getD, hjx, Option.getD_some] at HOTF
    have hlex : lexL all[j] fl ∨ lexL fl all[j] := by
      have hall := List.pairwise_iff_getElem.1 hasc
      have hfl : fl = all[kk] := by rw [List.getElem?_eq_getElem hkl] at hkx; exact (Option.some.inj hkx).symm
      rw [hfl]
      rcases Nat.lt_or_ge j kk with h | h
      · exact .inl (hall j kk hjl hkl h)
      · exact .inr (hall kk j hkl hjl (by omega))
    generalize all[j] = wt at hjx hgm HOTF hlex
    have hne : wt ≠ fl := by
      intro e
      subst e
      rcases hlex with h | h <;> exact lexL_asymm h h
    have HCN := Lib.hid (HTWO.out wt fl hgm hfm hne)
    have hlw : wt.length = fl.length := by rw [hgm.1.1, hfm.1.1]
    have hl5' : wt.length ≤ 5 := by rw [hgm.1.1]; exact hl5
    have HLW := Lib.hid hlw
    have HL5 := Lib.hid hl5'
    clear hasc hfm hgm HTWO HMEM hlex hne hlw h1
    rcases Nat.eq_zero_or_pos kk with hk00 | hk00
    · rw [if_pos hk00] at hj
      subst hj
      subst hk00
      go_enter Tryd.func11, Tryd.ntmps11
      go_wp2_with (first
    | (go_at_call 44; refine (HM.out _ (hw1 _)).mono ?_; rintro e w1 ⟨A1, c1, rfl, hA1, hb1⟩; have hs1 := hb1.size; simp only [World.size_alloc] at hs1; have ht2 := ((ht1 _).below hb1).below (bnew w1 (.cells #[.int .i64 rooms, .slice A1 ws.length c1] 24)); have hA1' := waysUp hA1 (bnew w1 (.cells #[.int .i64 rooms, .slice A1 ws.length c1] 24)))
    | (go_at_call 45; refine (HF.out A1 c1 _ hA1').mono ?_; rintro e w2 ⟨A2, c2, rfl, hL2, hb2⟩; have hs2 := hb2.size; simp only [World.size_alloc] at hs2; have ht3 := ht2.below hb2; have hA2 := waysUp hA1' hb2; have e0 : w2.cell? ⟨w1.heap.size, 0, none⟩ = some (.int .i64 rooms) := ((hb2.cell (p := ⟨w1.heap.size, 0, none⟩) (by simp)).trans (by simp [go_sem])); have e1 : w2.cell? ⟨w1.heap.size, 1, none⟩ = some (.slice A1 ws.length c1) := ((hb2.cell (p := ⟨w1.heap.size, 1, none⟩) (by simp)).trans (by simp [go_sem])); obtain ⟨b3, o3, A3, c3, rfl, hbz, hcl, hil, hcap⟩ := hL2 0 fl hkx; rw [Nat.add_zero] at hcl; have hz1 : w1.heap.size < w2.heap.size := (by omega)))
      go_region_with ((go_at_call 27; refine (HOTF.out _ _ _ _ _ hcap (by exact hA2) (by exact hil) (by exact ht3)).mono ?_; rintro e w4 ⟨A4, c4, rfl, hA4, hb4'⟩; have hb4 : Below w2.heap.size w2 w4 := ⟨hb4'.os, hb4'.tape, hb4'.output, hb4'.size, hb4'.block⟩; have ht4 := ht3.below hb4; have hs4 := hb4.size; have hL4 := hL2.up hb4; obtain ⟨b6, o6, A6, c6, heq6, hbz6, hcl6, hil6, hcap6⟩ := hL4 1 wt hjx; have heq7 := heq6; injection heq6 with heq6; injection heq6 with hq1 hq2 hq3; have hq1' := hq1.symm; have hq2' := hq2.symm; subst hq1'; subst hq2'))
      all_goals
        have hcl4 := (hb4.cell (p := ⟨b6, _, none⟩) hbz).trans hcl
        have hil4 := upiF hil hb4
        have hbz4 : b6 < w4.heap.size := by omega
        have hl1000 : wt.length ≤ 1000 := by omega
        have hb04 : Below w.heap.size w w4 := ((Below.refl _ _).alloc (Nat.le_refl _) _).trans ((hb1.mono (by simp)).trans (((bnew w1 _).mono (by omega)).trans ((hb2.mono (by simp; omega)).trans (hb4.mono (by omega)))))
        clear hL2 hL4 heq7 hq1 hq2 hq3 hA2 hil hb1 hb2 hA1 hA1' hw1 ht1 ht2 ht3 HM HF HOTF
        go_wp2_with (first
          | (go_at_call 22; refine (sameO hl1000 hA4 hil6).mono ?_; rintro e w5 ⟨rfl, hb5⟩; have ht5 := ht4.below hb5; have hA5 := upiF hA4 hb5; have hil5 := upiF hil4 hb5; have hcl5 := (hb5.cell (p := ⟨b6, _, none⟩) hbz4).trans hcl4; have hs5 := hb5.size))
        go_loopw [11, 66] (fun n i wr => ∃ j : Nat, j ≤ wt.length ∧ i = .int .i64 (j : Nat) ∧ n = .int .i64 (cntD wt fl j : Nat) ∧ Below w5.heap.size w5 wr) (fun _ i _ => wt.length - (intOf i).toNat)
        case atStart => exact ⟨0, Nat.zero_le _, rfl, rfl, Below.refl _ _⟩
        case round =>
          obtain ⟨j, hjle, rfl, rfl, hbw⟩ := hrel
          have hclr := (hbw.cell (p := ⟨b6, _, none⟩) (by omega : b6 < w5.heap.size)).trans hcl5
          have hsw := hbw.size
          have hbzr : b6 < wr.heap.size := by omega
          have hAr := upiF hA5 hbw
          have hfr := upiF hil5 hbw
          have hcnj := cntD_le wt fl j
          by_cases hlt : j < wt.length
          · have hx : wt[j]? = some wt[j] := List.getElem?_eq_getElem hlt
            have hy : fl[j]? = some (fl[j]'(by have := HLW.out; omega)) := List.getElem?_eq_getElem (by have := HLW.out; omega)
            generalize wt[j] = x at hx
            generalize fl[j]'(by have := HLW.out; omega) = y at hy
            have hcd : cntD wt fl (j + 1) = cntD wt fl j + if x = y then 0 else 1 := by
              rw [cntD, hx, hy]
              congr 1
              by_cases e : x = y
              · rw [if_pos e, if_pos (by rw [e])]
              · rw [if_neg e, if_neg (fun h => e (Option.some.inj h))]
            obtain ⟨b7, o7, rfl, hb7, h7⟩ := hAr j x hx
            obtain ⟨b8, o8, rfl, hb8, h8⟩ := hfr j y hy
            have hji : (j : Int) < (wt.length : Int) := by omega
            have hjf : (j : Int) < (fl.length : Int) := by have := HLW.out; omega
            have hj0 : (0 : Int) ≤ (j : Int) := by omega
            by_cases hxy : x = y
            · rw [if_pos hxy, Nat.add_zero] at hcd
              have hne : (x != y) = false := by simpa using hxy
              have HCD := Lib.hid hcd
              generalize cntD wt fl j = cc at HCD hcnj ⊢
              have hcc5 : (cc : Int) ≤ 5 := by have := HL5.out; omega
              have hcc0 : (0 : Int) ≤ (cc : Int) := by omega
              clear hcd hxy hx hy
              go_wp2_with fail
              go_quiet (fail)
              go_wp2_with fail
              go_roundw
              case rel => exact ⟨j + 1, hlt, by go_num, by rw [HCD.out]; rfl, below_drewN' hbw _⟩
              case measure => simp [intOf]; omega
            · rw [if_neg hxy] at hcd
              have hne : (x != y) = true := by simpa using hxy
              have HCD := Lib.hid hcd
              generalize cntD wt fl j = cc at HCD hcnj ⊢
              have hcc5 : (cc : Int) ≤ 5 := by have := HL5.out; omega
              have hcc0 : (0 : Int) ≤ (cc : Int) := by omega
              clear hcd hxy hx hy
              go_wp2_with fail
              go_quiet (fail)
              go_wp2_with fail
              go_roundw
              case rel => exact ⟨j + 1, hlt, by go_num, by rw [HCD.out]; go_num, below_drewN' hbw _⟩
              case measure => simp [intOf]; omega
          · have hje : j = wt.length := by omega
            subst hje
            have hgt := HCN.out
            have hgti : (1 : Int) < ((cntD wt fl wt.length : Nat) : Int) := by omega
            generalize cntD wt fl wt.length = cc at hgt hgti hcnj
            have htr := ht5.below hbw
            clear hgt
            go_wp2_with (first
              | (go_at_call 16; refine (works_any _ htr).mono ?_; rintro e w9 ⟨rfl, hb9⟩))
            go_ret
            exact ⟨rfl, hb04.trans ((hb5.mono (by omega)).trans ((hbw.mono (by omega)).trans (hb9.mono (by omega))))⟩
    · rw [if_neg (by omega)] at hj
      subst hj
      have hkz : ¬ (kk : Int) = 0 := by omega
      go_enter Tryd.func11, Tryd.ntmps11
      go_wp2_with (first
    | (go_at_call 44; refine (HM.out _ (hw1 _)).mono ?_; rintro e w1 ⟨A1, c1, rfl, hA1, hb1⟩; have hs1 := hb1.size; simp only [World.size_alloc] at hs1; have ht2 := ((ht1 _).below hb1).below (bnew w1 (.cells #[.int .i64 rooms, .slice A1 ws.length c1] 24)); have hA1' := waysUp hA1 (bnew w1 (.cells #[.int .i64 rooms, .slice A1 ws.length c1] 24)))
    | (go_at_call 45; refine (HF.out A1 c1 _ hA1').mono ?_; rintro e w2 ⟨A2, c2, rfl, hL2, hb2⟩; have hs2 := hb2.size; simp only [World.size_alloc] at hs2; have ht3 := ht2.below hb2; have hA2 := waysUp hA1' hb2; have e0 : w2.cell? ⟨w1.heap.size, 0, none⟩ = some (.int .i64 rooms) := ((hb2.cell (p := ⟨w1.heap.size, 0, none⟩) (by simp)).trans (by simp [go_sem])); have e1 : w2.cell? ⟨w1.heap.size, 1, none⟩ = some (.slice A1 ws.length c1) := ((hb2.cell (p := ⟨w1.heap.size, 1, none⟩) (by simp)).trans (by simp [go_sem])); obtain ⟨b3, o3, A3, c3, rfl, hbz, hcl, hil, hcap⟩ := hL2 kk fl hkx; have hz1 : w1.heap.size < w2.heap.size := (by omega)))
      go_region_with ((go_at_call 27; refine (HOTF.out _ _ _ _ _ hcap (by exact hA2) (by exact hil) (by exact ht3)).mono ?_; rintro e w4 ⟨A4, c4, rfl, hA4, hb4'⟩; have hb4 : Below w2.heap.size w2 w4 := ⟨hb4'.os, hb4'.tape, hb4'.output, hb4'.size, hb4'.block⟩; have ht4 := ht3.below hb4; have hs4 := hb4.size; have hL4 := hL2.up hb4; obtain ⟨b6, o6, A6, c6, heq6, hbz6, hcl6, hil6, hcap6⟩ := hL4 0 wt hjx; have heq7 := heq6; injection heq6 with heq6; injection heq6 with hq1 hq2 hq3; have hq1' := hq1.symm; have hq2' := hq2.symm; subst hq1'; subst hq2'))
      all_goals
        have hcl4 := (hb4.cell (p := ⟨b6, _, none⟩) hbz).trans hcl
        have hil4 := upiF hil hb4
        rw [Nat.add_zero] at hcl6
        have hbz4 : b6 < w4.heap.size := by omega
        have hl1000 : wt.length ≤ 1000 := by omega
        have hb04 : Below w.heap.size w w4 := ((Below.refl _ _).alloc (Nat.le_refl _) _).trans ((hb1.mono (by simp)).trans (((bnew w1 _).mono (by omega)).trans ((hb2.mono (by simp; omega)).trans (hb4.mono (by omega)))))
        clear hL2 hL4 heq7 hq1 hq2 hq3 hA2 hil hb1 hb2 hA1 hA1' hw1 ht1 ht2 ht3 HM HF HOTF
        go_wp2_with (first
          | (go_at_call 22; refine (sameO hl1000 hA4 hil6).mono ?_; rintro e w5 ⟨rfl, hb5⟩; have ht5 := ht4.below hb5; have hA5 := upiF hA4 hb5; have hil5 := upiF hil4 hb5; have hcl5 := (hb5.cell (p := ⟨b6, _, none⟩) hbz4).trans hcl4; have hs5 := hb5.size))
        go_loopw [11, 66] (fun n i wr => ∃ j : Nat, j ≤ wt.length ∧ i = .int .i64 (j : Nat) ∧ n = .int .i64 (cntD wt fl j : Nat) ∧ Below w5.heap.size w5 wr) (fun _ i _ => wt.length - (intOf i).toNat)
        case atStart => exact ⟨0, Nat.zero_le _, rfl, rfl, Below.refl _ _⟩
        case round =>
          obtain ⟨j, hjle, rfl, rfl, hbw⟩ := hrel
          have hclr := (hbw.cell (p := ⟨b6, _, none⟩) (by omega : b6 < w5.heap.size)).trans hcl5
          have hsw := hbw.size
          have hbzr : b6 < wr.heap.size := by omega
          have hAr := upiF hA5 hbw
          have hfr := upiF hil5 hbw
          have hcnj := cntD_le wt fl j
          by_cases hlt : j < wt.length
          · have hx : wt[j]? = some wt[j] := List.getElem?_eq_getElem hlt
            have hy : fl[j]? = some (fl[j]'(by have := HLW.out; omega)) := List.getElem?_eq_getElem (by have := HLW.out; omega)
            generalize wt[j] = x at hx
            generalize fl[j]'(by have := HLW.out; omega) = y at hy
            have hcd : cntD wt fl (j + 1) = cntD wt fl j + if x = y then 0 else 1 := by
              rw [cntD, hx, hy]
              congr 1
              by_cases e : x = y
              · rw [if_pos e, if_pos (by rw [e])]
              · rw [if_neg e, if_neg (fun h => e (Option.some.inj h))]
            obtain ⟨b7, o7, rfl, hb7, h7⟩ := hAr j x hx
            obtain ⟨b8, o8, rfl, hb8, h8⟩ := hfr j y hy
            have hji : (j : Int) < (wt.length : Int) := by omega
            have hjf : (j : Int) < (fl.length : Int) := by have := HLW.out; omega
            have hj0 : (0 : Int) ≤ (j : Int) := by omega
            by_cases hxy : x = y
            · rw [if_pos hxy, Nat.add_zero] at hcd
              have hne : (x != y) = false := by simpa using hxy
              have HCD := Lib.hid hcd
              generalize cntD wt fl j = cc at HCD hcnj ⊢
              have hcc5 : (cc : Int) ≤ 5 := by have := HL5.out; omega
              have hcc0 : (0 : Int) ≤ (cc : Int) := by omega
              clear hcd hxy hx hy
              go_wp2_with fail
              go_quiet (fail)
              go_wp2_with fail
              go_roundw
              case rel => exact ⟨j + 1, hlt, by go_num, by rw [HCD.out]; rfl, below_drewN' hbw _⟩
              case measure => simp [intOf]; omega
            · rw [if_neg hxy] at hcd
              have hne : (x != y) = true := by simpa using hxy
              have HCD := Lib.hid hcd
              generalize cntD wt fl j = cc at HCD hcnj ⊢
              have hcc5 : (cc : Int) ≤ 5 := by have := HL5.out; omega
              have hcc0 : (0 : Int) ≤ (cc : Int) := by omega
              clear hcd hxy hx hy
              go_wp2_with fail
              go_quiet (fail)
              go_wp2_with fail
              go_roundw
              case rel => exact ⟨j + 1, hlt, by go_num, by rw [HCD.out]; go_num, below_drewN' hbw _⟩
              case measure => simp [intOf]; omega
          · have hje : j = wt.length := by omega
            subst hje
            have hgt := HCN.out
            have hgti : (1 : Int) < ((cntD wt fl wt.length : Nat) : Int) := by omega
            generalize cntD wt fl wt.length = cc at hgt hgti hcnj
            have htr := ht5.below hbw
            clear hgt
            go_wp2_with (first
              | (go_at_call 16; refine (works_any _ htr).mono ?_; rintro e w9 ⟨rfl, hb9⟩))
            go_ret
            exact ⟨rfl, hb04.trans ((hb5.mono (by omega)).trans ((hbw.mono (by omega)).trans (hb9.mono (by omega))))⟩
end Go.Proofs.YtcebihijnedekaaDoor
