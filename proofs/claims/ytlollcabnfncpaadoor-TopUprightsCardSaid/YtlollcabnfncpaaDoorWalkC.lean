/-
  The walks of the first free square and of the cards that can be laid next.
-/
import Derived.Test.YtlollcabnfncpaaDoorWalkB
import Derived.Test.YtlollcabnfncpaaDoorChg
import Derived.Shelf.Spec.TrailingZeros
namespace Go.Proofs.YtlollcabnfncpaaDoor
open Go.RowKit

/-- The library's table lies in its variable. -/
def TabW (w : World) : Prop := 0 < w.heap.size ∧ TabAt 0 Lib.deBruijn64tab w
theorem TabW.below {w w' : World} (h : TabW w) (hb : Below w.heap.size w w') : TabW w' :=
  ⟨Nat.lt_of_lt_of_le h.1 hb.size, fun j hj => (hb.cell (p := ⟨0, j, none⟩) h.1).trans (h.2 j hj)⟩

set_option maxHeartbeats 1000000 in
theorem tz_core (x k idx : Nat) (w : World) (hx0 : ((x : Int) == 0) = false)
    (key : IntKind.u64.wrap (bits BinOp.and IntKind.u64 (x : Int) (IntKind.u64.wrap (-(x : Int))) * 285870213051353865) / 288230376151711744 = (idx : Int))
    (hi : idx < 64) (hk : k < 64) (hcell : w.cell? ⟨0, idx, none⟩ = some (.int .u8 k)) :
    Calls Tryd.prog 129 #[.int .u64 x] w fun e w' => e = .returned (.int .i64 k) ∧ w = w' := by
  go_enter Tryd.func129, Tryd.ntmps129
  go_wp2_with (simp only [key])
  go_ret
  exact ⟨rfl, rfl⟩

theorem tz_any (cov : Nat) (w : World) (hc : cov < 68719476736) (ht : TabW w) :
    Calls Tryd.prog 129 #[.int .u64 (18446744073709551615 - (cov : Int))] w fun e w' => e = .returned (.int .i64 (ctzU 64 cov : Nat)) ∧ w = w' := by
  have e0 : (18446744073709551615 - (cov : Int)) = ((18446744073709551615 - cov : Nat) : Int) := by omega
  rw [e0, ← ctz_cov hc]
  have hx0 : 18446744073709551615 - cov ≠ 0 := by omega
  have hx : 18446744073709551615 - cov < 18446744073709551616 := by omega
  generalize 18446744073709551615 - cov = x at hx0 hx ⊢
  obtain ⟨hlow, hk⟩ := Lib.lowest_bit 64 x hx0 hx
  obtain ⟨hi, htab⟩ := Lib.deBruijn64_at _ hk
  have hcell := ht.2 _ hi
  rw [htab] at hcell
  exact tz_core x _ _ w (by simp; omega) (tz64_key x _ hx hx0 hlow) hi hk hcell

theorem xor_max {cov : Nat} (h : cov < 68719476736) : bits .xor .u64 IntKind.u64.max (cov : Int) = 18446744073709551615 - (cov : Int) := by
  have e : IntKind.u64.max = ((18446744073709551615 : Nat) : Int) := by decide
  rw [e, u64_xor_nat _ _ (by decide) (by omega)]
  have e2 : 18446744073709551615 ^^^ cov = 18446744073709551615 - cov := by
    refine Nat.eq_of_testBit_eq fun i => ?_
    rw [Nat.testBit_xor, show 18446744073709551615 = 2 ^ 64 - 1 from rfl, Nat.testBit_two_pow_sub_one, Nat.sub_sub, Nat.add_comm, Nat.testBit_two_pow_sub_succ (by omega)]
    by_cases hi : i < 64
    · simp [hi]
    · have : cov.testBit i = false := Nat.testBit_lt_two_pow (Nat.lt_of_lt_of_le (show cov < 2 ^ 64 by omega) (Nat.pow_le_pow_right (by decide) (by omega)))
      simp [hi, this]
  rw [e2]
  omega

theorem tz_walk (cov : Nat) (w : World) (hc : cov < 68719476736) (ht : TabW w) :
    Calls Tryd.prog 129 #[.int .u64 (bits .xor .u64 IntKind.u64.max (cov : Int))] w fun e w' => e = .returned (.int .i64 (ctzU 64 cov : Nat)) ∧ w = w' := by
  rw [xor_max hc]; exact tz_any cov w hc ht

set_option maxRecDepth 100000 in
set_option maxHeartbeats 1000000 in
theorem next_any (s : Sh) (cov : Nat) (w : World) (hs : s.Ok) (hc : InS s cov) (hne : cov ≠ whl s) (ht : TabW w) :
    Calls Tryd.prog 107 #[.agg #[.int .i64 s.r, .int .i64 s.c, .int .i64 s.l, .int .i64 s.w], .int .u64 cov] w (RetCards w (nxt s cov)) := by
  have hc36 := hc.lt36 hs
  have hf := hc.first_lt hne
  have h36 := (area_le hs).2
  have h1 := hs.c1
  have h6 := hs.c6
  have HT := Lib.hid (fun W (h : Below w.heap.size w W) => tz_walk cov W hc36 (ht.below h))
  have hf36 : ctzU 64 cov < 36 := by omega
  unfold nxt
  have HL : tryL s cov = if s.l = s.w then [⟨(ctzU 64 cov : Int) / (s.c : Int), (ctzU 64 cov : Int) % (s.c : Int), false⟩] else [⟨(ctzU 64 cov : Int) / (s.c : Int), (ctzU 64 cov : Int) % (s.c : Int), false⟩, ⟨(ctzU 64 cov : Int) / (s.c : Int), (ctzU 64 cov : Int) % (s.c : Int), true⟩] := rfl
  generalize tryL s cov = L at HL ⊢
  generalize ctzU 64 cov = f at HT hf36 HL
  have hq0 : 0 ≤ (f : Int) / (s.c : Int) := Int.ediv_nonneg (by omega) (by omega)
  have hq1 : (f : Int) / (s.c : Int) ≤ 36 := by have := Int.ediv_le_self (b := (s.c : Int)) (show (0 : Int) ≤ f by omega); omega
  have hb : ((s.c : Int) == 0) = false := by simp; omega
  have hcz : ¬ s.c = 0 := by omega
  have HQ := Lib.hid (fun W => square_any s W)
  by_cases hsq : s.l = s.w
  · rw [if_pos hsq] at HL
    rw [decide_eq_true hsq] at HQ
    clear hsq
    go_enter Tryd.func107, Tryd.ntmps107
    go_wp2_with (go_at_call 129; refine (HT.out _ ((Below.refl _ _).alloc (Nat.le_refl _) _)).mono ?_; rintro e w1 ⟨rfl, rfl⟩)
    go_region
    go_wp2_with fail
    refine (HQ.out _).mono ?_
    rintro e w1 ⟨rfl, hb1⟩
    have hx0 := hb1.cell (p := ⟨w.heap.size, 0, none⟩) (by simp; omega)
    have hx1 := hb1.cell (p := ⟨w.heap.size, 1, none⟩) (by simp; omega)
    have hx2 := hb1.cell (p := ⟨w.heap.size, 2, none⟩) (by simp; omega)
    have hx3 := hb1.cell (p := ⟨w.heap.size, 3, none⟩) (by simp; omega)
    have hzz := hb1.size
    have hh1 := (hb1.block (w.heap.size + 1) (by simp)).trans ((heap_alloc_old _ _ (by simp)).trans (heap_at _ _ _ (by simp)))
    have hh2 := (hb1.block (w.heap.size + 1 + 1) (by simp)).trans (heap_at _ _ _ (by simp))
    simp [go_sem] at hx0 hx1 hx2 hx3 hzz
    have hbw : Below w.heap.size w w1 := ((((Below.refl _ _).alloc (Nat.le_refl _) _).alloc (by simp) _).alloc (by simp; omega) _).drew.trans (hb1.mono (by simp; omega))
    clear hb1
    have hown : w1.ownsRow w.heap.size 69 3 (.slice (some ⟨w.heap.size + 1 + 1, 0, none⟩) 1 1) 1 (ccells L) := by rw [HL]; exact own_card_at hh2 (by omega)
    go_wp2_with fail
    obtain ⟨A, c, he, hA, hn⟩ := own_cards hown
    injection he with he1 he2 he3
    rw [he1]
    have HLN := Lib.hid (show L.length = 1 from hn.symm)
    obtain ⟨W0, hW0⟩ : ∃ W0, W0 = w1 := ⟨_, rfl⟩
    rw [← hW0] at hx0 hx1 hx2 hx3 hzz hbw hA ⊢
    clear he1 he2 he3 hW0 hh1 hh2 hn
    have HLL := Lib.hid HL
    have hbs : w.heap.size < W0.heap.size := by omega
    clear HL hb hq0 hq1 hcz HT HQ hown
    go_loopw [8, 35] (fun v i wr => ∃ k : Nat, k ≤ 1 ∧ i = .int .i64 k ∧ wr.ownsRow W0.heap.size 69 3 v ((L.take k).filter fun x => decide (freeP s cov x)).length (ccells ((L.take k).filter fun x => decide (freeP s cov x))) ∧ Below W0.heap.size W0 wr) (fun _ i _ => 1 - (intOf i).toNat)
    case atStart => exact ⟨0, by omega, rfl, World.ownsRow_nil _ _ _ _, Below.refl _ _⟩
    case round =>
      obtain ⟨k, hk, rfl, hown, hbr⟩ := hrel
      have j0 := (hbr.cell (p := ⟨w.heap.size, 0, none⟩) hbs).trans hx0
      have j1 := (hbr.cell (p := ⟨w.heap.size, 1, none⟩) hbs).trans hx1
      have j2 := (hbr.cell (p := ⟨w.heap.size, 2, none⟩) hbs).trans hx2
      have j3 := (hbr.cell (p := ⟨w.heap.size, 3, none⟩) hbs).trans hx3
      have hszr := hbr.size
      by_cases hlt : k < 1
      · have hx : L[k]? = some (L[k]'(by rw [HLN.out]; exact hlt)) := List.getElem?_eq_getElem _
        generalize L[k]'(by rw [HLN.out]; exact hlt) = x at hx
        obtain ⟨b, off, rfl, hb, c0, c1, c2⟩ := (hA.below hbr (Nat.le_refl _)) k x hx
        have hb' : b < wr.heap.size := by omega
        have hts := take_snoc hx
        have hlen : ((L.take k).filter fun x => decide (freeP s cov x)).length ≤ 2 := Nat.le_trans (List.length_filter_le _ _) (by rw [List.length_take]; omega)
        have hwsz : w.heap.size < wr.heap.size := by omega
        clear hx hA hx0 hx1 hx2 hx3
        have HF := Lib.hid (fun W => fits_any s x W hs)
        have HS := Lib.hid (congrArg (List.filter fun x => decide (freeP s cov x)) hts)
        rw [List.filter_append] at HS
        clear hts
        generalize HM : (L.take k).filter (fun x => decide (freeP s cov x)) = M at hown hlen HS
        clear HM
        by_cases hfit : fitP s x
        · have HU := Lib.hid (fun W => under_any s x W hs hfit)
          have hu := und_lt36 hs hfit
          have HA := u64_and_nat cov (und s x) (by omega) (by omega)
          rw [decide_eq_true hfit] at HF
          by_cases hz : cov &&& und s x = 0
          · have HE : ([x].filter fun x => decide (freeP s cov x)) = [x] := by rw [List.filter_cons_of_pos (by exact decide_eq_true ⟨hfit, hz⟩)]; rfl
            have HSS := HS.out
            rw [HE] at HSS
            have HS' := Lib.hid HSS
            rw [hz] at HA
            clear HSS HE HS hz hfit
            go_wp2_with (first
              | (go_at_call 80; refine (HF.out _).mono ?_; rintro e w3 ⟨rfl, hb3⟩; obtain ⟨q1, q2, q3⟩ := bcell hb3; simp only [World.size_alloc] at q1 q2 q3; have hz3 : wr.heap.size < w3.heap.size := (by omega); have hz4 : w.heap.size < w3.heap.size := (by omega))
              | (go_at_call 82; refine (HU.out _).mono ?_; rintro e w4 ⟨rfl, hb4⟩; obtain ⟨r1, r2, r3⟩ := bcell hb4; have own4 := own_below (own_below (hown.alloc _) hb3) hb4)
              | (at_builtin; refine wpList_append_card _ rfl _ _ rfl W0.heap.size _ w4.heap.size _ _ x rfl (own4.alloc _) rfl (heap_at _ _ _ rfl) (by omega) (by simp; omega) ?_; intro A5 c5 w5 hown5 hgr5 _))
            go_roundw
            case rel =>
              refine ⟨k + 1, by omega, by go_num, ?_, ?_⟩
              · rw [HS'.out, List.length_append]; exact hown5
              · exact (((hbr.trans (((below_new _ _).trans (hb3.mono (by simp))).mono hszr)).trans (hb4.mono (by omega))).alloc (by omega) _).grown hgr5 (by simp; omega) (fun g hg => (own4.lt g hg).1)
            case measure => simp [intOf]; omega
          · have HE : ([x].filter fun x => decide (freeP s cov x)) = [] := by rw [List.filter_cons_of_neg (by simp [freeP, hz])]; rfl
            have HSS := HS.out
            rw [HE, List.append_nil] at HSS
            have HS' := Lib.hid HSS
            have hz' : (((cov &&& und s x : Nat) : Int) == 0) = false := by simp; exact hz
            clear HSS HE HS hz hfit
            generalize cov &&& und s x = z at HA hz'
            go_wp2_with (first
              | (go_at_call 80; refine (HF.out _).mono ?_; rintro e w3 ⟨rfl, hb3⟩; obtain ⟨q1, q2, q3⟩ := bcell hb3; simp only [World.size_alloc] at q1 q2 q3; have hz3 : wr.heap.size < w3.heap.size := (by omega); have hz4 : w.heap.size < w3.heap.size := (by omega))
              | (go_at_call 82; refine (HU.out _).mono ?_; rintro e w4 ⟨rfl, hb4⟩; obtain ⟨r1, r2, r3⟩ := bcell hb4; have own4 := own_below (own_below (hown.alloc _) hb3) hb4))
            go_roundw
            case rel => exact ⟨k + 1, by omega, by go_num, by rw [HS'.out]; exact own4, (hbr.trans (((below_new _ _).trans (hb3.mono (by simp))).mono hszr)).trans (hb4.mono (by omega))⟩
            case measure => simp [intOf]; omega
        · have HE : ([x].filter fun x => decide (freeP s cov x)) = [] := by rw [List.filter_cons_of_neg (by simp [freeP, hfit])]; rfl
          have HSS := HS.out
          rw [HE, List.append_nil] at HSS
          have HS' := Lib.hid HSS
          rw [decide_eq_false hfit] at HF
          clear HSS HE HS hfit
          go_wp2_with (go_at_call 80; refine (HF.out _).mono ?_; rintro e w3 ⟨rfl, hb3⟩; obtain ⟨q1, q2, q3⟩ := bcell hb3; simp only [World.size_alloc] at q1 q2 q3; have hz3 : wr.heap.size < w3.heap.size := (by omega); have hz4 : w.heap.size < w3.heap.size := (by omega); have own3 := own_below (hown.alloc _) hb3)
          go_roundw
          case rel => exact ⟨k + 1, by omega, by go_num, by rw [HS'.out]; exact own3, hbr.trans (((below_new _ _).trans (hb3.mono (by simp))).mono hszr)⟩
          case measure => simp [intOf]; omega
      · have : k = 1 := by omega
        subst this
        rw [List.take_of_length_le (by rw [HLN.out]; exact Nat.le_refl _)] at hown
        obtain ⟨A', c', rfl, hA', _⟩ := own_cards hown
        go_wp2
        go_ret
        exact ⟨A', c', rfl, hA', hbw.trans (hbr.mono (by omega)), fun ad h => by have := own_block_ge hown ad h; omega⟩
  · rw [if_neg hsq] at HL
    rw [decide_eq_false hsq] at HQ
    clear hsq
    go_enter Tryd.func107, Tryd.ntmps107
    go_wp2_with (go_at_call 129; refine (HT.out _ ((Below.refl _ _).alloc (Nat.le_refl _) _)).mono ?_; rintro e w1 ⟨rfl, rfl⟩)
    go_region
    go_wp2_with fail
    refine (HQ.out _).mono ?_
    rintro e w1 ⟨rfl, hb1⟩
    have hx0 := hb1.cell (p := ⟨w.heap.size, 0, none⟩) (by simp; omega)
    have hx1 := hb1.cell (p := ⟨w.heap.size, 1, none⟩) (by simp; omega)
    have hx2 := hb1.cell (p := ⟨w.heap.size, 2, none⟩) (by simp; omega)
    have hx3 := hb1.cell (p := ⟨w.heap.size, 3, none⟩) (by simp; omega)
    have hzz := hb1.size
    have hh1 := (hb1.block (w.heap.size + 1) (by simp)).trans ((heap_alloc_old _ _ (by simp)).trans (heap_at _ _ _ (by simp)))
    have hh2 := (hb1.block (w.heap.size + 1 + 1) (by simp)).trans (heap_at _ _ _ (by simp))
    simp [go_sem] at hx0 hx1 hx2 hx3 hzz
    have hbw : Below w.heap.size w w1 := ((((Below.refl _ _).alloc (Nat.le_refl _) _).alloc (by simp) _).alloc (by simp; omega) _).drew.trans (hb1.mono (by simp; omega))
    clear hb1
    have hown : w1.ownsRow w.heap.size 69 3 (.slice (some ⟨w.heap.size + 1 + 1, 0, none⟩) 1 1) 1 (ccells [⟨(f : Int) / (s.c : Int), (f : Int) % (s.c : Int), false⟩]) := own_card_at hh2 (by omega)
    have hk0 := cell_of_row w1 (w.heap.size + 1) 0 _ _ _ hh1
    have hk1 := cell_of_row w1 (w.heap.size + 1) 1 _ _ _ hh1
    have hk2 := cell_of_row w1 (w.heap.size + 1) 2 _ _ _ hh1
    have hf2 := frozen_of_row w1 (w.heap.size + 1) 2 _ _ hh1
    have hc1 := Chg.store w1 ⟨w.heap.size + 1, 2, none⟩ (.bool true)
    have hown1 := (hc1.own hown (fun g h => by simp [Value.ownBlock] at h; simp; omega)).alloc (.cells #[.int .i64 ((f : Int) / (s.c : Int)), .int .i64 ((f : Int) % (s.c : Int)), .bool true] 69)
    simp at hk0 hk1 hk2
    clear hh1 hh2
    go_wp2_with (at_builtin; refine wpList_append_card _ rfl _ _ rfl w.heap.size 1 w1.heap.size _ _ ⟨(f : Int) / (s.c : Int), (f : Int) % (s.c : Int), true⟩ rfl hown1 rfl (heap_at _ _ _ (by simp)) (by omega) (by simp; omega) ?_; intro A2 c2 w2 hown2 hgr2 _)
    have hbw2 : Below w.heap.size w w2 := ((hbw.setCell (by simp) _).alloc (by simp; omega) _).grown hgr2 (by simp; omega) (fun g h => by have e : w.heap.size + 1 + 1 = g := Option.some.inj h; omega)
    have hch : Chg (fun i => w.heap.size + 1 ≤ i) w1 w2 := ((hc1.mono (Q := fun i => w.heap.size + 1 ≤ i) (fun i _ h => by have e : i = w.heap.size + 1 := h; omega)).alloc _).trans (Chg.of_grown hgr2) (fun i _ h => by have e : i = w.heap.size + 1 + 1 := Option.some.inj h; omega)
    replace hx0 := (hch.cell (p := ⟨w.heap.size, 0, none⟩) (by simp; omega) (by simp)).trans hx0
    replace hx1 := (hch.cell (p := ⟨w.heap.size, 1, none⟩) (by simp; omega) (by simp)).trans hx1
    replace hx2 := (hch.cell (p := ⟨w.heap.size, 2, none⟩) (by simp; omega) (by simp)).trans hx2
    replace hx3 := (hch.cell (p := ⟨w.heap.size, 3, none⟩) (by simp; omega) (by simp)).trans hx3
    replace hzz : w.heap.size + 1 + 1 + 1 ≤ w2.heap.size := Nat.le_trans hzz hch.size
    clear hown
    have hown : w2.ownsRow w.heap.size 69 3 (.slice A2 (1 + 1) c2) (1 + 1) (ccells L) := by rw [HL]; exact hown2
    obtain ⟨A, c, he, hA, hn⟩ := own_cards hown
    injection he with he1 he2 he3
    rw [he1]
    have HLN := Lib.hid (show L.length = 2 from hn.symm)
    obtain ⟨W0, hW0⟩ : ∃ W0, W0 = w2 := ⟨_, rfl⟩
    rw [← hW0] at hx0 hx1 hx2 hx3 hzz hbw2 hA ⊢
    replace hbw := hbw2
    clear he1 he2 he3 hW0 hn hch hc1 hown1 hown2 hgr2 hk0 hk1 hk2 hf2
    have HLL := Lib.hid HL
    have hbs : w.heap.size < W0.heap.size := by omega
    clear HL hb hq0 hq1 hcz HT HQ hown
    go_loopw [8, 35] (fun v i wr => ∃ k : Nat, k ≤ 2 ∧ i = .int .i64 k ∧ wr.ownsRow W0.heap.size 69 3 v ((L.take k).filter fun x => decide (freeP s cov x)).length (ccells ((L.take k).filter fun x => decide (freeP s cov x))) ∧ Below W0.heap.size W0 wr) (fun _ i _ => 2 - (intOf i).toNat)
    case atStart => exact ⟨0, by omega, rfl, World.ownsRow_nil _ _ _ _, Below.refl _ _⟩
    case round =>
      obtain ⟨k, hk, rfl, hown, hbr⟩ := hrel
      have j0 := (hbr.cell (p := ⟨w.heap.size, 0, none⟩) hbs).trans hx0
      have j1 := (hbr.cell (p := ⟨w.heap.size, 1, none⟩) hbs).trans hx1
      have j2 := (hbr.cell (p := ⟨w.heap.size, 2, none⟩) hbs).trans hx2
      have j3 := (hbr.cell (p := ⟨w.heap.size, 3, none⟩) hbs).trans hx3
      have hszr := hbr.size
      by_cases hlt : k < 2
      · have hx : L[k]? = some (L[k]'(by rw [HLN.out]; exact hlt)) := List.getElem?_eq_getElem _
        generalize L[k]'(by rw [HLN.out]; exact hlt) = x at hx
        obtain ⟨b, off, rfl, hb, c0, c1, c2⟩ := (hA.below hbr (Nat.le_refl _)) k x hx
        have hb' : b < wr.heap.size := by omega
        have hts := take_snoc hx
        have hlen : ((L.take k).filter fun x => decide (freeP s cov x)).length ≤ 2 := Nat.le_trans (List.length_filter_le _ _) (by rw [List.length_take]; omega)
        have hwsz : w.heap.size < wr.heap.size := by omega
        clear hx hA hx0 hx1 hx2 hx3
        have HF := Lib.hid (fun W => fits_any s x W hs)
        have HS := Lib.hid (congrArg (List.filter fun x => decide (freeP s cov x)) hts)
        rw [List.filter_append] at HS
        clear hts
        generalize HM : (L.take k).filter (fun x => decide (freeP s cov x)) = M at hown hlen HS
        clear HM
        by_cases hfit : fitP s x
        · have HU := Lib.hid (fun W => under_any s x W hs hfit)
          have hu := und_lt36 hs hfit
          have HA := u64_and_nat cov (und s x) (by omega) (by omega)
          rw [decide_eq_true hfit] at HF
          by_cases hz : cov &&& und s x = 0
          · have HE : ([x].filter fun x => decide (freeP s cov x)) = [x] := by rw [List.filter_cons_of_pos (by exact decide_eq_true ⟨hfit, hz⟩)]; rfl
            have HSS := HS.out
            rw [HE] at HSS
            have HS' := Lib.hid HSS
            rw [hz] at HA
            clear HSS HE HS hz hfit
            go_wp2_with (first
              | (go_at_call 80; refine (HF.out _).mono ?_; rintro e w3 ⟨rfl, hb3⟩; obtain ⟨q1, q2, q3⟩ := bcell hb3; simp only [World.size_alloc] at q1 q2 q3; have hz3 : wr.heap.size < w3.heap.size := (by omega); have hz4 : w.heap.size < w3.heap.size := (by omega))
              | (go_at_call 82; refine (HU.out _).mono ?_; rintro e w4 ⟨rfl, hb4⟩; obtain ⟨r1, r2, r3⟩ := bcell hb4; have own4 := own_below (own_below (hown.alloc _) hb3) hb4)
              | (at_builtin; refine wpList_append_card _ rfl _ _ rfl W0.heap.size _ w4.heap.size _ _ x rfl (own4.alloc _) rfl (heap_at _ _ _ rfl) (by omega) (by simp; omega) ?_; intro A5 c5 w5 hown5 hgr5 _))
            go_roundw
            case rel =>
              refine ⟨k + 1, by omega, by go_num, ?_, ?_⟩
              · rw [HS'.out, List.length_append]; exact hown5
              · exact (((hbr.trans (((below_new _ _).trans (hb3.mono (by simp))).mono hszr)).trans (hb4.mono (by omega))).alloc (by omega) _).grown hgr5 (by simp; omega) (fun g hg => (own4.lt g hg).1)
            case measure => simp [intOf]; omega
          · have HE : ([x].filter fun x => decide (freeP s cov x)) = [] := by rw [List.filter_cons_of_neg (by simp [freeP, hz])]; rfl
            have HSS := HS.out
            rw [HE, List.append_nil] at HSS
            have HS' := Lib.hid HSS
            have hz' : (((cov &&& und s x : Nat) : Int) == 0) = false := by simp; exact hz
            clear HSS HE HS hz hfit
            generalize cov &&& und s x = z at HA hz'
            go_wp2_with (first
              | (go_at_call 80; refine (HF.out _).mono ?_; rintro e w3 ⟨rfl, hb3⟩; obtain ⟨q1, q2, q3⟩ := bcell hb3; simp only [World.size_alloc] at q1 q2 q3; have hz3 : wr.heap.size < w3.heap.size := (by omega); have hz4 : w.heap.size < w3.heap.size := (by omega))
              | (go_at_call 82; refine (HU.out _).mono ?_; rintro e w4 ⟨rfl, hb4⟩; obtain ⟨r1, r2, r3⟩ := bcell hb4; have own4 := own_below (own_below (hown.alloc _) hb3) hb4))
            go_roundw
            case rel => exact ⟨k + 1, by omega, by go_num, by rw [HS'.out]; exact own4, (hbr.trans (((below_new _ _).trans (hb3.mono (by simp))).mono hszr)).trans (hb4.mono (by omega))⟩
            case measure => simp [intOf]; omega
        · have HE : ([x].filter fun x => decide (freeP s cov x)) = [] := by rw [List.filter_cons_of_neg (by simp [freeP, hfit])]; rfl
          have HSS := HS.out
          rw [HE, List.append_nil] at HSS
          have HS' := Lib.hid HSS
          rw [decide_eq_false hfit] at HF
          clear HSS HE HS hfit
          go_wp2_with (go_at_call 80; refine (HF.out _).mono ?_; rintro e w3 ⟨rfl, hb3⟩; obtain ⟨q1, q2, q3⟩ := bcell hb3; simp only [World.size_alloc] at q1 q2 q3; have hz3 : wr.heap.size < w3.heap.size := (by omega); have hz4 : w.heap.size < w3.heap.size := (by omega); have own3 := own_below (hown.alloc _) hb3)
          go_roundw
          case rel => exact ⟨k + 1, by omega, by go_num, by rw [HS'.out]; exact own3, hbr.trans (((below_new _ _).trans (hb3.mono (by simp))).mono hszr)⟩
          case measure => simp [intOf]; omega
      · have : k = 2 := by omega
        subst this
        rw [List.take_of_length_le (by rw [HLN.out]; exact Nat.le_refl _)] at hown
        obtain ⟨A', c', rfl, hA', _⟩ := own_cards hown
        go_wp2
        go_ret
        exact ⟨A', c', rfl, hA', hbw.trans (hbr.mono (by omega)), fun ad h => by have := own_block_ge hown ad h; omega⟩
end Go.Proofs.YtlollcabnfncpaaDoor
