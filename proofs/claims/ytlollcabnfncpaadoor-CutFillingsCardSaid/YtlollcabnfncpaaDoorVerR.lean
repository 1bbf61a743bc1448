/-
  The reference: a filling is checked.
-/
import Derived.Test.YtlollcabnfncpaaDoorRefD
import Derived.Test.YtlollcabnfncpaaDoorFlA
import Derived.Deep.DeepCutAuto
import Derived.BigQuiet
namespace Go.Proofs.YtlollcabnfncpaaDoor
open Go.RowKit

/-- The number of the last card's square. -/
def lastQ (s : Sh) (l : List Cd) : Int := match l.getLast? with | none => -1 | some y => sqI s y
theorem lastQ_snoc (s : Sh) (l : List Cd) (x : Cd) : lastQ s (l ++ [x]) = sqI s x := by simp [lastQ]
theorem lastQ_at (s : Sh) {x : List Cd} {k : Nat} {y : Cd} (h : x[k]? = some y) : lastQ s (x.take (k + 1)) = sqI s y := by rw [take_snoc h, lastQ_snoc]
/-- The order of squares is that of rows, and of columns within a row. -/
theorem ord_sq {s : Sh} (hs : s.Ok) {x y : Cd} (hx : fitP s x) (hy : fitP s y) : sqI s y ≤ sqI s x ↔ (y.row < x.row ∨ (y.row = x.row ∧ y.col ≤ x.col)) := by
  obtain ⟨a1, a2, a3, a4⟩ := hx
  obtain ⟨b1, b2, b3, b4⟩ := hy
  have h1 := (wiS_le hs x.t).1
  have h2 := (wiS_le hs y.t).1
  unfold sqI
  have hc : (0 : Int) ≤ (s.c : Int) := by omega
  rcases Int.lt_trichotomy y.row x.row with h | h | h
  · have h3 : (y.row + 1) * (s.c : Int) ≤ x.row * (s.c : Int) := Int.mul_le_mul_of_nonneg_right (by omega) hc
    rw [Int.add_mul, Int.one_mul] at h3
    constructor
    · intro _; exact .inl h
    · intro _; omega
  · rw [h]
    constructor
    · intro e; exact .inr ⟨rfl, by omega⟩
    · rintro (e | ⟨_, e⟩) <;> omega
  · have h3 : (x.row + 1) * (s.c : Int) ≤ y.row * (s.c : Int) := Int.mul_le_mul_of_nonneg_right (by omega) hc
    rw [Int.add_mul, Int.one_mul] at h3
    constructor
    · intro e; omega
    · rintro (e | ⟨e, _⟩) <;> omega
/-- So far the cards are right. -/
def VInv (s : Sh) (x : List Cd) (k : Nat) : Prop := verS s x = verM s (x.drop k) (covL s (x.take k)) (lastQ s (x.take k)) ∧ ∀ y ∈ x.take k, fitP s y
theorem VInv.zero (s : Sh) (x : List Cd) : VInv s x 0 := ⟨rfl, fun y hy => by simp at hy⟩
theorem VInv.at {s : Sh} {x : List Cd} {k : Nat} {y : Cd} (h : VInv s x k) (hy : x[k]? = some y) : verS s x = verM s (y :: x.drop (k + 1)) (covL s (x.take k)) (lastQ s (x.take k)) := by
  obtain ⟨hk, rfl⟩ := List.getElem?_eq_some_iff.1 hy
  rw [h.1, ← List.drop_eq_getElem_cons hk]
theorem VInv.next {s : Sh} {x : List Cd} {k : Nat} {y : Cd} (h : VInv s x k) (hy : x[k]? = some y) (h1 : ¬ (y.t = true ∧ s.l = s.w)) (h2 : fitP s y) (h3 : ¬ sqI s y ≤ lastQ s (x.take k)) (h4 : covL s (x.take k) &&& und s y = 0) : VInv s x (k + 1) := by
  refine ⟨?_, fun z hz => ?_⟩
  · rw [h.at hy, verM_cons_ok h1 h2 h3 h4, take_snoc hy, covL_snoc, lastQ_snoc]
  · rw [take_snoc hy] at hz
    rcases List.mem_append.1 hz with hz | hz
    · exact h.2 z hz
    · rw [List.mem_singleton.1 hz]; exact h2
theorem near_of_fit {s : Sh} (hs : s.Ok) {y : Cd} (h : fitP s y) : Near y := by
  obtain ⟨h1, h2, h3, h4⟩ := h
  have := hs.r6
  have := hs.c6
  exact ⟨⟨h1, by omega⟩, h3, by omega⟩
theorem whole_cov {s : Sh} {x : List Cd} (hf : ∀ y ∈ x, fitP s y) : covL s x = whl s ↔ ∀ row : Nat, row < s.r → ∀ col : Nat, col < s.c → covA s x row col = true := by
  constructor
  · intro h row hr col hc
    rw [covA_bit hf hc, h, whl_bit]
    exact decide_eq_true (sq_lt hr hc)
  · intro h
    refine (covL_in hf).whole fun i hi => ?_
    have hc : 0 < s.c := by
      rcases Nat.eq_zero_or_pos s.c with e | e
      · rw [e] at hi; omega
      · exact e
    have h1 := Nat.div_add_mod i s.c
    have h2 := Nat.mod_lt i hc
    have h3 : i / s.c < s.r := Nat.div_lt_of_lt_mul (by rw [Nat.mul_comm]; exact hi)
    have := h _ h3 _ h2
    rw [covA_bit hf h2] at this
    rw [Nat.mul_comm (i / s.c), h1] at this
    exact this

set_option maxRecDepth 100000 in
set_option maxHeartbeats 8000000 in
theorem rverify_ok (s : Sh) (hs : s.Ok) (A : Option Addr) (c : Nat) (x : List Cd) (w : World) (hA : RcdsAt w w.heap.size A x) (hn : x.length < 1000000) (hcap : x.length ≤ c) :
    Calls Tryd.prog 36 #[.agg #[.int .i64 s.r, .int .i64 s.c, .int .i64 s.l, .int .i64 s.w], .slice A x.length c] w fun e w' => e = .returned (.int .i64 (verS s x)) ∧ Below w.heap.size w w' := by
  obtain ⟨W0, hW0⟩ : ∃ W0, W0 = w.alloc (.cells #[.int .i64 s.r, .int .i64 s.c, .int .i64 s.l, .int .i64 s.w] 24) := ⟨_, rfl⟩
  have hb0 : Below w.heap.size w W0 := hW0 ▸ below_new w _
  have HB := Lib.hid hb0
  have hz0 : w.heap.size + 1 = W0.heap.size := by rw [hW0]; simp
  have HA := Lib.hid ((hA.below hb0 (Nat.le_refl _)).mono (show w.heap.size ≤ W0.heap.size by omega))
  have HK := Lib.hid (fun (W : World) (h : Below W0.heap.size W0 W) => show W.cell? ⟨w.heap.size, 0, none⟩ = some (.int .i64 s.r) ∧ W.cell? ⟨w.heap.size, 1, none⟩ = some (.int .i64 s.c) ∧ W.cell? ⟨w.heap.size, 2, none⟩ = some (.int .i64 s.l) ∧ W.cell? ⟨w.heap.size, 3, none⟩ = some (.int .i64 s.w) from
    ⟨(h.cell (p := ⟨w.heap.size, 0, none⟩) (by simp; omega)).trans (by rw [hW0]; simp [go_sem]), (h.cell (p := ⟨w.heap.size, 1, none⟩) (by simp; omega)).trans (by rw [hW0]; simp [go_sem]), (h.cell (p := ⟨w.heap.size, 2, none⟩) (by simp; omega)).trans (by rw [hW0]; simp [go_sem]), (h.cell (p := ⟨w.heap.size, 3, none⟩) (by simp; omega)).trans (by rw [hW0]; simp [go_sem])⟩)
  have HCK := Lib.hid (fun W => rcheck_any s.r s.c s.l s.w W)
  rw [chkS_ok hs] at HCK
  obtain ⟨V, hV⟩ : ∃ V, V = verS s x := ⟨_, rfl⟩
  have HVV := Lib.hid hV
  have HFR := Lib.hid (fun (k : Nat) (hk : k ≤ x.length) (y : Cd) (hf : ∀ z ∈ x.take k, fitP s z) (hy : fitP s y) (W : World) (h : Below W0.heap.size W0 W) (b : Bool) (hb : b = decide (covL s (x.take k) &&& und s y = 0)) => show Calls Tryd.prog 85 #[.agg #[.int .i64 s.r, .int .i64 s.c, .int .i64 s.l, .int .i64 s.w], .slice A k c, .agg #[.int .i64 y.row, .int .i64 y.col, .bool y.t]] W (fun e w' => e = .returned (.bool b) ∧ Below W.heap.size W w') from by
    have h5 := rfits_any s A c (x.take k) y b W hs (fun j z hz => (HA.out.up h) j z (by
      rw [List.getElem?_take] at hz
      split at hz
      · exact hz
      · cases hz)) (fun z hz => near_of_fit hs (hf z hz)) (near_of_fit hs hy) (by rw [List.length_take]; omega) (by
        rw [hb, decide_eq_true_eq, fit_free hf hy.1 hy.2.2.1]
        exact ⟨fun h => ⟨hy, h⟩, fun h => h.2⟩)
    rw [List.length_take, Nat.min_eq_left hk] at h5
    exact h5)
  have HSZ := Lib.hid (fun (y : Cd) W => rsize_any s y W)
  have HCV := Lib.hid (fun (hf : ∀ z ∈ x, fitP s z) (row col : Int) (W : World) (h : Below W0.heap.size W0 W) => covered_any s A c x row col W hs (HA.out.up h) (fun z hz => near_of_fit hs (hf z hz)) hn)
  have hr6 := hs.r6
  have hc6 := hs.c6
  have hr1 := hs.r1
  have hc1 := hs.c1
  have HOK := Lib.hid hs
  rw [← hV]
  clear hA hV hb0 hs
  go_enter Tryd.func36, Tryd.ntmps36
  go_wp2_with fail
  rw [← hW0]
  refine (HCK.out _).mono ?_
  rintro e w1 ⟨rfl, hb1⟩
  have hz1 := hb1.size
  have HZ := Lib.hid hz0
  obtain ⟨p0, p1, p2, p3⟩ := HK.out _ hb1
  clear hW0 hz0 HCK
  go_wp2
  go_loopw [6] (fun i wr => ∃ k : Nat, k ≤ x.length ∧ i = .int .i64 k ∧ Hid (VInv s x k) ∧ Below W0.heap.size W0 wr) (fun i _ => x.length - (intOf i).toNat)
  case atStart => exact ⟨0, Nat.zero_le _, rfl, Lib.hid (VInv.zero s x), hb1⟩
  case round =>
    obtain ⟨k, hk, rfl, HI, hbr⟩ := hrel
    have hzr := hbr.size
    obtain ⟨r0, r1, r2, r3⟩ := HK.out _ hbr
    have hgz := lt_of_cell r0
    by_cases hlt : k < x.length
    · have hy : x[k]? = some x[k] := List.getElem?_eq_getElem hlt
      generalize x[k] = y at hy
      have HYK := Lib.hid hy
      have HVM := Lib.hid (HVV.out.trans (HI.out.at hy))
      obtain ⟨bx, off, rfl, hb, d0, d1, d2⟩ := HA.out k y hy
      replace d0 := (hbr.cell (p := ⟨bx, _, none⟩) (by simp; omega)).trans d0
      replace d1 := (hbr.cell (p := ⟨bx, _, none⟩) (by simp; omega)).trans d1
      replace d2 := (hbr.cell (p := ⟨bx, _, none⟩) (by simp; omega)).trans d2
      have hki : (k : Int) < (x.length : Int) := by omega
      have hk0 : (0 : Int) ≤ (k : Int) := by omega
      have hkc : (k : Int) ≤ (c : Int) := by omega
      have hbz : bx < wr.heap.size := by omega
      have HBN := Lib.hid (HB.out.trans ((hbr.alloc hzr (.cells #[.int .i64 y.row, .int .i64 y.col, .bool y.t] 99)).mono (by have := HZ.out; omega)))
      clear hy
      by_cases hsh : y.t = true ∧ s.l = s.w
      · have hv5 : V = 5 := HVM.out.trans (verM_cons_shape hsh.1 hsh.2)
        have hlw : ((s.l : Int) == (s.w : Int)) = true := beq_iff_eq.2 (by omega)
        have hyt := hsh.1
        clear hsh HVM
        obtain ⟨yr, yc, yt⟩ := y
        dsimp only at *
        subst hyt
        subst hv5
        go_wp2
        go_ret
        exact ⟨rfl, HBN.out⟩
      have HSH := Lib.hid hsh
      have hm : (y.t = false ∨ y.t = true ∧ ((s.l : Int) == (s.w : Int)) = false) := by
        rcases hyt : y.t with _ | _
        · exact .inl rfl
        · exact .inr ⟨rfl, beq_eq_false_iff_ne.2 (fun e => hsh ⟨hyt, by omega⟩)⟩
      clear hsh
      obtain ⟨yr, yc, yt⟩ := y
      dsimp only at hm
      rcases hm with rfl | ⟨rfl, hlw⟩
      · have h3 := hiS_le HOK.out false
        have h4 := wiS_le HOK.out false
        have HSY := Lib.hid (HSZ.out ⟨yr, yc, false⟩)
        have hfe : fitP s ⟨yr, yc, false⟩ ↔ (0 ≤ yr ∧ yr ≤ (s.r : Int) - (hiS s false : Nat)) ∧ 0 ≤ yc ∧ yc ≤ (s.c : Int) - (wiS s false : Nat) := by unfold fitP; exact ⟨fun h => ⟨⟨h.1, h.2.1⟩, h.2.2⟩, fun h => ⟨h.1.1, h.1.2, h.2⟩⟩
        have HFE := Lib.hid hfe
        clear hfe
        dsimp only at HSY
        generalize hiS s false = hh at *
        generalize wiS s false = ww at *
        obtain ⟨v1, hv1⟩ : ∃ b, b = decide (0 ≤ yr ∧ yr ≤ (s.r : Int) - (hh : Nat)) := ⟨_, rfl⟩
        obtain ⟨v2, hv2⟩ : ∃ b, b = decide (0 ≤ yc ∧ yc ≤ (s.c : Int) - (ww : Nat)) := ⟨_, rfl⟩
        have HI1 := Lib.hid (fun (W : World) => is_same (W := W) (n := yr) (lo := 0) (hi := (s.r : Int) - (hh : Nat)) hv1)
        have HI2 := Lib.hid (fun (W : World) => is_same (W := W) (n := yc) (lo := 0) (hi := (s.c : Int) - (ww : Nat)) hv2)
        have HV1 := Lib.hid hv1
        have HV2 := Lib.hid hv2
        clear hv1 hv2
        have hw1 : IntKind.i64.wrap ((s.r : Int) - (hh : Int)) = (s.r : Int) - (hh : Int) := IntWalk.i64_in _ (by omega)
        have hw2 : IntKind.i64.wrap ((s.c : Int) - (ww : Int)) = (s.c : Int) - (ww : Int) := IntWalk.i64_in _ (by omega)
        rcases v1 with _ | _
        · obtain rfl : V = 1 := HVM.out.trans (verM_cons_fit (fun e => Bool.noConfusion e.1) (fun e => of_decide_eq_false HV1.out.symm (HFE.out.1 e).1))
          go_wp2_with (first | (go_at_call 84; refine (HSY.out _).mono ?_; rintro e w2 ⟨rfl, hb2⟩; have hb2r := below_via hb2; have m0 : w2.cell? ⟨wr.heap.size, 0, none⟩ = some (.int .i64 yr) := (hb2.cell (p := ⟨wr.heap.size, 0, none⟩) (by simp)).trans (by simp [go_sem]); have m1 : w2.cell? ⟨wr.heap.size, 1, none⟩ = some (.int .i64 yc) := (hb2.cell (p := ⟨wr.heap.size, 1, none⟩) (by simp)).trans (by simp [go_sem]); have m2 : w2.cell? ⟨wr.heap.size, 2, none⟩ = some (.bool false) := (hb2.cell (p := ⟨wr.heap.size, 2, none⟩) (by simp)).trans (by simp [go_sem]); have hbw := hbr.trans (hb2r.mono hzr); obtain ⟨s0, s1, s2, s3⟩ := HK.out _ hbw) | (go_at_call 67; with_reducible refine (HI1.out _).mono ?_; rintro e w3 ⟨rfl, hw3⟩; replace hw3 := hw3.symm; subst hw3) | (go_at_call 67; with_reducible refine (HI2.out _).mono ?_; rintro e w3 ⟨rfl, hw3⟩; replace hw3 := hw3.symm; subst hw3))
          go_ret
          exact ⟨rfl, HB.out.trans (hbw.mono (by have := HZ.out; omega))⟩
        rcases v2 with _ | _
        · obtain rfl : V = 1 := HVM.out.trans (verM_cons_fit (fun e => Bool.noConfusion e.1) (fun e => of_decide_eq_false HV2.out.symm (HFE.out.1 e).2))
          go_wp2_with (first | (go_at_call 84; refine (HSY.out _).mono ?_; rintro e w2 ⟨rfl, hb2⟩; have hb2r := below_via hb2; have m0 : w2.cell? ⟨wr.heap.size, 0, none⟩ = some (.int .i64 yr) := (hb2.cell (p := ⟨wr.heap.size, 0, none⟩) (by simp)).trans (by simp [go_sem]); have m1 : w2.cell? ⟨wr.heap.size, 1, none⟩ = some (.int .i64 yc) := (hb2.cell (p := ⟨wr.heap.size, 1, none⟩) (by simp)).trans (by simp [go_sem]); have m2 : w2.cell? ⟨wr.heap.size, 2, none⟩ = some (.bool false) := (hb2.cell (p := ⟨wr.heap.size, 2, none⟩) (by simp)).trans (by simp [go_sem]); have hbw := hbr.trans (hb2r.mono hzr); obtain ⟨s0, s1, s2, s3⟩ := HK.out _ hbw) | (go_at_call 67; with_reducible refine (HI1.out _).mono ?_; rintro e w3 ⟨rfl, hw3⟩; replace hw3 := hw3.symm; subst hw3) | (go_at_call 67; with_reducible refine (HI2.out _).mono ?_; rintro e w3 ⟨rfl, hw3⟩; replace hw3 := hw3.symm; subst hw3))
          go_ret
          exact ⟨rfl, HB.out.trans (hbw.mono (by have := HZ.out; omega))⟩
        have HFT := Lib.hid (HFE.out.2 ⟨of_decide_eq_true HV1.out.symm, of_decide_eq_true HV2.out.symm⟩)
        go_upto_region 13 with (first | (go_at_call 84; refine (HSY.out _).mono ?_; rintro e w2 ⟨rfl, hb2⟩; have hb2r := below_via hb2; have m0 : w2.cell? ⟨wr.heap.size, 0, none⟩ = some (.int .i64 yr) := (hb2.cell (p := ⟨wr.heap.size, 0, none⟩) (by simp)).trans (by simp [go_sem]); have m1 : w2.cell? ⟨wr.heap.size, 1, none⟩ = some (.int .i64 yc) := (hb2.cell (p := ⟨wr.heap.size, 1, none⟩) (by simp)).trans (by simp [go_sem]); have m2 : w2.cell? ⟨wr.heap.size, 2, none⟩ = some (.bool false) := (hb2.cell (p := ⟨wr.heap.size, 2, none⟩) (by simp)).trans (by simp [go_sem]); have hbw := hbr.trans (hb2r.mono hzr); obtain ⟨s0, s1, s2, s3⟩ := HK.out _ hbw) | (go_at_call 67; with_reducible refine (HI1.out _).mono ?_; rintro e w3 ⟨rfl, hw3⟩; replace hw3 := hw3.symm; subst hw3) | (go_at_call 67; with_reducible refine (HI2.out _).mono ?_; rintro e w3 ⟨rfl, hw3⟩; replace hw3 := hw3.symm; subst hw3))
        have hbW : Below w2.heap.size w2 w2 := Below.refl _ _
        clear hb2 hb2r h3 h4 hw1 hw2 HI1 HI2 HV1 HV2 r0 r1 r2 r3 d0 d1 d2
        have HBW := Lib.hid hbw
        have HKW := Lib.hid (fun (W : World) (h : Below w2.heap.size w2 W) => show W.cell? ⟨w.heap.size, 0, none⟩ = some (.int .i64 s.r) ∧ W.cell? ⟨w.heap.size, 1, none⟩ = some (.int .i64 s.c) ∧ W.cell? ⟨w.heap.size, 2, none⟩ = some (.int .i64 s.l) ∧ W.cell? ⟨w.heap.size, 3, none⟩ = some (.int .i64 s.w) ∧ W.cell? ⟨wr.heap.size, 0, none⟩ = some (.int .i64 yr) ∧ W.cell? ⟨wr.heap.size, 1, none⟩ = some (.int .i64 yc) ∧ W.cell? ⟨wr.heap.size, 2, none⟩ = some (.bool false) from ⟨(h.cell (p := ⟨w.heap.size, 0, none⟩) (lt_of_cell s0)).trans s0, (h.cell (p := ⟨w.heap.size, 1, none⟩) (lt_of_cell s0)).trans s1, (h.cell (p := ⟨w.heap.size, 2, none⟩) (lt_of_cell s0)).trans s2, (h.cell (p := ⟨w.heap.size, 3, none⟩) (lt_of_cell s0)).trans s3, (h.cell (p := ⟨wr.heap.size, 0, none⟩) (lt_of_cell m0)).trans m0, (h.cell (p := ⟨wr.heap.size, 1, none⟩) (lt_of_cell m0)).trans m1, (h.cell (p := ⟨wr.heap.size, 2, none⟩) (lt_of_cell m0)).trans m2⟩)
        obtain ⟨vb, hvb⟩ : ∃ b, b = decide (covL s (x.take k) &&& und s ⟨yr, yc, false⟩ = 0) := ⟨_, rfl⟩
        have HVB := Lib.hid hvb
        have HF85 := Lib.hid (fun (W : World) (Q : Ending → World → Prop) (h : Below w2.heap.size w2 W) (hQ : ∀ w', Below w2.heap.size w2 w' → Q (.returned (.bool vb)) w') => (HFR.out k hk ⟨yr, yc, false⟩ HI.out.2 HFT.out W (HBW.out.trans (h.mono HBW.out.size)) vb HVB.out).mono fun e w' ⟨he, hb⟩ => he ▸ hQ w' (h.trans (hb.mono h.size)))
        clear hvb hbw
        by_cases hk00 : k = 0
        · have hkz : decide ((0 : Int) < (k : Int)) = false := decide_eq_false (by omega)
          have hkz2 : ¬ (0 : Int) < (k : Int) := by omega
          have hkz3 : ¬ 0 < k := by omega
          have hkz4 : decide (0 < k) = false := decide_eq_false hkz3
          have HK0 := Lib.hid hk00
          clear hk00
          go_quiet (fail)
          change Exit.then _ _ Exit.normal _ _
          have hbd : Below w2.heap.size w2 (w2.drewN nq).drew := (below_drewN hbW nq).drew
          have hbd2 : Below w2.heap.size w2 (w2.drewN (nq + 1)) := below_drewN hbW (nq + 1)
          have HNL := Lib.hid (show ¬ sqI s ⟨yr, yc, false⟩ ≤ lastQ s (x.take k) from by rw [HK0.out]; show ¬ sqI s ⟨yr, yc, false⟩ ≤ -1; have := (sqI_in HOK.out HFT.out).1; omega)
          go_upto_region 15 with fail
          clear hbW s0 s1 s2 s3 m0 m1 m2
          rcases vb with _ | _
          · obtain rfl : V = 13 := HVM.out.trans (verM_cons_clash (fun e => Bool.noConfusion e.1) HFT.out HNL.out (of_decide_eq_false HVB.out.symm))
            go_region_held3 (fun W => W.cell? ⟨w.heap.size, 0, none⟩ = some (.int .i64 s.r) ∧ W.cell? ⟨w.heap.size, 1, none⟩ = some (.int .i64 s.c) ∧ W.cell? ⟨w.heap.size, 2, none⟩ = some (.int .i64 s.l) ∧ W.cell? ⟨w.heap.size, 3, none⟩ = some (.int .i64 s.w) ∧ W.cell? ⟨wr.heap.size, 0, none⟩ = some (.int .i64 yr) ∧ W.cell? ⟨wr.heap.size, 1, none⟩ = some (.int .i64 yc) ∧ W.cell? ⟨wr.heap.size, 2, none⟩ = some (.bool false))
              (exact HKW.out _ (by assumption))
              (first | (go_at_call 85; with_reducible refine HF85.out _ _ (by assumption) ?_; intro w6 hb6))
            all_goals
              have HB6 := Lib.hid (show Below w2.heap.size w2 w6 by assumption)
              have HW6 := Lib.hid (HBW.out.trans (HB6.out.mono HBW.out.size))
              go_wp2
              go_ret
              exact ⟨rfl, HB.out.trans (HW6.out.mono (by have := HZ.out; omega))⟩
          · have HNX := Lib.hid (HI.out.next HYK.out (fun e => Bool.noConfusion e.1) HFT.out HNL.out (of_decide_eq_true HVB.out.symm))
            go_region_held3 (fun W => W.cell? ⟨w.heap.size, 0, none⟩ = some (.int .i64 s.r) ∧ W.cell? ⟨w.heap.size, 1, none⟩ = some (.int .i64 s.c) ∧ W.cell? ⟨w.heap.size, 2, none⟩ = some (.int .i64 s.l) ∧ W.cell? ⟨w.heap.size, 3, none⟩ = some (.int .i64 s.w) ∧ W.cell? ⟨wr.heap.size, 0, none⟩ = some (.int .i64 yr) ∧ W.cell? ⟨wr.heap.size, 1, none⟩ = some (.int .i64 yc) ∧ W.cell? ⟨wr.heap.size, 2, none⟩ = some (.bool false))
              (exact HKW.out _ (by assumption))
              (first | (go_at_call 85; with_reducible refine HF85.out _ _ (by assumption) ?_; intro w6 hb6))
            all_goals
              have HB6 := Lib.hid (show Below w2.heap.size w2 w6 by assumption)
              have HW6 := Lib.hid (HBW.out.trans (HB6.out.mono HBW.out.size))
              go_wp2
              go_roundw
              case rel => exact ⟨k + 1, by omega, by go_num, HNX, HW6.out⟩
              case measure => simp [intOf]; omega
        obtain ⟨k1, hkk⟩ : ∃ k1, k = k1 + 1 := ⟨k - 1, by omega⟩
        have hp : x[k1]? = some x[k1] := List.getElem?_eq_getElem (by omega)
        generalize x[k1] = p at hp
        have HLQ := Lib.hid (show lastQ s (x.take k) = sqI s p by rw [hkk]; exact lastQ_at s hp)
        have HPF := Lib.hid (HI.out.2 p (by rw [hkk, take_snoc hp]; simp))
        obtain ⟨bx', off', he', hb', f0, f1, f2⟩ := HA.out k1 p hp
        obtain ⟨rfl, rfl⟩ : bx = bx' ∧ off = off' := by cases he'; exact ⟨rfl, rfl⟩
        replace f0 := (HBW.out.cell (p := ⟨bx, _, none⟩) (by simp only; omega)).trans f0
        replace f1 := (HBW.out.cell (p := ⟨bx, _, none⟩) (by simp only; omega)).trans f1
        have hkp : (0 : Int) < (k : Int) := by omega
        have hkp2 : 0 < k := by omega
        have hkd2 : decide (0 < k) = true := decide_eq_true hkp2
        have hkd : decide ((0 : Int) < (k : Int)) = true := decide_eq_true hkp
        have hkw : IntKind.i64.wrap ((k : Int) - 1) = (k1 : Int) := by rw [show (k : Int) - 1 = (k1 : Int) by omega]; exact IntWalk.i64_in _ (by omega)
        have hk1n : (k1 : Int) < (x.length : Int) := by omega
        have hk10 : (0 : Int) ≤ (k1 : Int) := by omega
        have HOR := Lib.hid (ord_sq HOK.out HPF.out HFT.out)
        obtain ⟨pr, pc, pt⟩ := p
        dsimp only at f0 f1 HOR
        have HKK := Lib.hid hkk
        clear hp he' hk00 f2 hkk
        by_cases hc1 : yr < pr
        · have hd1 : decide (yr < pr) = true := decide_eq_true hc1
          obtain rfl : V = 7 := HVM.out.trans (verM_cons_order (fun e => Bool.noConfusion e.1) HFT.out (by rw [HLQ.out]; exact HOR.out.2 (Or.inl hc1)))
          go_quiet (fail)
          go_wp2
          go_ret
          exact ⟨rfl, HB.out.trans ((HBW.out.trans ((below_drewN hbW nq).mono HBW.out.size)).mono (by have := HZ.out; omega))⟩
        have hd1 : decide (yr < pr) = false := decide_eq_false hc1
        by_cases hc2 : yr = pr
        · have hd2 : (yr == pr) = true := beq_iff_eq.2 hc2
          have HC2 := Lib.hid hc2
          clear hc2
          by_cases hc3 : yc ≤ pc
          · have hd3 : decide (yc ≤ pc) = true := decide_eq_true hc3
            obtain rfl : V = 7 := HVM.out.trans (verM_cons_order (fun e => Bool.noConfusion e.1) HFT.out (by rw [HLQ.out]; exact HOR.out.2 (Or.inr ⟨HC2.out, hc3⟩)))
            go_quiet (fail)
            go_wp2
            go_ret
            exact ⟨rfl, HB.out.trans ((HBW.out.trans ((below_drewN hbW nq).mono HBW.out.size)).mono (by have := HZ.out; omega))⟩
          · have hd3 : decide (yc ≤ pc) = false := decide_eq_false hc3
            go_quiet (fail)
            change Exit.then _ _ Exit.normal _ _
            have hbd : Below w2.heap.size w2 (w2.drewN nq).drew := (below_drewN hbW nq).drew
            have hbd2 : Below w2.heap.size w2 (w2.drewN (nq + 1)) := below_drewN hbW (nq + 1)
            have HNL := Lib.hid (show ¬ sqI s ⟨yr, yc, false⟩ ≤ lastQ s (x.take k) from by rw [HLQ.out]; exact fun e => (HOR.out.1 e).elim hc1 (fun e => hc3 e.2))
            go_upto_region 15 with fail
            clear hbW s0 s1 s2 s3 m0 m1 m2
            rcases vb with _ | _
            · obtain rfl : V = 13 := HVM.out.trans (verM_cons_clash (fun e => Bool.noConfusion e.1) HFT.out HNL.out (of_decide_eq_false HVB.out.symm))
              go_region_held3 (fun W => W.cell? ⟨w.heap.size, 0, none⟩ = some (.int .i64 s.r) ∧ W.cell? ⟨w.heap.size, 1, none⟩ = some (.int .i64 s.c) ∧ W.cell? ⟨w.heap.size, 2, none⟩ = some (.int .i64 s.l) ∧ W.cell? ⟨w.heap.size, 3, none⟩ = some (.int .i64 s.w) ∧ W.cell? ⟨wr.heap.size, 0, none⟩ = some (.int .i64 yr) ∧ W.cell? ⟨wr.heap.size, 1, none⟩ = some (.int .i64 yc) ∧ W.cell? ⟨wr.heap.size, 2, none⟩ = some (.bool false))
                (exact HKW.out _ (by assumption))
                (first | (go_at_call 85; with_reducible refine HF85.out _ _ (by assumption) ?_; intro w6 hb6))
              all_goals
                have HB6 := Lib.hid (show Below w2.heap.size w2 w6 by assumption)
                have HW6 := Lib.hid (HBW.out.trans (HB6.out.mono HBW.out.size))
                go_wp2
                go_ret
                exact ⟨rfl, HB.out.trans (HW6.out.mono (by have := HZ.out; omega))⟩
            · have HNX := Lib.hid (HI.out.next HYK.out (fun e => Bool.noConfusion e.1) HFT.out HNL.out (of_decide_eq_true HVB.out.symm))
              go_region_held3 (fun W => W.cell? ⟨w.heap.size, 0, none⟩ = some (.int .i64 s.r) ∧ W.cell? ⟨w.heap.size, 1, none⟩ = some (.int .i64 s.c) ∧ W.cell? ⟨w.heap.size, 2, none⟩ = some (.int .i64 s.l) ∧ W.cell? ⟨w.heap.size, 3, none⟩ = some (.int .i64 s.w) ∧ W.cell? ⟨wr.heap.size, 0, none⟩ = some (.int .i64 yr) ∧ W.cell? ⟨wr.heap.size, 1, none⟩ = some (.int .i64 yc) ∧ W.cell? ⟨wr.heap.size, 2, none⟩ = some (.bool false))
                (exact HKW.out _ (by assumption))
                (first | (go_at_call 85; with_reducible refine HF85.out _ _ (by assumption) ?_; intro w6 hb6))
              all_goals
                have HB6 := Lib.hid (show Below w2.heap.size w2 w6 by assumption)
                have HW6 := Lib.hid (HBW.out.trans (HB6.out.mono HBW.out.size))
                go_wp2
                go_roundw
                case rel => exact ⟨k + 1, by omega, by go_num, HNX, HW6.out⟩
                case measure => simp [intOf]; omega
        · have hd2 : (yr == pr) = false := beq_eq_false_iff_ne.2 hc2
          go_quiet (fail)
          change Exit.then _ _ Exit.normal _ _
          have hbd : Below w2.heap.size w2 (w2.drewN nq).drew := (below_drewN hbW nq).drew
          have hbd2 : Below w2.heap.size w2 (w2.drewN (nq + 1)) := below_drewN hbW (nq + 1)
          have HNL := Lib.hid (show ¬ sqI s ⟨yr, yc, false⟩ ≤ lastQ s (x.take k) from by rw [HLQ.out]; exact fun e => (HOR.out.1 e).elim hc1 (fun e => hc2 e.1))
          go_upto_region 15 with fail
          clear hbW s0 s1 s2 s3 m0 m1 m2
          rcases vb with _ | _
          · obtain rfl : V = 13 := HVM.out.trans (verM_cons_clash (fun e => Bool.noConfusion e.1) HFT.out HNL.out (of_decide_eq_false HVB.out.symm))
            go_region_held3 (fun W => W.cell? ⟨w.heap.size, 0, none⟩ = some (.int .i64 s.r) ∧ W.cell? ⟨w.heap.size, 1, none⟩ = some (.int .i64 s.c) ∧ W.cell? ⟨w.heap.size, 2, none⟩ = some (.int .i64 s.l) ∧ W.cell? ⟨w.heap.size, 3, none⟩ = some (.int .i64 s.w) ∧ W.cell? ⟨wr.heap.size, 0, none⟩ = some (.int .i64 yr) ∧ W.cell? ⟨wr.heap.size, 1, none⟩ = some (.int .i64 yc) ∧ W.cell? ⟨wr.heap.size, 2, none⟩ = some (.bool false))
              (exact HKW.out _ (by assumption))
              (first | (go_at_call 85; with_reducible refine HF85.out _ _ (by assumption) ?_; intro w6 hb6))
            all_goals
              have HB6 := Lib.hid (show Below w2.heap.size w2 w6 by assumption)
              have HW6 := Lib.hid (HBW.out.trans (HB6.out.mono HBW.out.size))
              go_wp2
              go_ret
              exact ⟨rfl, HB.out.trans (HW6.out.mono (by have := HZ.out; omega))⟩
          · have HNX := Lib.hid (HI.out.next HYK.out (fun e => Bool.noConfusion e.1) HFT.out HNL.out (of_decide_eq_true HVB.out.symm))
            go_region_held3 (fun W => W.cell? ⟨w.heap.size, 0, none⟩ = some (.int .i64 s.r) ∧ W.cell? ⟨w.heap.size, 1, none⟩ = some (.int .i64 s.c) ∧ W.cell? ⟨w.heap.size, 2, none⟩ = some (.int .i64 s.l) ∧ W.cell? ⟨w.heap.size, 3, none⟩ = some (.int .i64 s.w) ∧ W.cell? ⟨wr.heap.size, 0, none⟩ = some (.int .i64 yr) ∧ W.cell? ⟨wr.heap.size, 1, none⟩ = some (.int .i64 yc) ∧ W.cell? ⟨wr.heap.size, 2, none⟩ = some (.bool false))
              (exact HKW.out _ (by assumption))
              (first | (go_at_call 85; with_reducible refine HF85.out _ _ (by assumption) ?_; intro w6 hb6))
            all_goals
              have HB6 := Lib.hid (show Below w2.heap.size w2 w6 by assumption)
              have HW6 := Lib.hid (HBW.out.trans (HB6.out.mono HBW.out.size))
              go_wp2
              go_roundw
              case rel => exact ⟨k + 1, by omega, by go_num, HNX, HW6.out⟩
              case measure => simp [intOf]; omega
      · have HLW := Lib.hid (show ¬ s.l = s.w from fun e => HSH.out ⟨rfl, e⟩)
        have h3 := hiS_le HOK.out true
        have h4 := wiS_le HOK.out true
        have HSY := Lib.hid (HSZ.out ⟨yr, yc, true⟩)
        have hfe : fitP s ⟨yr, yc, true⟩ ↔ (0 ≤ yr ∧ yr ≤ (s.r : Int) - (hiS s true : Nat)) ∧ 0 ≤ yc ∧ yc ≤ (s.c : Int) - (wiS s true : Nat) := by unfold fitP; exact ⟨fun h => ⟨⟨h.1, h.2.1⟩, h.2.2⟩, fun h => ⟨h.1.1, h.1.2, h.2⟩⟩
        have HFE := Lib.hid hfe
        clear hfe
        dsimp only at HSY
        generalize hiS s true = hh at *
        generalize wiS s true = ww at *
        obtain ⟨v1, hv1⟩ : ∃ b, b = decide (0 ≤ yr ∧ yr ≤ (s.r : Int) - (hh : Nat)) := ⟨_, rfl⟩
        obtain ⟨v2, hv2⟩ : ∃ b, b = decide (0 ≤ yc ∧ yc ≤ (s.c : Int) - (ww : Nat)) := ⟨_, rfl⟩
        have HI1 := Lib.hid (fun (W : World) => is_same (W := W) (n := yr) (lo := 0) (hi := (s.r : Int) - (hh : Nat)) hv1)
        have HI2 := Lib.hid (fun (W : World) => is_same (W := W) (n := yc) (lo := 0) (hi := (s.c : Int) - (ww : Nat)) hv2)
        have HV1 := Lib.hid hv1
        have HV2 := Lib.hid hv2
        clear hv1 hv2
        have hw1 : IntKind.i64.wrap ((s.r : Int) - (hh : Int)) = (s.r : Int) - (hh : Int) := IntWalk.i64_in _ (by omega)
        have hw2 : IntKind.i64.wrap ((s.c : Int) - (ww : Int)) = (s.c : Int) - (ww : Int) := IntWalk.i64_in _ (by omega)
        rcases v1 with _ | _
        · obtain rfl : V = 1 := HVM.out.trans (verM_cons_fit (fun e => HLW.out e.2) (fun e => of_decide_eq_false HV1.out.symm (HFE.out.1 e).1))
          go_wp2_with (first | (go_at_call 84; refine (HSY.out _).mono ?_; rintro e w2 ⟨rfl, hb2⟩; have hb2r := below_via hb2; have m0 : w2.cell? ⟨wr.heap.size, 0, none⟩ = some (.int .i64 yr) := (hb2.cell (p := ⟨wr.heap.size, 0, none⟩) (by simp)).trans (by simp [go_sem]); have m1 : w2.cell? ⟨wr.heap.size, 1, none⟩ = some (.int .i64 yc) := (hb2.cell (p := ⟨wr.heap.size, 1, none⟩) (by simp)).trans (by simp [go_sem]); have m2 : w2.cell? ⟨wr.heap.size, 2, none⟩ = some (.bool true) := (hb2.cell (p := ⟨wr.heap.size, 2, none⟩) (by simp)).trans (by simp [go_sem]); have hbw := hbr.trans (hb2r.mono hzr); obtain ⟨s0, s1, s2, s3⟩ := HK.out _ hbw) | (go_at_call 67; with_reducible refine (HI1.out _).mono ?_; rintro e w3 ⟨rfl, hw3⟩; replace hw3 := hw3.symm; subst hw3) | (go_at_call 67; with_reducible refine (HI2.out _).mono ?_; rintro e w3 ⟨rfl, hw3⟩; replace hw3 := hw3.symm; subst hw3))
          go_ret
          exact ⟨rfl, HB.out.trans (hbw.mono (by have := HZ.out; omega))⟩
        rcases v2 with _ | _
        · obtain rfl : V = 1 := HVM.out.trans (verM_cons_fit (fun e => HLW.out e.2) (fun e => of_decide_eq_false HV2.out.symm (HFE.out.1 e).2))
          go_wp2_with (first | (go_at_call 84; refine (HSY.out _).mono ?_; rintro e w2 ⟨rfl, hb2⟩; have hb2r := below_via hb2; have m0 : w2.cell? ⟨wr.heap.size, 0, none⟩ = some (.int .i64 yr) := (hb2.cell (p := ⟨wr.heap.size, 0, none⟩) (by simp)).trans (by simp [go_sem]); have m1 : w2.cell? ⟨wr.heap.size, 1, none⟩ = some (.int .i64 yc) := (hb2.cell (p := ⟨wr.heap.size, 1, none⟩) (by simp)).trans (by simp [go_sem]); have m2 : w2.cell? ⟨wr.heap.size, 2, none⟩ = some (.bool true) := (hb2.cell (p := ⟨wr.heap.size, 2, none⟩) (by simp)).trans (by simp [go_sem]); have hbw := hbr.trans (hb2r.mono hzr); obtain ⟨s0, s1, s2, s3⟩ := HK.out _ hbw) | (go_at_call 67; with_reducible refine (HI1.out _).mono ?_; rintro e w3 ⟨rfl, hw3⟩; replace hw3 := hw3.symm; subst hw3) | (go_at_call 67; with_reducible refine (HI2.out _).mono ?_; rintro e w3 ⟨rfl, hw3⟩; replace hw3 := hw3.symm; subst hw3))
          go_ret
          exact ⟨rfl, HB.out.trans (hbw.mono (by have := HZ.out; omega))⟩
        have HFT := Lib.hid (HFE.out.2 ⟨of_decide_eq_true HV1.out.symm, of_decide_eq_true HV2.out.symm⟩)
        go_upto_region 13 with (first | (go_at_call 84; refine (HSY.out _).mono ?_; rintro e w2 ⟨rfl, hb2⟩; have hb2r := below_via hb2; have m0 : w2.cell? ⟨wr.heap.size, 0, none⟩ = some (.int .i64 yr) := (hb2.cell (p := ⟨wr.heap.size, 0, none⟩) (by simp)).trans (by simp [go_sem]); have m1 : w2.cell? ⟨wr.heap.size, 1, none⟩ = some (.int .i64 yc) := (hb2.cell (p := ⟨wr.heap.size, 1, none⟩) (by simp)).trans (by simp [go_sem]); have m2 : w2.cell? ⟨wr.heap.size, 2, none⟩ = some (.bool true) := (hb2.cell (p := ⟨wr.heap.size, 2, none⟩) (by simp)).trans (by simp [go_sem]); have hbw := hbr.trans (hb2r.mono hzr); obtain ⟨s0, s1, s2, s3⟩ := HK.out _ hbw) | (go_at_call 67; with_reducible refine (HI1.out _).mono ?_; rintro e w3 ⟨rfl, hw3⟩; replace hw3 := hw3.symm; subst hw3) | (go_at_call 67; with_reducible refine (HI2.out _).mono ?_; rintro e w3 ⟨rfl, hw3⟩; replace hw3 := hw3.symm; subst hw3))
        have hbW : Below w2.heap.size w2 w2 := Below.refl _ _
        clear hb2 hb2r h3 h4 hw1 hw2 HI1 HI2 HV1 HV2 r0 r1 r2 r3 d0 d1 d2
        have HBW := Lib.hid hbw
        have HKW := Lib.hid (fun (W : World) (h : Below w2.heap.size w2 W) => show W.cell? ⟨w.heap.size, 0, none⟩ = some (.int .i64 s.r) ∧ W.cell? ⟨w.heap.size, 1, none⟩ = some (.int .i64 s.c) ∧ W.cell? ⟨w.heap.size, 2, none⟩ = some (.int .i64 s.l) ∧ W.cell? ⟨w.heap.size, 3, none⟩ = some (.int .i64 s.w) ∧ W.cell? ⟨wr.heap.size, 0, none⟩ = some (.int .i64 yr) ∧ W.cell? ⟨wr.heap.size, 1, none⟩ = some (.int .i64 yc) ∧ W.cell? ⟨wr.heap.size, 2, none⟩ = some (.bool true) from ⟨(h.cell (p := ⟨w.heap.size, 0, none⟩) (lt_of_cell s0)).trans s0, (h.cell (p := ⟨w.heap.size, 1, none⟩) (lt_of_cell s0)).trans s1, (h.cell (p := ⟨w.heap.size, 2, none⟩) (lt_of_cell s0)).trans s2, (h.cell (p := ⟨w.heap.size, 3, none⟩) (lt_of_cell s0)).trans s3, (h.cell (p := ⟨wr.heap.size, 0, none⟩) (lt_of_cell m0)).trans m0, (h.cell (p := ⟨wr.heap.size, 1, none⟩) (lt_of_cell m0)).trans m1, (h.cell (p := ⟨wr.heap.size, 2, none⟩) (lt_of_cell m0)).trans m2⟩)
        obtain ⟨vb, hvb⟩ : ∃ b, b = decide (covL s (x.take k) &&& und s ⟨yr, yc, true⟩ = 0) := ⟨_, rfl⟩
        have HVB := Lib.hid hvb
        have HF85 := Lib.hid (fun (W : World) (Q : Ending → World → Prop) (h : Below w2.heap.size w2 W) (hQ : ∀ w', Below w2.heap.size w2 w' → Q (.returned (.bool vb)) w') => (HFR.out k hk ⟨yr, yc, true⟩ HI.out.2 HFT.out W (HBW.out.trans (h.mono HBW.out.size)) vb HVB.out).mono fun e w' ⟨he, hb⟩ => he ▸ hQ w' (h.trans (hb.mono h.size)))
        clear hvb hbw
        by_cases hk00 : k = 0
        · have hkz : decide ((0 : Int) < (k : Int)) = false := decide_eq_false (by omega)
          have hkz2 : ¬ (0 : Int) < (k : Int) := by omega
          have hkz3 : ¬ 0 < k := by omega
          have hkz4 : decide (0 < k) = false := decide_eq_false hkz3
          have HK0 := Lib.hid hk00
          clear hk00
          go_quiet (fail)
          change Exit.then _ _ Exit.normal _ _
          have hbd : Below w2.heap.size w2 (w2.drewN nq).drew := (below_drewN hbW nq).drew
          have hbd2 : Below w2.heap.size w2 (w2.drewN (nq + 1)) := below_drewN hbW (nq + 1)
          have HNL := Lib.hid (show ¬ sqI s ⟨yr, yc, true⟩ ≤ lastQ s (x.take k) from by rw [HK0.out]; show ¬ sqI s ⟨yr, yc, true⟩ ≤ -1; have := (sqI_in HOK.out HFT.out).1; omega)
          go_upto_region 15 with fail
          clear hbW s0 s1 s2 s3 m0 m1 m2
          rcases vb with _ | _
          · obtain rfl : V = 13 := HVM.out.trans (verM_cons_clash (fun e => HLW.out e.2) HFT.out HNL.out (of_decide_eq_false HVB.out.symm))
            go_region_held3 (fun W => W.cell? ⟨w.heap.size, 0, none⟩ = some (.int .i64 s.r) ∧ W.cell? ⟨w.heap.size, 1, none⟩ = some (.int .i64 s.c) ∧ W.cell? ⟨w.heap.size, 2, none⟩ = some (.int .i64 s.l) ∧ W.cell? ⟨w.heap.size, 3, none⟩ = some (.int .i64 s.w) ∧ W.cell? ⟨wr.heap.size, 0, none⟩ = some (.int .i64 yr) ∧ W.cell? ⟨wr.heap.size, 1, none⟩ = some (.int .i64 yc) ∧ W.cell? ⟨wr.heap.size, 2, none⟩ = some (.bool true))
              (exact HKW.out _ (by assumption))
              (first | (go_at_call 85; with_reducible refine HF85.out _ _ (by assumption) ?_; intro w6 hb6))
            all_goals
              have HB6 := Lib.hid (show Below w2.heap.size w2 w6 by assumption)
              have HW6 := Lib.hid (HBW.out.trans (HB6.out.mono HBW.out.size))
              go_wp2
              go_ret
              exact ⟨rfl, HB.out.trans (HW6.out.mono (by have := HZ.out; omega))⟩
          · have HNX := Lib.hid (HI.out.next HYK.out (fun e => HLW.out e.2) HFT.out HNL.out (of_decide_eq_true HVB.out.symm))
            go_region_held3 (fun W => W.cell? ⟨w.heap.size, 0, none⟩ = some (.int .i64 s.r) ∧ W.cell? ⟨w.heap.size, 1, none⟩ = some (.int .i64 s.c) ∧ W.cell? ⟨w.heap.size, 2, none⟩ = some (.int .i64 s.l) ∧ W.cell? ⟨w.heap.size, 3, none⟩ = some (.int .i64 s.w) ∧ W.cell? ⟨wr.heap.size, 0, none⟩ = some (.int .i64 yr) ∧ W.cell? ⟨wr.heap.size, 1, none⟩ = some (.int .i64 yc) ∧ W.cell? ⟨wr.heap.size, 2, none⟩ = some (.bool true))
              (exact HKW.out _ (by assumption))
              (first | (go_at_call 85; with_reducible refine HF85.out _ _ (by assumption) ?_; intro w6 hb6))
            all_goals
              have HB6 := Lib.hid (show Below w2.heap.size w2 w6 by assumption)
              have HW6 := Lib.hid (HBW.out.trans (HB6.out.mono HBW.out.size))
              go_wp2
              go_roundw
              case rel => exact ⟨k + 1, by omega, by go_num, HNX, HW6.out⟩
              case measure => simp [intOf]; omega
        obtain ⟨k1, hkk⟩ : ∃ k1, k = k1 + 1 := ⟨k - 1, by omega⟩
        have hp : x[k1]? = some x[k1] := List.getElem?_eq_getElem (by omega)
        generalize x[k1] = p at hp
        have HLQ := Lib.hid (show lastQ s (x.take k) = sqI s p by rw [hkk]; exact lastQ_at s hp)
        have HPF := Lib.hid (HI.out.2 p (by rw [hkk, take_snoc hp]; simp))
        obtain ⟨bx', off', he', hb', f0, f1, f2⟩ := HA.out k1 p hp
        obtain ⟨rfl, rfl⟩ : bx = bx' ∧ off = off' := by cases he'; exact ⟨rfl, rfl⟩
        replace f0 := (HBW.out.cell (p := ⟨bx, _, none⟩) (by simp only; omega)).trans f0
        replace f1 := (HBW.out.cell (p := ⟨bx, _, none⟩) (by simp only; omega)).trans f1
        have hkp : (0 : Int) < (k : Int) := by omega
        have hkp2 : 0 < k := by omega
        have hkd2 : decide (0 < k) = true := decide_eq_true hkp2
        have hkd : decide ((0 : Int) < (k : Int)) = true := decide_eq_true hkp
        have hkw : IntKind.i64.wrap ((k : Int) - 1) = (k1 : Int) := by rw [show (k : Int) - 1 = (k1 : Int) by omega]; exact IntWalk.i64_in _ (by omega)
        have hk1n : (k1 : Int) < (x.length : Int) := by omega
        have hk10 : (0 : Int) ≤ (k1 : Int) := by omega
        have HOR := Lib.hid (ord_sq HOK.out HPF.out HFT.out)
        obtain ⟨pr, pc, pt⟩ := p
        dsimp only at f0 f1 HOR
        have HKK := Lib.hid hkk
        clear hp he' hk00 f2 hkk
        by_cases hc1 : yr < pr
        · have hd1 : decide (yr < pr) = true := decide_eq_true hc1
          obtain rfl : V = 7 := HVM.out.trans (verM_cons_order (fun e => HLW.out e.2) HFT.out (by rw [HLQ.out]; exact HOR.out.2 (Or.inl hc1)))
          go_quiet (fail)
          go_wp2
          go_ret
          exact ⟨rfl, HB.out.trans ((HBW.out.trans ((below_drewN hbW nq).mono HBW.out.size)).mono (by have := HZ.out; omega))⟩
        have hd1 : decide (yr < pr) = false := decide_eq_false hc1
        by_cases hc2 : yr = pr
        · have hd2 : (yr == pr) = true := beq_iff_eq.2 hc2
          have HC2 := Lib.hid hc2
          clear hc2
          by_cases hc3 : yc ≤ pc
          · have hd3 : decide (yc ≤ pc) = true := decide_eq_true hc3
            obtain rfl : V = 7 := HVM.out.trans (verM_cons_order (fun e => HLW.out e.2) HFT.out (by rw [HLQ.out]; exact HOR.out.2 (Or.inr ⟨HC2.out, hc3⟩)))
            go_quiet (fail)
            go_wp2
            go_ret
            exact ⟨rfl, HB.out.trans ((HBW.out.trans ((below_drewN hbW nq).mono HBW.out.size)).mono (by have := HZ.out; omega))⟩
          · have hd3 : decide (yc ≤ pc) = false := decide_eq_false hc3
            go_quiet (fail)
            change Exit.then _ _ Exit.normal _ _
            have hbd : Below w2.heap.size w2 (w2.drewN nq).drew := (below_drewN hbW nq).drew
            have hbd2 : Below w2.heap.size w2 (w2.drewN (nq + 1)) := below_drewN hbW (nq + 1)
            have HNL := Lib.hid (show ¬ sqI s ⟨yr, yc, true⟩ ≤ lastQ s (x.take k) from by rw [HLQ.out]; exact fun e => (HOR.out.1 e).elim hc1 (fun e => hc3 e.2))
            go_upto_region 15 with fail
            clear hbW s0 s1 s2 s3 m0 m1 m2
            rcases vb with _ | _
            · obtain rfl : V = 13 := HVM.out.trans (verM_cons_clash (fun e => HLW.out e.2) HFT.out HNL.out (of_decide_eq_false HVB.out.symm))
              go_region_held3 (fun W => W.cell? ⟨w.heap.size, 0, none⟩ = some (.int .i64 s.r) ∧ W.cell? ⟨w.heap.size, 1, none⟩ = some (.int .i64 s.c) ∧ W.cell? ⟨w.heap.size, 2, none⟩ = some (.int .i64 s.l) ∧ W.cell? ⟨w.heap.size, 3, none⟩ = some (.int .i64 s.w) ∧ W.cell? ⟨wr.heap.size, 0, none⟩ = some (.int .i64 yr) ∧ W.cell? ⟨wr.heap.size, 1, none⟩ = some (.int .i64 yc) ∧ W.cell? ⟨wr.heap.size, 2, none⟩ = some (.bool true))
                (exact HKW.out _ (by assumption))
                (first | (go_at_call 85; with_reducible refine HF85.out _ _ (by assumption) ?_; intro w6 hb6))
              all_goals
                have HB6 := Lib.hid (show Below w2.heap.size w2 w6 by assumption)
                have HW6 := Lib.hid (HBW.out.trans (HB6.out.mono HBW.out.size))
                go_wp2
                go_ret
                exact ⟨rfl, HB.out.trans (HW6.out.mono (by have := HZ.out; omega))⟩
            · have HNX := Lib.hid (HI.out.next HYK.out (fun e => HLW.out e.2) HFT.out HNL.out (of_decide_eq_true HVB.out.symm))
              go_region_held3 (fun W => W.cell? ⟨w.heap.size, 0, none⟩ = some (.int .i64 s.r) ∧ W.cell? ⟨w.heap.size, 1, none⟩ = some (.int .i64 s.c) ∧ W.cell? ⟨w.heap.size, 2, none⟩ = some (.int .i64 s.l) ∧ W.cell? ⟨w.heap.size, 3, none⟩ = some (.int .i64 s.w) ∧ W.cell? ⟨wr.heap.size, 0, none⟩ = some (.int .i64 yr) ∧ W.cell? ⟨wr.heap.size, 1, none⟩ = some (.int .i64 yc) ∧ W.cell? ⟨wr.heap.size, 2, none⟩ = some (.bool true))
                (exact HKW.out _ (by assumption))
                (first | (go_at_call 85; with_reducible refine HF85.out _ _ (by assumption) ?_; intro w6 hb6))
              all_goals
                have HB6 := Lib.hid (show Below w2.heap.size w2 w6 by assumption)
                have HW6 := Lib.hid (HBW.out.trans (HB6.out.mono HBW.out.size))
                go_wp2
                go_roundw
                case rel => exact ⟨k + 1, by omega, by go_num, HNX, HW6.out⟩
                case measure => simp [intOf]; omega
        · have hd2 : (yr == pr) = false := beq_eq_false_iff_ne.2 hc2
          go_quiet (fail)
          change Exit.then _ _ Exit.normal _ _
          have hbd : Below w2.heap.size w2 (w2.drewN nq).drew := (below_drewN hbW nq).drew
          have hbd2 : Below w2.heap.size w2 (w2.drewN (nq + 1)) := below_drewN hbW (nq + 1)
          have HNL := Lib.hid (show ¬ sqI s ⟨yr, yc, true⟩ ≤ lastQ s (x.take k) from by rw [HLQ.out]; exact fun e => (HOR.out.1 e).elim hc1 (fun e => hc2 e.1))
          go_upto_region 15 with fail
          clear hbW s0 s1 s2 s3 m0 m1 m2
          rcases vb with _ | _
          · obtain rfl : V = 13 := HVM.out.trans (verM_cons_clash (fun e => HLW.out e.2) HFT.out HNL.out (of_decide_eq_false HVB.out.symm))
            go_region_held3 (fun W => W.cell? ⟨w.heap.size, 0, none⟩ = some (.int .i64 s.r) ∧ W.cell? ⟨w.heap.size, 1, none⟩ = some (.int .i64 s.c) ∧ W.cell? ⟨w.heap.size, 2, none⟩ = some (.int .i64 s.l) ∧ W.cell? ⟨w.heap.size, 3, none⟩ = some (.int .i64 s.w) ∧ W.cell? ⟨wr.heap.size, 0, none⟩ = some (.int .i64 yr) ∧ W.cell? ⟨wr.heap.size, 1, none⟩ = some (.int .i64 yc) ∧ W.cell? ⟨wr.heap.size, 2, none⟩ = some (.bool true))
              (exact HKW.out _ (by assumption))
              (first | (go_at_call 85; with_reducible refine HF85.out _ _ (by assumption) ?_; intro w6 hb6))
            all_goals
              have HB6 := Lib.hid (show Below w2.heap.size w2 w6 by assumption)
              have HW6 := Lib.hid (HBW.out.trans (HB6.out.mono HBW.out.size))
              go_wp2
              go_ret
              exact ⟨rfl, HB.out.trans (HW6.out.mono (by have := HZ.out; omega))⟩
          · have HNX := Lib.hid (HI.out.next HYK.out (fun e => HLW.out e.2) HFT.out HNL.out (of_decide_eq_true HVB.out.symm))
            go_region_held3 (fun W => W.cell? ⟨w.heap.size, 0, none⟩ = some (.int .i64 s.r) ∧ W.cell? ⟨w.heap.size, 1, none⟩ = some (.int .i64 s.c) ∧ W.cell? ⟨w.heap.size, 2, none⟩ = some (.int .i64 s.l) ∧ W.cell? ⟨w.heap.size, 3, none⟩ = some (.int .i64 s.w) ∧ W.cell? ⟨wr.heap.size, 0, none⟩ = some (.int .i64 yr) ∧ W.cell? ⟨wr.heap.size, 1, none⟩ = some (.int .i64 yc) ∧ W.cell? ⟨wr.heap.size, 2, none⟩ = some (.bool true))
              (exact HKW.out _ (by assumption))
              (first | (go_at_call 85; with_reducible refine HF85.out _ _ (by assumption) ?_; intro w6 hb6))
            all_goals
              have HB6 := Lib.hid (show Below w2.heap.size w2 w6 by assumption)
              have HW6 := Lib.hid (HBW.out.trans (HB6.out.mono HBW.out.size))
              go_wp2
              go_roundw
              case rel => exact ⟨k + 1, by omega, by go_num, HNX, HW6.out⟩
              case measure => simp [intOf]; omega
    · have e : x.take k = x := List.take_of_length_le (by omega)
      have HF : Hid (∀ y ∈ x, fitP s y) := Lib.hid (fun y hy => HI.out.2 y (by rw [e]; exact hy))
      have hv : V = if covL s x = whl s then 0 else 21 := by
        have h1 := HI.out.1
        rw [e, List.drop_eq_nil_of_le (by omega), verM] at h1
        exact HVV.out.trans h1
      have HV := Lib.hid hv
      have hlt' : ¬ (k : Int) < (x.length : Int) := by omega
      clear e hv
      go_wp2
      go_loopw [10] (fun i wr => ∃ a : Nat, a ≤ s.r ∧ i = .int .i64 a ∧ Hid (∀ row : Nat, row < a → ∀ col : Nat, col < s.c → covA s x row col = true) ∧ Below W0.heap.size W0 wr) (fun i _ => s.r - (intOf i).toNat)
      case atStart => exact ⟨0, Nat.zero_le _, rfl, Lib.hid (fun row h => absurd h (Nat.not_lt_zero _)), hbr⟩
      case round =>
        obtain ⟨a, ha, rfl, HR, hbq⟩ := hrel
        have hzq := hbq.size
        obtain ⟨q0, q1, q2, q3⟩ := HK.out _ hbq
        by_cases hat : a < s.r
        · have hat' : (a : Int) < (s.r : Int) := by omega
          go_wp2
          go_loopw [11] (fun i wr => ∃ b : Nat, b ≤ s.c ∧ i = .int .i64 b ∧ Hid (∀ col : Nat, col < b → covA s x a col = true) ∧ Below W0.heap.size W0 wr) (fun i _ => s.c - (intOf i).toNat)
          case atStart => exact ⟨0, Nat.zero_le _, rfl, Lib.hid (fun col h => absurd h (Nat.not_lt_zero _)), hbq⟩
          case round =>
            obtain ⟨b, hb, rfl, HC, hbp⟩ := hrel
            have hzp := hbp.size
            obtain ⟨o0, o1, o2, o3⟩ := HK.out _ hbp
            by_cases hbt : b < s.c
            · have hbt' : (b : Int) < (s.c : Int) := by omega
              have HCC := Lib.hid (HCV.out HF.out a b wr hbp)
              rcases hcv : covA s x a b with _ | _
              · have hne : ¬ covL s x = whl s := fun e => by
                  have h1 := (whole_cov HF.out).1 e a hat b hbt
                  rw [hcv] at h1
                  cases h1
                obtain rfl : V = 21 := HV.out.trans (if_neg hne)
                rw [hcv] at HCC
                clear hcv hne
                go_wp2_with (go_at_call 86; refine HCC.out.mono ?_; rintro e w5 ⟨rfl, hb5⟩)
                go_ret
                exact ⟨rfl, HB.out.trans ((hbp.trans (hb5.mono hzp)).mono (by have := HZ.out; omega))⟩
              · have HC2 := Lib.hid (show ∀ col : Nat, col < b + 1 → covA s x a col = true from fun col hcol => by
                  by_cases hcb : col = b
                  · rw [hcb]; exact hcv
                  · exact HC.out col (by omega))
                rw [hcv] at HCC
                clear hcv
                go_wp2_with (go_at_call 86; refine HCC.out.mono ?_; rintro e w5 ⟨rfl, hb5⟩)
                go_roundw
                case rel => exact ⟨b + 1, by omega, by go_num, HC2, hbp.trans (hb5.mono hzp)⟩
                case measure => simp [intOf]; omega
            · have hbt' : ¬ (b : Int) < (s.c : Int) := by omega
              have HR2 := Lib.hid (show ∀ row : Nat, row < a + 1 → ∀ col : Nat, col < s.c → covA s x row col = true from fun row hrow col hcol => by
                by_cases hra : row = a
                · rw [hra]; exact HC.out col (by omega)
                · exact HR.out row (by omega) col hcol)
              go_wp2
              go_roundw
              case rel => exact ⟨a + 1, by omega, by go_num, HR2, hbp⟩
              case measure => simp [intOf]; omega
        · have hat' : ¬ (a : Int) < (s.r : Int) := by omega
          obtain rfl : V = 0 := HV.out.trans (if_pos ((whole_cov HF.out).2 fun row hrow col hcol => HR.out row (by omega) col hcol))
          have HX := Lib.hid (HB.out.trans (hbq.mono (by have := HZ.out; omega)))
          go_wp2
          go_ret
          exact ⟨rfl, HX.out⟩

/-- A filling is checked. -/
theorem rverify_any (r c l v : Int) (A : Option Addr) (cap : Nat) (x : List Cd) (w : World) (hA : RcdsAt w w.heap.size A x) (hn : x.length < 1000000) (hcap : x.length ≤ cap) :
    Calls Tryd.prog 36 #[.agg #[.int .i64 r, .int .i64 c, .int .i64 l, .int .i64 v], .slice A x.length cap] w fun e w' => e = .returned (.int .i64 (verF r c l v x)) ∧ Below w.heap.size w w' := by
  by_cases h0 : chkS r c l v = 0
  · obtain ⟨s, hs, rfl, rfl, rfl, rfl⟩ := ok_of_chk h0
    have e : verF s.r s.c s.l s.w x = verS s x := by
      unfold verF
      rw [if_pos h0]
      rfl
    rw [e]
    exact rverify_ok s hs A cap x w hA hn hcap
  · have e : verF r c l v x = 1 := by unfold verF; rw [if_neg h0]
    rw [e]
    have h1 : chkS r c l v = 1 := by
      unfold chkS at h0 ⊢
      split at h0
      · exact absurd rfl h0
      · rename_i h
        rw [if_neg h]
    have HC := Lib.hid (fun W => rcheck_any r c l v W)
    rw [h1] at HC
    clear h0 h1 e hA hn hcap
    go_enter Tryd.func36, Tryd.ntmps36
    go_wp2_with (go_at_call 21; refine (HC.out _).mono ?_; rintro e w1 ⟨rfl, hb1⟩)
    go_ret
    exact ⟨rfl, below_via hb1⟩
end Go.Proofs.YtlollcabnfncpaaDoor
