/-
  The reference: whether a card fits.
-/
import Derived.Test.YtlollcabnfncpaaDoorRefB
namespace Go.Proofs.YtlollcabnfncpaaDoor
open Go.RowKit

/-- A card fits on the sheet, and on no square that is covered. -/
def FitR (s : Sh) (l : List Cd) (x : Cd) : Prop := x.row + (hiS s x.t : Nat) ≤ s.r ∧ x.col + (wiS s x.t : Nat) ≤ s.c ∧ ∀ p : Nat, p < hiS s x.t → ∀ q : Nat, q < wiS s x.t → covA s l (x.row + p) (x.col + q) = false

set_option maxRecDepth 100000 in
set_option maxHeartbeats 2000000 in
theorem rfits_any (s : Sh) (A : Option Addr) (c : Nat) (l : List Cd) (x : Cd) (V : Bool) (w : World) (hs : s.Ok) (hA : RcdsAt w w.heap.size A l) (hf : ∀ x ∈ l, Near x) (hx : Near x) (hn : l.length < 1000000) (hV : V = true ↔ FitR s l x) :
    Calls Tryd.prog 85 #[.agg #[.int .i64 s.r, .int .i64 s.c, .int .i64 s.l, .int .i64 s.w], .slice A l.length c, .agg #[.int .i64 x.row, .int .i64 x.col, .bool x.t]] w fun e w' => e = .returned (.bool V) ∧ Below w.heap.size w w' := by
  obtain ⟨⟨x1, x2⟩, x3, x4⟩ := hx
  have h3 := hiS_le hs x.t
  have h4 := wiS_le hs x.t
  have hr6 := hs.r6
  have hc6 := hs.c6
  unfold FitR at hV
  have HZ := fun (W1 W : World) (Q : Ending → World → Prop) (hb : Below W1.heap.size W1 W) (hQ : ∀ w', Below W1.heap.size W1 w' → Q (.returned (.tuple #[.int .i64 (hiS s x.t : Nat), .int .i64 (wiS s x.t : Nat)])) w') =>
    (rsize_any s x W).mono fun e w' ⟨he, hb'⟩ => he ▸ hQ w' (hb.trans (hb'.mono hb.size))
  generalize hiS s x.t = a at HZ h3 hV
  generalize wiS s x.t = b at HZ h4 hV
  obtain ⟨W0, hW0⟩ : ∃ W0, W0 = (w.alloc (.cells #[.int .i64 s.r, .int .i64 s.c, .int .i64 s.l, .int .i64 s.w] 24)).alloc (.cells #[.int .i64 x.row, .int .i64 x.col, .bool x.t] 99) := ⟨_, rfl⟩
  have HB := Lib.hid (show Below w.heap.size w W0 from hW0 ▸ ((Below.refl _ _).alloc (Nat.le_refl _) _).alloc (by simp) _)
  have hz0 : w.heap.size + 2 = W0.heap.size := by rw [hW0]; simp
  have HA := Lib.hid (hA.below HB.out (Nat.le_refl _))
  have HS := Lib.hid (HZ W0)
  have HC := Lib.hid (fun (row col : Int) W (Q : Ending → World → Prop) (h : Below W0.heap.size W0 W) (hQ : ∀ w', Below W.heap.size W w' → Q (.returned (.bool (covA s l row col))) w') =>
    (covered_any s A c l row col W hs (((HA.out.below h (by omega)).mono (by have := h.size; omega))) hf hn).mono fun e w' ⟨he, hb'⟩ => he ▸ hQ w' hb')
  have HK := Lib.hid (fun (W : World) (h : Below W0.heap.size W0 W) => show W.cell? ⟨w.heap.size, 0, none⟩ = some (.int .i64 s.r) ∧ W.cell? ⟨w.heap.size, 1, none⟩ = some (.int .i64 s.c) ∧ W.cell? ⟨w.heap.size, 2, none⟩ = some (.int .i64 s.l) ∧ W.cell? ⟨w.heap.size, 3, none⟩ = some (.int .i64 s.w) ∧
      W.cell? ⟨w.heap.size + 1, 0, none⟩ = some (.int .i64 x.row) ∧ W.cell? ⟨w.heap.size + 1, 1, none⟩ = some (.int .i64 x.col) ∧ W.cell? ⟨w.heap.size + 1, 2, none⟩ = some (.bool x.t) from
    ⟨(h.cell (p := ⟨w.heap.size, 0, none⟩) (by simp; omega)).trans (by rw [hW0]; simp [go_sem]), (h.cell (p := ⟨w.heap.size, 1, none⟩) (by simp; omega)).trans (by rw [hW0]; simp [go_sem]), (h.cell (p := ⟨w.heap.size, 2, none⟩) (by simp; omega)).trans (by rw [hW0]; simp [go_sem]), (h.cell (p := ⟨w.heap.size, 3, none⟩) (by simp; omega)).trans (by rw [hW0]; simp [go_sem]),
      (h.cell (p := ⟨w.heap.size + 1, 0, none⟩) (by simp; omega)).trans (by rw [hW0]; simp [go_sem]), (h.cell (p := ⟨w.heap.size + 1, 1, none⟩) (by simp; omega)).trans (by rw [hW0]; simp [go_sem]), (h.cell (p := ⟨w.heap.size + 1, 2, none⟩) (by simp; omega)).trans (by rw [hW0]; simp [go_sem])⟩)
  have HV := Lib.hid hV
  have HZ2 := Lib.hid (show w.heap.size ≤ W0.heap.size by omega)
  have hbb := Below.refl W0.heap.size W0
  clear hA hf hV HZ hz0
  subst hW0
  by_cases g1 : (s.r : Int) < x.row + a
  · have HF := Lib.hid (show V = false from Bool.eq_false_iff.2 fun h => by have := (HV.out.1 h).1; omega)
    go_enter Tryd.func85, Tryd.ntmps85
    go_wp2_with (first
      | (go_at_call 84; with_reducible refine HS.out _ _ (by assumption) ?_; intro w1 hb1; obtain ⟨s0, s1, s2, s3, s4, s5, s6⟩ := HK.out _ hb1))
    go_ret
    exact ⟨ret_bool HF.out.symm, HB.out.trans (hb1.mono HZ2.out)⟩
  by_cases g2 : (s.c : Int) < x.col + b
  · have HF := Lib.hid (show V = false from Bool.eq_false_iff.2 fun h => by have := (HV.out.1 h).2.1; omega)
    go_enter Tryd.func85, Tryd.ntmps85
    go_wp2_with (first
      | (go_at_call 84; with_reducible refine HS.out _ _ (by assumption) ?_; intro w1 hb1; obtain ⟨s0, s1, s2, s3, s4, s5, s6⟩ := HK.out _ hb1))
    go_ret
    exact ⟨ret_bool HF.out.symm, HB.out.trans (hb1.mono HZ2.out)⟩
  have HV2 := Lib.hid (show V = true ↔ ∀ p : Nat, p < a → ∀ q : Nat, q < b → covA s l (x.row + p) (x.col + q) = false from HV.out.trans ⟨fun h => h.2.2, fun h => ⟨by omega, by omega, h⟩⟩)
  go_enter Tryd.func85, Tryd.ntmps85
  go_wp2_with (first
      | (go_at_call 84; with_reducible refine HS.out _ _ (by assumption) ?_; intro w1 hb1; obtain ⟨s0, s1, s2, s3, s4, s5, s6⟩ := HK.out _ hb1))
  have HB1 := Lib.hid (HB.out.trans (hb1.mono HZ2.out))
  have HK1 := Lib.hid (fun (W : World) (h : Below w1.heap.size w1 W) => HK.out W (hb1.trans (h.mono hb1.size)))
  have HC1 := Lib.hid (fun (row col : Int) W (Q : Ending → World → Prop) (h : Below w1.heap.size w1 W) => HC.out row col W Q (hb1.trans (h.mono hb1.size)))
  have HZ3 := Lib.hid (show w.heap.size ≤ w1.heap.size from Nat.le_trans HZ2.out hb1.size)
  clear hbb hb1 HK HC s0 s1 s2 s3 s4 s5 s6 HZ2
  obtain ⟨W1, rfl⟩ : ∃ W1 : World, W1 = w1 := ⟨_, rfl⟩
  go_loopw [9] (fun i wr => ∃ m : Nat, m ≤ a ∧ i = .int .i64 (x.row + m) ∧ Hid (∀ p : Nat, p < m → ∀ q : Nat, q < b → covA s l (x.row + p) (x.col + q) = false) ∧ Below W1.heap.size W1 wr) (fun i _ => (x.row + a).toNat - (intOf i).toNat)
  case atStart => exact ⟨0, Nat.zero_le _, by simp, Lib.hid (fun p hp => by omega), Below.refl _ _⟩
  case round =>
    obtain ⟨m, hm, rfl, HM, hbr⟩ := hrel
    obtain ⟨wo, rfl⟩ : ∃ wo : World, wo = wr := ⟨_, rfl⟩
    obtain ⟨r0, r1, r2, r3, r4, r5, r6⟩ := HK1.out _ hbr
    by_cases hlt : m < a
    · have hlt' : x.row + (m : Int) < x.row + a := by omega
      go_wp2
      go_loopw [10] (fun j wr => ∃ n : Nat, n ≤ b ∧ j = .int .i64 (x.col + n) ∧ Hid (∀ q : Nat, q < n → covA s l (x.row + m) (x.col + q) = false) ∧ Below wo.heap.size wo wr) (fun j _ => (x.col + b).toNat - (intOf j).toNat)
      case atStart => exact ⟨0, Nat.zero_le _, by simp, Lib.hid (fun p hp => by omega), Below.refl _ _⟩
      case round =>
        obtain ⟨n, hn', rfl, HN, hbi⟩ := hrel
        have hbt := hbr.trans (hbi.mono hbr.size)
        obtain ⟨k0, k1, k2, k3, k4, k5, k6⟩ := HK1.out _ hbt
        by_cases hln : n < b
        · have hln' : x.col + (n : Int) < x.col + b := by omega
          obtain ⟨v, hv⟩ : ∃ v, v = covA s l (x.row + m) (x.col + n) := ⟨_, rfl⟩
          have HCC := Lib.hid (fun (Q : Ending → World → Prop) (hQ : ∀ w', Below wr.heap.size wr w' → Q (.returned (.bool v)) w') => HC1.out (x.row + m) (x.col + n) wr Q hbt (hv ▸ hQ))
          have HT := Lib.hid (fun (h : v = true) => show V = false from Bool.eq_false_iff.2 fun h' => by have := HV2.out.1 h' m hlt n hln; rw [← hv, h] at this; cases this)
          have HN2 := Lib.hid (fun (h : v = false) => show ∀ q : Nat, q < n + 1 → covA s l (x.row + m) (x.col + q) = false from fun q hq => by
            rcases Nat.lt_succ_iff_lt_or_eq.1 hq with h' | rfl
            · exact HN.out q h'
            · rw [← hv, h])
          clear hv
          rcases v with _ | _
          · have HN3 := Lib.hid (HN2.out rfl)
            go_wp2_with (first | (go_at_call 86; with_reducible refine HCC.out _ ?_; intro w5 hb5))
            go_roundw
            case rel => exact ⟨n + 1, by omega, by go_num, HN3, hbi.trans (hb5.mono hbi.size)⟩
            case measure => simp [intOf]; omega
          · have HT3 := Lib.hid (HT.out rfl)
            go_wp2_with (first | (go_at_call 86; with_reducible refine HCC.out _ ?_; intro w5 hb5))
            go_ret
            exact ⟨ret_bool HT3.out.symm, HB1.out.trans ((hbt.trans (hb5.mono hbt.size)).mono HZ3.out)⟩
        · have HM2 := Lib.hid (show ∀ p : Nat, p < m + 1 → ∀ q : Nat, q < b → covA s l (x.row + p) (x.col + q) = false from fun p hp q hq => by
            rcases Nat.lt_succ_iff_lt_or_eq.1 hp with h' | rfl
            · exact HM.out p h' q hq
            · exact HN.out q (by omega))
          go_wp2
          go_roundw
          case rel => exact ⟨m + 1, by omega, by go_num, HM2, hbt⟩
          case measure => simp [intOf]; omega
    · have HT := Lib.hid (show V = true from HV2.out.2 fun p hp => HM.out p (by omega))
      go_wp2
      go_ret
      exact ⟨ret_bool HT.out.symm, HB1.out.trans (hbr.mono HZ3.out)⟩
end Go.Proofs.YtlollcabnfncpaaDoor
