/-
  The walk of the statement on presses: it answers true.
-/
import Derived.Test.YtbcbaaapogejiaaDoorRefB
import Derived.Test.YtbcbaaapogejiaaDoorWorks
namespace Go.Proofs.YtbcbaaapogejiaaDoor
open Go.RowKit

theorem large_yes (R C K : Int) (A X Y : Option Addr) (n c nx cx ny cy : Nat) (w : World) (h : 30 < n ∨ 60 < nx ∨ 60 < ny) :
    Calls Tryd.prog 17 #[.agg #[.int .i64 R, .int .i64 C, .int .i64 K, .slice A n c], .slice X nx cx, .slice Y ny cy] w fun e w' => e = .returned (.bool true) ∧ Below w.heap.size w w' := by
  by_cases h1 : 30 < n
  · have h1' : (30 : Int) < (n : Int) := by omega
    go_enter Tryd.func17, Tryd.ntmps17
    go_wp2
    go_ret
    exact ⟨rfl, below_new _ _⟩
  · have h1' : ¬ (30 : Int) < (n : Int) := by omega
    by_cases h2 : 60 < nx
    · have h2' : (60 : Int) < (nx : Int) := by omega
      clear h h1
      go_enter Tryd.func17, Tryd.ntmps17
      go_wp2
      go_ret
      exact ⟨rfl, below_new _ _⟩
    · have h2' : ¬ (60 : Int) < (nx : Int) := by omega
      have h3' : (60 : Int) < (ny : Int) := by omega
      clear h h1
      go_enter Tryd.func17, Tryd.ntmps17
      go_wp2
      go_ret
      exact ⟨rfl, below_new _ _⟩
theorem large_no (R C K : Int) (A X Y : Option Addr) (n c nx cx ny cy : Nat) (w : World) (h : ¬ (30 < n ∨ 60 < nx ∨ 60 < ny)) :
    Calls Tryd.prog 17 #[.agg #[.int .i64 R, .int .i64 C, .int .i64 K, .slice A n c], .slice X nx cx, .slice Y ny cy] w fun e w' => e = .returned (.bool false) ∧ Below w.heap.size w w' := by
  have h1' : ¬ (30 : Int) < (n : Int) := by omega
  have h2' : ¬ (60 : Int) < (nx : Int) := by omega
  have h3' : ¬ (60 : Int) < (ny : Int) := by omega
  clear h
  go_enter Tryd.func17, Tryd.ntmps17
  go_wp2
  go_ret
  exact ⟨rfl, below_new _ _⟩

theorem productF_any (a b : Int) (w : World) (hm : MovW w) :
    Calls Tryd.prog 19 #[.int .i64 a, .int .i64 b] w fun e w' => e = .returned (.tuple #[.int .i64 (prdE a b).1, .int .i64 (prdE a b).2]) ∧ Below w.heap.size w w' := by
  by_cases h1 : 0 ≤ a ∧ a < 8
  · by_cases h2 : 0 ≤ b ∧ b < 8
    · obtain ⟨u, rfl⟩ : ∃ u : Nat, a = (u : Int) := ⟨a.toNat, by omega⟩
      obtain ⟨v, rfl⟩ : ∃ v : Nat, b = (v : Int) := ⟨b.toNat, by omega⟩
      rw [prdE_in (by omega) (by omega)]
      exact productF_ok u v w hm (by omega) (by omega)
    · rw [prdE_out (by omega)]
      have HA := Lib.hid (fun W => isTurn_any a W)
      have HB := Lib.hid (fun W => isTurn_any b W)
      rw [decide_eq_true h1] at HA
      rw [decide_eq_false h2] at HB
      clear h1 h2 hm
      go_enter Tryd.func19, Tryd.ntmps19
      go_wp2_with (go_at_call 67; first | ((with_reducible refine (HA.out _).mono ?_); rintro e w1 ⟨rfl, h⟩; obtain rfl := h.symm) | ((with_reducible refine (HB.out _).mono ?_); rintro e w1 ⟨rfl, h⟩; obtain rfl := h.symm))
      go_ret2
      exact ⟨rfl, Below.refl _ _⟩
  · rw [prdE_out (by omega)]
    have HA := Lib.hid (fun W => isTurn_any a W)
    rw [decide_eq_false h1] at HA
    clear h1 hm
    go_enter Tryd.func19, Tryd.ntmps19
    go_wp2_with (go_at_call 67; ((with_reducible refine (HA.out _).mono ?_); rintro e w1 ⟨rfl, h⟩; obtain rfl := h.symm))
    go_ret2
    exact ⟨rfl, Below.refl _ _⟩

set_option maxRecDepth 100000 in
set_option maxHeartbeats 2000000 in
theorem lawPresses_any (w : World) (R C K : Int) (A : Option Addr) (c : Nat) (T : List Int) (a b : Int) (hA : IntsAt w w.heap.size A T) (hm : MovW w) :
    Calls Tryd.prog 3 #[.agg #[.int .i64 R, .int .i64 C, .int .i64 K, .slice A T.length c], .int .i64 a, .int .i64 b] w fun e w' => e = .returned (.bool true) ∧ Below w.heap.size w w' := by
  have hb1 := below_new w (.cells #[.int .i64 R, .int .i64 C, .int .i64 K, .slice A T.length c] 24)
  have hc1 := own_cells4 w (.int .i64 R) (.int .i64 C) (.int .i64 K) (.slice A T.length c) 24
  have hz1 : w.heap.size < (w.alloc (.cells #[.int .i64 R, .int .i64 C, .int .i64 K, .slice A T.length c] 24)).heap.size := by simp
  have hm1 := hm.below hb1
  have hA1 := hA.up hb1
  by_cases hl : 30 < T.length ∨ 60 < 0 ∨ 60 < 0
  · have HL := Lib.hid (fun W => large_yes R C K A none none T.length c 0 0 0 0 W hl)
    clear hl hA hA1 hm hc1
    go_enter Tryd.func3, Tryd.ntmps3
    go_wp2_with (first
      | (go_at_call 17; refine (HL.out _).mono ?_; rintro e w2 ⟨rfl, hb2⟩; have hm2 := hm1.below hb2)
      | (go_at_call 18; refine (works_any _ hm2).mono ?_; rintro e w3 ⟨rfl, hb3⟩))
    go_ret
    exact ⟨rfl, hb1.trans ((hb2.trans (hb3.mono hb2.size)).mono hb1.size)⟩
  have HL := Lib.hid (fun W => large_no R C K A none none T.length c 0 0 0 0 W hl)
  have hT : T.length ≤ 30 := by omega
  clear hl hA hm
  have HP := Lib.hid (fun W => productF_any a b W)
  have HQ := Lib.hid (fun W => refProduct_any a b W)
  generalize prdE a b = P at HP HQ
  obtain ⟨P1, P2⟩ := P
  dsimp only at HP HQ
  have HE := Lib.hid (fun W h1 h2 => check_any R C K A c T W h1 h2 (by omega))
  have HF := Lib.hid (fun W h => refCheck_any R C K A c T W h (by omega))
  generalize chkE R C K T = v at HE HF
  go_enter Tryd.func3, Tryd.ntmps3
  go_upto_region 5 with (first
    | (go_at_call 17; refine (HL.out _).mono ?_; rintro e w2 ⟨rfl, hb2⟩; have hm2 := hm1.below hb2)
    | (go_at_call 19; refine (HP.out _ hm2).mono ?_; rintro e w3 ⟨rfl, hb3⟩)
    | (go_at_call 20; refine (HQ.out _).mono ?_; rintro e w4 ⟨rfl, hb4⟩))
  generalize w.alloc (.cells #[.int .i64 R, .int .i64 C, .int .i64 K, .slice A T.length c] 24) = w1 at *
  have hb5 : Below w1.heap.size w1 w4 := hb2.trans ((hb3.trans (hb4.mono hb3.size)).mono hb2.size)
  have hm4 := Lib.hid (hm1.below hb5)
  have hA4 := Lib.hid (hA1.up hb5)
  have hz4 : w.heap.size < w4.heap.size := Nat.lt_of_lt_of_le hz1 hb5.size
  have HK := Lib.hid (fun (W : World) (h : Below w4.heap.size w4 W) => show Below w4.heap.size w4 W ∧ W.cell? ⟨w.heap.size, 0, none⟩ = some (.int .i64 R) ∧ W.cell? ⟨w.heap.size, 1, none⟩ = some (.int .i64 C) ∧ W.cell? ⟨w.heap.size, 2, none⟩ = some (.int .i64 K) ∧ W.cell? ⟨w.heap.size, 3, none⟩ = some (.slice A T.length c) from
    ⟨h, (h.cell (p := ⟨w.heap.size, 0, none⟩) hz4).trans ((hb5.cell (p := ⟨w.heap.size, 0, none⟩) hz1).trans hc1.1), (h.cell (p := ⟨w.heap.size, 1, none⟩) hz4).trans ((hb5.cell (p := ⟨w.heap.size, 1, none⟩) hz1).trans hc1.2.1), (h.cell (p := ⟨w.heap.size, 2, none⟩) hz4).trans ((hb5.cell (p := ⟨w.heap.size, 2, none⟩) hz1).trans hc1.2.2.1), (h.cell (p := ⟨w.heap.size, 3, none⟩) hz4).trans ((hb5.cell (p := ⟨w.heap.size, 3, none⟩) hz1).trans hc1.2.2.2)⟩)
  have X21 := Lib.hid (fun W (Q : Ending → World → Prop) (h : Below w4.heap.size w4 W) (hQ : ∀ w', Below w4.heap.size w4 w' → Q (.returned (.int .i64 v)) w') =>
    (HE.out W (hm4.out.below h) (hA4.out.up h)).mono fun e w' ⟨he, hb⟩ => he ▸ hQ w' (h.trans (hb.mono h.size)))
  have X22 := Lib.hid (fun W (Q : Ending → World → Prop) (h : Below w4.heap.size w4 W) (hQ : ∀ w', Below w4.heap.size w4 w' → Q (.returned (.int .i64 v)) w') =>
    (HF.out W (hA4.out.up h)).mono fun e w' ⟨he, hb⟩ => he ▸ hQ w' (h.trans (hb.mono h.size)))
  have X18 := Lib.hid (fun W (Q : Ending → World → Prop) (h : Below w4.heap.size w4 W) (hQ : ∀ w', Below w4.heap.size w4 w' → Q (.returned (.bool true)) w') =>
    (works_any W (hm4.out.below h)).mono fun e w' ⟨he, hb⟩ => he ▸ hQ w' (h.trans (hb.mono h.size)))
  have hbd := (Below.refl w4.heap.size w4).drew
  have hbF := Lib.hid (hb1.trans (hb5.mono hb1.size))
  clear hc1 hb1 hb2 hb3 hb4 hb5 hA1 hm1 hm2 HP HQ HE HF HL
  go_region_held3 (fun W => Below w4.heap.size w4 W ∧ W.cell? ⟨w.heap.size, 0, none⟩ = some (.int .i64 R) ∧ W.cell? ⟨w.heap.size, 1, none⟩ = some (.int .i64 C) ∧ W.cell? ⟨w.heap.size, 2, none⟩ = some (.int .i64 K) ∧ W.cell? ⟨w.heap.size, 3, none⟩ = some (.slice A T.length c))
    (exact HK.out _ (by assumption))
    (first
      | (go_at_call 21; with_reducible refine X21.out _ _ (by assumption) ?_; intro w5 hb5)
      | (go_at_call 22; with_reducible refine X22.out _ _ (by assumption) ?_; intro w6 hb6)
      | (go_at_call 18; with_reducible refine X18.out _ _ (by assumption) ?_; intro w7 hb7))
  all_goals
    go_wp2
    go_ret
    exact ⟨rfl, hbF.out.trans (Below.mono (by assumption) hbF.out.size)⟩
end Go.Proofs.YtbcbaaapogejiaaDoor
