/-
  The reference: products.
-/
import Derived.Test.YtbcbaaapogejiaaDoorRefA
import Derived.Test.YtbcbaaapogejiaaDoorMathD
namespace Go.Proofs.YtbcbaaapogejiaaDoor
open Go.RowKit

theorem refIn_yes {n lo hi : Int} (h : lo ≤ n ∧ n ≤ hi) (w : World) : Calls Tryd.prog 69 #[.int .i64 n, .int .i64 lo, .int .i64 hi] w fun e w' => e = .returned (.bool true) ∧ w = w' :=
  (refIn_any n lo hi w).mono fun e w' ⟨h1, h2⟩ => ⟨by rw [h1, decide_eq_true h], h2.symm⟩
theorem refIn_no {n lo hi : Int} (h : ¬ (lo ≤ n ∧ n ≤ hi)) (w : World) : Calls Tryd.prog 69 #[.int .i64 n, .int .i64 lo, .int .i64 hi] w fun e w' => e = .returned (.bool false) ∧ w = w' :=
  (refIn_any n lo hi w).mono fun e w' ⟨h1, h2⟩ => ⟨by rw [h1, decide_eq_false h], h2.symm⟩

theorem own_cells4 (W : World) (a b c d : Value) (T : TypeId) : (W.alloc (.cells #[a, b, c, d] T)).cell? ⟨W.heap.size, 0, none⟩ = some a ∧ (W.alloc (.cells #[a, b, c, d] T)).cell? ⟨W.heap.size, 1, none⟩ = some b ∧ (W.alloc (.cells #[a, b, c, d] T)).cell? ⟨W.heap.size, 2, none⟩ = some c ∧ (W.alloc (.cells #[a, b, c, d] T)).cell? ⟨W.heap.size, 3, none⟩ = some d :=
  ⟨by rw [cell_of_row _ _ _ _ _ _ (heap_new _ _)]; rfl, by rw [cell_of_row _ _ _ _ _ _ (heap_new _ _)]; rfl, by rw [cell_of_row _ _ _ _ _ _ (heap_new _ _)]; rfl, by rw [cell_of_row _ _ _ _ _ _ (heap_new _ _)]; rfl⟩

theorem turn22 (A : Option Addr) (c t : Nat) (b : List Int) (W : World) (ht : t < 8) (hA : IntsAt W W.heap.size A b) (hb : b.length = 4) :
    Calls Tryd.prog 70 #[.agg #[.int .i64 2, .int .i64 2, .int .i64 0, .slice none 0 0], .slice A 4 c, .int .i64 t] W fun e w' => (∃ D d, e = .returned (.slice D 4 d) ∧ IntsAt w' w'.heap.size D (tdL (srcs 2 2 (mv t)) b)) ∧ Below W.heap.size W w' := by
  have h := refTurned_any 2 2 t 0 none 0 0 A c b W ht (kind22 t) (by omega) (by omega) hA (by rw [hb])
  rw [hb] at h
  refine h.mono ?_
  rintro e w' ⟨D, d, rfl, h1, h2, _⟩
  rw [four_len] at *
  exact ⟨⟨D, d, rfl, h1⟩, h2⟩
theorem same4_yes (A D : Option Addr) (c d : Nat) (l m : List Int) (W : World) (hl : l.length = 4) (hm : m.length = 4) (hA : IntsAt W W.heap.size A l) (hD : IntsAt W W.heap.size D m) (h : l = m) :
    Calls Tryd.prog 71 #[.slice A 4 c, .slice D 4 d] W fun e w' => e = .returned (.bool true) ∧ ∃ q, w' = W.drewN q := by
  have h1 := refSame_any A D c d l m W (by omega) (by omega) _ hA hD
  rw [decide_eq_true h, hl] at h1
  exact h1
theorem same4_no (A D : Option Addr) (c d : Nat) (l m : List Int) (W : World) (hl : l.length = 4) (hm : m.length = 4) (hA : IntsAt W W.heap.size A l) (hD : IntsAt W W.heap.size D m) (h : l ≠ m) :
    Calls Tryd.prog 71 #[.slice A 4 c, .slice D 4 d] W fun e w' => e = .returned (.bool false) ∧ ∃ q, w' = W.drewN q := by
  have h1 := refSame_any A D c d l m W (by omega) (by omega) _ hA hD
  rw [decide_eq_false h, hl] at h1
  exact h1

set_option maxRecDepth 100000 in
set_option maxHeartbeats 2000000 in
theorem refProduct_in (a b : Nat) (w : World) (ha : a < 8) (hb : b < 8) :
    Calls Tryd.prog 20 #[.int .i64 a, .int .i64 b] w fun e w' => e = .returned (.tuple #[.int .i64 (prodN a b : Nat), .int .i64 0]) ∧ Below w.heap.size w w' := by
  have HA := Lib.hid (fun W => refIn_yes (n := a) (lo := 0) (hi := 7) (by omega) W)
  have HB := Lib.hid (fun W => refIn_yes (n := b) (lo := 0) (hi := 7) (by omega) W)
  obtain ⟨h8, heq, hne⟩ := ref_prod a ha b hb
  have H8 := Lib.hid h8
  have HE := Lib.hid heq
  have HN := Lib.hid hne
  have HBL := Lib.hid (show (bothL a b).length = 4 from four_len b _)
  have H70b := Lib.hid (fun A c W (hA : IntsAt W W.heap.size A (tdL (srcs 2 2 (mv a)) four)) => turn22 A c b _ W hb hA (four_len a _))
  rw [show tdL (srcs 2 2 (mv b)) (tdL (srcs 2 2 (mv a)) four) = bothL a b from rfl] at H70b
  generalize bothL a b = M at *
  generalize prodN a b = P at *
  clear h8 heq hne hb
  have hc1 := own_cells4 w (.int .i64 2) (.int .i64 2) (.int .i64 0) (.slice none 0 0) 32
  have hb1 := below_new w (.cells #[.int .i64 2, .int .i64 2, .int .i64 0, .slice none 0 0] 32)
  have hz1 : (w.alloc (.cells #[.int .i64 2, .int .i64 2, .int .i64 0, .slice none 0 0] 32)).heap.size = w.heap.size + 1 := by simp
  have hI := ints_new (w.alloc (.cells #[.int .i64 2, .int .i64 2, .int .i64 0, .slice none 0 0] 32)) four #[.int .i64 0, .int .i64 1, .int .i64 2, .int .i64 3] rfl
  have hb2 := below_new (w.alloc (.cells #[.int .i64 2, .int .i64 2, .int .i64 0, .slice none 0 0] 32)) (.cells #[.int .i64 0, .int .i64 1, .int .i64 2, .int .i64 3] 3)
  rw [hz1] at hI hb2
  have hz2 : ((w.alloc (.cells #[.int .i64 2, .int .i64 2, .int .i64 0, .slice none 0 0] 32)).alloc (.cells #[.int .i64 0, .int .i64 1, .int .i64 2, .int .i64 3] 3)).heap.size = w.heap.size + 2 := by simp
  go_enter Tryd.func20, Tryd.ntmps20
  go_upto_region 5 with (go_at_call 69; first | ((with_reducible refine (HA.out _).mono ?_); rintro e w1 ⟨rfl, rfl⟩) | ((with_reducible refine (HB.out _).mono ?_); rintro e w1 ⟨rfl, rfl⟩))
  generalize w.alloc (.cells #[.int .i64 2, .int .i64 2, .int .i64 0, .slice none 0 0] 32) = w1 at *
  generalize w1.alloc (.cells #[.int .i64 0, .int .i64 1, .int .i64 2, .int .i64 3] 3) = w2 at *
  have hbw2 : Below w.heap.size w w2 := hb1.trans (hb2.mono (by omega))
  have HK := Lib.hid (fun (W : World) (h : Below w2.heap.size w2 W) => show Below w2.heap.size w2 W ∧ W.cell? ⟨w.heap.size, 0, none⟩ = some (.int .i64 2) ∧ W.cell? ⟨w.heap.size, 1, none⟩ = some (.int .i64 2) ∧ W.cell? ⟨w.heap.size, 2, none⟩ = some (.int .i64 0) ∧ W.cell? ⟨w.heap.size, 3, none⟩ = some (.slice none 0 0) from
    ⟨h, (h.cell (p := ⟨w.heap.size, 0, none⟩) (by simp; omega)).trans ((hb2.cell (p := ⟨w.heap.size, 0, none⟩) (by simp)).trans hc1.1), (h.cell (p := ⟨w.heap.size, 1, none⟩) (by simp; omega)).trans ((hb2.cell (p := ⟨w.heap.size, 1, none⟩) (by simp)).trans hc1.2.1), (h.cell (p := ⟨w.heap.size, 2, none⟩) (by simp; omega)).trans ((hb2.cell (p := ⟨w.heap.size, 2, none⟩) (by simp)).trans hc1.2.2.1), (h.cell (p := ⟨w.heap.size, 3, none⟩) (by simp; omega)).trans ((hb2.cell (p := ⟨w.heap.size, 3, none⟩) (by simp)).trans hc1.2.2.2)⟩)
  have HF := Lib.hid hI
  have X70a := Lib.hid (fun W (Q : Ending → World → Prop) (h : Below w2.heap.size w2 W) (hQ : ∀ D d w', IntsAt w' w'.heap.size D (tdL (srcs 2 2 (mv a)) four) → Below w2.heap.size w2 w' → Q (.returned (.slice D 4 d)) w') =>
    (turn22 (some ⟨w.heap.size + 1, 0, none⟩) 4 a four W ha (HF.out.up h) rfl).mono fun e w' ⟨⟨D, d, he, hi⟩, hb⟩ => he ▸ hQ D d w' hi (h.trans (hb.mono h.size)))
  have X70b := Lib.hid (fun A c W (Q : Ending → World → Prop) (hA : IntsAt W W.heap.size A (tdL (srcs 2 2 (mv a)) four)) (h : Below w2.heap.size w2 W) (hQ : ∀ D d w', IntsAt w' w'.heap.size D M → Below w2.heap.size w2 w' → Q (.returned (.slice D 4 d)) w') =>
    (H70b.out A c W hA).mono fun e w' ⟨⟨D, d, he, hi⟩, hb⟩ => he ▸ hQ D d w' hi (h.trans (hb.mono h.size)))
  have hbd := (Below.refl w2.heap.size w2).drew
  clear hc1 hI hb1 hb2
  go_region_held3 (fun W => Below w2.heap.size w2 W ∧ W.cell? ⟨w.heap.size, 0, none⟩ = some (.int .i64 2) ∧ W.cell? ⟨w.heap.size, 1, none⟩ = some (.int .i64 2) ∧ W.cell? ⟨w.heap.size, 2, none⟩ = some (.int .i64 0) ∧ W.cell? ⟨w.heap.size, 3, none⟩ = some (.slice none 0 0))
    (exact HK.out _ (by assumption))
    (first
      | (go_at_call 70; with_reducible refine X70a.out _ _ (by assumption) ?_; intro D5 d5 w5 hI5 hb5)
      | (go_at_call 70; with_reducible refine X70b.out _ _ _ _ (by assumption) (by assumption) ?_; intro D6 d6 w6 hI6 hb6))
  change Exit.then _ _ Exit.normal _ _
  clear X70a X70b HA HB hbd hb5
  have hbw6 := hbw2.trans (hb6.mono (by omega))
  have HD := Lib.hid hI6
  clear hI6
  go_wp2
  go_loopw [9] (fun i wr => ∃ k : Nat, k ≤ P ∧ i = .int .i64 k ∧ Below w6.heap.size w6 wr) (fun i _ => P - (intOf i).toNat)
  case atStart => exact ⟨0, Nat.zero_le _, rfl, Below.refl _ _⟩
  case round =>
    obtain ⟨k, hk, rfl, hbr⟩ := hrel
    have hP8 : P < 8 := H8.out
    have hb7 := hb6.trans (hbr.mono hb6.size)
    obtain ⟨_, p0, p1, p2, p3⟩ := HK.out _ hb7
    have X70 := Lib.hid (turn22 (some ⟨w.heap.size + 1, 0, none⟩) 4 k four wr (by have := H8.out; omega) (HF.out.up hb7) rfl)
    have hD7 := HD.out.up hbr
    by_cases hkP : k < P
    · have X71 := Lib.hid (fun A c W hb (hA : IntsAt W W.heap.size A (tdL (srcs 2 2 (mv k)) four)) => same4_no A D6 c d6 _ M W (four_len k _) HBL.out hA (hD7.up hb) (HN.out k hkP))
      clear hD7
      go_wp2_with (first
        | (go_at_call 70; refine (X70.out).mono ?_; rintro e w8 ⟨⟨D8, d8, rfl, hI8⟩, hb8⟩)
        | (go_at_call 71; refine (X71.out _ _ _ hb8 hI8).mono ?_; rintro e w9 ⟨rfl, q, rfl⟩))
      go_roundw
      case rel => exact ⟨k + 1, by omega, by go_num, below_drewN (hbr.trans (hb8.mono hbr.size)) _⟩
      case measure => simp [intOf]; omega
    · have e : k = P := by omega
      subst e
      have X71 := Lib.hid (fun A c W hb (hA : IntsAt W W.heap.size A (tdL (srcs 2 2 (mv k)) four)) => same4_yes A D6 c d6 _ M W (four_len k _) HBL.out hA (hD7.up hb) HE.out)
      clear hD7
      go_wp2_with (first
        | (go_at_call 70; refine (X70.out).mono ?_; rintro e w8 ⟨⟨D8, d8, rfl, hI8⟩, hb8⟩)
        | (go_at_call 71; refine (X71.out _ _ _ hb8 hI8).mono ?_; rintro e w9 ⟨rfl, q, rfl⟩))
      go_ret2
      exact ⟨rfl, below_drewN (hbw6.trans ((hbr.trans (hb8.mono hbr.size)).mono hbw6.size)) _⟩

theorem refProduct_any (a b : Int) (w : World) :
    Calls Tryd.prog 20 #[.int .i64 a, .int .i64 b] w fun e w' => e = .returned (.tuple #[.int .i64 (prdE a b).1, .int .i64 (prdE a b).2]) ∧ Below w.heap.size w w' := by
  by_cases h1 : 0 ≤ a ∧ a ≤ 7
  · by_cases h2 : 0 ≤ b ∧ b ≤ 7
    · obtain ⟨u, rfl⟩ : ∃ u : Nat, a = (u : Int) := ⟨a.toNat, by omega⟩
      obtain ⟨v, rfl⟩ : ∃ v : Nat, b = (v : Int) := ⟨b.toNat, by omega⟩
      rw [prdE_in (by omega) (by omega)]
      exact refProduct_in u v w (by omega) (by omega)
    · rw [prdE_out (by omega)]
      have HA := Lib.hid (fun W => refIn_yes h1 W)
      have HB := Lib.hid (fun W => refIn_no h2 W)
      clear h1 h2
      go_enter Tryd.func20, Tryd.ntmps20
      go_wp2_with (go_at_call 69; first | ((with_reducible refine (HA.out _).mono ?_); rintro e w1 ⟨rfl, rfl⟩) | ((with_reducible refine (HB.out _).mono ?_); rintro e w1 ⟨rfl, rfl⟩))
      go_ret2
      exact ⟨rfl, Below.refl _ _⟩
  · rw [prdE_out (by omega)]
    have HA := Lib.hid (fun W => refIn_no h1 W)
    clear h1
    go_enter Tryd.func20, Tryd.ntmps20
    go_wp2_with (go_at_call 69; ((with_reducible refine (HA.out _).mono ?_); rintro e w1 ⟨rfl, rfl⟩))
    go_ret2
    exact ⟨rfl, Below.refl _ _⟩
end Go.Proofs.YtbcbaaapogejiaaDoor
