/-
  Products of turns, by the backs that they make of one with four colours. The reference: products. The reference: presses are checked. The reference: backs are checked; errors are handed back.
-/
import Derived.Test.YtbcbaaapogejiaaDoorMathA
import Derived.Test.YtbcbaaapogejiaaDoorRefA
import Derived.Test.YtbcbaaapogejiaaDoorMathC
import Derived.Test.YtbcbaaapogejiaaDoorPlaC
namespace Go.Proofs.YtbcbaaapogejiaaDoor
open Go.RowKit

def four : List Int := [0, 1, 2, 3]
/-- What two turns make of a back with four colours. -/
def bothL (a b : Nat) : List Int := tdL (srcs 2 2 (mv b)) (tdL (srcs 2 2 (mv a)) four)
theorem ref_prod : ∀ a, a < 8 → ∀ b, b < 8 → prodN a b < 8 ∧ tdL (srcs 2 2 (mv (prodN a b))) four = bothL a b ∧ ∀ t, t < prodN a b → tdL (srcs 2 2 (mv t)) four ≠ bothL a b := by decide +kernel
theorem four_len (t : Nat) (b : List Int) : (tdL (srcs 2 2 (mv t)) b).length = 4 := by rw [tdL_len, srcs_len]
theorem kind22 (t : Nat) : kindOk 2 2 t = true := by simp [kindOk]

/-- What the product of any two numbers is, and the error. -/
def prdE (a b : Int) : Int × Int := if 0 ≤ a ∧ a < 8 ∧ 0 ≤ b ∧ b < 8 then (((prodN a.toNat b.toNat : Nat) : Int), 0) else (0, 2)
theorem prdE_in {a b : Nat} (ha : a < 8) (hb : b < 8) : prdE a b = (((prodN a b : Nat) : Int), 0) := by unfold prdE; rw [if_pos (by omega)]; simp
theorem prdE_out {a b : Int} (h : ¬ (0 ≤ a ∧ a < 8 ∧ 0 ≤ b ∧ b < 8)) : prdE a b = (0, 2) := by unfold prdE; rw [if_neg h]

theorem refIn_yes {n lo hi : Int} (h : lo ≤ n ∧ n ≤ hi) (w : World) : Calls Tryd.prog 69 #[.int .i64 n, .int .i64 lo, .int .i64 hi] w fun e w' => e = .returned (.bool true) ∧ w = w' :=
  (refIn_any n lo hi w).mono fun e w' ⟨h1, h2⟩ => ⟨by rw [h1, decide_eq_true h], h2.symm⟩
theorem refIn_no {n lo hi : Int} (h : ¬ (lo ≤ n ∧ n ≤ hi)) (w : World) : Calls Tryd.prog 69 #[.int .i64 n, .int .i64 lo, .int .i64 hi] w fun e w' => e = .returned (.bool false) ∧ w = w' :=
  (refIn_any n lo hi w).mono fun e w' ⟨h1, h2⟩ => ⟨by rw [h1, decide_eq_false h], h2.symm⟩

theorem own_cells4 (W : World) (a b c d : Value) (T : TypeId) : (W.alloc (.cells #[a, b, c, d] T)).cell? ⟨W.heap.size, 0, none⟩ = some a ∧ (W.alloc (.cells #[a, b, c, d] T)).cell? ⟨W.heap.size, 1, none⟩ = some b ∧ (W.alloc (.cells #[a, b, c, d] T)).cell? ⟨W.heap.size, 2, none⟩ = some c ∧ (W.alloc (.cells #[a, b, c, d] T)).cell? ⟨W.heap.size, 3, none⟩ = some d :=
  ⟨by rw [cell_of_row _ _ _ _ _ _ (heap_new _ _)]; rfl, by rw [cell_of_row _ _ _ _ _ _ (heap_new _ _)]; rfl, by rw [cell_of_row _ _ _ _ _ _ (heap_new _ _)]; rfl, by rw [cell_of_row _ _ _ _ _ _ (heap_new _ _)]; rfl⟩

theorem turn22 (A : Option Addr) (c t : Nat) (b : List Int) (W : World) (ht : t < 8) (hA : IntsAt W W.heap.size A b) (hb : b.length = 4) :
    Calls Tryd.prog 70 #[.agg #[.int .i64 2, .int .i64 2, .int .i64 0, .slice none 0 0], .slice A 4 c, .int .i64 t] W fun e w' => (∃ D d, e = .returned (.slice D 4 d) ∧ IntsAt w' w'.heap.size D (tdL (srcs 2 2 (mv t)) b)) ∧ Below W.heap.size W w' := by
  have h := refTurned_any 2 2 t 0 none 0 0 A c b W ht (kind22 t) (by omega) (by omega) hA (by rw [hb])
  rw [hb] at h
  refine h.mono ?_
  rintro e w' ⟨D, d, rfl, h1, h2, _⟩
  rw [four_len] at *
  exact ⟨⟨D, d, rfl, h1⟩, h2⟩
theorem same4_yes (A D : Option Addr) (c d : Nat) (l m : List Int) (W : World) (hl : l.length = 4) (hm : m.length = 4) (hA : IntsAt W W.heap.size A l) (hD : IntsAt W W.heap.size D m) (h : l = m) :
    Calls Tryd.prog 71 #[.slice A 4 c, .slice D 4 d] W fun e w' => e = .returned (.bool true) ∧ ∃ q, w' = W.drewN q := by
  have h1 := refSame_any A D c d l m W (by omega) (by omega) _ hA hD
  rw [decide_eq_true h, hl] at h1
  exact h1
theorem same4_no (A D : Option Addr) (c d : Nat) (l m : List Int) (W : World) (hl : l.length = 4) (hm : m.length = 4) (hA : IntsAt W W.heap.size A l) (hD : IntsAt W W.heap.size D m) (h : l ≠ m) :
    Calls Tryd.prog 71 #[.slice A 4 c, .slice D 4 d] W fun e w' => e = .returned (.bool false) ∧ ∃ q, w' = W.drewN q := by
  have h1 := refSame_any A D c d l m W (by omega) (by omega) _ hA hD
  rw [decide_eq_false h, hl] at h1
  exact h1

set_option maxRecDepth 100000 in
set_option maxHeartbeats 2000000 in
theorem refProduct_in (a b : Nat) (w : World) (ha : a < 8) (hb : b < 8) :
    Calls Tryd.prog 20 #[.int .i64 a, .int .i64 b] w fun e w' => e = .returned (.tuple #[.int .i64 (prodN a b : Nat), .int .i64 0]) ∧ Below w.heap.size w w' := by
  have HA := Lib.hid (fun W => refIn_yes (n := a) (lo := 0) (hi := 7) (by omega) W)
  have HB := Lib.hid (fun W => refIn_yes (n := b) (lo := 0) (hi := 7) (by omega) W)
  obtain ⟨h8, heq, hne⟩ := ref_prod a ha b hb
  have H8 := Lib.hid h8
  have HE := Lib.hid heq
  have HN := Lib.hid hne
  have HBL := Lib.hid (show (bothL a b).length = 4 from four_len b _)
  have H70b := Lib.hid (fun A c W (hA : IntsAt W W.heap.size A (tdL (srcs 2 2 (mv a)) four)) => turn22 A c b _ W hb hA (four_len a _))
  rw [show tdL (srcs 2 2 (mv b)) (tdL (srcs 2 2 (mv a)) four) = bothL a b from rfl] at H70b
  generalize bothL a b = M at *
  generalize prodN a b = P at *
  clear h8 heq hne hb
  have hc1 := own_cells4 w (.int .i64 2) (.int .i64 2) (.int .i64 0) (.slice none 0 0) 32
  have hb1 := below_new w (.cells #[.int .i64 2, .int .i64 2, .int .i64 0, .slice none 0 0] 32)
  have hz1 : (w.alloc (.cells #[.int .i64 2, .int .i64 2, .int .i64 0, .slice none 0 0] 32)).heap.size = w.heap.size + 1 := by simp
  have hI := ints_new (w.alloc (.cells #[.int .i64 2, .int .i64 2, .int .i64 0, .slice none 0 0] 32)) four #[.int .i64 0, .int .i64 1, .int .i64 2, .int .i64 3] rfl
  have hb2 := below_new (w.alloc (.cells #[.int .i64 2, .int .i64 2, .int .i64 0, .slice none 0 0] 32)) (.cells #[.int .i64 0, .int .i64 1, .int .i64 2, .int .i64 3] 3)
  rw [hz1] at hI hb2
  have hz2 : ((w.alloc (.cells #[.int .i64 2, .int .i64 2, .int .i64 0, .slice none 0 0] 32)).alloc (.cells #[.int .i64 0, .int .i64 1, .int .i64 2, .int .i64 3] 3)).heap.size = w.heap.size + 2 := by simp
  go_enter Tryd.func20, Tryd.ntmps20
  go_upto_region 5 with (go_at_call 69; first | ((with_reducible refine (HA.out _).mono ?_); rintro e w1 ⟨rfl, rfl⟩) | ((with_reducible refine (HB.out _).mono ?_); rintro e w1 ⟨rfl, rfl⟩))
  generalize w.alloc (.cells #[.int .i64 2, .int .i64 2, .int .i64 0, .slice none 0 0] 32) = w1 at *
  generalize w1.alloc (.cells #[.int .i64 0, .int .i64 1, .int .i64 2, .int .i64 3] 3) = w2 at *
  have hbw2 : Below w.heap.size w w2 := hb1.trans (hb2.mono (by omega))
  have HK := Lib.hid (fun (W : World) (h : Below w2.heap.size w2 W) => show Below w2.heap.size w2 W ∧ W.cell? ⟨w.heap.size, 0, none⟩ = some (.int .i64 2) ∧ W.cell? ⟨w.heap.size, 1, none⟩ = some (.int .i64 2) ∧ W.cell? ⟨w.heap.size, 2, none⟩ = some (.int .i64 0) ∧ W.cell? ⟨w.heap.size, 3, none⟩ = some (.slice none 0 0) from
    ⟨h, (h.cell (p := ⟨w.heap.size, 0, none⟩) (by simp; omega)).trans ((hb2.cell (p := ⟨w.heap.size, 0, none⟩) (by simp)).trans hc1.1), (h.cell (p := ⟨w.heap.size, 1, none⟩) (by simp; omega)).trans ((hb2.cell (p := ⟨w.heap.size, 1, none⟩) (by simp)).trans hc1.2.1), (h.cell (p := ⟨w.heap.size, 2, none⟩) (by simp; omega)).trans ((hb2.cell (p := ⟨w.heap.size, 2, none⟩) (by simp)).trans hc1.2.2.1), (h.cell (p := ⟨w.heap.size, 3, none⟩) (by simp; omega)).trans ((hb2.cell (p := ⟨w.heap.size, 3, none⟩) (by simp)).trans hc1.2.2.2)⟩)
  have HF := Lib.hid hI
  have X70a := Lib.hid (fun W (Q : Ending → World → Prop) (h : Below w2.heap.size w2 W) (hQ : ∀ D d w', IntsAt w' w'.heap.size D (tdL (srcs 2 2 (mv a)) four) → Below w2.heap.size w2 w' → Q (.returned (.slice D 4 d)) w') =>
    (turn22 (some ⟨w.heap.size + 1, 0, none⟩) 4 a four W ha (HF.out.up h) rfl).mono fun e w' ⟨⟨D, d, he, hi⟩, hb⟩ => he ▸ hQ D d w' hi (h.trans (hb.mono h.size)))
  have X70b := Lib.hid (fun A c W (Q : Ending → World → Prop) (hA : IntsAt W W.heap.size A (tdL (srcs 2 2 (mv a)) four)) (h : Below w2.heap.size w2 W) (hQ : ∀ D d w', IntsAt w' w'.heap.size D M → Below w2.heap.size w2 w' → Q (.returned (.slice D 4 d)) w') =>
    (H70b.out A c W hA).mono fun e w' ⟨⟨D, d, he, hi⟩, hb⟩ => he ▸ hQ D d w' hi (h.trans (hb.mono h.size)))
  have hbd := (Below.refl w2.heap.size w2).drew
  clear hc1 hI hb1 hb2
  go_region_held3 (fun W => Below w2.heap.size w2 W ∧ W.cell? ⟨w.heap.size, 0, none⟩ = some (.int .i64 2) ∧ W.cell? ⟨w.heap.size, 1, none⟩ = some (.int .i64 2) ∧ W.cell? ⟨w.heap.size, 2, none⟩ = some (.int .i64 0) ∧ W.cell? ⟨w.heap.size, 3, none⟩ = some (.slice none 0 0))
    (exact HK.out _ (by assumption))
    (first
      | (go_at_call 70; with_reducible refine X70a.out _ _ (by assumption) ?_; intro D5 d5 w5 hI5 hb5)
      | (go_at_call 70; with_reducible refine X70b.out _ _ _ _ (by assumption) (by assumption) ?_; intro D6 d6 w6 hI6 hb6))
  change Exit.then _ _ Exit.normal _ _
  clear X70a X70b HA HB hbd hb5
  have hbw6 := hbw2.trans (hb6.mono (by omega))
  have HD := Lib.hid hI6
  clear hI6
  go_wp2
  go_loopw [9] (fun i wr => ∃ k : Nat, k ≤ P ∧ i = .int .i64 k ∧ Below w6.heap.size w6 wr) (fun i _ => P - (intOf i).toNat)
  case atStart => exact ⟨0, Nat.zero_le _, rfl, Below.refl _ _⟩
  case round =>
    obtain ⟨k, hk, rfl, hbr⟩ := hrel
    have hP8 : P < 8 := H8.out
    have hb7 := hb6.trans (hbr.mono hb6.size)
    obtain ⟨_, p0, p1, p2, p3⟩ := HK.out _ hb7
    have X70 := Lib.hid (turn22 (some ⟨w.heap.size + 1, 0, none⟩) 4 k four wr (by have := H8.out; omega) (HF.out.up hb7) rfl)
    have hD7 := HD.out.up hbr
    by_cases hkP : k < P
    · have X71 := Lib.hid (fun A c W hb (hA : IntsAt W W.heap.size A (tdL (srcs 2 2 (mv k)) four)) => same4_no A D6 c d6 _ M W (four_len k _) HBL.out hA (hD7.up hb) (HN.out k hkP))
      clear hD7
      go_wp2_with (first
        | (go_at_call 70; refine (X70.out).mono ?_; rintro e w8 ⟨⟨D8, d8, rfl, hI8⟩, hb8⟩)
        | (go_at_call 71; refine (X71.out _ _ _ hb8 hI8).mono ?_; rintro e w9 ⟨rfl, q, rfl⟩))
      go_roundw
      case rel => exact ⟨k + 1, by omega, by go_num, below_drewN (hbr.trans (hb8.mono hbr.size)) _⟩
      case measure => simp [intOf]; omega
    · have e : k = P := by omega
      subst e
      have X71 := Lib.hid (fun A c W hb (hA : IntsAt W W.heap.size A (tdL (srcs 2 2 (mv k)) four)) => same4_yes A D6 c d6 _ M W (four_len k _) HBL.out hA (hD7.up hb) HE.out)
      clear hD7
      go_wp2_with (first
        | (go_at_call 70; refine (X70.out).mono ?_; rintro e w8 ⟨⟨D8, d8, rfl, hI8⟩, hb8⟩)
        | (go_at_call 71; refine (X71.out _ _ _ hb8 hI8).mono ?_; rintro e w9 ⟨rfl, q, rfl⟩))
      go_ret2
      exact ⟨rfl, below_drewN (hbw6.trans ((hbr.trans (hb8.mono hbr.size)).mono hbw6.size)) _⟩

theorem refProduct_any (a b : Int) (w : World) :
    Calls Tryd.prog 20 #[.int .i64 a, .int .i64 b] w fun e w' => e = .returned (.tuple #[.int .i64 (prdE a b).1, .int .i64 (prdE a b).2]) ∧ Below w.heap.size w w' := by
  by_cases h1 : 0 ≤ a ∧ a ≤ 7
  · by_cases h2 : 0 ≤ b ∧ b ≤ 7
    · obtain ⟨u, rfl⟩ : ∃ u : Nat, a = (u : Int) := ⟨a.toNat, by omega⟩
      obtain ⟨v, rfl⟩ : ∃ v : Nat, b = (v : Int) := ⟨b.toNat, by omega⟩
      rw [prdE_in (by omega) (by omega)]
      exact refProduct_in u v w (by omega) (by omega)
    · rw [prdE_out (by omega)]
      have HA := Lib.hid (fun W => refIn_yes h1 W)
      have HB := Lib.hid (fun W => refIn_no h2 W)
      clear h1 h2
      go_enter Tryd.func20, Tryd.ntmps20
      go_wp2_with (go_at_call 69; first | ((with_reducible refine (HA.out _).mono ?_); rintro e w1 ⟨rfl, rfl⟩) | ((with_reducible refine (HB.out _).mono ?_); rintro e w1 ⟨rfl, rfl⟩))
      go_ret2
      exact ⟨rfl, Below.refl _ _⟩
  · rw [prdE_out (by omega)]
    have HA := Lib.hid (fun W => refIn_no h1 W)
    clear h1
    go_enter Tryd.func20, Tryd.ntmps20
    go_wp2_with (go_at_call 69; ((with_reducible refine (HA.out _).mono ?_); rintro e w1 ⟨rfl, rfl⟩))
    go_ret2
    exact ⟨rfl, Below.refl _ _⟩

theorem mv_x : ∀ t, t < 8 → (mv t).x = (decide (t = 1) || decide (t = 3) || decide (5 < t)) := by decide +kernel

/-- The number ahead of a place; -1 ahead of the first. -/
def lastI (T : List Int) : Nat → Int
  | 0 => -1
  | k + 1 => T.getD k 0
theorem intsN_mem {T : List Nat} {n : Nat} : (n : Int) ∈ intsN T ↔ n ∈ T := by
  unfold intsN
  rw [List.mem_map]
  constructor
  · rintro ⟨u, hu, e⟩
    have : u = n := by omega
    exact this ▸ hu
  · intro h
    exact ⟨n, h, rfl⟩

theorem refHas_yes (A : Option Addr) (c : Nat) (L : List Int) (y : Int) (w : World) (hA : IntsAt w w.heap.size A L) (hn : L.length < 1000000) (h : y ∈ L) :
    Calls Tryd.prog 73 #[.slice A L.length c, .int .i64 y] w fun e w' => e = .returned (.bool true) ∧ w = w' :=
  (refHas_any A c L y w _ hA hn).mono fun e w' ⟨h1, h2⟩ => ⟨by rw [h1, decide_eq_true h], h2.symm⟩
theorem refHas_no (A : Option Addr) (c : Nat) (L : List Int) (y : Int) (w : World) (hA : IntsAt w w.heap.size A L) (hn : L.length < 1000000) (h : ¬ y ∈ L) :
    Calls Tryd.prog 73 #[.slice A L.length c, .int .i64 y] w fun e w' => e = .returned (.bool false) ∧ w = w' :=
  (refHas_any A c L y w _ hA hn).mono fun e w' ⟨h1, h2⟩ => ⟨by rw [h1, decide_eq_false h], h2.symm⟩

set_option maxRecDepth 100000 in
set_option maxHeartbeats 8000000 in
theorem refCheck_any (R C K : Int) (A : Option Addr) (c : Nat) (T : List Int) (w : World) (hA : IntsAt w w.heap.size A T) (hn : T.length < 1000) :
    Calls Tryd.prog 22 #[.agg #[.int .i64 R, .int .i64 C, .int .i64 K, .slice A T.length c]] w fun e w' => e = .returned (.int .i64 (chkE R C K T)) ∧ Below w.heap.size w w' := by
  by_cases h1 : 1 ≤ R ∧ R ≤ 4
  rotate_left
  · rw [show chkE R C K T = 1 from if_neg (by unfold rangeP; omega)]
    have HR := Lib.hid (fun W => refIn_no h1 W)
    clear hA h1
    go_enter Tryd.func22, Tryd.ntmps22
    go_wp2_with (go_at_call 69; ((with_reducible refine (HR.out _).mono ?_); rintro e w1 ⟨rfl, rfl⟩))
    go_ret
    exact ⟨rfl, below_new _ _⟩
  by_cases h2 : 1 ≤ C ∧ C ≤ 4
  rotate_left
  · rw [show chkE R C K T = 1 from if_neg (by unfold rangeP; omega)]
    have HR := Lib.hid (fun W => refIn_yes h1 W)
    have HC := Lib.hid (fun W => refIn_no h2 W)
    clear hA h1 h2
    go_enter Tryd.func22, Tryd.ntmps22
    go_wp2_with (go_at_call 69; first | ((with_reducible refine (HR.out _).mono ?_); rintro e w1 ⟨rfl, rfl⟩) | ((with_reducible refine (HC.out _).mono ?_); rintro e w1 ⟨rfl, rfl⟩))
    go_ret
    exact ⟨rfl, below_new _ _⟩
  by_cases h3 : 1 ≤ K ∧ K ≤ 4
  rotate_left
  · rw [show chkE R C K T = 1 from if_neg (by unfold rangeP; omega)]
    have HR := Lib.hid (fun W => refIn_yes h1 W)
    have HC := Lib.hid (fun W => refIn_yes h2 W)
    have HK := Lib.hid (fun W => refIn_no h3 W)
    clear hA h1 h2 h3
    go_enter Tryd.func22, Tryd.ntmps22
    go_wp2_with (go_at_call 69; first | ((with_reducible refine (HR.out _).mono ?_); rintro e w1 ⟨rfl, rfl⟩) | ((with_reducible refine (HC.out _).mono ?_); rintro e w1 ⟨rfl, rfl⟩) | ((with_reducible refine (HK.out _).mono ?_); rintro e w1 ⟨rfl, rfl⟩))
    go_ret
    exact ⟨rfl, below_new _ _⟩
  have HR := Lib.hid (fun W => refIn_yes h1 W)
  have HC := Lib.hid (fun W => refIn_yes h2 W)
  have HK := Lib.hid (fun W => refIn_yes h3 W)
  have HE : chkE R C K T = if scanE R C (-1) T = 0 then (if closedB (T.map Int.toNat) = true then 0 else 21) else scanE R C (-1) T := if_pos (by unfold rangeP; omega)
  obtain ⟨v, hv⟩ : ∃ v, v = chkE R C K T := ⟨_, rfl⟩
  rw [← hv]
  rw [HE] at hv
  have HV := Lib.hid hv
  clear HE hv h1 h2 h3
  have HA := Lib.hid hA
  clear hA
  have hb1 := below_new w (.cells #[.int .i64 R, .int .i64 C, .int .i64 K, .slice A T.length c] 32)
  have hc1 := own_cells4 w (.int .i64 R) (.int .i64 C) (.int .i64 K) (.slice A T.length c) 32
  have hz1 : w.heap.size < (w.alloc (.cells #[.int .i64 R, .int .i64 C, .int .i64 K, .slice A T.length c] 32)).heap.size := by simp
  go_enter Tryd.func22, Tryd.ntmps22
  go_upto_region 3 with (go_at_call 69; first | ((with_reducible refine (HR.out _).mono ?_); rintro e w1 ⟨rfl, rfl⟩) | ((with_reducible refine (HC.out _).mono ?_); rintro e w1 ⟨rfl, rfl⟩) | ((with_reducible refine (HK.out _).mono ?_); rintro e w1 ⟨rfl, rfl⟩))
  clear HR HC HK
  generalize w.alloc (.cells #[.int .i64 R, .int .i64 C, .int .i64 K, .slice A T.length c] 32) = w1 at *
  have HH := Lib.hid (fun (W : World) (h : Below w1.heap.size w1 W) => show W.cell? ⟨w.heap.size, 0, none⟩ = some (.int .i64 R) ∧ W.cell? ⟨w.heap.size, 1, none⟩ = some (.int .i64 C) ∧ W.cell? ⟨w.heap.size, 2, none⟩ = some (.int .i64 K) ∧ W.cell? ⟨w.heap.size, 3, none⟩ = some (.slice A T.length c) from
    ⟨(h.cell (p := ⟨w.heap.size, 0, none⟩) hz1).trans hc1.1, (h.cell (p := ⟨w.heap.size, 1, none⟩) hz1).trans hc1.2.1, (h.cell (p := ⟨w.heap.size, 2, none⟩) hz1).trans hc1.2.2.1, (h.cell (p := ⟨w.heap.size, 3, none⟩) hz1).trans hc1.2.2.2⟩)
  obtain ⟨p0, p1, p2, p3⟩ := hc1
  go_wp2
  go_loopw [3] (fun i wr => ∃ k : Nat, k ≤ T.length ∧ i = .int .i64 k ∧ Hid (scanE R C (-1) T = scanE R C (lastI T k) (T.drop k)) ∧ wr = w1) (fun i _ => T.length - (intOf i).toNat)
  case atStart => exact ⟨0, Nat.zero_le _, rfl, Lib.hid rfl, rfl⟩
  case round =>
    obtain ⟨k, hk, rfl, HS, rfl⟩ := hrel
    by_cases hlt : k < T.length
    · have hx : T[k]? = some T[k] := List.getElem?_eq_getElem hlt
      have e1 := HS.out
      rw [drop_cons hx, scan_cons] at e1
      have hla : lastI T (k + 1) = T[k] := by show T.getD k 0 = _; rw [List.getD_eq_getElem?_getD, hx]; rfl
      obtain ⟨b, off, hAe, hb, d⟩ := (HA.out.below hb1 (Nat.le_refl _)) k _ hx
      subst hAe
      generalize T[k] = t at *
      have hki : (k : Int) < (T.length : Int) := by omega
      have hk0 : (0 : Int) ≤ (k : Int) := by omega
      clear hx
      by_cases ht : 0 ≤ t ∧ t ≤ 7
      · have HI := Lib.hid (fun W => refIn_yes ht W)
        rw [if_neg (by omega)] at e1
        obtain ⟨u, rfl⟩ : ∃ u : Nat, t = (u : Int) := ⟨t.toNat, by omega⟩
        have hu8 : u < 8 := by omega
        have hmx := mv_x u hu8
        simp only [Int.toNat_natCast] at e1
        have hu0 : (0 : Int) ≤ (u : Int) := by omega
        clear ht
        by_cases hbad : (mv u).x = true ∧ R ≠ C
        · rw [if_pos hbad] at e1
          rw [hmx] at hbad
          obtain ⟨hbx, hRC⟩ := hbad
          have hne : (R != C) = true := by simpa using hRC
          clear hmx hRC
          simp only [Bool.or_eq_true, decide_eq_true_eq] at hbx
          by_cases hu1 : u = 1
          · have hq1 : ((u : Int) == 1) = true := by simp [hu1]
            clear hbx hu1
            have HE := Lib.hid (show v = 8 by rw [HV.out, e1]; rfl)
            clear e1 hla
            go_wp2_with (go_at_call 69; ((with_reducible refine (HI.out _).mono ?_); rintro e w2 ⟨rfl, rfl⟩))
            go_ret
            exact ⟨by rw [HE.out]; rfl, hb1⟩
          · have hq1 : ((u : Int) == 1) = false := by simpa using (by omega : ¬ (u : Int) = 1)
            by_cases hu3 : u = 3
            · have hq3 : ((u : Int) == 3) = true := by simp [hu3]
              clear hbx hu1 hu3
              have HE := Lib.hid (show v = 8 by rw [HV.out, e1]; rfl)
              clear e1 hla
              go_wp2_with (go_at_call 69; ((with_reducible refine (HI.out _).mono ?_); rintro e w2 ⟨rfl, rfl⟩))
              go_ret
              exact ⟨by rw [HE.out]; rfl, hb1⟩
            · have hq3 : ((u : Int) == 3) = false := by simpa using (by omega : ¬ (u : Int) = 3)
              have hq5 : (5 : Int) < (u : Int) := by omega
              clear hbx hu1 hu3
              have HE := Lib.hid (show v = 8 by rw [HV.out, e1]; rfl)
              clear e1 hla
              go_wp2_with (go_at_call 69; ((with_reducible refine (HI.out _).mono ?_); rintro e w2 ⟨rfl, rfl⟩))
              go_ret
              exact ⟨by rw [HE.out]; rfl, hb1⟩
        · rw [if_neg hbad] at e1
          by_cases hRC : R = C
          · have hne : (R != C) = false := by simpa using hRC
            clear hbad hmx hRC
            by_cases hk1 : 0 < (k : Int)
            · obtain ⟨j, rfl⟩ : ∃ j, k = j + 1 := ⟨k - 1, by omega⟩
              have hj : T[j]? = some T[j] := List.getElem?_eq_getElem (by omega)
              have hlj : lastI T (j + 1) = T[j] := by show T.getD j 0 = _; rw [List.getD_eq_getElem?_getD, hj]; rfl
              rw [hlj] at e1
              obtain ⟨b2, off2, hAe2, _, d2⟩ := (HA.out.below hb1 (Nat.le_refl _)) j _ hj
              obtain ⟨rfl, rfl⟩ : b = b2 ∧ off = off2 := by injection hAe2 with h; injection h with h1 h2; exact ⟨h1, h2⟩
              clear hAe2 hj hlj
              generalize T[j] = y at *
              have hjl : (j : Int) < (T.length : Int) := by omega
              by_cases hl : (u : Int) ≤ y
              · rw [if_pos hl] at e1
                have HE := Lib.hid (show v = 7 by rw [HV.out, e1]; rfl)
                clear e1 hla
                go_wp2_with (go_at_call 69; ((with_reducible refine (HI.out _).mono ?_); rintro e w2 ⟨rfl, rfl⟩))
                go_ret
                exact ⟨by rw [HE.out]; rfl, hb1⟩
              · rw [if_neg hl] at e1
                have HN := Lib.hid (show scanE R C (-1) T = scanE R C (lastI T (j + 1 + 1)) (T.drop (j + 1 + 1)) by rw [hla]; exact e1)
                clear e1 hla
                go_wp2_with (go_at_call 69; ((with_reducible refine (HI.out _).mono ?_); rintro e w2 ⟨rfl, rfl⟩))
                go_roundw
                case rel => exact ⟨j + 1 + 1, by omega, by go_num, HN, trivial⟩
                case measure => simp [intOf]; omega
            · have hz : lastI T k = -1 := by rw [show k = 0 by omega]; rfl
              rw [hz, if_neg (by omega)] at e1
              have HN := Lib.hid (show scanE R C (-1) T = scanE R C (lastI T (k + 1)) (T.drop (k + 1)) by rw [hla]; exact e1)
              clear e1 hla hz
              go_wp2_with (go_at_call 69; ((with_reducible refine (HI.out _).mono ?_); rintro e w2 ⟨rfl, rfl⟩))
              go_roundw
              case rel => exact ⟨k + 1, by omega, by go_num, HN, trivial⟩
              case measure => simp [intOf]; omega
          · have hne : (R != C) = true := by simpa using hRC
            have hx0 : (mv u).x = false := by
              rcases hb : (mv u).x with _ | _
              · rfl
              · exact absurd ⟨hb, hRC⟩ hbad
            rw [hx0] at hmx
            have hmx2 := hmx.symm
            simp only [Bool.or_eq_false_iff, decide_eq_false_iff_not] at hmx2
            have hq1 : ((u : Int) == 1) = false := by simpa using (by omega : ¬ (u : Int) = 1)
            have hq3 : ((u : Int) == 3) = false := by simpa using (by omega : ¬ (u : Int) = 3)
            have hq5 : ¬ (5 : Int) < (u : Int) := by omega
            clear hbad hmx hRC hmx2 hx0
            by_cases hk1 : 0 < (k : Int)
            · obtain ⟨j, rfl⟩ : ∃ j, k = j + 1 := ⟨k - 1, by omega⟩
              have hj : T[j]? = some T[j] := List.getElem?_eq_getElem (by omega)
              have hlj : lastI T (j + 1) = T[j] := by show T.getD j 0 = _; rw [List.getD_eq_getElem?_getD, hj]; rfl
              rw [hlj] at e1
              obtain ⟨b2, off2, hAe2, _, d2⟩ := (HA.out.below hb1 (Nat.le_refl _)) j _ hj
              obtain ⟨rfl, rfl⟩ : b = b2 ∧ off = off2 := by injection hAe2 with h; injection h with h1 h2; exact ⟨h1, h2⟩
              clear hAe2 hj hlj
              generalize T[j] = y at *
              have hjl : (j : Int) < (T.length : Int) := by omega
              by_cases hl : (u : Int) ≤ y
              · rw [if_pos hl] at e1
                have HE := Lib.hid (show v = 7 by rw [HV.out, e1]; rfl)
                clear e1 hla
                go_wp2_with (go_at_call 69; ((with_reducible refine (HI.out _).mono ?_); rintro e w2 ⟨rfl, rfl⟩))
                go_ret
                exact ⟨by rw [HE.out]; rfl, hb1⟩
              · rw [if_neg hl] at e1
                have HN := Lib.hid (show scanE R C (-1) T = scanE R C (lastI T (j + 1 + 1)) (T.drop (j + 1 + 1)) by rw [hla]; exact e1)
                clear e1 hla
                go_wp2_with (go_at_call 69; ((with_reducible refine (HI.out _).mono ?_); rintro e w2 ⟨rfl, rfl⟩))
                go_roundw
                case rel => exact ⟨j + 1 + 1, by omega, by go_num, HN, trivial⟩
                case measure => simp [intOf]; omega
            · have hz : lastI T k = -1 := by rw [show k = 0 by omega]; rfl
              rw [hz, if_neg (by omega)] at e1
              have HN := Lib.hid (show scanE R C (-1) T = scanE R C (lastI T (k + 1)) (T.drop (k + 1)) by rw [hla]; exact e1)
              clear e1 hla hz
              go_wp2_with (go_at_call 69; ((with_reducible refine (HI.out _).mono ?_); rintro e w2 ⟨rfl, rfl⟩))
              go_roundw
              case rel => exact ⟨k + 1, by omega, by go_num, HN, trivial⟩
              case measure => simp [intOf]; omega
      · have HI := Lib.hid (fun W => refIn_no ht W)
        rw [if_pos (by omega)] at e1
        have HE := Lib.hid (show v = 2 by rw [HV.out, e1]; rfl)
        clear e1 ht hla
        go_wp2_with (go_at_call 69; ((with_reducible refine (HI.out _).mono ?_); rintro e w2 ⟨rfl, rfl⟩))
        go_ret
        exact ⟨by rw [HE.out]; rfl, hb1⟩
    · have e1 := HS.out
      rw [List.drop_of_length_le (by omega)] at e1
      have hz : scanE R C (-1) T = 0 := e1
      have hall := scan_all hz
      have hv := HV.out
      rw [hz, if_pos rfl] at hv
      obtain ⟨N, hN⟩ : ∃ N, N = T.map Int.toNat := ⟨_, rfl⟩
      have hTN : T = intsN N := by rw [hN]; exact (intsN_toNat hall).symm
      rw [← hN] at hv
      have H8 := Lib.hid (show ∀ n ∈ N, n < 8 by
        intro n hn
        rw [hN] at hn
        obtain ⟨t, ht, rfl⟩ := List.mem_map.1 hn
        have := hall t ht
        omega)
      have HTN := Lib.hid hTN
      have hki : ¬ (k : Int) < (T.length : Int) := by omega
      have HL := Lib.hid (show N.length = T.length by rw [hTN, intsN_len])
      clear e1 hz hall HS hN hTN
      by_cases h0 : (0 : Int) ∈ T
      rotate_left
      · have HX := Lib.hid (refHas_no A c T 0 wr (HA.out.up hb1) (by omega) h0)
        have HE := Lib.hid (show v = 21 by
          rw [hv, if_neg]
          intro hc
          have := (closedB_iff.1 hc).2
          rw [HTN.out] at h0
          exact h0 ((intsN_mem (n := 0)).2 this))
        clear h0 hv
        go_wp2_with (go_at_call 73; ((with_reducible refine (HX.out).mono ?_); rintro e w2 ⟨rfl, rfl⟩))
        go_ret
        exact ⟨by rw [HE.out]; rfl, hb1⟩
      have HX := Lib.hid (refHas_yes A c T 0 wr (HA.out.up hb1) (by omega) h0)
      have HV2 := Lib.hid hv
      have HO := Lib.hid (show 0 ∈ N by rw [HTN.out] at h0; exact (intsN_mem (n := 0)).1 h0)
      clear h0 hv HV
      go_upto_region 15 with (go_at_call 73; ((with_reducible refine (HX.out).mono ?_); rintro e w2 ⟨rfl, rfl⟩))
      clear HX hki
      obtain ⟨w1, rfl⟩ : ∃ w1 : World, w1 = wr := ⟨_, rfl⟩
      clear p0 p1 p2 p3
      go_wp2
      go_loopw [5] (fun i wr => ∃ k : Nat, k ≤ T.length ∧ i = .int .i64 k ∧ Hid (∀ a ∈ N.take k, ∀ b ∈ N, prodN a b ∈ N) ∧ Below w1.heap.size w1 wr) (fun i _ => T.length - (intOf i).toNat)
      case atStart => exact ⟨0, Nat.zero_le _, rfl, Lib.hid (by simp), Below.refl _ _⟩
      case round =>
        obtain ⟨i, hi, rfl, HI, hbi⟩ := hrel
        obtain ⟨p0, p1, p2, p3⟩ := HH.out _ hbi
        by_cases hlt2 : i < T.length
        · have hlN : i < N.length := by have := HL.out; omega
          have hx : N[i]? = some N[i] := List.getElem?_eq_getElem hlN
          have hxT : T[i]? = some (N[i] : Int) := by rw [HTN.out]; exact intsN_get hx
          have ha8 := H8.out _ (mem_of_get hx)
          have HTA := Lib.hid (take_snoc hx)
          have HMA := Lib.hid (mem_of_get hx)
          obtain ⟨b, off, hAe, hb, d⟩ := (HA.out.up (hb1.trans (hbi.mono hb1.size))) i _ hxT
          subst hAe
          have HTI := Lib.hid hxT
          clear hx hxT
          generalize N[i] = a at *
          have hki2 : (i : Int) < (T.length : Int) := by omega
          have hki0 : (0 : Int) ≤ (i : Int) := by omega
          go_wp2
          go_loopw [6] (fun i wr => ∃ k : Nat, k ≤ T.length ∧ i = .int .i64 k ∧ Hid (∀ b ∈ N.take k, prodN a b ∈ N) ∧ Below w1.heap.size w1 wr) (fun i _ => T.length - (intOf i).toNat)
          case atStart => exact ⟨0, Nat.zero_le _, rfl, Lib.hid (by simp), hbi⟩
          case round =>
            clear hbi d p0 p1 p2 p3 hb
            obtain ⟨j, hj, rfl, HJ, hbj⟩ := hrel
            obtain ⟨p0, p1, p2, p3⟩ := HH.out _ hbj
            have hbT := hb1.trans (hbj.mono hb1.size)
            by_cases hlt3 : j < T.length
            · have hlN : j < N.length := by have := HL.out; omega
              have hx : N[j]? = some N[j] := List.getElem?_eq_getElem hlN
              have hxT : T[j]? = some (N[j] : Int) := by rw [HTN.out]; exact intsN_get hx
              have hb8 := H8.out _ (mem_of_get hx)
              have HTB := Lib.hid (take_snoc hx)
              have HMB := Lib.hid (mem_of_get hx)
              obtain ⟨b', off', hAe, hb, dj⟩ := (HA.out.up hbT) j _ hxT
              obtain ⟨rfl, rfl⟩ : b = b' ∧ off = off' := by injection hAe with h; injection h with h1 h2; exact ⟨h1, h2⟩
              obtain ⟨b', off', hAe, _, di⟩ := (HA.out.up hbT) i (a : Int) HTI.out
              obtain ⟨rfl, rfl⟩ : b = b' ∧ off = off' := by injection hAe with h; injection h with h1 h2; exact ⟨h1, h2⟩
              clear hx hAe hxT
              generalize N[j] = b2 at *
              have hkj2 : (j : Int) < (T.length : Int) := by omega
              have hkj0 : (0 : Int) ≤ (j : Int) := by omega
              have hwz : w.heap.size < wr.heap.size := Nat.lt_of_lt_of_le hz1 hbj.size
              have HKK := Lib.hid (fun (W : World) (h : Below wr.heap.size wr W) => show Below wr.heap.size wr W ∧ W.cell? ⟨w.heap.size, 3, none⟩ = some (.slice (some ⟨b, off, none⟩) T.length c) ∧ W.cell? ⟨b, off + i, none⟩ = some (.int .i64 a) ∧ W.cell? ⟨b, off + j, none⟩ = some (.int .i64 b2) from
                ⟨h, (h.cell (p := ⟨w.heap.size, 3, none⟩) hwz).trans p3, (h.cell (p := ⟨b, _, none⟩) hb).trans di, (h.cell (p := ⟨b, _, none⟩) hb).trans dj⟩)
              have HX := Lib.hid (fun W (Q : Ending → World → Prop) (h : Below wr.heap.size wr W) (hQ : ∀ w', Below wr.heap.size wr w' → Q (.returned (.tuple #[.int .i64 (prodN a b2 : Nat), .int .i64 0])) w') => (refProduct_in a b2 W ha8 hb8).mono fun e w' ⟨he, hb'⟩ => he ▸ hQ w' (h.trans (hb'.mono h.size)))
              have HTT := Lib.hid (fun W (h : Below wr.heap.size wr W) => (HA.out.up hbT).up h)
              have hbd := (Below.refl wr.heap.size wr).drew
              by_cases hin : prodN a b2 ∈ N
              · have HM := Lib.hid (show ((prodN a b2 : Nat) : Int) ∈ T by rw [HTN.out]; exact intsN_mem.2 hin)
                have HN2 := Lib.hid (show ∀ b ∈ N.take (j + 1), prodN a b ∈ N by
                  rw [HTB.out]
                  intro b hb
                  rcases List.mem_append.1 hb with h | h
                  · exact HJ.out b h
                  · rw [List.mem_singleton.1 h]; exact hin)
                generalize prodN a b2 = t at *
                clear hin di dj
                go_upto_region 21 with (fail)
                clear p0 p1 p2 p3
                go_region_held3 (fun W => Below wr.heap.size wr W ∧ W.cell? ⟨w.heap.size, 3, none⟩ = some (.slice (some ⟨b, off, none⟩) T.length c) ∧ W.cell? ⟨b, off + i, none⟩ = some (.int .i64 a) ∧ W.cell? ⟨b, off + j, none⟩ = some (.int .i64 b2))
                  (exact HKK.out _ (by assumption))
                  (first | (go_at_call 20; with_reducible refine HX.out _ _ (by assumption) ?_; intro w6 hb6))
                all_goals
                  have HTw := Lib.hid (HTT.out w6 hb6)
                  obtain ⟨_, c3, _, _⟩ := HKK.out w6 hb6
                  go_wp2_with (go_at_call 73; ((with_reducible refine (refHas_yes (some ⟨b, off, none⟩) c T t w6 HTw.out (by omega) HM.out).mono ?_); rintro e w7 ⟨rfl, rfl⟩))
                  go_roundw
                  case rel => exact ⟨j + 1, by omega, by go_num, HN2, hbj.trans (Below.mono hb6 hbj.size)⟩
                  case measure => simp [intOf]; omega
              · have HM := Lib.hid (show ¬ ((prodN a b2 : Nat) : Int) ∈ T by rw [HTN.out]; exact fun h => hin (intsN_mem.1 h))
                have HE := Lib.hid (show v = 21 by
                  rw [HV2.out, closedB_no HMA.out HMB.out hin]; rfl)
                generalize prodN a b2 = t at *
                clear hin di dj
                go_upto_region 21 with (fail)
                clear p0 p1 p2 p3
                go_region_held3 (fun W => Below wr.heap.size wr W ∧ W.cell? ⟨w.heap.size, 3, none⟩ = some (.slice (some ⟨b, off, none⟩) T.length c) ∧ W.cell? ⟨b, off + i, none⟩ = some (.int .i64 a) ∧ W.cell? ⟨b, off + j, none⟩ = some (.int .i64 b2))
                  (exact HKK.out _ (by assumption))
                  (first | (go_at_call 20; with_reducible refine HX.out _ _ (by assumption) ?_; intro w6 hb6))
                all_goals
                  have HTw := Lib.hid (HTT.out w6 hb6)
                  obtain ⟨_, c3, _, _⟩ := HKK.out w6 hb6
                  go_wp2_with (go_at_call 73; ((with_reducible refine (refHas_no (some ⟨b, off, none⟩) c T t w6 HTw.out (by omega) HM.out).mono ?_); rintro e w7 ⟨rfl, rfl⟩))
                  go_ret
                  exact ⟨by rw [HE.out]; rfl, hbT.trans (Below.mono hb6 hbT.size)⟩
            · have HN2 := Lib.hid (show ∀ a ∈ N.take (i + 1), ∀ b ∈ N, prodN a b ∈ N by
                rw [HTA.out]
                intro x hx
                rcases List.mem_append.1 hx with h | h
                · exact HI.out x h
                · rw [List.mem_singleton.1 h]
                  have := HJ.out
                  rw [List.take_of_length_le (by have := HL.out; omega)] at this
                  exact this)
              have hkj2 : ¬ (j : Int) < (T.length : Int) := by omega
              go_wp2
              go_roundw
              case rel => exact ⟨i + 1, by omega, by go_num, HN2, hbj⟩
              case measure => simp [intOf]; omega
        · have HE := Lib.hid (show v = 0 by
            have := HI.out
            rw [List.take_of_length_le (by have := HL.out; omega)] at this
            rw [HV2.out, if_pos (closedB_iff.2 ⟨this, HO.out⟩)])
          have hki2 : ¬ (i : Int) < (T.length : Int) := by omega
          have HF := Lib.hid (hb1.trans (hbi.mono hb1.size))
          go_wp2
          go_ret
          exact ⟨by rw [HE.out]; rfl, HF.out⟩

/-- The error of a press, and of a back. -/
def valE (R C K : Int) (T b : List Int) : Int := if chkE R C K T = 0 then chkB (R * C).toNat K b else chkE R C K T
theorem valE_bad {R C K : Int} {T b : List Int} (h : chkE R C K T ≠ 0) : valE R C K T b = chkE R C K T := if_neg h
theorem valE_ok {R C K : Int} {T b : List Int} (h : chkE R C K T = 0) : valE R C K T b = chkB (R * C).toNat K b := if_pos h

set_option maxRecDepth 100000 in
set_option maxHeartbeats 8000000 in
theorem refValid_any (R C K : Int) (A X : Option Addr) (c xc : Nat) (T b : List Int) (w : World) (hA : IntsAt w w.heap.size A T) (hX : IntsAt w w.heap.size X b) (hn : T.length < 1000) (hbn : b.length < 1000) :
    Calls Tryd.prog 77 #[.agg #[.int .i64 R, .int .i64 C, .int .i64 K, .slice A T.length c], .slice X b.length xc] w fun e w' => e = .returned (.int .i64 (valE R C K T b)) ∧ Below w.heap.size w w' := by
  have hb1 := below_new w (.cells #[.int .i64 R, .int .i64 C, .int .i64 K, .slice A T.length c] 32)
  have hc1 := own_cells4 w (.int .i64 R) (.int .i64 C) (.int .i64 K) (.slice A T.length c) 32
  have hz1 : w.heap.size < (w.alloc (.cells #[.int .i64 R, .int .i64 C, .int .i64 K, .slice A T.length c] 32)).heap.size := by simp
  have HC := Lib.hid (refCheck_any R C K A c T _ (hA.up hb1) hn)
  by_cases h : chkE R C K T = 0
  rotate_left
  · rw [valE_bad h]
    have hne : (chkE R C K T == 0) = false := by simpa using h
    generalize chkE R C K T = v at *
    clear h hA hX hc1
    go_enter Tryd.func77, Tryd.ntmps77
    go_wp2_with (go_at_call 22; refine (HC.out).mono ?_; rintro e w2 ⟨rfl, hb2⟩)
    go_loopw [5, 6] (fun E i wr => E = .int .i64 v ∧ i = .int .i64 0 ∧ wr = w2) (fun _ _ _ => 0)
    case atStart => exact ⟨rfl, rfl, rfl⟩
    case round =>
      obtain ⟨rfl, rfl, rfl⟩ := hrel
      have HF := Lib.hid (hb1.trans (hb2.mono hb1.size))
      clear hb1 hb2
      by_cases hl : (0 : Int) < (b.length : Int)
      · go_wp2
        go_ret
        exact ⟨rfl, HF.out⟩
      · go_wp2
        go_ret
        exact ⟨rfl, HF.out⟩
  rw [valE_ok h]
  rw [h] at HC
  obtain ⟨p, hp, rfl, rfl, rfl, rfl⟩ := ok_of_chk h
  clear h
  rw [show ((p.R : Int) * (p.C : Int)).toNat = p.n by unfold Pr.n; rw [← Int.natCast_mul]; rfl]
  have hn16 := hp.n16
  have hk1 := hp.k1
  have hk4 := hp.k4
  have hr4 := hp.r4
  have hc4 := hp.c4
  have hmul : (p.R : Int) * (p.C : Int) = (p.n : Int) := by unfold Pr.n; simp
  have hw : IntKind.i64.wrap ((p.R : Int) * (p.C : Int)) = (p.n : Int) := by rw [hmul]; exact IntWalk.i64_in _ (by omega)
  have HX := Lib.hid hX
  have hw2 : (p.R : Int) * (p.C : Int) = (p.n : Int) := hmul
  clear hX hA hmul
  by_cases hl : b.length = p.n
  rotate_left
  · rw [show chkB p.n p.K b = 5 from if_neg hl]
    have hne : ((b.length : Int) != (p.n : Int)) = true := by simpa using (by omega : ¬ (b.length : Int) = p.n)
    clear hl
    go_enter Tryd.func77, Tryd.ntmps77
    go_wp2_with (go_at_call 22; refine (HC.out).mono ?_; rintro e w2 ⟨rfl, hb2⟩; obtain ⟨q1, q2, q3⟩ := bcell hb2; simp only [World.size_alloc] at q1 q2 q3)
    clear hw hw2 hne
    go_loopw [5, 6] (fun E i wr => E = .int .i64 5 ∧ i = .int .i64 0 ∧ wr = w2) (fun _ _ _ => 0)
    case atStart => exact ⟨rfl, rfl, rfl⟩
    case round =>
      obtain ⟨rfl, rfl, rfl⟩ := hrel
      have HF := Lib.hid (hb1.trans (hb2.mono hb1.size))
      clear hb1 hb2 hc1 q1 q2 q3
      by_cases hl : (0 : Int) < (b.length : Int)
      · go_wp2
        go_ret
        exact ⟨rfl, HF.out⟩
      · go_wp2
        go_ret
        exact ⟨rfl, HF.out⟩
  obtain ⟨v, hv⟩ : ∃ v, v = chkB p.n p.K b := ⟨_, rfl⟩
  rw [← hv]
  rw [show chkB p.n p.K b = if ∀ x ∈ b, 0 ≤ x ∧ x < p.K then 0 else 1 from if_pos hl] at hv
  have HV := Lib.hid hv
  have hne : ((b.length : Int) != (p.n : Int)) = false := by simpa using (by omega : (b.length : Int) = p.n)
  clear hl hv
  go_enter Tryd.func77, Tryd.ntmps77
  go_wp2_with (go_at_call 22; refine (HC.out).mono ?_; rintro e w2 ⟨rfl, hb2⟩; obtain ⟨q1, q2, q3⟩ := bcell hb2; simp only [World.size_alloc] at q1 q2 q3)
  clear hw hw2 hne
  have hbw : Below w.heap.size w w2 := hb1.trans (hb2.mono hb1.size)
  have hwz : w.heap.size < w2.heap.size := Nat.lt_of_lt_of_le hz1 hb2.size
  have p2 : w2.cell? ⟨w.heap.size, 2, none⟩ = some (.int .i64 p.K) := (hb2.cell (p := ⟨w.heap.size, 2, none⟩) hz1).trans hc1.2.2.1
  have HX2 := Lib.hid (HX.out.up hbw)
  clear hc1 q1 q2 q3
  go_loopw [5, 6] (fun E i wr => ∃ (k : Nat) (u : Int), k ≤ b.length ∧ i = .int .i64 k ∧ E = .int .i64 u ∧ Hid ((u = 0 ∧ ∀ x ∈ b.take k, 0 ≤ x ∧ x < p.K) ∨ (u = 1 ∧ v = 1)) ∧ Below w2.heap.size w2 wr) (fun _ i _ => b.length - (intOf i).toNat)
  case atStart => exact ⟨0, 0, Nat.zero_le _, rfl, rfl, Lib.hid (Or.inl ⟨rfl, by simp⟩), Below.refl _ _⟩
  case round =>
    obtain ⟨k, u, hk, rfl, rfl, HS, hbr⟩ := hrel
    have HF := Lib.hid (hbw.trans (hbr.mono hbw.size))
    replace p2 := (hbr.cell (p := ⟨w.heap.size, 2, none⟩) hwz).trans p2
    rcases HS.out with ⟨rfl, hall⟩ | ⟨rfl, hv1⟩
    · have HAl := Lib.hid hall
      clear hall HS
      by_cases hlt : k < b.length
      · have hx : b[k]? = some b[k] := List.getElem?_eq_getElem hlt
        have HMx := Lib.hid (mem_of_get hx)
        have HTK := Lib.hid (take_snoc hx)
        obtain ⟨xb, xo, rfl, hxb, d⟩ := (HX2.out.up hbr) k _ hx
        clear hx
        generalize b[k] = x at *
        have hki : (k : Int) < (b.length : Int) := by omega
        have hk0 : (0 : Int) ≤ (k : Int) := by omega
        have e1 : IntKind.i64.wrap ((p.K : Int) - 1) = (p.K : Int) - 1 := IntWalk.i64_in _ (by omega)
        by_cases hin : 0 ≤ x ∧ x ≤ (p.K : Int) - 1
        · have HI := Lib.hid (fun W => refIn_yes hin W)
          have HN := Lib.hid (show ((0 : Int) = 0 ∧ ∀ y ∈ b.take (k + 1), 0 ≤ y ∧ y < p.K) ∨ ((0 : Int) = 1 ∧ v = 1) from Or.inl ⟨rfl, by
            rw [HTK.out]
            intro y hy
            rcases List.mem_append.1 hy with h | h
            · exact HAl.out y h
            · rw [List.mem_singleton.1 h]; omega⟩)
          clear hin
          go_upto_region 7 with (fail)
          go_quiet (first | (go_at_call 69; refine (HI.out _).mono ?_; rintro e w3 ⟨rfl, rfl⟩; exact ⟨rfl, _, rfl⟩))
          clear e1
          go_wp2
          go_roundw
          case rel => exact ⟨k + 1, 0, by omega, by go_num, rfl, HN, below_drewN hbr _⟩
          case measure => simp [intOf]; omega
        · have HI := Lib.hid (fun W => refIn_no hin W)
          have HN := Lib.hid (show ((1 : Int) = 0 ∧ ∀ y ∈ b.take (k + 1), 0 ≤ y ∧ y < p.K) ∨ ((1 : Int) = 1 ∧ v = 1) from Or.inr ⟨rfl, by
            rw [HV.out, if_neg]
            intro h
            have := h x HMx.out
            omega⟩)
          clear hin
          go_upto_region 7 with (fail)
          go_quiet (first | (go_at_call 69; refine (HI.out _).mono ?_; rintro e w3 ⟨rfl, rfl⟩; exact ⟨rfl, _, rfl⟩))
          clear e1
          go_wp2
          go_roundw
          case rel => exact ⟨k + 1, 1, by omega, by go_num, rfl, HN, below_drewN hbr _⟩
          case measure => simp [intOf]; omega
      · have HE := Lib.hid (show v = 0 by
          have := HAl.out
          rw [List.take_of_length_le (by omega)] at this
          rw [HV.out, if_pos this])
        have hki : ¬ (k : Int) < (b.length : Int) := by omega
        go_wp2
        go_ret
        exact ⟨by rw [HE.out]; rfl, HF.out⟩
    · have HE := Lib.hid hv1
      clear hv1 HS
      by_cases hlt : (k : Int) < (b.length : Int)
      · go_wp2
        go_ret
        exact ⟨by rw [HE.out]; rfl, HF.out⟩
      · go_wp2
        go_ret
        exact ⟨by rw [HE.out]; rfl, HF.out⟩
end Go.Proofs.YtbcbaaapogejiaaDoor
