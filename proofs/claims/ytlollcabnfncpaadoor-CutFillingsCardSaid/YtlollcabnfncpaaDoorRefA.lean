/-
  The reference: numbers between two, checked sheets, the size of a card, what a card covers, what is covered.
-/
import Derived.Test.YtlollcabnfncpaaDoorWkA
import Derived.Deep.RegionHeld3
namespace Go.Proofs.YtlollcabnfncpaaDoor
open Go.RowKit

set_option maxHeartbeats 400000 in
theorem is_any (n lo hi : Int) (w : World) :
    Calls Tryd.prog 67 #[.int .i64 n, .int .i64 lo, .int .i64 hi] w fun e w' => e = .returned (.bool (decide (lo ≤ n ∧ n ≤ hi))) ∧ Below w.heap.size w w' := by
  by_cases h1 : lo ≤ n
  · by_cases h2 : n ≤ hi
    · rw [decide_eq_true ⟨h1, h2⟩]
      go_enter Tryd.func67, Tryd.ntmps67
      go_wp2
      go_ret
      exact ⟨by first | rfl | exact ret_bool (decide_eq_true h2), Below.refl _ _⟩
    · rw [decide_eq_false (fun h => h2 h.2)]
      go_enter Tryd.func67, Tryd.ntmps67
      go_wp2
      go_ret
      exact ⟨by first | rfl | exact ret_bool (decide_eq_false h2), Below.refl _ _⟩
  · rw [decide_eq_false (fun h => h1 h.1)]
    go_enter Tryd.func67, Tryd.ntmps67
    go_wp2
    go_ret
    exact ⟨rfl, Below.refl _ _⟩

theorem is_q {n lo hi : Int} {b : Bool} (h : b = decide (lo ≤ n ∧ n ≤ hi)) (W1 W : World) (Q : Ending → World → Prop) (hb : Below W1.heap.size W1 W) (hQ : ∀ w', Below W1.heap.size W1 w' → Q (.returned (.bool b)) w') :
    Calls Tryd.prog 67 #[.int .i64 n, .int .i64 lo, .int .i64 hi] W Q :=
  (is_any n lo hi W).mono fun e w' ⟨he, hb'⟩ => by rw [he, ← h]; exact hQ w' (hb.trans (hb'.mono hb.size))

set_option maxRecDepth 100000 in
set_option maxHeartbeats 1000000 in
theorem rcheck_any (r c l v : Int) (w : World) :
    Calls Tryd.prog 21 #[.agg #[.int .i64 r, .int .i64 c, .int .i64 l, .int .i64 v]] w fun e w' => e = .returned (.int .i64 (chkS r c l v)) ∧ Below w.heap.size w w' := by
  obtain ⟨b1, h1⟩ : ∃ b, b = decide (1 ≤ r ∧ r ≤ 6) := ⟨_, rfl⟩
  obtain ⟨b2, h2⟩ : ∃ b, b = decide (1 ≤ c ∧ c ≤ 6) := ⟨_, rfl⟩
  obtain ⟨b3, h3⟩ : ∃ b, b = decide (1 ≤ l ∧ l ≤ 6) := ⟨_, rfl⟩
  obtain ⟨b4, h4⟩ : ∃ b, b = decide (1 ≤ v ∧ v ≤ 6) := ⟨_, rfl⟩
  have hS : chkS r c l v = if b1 && b2 && b3 && b4 then 0 else 1 := by
    rw [h1, h2, h3, h4]
    unfold chkS
    simp only [Bool.and_eq_true, decide_eq_true_eq, and_assoc]
  have H1 := Lib.hid (is_q h1 (w.alloc (.cells #[.int .i64 r, .int .i64 c, .int .i64 l, .int .i64 v] 24)))
  have H2 := Lib.hid (is_q h2 (w.alloc (.cells #[.int .i64 r, .int .i64 c, .int .i64 l, .int .i64 v] 24)))
  have H3 := Lib.hid (is_q h3 (w.alloc (.cells #[.int .i64 r, .int .i64 c, .int .i64 l, .int .i64 v] 24)))
  have H4 := Lib.hid (is_q h4 (w.alloc (.cells #[.int .i64 r, .int .i64 c, .int .i64 l, .int .i64 v] 24)))
  have hbb := Below.refl (w.alloc (.cells #[.int .i64 r, .int .i64 c, .int .i64 l, .int .i64 v] 24)).heap.size (w.alloc (.cells #[.int .i64 r, .int .i64 c, .int .i64 l, .int .i64 v] 24))
  have HK := Lib.hid (fun (W : World) (h : Below (w.alloc (.cells #[.int .i64 r, .int .i64 c, .int .i64 l, .int .i64 v] 24)).heap.size (w.alloc (.cells #[.int .i64 r, .int .i64 c, .int .i64 l, .int .i64 v] 24)) W) => show W.cell? ⟨w.heap.size, 0, none⟩ = some (.int .i64 r) ∧ W.cell? ⟨w.heap.size, 1, none⟩ = some (.int .i64 c) ∧ W.cell? ⟨w.heap.size, 2, none⟩ = some (.int .i64 l) ∧ W.cell? ⟨w.heap.size, 3, none⟩ = some (.int .i64 v) from
    ⟨(h.cell (p := ⟨w.heap.size, 0, none⟩) (by simp)).trans (by simp [go_sem]), (h.cell (p := ⟨w.heap.size, 1, none⟩) (by simp)).trans (by simp [go_sem]), (h.cell (p := ⟨w.heap.size, 2, none⟩) (by simp)).trans (by simp [go_sem]), (h.cell (p := ⟨w.heap.size, 3, none⟩) (by simp)).trans (by simp [go_sem])⟩)
  clear h1 h2 h3 h4
  rw [hS]
  clear hS
  rcases b1 with _ | _
  · go_enter Tryd.func21, Tryd.ntmps21
    go_wp2_with (go_at_call 67; with_reducible refine H1.out _ _ (by assumption) ?_; intro w1 hb1)
    go_ret
    exact ⟨rfl, below_via hb1⟩
  rcases b2 with _ | _
  · go_enter Tryd.func21, Tryd.ntmps21
    go_wp2_with (first | (go_at_call 67; with_reducible refine H1.out _ _ (by assumption) ?_; intro w1 hb1; obtain ⟨s0, s1, s2, s3⟩ := HK.out _ hb1) | (go_at_call 67; with_reducible refine H2.out _ _ (by assumption) ?_; intro w2 hb2))
    go_ret
    exact ⟨rfl, below_via hb2⟩
  rcases b3 with _ | _
  · go_enter Tryd.func21, Tryd.ntmps21
    go_wp2_with (first | (go_at_call 67; with_reducible refine H1.out _ _ (by assumption) ?_; intro w1 hb1; obtain ⟨s0, s1, s2, s3⟩ := HK.out _ hb1) | (go_at_call 67; with_reducible refine H2.out _ _ (by assumption) ?_; intro w2 hb2; obtain ⟨t0, t1, t2, t3⟩ := HK.out _ hb2) | (go_at_call 67; with_reducible refine H3.out _ _ (by assumption) ?_; intro w3 hb3))
    go_ret
    exact ⟨rfl, below_via hb3⟩
  rcases b4 with _ | _
  all_goals
    go_enter Tryd.func21, Tryd.ntmps21
    go_wp2_with (first | (go_at_call 67; with_reducible refine H1.out _ _ (by assumption) ?_; intro w1 hb1; obtain ⟨s0, s1, s2, s3⟩ := HK.out _ hb1) | (go_at_call 67; with_reducible refine H2.out _ _ (by assumption) ?_; intro w2 hb2; obtain ⟨t0, t1, t2, t3⟩ := HK.out _ hb2) | (go_at_call 67; with_reducible refine H3.out _ _ (by assumption) ?_; intro w3 hb3; obtain ⟨u0, u1, u2, u3⟩ := HK.out _ hb3) | (go_at_call 67; with_reducible refine H4.out _ _ (by assumption) ?_; intro w4 hb4))
    go_ret
    exact ⟨rfl, below_via hb4⟩

set_option maxHeartbeats 400000 in
theorem rsize_any (s : Sh) (x : Cd) (w : World) :
    Calls Tryd.prog 84 #[.agg #[.int .i64 s.r, .int .i64 s.c, .int .i64 s.l, .int .i64 s.w], .agg #[.int .i64 x.row, .int .i64 x.col, .bool x.t]] w fun e w' => e = .returned (.tuple #[.int .i64 (hiS s x.t : Nat), .int .i64 (wiS s x.t : Nat)]) ∧ Below w.heap.size w w' := by
  obtain ⟨row, col, t⟩ := x
  rcases t with _ | _
  all_goals
    go_enter Tryd.func84, Tryd.ntmps84
    go_wp2
    go_quiet (fail)
    go_wp2
    go_ret2
    exact ⟨rfl, below_drewN (((Below.refl _ _).alloc (Nat.le_refl _) _).alloc (by simp) _) _⟩

/-- A card covers a square. -/
def covB (s : Sh) (x : Cd) (row col : Int) : Bool := decide (x.row ≤ row ∧ row ≤ x.row + (hiS s x.t : Nat) - 1) && decide (x.col ≤ col ∧ col ≤ x.col + (wiS s x.t : Nat) - 1)
/-- A card's square is a small number. -/
def Near (x : Cd) : Prop := (0 ≤ x.row ∧ x.row ≤ 100) ∧ 0 ≤ x.col ∧ x.col ≤ 100

set_option maxRecDepth 100000 in
set_option maxHeartbeats 1000000 in
theorem covers_any (s : Sh) (x : Cd) (row col : Int) (w : World) (hs : s.Ok) (hx : Near x) :
    Calls Tryd.prog 123 #[.agg #[.int .i64 s.r, .int .i64 s.c, .int .i64 s.l, .int .i64 s.w], .agg #[.int .i64 x.row, .int .i64 x.col, .bool x.t], .int .i64 row, .int .i64 col] w fun e w' => e = .returned (.bool (covB s x row col)) ∧ Below w.heap.size w w' := by
  obtain ⟨⟨x1, x2⟩, x3, x4⟩ := hx
  have h3 := hiS_le hs x.t
  have h4 := wiS_le hs x.t
  unfold covB
  have HZ := fun (W1 W : World) (Q : Ending → World → Prop) (hb : Below W1.heap.size W1 W) (hQ : ∀ w', Below W1.heap.size W1 w' → Q (.returned (.tuple #[.int .i64 (hiS s x.t : Nat), .int .i64 (wiS s x.t : Nat)])) w') =>
    (rsize_any s x W).mono fun e w' ⟨he, hb'⟩ => he ▸ hQ w' (hb.trans (hb'.mono hb.size))
  generalize hiS s x.t = a at HZ h3 ⊢
  generalize wiS s x.t = b at HZ h4 ⊢
  obtain ⟨b1, h1⟩ : ∃ v, v = decide (x.row ≤ row ∧ row ≤ x.row + (a : Nat) - 1) := ⟨_, rfl⟩
  obtain ⟨b2, h2⟩ : ∃ v, v = decide (x.col ≤ col ∧ col ≤ x.col + (b : Nat) - 1) := ⟨_, rfl⟩
  rw [← h1, ← h2]
  obtain ⟨W1, hW1⟩ : ∃ W1, W1 = (w.alloc (.cells #[.int .i64 s.r, .int .i64 s.c, .int .i64 s.l, .int .i64 s.w] 24)).alloc (.cells #[.int .i64 x.row, .int .i64 x.col, .bool x.t] 99) := ⟨_, rfl⟩
  have HS := Lib.hid (HZ W1)
  have H1 := Lib.hid (is_q h1 W1)
  have H2 := Lib.hid (is_q h2 W1)
  have hbb := Below.refl W1.heap.size W1
  have HB := Lib.hid (show Below w.heap.size w W1 from hW1 ▸ ((Below.refl _ _).alloc (Nat.le_refl _) _).alloc (by simp) _)
  have hzz : w.heap.size + 2 = W1.heap.size := by rw [hW1]; simp
  have HK := Lib.hid (fun (W : World) (h : Below W1.heap.size W1 W) => show W.cell? ⟨w.heap.size + 1, 0, none⟩ = some (.int .i64 x.row) ∧ W.cell? ⟨w.heap.size + 1, 1, none⟩ = some (.int .i64 x.col) ∧ W.cell? ⟨w.heap.size + 1, 2, none⟩ = some (.bool x.t) from
    ⟨(h.cell (p := ⟨w.heap.size + 1, 0, none⟩) (by simp; omega)).trans (by rw [hW1]; simp [go_sem]), (h.cell (p := ⟨w.heap.size + 1, 1, none⟩) (by simp; omega)).trans (by rw [hW1]; simp [go_sem]), (h.cell (p := ⟨w.heap.size + 1, 2, none⟩) (by simp; omega)).trans (by rw [hW1]; simp [go_sem])⟩)
  have HZ2 := Lib.hid (show w.heap.size ≤ W1.heap.size by omega)
  clear HZ h1 h2 hzz
  subst hW1
  rcases b1 with _ | _
  · go_enter Tryd.func123, Tryd.ntmps123
    go_wp2_with (first
      | (go_at_call 84; with_reducible refine HS.out _ _ (by assumption) ?_; intro w1 hb1; obtain ⟨s0, s1, s2⟩ := HK.out _ hb1)
      | (go_at_call 67; with_reducible refine H1.out _ _ (by assumption) ?_; intro w2 hb2))
    go_ret
    exact ⟨rfl, HB.out.trans (hb2.mono HZ2.out)⟩
  · go_enter Tryd.func123, Tryd.ntmps123
    go_wp2_with (first
      | (go_at_call 84; with_reducible refine HS.out _ _ (by assumption) ?_; intro w1 hb1; obtain ⟨s0, s1, s2⟩ := HK.out _ hb1)
      | (go_at_call 67; with_reducible refine H1.out _ _ (by assumption) ?_; intro w2 hb2; obtain ⟨t0, t1, t2⟩ := HK.out _ hb2)
      | (go_at_call 67; with_reducible refine H2.out _ _ (by assumption) ?_; intro w3 hb3))
    go_ret
    exact ⟨by first | rfl | rw [Bool.true_and], HB.out.trans (hb3.mono HZ2.out)⟩
end Go.Proofs.YtlollcabnfncpaaDoor
