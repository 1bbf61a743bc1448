/-
  Walks of the small functions on sheets and cards.
-/
import Derived.Test.YtlollcabnfncpaaDoorBase
import Derived.Deep.QuietTactic
import Derived.BigQuiet
import Derived.RegionTactic
namespace Go.Proofs.YtlollcabnfncpaaDoor
open Go.RowKit

theorem mul_le_36 {a c : Int} (h0 : 0 ≤ a) (h1 : a ≤ 6) (h2 : 0 ≤ c) (h3 : c ≤ 6) : 0 ≤ a * c ∧ a * c ≤ 36 := by
  constructor
  · exact Int.mul_nonneg h0 h2
  · calc a * c ≤ 6 * c := Int.mul_le_mul_of_nonneg_right h1 h2
      _ ≤ 36 := by omega

set_option maxHeartbeats 400000 in
theorem number_any (s : Sh) (a b : Int) (w : World) (hc : s.c ≤ 6) (h0 : 0 ≤ a) (h1 : a ≤ 6) (h2 : 0 ≤ b) (h3 : b ≤ 6) :
    Calls Tryd.prog 81 #[.agg #[.int .i64 s.r, .int .i64 s.c, .int .i64 s.l, .int .i64 s.w], .int .i64 a, .int .i64 b] w fun e w' => e = .returned (.int .i64 (a * s.c + b)) ∧ Below w.heap.size w w' := by
  obtain ⟨m0, m1⟩ := mul_le_36 (c := (s.c : Int)) h0 h1 (by omega) (by omega)
  have e1 : IntKind.i64.wrap (a * (s.c : Int)) = a * (s.c : Int) := IntWalk.i64_in _ (by omega)
  go_enter Tryd.func81, Tryd.ntmps81
  go_wp2
  go_ret
  exact ⟨rfl, (Below.refl _ _).alloc (Nat.le_refl _) _⟩

set_option maxHeartbeats 400000 in
theorem size_any (s : Sh) (x : Cd) (w : World) :
    Calls Tryd.prog 122 #[.agg #[.int .i64 s.r, .int .i64 s.c, .int .i64 s.l, .int .i64 s.w], .agg #[.int .i64 x.row, .int .i64 x.col, .bool x.t]] w fun e w' => e = .returned (.tuple #[.int .i64 (hiS s x.t : Nat), .int .i64 (wiS s x.t : Nat)]) ∧ Below w.heap.size w w' := by
  obtain ⟨row, col, t⟩ := x
  rcases t with _ | _
  all_goals
    go_enter Tryd.func122, Tryd.ntmps122
    go_wp2
    go_quiet (fail)
    go_wp2
    go_ret2
    exact ⟨rfl, below_drewN (((Below.refl _ _).alloc (Nat.le_refl _) _).alloc (by simp) _) _⟩

set_option maxHeartbeats 400000 in
theorem square_any (s : Sh) (w : World) :
    Calls Tryd.prog 79 #[.agg #[.int .i64 s.r, .int .i64 s.c, .int .i64 s.l, .int .i64 s.w]] w fun e w' => e = .returned (.bool (decide (s.l = s.w))) ∧ Below w.heap.size w w' := by
  have e1 : ((s.l : Int) == (s.w : Int)) = decide (s.l = s.w) := by
    rw [Bool.eq_iff_iff, beq_iff_eq, decide_eq_true_eq]; omega
  go_enter Tryd.func79, Tryd.ntmps79
  go_wp2
  go_ret
  exact ⟨by first | rfl | exact ret_bool e1, (Below.refl _ _).alloc (Nat.le_refl _) _⟩

theorem shl64 (k : Nat) (h : k ≤ 36) : IntKind.u64.wrap ((2 : Int) ^ k) = ((2 ^ k : Nat) : Int) := by
  have := two36 h
  have e : ((2 : Int) ^ k) = ((2 ^ k : Nat) : Int) := by norm_cast
  rw [e, IntKind.wrap_u64]
  generalize 2 ^ k = n at this
  omega

theorem whl_val {s : Sh} (hs : s.Ok) : IntKind.u64.wrap (IntKind.u64.wrap ((2 : Int) ^ (s.r * s.c)) - 1) = (whl s : Nat) := by
  have h1 := (area_le hs).2
  have h2 := two36 h1
  have h3 := Nat.two_pow_pos (s.r * s.c)
  rw [shl64 _ h1, IntKind.wrap_u64]
  unfold whl
  generalize 2 ^ (s.r * s.c) = n at *
  omega

set_option maxHeartbeats 400000 in
theorem whole_any (s : Sh) (w : World) (hs : s.Ok) :
    Calls Tryd.prog 83 #[.agg #[.int .i64 s.r, .int .i64 s.c, .int .i64 s.l, .int .i64 s.w]] w fun e w' => e = .returned (.int .u64 (whl s : Nat)) ∧ Below w.heap.size w w' := by
  have h1 := hs.r6
  have h2 := hs.c6
  obtain ⟨h3, h4⟩ := area_le hs
  go_enter Tryd.func83, Tryd.ntmps83
  go_wp2_with (go_at_call 81; refine (number_any s s.r 0 _ (by omega) (by omega) (by omega) (by omega) (by omega)).mono ?_; rintro e w1 ⟨rfl, hb1⟩)
  go_ret
  exact ⟨ret_eq (whl_val hs), below_via hb1⟩

set_option maxHeartbeats 400000 in
theorem place_any (s : Sh) (x : Cd) (w : World) (hs : s.Ok) (hx : fitP s x) :
    Calls Tryd.prog 113 #[.agg #[.int .i64 s.r, .int .i64 s.c, .int .i64 s.l, .int .i64 s.w], .agg #[.int .i64 x.row, .int .i64 x.col, .bool x.t]] w fun e w' => e = .returned (.agg #[.int .i64 x.row, .int .i64 (x.row + (hiS s x.t : Nat)), .int .i64 x.col, .int .i64 (x.col + (wiS s x.t : Nat))]) ∧ Below w.heap.size w w' := by
  have h1 := hs.r6
  have h2 := hs.c6
  have h3 := hiS_le hs x.t
  have h4 := wiS_le hs x.t
  obtain ⟨h5, h6, h7, h8⟩ := hx
  have H := Lib.hid (fun W => size_any s x W)
  generalize hiS s x.t = a at H h3 h6 ⊢
  generalize wiS s x.t = b at H h4 h8 ⊢
  go_enter Tryd.func113, Tryd.ntmps113
  go_wp2_with (go_at_call 122; refine (H.out _).mono ?_; rintro e w1 ⟨rfl, hb1⟩; obtain ⟨q1, q2, q3⟩ := bcell hb1; simp only [World.size_alloc] at q1 q2 q3)
  refine bodyPost_ret (v := .agg #[.int .i64 x.row, .int .i64 (x.row + (a : Int)), .int .i64 x.col, .int .i64 (x.col + (b : Int))]) (by simp [results, Tryd.results113, go_sem, q1]) rfl ⟨rfl, ?_⟩
  exact ((((((((Below.refl _ _).alloc (Nat.le_refl _) _).alloc (by simp) _).alloc (by simp; omega) _).trans (hb1.mono (by simp; omega))).setCell (by simp; omega) _).setCell (by simp; omega) _).setCell (by simp; omega) _).setCell (by simp; omega) _

set_option maxHeartbeats 400000 in
theorem fits_any (s : Sh) (x : Cd) (w : World) (hs : s.Ok) :
    Calls Tryd.prog 80 #[.agg #[.int .i64 s.r, .int .i64 s.c, .int .i64 s.l, .int .i64 s.w], .agg #[.int .i64 x.row, .int .i64 x.col, .bool x.t]] w fun e w' => e = .returned (.bool (decide (fitP s x))) ∧ Below w.heap.size w w' := by
  have h1 := hs.r6
  have h2 := hs.c6
  have h3 := hiS_le hs x.t
  have h4 := wiS_le hs x.t
  have H := Lib.hid (fun W => size_any s x W)
  have E : decide (fitP s x) = true ↔ (0 ≤ x.row ∧ x.row ≤ (s.r : Int) - hiS s x.t ∧ 0 ≤ x.col ∧ x.col ≤ (s.c : Int) - wiS s x.t) := by rw [decide_eq_true_eq]; exact Iff.rfl
  have EF : ¬ (0 ≤ x.row ∧ x.row ≤ (s.r : Int) - hiS s x.t ∧ 0 ≤ x.col ∧ x.col ≤ (s.c : Int) - wiS s x.t) → decide (fitP s x) = false := fun h => by
    rcases hd : decide (fitP s x) with _ | _
    · rfl
    · exact absurd (E.1 hd) h
  replace E := E.2
  generalize decide (fitP s x) = v at E EF ⊢
  generalize hiS s x.t = a at H h3 E EF ⊢
  generalize wiS s x.t = b at H h4 E EF ⊢
  by_cases c1 : 0 ≤ x.row
  · by_cases c2 : x.row ≤ (s.r : Int) - a
    · by_cases c3 : 0 ≤ x.col
      · by_cases c4 : x.col ≤ (s.c : Int) - b
        · rw [E ⟨c1, c2, c3, c4⟩]
          clear E EF
          go_enter Tryd.func80, Tryd.ntmps80
          go_wp2_with (go_at_call 122; refine (H.out _).mono ?_; rintro e w1 ⟨rfl, hb1⟩; obtain ⟨q1, q2, q3⟩ := bcell hb1; simp only [World.size_alloc] at q1 q2 q3)
          go_ret
          exact ⟨by first | rfl | exact ret_bool (decide_eq_true (by omega)) | exact ret_bool (decide_eq_false (by omega)), (((Below.refl _ _).alloc (Nat.le_refl _) _).alloc (by simp) _).trans (hb1.mono (by simp; omega))⟩
        · rw [EF (fun h => c4 h.2.2.2)]
          clear E EF
          go_enter Tryd.func80, Tryd.ntmps80
          go_wp2_with (go_at_call 122; refine (H.out _).mono ?_; rintro e w1 ⟨rfl, hb1⟩; obtain ⟨q1, q2, q3⟩ := bcell hb1; simp only [World.size_alloc] at q1 q2 q3)
          go_ret
          exact ⟨by first | rfl | exact ret_bool (decide_eq_true (by omega)) | exact ret_bool (decide_eq_false (by omega)), (((Below.refl _ _).alloc (Nat.le_refl _) _).alloc (by simp) _).trans (hb1.mono (by simp; omega))⟩
      · rw [EF (fun h => c3 h.2.2.1)]
        clear E EF
        go_enter Tryd.func80, Tryd.ntmps80
        go_wp2_with (go_at_call 122; refine (H.out _).mono ?_; rintro e w1 ⟨rfl, hb1⟩; obtain ⟨q1, q2, q3⟩ := bcell hb1; simp only [World.size_alloc] at q1 q2 q3)
        go_ret
        exact ⟨by first | rfl | exact ret_bool (decide_eq_true (by omega)) | exact ret_bool (decide_eq_false (by omega)), (((Below.refl _ _).alloc (Nat.le_refl _) _).alloc (by simp) _).trans (hb1.mono (by simp; omega))⟩
    · rw [EF (fun h => c2 h.2.1)]
      clear E EF
      go_enter Tryd.func80, Tryd.ntmps80
      go_wp2_with (go_at_call 122; refine (H.out _).mono ?_; rintro e w1 ⟨rfl, hb1⟩; obtain ⟨q1, q2, q3⟩ := bcell hb1; simp only [World.size_alloc] at q1 q2 q3)
      go_ret
      exact ⟨by first | rfl | exact ret_bool (decide_eq_true (by omega)) | exact ret_bool (decide_eq_false (by omega)), (((Below.refl _ _).alloc (Nat.le_refl _) _).alloc (by simp) _).trans (hb1.mono (by simp; omega))⟩
  · rw [EF (fun h => c1 h.1)]
    clear E EF
    go_enter Tryd.func80, Tryd.ntmps80
    go_wp2_with (go_at_call 122; refine (H.out _).mono ?_; rintro e w1 ⟨rfl, hb1⟩; obtain ⟨q1, q2, q3⟩ := bcell hb1; simp only [World.size_alloc] at q1 q2 q3)
    go_ret
    exact ⟨by first | rfl | exact ret_bool (decide_eq_true (by omega)) | exact ret_bool (decide_eq_false (by omega)), (((Below.refl _ _).alloc (Nat.le_refl _) _).alloc (by simp) _).trans (hb1.mono (by simp; omega))⟩
end Go.Proofs.YtlollcabnfncpaaDoor
