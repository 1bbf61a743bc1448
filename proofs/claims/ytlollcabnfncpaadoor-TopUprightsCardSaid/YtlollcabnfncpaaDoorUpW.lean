/-
  The examples of TopUprights; a list of numbers against itself.
-/
import Derived.Test.YtlollcabnfncpaaDoorStpM
import Derived.Test.YtlollcabnfncpaaDoorWorks
import Derived.BigQuiet
namespace Go.Proofs.YtlollcabnfncpaaDoor
open Go.RowKit

set_option maxRecDepth 100000 in
set_option maxHeartbeats 4000000 in
theorem same99 (A D : Option Addr) (c d : Nat) (l : List Int) (w : World) (hl : l.length < 1000000) (hA : IntsAt w w.heap.size A l) (hD : IntsAt w w.heap.size D l) :
    Calls Tryd.prog 99 #[.slice A l.length c, .slice D l.length d] w fun e w' => e = .returned (.bool true) ∧ Below w.heap.size w w' := by
  go_enter Tryd.func99, Tryd.ntmps99
  go_wp2
  go_loopw [13] (fun i wr => ∃ k : Nat, k ≤ l.length ∧ i = .int .i64 k ∧ Below w.heap.size w wr) (fun i _ => l.length - (intOf i).toNat)
  case atStart => exact ⟨0, Nat.zero_le _, rfl, Below.refl _ _⟩
  case round =>
    obtain ⟨k, hk, rfl, hbw⟩ := hrel
    by_cases hlt : k < l.length
    · have hx : l[k]? = some l[k] := List.getElem?_eq_getElem hlt
      generalize l[k] = x at hx
      obtain ⟨b1, o1, rfl, hb1, g1⟩ := (hA.below hbw (Nat.le_refl _)) k x hx
      obtain ⟨b2, o2, rfl, hb2, g2⟩ := (hD.below hbw (Nat.le_refl _)) k x hx
      have hki : (k : Int) < (l.length : Int) := by omega
      have hk0 : (0 : Int) ≤ (k : Int) := by omega
      clear hx
      go_wp2
      go_quiet (fail)
      go_wp2
      go_roundw
      case rel => exact ⟨k + 1, by omega, by go_num, below_drewN hbw _⟩
      case measure => simp [intOf]; omega
    · go_wp2
      go_ret
      exact ⟨rfl, hbw⟩
theorem list63 (A : Option Addr) (n c : Nat) (w : World) : Calls Tryd.prog 63 #[.slice A n c] w fun e w' => e = .returned (.slice A n c) ∧ w' = w := by
  go_enter Tryd.func63, Tryd.ntmps63
  go_wp2
  go_ret
  exact ⟨rfl, rfl⟩

/-- Three ways that were just built. -/
theorem ways_new (W : World) (x y z : Stp.Wy) : Stp.WaysAt (W.alloc (.cells #[.int .i64 x.src, .int .i64 x.dst, .int .i64 x.lo, .int .i64 x.hi, .int .i64 y.src, .int .i64 y.dst, .int .i64 y.lo, .int .i64 y.hi, .int .i64 z.src, .int .i64 z.dst, .int .i64 z.lo, .int .i64 z.hi] 85)) (W.alloc (.cells #[.int .i64 x.src, .int .i64 x.dst, .int .i64 x.lo, .int .i64 x.hi, .int .i64 y.src, .int .i64 y.dst, .int .i64 y.lo, .int .i64 y.hi, .int .i64 z.src, .int .i64 z.dst, .int .i64 z.lo, .int .i64 z.hi] 85)).heap.size (some ⟨W.heap.size, 0, none⟩) [x, y, z] := by
  intro k p hp
  match k, hp with
  | 0, hp => obtain rfl := Option.some.inj hp; exact ⟨_, _, rfl, by simp, by simp [go_sem], by simp [go_sem], by simp [go_sem], by simp [go_sem]⟩
  | 1, hp => obtain rfl := Option.some.inj hp; exact ⟨_, _, rfl, by simp, by simp [go_sem], by simp [go_sem], by simp [go_sem], by simp [go_sem]⟩
  | 2, hp => obtain rfl := Option.some.inj hp; exact ⟨_, _, rfl, by simp, by simp [go_sem], by simp [go_sem], by simp [go_sem], by simp [go_sem]⟩
theorem ints3_new (W : World) (x y z : Int) : IntsAt (W.alloc (.cells #[.int .i64 x, .int .i64 y, .int .i64 z] 3)) (W.alloc (.cells #[.int .i64 x, .int .i64 y, .int .i64 z] 3)).heap.size (some ⟨W.heap.size, 0, none⟩) [x, y, z] := by
  intro k p hp
  match k, hp with
  | 0, hp => obtain rfl := Option.some.inj hp; exact ⟨_, _, rfl, by simp, by simp [go_sem]⟩
  | 1, hp => obtain rfl := Option.some.inj hp; exact ⟨_, _, rfl, by simp, by simp [go_sem]⟩
  | 2, hp => obtain rfl := Option.some.inj hp; exact ⟨_, _, rfl, by simp, by simp [go_sem]⟩

set_option maxRecDepth 100000 in
set_option maxHeartbeats 4000000 in
theorem upworks_any (w : World) (ht : TabW w) (hz : Stp.SizesAt w) : Calls Tryd.prog 60 #[] w fun e w' => e = .returned (.bool true) ∧ Below w.heap.size w w' := by
  have HC := Lib.hid (w_cnt w ht)
  have HF := Lib.hid (fun (A : Option Addr) (c : Nat) (W : World) (hw : Stp.WaysAt W W.heap.size A Stp.wsW) (hz : Stp.SizesAt W) => show Calls Tryd.prog 98 #[.agg #[.int .i64 3, .slice A 3 c]] W (fun e w' => ∃ A c, e = .returned (.tuple #[.slice A 3 c, .int .i64 0]) ∧ IntsAt w' w'.heap.size A [5, 5, 5] ∧ Below W.heap.size W w') from by
    have h := Stp.first20_any 3 A c Stp.wsW W hw hz
    rw [Stp.frs_w] at h
    exact h)
  have HS := Lib.hid (fun (A D : Option Addr) (c d : Nat) (W : World) (h1 : IntsAt W W.heap.size A [5, 5, 5]) (h2 : IntsAt W W.heap.size D [5, 5, 5]) => show Calls Tryd.prog 99 #[.slice A 3 c, .slice D 3 d] W (fun e w' => e = .returned (.bool true) ∧ Below W.heap.size W w') from same99 A D c d [5, 5, 5] W (by decide) h1 h2)
  have HZ := Lib.hid (fun W (h : Below w.heap.size w W) => hz.below h)
  clear ht hz
  go_enter Tryd.func60, Tryd.ntmps60
  go_wp2_with (first
    | (go_at_call 23; refine HC.out.mono ?_; rintro e w1 ⟨rfl, hb1⟩)
    | (go_at_call 98; refine (HF.out _ _ _ (ways_new w1 ⟨0, 1, 5, 9⟩ ⟨1, 2, 0, 7⟩ ⟨2, 0, 4, 6⟩) (HZ.out _ (hb1.alloc hb1.size _))).mono ?_; rintro e w2 ⟨A2, c2, rfl, hI2, hb2⟩)
    | (go_at_call 63; refine (list63 _ _ _ _).mono ?_; rintro e w3 ⟨rfl, hw3⟩; replace hw3 := hw3.symm; subst hw3)
    | (go_at_call 99; refine (HS.out _ _ _ _ _ (hI2.up (below_new w2 _)) (ints3_new w2 5 5 5)).mono ?_; rintro e w4 ⟨rfl, hb4⟩))
  go_ret
  exact ⟨rfl, (hb1.trans ((below_via hb2).mono hb1.size)).trans ((below_via hb4).mono (Nat.le_trans hb1.size (below_via hb2).size))⟩
end Go.Proofs.YtlollcabnfncpaaDoor
