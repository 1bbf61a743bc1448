/-
  The statements' sheets by numbers; sides that are sums.
-/
import Derived.Test.YtlollcabnfncpaaDoorCardB
import Derived.Test.YtlollcabnfncpaaDoorWorks
import Derived.Test.YtlollcabnfncpaaDoorUtA
namespace Go.Proofs.YtlollcabnfncpaaDoor
open Go.RowKit

/-- The sheet of four numbers. -/
def bdS (x : Bd) : Sh :=
  ⟨if 30 < (1 + x.a.toNat % 6) * (1 + x.b.toNat % 6) then 5 else 1 + x.a.toNat % 6, 1 + x.b.toNat % 6, 1 + x.c.toNat % 6, 1 + x.d.toNat % 6⟩
theorem bdS_ok (x : Bd) : (bdS x).Ok := by
  unfold bdS
  refine ⟨?_, ?_, ?_, ?_, ?_, ?_, ?_, ?_⟩
  all_goals dsimp only
  all_goals first | omega | (split <;> omega)
theorem bdS_area (x : Bd) : (bdS x).r * (bdS x).c ≤ 30 := by
  have ha : x.a.toNat % 6 < 6 := Nat.mod_lt _ (by decide)
  have hb : x.b.toNat % 6 < 6 := Nat.mod_lt _ (by decide)
  unfold bdS
  dsimp only
  split
  · generalize x.b.toNat % 6 = b at *
    omega
  · omega

set_option maxRecDepth 100000 in
set_option maxHeartbeats 2000000 in
theorem bmade_any (x : Bd) (w : World) (hx : okB x) :
    Calls Tryd.prog 43 #[.agg #[.int .u8 x.a, .int .u8 x.b, .int .u8 x.c, .int .u8 x.d]] w fun e w' => e = .returned (.agg #[.int .i64 (bdS x).r, .int .i64 (bdS x).c, .int .i64 (bdS x).l, .int .i64 (bdS x).w]) ∧ Below w.heap.size w w' := by
  obtain ⟨a, b, c, d⟩ := x
  obtain ⟨⟨a1, a2⟩, ⟨b1, b2⟩, ⟨c1, c2⟩, d1, d2⟩ := hx
  dsimp only at *
  unfold bdS
  dsimp only
  obtain ⟨p, hp⟩ : ∃ p : Nat, a % 6 = p := ⟨(a % 6).toNat, by omega⟩
  obtain ⟨q, hq⟩ : ∃ q : Nat, b % 6 = q := ⟨(b % 6).toNat, by omega⟩
  obtain ⟨u, hu⟩ : ∃ u : Nat, c % 6 = u := ⟨(c % 6).toNat, by omega⟩
  obtain ⟨v, hv⟩ : ∃ v : Nat, d % 6 = v := ⟨(d % 6).toNat, by omega⟩
  rw [show a.toNat % 6 = p by omega, show b.toNat % 6 = q by omega, show c.toNat % 6 = u by omega, show d.toNat % 6 = v by omega]
  have hp5 : p ≤ 5 := by omega
  have hq5 : q ≤ 5 := by omega
  have hu5 : u ≤ 5 := by omega
  have hv5 : v ≤ 5 := by omega
  have hm : IntKind.i64.wrap ((1 + (p : Int)) * (1 + (q : Int))) = (((1 + p) * (1 + q) : Nat) : Int) := by
    have h36 : (1 + p) * (1 + q) ≤ 6 * 6 := Nat.mul_le_mul (by omega) (by omega)
    rw [show ((1 + (p : Int)) * (1 + (q : Int))) = (((1 + p) * (1 + q) : Nat) : Int) by simp [Int.natCast_mul, Int.natCast_add]]
    exact IntWalk.i64_in _ (by omega)
  by_cases h30 : 30 < (1 + p) * (1 + q)
  · rw [if_pos h30]
    generalize (1 + p) * (1 + q) = m at *
    have h30' : (30 : Int) < (m : Int) := by omega
    go_enter Tryd.func43, Tryd.ntmps43
    go_wp2_with (go_at_call 57; refine (sheet_any _ _ _ _ _).mono ?_; rintro e w1 ⟨rfl, hb1⟩; obtain ⟨q1, q2, q3⟩ := bcell hb1; simp only [World.size_alloc] at q1 q2 q3; have hbb := Lib.hid (((Below.refl w.heap.size w).alloc (Nat.le_refl _) (.cells #[.int .u8 a, .int .u8 b, .int .u8 c, .int .u8 d] 64)).alloc (by simp) (.cells #[.int .i64 0, .int .i64 0, .int .i64 0, .int .i64 0] 23)); have hB := Lib.hid (hbb.out.trans (hb1.mono (by simp; omega))); have hz1 : w.heap.size + 1 < w1.heap.size := (by omega); have k0 := (q1 (w.heap.size + 1) 0 (by omega)).trans (show _ = some (Value.int .i64 0) by simp [go_sem]); have f0 := (q2 (w.heap.size + 1) 0 (by omega)).trans (show _ = false by simp [go_sem]); have k1 := (q1 (w.heap.size + 1) 1 (by omega)).trans (show _ = some (Value.int .i64 0) by simp [go_sem]); have f1 := (q2 (w.heap.size + 1) 1 (by omega)).trans (show _ = false by simp [go_sem]); have k2 := (q1 (w.heap.size + 1) 2 (by omega)).trans (show _ = some (Value.int .i64 0) by simp [go_sem]); have f2 := (q2 (w.heap.size + 1) 2 (by omega)).trans (show _ = false by simp [go_sem]); have k3 := (q1 (w.heap.size + 1) 3 (by omega)).trans (show _ = some (Value.int .i64 0) by simp [go_sem]); have f3 := (q2 (w.heap.size + 1) 3 (by omega)).trans (show _ = false by simp [go_sem]); clear q1 q2 q3 hb1)
    refine bodyPost_ret (v := .agg #[.int .i64 5, .int .i64 (1 + (q : Int)), .int .i64 (1 + (u : Int)), .int .i64 (1 + (v : Int))]) (by simp [results, Tryd.results43, go_sem, k0, k1, k2, k3, hz1]) rfl ⟨?_, ?_⟩
    · simp
    · exact Below.alloc (Below.setCell (Below.setCell (Below.setCell (Below.setCell hB.out (by dsimp only; omega) _) (by dsimp only; omega) _) (by dsimp only; omega) _) (by dsimp only; omega) _) (by simp; omega) _
  · rw [if_neg h30]
    generalize (1 + p) * (1 + q) = m at *
    have h30' : ¬ (30 : Int) < (m : Int) := by omega
    go_enter Tryd.func43, Tryd.ntmps43
    go_wp2_with (go_at_call 57; refine (sheet_any _ _ _ _ _).mono ?_; rintro e w1 ⟨rfl, hb1⟩; obtain ⟨q1, q2, q3⟩ := bcell hb1; simp only [World.size_alloc] at q1 q2 q3; have hbb := Lib.hid (((Below.refl w.heap.size w).alloc (Nat.le_refl _) (.cells #[.int .u8 a, .int .u8 b, .int .u8 c, .int .u8 d] 64)).alloc (by simp) (.cells #[.int .i64 0, .int .i64 0, .int .i64 0, .int .i64 0] 23)); have hB := Lib.hid (hbb.out.trans (hb1.mono (by simp; omega))); have hz1 : w.heap.size + 1 < w1.heap.size := (by omega); have k0 := (q1 (w.heap.size + 1) 0 (by omega)).trans (show _ = some (Value.int .i64 0) by simp [go_sem]); have f0 := (q2 (w.heap.size + 1) 0 (by omega)).trans (show _ = false by simp [go_sem]); have k1 := (q1 (w.heap.size + 1) 1 (by omega)).trans (show _ = some (Value.int .i64 0) by simp [go_sem]); have f1 := (q2 (w.heap.size + 1) 1 (by omega)).trans (show _ = false by simp [go_sem]); have k2 := (q1 (w.heap.size + 1) 2 (by omega)).trans (show _ = some (Value.int .i64 0) by simp [go_sem]); have f2 := (q2 (w.heap.size + 1) 2 (by omega)).trans (show _ = false by simp [go_sem]); have k3 := (q1 (w.heap.size + 1) 3 (by omega)).trans (show _ = some (Value.int .i64 0) by simp [go_sem]); have f3 := (q2 (w.heap.size + 1) 3 (by omega)).trans (show _ = false by simp [go_sem]); clear q1 q2 q3 hb1)
    refine bodyPost_ret (v := .agg #[.int .i64 (1 + (p : Int)), .int .i64 (1 + (q : Int)), .int .i64 (1 + (u : Int)), .int .i64 (1 + (v : Int))]) (by simp [results, Tryd.results43, go_sem, k0, k1, k2, k3, hz1]) rfl ⟨?_, ?_⟩
    · simp
    · exact Below.alloc (Below.setCell (Below.setCell (Below.setCell (Below.setCell hB.out (by dsimp only; omega) _) (by dsimp only; omega) _) (by dsimp only; omega) _) (by dsimp only; omega) _) (by simp; omega) _

set_option maxRecDepth 100000 in
set_option maxHeartbeats 1000000 in
theorem lmade_any (side l v : Nat) (w : World) (hl1 : 1 ≤ l) (hl6 : l ≤ 6) (hv1 : 1 ≤ v) (hv6 : v ≤ 6) (h6 : side ≤ 6) :
    Calls Tryd.prog 48 #[.int .i64 side, .int .i64 l, .int .i64 v] w fun e w' => e = .returned (.bool (madeN side l v)) ∧ w' = w := by
  have hwz : ((v : Int) == 0) = false := by simp; omega
  have hwn : ¬ v = 0 := by omega
  generalize hV : madeN side l v = V
  have HV := Lib.hid hV
  clear hV
  go_enter Tryd.func48, Tryd.ntmps48
  go_wp2
  go_loopw [7] (fun u wr => ∃ n : Nat, n * l ≤ 12 ∧ u = .int .i64 ((n * l : Nat) : Int) ∧ Hid (∀ m, m < n → (side - m * l) % v ≠ 0) ∧ wr = w) (fun u _ => 13 - (intOf u).toNat)
  case atStart => exact ⟨0, by omega, by simp, Lib.hid (fun m hm => absurd hm (Nat.not_lt_zero _)), rfl⟩
  case round =>
    obtain ⟨n, hn, rfl, HM, rfl⟩ := hrel
    have hnx : (n + 1) * l = n * l + l := Nat.succ_mul n l
    have HNX := Lib.hid hnx
    by_cases hle : n * l ≤ side
    · have hmod : ((side : Int) - ((n * l : Nat) : Int)).tmod (v : Int) = (((side - n * l) % v : Nat) : Int) := by
        rw [show ((side : Int) - ((n * l : Nat) : Int)) = ((side - n * l : Nat) : Int) by omega]; rfl
      by_cases hz : (side - n * l) % v = 0
      · have HT := Lib.hid (HV.out.symm.trans (madeN_true hl1 hle hz))
        rw [hz] at hmod
        clear hz hnx
        generalize n * l = x at *
        have hw1 : IntKind.i64.wrap ((side : Int) - (x : Int)) = (side : Int) - (x : Int) := IntWalk.i64_in _ (by omega)
        have hle' : ((x : Int) ≤ (side : Int)) := by omega
        go_wp2
        go_ret
        exact ⟨ret_bool HT.out.symm, rfl⟩
      · have HM2 := Lib.hid (show ∀ m, m < n + 1 → (side - m * l) % v ≠ 0 from fun m hm => by
          by_cases e : m = n
          · rw [e]; exact hz
          · exact HM.out m (by omega))
        have hzb : ((((side - n * l) % v : Nat) : Int) == 0) = false := by simp; omega
        clear hz hnx
        generalize (side - n * l) % v = y at *
        generalize n * l = x at *
        have hw1 : IntKind.i64.wrap ((side : Int) - (x : Int)) = (side : Int) - (x : Int) := IntWalk.i64_in _ (by omega)
        have hle' : ((x : Int) ≤ (side : Int)) := by omega
        go_wp2
        go_roundw
        case rel => exact ⟨n + 1, by rw [HNX.out]; omega, by rw [HNX.out]; go_num, HM2, trivial⟩
        case measure => simp [intOf]; omega
    · have HT := Lib.hid (HV.out.symm.trans (madeN_false (by omega) HM.out))
      clear hnx
      generalize n * l = x at *
      have hle' : ¬ ((x : Int) ≤ (side : Int)) := by omega
      go_wp2
      go_ret
      exact ⟨ret_bool HT.out.symm, rfl⟩
end Go.Proofs.YtlollcabnfncpaaDoor
