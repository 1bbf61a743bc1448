/-
  Powers, binomials.
-/
import Derived.Test.YtbcbaaapogejiaaDoorMathB
import Derived.Test.YtbcbaaapogejiaaDoorPlaA
namespace Go.Proofs.YtbcbaaapogejiaaDoor
open Go.RowKit

theorem pow_le {K : Nat} (hK : K ≤ 4) {k : Nat} (hk : k ≤ 16) : K ^ k ≤ 4294967296 :=
  Nat.le_trans (Nat.pow_le_pow_left hK k) (Nat.le_trans (Nat.pow_le_pow_right (by omega) hk) (by decide))

set_option maxHeartbeats 4000000 in
theorem power_any (K n : Nat) (w : World) (hK : K ≤ 4) (hn : n ≤ 16) : Calls Tryd.prog 93 #[.int .i64 K, .int .i64 n] w fun e w' => e = .returned (.int .i64 (K ^ n : Nat)) ∧ w' = w := by
  obtain ⟨P, hP⟩ : ∃ P, P = K ^ n := ⟨_, rfl⟩
  rw [← hP]
  have HQ := Lib.hid hP
  clear hP
  go_enter Tryd.func93, Tryd.ntmps93
  go_wp2
  go_loopw [5, 7] (fun v i wr => ∃ k p : Nat, k ≤ n ∧ i = .int .i64 k ∧ v = .int .i64 p ∧ Hid (p = K ^ k) ∧ wr = w) (fun _ i _ => n - (intOf i).toNat)
  case atStart => exact ⟨0, 1, Nat.zero_le _, rfl, rfl, Lib.hid rfl, rfl⟩
  case round =>
    obtain ⟨k, p, hk, rfl, rfl, HP, rfl⟩ := hrel
    by_cases hlt : k < n
    · have hki : (k : Int) < (n : Int) := by omega
      have h1 : p * K = K ^ (k + 1) := by rw [HP.out, Nat.pow_succ]
      have h2 := pow_le hK (show k + 1 ≤ 16 by omega)
      rw [← h1] at h2
      have e1 : IntKind.i64.wrap ((p : Int) * (K : Int)) = ((p * K : Nat) : Int) := by
        rw [IntWalk.i64_in _ (by have : ((p * K : Nat) : Int) = (p : Int) * K := by simp
                                 omega)]
        simp
      have HN := Lib.hid h1
      clear h1 h2
      go_wp2
      go_roundw
      case rel => exact ⟨k + 1, p * K, by omega, by go_num, rfl, HN, trivial⟩
      case measure => simp [intOf]; omega
    · have e : k = n := by omega
      subst e
      have hki : ¬ (k : Int) < (k : Int) := by omega
      go_wp2
      go_ret
      exact ⟨by rw [HQ.out, ← HP.out]; rfl, rfl⟩

set_option maxHeartbeats 4000000 in
theorem choose_any (m n : Nat) (w : World) (hm : m ≤ 16) (hn : n ≤ m) : Calls Tryd.prog 126 #[.int .i64 m, .int .i64 n] w fun e w' => e = .returned (.int .i64 (ch m n : Nat)) ∧ w' = w := by
  go_enter Tryd.func126, Tryd.ntmps126
  go_wp2
  go_loopw [5, 8] (fun v i wr => ∃ k p : Nat, k ≤ n ∧ i = .int .i64 k ∧ v = .int .i64 p ∧ Hid (p = chP m k) ∧ wr = w) (fun _ i _ => n - (intOf i).toNat)
  case atStart => exact ⟨0, 1, Nat.zero_le _, rfl, rfl, Lib.hid rfl, rfl⟩
  case round =>
    obtain ⟨k, p, hk, rfl, rfl, HP, rfl⟩ := hrel
    by_cases hlt : k < n
    · have hki : (k : Int) < (n : Int) := by omega
      have hp := (chP_eq m (by omega) k (by omega)).2
      rw [← HP.out] at hp
      have hpl : p ≤ 1000000 := by
        rcases Nat.eq_zero_or_pos m with h | h
        · omega
        · have : p * 1 ≤ p * m := Nat.mul_le_mul_left p h
          omega
      have hpk : p * (m - k) < 1000000 := Nat.lt_of_le_of_lt (Nat.mul_le_mul_left p (Nat.sub_le _ _)) hp
      have ec : ((p * (m - k) : Nat) : Int) = (p : Int) * ((m : Int) - (k : Int)) := by
        rw [Int.natCast_mul, Int.natCast_sub (by omega)]
      have e0 : IntKind.i64.wrap ((m : Int) - (k : Int)) = (m : Int) - k := IntWalk.i64_in _ (by omega)
      have e1 : IntKind.i64.wrap ((p : Int) * ((m : Int) - (k : Int))) = ((p * (m - k) : Nat) : Int) := by
        rw [← ec, IntWalk.i64_in _ (by omega)]
      have e2 : IntKind.i64.wrap ((k : Int) + 1) = ((k + 1 : Nat) : Int) := IntWalk.i64_in _ (by omega)
      have e3 : Int.tdiv ((p * (m - k) : Nat) : Int) ((k + 1 : Nat) : Int) = ((p * (m - k) / (k + 1) : Nat) : Int) := rfl
      have hq : p * (m - k) / (k + 1) < 1000000 := Nat.lt_of_le_of_lt (Nat.div_le_self _ _) hpk
      have HN := Lib.hid (show p * (m - k) / (k + 1) = chP m (k + 1) by rw [HP.out]; rfl)
      have HE := Lib.hid (show (p : Int) * ((m : Int) - k) / ((k : Int) + 1) = ((p * (m - k) / (k + 1) : Nat) : Int) by rw [← ec]; rfl)
      go_wp2
      go_roundw
      case rel => exact ⟨k + 1, p * (m - k) / (k + 1), by omega, by go_num, congrArg (Value.int .i64) HE.out, HN, trivial⟩
      case measure => simp [intOf]; omega
    · have e : k = n := by omega
      subst e
      have hki : ¬ (k : Int) < (k : Int) := by omega
      have HE := Lib.hid ((chP_eq m (by omega) k (by omega)).1)
      go_wp2
      go_ret
      exact ⟨by rw [← HE.out, ← HP.out]; rfl, rfl⟩
end Go.Proofs.YtbcbaaapogejiaaDoor
