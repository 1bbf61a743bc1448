/-
  Walks of the small functions on sets of rooms.
-/
import Derived.Test.YtcebihijnedekaaDoorMath
import Derived.Test.YtcebihijnedekaaDoorProg
import Derived.WalkKit
import Derived.WalkSpells
import Derived.WalkLawsBesides
import Derived.Laws.BitsAllLaws
import Derived.Laws.BitsLemmas
import Derived.Lib.Hide
namespace Go.Proofs.YtcebihijnedekaaDoor
open Go.RowKit

theorem ret_eq {k : IntKind} {a b : Int} (h : a = b) : Ending.returned (.int k a) = .returned (.int k b) := by rw [h]

/-- The bit of a room. -/
def bitI (rooms : Nat) (r : Int) : Int := ((2 ^ (rooms - 1 - r.toNat) : Nat) : Int)

theorem bit_val (rooms : Nat) (r : Int) (h0 : 0 ≤ r) (h1 : r < rooms) (h2 : rooms ≤ 6) : wrap64 (2 ^ ((rooms : Int) - 1 - r).toNat) = bitI rooms r := by
  have e : ((rooms : Int) - 1 - r).toNat = rooms - 1 - r.toNat := by omega
  have hk : rooms - 1 - r.toNat ≤ 5 := by omega
  unfold bitI
  rw [e]
  generalize rooms - 1 - r.toNat = k at hk
  match k, hk with
  | 0, _ | 1, _ | 2, _ | 3, _ | 4, _ | 5, _ => decide +kernel

set_option maxHeartbeats 400000 in
theorem bit_any (rooms : Nat) (r : Int) (w : World) (h0 : 0 ≤ r) (h1 : r < rooms) (h2 : rooms ≤ 6) :
    Calls Tryd.prog 88 #[.int .i64 rooms, .int .i64 r] w fun e w' => e = .returned (.int .i64 (bitI rooms r)) ∧ w = w' := by
  go_enter Tryd.func88, Tryd.ntmps88
  go_wp2
  go_ret
  exact ⟨ret_eq (bit_val rooms r h0 h1 h2), rfl⟩

theorem ofInt_i64 (a : Nat) (ha : a < 9223372036854775808) : (BitVec.ofInt 64 (a : Int)).toNat = a := by
  rw [BitVec.ofInt_natCast, BitVec.toNat_ofNat]; exact Nat.mod_eq_of_lt (by omega)
theorem i64_and_nat (a b : Nat) (ha : a < 9223372036854775808) (hb : b < 9223372036854775808) : bits .and .i64 (a : Int) (b : Int) = ((a &&& b : Nat) : Int) := by
  have hx : a &&& b < 2 ^ 63 := Nat.and_lt_two_pow _ (by omega)
  show IntKind.i64.wrap ((BitVec.ofInt 64 (a : Int) &&& BitVec.ofInt 64 (b : Int)).toNat : Int) = _
  rw [BitVec.toNat_and, ofInt_i64 a ha, ofInt_i64 b hb, IntKind.wrap_i64]
  omega

theorem and_two_pow_ne (s k : Nat) : (s &&& 2 ^ k ≠ 0) ↔ s.testBit k = true := by
  constructor
  · intro h
    rcases hb : s.testBit k with _ | _
    · refine absurd (Nat.eq_of_testBit_eq fun i => ?_) h
      rw [Nat.testBit_and, Nat.testBit_two_pow, Nat.zero_testBit]
      by_cases hi : k = i
      · subst hi; rw [hb]; rfl
      · simp [hi]
    · rfl
  · intro h he
    have : (s &&& 2 ^ k).testBit k = true := by rw [Nat.testBit_and, Nat.testBit_two_pow, h]; simp
    rw [he, Nat.zero_testBit] at this
    cases this

theorem bits_mem (rooms s : Nat) (r : Int) (h2 : rooms ≤ 6) (hs : s < 64) : (bits .and .i64 (s : Int) (bitI rooms r) != 0) = memP rooms s r := by
  have hp : 2 ^ (rooms - 1 - r.toNat) < 9223372036854775808 := Nat.lt_of_le_of_lt (Nat.pow_le_pow_right (by decide) (show rooms - 1 - r.toNat ≤ 6 by omega)) (by decide)
  unfold bitI
  rw [i64_and_nat _ _ (by omega) hp]
  have h := and_two_pow_ne s (rooms - 1 - r.toNat)
  unfold memP
  rw [Bool.eq_iff_iff, ← h]
  simp only [bne_iff_ne, ne_eq]
  omega

/-- How a way leads, seen from a set of rooms. -/
def sideV (m : Int → Bool) (x : Wy) : Int := if lv m x then 1 else if en m x then 2 else 0

set_option maxHeartbeats 400000 in
theorem sideOf_any (rooms s : Nat) (x : Wy) (w : World) (h2 : rooms ≤ 6) (hs : s < 64) (ha : 0 ≤ x.src) (hb : x.src < rooms) (hc : 0 ≤ x.dst) (hd : x.dst < rooms) :
    Calls Tryd.prog 90 #[.int .i64 rooms, .int .i64 s, .agg #[.int .i64 x.src, .int .i64 x.dst, .int .i64 x.lo, .int .i64 x.hi]] w fun e w' =>
      e = .returned (.int .i64 (sideV (memP rooms s) x)) ∧ Below w.heap.size w w' := by
  have p1 := bits_mem rooms s x.src h2 hs
  have q1 := bits_mem rooms s x.dst h2 hs
  rcases hm : memP rooms s x.src with _ | _ <;> rcases hn : memP rooms s x.dst with _ | _ <;> rw [hm] at p1 <;> rw [hn] at q1
  all_goals
    have HM := Lib.hid hm
    have HN := Lib.hid hn
    clear hm hn
    go_enter Tryd.func90, Tryd.ntmps90
    go_wp2_with (go_at_call 88; refine (bit_any _ _ _ (by assumption) (by assumption) (by assumption)).mono ?_; rintro e w' ⟨rfl, rfl⟩)
    go_ret
    exact ⟨ret_eq (by unfold sideV lv en; rw [HM.out, HN.out]; rfl), (Below.refl _ _).alloc (Nat.le_refl _) _⟩
end Go.Proofs.YtcebihijnedekaaDoor
