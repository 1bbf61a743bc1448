/-
  The library's Index, Equal of lists of numbers.
-/
import Derived.Test.YtbcbaaapogejiaaDoorBase
import Derived.Deep.QuietTactic
import Derived.BigQuiet
import Derived.RegionTactic
import Derived.Deep.Cut
import Derived.Deep.DeepCutAuto
import Derived.Deep.RegionWith
import Derived.Deep.RegionHeld3
namespace Go.Proofs.YtbcbaaapogejiaaDoor
open Go.RowKit

theorem take_ne {l m : List Int} {k : Nat} {x y : Int} (hx : l[k]? = some x) (hy : m[k]? = some y) (h : x ≠ y) : l ≠ m := fun e => by
  subst e
  rw [hx] at hy
  exact h (Option.some.inj hy)

set_option maxRecDepth 100000 in
set_option maxHeartbeats 4000000 in
theorem equal_any (A D : Option Addr) (c d : Nat) (l m : List Int) (w : World) (hl : l.length < 1000000) (B : Nat) (hA : IntsAt w B A l) (hD : IntsAt w B D m) :
    Calls Tryd.prog 95 #[.slice A l.length c, .slice D m.length d] w fun e w' => e = .returned (.bool (decide (l = m))) ∧ ∃ q, w' = w.drewN q := by
  by_cases hlm : l.length = m.length
  rotate_left
  · rw [decide_eq_false (fun h => hlm (by rw [h]))]
    have hlm' : ((l.length : Int) != (m.length : Int)) = true := by simpa using (by omega : ¬ (l.length : Int) = m.length)
    clear hlm
    go_enter Tryd.func95, Tryd.ntmps95
    go_wp2
    go_ret
    exact ⟨rfl, 0, rfl⟩
  have hlm' : ((l.length : Int) != (m.length : Int)) = false := by simpa using (by omega : (l.length : Int) = m.length)
  have HLM := Lib.hid hlm
  have HA := Lib.hid hA
  have HD := Lib.hid hD
  clear hlm hA hD
  go_enter Tryd.func95, Tryd.ntmps95
  go_wp2
  clear hlm'
  go_loopw [13] (fun i wr => ∃ k : Nat, k ≤ l.length ∧ i = .int .i64 k ∧ Hid (l.take k = m.take k) ∧ ∃ q, wr = w.drewN q) (fun i _ => l.length - (intOf i).toNat)
  case atStart => exact ⟨0, Nat.zero_le _, rfl, Lib.hid rfl, 0, rfl⟩
  case round =>
    obtain ⟨k, hk, rfl, HK, q, rfl⟩ := hrel
    by_cases hlt : k < l.length
    · have hlt2 : k < m.length := by have := HLM.out; omega
      have hx : l[k]? = some l[k] := List.getElem?_eq_getElem hlt
      have hy : m[k]? = some m[k] := List.getElem?_eq_getElem hlt2
      have ht1 : l.take (k + 1) = l.take k ++ [l[k]] := List.take_succ_eq_append_getElem hlt
      have ht2 : m.take (k + 1) = m.take k ++ [m[k]] := List.take_succ_eq_append_getElem hlt2
      generalize l[k] = x at hx ht1
      generalize m[k] = y at hy ht2
      obtain ⟨b1, o1, rfl, hb1, g1⟩ := HA.out k x hx
      obtain ⟨b2, o2, rfl, hb2, k1⟩ := HD.out k y hy
      have hki : (k : Int) < (l.length : Int) := by omega
      have hkj : (k : Int) < (m.length : Int) := by omega
      have hk0 : (0 : Int) ≤ (k : Int) := by omega
      by_cases hxy : x = y
      · have HT := Lib.hid (show l.take (k + 1) = m.take (k + 1) by rw [ht1, ht2, HK.out, hxy])
        have hne : (x != y) = false := by simp [hxy]
        clear hx hy ht1 ht2 hxy
        go_wp2
        go_quiet (fail)
        go_wp2
        go_roundw
        case rel => exact ⟨k + 1, by omega, by go_num, HT, _, by first | rfl | exact World.drewN_drewN _ _ _⟩
        case measure => simp [intOf]; omega
      · have HT := Lib.hid (take_ne hx hy hxy)
        have hne : (x != y) = true := by simp [hxy]
        clear hx hy ht1 ht2 hxy
        go_wp2
        go_quiet (fail)
        go_wp2
        go_ret
        exact ⟨by rw [decide_eq_false HT.out]; rfl, _, by first | rfl | exact World.drewN_drewN _ _ _⟩
    · have e : l.take k = l := List.take_of_length_le (by omega)
      have e2 : m.take k = m := List.take_of_length_le (by have := HLM.out; omega)
      have HE := Lib.hid (show l = m by rw [← e, ← e2, HK.out])
      clear e e2
      go_wp2
      go_ret
      exact ⟨by rw [decide_eq_true HE.out]; rfl, q, rfl⟩

set_option maxRecDepth 100000 in
set_option maxHeartbeats 1000000 in
theorem index_in (A : Option Addr) (c : Nat) (L : List Int) (y : Int) (k : Nat) (w : World) (B : Nat) (hA : IntsAt w B A L) (hn : L.length < 1000000) (hk : L[k]? = some y) (hf : ∀ j, j < k → L[j]? ≠ some y) :
    Calls Tryd.prog 75 #[.slice A L.length c, .int .i64 y] w fun e w' => e = .returned (.int .i64 k) ∧ w' = w := by
  have hkl := lt_of_get hk
  have HA := Lib.hid hA
  have HKK := Lib.hid hk
  have HF := Lib.hid hf
  clear hA hk hf
  go_enter Tryd.func75, Tryd.ntmps75
  go_wp2
  go_loopw [8] (fun i wr => ∃ j : Nat, j ≤ k ∧ i = .int .i64 j ∧ wr = w) (fun i _ => L.length - (intOf i).toNat)
  case atStart => exact ⟨0, Nat.zero_le _, rfl, rfl⟩
  case round =>
    obtain ⟨j, hj, rfl, rfl⟩ := hrel
    have hjl : j < L.length := by omega
    have hx : L[j]? = some L[j] := List.getElem?_eq_getElem hjl
    generalize L[j] = x at hx
    obtain ⟨b, off, rfl, hb, d⟩ := HA.out j x hx
    have hki : (j : Int) < (L.length : Int) := by omega
    have hk0 : (0 : Int) ≤ (j : Int) := by omega
    by_cases hxy : y = x
    · have hq : (y == x) = true := beq_iff_eq.2 hxy
      have hjk : j = k := by
        rcases Nat.lt_or_ge j k with h | h
        · exact absurd (hxy ▸ hx) (HF.out j h)
        · omega
      subst hjk
      clear hx hxy
      go_wp2
      go_ret
      exact ⟨rfl, rfl⟩
    · have hq : (y == x) = false := beq_eq_false_iff_ne.2 hxy
      have hjk : j < k := by
        rcases Nat.lt_or_ge j k with h | h
        · exact h
        · have e : j = k := by omega
          subst e
          rw [HKK.out] at hx
          exact absurd (Option.some.inj hx) hxy
      clear hx hxy
      go_wp2
      go_roundw
      case rel => exact ⟨j + 1, by omega, by go_num, trivial⟩
      case measure => simp [intOf]; omega

set_option maxRecDepth 100000 in
set_option maxHeartbeats 1000000 in
theorem index_out (A : Option Addr) (c : Nat) (L : List Int) (y : Int) (w : World) (B : Nat) (hA : IntsAt w B A L) (hn : L.length < 1000000) (hy : y ∉ L) :
    Calls Tryd.prog 75 #[.slice A L.length c, .int .i64 y] w fun e w' => e = .returned (.int .i64 (-1)) ∧ w' = w := by
  have HA := Lib.hid hA
  have HF := Lib.hid hy
  clear hA hy
  go_enter Tryd.func75, Tryd.ntmps75
  go_wp2
  go_loopw [8] (fun i wr => ∃ j : Nat, j ≤ L.length ∧ i = .int .i64 j ∧ wr = w) (fun i _ => L.length - (intOf i).toNat)
  case atStart => exact ⟨0, Nat.zero_le _, rfl, rfl⟩
  case round =>
    obtain ⟨j, hj, rfl, rfl⟩ := hrel
    by_cases hjl : j < L.length
    · have hx : L[j]? = some L[j] := List.getElem?_eq_getElem hjl
      generalize L[j] = x at hx
      obtain ⟨b, off, rfl, hb, d⟩ := HA.out j x hx
      have hki : (j : Int) < (L.length : Int) := by omega
      have hk0 : (0 : Int) ≤ (j : Int) := by omega
      have hq : (y == x) = false := beq_eq_false_iff_ne.2 fun e => HF.out (e ▸ mem_of_get hx)
      clear hx
      go_wp2
      go_roundw
      case rel => exact ⟨j + 1, by omega, by go_num, trivial⟩
      case measure => simp [intOf]; omega
    · have e : j = L.length := by omega
      have hki : ¬ (j : Int) < (L.length : Int) := by omega
      clear e
      go_wp2
      go_ret
      exact ⟨rfl, rfl⟩
end Go.Proofs.YtbcbaaapogejiaaDoor
