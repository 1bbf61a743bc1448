/-
  The library's Index, Equal, Compare of lists of numbers.
-/
import Derived.Test.YtbcbaaapogejiaaDoorBase
import Derived.Deep.QuietTactic
import Derived.BigQuiet
import Derived.RegionTactic
import Derived.Deep.Cut
import Derived.Deep.DeepCutAuto
import Derived.Deep.RegionWith
import Derived.Deep.RegionHeld3
namespace Go.Proofs.YtbcbaaapogejiaaDoor
open Go.RowKit

theorem nan_any (n : Int) (w : World) : Calls Tryd.prog 162 #[.int .i64 n] w fun e w' => e = .returned (.bool false) ∧ w' = w := by
  go_enter Tryd.func162, Tryd.ntmps162
  go_wp2
  go_ret
  exact ⟨by simp, rfl⟩

def cmpI (a b : Int) : Int := if a < b then -1 else if b < a then 1 else 0
theorem cmp_any (a b : Int) (w : World) : Calls Tryd.prog 143 #[.int .i64 a, .int .i64 b] w fun e w' => e = .returned (.int .i64 (cmpI a b)) ∧ w' = w := by
  by_cases h1 : a < b
  · rw [show cmpI a b = -1 from if_pos h1]
    go_enter Tryd.func143, Tryd.ntmps143
    go_wp2_with (go_at_call 162; refine (nan_any _ _).mono ?_; rintro e w1 ⟨rfl, rfl⟩)
    go_ret
    exact ⟨rfl, rfl⟩
  · by_cases h2 : b < a
    · rw [show cmpI a b = 1 from (if_neg h1).trans (if_pos h2)]
      go_enter Tryd.func143, Tryd.ntmps143
      go_wp2_with (go_at_call 162; refine (nan_any _ _).mono ?_; rintro e w1 ⟨rfl, rfl⟩)
      go_ret
      exact ⟨rfl, rfl⟩
    · rw [show cmpI a b = 0 from (if_neg h1).trans (if_neg h2)]
      go_enter Tryd.func143, Tryd.ntmps143
      go_wp2_with (go_at_call 162; refine (nan_any _ _).mono ?_; rintro e w1 ⟨rfl, rfl⟩)
      go_ret
      exact ⟨rfl, rfl⟩

theorem cmpL_cons (a b : Int) (l m : List Int) : cmpL (a :: l) (b :: m) = if cmpI a b = 0 then cmpL l m else cmpI a b := by
  unfold cmpI
  rw [cmpL]
  by_cases h1 : a < b
  · rw [if_pos h1, if_pos h1, if_neg (by decide)]
  · by_cases h2 : b < a
    · rw [if_neg h1, if_pos h2, if_neg h1, if_pos h2, if_neg (by decide)]
    · rw [if_neg h1, if_neg h2, if_neg h1, if_neg h2, if_pos rfl]

set_option maxRecDepth 100000 in
set_option maxHeartbeats 4000000 in
theorem compare_any (A D : Option Addr) (c d : Nat) (l m : List Int) (w : World) (hl : l.length < 1000000) (B : Nat) (hA : IntsAt w B A l) (hD : IntsAt w B D m) :
    Calls Tryd.prog 124 #[.slice A l.length c, .slice D m.length d] w fun e w' => e = .returned (.int .i64 (cmpL l m)) ∧ w' = w := by
  have HA := Lib.hid hA
  have HD := Lib.hid hD
  clear hA hD
  go_enter Tryd.func124, Tryd.ntmps124
  go_wp2
  go_loopw [11] (fun i wr => ∃ k : Nat, k ≤ l.length ∧ k ≤ m.length ∧ i = .int .i64 k ∧ Hid (cmpL l m = cmpL (l.drop k) (m.drop k)) ∧ wr = w) (fun i _ => l.length - (intOf i).toNat)
  case atStart => exact ⟨0, Nat.zero_le _, Nat.zero_le _, rfl, Lib.hid rfl, rfl⟩
  case round =>
    obtain ⟨k, hk, hkm, rfl, HK, rfl⟩ := hrel
    by_cases hlt : k < l.length
    · have hx : l[k]? = some l[k] := List.getElem?_eq_getElem hlt
      obtain ⟨b1, o1, rfl, hb1, g1⟩ := HA.out k _ hx
      have hki : (k : Int) < (l.length : Int) := by omega
      have hk0 : (0 : Int) ≤ (k : Int) := by omega
      by_cases hlt2 : k < m.length
      · have hy : m[k]? = some m[k] := List.getElem?_eq_getElem hlt2
        obtain ⟨b2, o2, rfl, hb2, g2⟩ := HD.out k _ hy
        have hkj : (k : Int) < (m.length : Int) := by omega
        have hkj' : ¬ (m.length : Int) ≤ (k : Int) := by omega
        have e1 := HK.out
        rw [drop_cons hx, drop_cons hy, cmpL_cons] at e1
        have hc := Lib.hid (fun W => cmp_any l[k] m[k] W)
        clear hx hy
        generalize l[k] = x at *
        generalize m[k] = y at *
        by_cases hz : cmpI x y = 0
        · rw [if_pos hz] at e1
          rw [hz] at hc
          have HE := Lib.hid e1
          clear e1 hz
          go_wp2_with (go_at_call 143; refine (hc.out _).mono ?_; rintro e w1 ⟨rfl, rfl⟩)
          go_roundw
          case rel => exact ⟨k + 1, by omega, by omega, by go_num, HE, trivial⟩
          case measure => simp [intOf]; omega
        · rw [if_neg hz] at e1
          have HE := Lib.hid e1
          clear e1
          generalize cmpI x y = r at *
          have hz' : (r != 0) = true := by simpa using hz
          clear hz
          go_wp2_with (go_at_call 143; refine (hc.out _).mono ?_; rintro e w1 ⟨rfl, rfl⟩)
          go_ret
          exact ⟨by rw [HE.out]; rfl, rfl⟩
      · have e : m.drop k = [] := List.drop_of_length_le (by omega)
        have e1 := HK.out
        rw [e, drop_cons hx] at e1
        have HE := Lib.hid (show cmpL l m = 1 from e1)
        have hkj : (m.length : Int) ≤ (k : Int) := by omega
        clear e e1 hx
        go_wp2
        go_ret
        exact ⟨by rw [HE.out]; rfl, rfl⟩
    · have e : l.drop k = [] := List.drop_of_length_le (by omega)
      have e1 := HK.out
      rw [e] at e1
      by_cases hlt2 : l.length < m.length
      · have hy : m[k]? = some (m[k]'(by omega)) := List.getElem?_eq_getElem _
        rw [drop_cons hy] at e1
        have HE := Lib.hid (show cmpL l m = -1 from e1)
        clear e e1 hy
        go_wp2
        go_ret
        exact ⟨by rw [HE.out]; rfl, rfl⟩
      · have e2 : m.drop k = [] := List.drop_of_length_le (by omega)
        rw [e2] at e1
        have HE := Lib.hid (show cmpL l m = 0 from e1)
        clear e e1 e2
        go_wp2
        go_ret
        exact ⟨by rw [HE.out]; rfl, rfl⟩
end Go.Proofs.YtbcbaaapogejiaaDoor
