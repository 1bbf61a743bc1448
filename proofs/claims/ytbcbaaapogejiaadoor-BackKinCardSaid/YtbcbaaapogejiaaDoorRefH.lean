/-
  The reference: which list comes first, and the first back that is alike.
-/
import Derived.Test.YtbcbaaapogejiaaDoorRefF
import Derived.Test.YtbcbaaapogejiaaDoorCelC
namespace Go.Proofs.YtbcbaaapogejiaaDoor
open Go.RowKit

theorem cmpL_eq {a : Int} {l m : List Int} : cmpL (a :: l) (a :: m) = cmpL l m := by simp [cmpL]
theorem cmpL_ne {a b : Int} (h : a ≠ b) {l m : List Int} : decide (cmpL (a :: l) (b :: m) < 0) = decide (a < b) := by
  unfold cmpL
  by_cases h1 : a < b
  · rw [if_pos h1, decide_eq_true h1]; rfl
  · rw [if_neg h1, if_pos (by omega), decide_eq_false h1]; rfl

set_option maxRecDepth 100000 in
theorem refBefore_any (A D : Option Addr) (c d : Nat) (l m : List Int) (w : World) (hl : l.length < 1000000) (hlm : m.length = l.length) (B : Nat) (hA : IntsAt w B A l) (hD : IntsAt w B D m) :
    Calls Tryd.prog 81 #[.slice A l.length c, .slice D l.length d] w fun e w' => e = .returned (.bool (decide (cmpL l m < 0))) ∧ ∃ q, w' = w.drewN q := by
  obtain ⟨V, hV⟩ : ∃ V, V = decide (cmpL l m < 0) := ⟨_, rfl⟩
  rw [← hV]
  have HV := Lib.hid hV
  have HLM := Lib.hid hlm
  have HA := Lib.hid hA
  have HD := Lib.hid hD
  clear hlm hA hD hV
  go_enter Tryd.func81, Tryd.ntmps81
  go_wp2
  go_loopw [5] (fun i wr => ∃ k : Nat, k ≤ l.length ∧ i = .int .i64 k ∧ Hid (cmpL l m = cmpL (l.drop k) (m.drop k)) ∧ ∃ q, wr = w.drewN q) (fun i _ => l.length - (intOf i).toNat)
  case atStart => exact ⟨0, Nat.zero_le _, rfl, Lib.hid rfl, 0, rfl⟩
  case round =>
    obtain ⟨k, hk, rfl, HK, q, rfl⟩ := hrel
    by_cases hlt : k < l.length
    · have hlt2 : k < m.length := by have := HLM.out; omega
      have hx : l[k]? = some l[k] := List.getElem?_eq_getElem hlt
      have hy : m[k]? = some m[k] := List.getElem?_eq_getElem hlt2
      have e1 := HK.out
      rw [drop_cons hx, drop_cons hy] at e1
      generalize l[k] = x at *
      generalize m[k] = y at *
      obtain ⟨b1, o1, rfl, hb1, g1⟩ := HA.out k x hx
      obtain ⟨b2, o2, rfl, hb2, k1⟩ := HD.out k y hy
      have hki : (k : Int) < (l.length : Int) := by omega
      have hk0 : (0 : Int) ≤ (k : Int) := by omega
      by_cases hxy : x = y
      · rw [hxy, cmpL_eq] at e1
        have HT := Lib.hid e1
        have hne : (x != y) = false := by simp [hxy]
        clear hx hy hxy hlt2 e1
        go_wp2
        go_quiet (fail)
        go_wp2
        go_roundw
        case rel => exact ⟨k + 1, by omega, by go_num, HT, _, by first | rfl | exact World.drewN_drewN _ _ _⟩
        case measure => simp [intOf]; omega
      · have HT := Lib.hid (show V = decide (x < y) by rw [HV.out, e1]; exact cmpL_ne hxy)
        have hne : (x != y) = true := by simp [hxy]
        clear hx hy hxy hlt2 e1
        go_wp2
        go_quiet (fail)
        go_wp2
        go_quiet (fail)
        go_wp2
        go_ret
        exact ⟨by rw [HT.out]; rfl, _, by first | rfl | exact World.drewN_drewN _ _ _ | (rw [World.drewN_drewN]; exact World.drewN_drewN _ _ _)⟩
    · have HE := Lib.hid (show V = false by
        have e1 := HK.out
        rw [List.drop_of_length_le (by omega), List.drop_of_length_le (by have := HLM.out; omega)] at e1
        rw [HV.out, e1]; rfl)
      have hki : ¬ (k : Int) < (l.length : Int) := by omega
      go_wp2
      go_ret
      exact ⟨by rw [HE.out]; rfl, q, rfl⟩
end Go.Proofs.YtbcbaaapogejiaaDoor
