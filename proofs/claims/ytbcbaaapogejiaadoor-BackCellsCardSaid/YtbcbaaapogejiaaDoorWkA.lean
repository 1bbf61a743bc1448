/-
  The statements' small functions: lists that are the same, the presses of the examples.
-/
import Derived.Test.YtbcbaaapogejiaaDoorLibB
namespace Go.Proofs.YtbcbaaapogejiaaDoor
open Go.RowKit

theorem list_any (A : Option Addr) (n c : Nat) (w : World) : Calls Tryd.prog 52 #[.slice A n c] w fun e w' => e = .returned (.slice A n c) ∧ w' = w := by
  go_enter Tryd.func52, Tryd.ntmps52
  go_wp2
  go_ret
  exact ⟨rfl, rfl⟩
theorem lists_any (A : Option Addr) (n c : Nat) (w : World) : Calls Tryd.prog 66 #[.slice A n c] w fun e w' => e = .returned (.slice A n c) ∧ w' = w := by
  go_enter Tryd.func66, Tryd.ntmps66
  go_wp2
  go_ret
  exact ⟨rfl, rfl⟩

theorem same_any (A D : Option Addr) (c d : Nat) (l m : List Int) (w : World) (hl : l.length < 1000000) (B : Nat) (hA : IntsAt w B A l) (hD : IntsAt w B D m) :
    Calls Tryd.prog 29 #[.slice A l.length c, .slice D m.length d] w fun e w' => e = .returned (.bool (decide (l = m))) ∧ ∃ q, w' = w.drewN q := by
  by_cases hlm : l.length = m.length
  rotate_left
  · rw [decide_eq_false (fun h => hlm (by rw [h]))]
    have hlm' : ((l.length : Int) != (m.length : Int)) = true := by simpa using (by omega : ¬ (l.length : Int) = m.length)
    clear hlm
    go_enter Tryd.func29, Tryd.ntmps29
    go_wp2
    go_ret
    exact ⟨rfl, 0, rfl⟩
  have hlm' : ((l.length : Int) != (m.length : Int)) = false := by simpa using (by omega : (l.length : Int) = m.length)
  have HLM := Lib.hid hlm
  have HA := Lib.hid hA
  have HD := Lib.hid hD
  clear hlm hA hD
  go_enter Tryd.func29, Tryd.ntmps29
  go_wp2
  clear hlm'
  go_loopw [5] (fun i wr => ∃ k : Nat, k ≤ l.length ∧ i = .int .i64 k ∧ Hid (l.take k = m.take k) ∧ ∃ q, wr = w.drewN q) (fun i _ => l.length - (intOf i).toNat)
  case atStart => exact ⟨0, Nat.zero_le _, rfl, Lib.hid rfl, 0, rfl⟩
  case round =>
    obtain ⟨k, hk, rfl, HK, q, rfl⟩ := hrel
    by_cases hlt : k < l.length
    · have hlt2 : k < m.length := by have := HLM.out; omega
      have hx : l[k]? = some l[k] := List.getElem?_eq_getElem hlt
      have hy : m[k]? = some m[k] := List.getElem?_eq_getElem hlt2
      have ht1 : l.take (k + 1) = l.take k ++ [l[k]] := List.take_succ_eq_append_getElem hlt
      have ht2 : m.take (k + 1) = m.take k ++ [m[k]] := List.take_succ_eq_append_getElem hlt2
      generalize l[k] = x at hx ht1
      generalize m[k] = y at hy ht2
      obtain ⟨b1, o1, rfl, hb1, g1⟩ := HA.out k x hx
      obtain ⟨b2, o2, rfl, hb2, k1⟩ := HD.out k y hy
      have hki : (k : Int) < (l.length : Int) := by omega
      have hkj : (k : Int) < (m.length : Int) := by omega
      have hk0 : (0 : Int) ≤ (k : Int) := by omega
      by_cases hxy : x = y
      · have HT := Lib.hid (show l.take (k + 1) = m.take (k + 1) by rw [ht1, ht2, HK.out, hxy])
        have hne : (x != y) = false := by simp [hxy]
        clear hx hy ht1 ht2 hxy
        go_wp2
        go_quiet (fail)
        go_wp2
        go_roundw
        case rel => exact ⟨k + 1, by omega, by go_num, HT, _, by first | rfl | exact World.drewN_drewN _ _ _⟩
        case measure => simp [intOf]; omega
      · have HT := Lib.hid (take_ne hx hy hxy)
        have hne : (x != y) = true := by simp [hxy]
        clear hx hy ht1 ht2 hxy
        go_wp2
        go_quiet (fail)
        go_wp2
        go_ret
        exact ⟨by rw [decide_eq_false HT.out]; rfl, _, by first | rfl | exact World.drewN_drewN _ _ _⟩
    · have e : l.take k = l := List.take_of_length_le (by omega)
      have e2 : m.take k = m := List.take_of_length_le (by have := HLM.out; omega)
      have HE := Lib.hid (show l = m by rw [← e, ← e2, HK.out])
      have hki : ¬ (k : Int) < (l.length : Int) := by omega
      clear e e2
      go_wp2
      go_ret
      exact ⟨by rw [decide_eq_true HE.out]; rfl, q, rfl⟩

/-- Two lists of lists that are equal. -/
theorem alikeL_yes (A D : Option Addr) (c d : Nat) (L : List (List Int)) (w : World) (hl : L.length < 1000) (hll : ∀ x ∈ L, x.length < 1000000) (B : Nat) (hA : ListsAt w B A L) (hD : ListsAt w B D L) :
    Calls Tryd.prog 34 #[.slice A L.length c, .slice D L.length d] w fun e w' => e = .returned (.bool true) ∧ ∃ q, w' = w.drewN q := by
  have HA := Lib.hid hA
  have HD := Lib.hid hD
  have HL := Lib.hid hll
  clear hA hD hll
  go_enter Tryd.func34, Tryd.ntmps34
  go_wp2
  go_loopw [5] (fun i wr => ∃ k : Nat, k ≤ L.length ∧ i = .int .i64 k ∧ ∃ q, wr = w.drewN q) (fun i _ => L.length - (intOf i).toNat)
  case atStart => exact ⟨0, Nat.zero_le _, rfl, 0, rfl⟩
  case round =>
    obtain ⟨k, hk, rfl, q, rfl⟩ := hrel
    by_cases hlt : k < L.length
    · have hx : L[k]? = some L[k] := List.getElem?_eq_getElem hlt
      have hxl := HL.out _ (mem_of_get hx)
      obtain ⟨b1, o1, E, e, rfl, hb1, g1, g2⟩ := HA.out k _ hx
      obtain ⟨b2, o2, G, g, rfl, hb2, k1, k2⟩ := HD.out k _ hx
      have HS := Lib.hid (fun W (h1 : IntsAt W B E L[k]) (h2 : IntsAt W B G L[k]) => same_any E G e g L[k] L[k] W hxl B h1 h2)
      rw [decide_eq_true rfl] at HS
      have HG := Lib.hid (fun n => show IntsAt (w.drewN n) B E L[k] ∧ IntsAt (w.drewN n) B G L[k] from ⟨g2, k2⟩)
      clear hx g2 k2
      generalize L[k] = l at *
      have hki : (k : Int) < (L.length : Int) := by omega
      have hk0 : (0 : Int) ≤ (k : Int) := by omega
      go_wp2_with fail
      go_quiet (first | (go_at_call 29; refine (HS.out _ (HG.out _).1 (HG.out _).2).mono ?_; rintro e w1 ⟨rfl, q1, rfl⟩; exact ⟨rfl, _, by rw [World.drewN_drewN, Nat.add_assoc]⟩))
      go_wp2
      go_roundw
      case rel => exact ⟨k + 1, by omega, by go_num, _, by first | rfl | exact World.drewN_drewN _ _ _⟩
      case measure => simp [intOf]; omega
    · have hki : ¬ (k : Int) < (L.length : Int) := by omega
      go_wp2
      go_ret
      exact ⟨rfl, q, rfl⟩

end Go.Proofs.YtbcbaaapogejiaaDoor
