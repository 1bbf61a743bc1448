/-
  The walks of lists compared, and of Verify.
-/
import Derived.Test.YtcebihijnedekaaDoorWalkD
import Derived.Test.YtcebihijnedekaaDoorWalkI
import Derived.Deep.QuietTactic
import Derived.BigQuiet
import Derived.BigRegion
namespace Go.Proofs.YtcebihijnedekaaDoor
open Go.RowKit

theorem below_drewN' {B : Nat} {a w : World} (h : Below B a w) (n : Nat) : Below B a (w.drewN n) := ⟨h.os, h.tape, h.output, h.size, h.block⟩

theorem take_ne {α : Type} {a b : List α} {k : Nat} {x y : α} (h1 : a[k]? = some x) (h2 : b[k]? = some y) (hn : x ≠ y) : a ≠ b := by
  rintro rfl; rw [h1] at h2; exact hn (Option.some.inj h2)

set_option maxHeartbeats 1000000 in
theorem equal_any (A D : Option Addr) (c d : Nat) (l m : List Int) (w : World) (hl : l.length ≤ 1000) (hA : IntsAt w w.heap.size A l) (hD : IntsAt w w.heap.size D m) :
    Calls Tryd.prog 63 #[.slice A l.length c, .slice D m.length d] w fun e w' => e = .returned (.bool (decide (l = m))) ∧ Below w.heap.size w w' := by
  by_cases hlm : l.length = m.length
  rotate_left
  · rw [decide_eq_false (fun h => hlm (by rw [h]))]
    have hlm' : ((l.length : Int) != (m.length : Int)) = true := by simpa using (by omega : ¬ (l.length : Int) = m.length)
    clear hlm
    go_enter Tryd.func63, Tryd.ntmps63
    go_wp2
    go_ret
    exact ⟨rfl, Below.refl _ _⟩
  have hlm' : ((l.length : Int) != (m.length : Int)) = false := by simpa using (by omega : (l.length : Int) = m.length)
  have HLM := Lib.hid hlm
  clear hlm
  go_enter Tryd.func63, Tryd.ntmps63
  go_wp2
  clear hlm'
  go_loopw [13] (fun i wr => ∃ k : Nat, k ≤ l.length ∧ i = .int .i64 k ∧ Hid (l.take k = m.take k) ∧ Below w.heap.size w wr) (fun i _ => l.length - (intOf i).toNat)
  case atStart => exact ⟨0, Nat.zero_le _, rfl, Lib.hid rfl, Below.refl _ _⟩
  case round =>
    obtain ⟨k, hk, rfl, HK, hbw⟩ := hrel
    by_cases hlt : k < l.length
    · have hlt2 : k < m.length := by have := HLM.out; omega
      have hx : l[k]? = some l[k] := List.getElem?_eq_getElem hlt
      have hy : m[k]? = some m[k] := List.getElem?_eq_getElem hlt2
      have ht1 : l.take (k + 1) = l.take k ++ [l[k]] := List.take_succ_eq_append_getElem hlt
      have ht2 : m.take (k + 1) = m.take k ++ [m[k]] := List.take_succ_eq_append_getElem hlt2
      generalize l[k] = x at hx ht1
      generalize m[k] = y at hy ht2
      obtain ⟨b1, o1, rfl, hb1, h1⟩ := (hA.below hbw (Nat.le_refl _)) k x hx
      obtain ⟨b2, o2, rfl, hb2, h2⟩ := (hD.below hbw (Nat.le_refl _)) k y hy
      have hki : (k : Int) < (l.length : Int) := by omega
      have hkj : (k : Int) < (m.length : Int) := by omega
      have hk0 : (0 : Int) ≤ (k : Int) := by omega
      by_cases hxy : x = y
      · have HT := Lib.hid (show l.take (k + 1) = m.take (k + 1) by rw [ht1, ht2, HK.out, hxy])
        have hne : (x != y) = false := by simpa using hxy
        clear hx hy ht1 ht2 hxy
        go_wp2
        go_quiet (fail)
        go_wp2
        go_roundw
        case rel => exact ⟨k + 1, by omega, by go_num, HT, below_drewN' hbw _⟩
        case measure => simp [intOf]; omega
      · have HT := Lib.hid (take_ne hx hy hxy)
        have hne : (x != y) = true := by simpa using hxy
        clear hx hy ht1 ht2 hxy
        go_wp2
        go_quiet (fail)
        go_wp2
        go_ret
        exact ⟨by rw [decide_eq_false HT.out]; rfl, below_drewN' hbw _⟩
    · have : k = l.length := by omega
      subst this
      have HT := Lib.hid (show l = m by have h1 := HK.out; have h2 := HLM.out; rw [List.take_length, h2, List.take_length] at h1; exact h1)
      clear HK
      go_wp2
      go_ret
      exact ⟨by rw [decide_eq_true HT.out]; rfl, hbw⟩

/-- Each number is between the bounds of its way. -/
def rngL : List Wy → List Int → Bool
  | x :: ws, f :: fl => decide (x.lo ≤ f ∧ f ≤ x.hi) && rngL ws fl
  | _, _ => true
/-- As many stamps come to each room as go from it. -/
def balS (ws : List Wy) (fl : List Int) : Bool := decide (net 0 ws fl = 0 ∧ net 1 ws fl = 0 ∧ net 2 ws fl = 0 ∧ net 3 ws fl = 0 ∧ net 4 ws fl = 0 ∧ net 5 ws fl = 0)

theorem net_take (r : Int) : ∀ (ws : List Wy) (fl : List Int) (k : Nat) (x : Wy) (f : Int), ws[k]? = some x → fl[k]? = some f →
    net r (ws.take (k + 1)) (fl.take (k + 1)) = net r (ws.take k) (fl.take k) + ((if x.dst = r then f else 0) - (if x.src = r then f else 0))
  | [], _, _, _, _, h, _ => by simp at h
  | _ :: _, [], _, _, _, _, h => by simp at h
  | y :: ws, g :: fl, 0, x, f, h, h2 => by simp at h h2; subst h h2; simp [net]
  | y :: ws, g :: fl, k + 1, x, f, h, h2 => by
    have ih := net_take r ws fl k x f (by simpa using h) (by simpa using h2)
    simp only [List.take_succ_cons, net] at ih ⊢
    rw [ih]; omega

theorem net_bound (r : Int) : ∀ (ws : List Wy) (fl : List Int), (∀ f ∈ fl, 0 ≤ f ∧ f ≤ 99) → -(99 * (ws.length : Int)) ≤ net r ws fl ∧ net r ws fl ≤ 99 * (ws.length : Int)
  | [], _, _ => by simp [net]
  | _ :: ws, [], _ => by simp [net]; omega
  | x :: ws, f :: fl, h => by
    have ih := net_bound r ws fl (fun g hg => h g (by simp [hg]))
    have := h f (by simp)
    simp only [net, List.length_cons]
    split <;> split <;> omega
end Go.Proofs.YtcebihijnedekaaDoor
