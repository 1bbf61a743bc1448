/-
  The reference: the list of a set of rooms, and which of two lists comes before the other.
-/
import Derived.Test.YtcebihijnedekaaDoorRefA
import Derived.Test.YtcebihijnedekaaDoorMathC
import Derived.Deep.QuietTactic
import Derived.BigQuiet
import Derived.Test.YtcebihijnedekaaDoorWalkN
namespace Go.Proofs.YtcebihijnedekaaDoor
open Go.RowKit

set_option maxHeartbeats 1000000 in
theorem listed_any (s : Nat) (w : World) (hs : s < 64) :
    Calls Tryd.prog 69 #[.int .i64 s] w (RetInts w (listR s)) := by
  obtain ⟨i0, hi, hz0, hz1, hz2⟩ := info_parts info3
  go_enter Tryd.func69, Tryd.ntmps69
  go_wp2
  go_loopw [3, 4] (fun v i wr => ∃ k : Nat, k ≤ 6 ∧ i = .int .i64 k ∧ wr.ownsRow w.heap.size 3 1 v (listRK s k).length ((listRK s k).map (Value.int .i64)) ∧ Below w.heap.size w wr) (fun _ i _ => 6 - (intOf i).toNat)
  case atStart => exact ⟨0, Nat.zero_le _, rfl, World.ownsRow_nil _ _ _ _, Below.refl _ _⟩
  case round =>
    obtain ⟨k, hk, rfl, hown, hbw⟩ := hrel
    by_cases hlt : k < 6
    · have hlk := listRK_len s k
      have hki : (0 : Int) ≤ (k : Int) := by omega
      have hkj : (k : Int) < 6 := by omega
      have H1 := Lib.hid (fun W => has_any s k W hs hki hkj)
      rcases hm : memR s k with _ | _ <;> rw [hm] at H1
      · have HL := Lib.hid (show listRK s (k + 1) = listRK s k by rw [listRK, hm]; rfl)
        clear hm
        go_wp2_with (go_at_call 89; refine (H1.out _).mono ?_; rintro e w' ⟨rfl, rfl⟩)
        go_roundw
        case rel => exact ⟨k + 1, by omega, by go_num, by rw [HL.out]; exact hown, hbw⟩
        case measure => simp [intOf]; omega
      · have HL := Lib.hid (show listRK s (k + 1) = listRK s k ++ [(k : Int)] by rw [listRK, hm]; rfl)
        clear hm
        go_wp2_with (first
          | (go_at_call 89; refine (H1.out _).mono ?_; rintro e w' ⟨rfl, rfl⟩)
          | (at_builtin; refine wpList_append_own _ rfl _ _ 25 rfl w.heap.size 3 i0 (.int .i64 0) 1 8 Tryd.underlying25 hi hz0 hz1 hz2 rfl (by decide) _ _ _ rfl (hown.alloc _) ⟨wr.heap.size, 0, none⟩ 1 1 [.int .i64 (k : Int)] rfl rfl ?c1 ?c2 ?c3 ?c4 ?c5 ?_))
        case c1 => exact cells_one _ _ _ _
        case c2 => intro u hu; simp at hu; subst hu; rfl
        case c3 => unfold maxLen; omega
        case c4 => omega
        case c5 => have := hbw.size; simp; omega
        intro v' w1 hown' hgrow _
        have hbn : Below w.heap.size w w1 := (hbw.alloc hbw.size _).grown hgrow (by simp; have := hbw.size; omega) (fun g hg => (hown.lt g hg).1)
        clear hgrow
        go_wp2
        go_roundw
        case rel => exact ⟨k + 1, by omega, by go_num, by rw [HL.out, List.length_append, List.map_append]; exact hown', hbn⟩
        case measure => simp [intOf]; omega
    · have : k = 6 := by omega
      subst this
      have HO := Lib.hid (own_ints hown)
      go_wp2
      go_ret
      obtain ⟨A, c, hv, hA⟩ := HO.out
      exact ⟨A, c, ret_val hv, hA, hbw⟩

theorem befL_drop {a b : List Int} {k : Nat} {x y : Int} (h1 : a[k]? = some x) (h2 : b[k]? = some y) : befL (a.drop k) (b.drop k) = if x = y then befL (a.drop (k + 1)) (b.drop (k + 1)) else decide (x < y) := by
  rw [drop_cons h1, drop_cons h2, befL]

set_option maxHeartbeats 1000000 in
theorem before_any (A D : Option Addr) (c d : Nat) (l m : List Int) (w : World) (hl : l.length ≤ 1000) (hA : IntsAt w w.heap.size A l) (hD : IntsAt w w.heap.size D m) :
    Calls Tryd.prog 71 #[.slice A l.length c, .slice D m.length d] w fun e w' => e = .returned (.bool (bef l m)) ∧ Below w.heap.size w w' := by
  unfold bef
  by_cases hlm : l.length = m.length
  rotate_left
  · rw [if_neg hlm]
    have hlm' : ((l.length : Int) != (m.length : Int)) = true := by simpa using (by omega : ¬ (l.length : Int) = m.length)
    clear hlm
    go_enter Tryd.func71, Tryd.ntmps71
    go_wp2
    go_ret
    exact ⟨rfl, Below.refl _ _⟩
  rw [if_pos hlm]
  have hlm' : ((l.length : Int) != (m.length : Int)) = false := by simpa using (by omega : (l.length : Int) = m.length)
  have HLM := Lib.hid hlm
  clear hlm
  obtain ⟨r, hr⟩ : ∃ r, r = befL l m := ⟨_, rfl⟩
  rw [← hr]
  have HR := Lib.hid hr
  clear hr
  go_enter Tryd.func71, Tryd.ntmps71
  go_wp2
  clear hlm'
  go_loopw [5] (fun i wr => ∃ k : Nat, k ≤ l.length ∧ i = .int .i64 k ∧ Hid (befL (l.drop k) (m.drop k) = r) ∧ Below w.heap.size w wr) (fun i _ => l.length - (intOf i).toNat)
  case atStart => exact ⟨0, Nat.zero_le _, rfl, Lib.hid HR.out.symm, Below.refl _ _⟩
  case round =>
    obtain ⟨k, hk, rfl, HK, hbw⟩ := hrel
    by_cases hlt : k < l.length
    · have hlt2 : k < m.length := by have := HLM.out; omega
      have hx : l[k]? = some l[k] := List.getElem?_eq_getElem hlt
      have hy : m[k]? = some m[k] := List.getElem?_eq_getElem hlt2
      generalize l[k] = x at hx
      generalize m[k] = y at hy
      have hst := HK.out
      rw [befL_drop hx hy] at hst
      obtain ⟨b1, o1, rfl, hb1, h1⟩ := (hA.below hbw (Nat.le_refl _)) k x hx
      obtain ⟨b2, o2, rfl, hb2, h2⟩ := (hD.below hbw (Nat.le_refl _)) k y hy
      have hki : (k : Int) < (l.length : Int) := by omega
      have hkj : (k : Int) < (m.length : Int) := by omega
      have hk0 : (0 : Int) ≤ (k : Int) := by omega
      by_cases hxy : x = y
      · rw [if_pos hxy] at hst
        have HT := Lib.hid hst
        have hne : (x != y) = false := by simpa using hxy
        clear hx hy hst hxy HK HR
        go_wp2
        go_quiet (fail)
        go_wp2
        go_roundw
        case rel => exact ⟨k + 1, by omega, by go_num, HT, below_drewN' hbw _⟩
        case measure => simp [intOf]; omega
      · rw [if_neg hxy] at hst
        have hne : (x != y) = true := by simpa using hxy
        clear hx hy hxy HK HR
        go_wp2
        go_quiet (fail)
        go_wp2
        go_quiet (fail)
        go_wp2
        go_ret
        exact ⟨rfl, below_drewN' (below_drewN' hbw _) _⟩
    · have : k = l.length := by omega
      subst this
      have HT := Lib.hid (show false = r by rw [← HK.out, List.drop_length]; rfl)
      clear HK
      go_wp2
      go_ret
      exact ⟨retb_eq HT.out, hbw⟩
end Go.Proofs.YtcebihijnedekaaDoor
