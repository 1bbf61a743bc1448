/-
  The small functions of the statements without the reference: the rooms of a set, which of two lists is better, and the sums of a set.
-/
import Derived.Test.YtcebihijnedekaaDoorRefA
import Derived.Test.YtcebihijnedekaaDoorMathC
import Derived.Test.YtcebihijnedekaaDoorMathG
import Derived.Test.YtcebihijnedekaaDoorWalkN
import Derived.Deep.QuietTactic
import Derived.BigQuiet
namespace Go.Proofs.YtcebihijnedekaaDoor
open Go.RowKit

set_option maxHeartbeats 1000000 in
theorem rooms47_any (s : Nat) (w : World) (hs : s < 64) :
    Calls Tryd.prog 47 #[.int .i64 s] w (RetInts w (listR s)) := by
  obtain ⟨i0, hi, hz0, hz1, hz2⟩ := info_parts info3
  go_enter Tryd.func47, Tryd.ntmps47
  go_wp2
  go_loopw [3, 4] (fun v i wr => ∃ k : Nat, k ≤ 6 ∧ i = .int .i64 k ∧ wr.ownsRow w.heap.size 3 1 v (listRK s k).length ((listRK s k).map (Value.int .i64)) ∧ Below w.heap.size w wr) (fun _ i _ => 6 - (intOf i).toNat)
  case atStart => exact ⟨0, Nat.zero_le _, rfl, World.ownsRow_nil _ _ _ _, Below.refl _ _⟩
  case round =>
    obtain ⟨k, hk, rfl, hown, hbw⟩ := hrel
    by_cases hlt : k < 6
    · have hlk := listRK_len s k
      have hki : (0 : Int) ≤ (k : Int) := by omega
      have hkj : (k : Int) < 6 := by omega
      have hbt : (bits .and .i64 ((s : Int) / 2 ^ k) 1 == 1) = memR s k := has_val s hs k hlt
      rcases hm : memR s k with _ | _ <;> rw [hm] at hbt
      · have HL := Lib.hid (show listRK s (k + 1) = listRK s k by rw [listRK, hm]; rfl)
        clear hm
        go_wp2_with fail
        go_roundw
        case rel => exact ⟨k + 1, by omega, by go_num, by rw [HL.out]; exact hown, hbw⟩
        case measure => simp [intOf]; omega
      · have HL := Lib.hid (show listRK s (k + 1) = listRK s k ++ [(k : Int)] by rw [listRK, hm]; rfl)
        clear hm
        go_wp2_with (first
          | (at_builtin; refine wpList_append_own _ rfl _ _ 25 rfl w.heap.size 3 i0 (.int .i64 0) 1 8 Tryd.underlying25 hi hz0 hz1 hz2 rfl (by decide) _ _ _ rfl (hown.alloc _) ⟨wr.heap.size, 0, none⟩ 1 1 [.int .i64 (k : Int)] rfl rfl ?c1 ?c2 ?c3 ?c4 ?c5 ?_))
        case c1 => exact cells_one _ _ _ _
        case c2 => intro u hu; simp at hu; subst hu; rfl
        case c3 => unfold maxLen; omega
        case c4 => omega
        case c5 => have := hbw.size; simp; omega
        intro v' w1 hown' hgrow _
        have hbn : Below w.heap.size w w1 := (hbw.alloc hbw.size _).grown hgrow (by simp; have := hbw.size; omega) (fun g hg => (hown.lt g hg).1)
        clear hgrow
        go_wp2
        go_roundw
        case rel => exact ⟨k + 1, by omega, by go_num, by rw [HL.out, List.length_append, List.map_append]; exact hown', hbn⟩
        case measure => simp [intOf]; omega
    · have : k = 6 := by omega
      subst this
      have HO := Lib.hid (own_ints hown)
      go_wp2
      go_ret
      obtain ⟨A, c, hv, hA⟩ := HO.out
      exact ⟨A, c, ret_val hv, hA, hbw⟩

theorem befL_dropO {a b : List Int} {k : Nat} {x y : Int} (h1 : a[k]? = some x) (h2 : b[k]? = some y) : befL (a.drop k) (b.drop k) = if x = y then befL (a.drop (k + 1)) (b.drop (k + 1)) else decide (x < y) := by
  rw [drop_cons h1, drop_cons h2, befL]

set_option maxHeartbeats 1000000 in
theorem better_any (A D : Option Addr) (c d : Nat) (l m : List Int) (w : World) (hl : l.length ≤ 1000) (hA : IntsAt w w.heap.size A l) (hD : IntsAt w w.heap.size D m) :
    Calls Tryd.prog 48 #[.slice A l.length c, .slice D m.length d] w fun e w' => e = .returned (.bool (bef l m)) ∧ Below w.heap.size w w' := by
  unfold bef
  by_cases hlm : l.length = m.length
  rotate_left
  · rw [if_neg hlm]
    have hlm' : ((l.length : Int) != (m.length : Int)) = true := by simpa using (by omega : ¬ (l.length : Int) = m.length)
    clear hlm
    go_enter Tryd.func48, Tryd.ntmps48
    go_wp2
    go_ret
    exact ⟨rfl, Below.refl _ _⟩
  rw [if_pos hlm]
  have hlm' : ((l.length : Int) != (m.length : Int)) = false := by simpa using (by omega : (l.length : Int) = m.length)
  have HLM := Lib.hid hlm
  clear hlm
  obtain ⟨r, hr⟩ : ∃ r, r = befL l m := ⟨_, rfl⟩
  rw [← hr]
  have HR := Lib.hid hr
  clear hr
  go_enter Tryd.func48, Tryd.ntmps48
  go_wp2
  clear hlm'
  go_loopw [18] (fun i wr => ∃ k : Nat, k ≤ l.length ∧ i = .int .i64 k ∧ Hid (befL (l.drop k) (m.drop k) = r) ∧ Below w.heap.size w wr) (fun i _ => l.length - (intOf i).toNat)
  case atStart => exact ⟨0, Nat.zero_le _, rfl, Lib.hid HR.out.symm, Below.refl _ _⟩
  case round =>
    obtain ⟨k, hk, rfl, HK, hbw⟩ := hrel
    by_cases hlt : k < l.length
    · have hlt2 : k < m.length := by have := HLM.out; omega
      have hx : l[k]? = some l[k] := List.getElem?_eq_getElem hlt
      have hy : m[k]? = some m[k] := List.getElem?_eq_getElem hlt2
      generalize l[k] = x at hx
      generalize m[k] = y at hy
      have hst := HK.out
      rw [befL_dropO hx hy] at hst
      obtain ⟨b1, o1, rfl, hb1, h1⟩ := (hA.below hbw (Nat.le_refl _)) k x hx
      obtain ⟨b2, o2, rfl, hb2, h2⟩ := (hD.below hbw (Nat.le_refl _)) k y hy
      have hki : (k : Int) < (l.length : Int) := by omega
      have hkj : (k : Int) < (m.length : Int) := by omega
      have hk0 : (0 : Int) ≤ (k : Int) := by omega
      by_cases hxy : x = y
      · rw [if_pos hxy] at hst
        have HT := Lib.hid hst
        have hne : (x != y) = false := by simpa using hxy
        clear hx hy hst hxy HK HR
        go_wp2
        go_quiet (fail)
        go_wp2
        go_roundw
        case rel => exact ⟨k + 1, by omega, by go_num, HT, below_drewN' hbw _⟩
        case measure => simp [intOf]; omega
      · rw [if_neg hxy] at hst
        have hne : (x != y) = true := by simpa using hxy
        clear hx hy hxy HK HR
        go_wp2
        go_quiet (fail)
        go_wp2
        go_quiet (fail)
        go_wp2
        go_ret
        exact ⟨rfl, below_drewN' (below_drewN' hbw _) _⟩
    · have : k = l.length := by omega
      subst this
      have HT := Lib.hid (show false = r by rw [← HK.out, List.drop_length]; rfl)
      clear HK
      go_wp2
      go_ret
      exact ⟨retb_eq HT.out, hbw⟩

theorem bit_val1 : ∀ s : Nat, s < 64 → ∀ k : Nat, k < 6 → bits .and .i64 ((s : Int) / 2 ^ k) 1 = if s.testBit k then 1 else 0 := by decide +kernel

set_option maxRecDepth 100000 in
set_option maxHeartbeats 1000000 in
theorem sums_any (rooms s n : Nat) (wo : Int) (A : Option Addr) (c : Nat) (ws : List Wy) (w : World) (hv : ValB rooms ws) (hs : s < 64) (hwo : ∀ j : Nat, j < ws.length → ((j : Int) = wo ↔ j = n)) (hw : WaysAt w w.heap.size A ws) :
    Calls Tryd.prog 46 #[.agg #[.int .i64 rooms, .slice A ws.length c], .int .i64 s, .int .i64 wo] w fun e w' =>
      e = .returned (.tuple #[.int .i64 (sL (memR s) ws n ws.length), .int .i64 (sM (memR s) ws n ws.length)]) ∧ Below w.heap.size w w' := by
  have hr6 := hv.r6
  have hlen := hv.len
  have HSL := Lib.hid (fun j => sL_bound hv (memR s) n j)
  have HSM := Lib.hid (fun j => sM_bound hv (memR s) n j)
  have HWO := Lib.hid hwo
  clear hwo
  go_enter Tryd.func46, Tryd.ntmps46
  go_wp2_with fail
  obtain ⟨W0, hW0⟩ : ∃ W0, W0 = w.alloc (.cells #[.int .i64 rooms, .slice A ws.length c] 24) := ⟨_, rfl⟩
  have hz0 : w.heap.size < W0.heap.size := by rw [hW0]; simp
  have hb0 : Below w.heap.size w W0 := by rw [hW0]; exact (Below.refl _ _).alloc (Nat.le_refl _) _
  have hw0 := hw.below hb0 (Nat.le_refl _)
  rw [← hW0]
  clear hW0 hw
  go_loopw [6, 7, 15] (fun a b i wr => ∃ j : Nat, j ≤ ws.length ∧ i = .int .i64 j ∧ a = .int .i64 (sL (memR s) ws n j) ∧ b = .int .i64 (sM (memR s) ws n j) ∧ Below W0.heap.size W0 wr) (fun _ _ i _ => ws.length - (intOf i).toNat)
  case atStart => exact ⟨0, Nat.zero_le _, rfl, rfl, rfl, Below.refl _ _⟩
  case round =>
    obtain ⟨j, hj, rfl, rfl, rfl, hbw⟩ := hrel
    have hww := hw0.below hbw (by omega)
    have hb1 := HSL.out j
    have hb2 := HSM.out j
    by_cases hlt : j < ws.length
    · have hy : ws[j]? = some ws[j] := List.getElem?_eq_getElem hlt
      generalize ws[j] = y at hy
      obtain ⟨b, off, rfl, hb, h1, h2, h3, h4⟩ := hww j y hy
      obtain ⟨⟨x1, x2⟩, ⟨x3, x4⟩, hx3, hx4, hx5⟩ := hv.way y (mem_of_get hy)
      have hbr : b < wr.heap.size := by have := hbw.size; omega
      have hsl : sL (memR s) ws n (j + 1) = sL (memR s) ws n j + if j ≠ n ∧ lv (memR s) y = true then y.lo else 0 := by rw [sL, hy]
      have hsm : sM (memR s) ws n (j + 1) = sM (memR s) ws n j + if j ≠ n ∧ en (memR s) y = true then y.hi else 0 := by rw [sM, hy]
      have t1 := bit_val1 s hs y.src.toNat (by omega)
      have t2 := bit_val1 s hs y.dst.toNat (by omega)
      have hji : (j : Int) < (ws.length : Int) := by omega
      have hj0 : (0 : Int) ≤ (j : Int) := by omega
      generalize sL (memR s) ws n j = E at hb1 hsl ⊢
      generalize sM (memR s) ws n j = F at hb2 hsm ⊢
      have hbE : 0 ≤ E ∧ E ≤ 1188 := by omega
      have hbF : 0 ≤ F ∧ F ≤ 1188 := by omega
      have hjn : ((j : Int) != wo) = true ∧ j ≠ n ∨ ((j : Int) != wo) = false ∧ j = n := by
        have := HWO.out j hlt
        by_cases h : j = n
        · exact .inr ⟨by simpa using this.2 h, h⟩
        · exact .inl ⟨by simpa using (fun e => h (this.1 e)), h⟩
      generalize hE1 : sL (memR s) ws n (j + 1) = E1 at hsl
      generalize hF1 : sM (memR s) ws n (j + 1) = F1 at hsm
      have HE1 := Lib.hid hE1
      have HF1 := Lib.hid hF1
      clear hE1 hF1
      unfold lv at hsl
      unfold en at hsm
      unfold memR at hsl hsm
      clear hb1 hb2 hww hy hw0
      generalize s.testBit y.src.toNat = u at t1 hsl hsm
      generalize s.testBit y.dst.toNat = v at t2 hsl hsm
      cases u <;> cases v <;> rcases hjn with ⟨b1, b2⟩ | ⟨b1, b2⟩
      all_goals
        simp [b2] at hsl hsm t1 t2
        have HT := Lib.hid hsl
        have HU := Lib.hid hsm
        clear hsl hsm b2
        go_wp2_with fail
        go_quiet (fail)
        go_wp2_with fail
        go_roundw
        case rel => exact ⟨j + 1, by omega, by go_num, by rw [HE1.out, HT.out]; try (first | rfl | go_num), by rw [HF1.out, HU.out]; try (first | rfl | go_num), below_drewN' (hbw.trans ((Below.refl wr.heap.size wr).alloc (Nat.le_refl _) _ |>.mono hbw.size)) _⟩
        case measure => simp [intOf]; omega
    · have : j = ws.length := by omega
      subst this
      go_wp2_with fail
      go_ret2
      exact ⟨rfl, hb0.trans (hbw.mono (by omega))⟩
end Go.Proofs.YtcebihijnedekaaDoor
