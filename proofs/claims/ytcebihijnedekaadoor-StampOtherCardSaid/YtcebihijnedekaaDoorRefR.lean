/-
  The reference: whether two lists of as many numbers are equal; another flow, where there is an error, or where the first flow is another one.
-/
import Derived.Test.YtcebihijnedekaaDoorRefL
import Derived.Test.YtcebihijnedekaaDoorWalkU
import Derived.Test.YtcebihijnedekaaDoorMathE
namespace Go.Proofs.YtcebihijnedekaaDoor
open Go.RowKit

set_option maxHeartbeats 1000000 in
theorem sameR_any (A D : Option Addr) (c d : Nat) (l m : List Int) (w : World) (hl : l.length ≤ 1000) (hlm : l.length = m.length) (hA : IntsAt w w.heap.size A l) (hD : IntsAt w w.heap.size D m) :
    Calls Tryd.prog 65 #[.slice A l.length c, .slice D m.length d] w fun e w' => e = .returned (.bool (decide (l = m))) ∧ Below w.heap.size w w' := by
  have HLM := Lib.hid hlm
  have hlm' : ((l.length : Int) == (m.length : Int)) = true := by rw [hlm]; simp
  clear hlm
  go_enter Tryd.func65, Tryd.ntmps65
  go_wp2
  go_loopw [5] (fun i wr => ∃ k : Nat, k ≤ l.length ∧ i = .int .i64 k ∧ Hid (l.take k = m.take k) ∧ Below w.heap.size w wr) (fun i _ => l.length - (intOf i).toNat)
  case atStart => exact ⟨0, Nat.zero_le _, rfl, Lib.hid rfl, Below.refl _ _⟩
  case round =>
    obtain ⟨k, hk, rfl, HK, hbw⟩ := hrel
    by_cases hlt : k < l.length
    · have hlt2 : k < m.length := by have := HLM.out; omega
      have hx : l[k]? = some l[k] := List.getElem?_eq_getElem hlt
      have hy : m[k]? = some m[k] := List.getElem?_eq_getElem hlt2
      have ht1 : l.take (k + 1) = l.take k ++ [l[k]] := List.take_succ_eq_append_getElem hlt
      have ht2 : m.take (k + 1) = m.take k ++ [m[k]] := List.take_succ_eq_append_getElem hlt2
      generalize l[k] = x at hx ht1
      generalize m[k] = y at hy ht2
      obtain ⟨b1, o1, rfl, hb1, h1⟩ := (hA.below hbw (Nat.le_refl _)) k x hx
      obtain ⟨b2, o2, rfl, hb2, h2⟩ := (hD.below hbw (Nat.le_refl _)) k y hy
      have hki : (k : Int) < (l.length : Int) := by omega
      have hkj : (k : Int) < (m.length : Int) := by omega
      have hk0 : (0 : Int) ≤ (k : Int) := by omega
      by_cases hxy : x = y
      · have HT := Lib.hid (show l.take (k + 1) = m.take (k + 1) by rw [ht1, ht2, HK.out, hxy])
        have hne : (x != y) = false := by simpa using hxy
        clear hx hy ht1 ht2 hxy
        go_wp2
        go_quiet (fail)
        go_wp2
        go_roundw
        case rel => exact ⟨k + 1, by omega, by go_num, HT, below_drewN' hbw _⟩
        case measure => simp [intOf]; omega
      · have HT := Lib.hid (take_ne hx hy hxy)
        have hne : (x != y) = true := by simpa using hxy
        clear hx hy ht1 ht2 hxy
        go_wp2
        go_quiet (fail)
        go_wp2
        go_ret
        exact ⟨by rw [decide_eq_false HT.out]; rfl, below_drewN' hbw _⟩
    · have : k = l.length := by omega
      subst this
      have HT := Lib.hid (show l = m by have h1 := HK.out; have h2 := HLM.out; rw [List.take_length, h2, List.take_length] at h1; exact h1)
      clear HK
      go_wp2
      go_ret
      exact ⟨by rw [decide_eq_true HT.out]; rfl, hbw⟩

set_option maxHeartbeats 1000000 in
theorem otherR_err (R : Int) (A D : Option Addr) (c d : Nat) (ws : List Wy) (fl : List Int) (w : World) (hw : WaysAt w w.heap.size A ws) (hd : IntsAt w w.heap.size D fl) (h0 : ¬ verS R ws fl = 0) :
    Calls Tryd.prog 28 #[.agg #[.int .i64 R, .slice A ws.length c], .slice D fl.length d] w (RetList w [] (verS R ws fl)) := by
  have HC := Lib.hid (fun W hW hD => verifyR_any R A D c d ws fl W hW hD)
  have hw1 := fun o => (hw.alloc (Nat.le_refl _) o).mono (B' := (w.alloc o).heap.size) (by simp)
  have hd1 := fun o => (hd.alloc (Nat.le_refl _) o).mono (B' := (w.alloc o).heap.size) (by simp)
  generalize verS R ws fl = v at h0 HC ⊢
  go_enter Tryd.func28, Tryd.ntmps28
  go_wp2_with (go_at_call 26; refine (HC.out _ (hw1 _) (hd1 _)).mono ?_; rintro e w1 ⟨rfl, hb1⟩; obtain ⟨q1, q2, q3⟩ := bcell hb1; simp only [World.size_alloc] at q1 q2 q3)
  go_ret2
  exact retList_none (((Below.refl _ _).alloc (Nat.le_refl _) _).trans (hb1.mono (by simp)))

set_option maxHeartbeats 1000000 in
theorem otherR_diff (rooms : Nat) (A D : Option Addr) (c d : Nat) (ws : List Wy) (fl : List Int) (w : World) (hw : WaysAt w w.heap.size A ws) (hd : IntsAt w w.heap.size D fl) (h0 : verS rooms ws fl = 0) (hv : ValB rooms ws) (ha : Agr ws) (hl : fl.length = ws.length) (hne : ¬ firstS rooms ws = fl) :
    Calls Tryd.prog 28 #[.agg #[.int .i64 rooms, .slice A ws.length c], .slice D fl.length d] w (RetList w (firstS rooms ws) 0) := by
  have HC := Lib.hid (fun W hW hD => verifyR_any rooms A D c d ws fl W hW hD)
  rw [h0] at HC
  have hw1 := fun o => (hw.alloc (Nat.le_refl _) o).mono (B' := (w.alloc o).heap.size) (by simp)
  have hd1 := fun o => (hd.alloc (Nat.le_refl _) o).mono (B' := (w.alloc o).heap.size) (by simp)
  have HF := Lib.hid (fun W hW => firstR_any rooms A c ws W hv ha hW)
  have hfl := firstS_len hv.inW hv.okW ha
  have HE := Lib.hid (fun W A' c' hA' hD => sameR_any A' D c' d (firstS rooms ws) fl W (by have := hv.len; omega) (by omega) hA' hD)
  rw [decide_eq_false hne] at HE
  clear h0 hv ha hl hne hfl
  generalize firstS rooms ws = L at HF HE ⊢
  go_enter Tryd.func28, Tryd.ntmps28
  go_wp2_with (first
    | (go_at_call 26; refine (HC.out _ (hw1 _) (hd1 _)).mono ?_; rintro e w1 ⟨rfl, hb1⟩; obtain ⟨q1, q2, q3⟩ := bcell hb1; simp only [World.size_alloc] at q1 q2 q3; have hw2 := upw (hw1 _) hb1; have hd2 := upi (hd1 _) hb1; have hz2 : w.heap.size < w1.heap.size := (by omega))
    | (go_at_call 65; refine (HE.out _ _ _ hA' hd3).mono ?_; rintro e w4 ⟨rfl, hb4⟩; obtain ⟨r1, r2, r3⟩ := bcell hb4; have hw4 := upw hw3 hb4; have hz4 : w.heap.size < w4.heap.size := (by omega); have mk := True.intro)
    | (go_at_call 59; (fail_if_success (have := mk)); refine (HF.out _ hw2).mono ?_; rintro e w3 ⟨A', c', rfl, hA', hb3⟩; obtain ⟨p1, p2, p3⟩ := bcell hb3; have hw3 := upw hw2 hb3; have hd3 := upi hd2 hb3; have hz3 : w.heap.size < w3.heap.size := (by omega))
    | (go_at_call 59; refine (HF.out _ hw4).mono ?_; rintro e w5 ⟨A5, c5, rfl, hA5, hb5⟩))
  go_ret2
  exact ⟨A5, c5, rfl, hA5, ((Below.refl _ _).alloc (Nat.le_refl _) _).trans ((hb1.mono (by simp)).trans ((hb3.mono (by omega)).trans ((hb4.mono (by omega)).trans (hb5.mono (by omega)))))⟩
end Go.Proofs.YtcebihijnedekaaDoor
