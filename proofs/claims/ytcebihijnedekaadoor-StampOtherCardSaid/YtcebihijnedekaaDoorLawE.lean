/-
  The walk of the statement on other flows: it answers true.
-/
import Derived.Test.YtcebihijnedekaaDoorLawA
import Derived.Test.YtcebihijnedekaaDoorLawB
import Derived.Test.YtcebihijnedekaaDoorRefS
namespace Go.Proofs.YtcebihijnedekaaDoor
open Go.RowKit

theorem firstS_len12 {rooms : Nat} {ws : List Wy} (hv : ValB rooms ws) (ha : Agr ws) : (firstS rooms ws).length ≤ 1000 := by
  have := firstS_len hv.inW hv.okW ha
  have := hv.len
  omega

theorem othS_len {R : Int} {ws : List Wy} {l : List Int} : (othS R ws l).1.length ≤ 1000 := by
  unfold othS
  by_cases h : verS R ws l = 0
  · rw [if_pos h]
    obtain ⟨rooms, rfl, _, hv, hl, hr, hfl⟩ := verS_ok h
    rw [show ((rooms : Int).toNat) = rooms from rfl]
    have ha := agr_of_flow hv.inW hfl
    split
    · have key : ∀ j, j ≤ ws.length → ∀ o, secK rooms ws l j = some o → o.length ≤ 1000 := by
        intro j
        induction j with
        | zero => intro _ o h; cases h
        | succ i ih =>
          intro hj o ho
          have hx : ws[i]? = some (ws[i]'(by omega)) := List.getElem?_eq_getElem (by omega)
          have hy : l[i]? = some (l[i]'(by omega)) := List.getElem?_eq_getElem (by omega)
          rw [secK, hx, hy] at ho
          dsimp only at ho
          split at ho
          · rename_i hc
            cases ho
            have hm := moreW_val hv hr hx hy hc.1
            exact firstS_len12 hm ((agrS_iff hm.inW).1 hc.2)
          · exact ih (by omega) o ho
      cases hs : secK rooms ws l ws.length with
      | none => simp
      | some o => exact key _ (Nat.le_refl _) o hs
    · exact firstS_len12 hv ha
  · rw [if_neg h]; simp

set_option maxRecDepth 100000 in
set_option maxHeartbeats 4000000 in
theorem lawOther_any (w : World) (R : Int) (A : Option Addr) (c : Nat) (ws : List Wy) (D : Option Addr) (d : Nat) (l : List Int) (hw : WaysAt w w.heap.size A ws) (hlc : l.length ≤ d) (hd : IntsAt w w.heap.size D l) (ht : SizesAt w) :
    Calls Tryd.prog 4 #[.agg #[.int .i64 R, .slice A ws.length c], .slice D l.length d] w fun e w' => e = .returned (.bool true) ∧ Below w.heap.size w w' := by
  have HL := Lib.hid (fun W => large_any R A D ws.length c l.length d W)
  have hw1 := fun o => (hw.alloc (Nat.le_refl _) o).mono (B' := (w.alloc o).heap.size) (by simp)
  have hd1 := fun o => (hd.alloc (Nat.le_refl _) o).mono (B' := (w.alloc o).heap.size) (by simp)
  have ht1 := fun o => ht.alloc o
  by_cases h40 : 40 < ws.length ∨ 40 < l.length
  · rw [decide_eq_true h40] at HL
    clear h40
    go_enter Tryd.func4, Tryd.ntmps4
    go_wp2_with (first
      | (go_at_call 15; refine (HL.out _).mono ?_; rintro e w1 ⟨rfl, hb1⟩; have ht2 := (ht1 _).below hb1)
      | (go_at_call 16; refine (works_any _ ht2).mono ?_; rintro e w2 ⟨rfl, hb2⟩))
    go_ret
    exact ⟨rfl, ((Below.refl _ _).alloc (Nat.le_refl _) _).trans ((hb1.mono (by simp)).trans (hb2.mono (by have := hb1.size; simp at this; omega)))⟩
  rw [decide_eq_false h40] at HL
  have hl1 : l.length ≤ 1000 := by omega
  have hws : ws.length ≤ 40 := by omega
  clear h40
  have hol := othS_len (R := R) (ws := ws) (l := l)
  have K27 := Lib.hid (fun W h1 h2 h3 => other_any R A D c d ws l W hlc h1 h2 h3)
  have K28 := Lib.hid (fun A' c' W h1 h2 => otherR_any R A' D c' d ws l W h1 h2)
  generalize othS R ws l = P at hol K27 K28
  obtain ⟨P, ep⟩ := P
  dsimp only at hol K27 K28
  go_enter Tryd.func4, Tryd.ntmps4
  go_wp2_with (first
    | (go_at_call 15; refine (HL.out _).mono ?_; rintro e w1 ⟨rfl, hb1⟩; obtain ⟨q1, q2, q3⟩ := bcell hb1; simp only [World.size_alloc] at q1 q2 q3; have ht2 := (ht1 _).below hb1; have hw2 := up_ways (hw1 _) hb1; have hd2 := up_ints (hd1 _) hb1; have hz1 : w.heap.size < w1.heap.size := (by omega); have hs1 := hb1.size)
    | (go_at_call 27; refine (K27.out _ hw2 hd2 ht2).mono ?_; rintro e w2 ⟨B2, b2, rfl, hn2, hb2⟩; obtain ⟨r1, r2, r3⟩ := bcell hb2; have ht3 := ht2.below hb2; have hw3 := up_ways hw2 hb2; have hd3 := up_ints hd2 hb2; have hz2 : w.heap.size < w2.heap.size := (by omega))
    | (go_at_call 17; refine (given_any R A c ws _ hws hw3).mono ?_; rintro e w3 ⟨A2, c2, rfl, hA2, hb3⟩; have ht4 := ht3.below hb3; have hd4 := up_ints hd3 hb3; have hn3 := up_ints hn2 hb3; have hs3 := hb3.size)
    | (go_at_call 28; refine (K28.out A2 c2 _ hA2 hd4).mono ?_; rintro e w4 ⟨B4, b4, rfl, hn4, hb4⟩; have ht5 := ht4.below hb4; have hn5 := up_ints hn3 hb4; have hs4 := hb4.size)
    | (go_at_call 22; refine (ints_same hol hn5 hn4).mono ?_; rintro e w5 ⟨rfl, hb5⟩; have ht6 := ht5.below hb5; have hs5 := hb5.size)
    | (go_at_call 16; refine (works_any _ ht6).mono ?_; rintro e w6 ⟨rfl, hb6⟩))
  go_ret
  exact ⟨rfl, ((Below.refl _ _).alloc (Nat.le_refl _) _).trans ((hb1.mono (by simp)).trans ((hb2.mono (by omega)).trans ((hb3.mono (by omega)).trans ((hb4.mono (by omega)).trans ((hb5.mono (by omega)).trans (hb6.mono (by omega)))))))⟩
end Go.Proofs.YtcebihijnedekaaDoor
