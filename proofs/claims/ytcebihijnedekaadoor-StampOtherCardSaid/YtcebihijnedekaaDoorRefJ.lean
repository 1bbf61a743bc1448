/-
  The reference: the span of a way that is asked for, the spans of all ways, and the ways that are open.
-/
import Derived.Test.YtcebihijnedekaaDoorRefI
import Derived.Test.YtcebihijnedekaaDoorWalkW
import Derived.Deep.QuietTactic
import Derived.BigQuiet
namespace Go.Proofs.YtcebihijnedekaaDoor
open Go.RowKit

theorem spn_of {rooms n : Nat} {ws : List Wy} {x : Wy} (h0 : chkN rooms ws n = 0) (hx : ws[n]? = some x) : spnS rooms ws n = if agrS rooms ws then ((spanS rooms ws x).1, (spanS rooms ws x).2, 0) else (0, 0, 12) := by
  unfold spnS
  rw [if_pos h0, show ((rooms : Int).toNat) = rooms from rfl, show ((n : Int).toNat) = n from rfl, hx]

set_option maxHeartbeats 1000000 in
theorem span34_any (R k : Int) (A : Option Addr) (c : Nat) (ws : List Wy) (w : World) (hw : WaysAt w w.heap.size A ws) :
    Calls Tryd.prog 34 #[.agg #[.int .i64 R, .slice A ws.length c], .int .i64 k] w fun e w' => e = .returned (.tuple #[.int .i64 (spnS R ws k).1, .int .i64 (spnS R ws k).2.1, .int .i64 (spnS R ws k).2.2]) ∧ Below w.heap.size w w' := by
  have HN := Lib.hid (fun W hW => askedR_any R k A c ws W hW)
  have HC := Lib.hid (fun W hW => agreeR_any R A c ws W hW)
  have hw1 := fun o => (hw.alloc (Nat.le_refl _) o).mono (B' := (w.alloc o).heap.size) (by simp)
  by_cases h0 : chkN R ws k = 0
  · obtain ⟨hk0, n, x, rfl, hx⟩ := chkN_ok h0
    obtain ⟨rooms, rfl, _, hv, _⟩ := chk_ok hk0
    rw [spn_of h0 hx]
    rw [h0] at HN
    unfold chkA at HC
    rw [if_pos hk0, show ((rooms : Int).toNat) = rooms from rfl] at HC
    cases ha : agrS rooms ws
    · rw [ha] at HC
      simp only [Bool.false_eq_true, if_false] at HC ⊢
      clear h0 hk0 hv hx ha
      go_enter Tryd.func34, Tryd.ntmps34
      go_wp2_with (first
        | (go_at_call 77; refine (HN.out _ (hw1 _)).mono ?_; rintro e w1 ⟨rfl, hb1⟩; obtain ⟨q1, q2, q3⟩ := bcell hb1; simp only [World.size_alloc] at q1 q2 q3; have hw2 := upw (hw1 _) hb1)
        | (go_at_call 58; refine (HC.out _ hw2).mono ?_; rintro e w2 ⟨rfl, hb2⟩))
      go_ret3
      exact ⟨rfl, (((Below.refl _ _).alloc (Nat.le_refl _) _).trans ((hb1.mono (by simp)).trans (hb2.mono (by omega))))⟩
    · have HS := Lib.hid (fun W hW => spanR_any rooms n A c ws x W hv ((agrS_iff hv.inW).1 ha) hx hW)
      rw [ha] at HC
      simp only [if_true] at HC ⊢
      generalize spanS rooms ws x = P at HS ⊢
      obtain ⟨P1, P2⟩ := P
      dsimp only at HS ⊢
      clear h0 hk0 hv hx ha
      go_enter Tryd.func34, Tryd.ntmps34
      go_wp2_with (first
        | (go_at_call 77; refine (HN.out _ (hw1 _)).mono ?_; rintro e w1 ⟨rfl, hb1⟩; obtain ⟨q1, q2, q3⟩ := bcell hb1; simp only [World.size_alloc] at q1 q2 q3; have hw2 := upw (hw1 _) hb1; have hz2 : w.heap.size < w1.heap.size := (by omega))
        | (go_at_call 58; refine (HC.out _ hw2).mono ?_; rintro e w2 ⟨rfl, hb2⟩; obtain ⟨p1, p2, p3⟩ := bcell hb2; have hw3 := upw hw2 hb2)
        | (go_at_call 78; refine (HS.out _ hw3).mono ?_; rintro e w3 ⟨rfl, hb3⟩))
      go_ret3
      exact ⟨rfl, (((Below.refl _ _).alloc (Nat.le_refl _) _).trans ((hb1.mono (by simp)).trans ((hb2.mono (by omega)).trans (hb3.mono (by omega)))))⟩
  · rw [show spnS R ws k = (0, 0, chkN R ws k) by unfold spnS; rw [if_neg h0]]
    generalize chkN R ws k = v at h0 HN ⊢
    go_enter Tryd.func34, Tryd.ntmps34
    go_wp2_with (go_at_call 77; refine (HN.out _ (hw1 _)).mono ?_; rintro e w1 ⟨rfl, hb1⟩; obtain ⟨q1, q2, q3⟩ := bcell hb1; simp only [World.size_alloc] at q1 q2 q3)
    go_ret3
    exact ⟨rfl, ((Below.refl _ _).alloc (Nat.le_refl _) _).trans (hb1.mono (by simp))⟩

theorem pcells_append : ∀ (a b : List (Int × Int)), pcells (a ++ b) = pcells a ++ pcells b
  | [], _ => rfl
  | x :: a, b => by simp [pcells, pcells_append a b]

theorem spansS_map (rooms : Nat) (ws : List Wy) : spansS rooms ws = ws.map (spanS rooms ws) := by
  refine List.ext_getElem? fun i => ?_
  unfold spansS
  rw [List.getElem?_map]
  cases hx : ws[i]? with
  | some x => rw [spK_get rooms ws _ i x (lt_of_get hx) hx]; rfl
  | none =>
    have : ws.length ≤ i := by simpa using hx
    rw [List.getElem?_eq_none (by rw [spK_len]; exact this)]; rfl

theorem own_pairs' {w : World} {base n : Nat} {v : Value} {l : List (Int × Int)} (h : w.ownsRow base 72 2 v n (pcells l)) : ∃ A c, v = .slice A l.length c ∧ PairsAt w w.heap.size A l := by
  have hn : n = l.length := by have := h.1; rw [pcells_len] at this; omega
  subst hn
  rcases h.2 with ⟨rfl, h0⟩ | ⟨g, cap, cur, rfl, h2⟩
  · have : l = [] := by simpa using h0
    subst this
    exact ⟨none, 0, rfl, PairsAt.nil _ _ _⟩
  · exact ⟨some ⟨g, 0, none⟩, cap, rfl, own_pairs h⟩

theorem cells_two (w : World) (x y : Int) (t : TypeId) (n : Nat) (hn : n = w.heap.size) : ∀ (j : Nat) (u : Value), [Value.int .i64 x, .int .i64 y][j]? = some u → (w.alloc (.cells #[.int .i64 x, .int .i64 y] t)).cell? ((⟨n, 0, none⟩ : Addr).add j) = some u := by
  subst hn
  intro j u hu
  rcases j with _ | _ | j
  · simp at hu; subst hu; simp [Addr.add, go_sem]
  · simp at hu; subst hu; simp [Addr.add, go_sem]
  · simp at hu

theorem take_map {α β : Type} {l : List α} {k : Nat} {x : α} (f : α → β) (h : l[k]? = some x) : (l.take (k + 1)).map f = (l.take k).map f ++ [f x] := by
  obtain ⟨hk, rfl⟩ := List.getElem?_eq_some_iff.1 h
  rw [List.take_succ_eq_append_getElem hk, List.map_append]
  rfl

set_option maxRecDepth 100000 in
set_option maxHeartbeats 2000000 in
theorem spansR_any (R : Int) (A : Option Addr) (c : Nat) (ws : List Wy) (w : World) (hw : WaysAt w w.heap.size A ws) :
    Calls Tryd.prog 36 #[.agg #[.int .i64 R, .slice A ws.length c]] w (RetPairs w (spsS R ws).1 (spsS R ws).2) := by
  have HC := Lib.hid (fun W hW => agreeR_any R A c ws W hW)
  have hw1 := fun o => (hw.alloc (Nat.le_refl _) o).mono (B' := (w.alloc o).heap.size) (by simp)
  obtain ⟨i0, hi, hz0, hz1, hz2⟩ := info_parts info72
  unfold spsS
  by_cases h0 : chkA R ws = 0
  rotate_left
  · rw [if_neg h0]
    generalize chkA R ws = v at h0 HC ⊢
    go_enter Tryd.func36, Tryd.ntmps36
    go_wp2_with (go_at_call 58; refine (HC.out _ (hw1 _)).mono ?_; rintro e w1 ⟨rfl, hb1⟩; obtain ⟨q1, q2, q3⟩ := bcell hb1; simp only [World.size_alloc] at q1 q2 q3)
    go_ret2
    exact retPairs_none (((Below.refl _ _).alloc (Nat.le_refl _) _).trans (hb1.mono (by simp)))
  rw [if_pos h0]
  obtain ⟨rooms, rfl, _, hv, ha⟩ := chkA_ok h0
  rw [h0] at HC
  rw [show ((rooms : Int).toNat) = rooms from rfl, spansS_map]
  have HS := Lib.hid (fun n x W hx hW => spanR_any rooms n A c ws x W hv ha hx hW)
  generalize spanS rooms ws = f at HS ⊢
  have hlen := hv.len
  clear h0 hv ha
  go_enter Tryd.func36, Tryd.ntmps36
  go_wp2_with (go_at_call 58; refine (HC.out _ (hw1 _)).mono ?_; rintro e w1 ⟨rfl, hb1⟩; obtain ⟨q1, q2, q3⟩ := bcell hb1; simp only [World.size_alloc] at q1 q2 q3)
  have hb0 := ((Below.refl w.heap.size w).alloc (Nat.le_refl _) (.cells #[.int .i64 rooms, .slice A ws.length c] 30)).trans (hb1.mono (by simp))
  have hzz : w.heap.size < w1.heap.size := by omega
  have c0 : w1.cell? ⟨w.heap.size, 0, none⟩ = some (.int .i64 rooms) := by rw [q1 _ _ (Nat.lt_succ_self _)]; simp [go_sem]
  have c1 : w1.cell? ⟨w.heap.size, 1, none⟩ = some (.slice A ws.length c) := by rw [q1 _ _ (Nat.lt_succ_self _)]; simp [go_sem]
  have hw2 := Lib.hid (upw (hw1 _) hb1)
  clear q1 q2 q3 HC hw1 hw hb1
  go_loopw [5, 6] (fun v i wr => ∃ k : Nat, k ≤ ws.length ∧ i = .int .i64 k ∧ wr.ownsRow w1.heap.size 72 2 v k (pcells ((ws.take k).map f)) ∧ Below w1.heap.size w1 wr) (fun _ i _ => ws.length - (intOf i).toNat)
  case atStart => exact ⟨0, Nat.zero_le _, rfl, World.ownsRow_nil _ _ _ _, Below.refl _ _⟩
  case round =>
    obtain ⟨k, hk, rfl, hown, hbw⟩ := hrel
    have d0 := (hbw.cell (p := ⟨w.heap.size, 0, none⟩) hzz).trans c0
    have d1 := (hbw.cell (p := ⟨w.heap.size, 1, none⟩) hzz).trans c1
    have hwr := Lib.hid (upw hw2.out hbw)
    have hsw := hbw.size
    by_cases hlt : k < ws.length
    · have hx : ws[k]? = some ws[k] := List.getElem?_eq_getElem hlt
      generalize ws[k] = x at hx
      have HSx := Lib.hid (fun W hW => HS.out k x W hx hW)
      have HK := Lib.hid (show pcells ((ws.take (k + 1)).map f) = pcells ((ws.take k).map f) ++ [.int .i64 (f x).1, .int .i64 (f x).2] by rw [take_map f hx, pcells_append]; rfl)
      generalize f x = P at HSx HK
      obtain ⟨P1, P2⟩ := P
      dsimp only at HSx HK
      have hki : (k : Int) < (ws.length : Int) := by omega
      clear hx
      go_wp2_with (first
        | (go_at_call 78; refine (HSx.out _ hwr.out).mono ?_; rintro e w2 ⟨rfl, hb2⟩; have hown2 := own_below hown hb2; have hs2 := hb2.size)
        | (at_builtin; refine wpList_append_own _ rfl _ _ 49 rfl w1.heap.size 72 i0 (.agg #[.int .i64 0, .int .i64 0]) 2 16 Tryd.underlying49 hi hz0 hz1 hz2 rfl (by decide) _ _ _ rfl (hown2.alloc _) ⟨w2.heap.size, 0, none⟩ 1 1 [.int .i64 P1, .int .i64 P2] rfl rfl (cells_two _ _ _ _ _ rfl) (fun u hu => by simp at hu; rcases hu with rfl | rfl <;> rfl) (by unfold maxLen; omega) (by omega) (by simp; omega) ?_))
      intro v' w4 hown4 hgrow4 _
      have hbn : Below w1.heap.size w1 w4 := ((hbw.trans (hb2.mono hsw)).alloc (by omega) _).grown hgrow4 (by simp; omega) (fun g hg => (hown2.lt g hg).1)
      clear hgrow4
      go_wp2
      go_roundw
      case rel => exact ⟨k + 1, by omega, by go_num, by rw [HK.out, List.map_take]; exact hown4, hbn⟩
      case measure => simp [intOf]; omega
    · have : k = ws.length := by omega
      subst this
      rw [List.take_length] at hown
      have HO := Lib.hid (own_pairs' hown)
      go_wp2
      go_ret2
      obtain ⟨A2, c2, hv, hA2⟩ := HO.out
      exact ⟨A2, c2, by rw [← hv]; rfl, hA2, hb0.trans (hbw.mono (by omega))⟩

theorem spsS_le {R : Int} {ws : List Wy} (h : (spsS R ws).2 = 0) : ∀ (i : Nat) (p : Int × Int), (spsS R ws).1[i]? = some p → p.1 ≤ p.2 := by
  unfold spsS at h ⊢
  by_cases h0 : chkA R ws = 0
  · obtain ⟨rooms, rfl, _, hv, ha⟩ := chkA_ok h0
    rw [if_pos h0]
    intro i p hp
    rw [show ((rooms : Int).toNat) = rooms from rfl] at hp
    change (spansS rooms ws)[i]? = some p at hp
    rw [spansS_map, List.getElem?_map] at hp
    cases hx : ws[i]? with
    | none => rw [hx] at hp; cases hp
    | some x =>
      rw [hx] at hp
      cases hp
      exact (span_in (rooms := rooms) hx ha hv.okW).2.1
  · rw [if_neg h0] at h; exact absurd h h0

set_option maxRecDepth 100000 in
set_option maxHeartbeats 2000000 in
theorem openR_any (R : Int) (A : Option Addr) (c : Nat) (ws : List Wy) (w : World) (hw : WaysAt w w.heap.size A ws) :
    Calls Tryd.prog 38 #[.agg #[.int .i64 R, .slice A ws.length c]] w (RetList w (opnS R ws).1 (opnS R ws).2) := by
  have HC := Lib.hid (fun W hW => spansR_any R A c ws W hW)
  have hw1 := fun o => (hw.alloc (Nat.le_refl _) o).mono (B' := (w.alloc o).heap.size) (by simp)
  obtain ⟨i0, hi, hz0, hz1, hz2⟩ := info_parts info3
  unfold opnS
  have hsl := spsS_len (R := R) (ws := ws)
  have hle := spsS_le (R := R) (ws := ws)
  generalize spsS R ws = S at HC hsl hle ⊢
  obtain ⟨l, er⟩ := S
  dsimp only at HC hsl hle ⊢
  by_cases h0 : er = 0
  rotate_left
  · rw [if_neg h0]
    go_enter Tryd.func38, Tryd.ntmps38
    go_wp2_with (go_at_call 36; refine (HC.out _ (hw1 _)).mono ?_; rintro e w1 ⟨A', c', rfl, hA', hb1⟩; obtain ⟨q1, q2, q3⟩ := bcell hb1; simp only [World.size_alloc] at q1 q2 q3)
    go_ret2
    exact retList_none (((Below.refl _ _).alloc (Nat.le_refl _) _).trans (hb1.mono (by simp)))
  subst h0
  have hlen := hsl rfl
  have HLE := Lib.hid (hle rfl)
  simp only [if_true]
  clear hsl hle
  go_enter Tryd.func38, Tryd.ntmps38
  go_wp2_with (go_at_call 36; refine (HC.out _ (hw1 _)).mono ?_; rintro e w1 ⟨A', c', rfl, hA', hb1⟩; obtain ⟨q1, q2, q3⟩ := bcell hb1; simp only [World.size_alloc] at q1 q2 q3)
  have hb0 := ((Below.refl w.heap.size w).alloc (Nat.le_refl _) (.cells #[.int .i64 R, .slice A ws.length c] 30)).trans (hb1.mono (by simp))
  clear q1 q2 HC hw1 hw hb1
  go_loopw [6, 7] (fun v i wr => ∃ k : Nat, k ≤ l.length ∧ i = .int .i64 k ∧ wr.ownsRow w1.heap.size 3 1 v (openK l k).length ((openK l k).map (Value.int .i64)) ∧ Below w1.heap.size w1 wr) (fun _ i _ => l.length - (intOf i).toNat)
  case atStart => exact ⟨0, Nat.zero_le _, rfl, World.ownsRow_nil _ _ _ _, Below.refl _ _⟩
  case round =>
    obtain ⟨k, hk, rfl, hown, hbw⟩ := hrel
    have hAA := hA'.below hbw (Nat.le_refl _)
    have hsw := hbw.size
    by_cases hlt : k < l.length
    · have hx : l[k]? = some l[k] := List.getElem?_eq_getElem hlt
      generalize l[k] = p at hx
      have hab1 := HLE.out k _ hx
      obtain ⟨a, b⟩ := p
      obtain ⟨b1, o1, rfl, hb1, h1, h2⟩ := hAA k _ hx
      dsimp only at h1 h2 hab1
      have hko := openK_len l k
      have hki : (k : Int) < (l.length : Int) := by omega
      have hk0 : (0 : Int) ≤ (k : Int) := by omega
      by_cases hab : a = b
      · have HK := Lib.hid (show openK l (k + 1) = openK l k by rw [openK, hx]; simp [hab])
        have hne : decide (a < b) = false := decide_eq_false (by omega)
        clear hx hab hAA hab1
        go_wp2
        go_quiet (fail)
        go_wp2
        go_roundw
        case rel => exact ⟨k + 1, by omega, by go_num, by rw [HK.out]; exact hown, below_drewN' hbw _⟩
        case measure => simp [intOf]; omega
      · have HK := Lib.hid (show openK l (k + 1) = openK l k ++ [(k : Int)] by rw [openK, hx]; simp [hab])
        have hne : decide (a < b) = true := decide_eq_true (by omega)
        clear hx hab hAA hab1
        go_wp2
        go_quiet (fail)
        go_wp2_with (at_builtin; go_must (refine wpList_append_own _ rfl _ _ 25 rfl w1.heap.size 3 i0 (.int .i64 0) 1 8 Tryd.underlying25 hi hz0 hz1 hz2 rfl (by decide) _ _ _ rfl (own_below hown (below_drewN' ((Below.refl _ _).alloc (Nat.le_refl _) _) _)) ⟨wr.heap.size, 0, none⟩ 1 1 [.int .i64 (k : Int)] rfl rfl (cells_one' _ _ _ _ _ (by simp)) (fun u hu => by simp at hu; subst hu; rfl) (by unfold maxLen; omega) (by omega) (by simp; omega) ?_); intro v' w4 hown4 hgrow4 _)
        have hbn : Below w1.heap.size w1 w4 := (below_drewN' (hbw.alloc hsw _) _).grown hgrow4 (by simp; omega) (fun g hg => (hown.lt g hg).1)
        clear hgrow4
        go_wp2
        go_roundw
        case rel => exact ⟨k + 1, by omega, by go_num, by rw [HK.out, List.length_append, List.map_append]; exact hown4, hbn⟩
        case measure => simp [intOf]; omega
    · have : k = l.length := by omega
      subst this
      have HO := Lib.hid (own_ints hown)
      go_wp2
      go_ret2
      obtain ⟨A2, c2, hv, hA2⟩ := HO.out
      exact ⟨A2, c2, by rw [← hv]; rfl, hA2, hb0.trans (hbw.mono (by omega))⟩
end Go.Proofs.YtcebihijnedekaaDoor
