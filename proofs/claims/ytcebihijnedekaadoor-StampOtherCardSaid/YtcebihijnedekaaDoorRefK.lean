/-
  The reference: the first flow of books.
-/
import Derived.Test.YtcebihijnedekaaDoorRefI
import Derived.Test.YtcebihijnedekaaDoorWalkS
import Derived.Test.YtcebihijnedekaaDoorKnownA
namespace Go.Proofs.YtcebihijnedekaaDoor
open Go.RowKit

theorem ways_setCell {w : World} {B : Nat} {ad p : Addr} {ws : List Wy} (h : WaysAt w B (some ad) ws) (hp : ad.block ≠ p.block) (u : Value) : WaysAt (w.setCell p u) B (some ad) ws := by
  intro k x hx
  obtain ⟨b, off, e, h2, h3, h4, h5, h6⟩ := h k x hx
  cases e
  have hne : ∀ o, p ≠ (⟨b, o, none⟩ : Addr) := fun o e => hp (by rw [e])
  exact ⟨b, off, rfl, h2, (World.cell?_setCell_other _ _ _ _ (hne _)).trans h3, (World.cell?_setCell_other _ _ _ _ (hne _)).trans h4, (World.cell?_setCell_other _ _ _ _ (hne _)).trans h5, (World.cell?_setCell_other _ _ _ _ (hne _)).trans h6⟩

theorem ways_grown {w w' : World} {B B' : Nat} {ad : Addr} {ws : List Wy} {row : Option Nat} (h : WaysAt w B (some ad) ws) (hg : w.grownBy w' row) (hB : B ≤ w.heap.size) (hr : row ≠ some ad.block) (hB' : B ≤ B') : WaysAt w' B' (some ad) ws := by
  intro k x hx
  obtain ⟨b, off, e, h2, h3, h4, h5, h6⟩ := h k x hx
  cases e
  have hb := hg.block b (by omega) (fun e => hr e.symm)
  exact ⟨b, off, rfl, by omega, (World.cell?_of_block (a := ⟨b, _, none⟩) hb).trans h3, (World.cell?_of_block (a := ⟨b, _, none⟩) hb).trans h4, (World.cell?_of_block (a := ⟨b, _, none⟩) hb).trans h5, (World.cell?_of_block (a := ⟨b, _, none⟩) hb).trans h6⟩

theorem withL_any {R n : Int} {k : Nat} {A : Option Addr} {c : Nat} {ws : List Wy} {x : Wy} {w : World} (N : Nat) (hN : N = ws.length) (h12 : ws.length ≤ 12) (hx : ws[k]? = some x) (hw : WaysAt w w.heap.size A ws) :
    Calls Tryd.prog 66 #[.agg #[.int .i64 R, .slice A N c], .int .i64 k, .int .i64 n] w fun e w' => ∃ (ad : Addr) (c' : Nat), (e = .returned (.agg #[.int .i64 R, .slice (some ad) N c']) ∧ WaysAt w' w'.heap.size (some ad) (ws.set k (fixW x n)) ∧ Below w.heap.size w w' ∧ w.heap.size ≤ ad.block ∧ ad.block < w'.heap.size) := by
  subst hN
  refine (withB_any R n k A c ws x w h12 hx hw).mono ?_
  rintro e w' ⟨A', c', rfl, h1, h2, h3⟩
  have hk : (ws.set k (fixW x n))[k]? = some (fixW x n) := by rw [getElem?_mem_set (lt_of_get hx), if_pos rfl]
  obtain ⟨b, off, rfl, h4, _⟩ := h1 k _ hk
  exact ⟨⟨b, off, none⟩, c', by rw [List.length_set], h1, h2, h3 _ rfl, h4⟩

theorem canL_any {rooms : Nat} {A : Option Addr} {c : Nat} {ws : List Wy} {w : World} (N : Nat) (hN : N = ws.length) (hv : ValB rooms ws) (hw : WaysAt w w.heap.size A ws) :
    Calls Tryd.prog 55 #[.agg #[.int .i64 rooms, .slice A N c]] w fun e w' => e = .returned (.bool (agrS rooms ws)) ∧ Below w.heap.size w w' := by
  subst hN; exact canR_any rooms A c ws w hv hw

/-- A copy of books, and its block. -/
def RetCopy (w : World) (R : Int) (N : Nat) (ws : List Wy) (e : Ending) (w' : World) : Prop := ∃ (ad : Addr) (c' : Nat), e = .returned (.agg #[.int .i64 R, .slice (some ad) N c']) ∧ WaysAt w' w'.heap.size (some ad) ws ∧ Below w.heap.size w w' ∧ w.heap.size ≤ ad.block ∧ ad.block < w'.heap.size

set_option maxRecDepth 100000 in
set_option maxHeartbeats 1000000 in
theorem firstR_any (rooms : Nat) (A : Option Addr) (c : Nat) (ws : List Wy) (w : World) (hv : ValB rooms ws) (ha : Agr ws) (hw : WaysAt w w.heap.size A ws) :
    Calls Tryd.prog 59 #[.agg #[.int .i64 rooms, .slice A ws.length c]] w (RetInts w (firstS rooms ws)) := by
  obtain ⟨i0, hi, hz0, hz1, hz2⟩ := info_parts info3
  have hlen := hv.len
  have hw1 := (hw.alloc (Nat.le_refl _) (.cells #[.int .i64 rooms, .slice A ws.length c] 30)).mono (B' := (w.alloc (.cells #[.int .i64 rooms, .slice A ws.length c] 30)).heap.size) (by simp)
  go_enter Tryd.func59, Tryd.ntmps59
  go_wp2
  obtain ⟨W0, hW0⟩ : ∃ W0, W0 = w.alloc (.cells #[.int .i64 rooms, .slice A ws.length c] 30) := ⟨_, rfl⟩
  have hz0' : W0.heap.size = w.heap.size + 1 := by rw [hW0]; simp
  have hb0 : Below w.heap.size w W0 := by rw [hW0]; exact (Below.refl _ _).alloc (Nat.le_refl _) _
  have c0 : W0.cell? ⟨w.heap.size, 0, none⟩ = some (.int .i64 rooms) := by rw [hW0]; simp [go_sem]
  have c1 : W0.cell? ⟨w.heap.size, 1, none⟩ = some (.slice A ws.length c) := by rw [hW0]; simp [go_sem]
  have f0 : W0.frozen? ⟨w.heap.size, 0, none⟩ = false := by rw [hW0]; simp [go_sem]
  have f1 : W0.frozen? ⟨w.heap.size, 1, none⟩ = false := by rw [hW0]; simp [go_sem]
  rw [← hW0] at hw1 ⊢
  clear hW0
  go_loopw [3, 4, 5] (fun v i _ wr => ∃ (k : Nat) (A' : Option Addr) (c' : Nat), k ≤ ws.length ∧ i = .int .i64 k ∧ wr.ownsRow (w.heap.size + 1) 3 1 v k ((firstK rooms ws k).map (Value.int .i64)) ∧ Below w.heap.size w wr ∧ w.heap.size < wr.heap.size ∧
    wr.cell? ⟨w.heap.size, 0, none⟩ = some (.int .i64 rooms) ∧ wr.cell? ⟨w.heap.size, 1, none⟩ = some (.slice A' ws.length c') ∧ wr.frozen? ⟨w.heap.size, 0, none⟩ = false ∧ wr.frozen? ⟨w.heap.size, 1, none⟩ = false ∧
    WaysAt wr wr.heap.size A' (keptS ws (firstK rooms ws k))) (fun _ i _ _ => ws.length - (intOf i).toNat)
  case atStart => exact ⟨0, A, c, Nat.zero_le _, rfl, World.ownsRow_nil _ _ _ _, hb0, by omega, c0, c1, f0, f1, by rw [firstK, keptS_nil]; exact hw1⟩
  case round =>
    obtain ⟨k, A', c', hk, rfl, hown, hbw, hsz, d0, d1, g0, g1, hww⟩ := hrel
    obtain ⟨q1, q2, q3, q4, q5⟩ := firstK_spec hv.inW hv.okW ha k hk
    clear c0 c1 f0 f1
    by_cases hlt : k < ws.length
    · have hx : ws[k]? = some ws[k] := List.getElem?_eq_getElem hlt
      generalize ws[k] = x at hx
      obtain ⟨_, _, hx3, hx4, hx5⟩ := hv.way x (mem_of_get hx)
      have hxk : (keptS ws (firstK rooms ws k))[k]? = some x := by rw [keptS_get_ge _ _ _ (by omega)]; exact hx
      have hvk := hv.kept (fl := firstK rooms ws k) q5
      obtain ⟨s1, s2, s3⟩ := span_in (rooms := rooms) hxk q2 hvk.okW
      have HF := Lib.hid (fun n (h : x.lo ≤ n ∧ n ≤ x.hi) => fixS hvk q2 hxk h.1 h.2)
      have HN := Lib.hid (show firstK rooms ws (k + 1) = firstK rooms ws k ++ [(spanS rooms (keptS ws (firstK rooms ws k)) x).1] by simp only [firstK, hx])
      have HM := Lib.hid (keptS_snoc ws (firstK rooms ws k) (spanS rooms (keptS ws (firstK rooms ws k)) x).1 x (by rw [q1]; exact hx))
      have hlk : ws.length = (keptS ws (firstK rooms ws k)).length := (keptS_length _ _).symm
      have HQ1 := Lib.hid q1
      have HVN := Lib.hid (fun n (h : x.lo ≤ n ∧ n ≤ x.hi) => hvk.fix hxk (n := n) (by omega) (by omega))
      have HL12 := Lib.hid hvk.len
      have HXK := Lib.hid hxk
      have hxk' := True.intro
      obtain ⟨b, off, rfl, hb, h1, h2, h3, h4⟩ := hww k x hxk
      generalize keptS ws (firstK rooms ws k) = vs at *
      generalize spanS rooms vs x = P at *
      obtain ⟨P1, P2⟩ := P
      dsimp only at *
      have hki : (k : Int) < (ws.length : Int) := by omega
      have hk0 : (0 : Int) ≤ (k : Int) := by omega
      have HWW := Lib.hid hww
      have hneH : some w.heap.size ≠ u3.ownBlock := fun h => by have := (hown.lt _ h.symm).1; omega
      have hneA : ∀ g, wr.heap.size ≤ g → u3.ownBlock ≠ some g := fun g hg h => by have := (hown.lt _ h).2; omega
      have hownB : ∀ g, u3.ownBlock = some g → w.heap.size ≤ g := fun g h => by have := (hown.lt _ h).1; omega
      have HNE := Lib.hid hneH
      have HNA := Lib.hid hneA
      have HOB := Lib.hid hownB
      clear hneH hneA hownB
      have HLK := Lib.hid hlk
      clear hlk hx hxk' hvk q2 q3 q4 q5 q1 hww hw1 hw
      go_wp2_with fail
      go_loopw [5] (fun v wi => ∃ n : Int, v = .int .i64 n ∧ x.lo ≤ n ∧ n ≤ P1 ∧ Below wr.heap.size wr wi) (fun v _ => (P1 - intOf v).toNat)
      case atStart => exact ⟨x.lo, rfl, Int.le_refl _, s1, Below.refl _ _⟩
      case round =>
        obtain ⟨n, rfl, hn1, hn2, hbi⟩ := hrel
        have r0 := (hbi.cell (p := ⟨w.heap.size, 0, none⟩) hsz).trans d0
        have r1 := (hbi.cell (p := ⟨w.heap.size, 1, none⟩) hsz).trans d1
        have r2 := (hbi.frozen (p := ⟨w.heap.size, 0, none⟩) hsz).trans g0
        have r3 := (hbi.frozen (p := ⟨w.heap.size, 1, none⟩) hsz).trans g1
        have hsi := hbi.size
        have HWi := Lib.hid (upw HWW.out hbi)
        have H66 := Lib.hid (fun W hW => withL_any (R := rooms) (n := n) (w := W) (A := some ⟨b, off, none⟩) (c := c') ws.length HLK.out HL12.out HXK.out hW)
        have H55 := Lib.hid (fun A2 c2 W hW => canL_any (rooms := rooms) (A := A2) (c := c2) (ws := vs.set k (fixW x n)) (w := W) ws.length (by rw [List.length_set]; exact HLK.out) (HVN.out n ⟨hn1, by omega⟩) hW)
        have hf := HF.out n ⟨hn1, by omega⟩
        by_cases hnp : n < P1
        · rw [decide_eq_false (by omega)] at hf
          rw [hf] at H55
          clear hf
          go_wp2_with (first
            | (go_at_call 66; refine (H66.out _ HWi.out).mono ?_; rintro e w2 ⟨ad2, c2, rfl, hA2, hb2, _, _⟩)
            | (go_at_call 55; refine (H55.out _ _ _ hA2).mono ?_; rintro e w3 ⟨rfl, hb3⟩))
          go_roundw
          case rel => exact ⟨n + 1, by go_num, by omega, by omega, hbi.trans ((hb2.mono hsi).trans (hb3.mono (by have := hb2.size; omega)))⟩
          case measure => simp [intOf]; omega
        · have hne : n = P1 := by omega
          subst hne
          rw [decide_eq_true (by omega)] at hf
          rw [hf] at H55
          clear hf
          go_wp2_with (first
            | (go_at_call 55; refine (H55.out _ _ _ hA2).mono ?_; rintro e w3 ⟨rfl, hb3⟩; have hbx := hbi.trans ((hb2.mono hsi).trans (hb3.mono (by have := hb2.size; omega))); have hsx := hbx.size; have t0 := (hbx.cell (p := ⟨w.heap.size, 0, none⟩) hsz).trans d0; have t1 := (hbx.cell (p := ⟨w.heap.size, 1, none⟩) hsz).trans d1; have t2 := (hbx.frozen (p := ⟨w.heap.size, 0, none⟩) hsz).trans g0; have t3 := (hbx.frozen (p := ⟨w.heap.size, 1, none⟩) hsz).trans g1; have HWx := Lib.hid (upw HWW.out hbx); have mk := True.intro)
            | (go_at_call 66; (fail_if_success (have := mk)); refine (H66.out _ HWi.out).mono ?_; rintro e w2 ⟨ad2, c2, rfl, hA2, hb2, _, _⟩)
            | (go_at_call 66; refine (H66.out _ HWx.out).mono ?_; rintro e w5 ⟨ad5, c5, rfl, hA5, hb5, hl5, hu5⟩; have hby := hbx.trans (hb5.mono hsx); have hsy := hby.size; have v0 := (hby.cell (p := ⟨w.heap.size, 0, none⟩) hsz).trans d0; have v1 := (hby.cell (p := ⟨w.heap.size, 1, none⟩) hsz).trans d1; have v2 := (hby.frozen (p := ⟨w.heap.size, 0, none⟩) hsz).trans g0; have v3 := (hby.frozen (p := ⟨w.heap.size, 1, none⟩) hsz).trans g1; have hown5 := ownsRow_setCell_below (ownsRow_setCell_below (own_below hown hby) (a := ⟨w.heap.size, 0, none⟩) (Nat.lt_succ_self _) (.int .i64 rooms)) (a := ⟨w.heap.size, 1, none⟩) (Nat.lt_succ_self _) (.slice (some ad5) ws.length c5))
            | (at_builtin; go_must (refine wpList_append_own _ rfl _ _ 25 rfl (w.heap.size + 1) 3 i0 (.int .i64 0) 1 8 Tryd.underlying25 hi hz0 hz1 hz2 rfl (by decide) _ _ _ rfl (hown5.alloc _) ⟨w5.heap.size, 0, none⟩ 1 1 [.int .i64 n] rfl rfl (cells_one' _ _ _ _ _ (by simp)) (fun u hu => by simp at hu; subst hu; rfl) (by unfold maxLen; omega) (by omega) (by simp; omega) ?_); intro v' w6 hown6 hgrow6 _))
          have kb := hgrow6.block w.heap.size (by simp; omega) HNE.out
          have z0 : w6.cell? ⟨w.heap.size, 0, none⟩ = some (.int .i64 rooms) := (World.cell?_of_block (a := ⟨w.heap.size, 0, none⟩) kb).trans (((below_new _ _).cell (p := ⟨w.heap.size, 0, none⟩) (by simp; omega)).trans (by simp [go_sem, v0]))
          have z1 : w6.cell? ⟨w.heap.size, 1, none⟩ = some (.slice (some ad5) ws.length c5) := (World.cell?_of_block (a := ⟨w.heap.size, 1, none⟩) kb).trans (((below_new _ _).cell (p := ⟨w.heap.size, 1, none⟩) (by simp; omega)).trans (by simp [go_sem, v1]))
          have z2 : w6.frozen? ⟨w.heap.size, 0, none⟩ = false := (World.frozen?_of_block (a := ⟨w.heap.size, 0, none⟩) kb).trans (((below_new _ _).frozen (p := ⟨w.heap.size, 0, none⟩) (by simp; omega)).trans (by simp [go_sem, v2]))
          have z3 : w6.frozen? ⟨w.heap.size, 1, none⟩ = false := (World.frozen?_of_block (a := ⟨w.heap.size, 1, none⟩) kb).trans (((below_new _ _).frozen (p := ⟨w.heap.size, 1, none⟩) (by simp; omega)).trans (by simp [go_sem, v3]))
          have hs6 : w5.heap.size + 1 ≤ w6.heap.size := by have := hgrow6.size; simpa using this
          have hne5 : ad5.block ≠ w.heap.size := by omega
          have hbn : Below w.heap.size w w6 := ((((hbw.trans (hby.mono (by omega))).setCell (p := ⟨w.heap.size, 0, none⟩) (Nat.le_refl _) (.int .i64 rooms)).setCell (p := ⟨w.heap.size, 1, none⟩) (Nat.le_refl _) (.slice (some ad5) ws.length c5)).alloc (by simp; omega) _).grown hgrow6 (by simp; omega) HOB.out
          have hA6 := ways_grown (B' := w6.heap.size) (((ways_setCell (ways_setCell hA5 (p := ⟨w.heap.size, 0, none⟩) hne5 (.int .i64 rooms)) (p := ⟨w.heap.size, 1, none⟩) hne5 (.slice (some ad5) ws.length c5)).alloc (by simp) (.cells #[.int .i64 n] 3))) hgrow6 (by simp) (HNA.out _ (by omega)) (by omega)
          have HA6 := Lib.hid hA6
          clear hA6 hgrow6 kb
          go_wp2
          go_roundw
          case rel => exact ⟨k + 1, some ad5, c5, by omega, by go_num, by rw [HN.out, List.map_append]; exact hown6, hbn, by omega, z0, z1, z2, z3, by rw [HN.out, HM.out, HQ1.out]; exact HA6.out⟩
          case measure => simp [intOf]; omega
    · have : k = ws.length := by omega
      subst this
      have HO := Lib.hid (own_ints hown)
      go_wp2
      go_ret
      obtain ⟨A2, c2, hv2, hA2⟩ := HO.out
      exact ⟨A2, c2, ret_val hv2, hA2, hbw⟩
end Go.Proofs.YtcebihijnedekaaDoor
