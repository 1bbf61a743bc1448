/-
  Whether a block lies in another one; the halves of a part: the walks.
-/
import Derived.Test.YtlollcabnfncpaaDoorDivA
namespace Go.Proofs.YtlollcabnfncpaaDoor
open Go.RowKit Go.Maps

set_option maxHeartbeats 1000000 in
theorem holds_any (p x : Bl) (w : World) :
    Calls Tryd.prog 117 #[.agg #[.int .i64 p.a, .int .i64 p.b, .int .i64 p.c, .int .i64 p.d], .agg #[.int .i64 x.a, .int .i64 x.b, .int .i64 x.c, .int .i64 x.d]] w fun e w' => e = .returned (.bool (holdsB p x)) ∧ Below w.heap.size w w' := by
  have E : holdsB p x = decide (p.a ≤ x.a ∧ x.b ≤ p.b ∧ p.c ≤ x.c ∧ x.d ≤ p.d) := rfl
  generalize holdsB p x = v at E ⊢
  have HE := Lib.hid E
  clear E
  by_cases c1 : p.a ≤ x.a
  · by_cases c2 : x.b ≤ p.b
    · by_cases c3 : p.c ≤ x.c
      · by_cases c4 : x.d ≤ p.d
        all_goals
          go_enter Tryd.func117, Tryd.ntmps117
          go_wp2
          go_ret
          exact ⟨ret_bool (by rw [HE.out]; symm; first | exact decide_eq_true (by omega) | exact decide_eq_false (by omega) | (simp; omega)), ((Below.refl _ _).alloc (Nat.le_refl _) _).alloc (by simp) _⟩
      · go_enter Tryd.func117, Tryd.ntmps117
        go_wp2
        go_ret
        exact ⟨ret_bool (by rw [HE.out]; symm; first | exact decide_eq_true (by omega) | exact decide_eq_false (by omega) | (simp; omega)), ((Below.refl _ _).alloc (Nat.le_refl _) _).alloc (by simp) _⟩
    · go_enter Tryd.func117, Tryd.ntmps117
      go_wp2
      go_ret
      exact ⟨ret_bool (by rw [HE.out]; symm; first | exact decide_eq_true (by omega) | exact decide_eq_false (by omega) | (simp; omega)), ((Below.refl _ _).alloc (Nat.le_refl _) _).alloc (by simp) _⟩
  · go_enter Tryd.func117, Tryd.ntmps117
    go_wp2
    go_ret
    exact ⟨ret_bool (by rw [HE.out]; symm; first | exact decide_eq_true (by omega) | exact decide_eq_false (by omega) | (simp; omega)), ((Below.refl _ _).alloc (Nat.le_refl _) _).alloc (by simp) _⟩

set_option maxRecDepth 100000 in
set_option maxHeartbeats 4000000 in
theorem halves_any (p : Bl) (hp : p.Ok) (A : Option Addr) (c : Nat) (l : List Bl) (w : World) (hA : BlksAt w w.heap.size A l) (hn : l.length < 1000000) :
    Calls Tryd.prog 119 #[.agg #[.int .i64 p.a, .int .i64 p.b, .int .i64 p.c, .int .i64 p.d], .slice A l.length c] w (RetPairs w (halvesB p l)) := by
  have HC := Lib.hid (fun W (h : Below w.heap.size w W) => cuts_any p hp A c l W (hA.up h) hn)
  have hl1 := gapN_len p.a (p.b - p.a - 1).toNat (rowsB l)
  have hl2 := gapN_len p.c (p.d - p.c - 1).toNat (colsB l)
  have HH := Lib.hid (show halvesB p l = (gapL p.a p.b (rowsB l)).map (cutR p) ++ (gapL p.c p.d (colsB l)).map (cutC p) from rfl)
  obtain ⟨⟨a1, a2⟩, ⟨b1, b2⟩, ⟨c1, c2⟩, d1, d2⟩ := hp
  have hL1 : (gapL p.a p.b (rowsB l)).length ≤ 6 := Nat.le_trans hl1 (by omega)
  have hL2 : (gapL p.c p.d (colsB l)).length ≤ 6 := Nat.le_trans hl2 (by omega)
  unfold RetCuts at HC
  generalize gapL p.a p.b (rowsB l) = R at *
  generalize gapL p.c p.d (colsB l) = C at *
  generalize halvesB p l = H at *
  clear hl1 hl2 a1 a2 b1 b2 c1 c2 d1 d2
  go_enter Tryd.func119, Tryd.ntmps119
  go_wp2_with (go_at_call 73; refine (HC.out _ (below_new _ _)).mono ?_; rintro e w1 ⟨A1, k1, A2, k2, rfl, hA1, hA2, hb1⟩)
  have hb0 := below_via hb1
  have p0 := (hb1.cell (p := ⟨w.heap.size, 0, none⟩) (by simp)).trans (show _ = some (Value.int .i64 p.a) by simp [go_sem])
  have p1 := (hb1.cell (p := ⟨w.heap.size, 1, none⟩) (by simp)).trans (show _ = some (Value.int .i64 p.b) by simp [go_sem])
  have p2 := (hb1.cell (p := ⟨w.heap.size, 2, none⟩) (by simp)).trans (show _ = some (Value.int .i64 p.c) by simp [go_sem])
  have p3 := (hb1.cell (p := ⟨w.heap.size, 3, none⟩) (by simp)).trans (show _ = some (Value.int .i64 p.d) by simp [go_sem])
  have hz1 := hb1.size
  simp only [World.size_alloc] at hz1
  have hwz : w.heap.size < w1.heap.size := by omega
  have H1 := Lib.hid hA1
  have H2 := Lib.hid hA2
  have HB := Lib.hid hb0
  clear hA1 hA2 hb0 hb1 hA
  go_loopw [7, 24] (fun v i wr => ∃ k : Nat, k ≤ R.length ∧ i = .int .i64 k ∧ wr.ownsRow w1.heap.size 193 8 v k (paircells ((R.take k).map (cutR p))) ∧ Below w1.heap.size w1 wr) (fun _ i _ => R.length - (intOf i).toNat)
  case atStart => exact ⟨0, by omega, rfl, World.ownsRow_nil _ _ _ _, Below.refl _ _⟩
  case round =>
    obtain ⟨k, hk, rfl, hown, hbr⟩ := hrel
    have r0 := (hbr.cell (p := ⟨w.heap.size, 0, none⟩) hwz).trans p0
    have r1 := (hbr.cell (p := ⟨w.heap.size, 1, none⟩) hwz).trans p1
    have r2 := (hbr.cell (p := ⟨w.heap.size, 2, none⟩) hwz).trans p2
    have r3 := (hbr.cell (p := ⟨w.heap.size, 3, none⟩) hwz).trans p3
    have hzr := hbr.size
    have hwr : w.heap.size < wr.heap.size := by omega
    by_cases hlt : k < R.length
    · have hx : R[k]? = some R[k] := List.getElem?_eq_getElem hlt
      generalize R[k] = x at hx
      have HT := Lib.hid (take_snoc hx)
      obtain ⟨b, off, rfl, hb, d0⟩ := H1.out k x hx
      replace d0 := (hbr.cell (p := ⟨b, _, none⟩) (by simp; omega)).trans d0
      have hbz : b < wr.heap.size := by omega
      clear hx
      go_wp2
      go_region
      all_goals
        go_wp2_with (at_builtin; refine wpList_append_pair _ rfl _ _ rfl w1.heap.size _ _ _ _ (cutR p x) rfl (by exact ((hown.alloc _).alloc _).alloc _) rfl (heap_at _ _ _ (by first | rfl | simp)) (by omega) (by simp; omega) ?_; intro A5 c5 w5 hown5 hgr5 _)
        go_roundw
        case rel => exact ⟨k + 1, by omega, by go_num, by rw [HT.out, List.map_append]; exact hown5, (((hbr.alloc hzr _).alloc (by simp; omega) _).drew.alloc (by simp; omega) _).grown hgr5 (by simp; omega) (fun g hg => (hown.lt g hg).1)⟩
        case measure => simp [intOf]; omega
    · have e : (R.take k).map (cutR p) = R.map (cutR p) := by rw [List.take_of_length_le (by omega)]
      rw [e] at hown
      have hkl : k = R.length := by omega
      have HKL := Lib.hid hkl
      have H2' := Lib.hid (H2.out.below hbr (Nat.le_refl _))
      have HB2 := Lib.hid (HB.out.trans (hbr.mono (by omega)))
      obtain ⟨W0, hW0⟩ : ∃ W0 : World, W0 = wr := ⟨_, rfl⟩
      rw [← hW0] at hown r0 r1 r2 r3 hzr hwr H2' HB2 ⊢
      clear hW0 hkl e hbr p0 p1 p2 p3
      have HOW := Lib.hid hown
      clear hown
      go_wp2
      go_loopw [7, 45] (fun v i wr => ∃ j : Nat, j ≤ C.length ∧ i = .int .i64 j ∧ wr.ownsRow w1.heap.size 193 8 v (k + j) (paircells (R.map (cutR p) ++ (C.take j).map (cutC p))) ∧ Below w1.heap.size W0 wr ∧ W0.heap.size ≤ wr.heap.size) (fun _ i _ => C.length - (intOf i).toNat)
      case atStart => exact ⟨0, by omega, rfl, by simpa using HOW.out, Below.refl _ _, Nat.le_refl _⟩
      case round =>
        obtain ⟨j, hj, rfl, hown, hbr, hzz⟩ := hrel
        have q0 := (hbr.cell (p := ⟨w.heap.size, 0, none⟩) (by simp; omega)).trans r0
        have q1 := (hbr.cell (p := ⟨w.heap.size, 1, none⟩) (by simp; omega)).trans r1
        have q2 := (hbr.cell (p := ⟨w.heap.size, 2, none⟩) (by simp; omega)).trans r2
        have q3 := (hbr.cell (p := ⟨w.heap.size, 3, none⟩) (by simp; omega)).trans r3
        have hwr2 : w.heap.size < wr.heap.size := by omega
        by_cases hlt2 : j < C.length
        · have hx : C[j]? = some C[j] := List.getElem?_eq_getElem hlt2
          generalize C[j] = x at hx
          have HT := Lib.hid (take_snoc hx)
          obtain ⟨b, off, rfl, hb, d0⟩ := H2'.out j x hx
          replace d0 := (hbr.cell (p := ⟨b, _, none⟩) (by simp; omega)).trans d0
          have hbz : b < wr.heap.size := by omega
          clear hx
          go_wp2
          go_region
          all_goals
            go_wp2_with (at_builtin; refine wpList_append_pair _ rfl _ _ rfl w1.heap.size _ _ _ _ (cutC p x) rfl (by exact ((hown.alloc _).alloc _).alloc _) rfl (heap_at _ _ _ (by first | rfl | simp)) (by omega) (by simp; omega) ?_; intro A5 c5 w5 hown5 hgr5 _)
            go_roundw
            case rel => exact ⟨j + 1, by omega, by go_num, by rw [HT.out, List.map_append, ← List.append_assoc]; exact hown5, (((hbr.alloc (by omega) _).alloc (by simp; omega) _).drew.alloc (by simp; omega) _).grown hgr5 (by simp; omega) (fun g hg => (hown.lt g hg).1), by have := (Chg.of_grown hgr5).size; simp at this; omega⟩
            case measure => simp [intOf]; omega
        · have e : (C.take j).map (cutC p) = C.map (cutC p) := by rw [List.take_of_length_le (by omega)]
          rw [e, ← HH.out] at hown
          obtain ⟨A', c', rfl, hA', _⟩ := own_pairs hown
          have HR := Lib.hid (show RetPairs w H (.returned (.slice A' H.length c')) wr from ⟨A', c', rfl, hA', HB2.out.trans (hbr.mono (by omega)), fun ad h => by have := own_block_ge hown ad h; omega⟩)
          clear hA' hown e
          go_wp2
          go_ret
          exact HR.out
end Go.Proofs.YtlollcabnfncpaaDoor
