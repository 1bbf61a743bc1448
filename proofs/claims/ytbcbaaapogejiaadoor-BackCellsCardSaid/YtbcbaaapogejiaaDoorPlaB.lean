/-
  The cells that a turn takes colours from, one by one.
-/
import Derived.Test.YtbcbaaapogejiaaDoorPlaA
namespace Go.Proofs.YtbcbaaapogejiaaDoor
open Go.RowKit

theorem srow_b {R : Nat} {m : Mv} {row col : Nat} (hR : R ≤ 4) (h1 : row < 4) (h2 : col < 4) : -4 ≤ srow R m row col ∧ srow R m row col ≤ 4 := by
  unfold srow
  repeat' split
  all_goals omega
theorem scol_b {C : Nat} {m : Mv} {row col : Nat} (hC : C ≤ 4) (h1 : row < 4) (h2 : col < 4) : -4 ≤ scol C m row col ∧ scol C m row col ≤ 4 := by
  unfold scol
  repeat' split
  all_goals omega
theorem mul_b {r : Int} {C : Nat} (h : -4 ≤ r ∧ r ≤ 4) (hC : C ≤ 4) : -16 ≤ r * C ∧ r * C ≤ 16 := by
  rcases C with _ | _ | _ | _ | _ | C <;> omega
theorem mulC_lt {R C row col : Nat} (h1 : row < R) (h2 : col < C) : row * C + col < R * C := by
  have : (row + 1) * C ≤ R * C := Nat.mul_le_mul_right C h1
  rw [Nat.add_mul, Nat.one_mul] at this
  omega
theorem srcs_get {R C row col : Nat} (m : Mv) (h1 : row < R) (h2 : col < C) : (srcs R C m)[row * C + col]? = some (srow R m row col * C + scol C m row col) := by
  have hlt := mulC_lt h1 h2
  have hC : 0 < C := by omega
  unfold srcs
  rw [List.getElem?_map, List.getElem?_range hlt]
  have e1 : (row * C + col) / C = row := by
    rw [Nat.mul_comm, Nat.mul_add_div hC, Nat.div_eq_of_lt h2, Nat.add_zero]
  have e2 : (row * C + col) % C = col := by
    rw [Nat.mul_comm, Nat.mul_add_mod, Nat.mod_eq_of_lt h2]
  simp only [Option.map_some, cellI, e1, e2]

set_option maxRecDepth 100000 in
set_option maxHeartbeats 8000000 in
theorem sources_any (R C : Nat) (K : Int) (TA FA : Option Addr) (n tc fn fc : Nat) (m : Mv) (w : World) (hR : R ≤ 4) (hC : C ≤ 4) :
    Calls Tryd.prog 122 #[.agg #[.int .i64 R, .int .i64 C, .int .i64 K, .slice TA n tc, .slice FA fn fc], .agg #[.bool m.x, .bool m.r, .bool m.c]] w (RetInts w (srcs R C m)) := by
  obtain ⟨i0, hi, hz0, hz1, hz2⟩ := info_parts info3
  have hRC : R * C ≤ 16 := Nat.le_trans (Nat.mul_le_mul hR hC) (by omega)
  have HC := Lib.hid (fun W => cells_any R C K (.slice TA n tc) (.slice FA fn fc) W (by omega) (by omega))
  have HL := Lib.hid (srcs_len R C m)
  generalize hN : R * C = N at HC hRC
  have hN' := Lib.hid hN
  clear hN
  go_enter Tryd.func122, Tryd.ntmps122
  go_wp2_with (first
    | (go_at_call 88; refine (HC.out _).mono ?_; rintro e w0 ⟨rfl, hb0⟩; have hs0 : w.heap.size + 2 ≤ w0.heap.size := (by have := hb0.size; simp at this; omega); have hbx : Below w.heap.size w w0 := (((Below.refl _ _).alloc (Nat.le_refl _) _).alloc (by simp) _).trans (hb0.mono (by simp; omega)); have c0 : w0.cell? ⟨w.heap.size, 0, none⟩ = some (.int .i64 R) := (hb0.cell (p := ⟨w.heap.size, 0, none⟩) (by simp <;> omega)).trans (by simp [go_sem]); have c1 : w0.cell? ⟨w.heap.size, 1, none⟩ = some (.int .i64 C) := (hb0.cell (p := ⟨w.heap.size, 1, none⟩) (by simp <;> omega)).trans (by simp [go_sem]); have c2 : w0.cell? ⟨w.heap.size, 2, none⟩ = some (.int .i64 K) := (hb0.cell (p := ⟨w.heap.size, 2, none⟩) (by simp <;> omega)).trans (by simp [go_sem]); have c3 : w0.cell? ⟨w.heap.size, 3, none⟩ = some (.slice TA n tc) := (hb0.cell (p := ⟨w.heap.size, 3, none⟩) (by simp <;> omega)).trans (by simp [go_sem]); have c4 : w0.cell? ⟨w.heap.size, 4, none⟩ = some (.slice FA fn fc) := (hb0.cell (p := ⟨w.heap.size, 4, none⟩) (by simp <;> omega)).trans (by simp [go_sem]); have d0 : w0.cell? ⟨w.heap.size + 1, 0, none⟩ = some (.bool m.x) := (hb0.cell (p := ⟨w.heap.size + 1, 0, none⟩) (by simp <;> omega)).trans (by simp [go_sem]); have d1 : w0.cell? ⟨w.heap.size + 1, 1, none⟩ = some (.bool m.r) := (hb0.cell (p := ⟨w.heap.size + 1, 1, none⟩) (by simp <;> omega)).trans (by simp [go_sem]); have d2 : w0.cell? ⟨w.heap.size + 1, 2, none⟩ = some (.bool m.c) := (hb0.cell (p := ⟨w.heap.size + 1, 2, none⟩) (by simp <;> omega)).trans (by simp [go_sem]); clear hb0)
    | (at_make; go_must (refine wpList_make_own _ rfl _ _ 22 rfl (w.heap.size + 2) 3 i0 (.int .i64 0) 1 Tryd.underlying22 hi hz0 hz1 .i64 .i64 _ N rfl rfl rfl (by rw [hz2]; omega) (by unfold maxLen; omega) hs0 ?_); intro w1 hown0 hgrow0; have hb1 := (Below.refl w0.heap.size w0).grown hgrow0 (Nat.le_refl _) (fun g hg => by cases hg); clear hgrow0; have hs1 : w.heap.size + 2 ≤ w1.heap.size := Nat.le_trans hs0 hb1.size; have hbw1 : Below w.heap.size w w1 := hbx.trans (hb1.mono hbx.size); have HP := Lib.hid (fun W (h : Below (w.heap.size + 2) w1 W) => show W.cell? ⟨w.heap.size, 0, none⟩ = some (.int .i64 R) ∧ W.cell? ⟨w.heap.size, 1, none⟩ = some (.int .i64 C) ∧ W.cell? ⟨w.heap.size, 2, none⟩ = some (.int .i64 K) ∧ W.cell? ⟨w.heap.size, 3, none⟩ = some (.slice TA n tc) ∧ W.cell? ⟨w.heap.size, 4, none⟩ = some (.slice FA fn fc) from ⟨((h.cell (p := ⟨w.heap.size, 0, none⟩) (by simp)).trans (hb1.cell (p := ⟨w.heap.size, 0, none⟩) (by simp; omega))).trans c0, ((h.cell (p := ⟨w.heap.size, 1, none⟩) (by simp)).trans (hb1.cell (p := ⟨w.heap.size, 1, none⟩) (by simp; omega))).trans c1, ((h.cell (p := ⟨w.heap.size, 2, none⟩) (by simp)).trans (hb1.cell (p := ⟨w.heap.size, 2, none⟩) (by simp; omega))).trans c2, ((h.cell (p := ⟨w.heap.size, 3, none⟩) (by simp)).trans (hb1.cell (p := ⟨w.heap.size, 3, none⟩) (by simp; omega))).trans c3, ((h.cell (p := ⟨w.heap.size, 4, none⟩) (by simp)).trans (hb1.cell (p := ⟨w.heap.size, 4, none⟩) (by simp; omega))).trans c4⟩); have HM := Lib.hid (fun W (h : Below (w.heap.size + 2) w1 W) => show W.cell? ⟨w.heap.size + 1, 0, none⟩ = some (.bool m.x) ∧ W.cell? ⟨w.heap.size + 1, 1, none⟩ = some (.bool m.r) ∧ W.cell? ⟨w.heap.size + 1, 2, none⟩ = some (.bool m.c) from ⟨((h.cell (p := ⟨w.heap.size + 1, 0, none⟩) (by simp)).trans (hb1.cell (p := ⟨w.heap.size + 1, 0, none⟩) (by simp; omega))).trans d0, ((h.cell (p := ⟨w.heap.size + 1, 1, none⟩) (by simp)).trans (hb1.cell (p := ⟨w.heap.size + 1, 1, none⟩) (by simp; omega))).trans d1, ((h.cell (p := ⟨w.heap.size + 1, 2, none⟩) (by simp)).trans (hb1.cell (p := ⟨w.heap.size + 1, 2, none⟩) (by simp; omega))).trans d2⟩); clear c0 c1 c2 c3 c4 d0 d1 d2 hb1 hbx hs0 HC; have hq0 := (HP.out w1 (Below.refl _ _)).1))
  go_loopw [5, 16] (fun v i wr => ∃ row : Nat, row ≤ R ∧ i = .int .i64 row ∧ wr.ownsRow (w.heap.size + 2) 3 1 v (row * C) (((srcs R C m).take (row * C)).map (Value.int .i64)) ∧ Below (w.heap.size + 2) w1 wr) (fun _ i _ => R - (intOf i).toNat)
  case atStart => exact ⟨0, Nat.zero_le _, rfl, by simpa using hown0, Below.refl _ _⟩
  case round =>
    obtain ⟨row, hrow, rfl, hown, hbw⟩ := hrel
    obtain ⟨p0, p1, p2, p3, p4⟩ := HP.out _ hbw
    by_cases hlt : row < R
    · have hri : (row : Int) < (R : Int) := by omega
      go_wp2
      clear p0 p1 p2 p3 p4
      go_loopw [5, 22] (fun v i wr => ∃ col : Nat, col ≤ C ∧ i = .int .i64 col ∧ wr.ownsRow (w.heap.size + 2) 3 1 v (row * C + col) (((srcs R C m).take (row * C + col)).map (Value.int .i64)) ∧ Below (w.heap.size + 2) w1 wr) (fun _ i _ => C - (intOf i).toNat)
      case atStart => exact ⟨0, Nat.zero_le _, rfl, hown, hbw⟩
      case round =>
        clear hown hbw
        obtain ⟨col, hcol, rfl, hown, hbw⟩ := hrel
        obtain ⟨p0, p1, p2, p3, p4⟩ := HP.out _ hbw
        obtain ⟨m0, m1, m2⟩ := HM.out _ hbw
        have hsz := hbw.size
        have h1w : w.heap.size < wr.heap.size := by omega
        have h2w : w.heap.size + 1 < wr.heap.size := by omega
        by_cases hlt2 : col < C
        · have hci : (col : Int) < (C : Int) := by omega
          have hg := srcs_get m hlt hlt2
          have hb1 := srow_b (m := m) hR (show row < 4 by omega) (show col < 4 by omega)
          have hb2 := scol_b (m := m) hC (show row < 4 by omega) (show col < 4 by omega)
          have hb3 := mul_b hb1 hC
          have HS := Lib.hid (fun W => source_any R C K (.slice TA n tc) m row col W (by omega) (by omega) (by omega) (by omega))
          have HT := Lib.hid (take_snoc hg)
          have hk : row * C + col < 1000000 := by have := mulC_lt hlt hlt2; have := hN'.out; omega
          generalize srow R m row col = r at *
          generalize scol C m row col = c at *
          have e1 : IntKind.i64.wrap (r * (C : Int)) = r * C := IntWalk.i64_in _ (by omega)
          have e2 : IntKind.i64.wrap (r * (C : Int) + c) = r * C + c := IntWalk.i64_in _ (by omega)
          clear hg
          go_wp2_with (first
            | (go_at_call 140; refine (HS.out _).mono ?_; rintro e w2 ⟨rfl, hb2'⟩; have hs2 := hb2'.size; obtain ⟨q0, q1, q2, q3, q4⟩ := HP.out _ (hbw.trans (hb2'.mono (by omega))))
            | (at_builtin; go_must (refine wpList_append_int _ rfl _ _ rfl (w.heap.size + 2) (row * C + col) w2.heap.size _ _ (r * C + c) rfl ((own_below hown hb2').alloc _) rfl (heap_new _ _) hk (by simp; omega) ?_); intro A4 c4 w4 hown4 hgrow4 _))
          have hbn : Below (w.heap.size + 2) w1 w4 := ((hbw.trans (hb2'.mono (by omega))).alloc (by omega) _).grown hgrow4 (by simp; omega) (fun g hg => (hown.lt g hg).1)
          clear q0 q1 q2 q3 q4 p0 p1 p2 p3 p4 m0 m1 m2
          go_wp2
          go_roundw
          case rel => exact ⟨col + 1, by omega, by go_num, by rw [← Nat.add_assoc, HT.out]; exact hown4, hbn⟩
          case measure => simp [intOf]; omega
        · have e : col = C := by omega
          have e' : row * C + col = (row + 1) * C := by rw [Nat.add_mul, Nat.one_mul, e]
          rw [e'] at hown
          have hci : ¬ (col : Int) < (C : Int) := by omega
          clear e e' p0 p1 p2 p3 p4 m0 m1 m2
          go_wp2
          go_roundw
          case rel => exact ⟨row + 1, by omega, by go_num, hown, hbw⟩
          case measure => simp [intOf]; omega
    · have e : row = R := by omega
      subst e
      rw [show (srcs row C m).take (row * C) = srcs row C m from List.take_of_length_le (by rw [HL.out]; omega)] at hown
      obtain ⟨A', c', rfl, hA', _, hge⟩ := own_ints hown
      have hlt' := hown.lt
      clear p0 p1 p2 p3 p4 hown
      go_wp2
      go_ret
      exact ⟨A', c', rfl, hA', hbw1.trans (hbw.mono (by omega)), fun ad had => ⟨by have := (hge ad had).1; omega, by subst had; exact (hlt' _ rfl).2⟩⟩
end Go.Proofs.YtbcbaaapogejiaaDoor
