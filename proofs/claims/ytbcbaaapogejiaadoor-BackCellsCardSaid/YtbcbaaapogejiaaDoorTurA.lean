/-
  Walks of turns.go: what turns do, their products, whether a list of them is closed.
-/
import Derived.Test.YtbcbaaapogejiaaDoorBase
import Derived.Deep.QuietTactic
import Derived.BigQuiet
import Derived.RegionTactic
import Derived.Laws.StructEq
import Derived.Deep.Cut
import Derived.Deep.DeepCutAuto
import Derived.Deep.RegionWith
import Derived.Deep.RegionHeld3
namespace Go.Proofs.YtbcbaaapogejiaaDoor
open Go.RowKit

def mvV (m : Mv) : Value := .agg #[.bool m.x, .bool m.r, .bool m.c]

theorem isTurn_any (n : Int) (w : World) : Calls Tryd.prog 67 #[.int .i64 n] w fun e w' => e = .returned (.bool (decide (0 ≤ n ∧ n < 8))) ∧ w' = w := by
  by_cases h1 : 0 ≤ n
  · by_cases h2 : n < 8
    · rw [decide_eq_true ⟨h1, h2⟩]
      go_enter Tryd.func67, Tryd.ntmps67
      go_wp2
      go_ret
      exact ⟨by first | rfl | exact ret_bool (decide_eq_true (by omega)), rfl⟩
    · rw [decide_eq_false (fun h => h2 h.2)]
      go_enter Tryd.func67, Tryd.ntmps67
      go_wp2
      go_ret
      exact ⟨by first | rfl | exact ret_bool (decide_eq_false (by omega)), rfl⟩
  · rw [decide_eq_false (fun h => h1 h.1)]
    go_enter Tryd.func67, Tryd.ntmps67
    go_wp2
    go_ret
    exact ⟨by first | rfl | exact ret_bool (decide_eq_false (by omega)), rfl⟩

set_option maxHeartbeats 1000000 in
theorem then_any (m n : Mv) (w : World) : Calls Tryd.prog 119 #[.agg #[.bool m.x, .bool m.r, .bool m.c], .agg #[.bool n.x, .bool n.r, .bool n.c]] w fun e w' => e = .returned (.agg #[.bool (thenM m n).x, .bool (thenM m n).r, .bool (thenM m n).c]) ∧ Below w.heap.size w w' := by
  obtain ⟨x, r, c⟩ := m
  obtain ⟨x', r', c'⟩ := n
  rcases x with _ | _
  all_goals
    go_enter Tryd.func119, Tryd.ntmps119
    go_wp2
    go_quiet (fail)
    go_wp2
    refine bodyPost_ret (v := .agg #[.bool _, .bool _, .bool _]) (by simp [results, Tryd.results119, go_sem, thenM]; cases r <;> cases c <;> cases r' <;> cases c' <;> decide) rfl ⟨rfl, ?_⟩
    exact ((((below_drewN ((((Below.refl _ _).alloc (Nat.le_refl _) _).alloc (by simp) _).alloc (by simp; omega) _) _).setCell (by simp; omega) _).setCell (by simp; omega) _).setCell (by simp; omega) _)
theorem below_drew {w w1 : World} (h : Below w.drew.heap.size w.drew w1) : Below w.heap.size w w1 := ⟨h.os, h.tape, h.output, h.size, h.block⟩
theorem new3 (W : World) (a b c : Value) (t : TypeId) : (W.alloc (.cells #[a, b, c] t)).cell? ⟨W.heap.size, 0, none⟩ = some a ∧ (W.alloc (.cells #[a, b, c] t)).cell? ⟨W.heap.size, 1, none⟩ = some b ∧ (W.alloc (.cells #[a, b, c] t)).cell? ⟨W.heap.size, 2, none⟩ = some c :=
  ⟨by rw [cell_of_row _ _ _ _ _ _ (heap_new _ _)]; rfl, by rw [cell_of_row _ _ _ _ _ _ (heap_new _ _)]; rfl, by rw [cell_of_row _ _ _ _ _ _ (heap_new _ _)]; rfl⟩

theorem set3 {W : World} {g : Nat} {x y z a b c : Value} (h : W.cell? ⟨g, 0, none⟩ = some a ∧ W.cell? ⟨g, 1, none⟩ = some b ∧ W.cell? ⟨g, 2, none⟩ = some c) :
    (((W.setCell ⟨g, 0, none⟩ x).setCell ⟨g, 1, none⟩ y).setCell ⟨g, 2, none⟩ z).cell? ⟨g, 0, none⟩ = some x ∧ (((W.setCell ⟨g, 0, none⟩ x).setCell ⟨g, 1, none⟩ y).setCell ⟨g, 2, none⟩ z).cell? ⟨g, 1, none⟩ = some y ∧
    (((W.setCell ⟨g, 0, none⟩ x).setCell ⟨g, 1, none⟩ y).setCell ⟨g, 2, none⟩ z).cell? ⟨g, 2, none⟩ = some z := by
  have n : ∀ i j : Nat, i ≠ j → (⟨g, i, none⟩ : Addr) ≠ ⟨g, j, none⟩ := fun i j h e => h (by injection e)
  refine ⟨?_, ?_, ?_⟩
  · rw [World.cell?_setCell_other _ _ _ _ (n 2 0 (by decide)), World.cell?_setCell_other _ _ _ _ (n 1 0 (by decide))]
    exact World.cell?_setCell_same _ _ _ h.1
  · rw [World.cell?_setCell_other _ _ _ _ (n 2 1 (by decide))]
    exact World.cell?_setCell_same _ _ _ ((World.cell?_setCell_other _ _ _ _ (n 0 1 (by decide))).trans h.2.1)
  · exact World.cell?_setCell_same _ _ _ ((World.cell?_setCell_other _ _ _ _ (n 1 2 (by decide))).trans ((World.cell?_setCell_other _ _ _ _ (n 0 2 (by decide))).trans h.2.2))

/-- The table of what each turn does. -/
def MovW (w : World) : Prop := 0 < w.heap.size ∧ ∀ t, t < 8 → w.cell? ⟨0, t * 3, none⟩ = some (.bool (mv t).x) ∧ w.cell? ⟨0, t * 3 + 1, none⟩ = some (.bool (mv t).r) ∧ w.cell? ⟨0, t * 3 + 2, none⟩ = some (.bool (mv t).c)
theorem MovW.below {w w' : World} (h : MovW w) (hb : Below w.heap.size w w') : MovW w' :=
  ⟨Nat.lt_of_lt_of_le h.1 hb.size, fun t ht => ⟨(hb.cell (p := ⟨0, _, none⟩) h.1).trans (h.2 t ht).1, (hb.cell (p := ⟨0, _, none⟩) h.1).trans (h.2 t ht).2.1, (hb.cell (p := ⟨0, _, none⟩) h.1).trans (h.2 t ht).2.2⟩⟩

def movCells : List Value := mvs.flatMap fun m => [.bool m.x, .bool m.r, .bool m.c]
theorem MovW.range {w : World} (h : MovW w) : w.rangeAt 0 0 movCells := by
  intro j v hj
  have hl : movCells.length = 24 := rfl
  have hj' : j < 24 := hl ▸ lt_of_get hj
  obtain ⟨_, h⟩ := h
  rw [Nat.zero_add]
  have k : ∀ t, t < 8 → movCells[t * 3]? = some (.bool (mv t).x) ∧ movCells[t * 3 + 1]? = some (.bool (mv t).r) ∧ movCells[t * 3 + 2]? = some (.bool (mv t).c) := by
    intro t ht
    rcases t with _ | _ | _ | _ | _ | _ | _ | _ | t
    · exact ⟨rfl, rfl, rfl⟩
    · exact ⟨rfl, rfl, rfl⟩
    · exact ⟨rfl, rfl, rfl⟩
    · exact ⟨rfl, rfl, rfl⟩
    · exact ⟨rfl, rfl, rfl⟩
    · exact ⟨rfl, rfl, rfl⟩
    · exact ⟨rfl, rfl, rfl⟩
    · exact ⟨rfl, rfl, rfl⟩
    · omega
  obtain ⟨k1, k2, k3⟩ := k (j / 3) (by omega)
  obtain ⟨h1, h2, h3⟩ := h (j / 3) (by omega)
  have hm : j = j / 3 * 3 ∨ j = j / 3 * 3 + 1 ∨ j = j / 3 * 3 + 2 := by omega
  generalize j / 3 = q at *
  rcases hm with rfl | rfl | rfl
  · rw [h1, ← hj, k1]
  · rw [h2, ← hj, k2]
  · rw [h3, ← hj, k3]
theorem movIndex (k : Nat) (h : k < 8) (m : Mv) (hm : mv k = m) (w : World) : (Instr.index 111 (.agg movCells.toArray) (.int .i64 k)).run Tryd.prog w = .ok (.agg #[.bool m.x, .bool m.r, .bool m.c]) w := by
  subst hm
  rcases k with _ | _ | _ | _ | _ | _ | _ | _ | k
  · kernel_rfl
  · kernel_rfl
  · kernel_rfl
  · kernel_rfl
  · kernel_rfl
  · kernel_rfl
  · kernel_rfl
  · kernel_rfl
  · omega

theorem eq110 : Tryd.prog.underlying 110 = some (.struct (Tryd.prog.fieldsOf 110)) := by
  unfold Program.fieldsOf
  rw [Tryd.underlying110]
theorem stood110 : Tryd.prog.stoodInHeld 110 = false := by kernel_rfl
theorem eql110 (m n : Mv) (w : World) : (binOp .eql 110 (.agg #[.bool m.x, .bool m.r, .bool m.c]) (.agg #[.bool n.x, .bool n.r, .bool n.c])).run Tryd.prog w = .ok (.bool (decide (m = n))) w := by
  obtain ⟨a, b, t⟩ := m
  obtain ⟨a', b', t'⟩ := n
  rw [run_eql_struct, run_equalIn_agg w 9999 110 _ _ eq110 stood110]
  unfold Program.fieldsOf
  rw [Tryd.underlying110]
  simp [Op.eqFields, go_sem, Tryd.underlying4]
  cases a <;> cases a' <;> cases b <;> cases b' <;> cases t <;> cases t' <;> simp

set_option maxRecDepth 100000 in
set_option maxHeartbeats 4000000 in
theorem product_any (a b : Nat) (w : World) (hw : MovW w) (ha : a < 8) (hb : b < 8) : Calls Tryd.prog 68 #[.int .i64 a, .int .i64 b] w fun e w' => e = .returned (.int .i64 (prodN a b : Nat)) ∧ Below w.heap.size w w' := by
  obtain ⟨a0, a1, a2⟩ := hw.2 a ha
  obtain ⟨b0, b1, b2⟩ := hw.2 b hb
  have h0 := hw.1
  have h00 : ¬ (0 = w.heap.size) := by omega
  have ha' : (a : Int) < 8 := by omega
  have hb' : (b : Int) < 8 := by omega
  have HT := Lib.hid (fun W => then_any (mv a) (mv b) W)
  have HP : prodN a b = turnOf (thenM (mv a) (mv b)) 8 := rfl
  generalize thenM (mv a) (mv b) = M at HT HP
  obtain ⟨x, r, c⟩ := M
  replace HT := Lib.hid (fun W => show Calls Tryd.prog 119 #[.agg #[.bool (mv a).x, .bool (mv a).r, .bool (mv a).c], .agg #[.bool (mv b).x, .bool (mv b).r, .bool (mv b).c]] W fun e w' => e = .returned (.agg #[.bool x, .bool r, .bool c]) ∧ Below W.heap.size W w' from HT.out W)
  go_enter Tryd.func68, Tryd.ntmps68
  go_upto_region 1 with fail
  go_cut [5] (fun s5 wx => ∃ g, s5 = .pointer (some ⟨g, 0, none⟩) ∧ (wx.cell? ⟨g, 0, none⟩ = some (.bool x) ∧ wx.cell? ⟨g, 1, none⟩ = some (.bool r) ∧ wx.cell? ⟨g, 2, none⟩ = some (.bool c)) ∧ w.heap.size ≤ g ∧ g < wx.heap.size ∧ Below w.heap.size w wx)
  case first =>
    --[
    go_region_with (go_at_call 119; refine (HT.out _).mono ?_; rintro e w1 ⟨rfl, hb1⟩; obtain ⟨q1, q2, q3⟩ := bcell hb1; try simp only [World.size_alloc, World.drew_heap] at q1 q2 q3)
    all_goals
      go_wp2_with fail
      go_meet
      first
        | exact ⟨_, rfl, new3 _ _ _ _ _, Nat.le_trans (Nat.le_refl _) q3, by simp, (below_drew hb1).alloc q3 _⟩
        | exact ⟨_, rfl, set3 ⟨(q1 _ 0 (by simp)).trans (new3 w (.bool false) (.bool false) (.bool false) 110).1, (q1 _ 1 (by simp)).trans (new3 w (.bool false) (.bool false) (.bool false) 110).2.1, (q1 _ 2 (by simp)).trans (new3 w (.bool false) (.bool false) (.bool false) 110).2.2⟩, Nat.le_refl _, by simp; have q3' : w.heap.size + 1 ≤ w1.heap.size := (by simpa using q3); omega, (((below_via (below_drew hb1)).setCell (Nat.le_refl _) _).setCell (Nat.le_refl _) _).setCell (Nat.le_refl _) _⟩
    --]
  case rest =>
    obtain ⟨g, rfl, ⟨g0, g1, g2⟩, hg, hgs, hbw⟩ := hcut
    have HR := Lib.hid ((hw.below hbw).range)
    have HI := Lib.hid (fun k h m w => movIndex k h m w)
    go_wp2_with (refine wpList_load_mid rfl 111 (.global 0) rfl 0 0 rfl movCells _ HR.out Tryd.underlying111 rfl (by kernel_rfl) ?_)
    clear HR
    go_loopw [6, 17] (fun s6 s17 wr => ∃ k : Nat, k ≤ 8 ∧ s17 = .int .i64 k ∧ s6 = .int .i64 (turnOf ⟨x, r, c⟩ k : Nat) ∧ Below wc.heap.size wc wr) (fun _ s17 _ => 8 - (intOf s17).toNat)
    case atStart => exact ⟨0, by omega, rfl, rfl, Below.refl _ _⟩
    case round =>
      obtain ⟨k, hk, rfl, rfl, hbr⟩ := hrel
      obtain ⟨q1, q2, q3⟩ := bcell hbr
      rw [← q1 _ _ hgs] at g0 g1 g2
      by_cases hlt : k < 8
      · have hki : (k : Int) < 8 := by omega
        have hk0 : (0 : Int) ≤ (k : Int) := by omega
        have hgr : g < wr.heap.size := by omega
        have hi := fun w => movIndex k hlt (mv k) rfl w
        have he := fun w => eql110 (mv k) ⟨x, r, c⟩ w
        have hstep : turnOf ⟨x, r, c⟩ (k + 1) = if mv k = ⟨x, r, c⟩ then k else turnOf ⟨x, r, c⟩ k := rfl
        generalize mv k = m at hi he hstep
        obtain ⟨mx, mr, mc⟩ := m
        by_cases hm : (⟨mx, mr, mc⟩ : Mv) = ⟨x, r, c⟩
        · rw [if_pos hm] at hstep
          have he' : ∀ w, (binOp .eql 110 (.agg #[.bool mx, .bool mr, .bool mc]) (.agg #[.bool x, .bool r, .bool c])).run Tryd.prog w = .ok (.bool true) w := fun w => by rw [← decide_eq_true hm]; exact he w
          clear he hm
          go_wp2
          go_roundw
          case rel => exact ⟨k + 1, by omega, by go_num, by rw [hstep], hbr.alloc q3 _⟩
          case measure => simp [intOf]; omega
        · rw [if_neg hm] at hstep
          have he' : ∀ w, (binOp .eql 110 (.agg #[.bool mx, .bool mr, .bool mc]) (.agg #[.bool x, .bool r, .bool c])).run Tryd.prog w = .ok (.bool false) w := fun w => by rw [← decide_eq_false hm]; exact he w
          clear he hm
          go_wp2
          go_roundw
          case rel => exact ⟨k + 1, by omega, by go_num, by rw [hstep], hbr.alloc q3 _⟩
          case measure => simp [intOf]; omega
      · have e : k = 8 := by omega
        subst e
        go_wp2
        go_ret
        exact ⟨by rw [HP]; rfl, hbw.trans (hbr.mono hbw.size)⟩
end Go.Proofs.YtbcbaaapogejiaaDoor
