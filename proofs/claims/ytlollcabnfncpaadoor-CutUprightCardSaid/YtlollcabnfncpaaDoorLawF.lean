/-
  The walk of CutMore.
-/
import Derived.Test.YtlollcabnfncpaaDoorBdA
import Derived.Test.YtlollcabnfncpaaDoorMathW
import Derived.Test.YtlollcabnfncpaaDoorLibA
import Derived.Test.YtlollcabnfncpaaDoorLenA
import Derived.Deep.DeepCutAuto
namespace Go.Proofs.YtlollcabnfncpaaDoor
open Go.RowKit

theorem stack_of {r1 r2 c l w : Nat} (h1 : 1 ≤ r1 ∧ r1 ≤ 3) (h2 : 1 ≤ r2 ∧ r2 ≤ 3) (hc : 1 ≤ c ∧ c ≤ 6) (hl : 1 ≤ l ∧ l ≤ 6) (hw : 1 ≤ w ∧ w ≤ 6) :
    cntC ⟨r2, c, l, w⟩ 0 ≤ cntC ⟨r1 + r2, c, l, w⟩ (whl ⟨r1, c, l, w⟩) ∧
    ∀ a b, (filC ⟨r1, c, l, w⟩ 0 []).head? = some a → (filC ⟨r2, c, l, w⟩ 0 []).head? = some b →
      verS ⟨r1 + r2, c, l, w⟩ (a ++ b.map (downC r1)) = 0 ∧ (r1 : Int) ∈ cutsR ⟨r1 + r2, c, l, w⟩ (a ++ b.map (downC r1)) ∧ ∀ x ∈ b, 0 ≤ x.row ∧ x.row ≤ 6 := by
  have h := List.all_eq_true.1 (List.all_eq_true.1 (List.all_eq_true.1 (List.all_eq_true.1 (List.all_eq_true.1 stack_all r1 (mem_three.2 h1)) r2 (mem_three.2 h2)) c (mem_six.2 hc)) l (mem_six.2 hl)) w (mem_six.2 hw)
  unfold stackB at h
  rw [Bool.and_eq_true, decide_eq_true_eq] at h
  refine ⟨h.1, fun a b ha hb => ?_⟩
  have h3 := h.2
  rw [fstB_eq, fstB_eq] at h3
  unfold filC at ha hb
  rw [ha, hb] at h3
  simp only [Bool.and_eq_true, beq_iff_eq, List.contains_iff_mem, List.all_eq_true, decide_eq_true_eq] at h3
  exact ⟨h3.1.1, h3.1.2, h3.2⟩
theorem cnt_two {r1 r2 c l w : Nat} (h1 : Sh.Ok ⟨r1, c, l, w⟩) (_ : Sh.Ok ⟨r2, c, l, w⟩) (h3 : Sh.Ok ⟨r1 + r2, c, l, w⟩) (hr : 1 ≤ r2) (h : cntC ⟨r2, c, l, w⟩ 0 ≤ cntC ⟨r1 + r2, c, l, w⟩ (whl ⟨r1, c, l, w⟩)) :
    cntC ⟨r1, c, l, w⟩ 0 * cntC ⟨r2, c, l, w⟩ 0 ≤ cntC ⟨r1 + r2, c, l, w⟩ 0 :=
  Nat.le_trans (Nat.mul_le_mul_left _ h) (cnt_stack h1 h3 rfl rfl rfl (by simp only; omega) _ 0 (Nat.lt_succ_self _) (InS.zero _))
theorem count_of {s : Sh} (hs : s.Ok) (w : World) (ht : TabW w) : Calls Tryd.prog 23 #[.agg #[.int .i64 s.r, .int .i64 s.c, .int .i64 s.l, .int .i64 s.w]] w fun e w' => e = .returned (.tuple #[.int .i64 (cntC s 0 : Nat), .int .i64 0]) ∧ Below w.heap.size w w' := by
  have h := count_any s.r s.c s.l s.w w ht
  unfold cntS at h
  rw [if_pos (chkS_ok hs), chkS_ok hs] at h
  exact h

theorem find_head (L : List (List Cd)) : L.find? (fun _ => true) = L.head? := by
  rcases L with _ | ⟨x, l⟩ <;> rfl
theorem fill_of {s : Sh} (hs : s.Ok) (w : World) (ht : TabW w) : Calls Tryd.prog 17 #[.agg #[.int .i64 s.r, .int .i64 s.c, .int .i64 s.l, .int .i64 s.w]] w (RetFirst (filC s 0 []).head? (if (filC s 0 []).head?.isSome then 0 else 12) w) := by
  have h := fill_any s.r s.c s.l s.w w ht
  have e : filS s.r s.c s.l s.w = (filC s 0 []).head? := by
    unfold filS
    rw [if_pos (chkS_ok hs), find_head]
    rfl
  unfold errS at h
  rw [if_pos (chkS_ok hs), e] at h
  exact h

/-- A sheet with so many rows lies in memory. -/
def ShAt (w : World) (g : Nat) (r : Int) (s : Sh) : Prop :=
  (w.cell? ⟨g, 0, none⟩ = some (.int .i64 r) ∧ w.cell? ⟨g, 1, none⟩ = some (.int .i64 s.c) ∧ w.cell? ⟨g, 2, none⟩ = some (.int .i64 s.l) ∧ w.cell? ⟨g, 3, none⟩ = some (.int .i64 s.w)) ∧ w.frozen? ⟨g, 0, none⟩ = false

set_option maxRecDepth 100000 in
set_option maxHeartbeats 8000000 in
theorem lawMore_any (x : Bd) (k : Int) (w : World) (hx : okB x) (hk : 0 ≤ k ∧ k ≤ 255) (ht : TabW w) :
    Calls Tryd.prog 12 #[.agg #[.int .u8 x.a, .int .u8 x.b, .int .u8 x.c, .int .u8 x.d], .int .u8 k] w fun e w' => e = .returned (.bool true) ∧ Below w.heap.size w w' := by
  have HM := Lib.hid (fun W => bmade_any x W hx)
  have hs := bdS_ok x
  generalize bdS x = s at *
  obtain ⟨a, b, c, d⟩ := x
  obtain ⟨⟨a1, a2⟩, _, _, _⟩ := hx
  obtain ⟨hk1, hk2⟩ := hk
  dsimp only at *
  obtain ⟨p, hp⟩ : ∃ p : Nat, a % 3 = p := ⟨(a % 3).toNat, by omega⟩
  obtain ⟨q, hq⟩ : ∃ q : Nat, k % 3 = q := ⟨(k % 3).toNat, by omega⟩
  have hp2 : p ≤ 2 := by omega
  have hq2 : q ≤ 2 := by omega
  have HT := Lib.hid ht
  clear ht
  go_enter Tryd.func12, Tryd.ntmps12
  go_wp2_with fail
  refine (HM.out _).mono ?_
  rintro e w1 ⟨rfl, hb1⟩
  have hb1' := below_via hb1
  have c0 := (hb1.cell (p := ⟨w.heap.size, 0, none⟩) (by simp)).trans (show _ = some (Value.int .u8 a) by simp [go_sem])
  have hz1 : w.heap.size < w1.heap.size := by have := hb1.size; simp at this; omega
  go_upto_region 2 with fail
  obtain ⟨W0, hW0⟩ : ∃ W0, W0 = w1.alloc (.cells #[.int .i64 s.r, .int .i64 s.c, .int .i64 s.l, .int .i64 s.w] 23) := ⟨_, rfl⟩
  have hb0 : Below w.heap.size w W0 := hW0 ▸ hb1'.alloc (by omega) _
  have hz0 : W0.heap.size = w1.heap.size + 1 := by rw [hW0]; simp
  have p0 : W0.cell? ⟨w1.heap.size, 0, none⟩ = some (.int .i64 s.r) := by rw [hW0]; simp [go_sem]
  have p1 : W0.cell? ⟨w1.heap.size, 1, none⟩ = some (.int .i64 s.c) := by rw [hW0]; simp [go_sem]
  have p2 : W0.cell? ⟨w1.heap.size, 2, none⟩ = some (.int .i64 s.l) := by rw [hW0]; simp [go_sem]
  have p3 : W0.cell? ⟨w1.heap.size, 3, none⟩ = some (.int .i64 s.w) := by rw [hW0]; simp [go_sem]
  have d0 : W0.cell? ⟨w.heap.size, 0, none⟩ = some (.int .u8 a) := by rw [hW0]; simpa [go_sem, hz1, Nat.ne_of_lt hz1] using c0
  rw [← hW0]
  have hlt : w1.heap.size < W0.heap.size := by omega
  clear hW0 c0 hb1 hb1'
  go_cut [6, 7] (fun s6 s7 wx => ∃ g6 g7 : Nat, s6 = .pointer (some ⟨g6, 0, none⟩) ∧ s7 = .pointer (some ⟨g7, 0, none⟩) ∧ (W0.heap.size ≤ g6 ∧ W0.heap.size ≤ g7 ∧ ¬ g6 = g7 ∧ g6 < wx.heap.size ∧ g7 < wx.heap.size) ∧ ShAt wx g6 s.r s ∧ ShAt wx g7 s.r s ∧ Below W0.heap.size W0 wx)
  case first =>
    go_region_with (fail)
    all_goals
      go_wp2_with fail
      go_meet
    all_goals
      first
        | (refine ⟨w1.heap.size + 1, w1.heap.size + 1 + 1, rfl, rfl, ⟨by omega, by omega, by omega, by simp; omega, by simp; omega⟩, ?_, ?_, ?_⟩
           · exact ⟨⟨by simp [go_sem, ← hz0], by simp [go_sem, ← hz0], by simp [go_sem, ← hz0], by simp [go_sem, ← hz0]⟩, by simp [go_sem, ← hz0]⟩
           · exact ⟨⟨by simp [go_sem, ← hz0], by simp [go_sem, ← hz0], by simp [go_sem, ← hz0], by simp [go_sem, ← hz0]⟩, by simp [go_sem, ← hz0]⟩
           · exact (((Below.refl _ _).alloc (Nat.le_refl _) _).alloc (by simp) _).drew)
        | (refine ⟨w1.heap.size + 1 + 1, w1.heap.size + 1, rfl, rfl, ⟨by omega, by omega, by omega, by simp; omega, by simp; omega⟩, ?_, ?_, ?_⟩
           · exact ⟨⟨by simp [go_sem, ← hz0], by simp [go_sem, ← hz0], by simp [go_sem, ← hz0], by simp [go_sem, ← hz0]⟩, by simp [go_sem, ← hz0]⟩
           · exact ⟨⟨by simp [go_sem, ← hz0], by simp [go_sem, ← hz0], by simp [go_sem, ← hz0], by simp [go_sem, ← hz0]⟩, by simp [go_sem, ← hz0]⟩
           · exact (((Below.refl _ _).alloc (Nat.le_refl _) _).alloc (by simp) _).drew)
  case rest =>
    obtain ⟨g6, g7, rfl, rfl, ⟨k1, k2, k3, k4, k5⟩, ⟨⟨a0, a1', a2', a3⟩, af⟩, ⟨⟨b0, b1, b2, b3⟩, bf⟩, hbc⟩ := hcut
    replace d0 := (hbc.cell (p := ⟨w.heap.size, 0, none⟩) (by simp only; omega)).trans d0
    replace p0 := (hbc.cell (p := ⟨w1.heap.size, 0, none⟩) hlt).trans p0
    replace p1 := (hbc.cell (p := ⟨w1.heap.size, 1, none⟩) hlt).trans p1
    replace p2 := (hbc.cell (p := ⟨w1.heap.size, 2, none⟩) hlt).trans p2
    replace p3 := (hbc.cell (p := ⟨w1.heap.size, 3, none⟩) hlt).trans p3
    have n6 : ¬ g6 = w1.heap.size := by omega
    have n7 : ¬ g7 = w1.heap.size := by omega
    have n76 : ¬ g7 = g6 := by omega
    have m6 : ¬ w1.heap.size = g6 := by omega
    have m7 : ¬ w1.heap.size = g7 := by omega
    have l6 : ¬ w.heap.size = g6 := by omega
    have HZC := Lib.hid (show W0.heap.size ≤ wc.heap.size from hbc.size)
    have e6 : ¬ g6 = wc.heap.size := by omega
    have e7 : ¬ g7 = wc.heap.size := by omega
    clear hz0
    go_upto_region 7 with fail
    obtain ⟨r1, hr1⟩ : ∃ r1 : Nat, r1 = 1 + p := ⟨_, rfl⟩
    obtain ⟨r2, hr2⟩ : ∃ r2 : Nat, r2 = 1 + q := ⟨_, rfl⟩
    have hI1 : 1 + (p : Int) = (r1 : Int) := by omega
    have hI2 : 1 + (q : Int) = (r2 : Int) := by omega
    obtain ⟨r3, hr3⟩ : ∃ r3 : Nat, r3 = r1 + r2 := ⟨_, rfl⟩
    have hI3 : (r1 : Int) + (r2 : Int) = (r3 : Int) := by omega
    rw [hI1, hI2, hI3]
    have hr13 : 1 ≤ r1 ∧ r1 ≤ 3 := by omega
    have hr23 : 1 ≤ r2 ∧ r2 ≤ 3 := by omega
    obtain ⟨W1, hW1⟩ : ∃ W1, W1 = ((wc.setCell ⟨g6, 0, none⟩ (.int .i64 r1)).setCell ⟨g7, 0, none⟩ (.int .i64 r2)).alloc (.cells #[.int .i64 (r3 : Int), .int .i64 s.c, .int .i64 s.l, .int .i64 s.w] 23) := ⟨_, rfl⟩
    have hz1 : W1.heap.size = wc.heap.size + 1 := by rw [hW1]; simp
    have hbW : Below W0.heap.size W0 W1 := by rw [hW1]; exact ((hbc.setCell (p := ⟨g6, 0, none⟩) k1 _).setCell (p := ⟨g7, 0, none⟩) k2 _).alloc (by simp; omega) _
    have hu : W1.cell? ⟨g6, 0, none⟩ = some (.int .i64 r1) ∧ W1.cell? ⟨g6, 1, none⟩ = some (.int .i64 s.c) ∧ W1.cell? ⟨g6, 2, none⟩ = some (.int .i64 s.l) ∧ W1.cell? ⟨g6, 3, none⟩ = some (.int .i64 s.w) := by
      rw [hW1]
      exact ⟨by simp [go_sem, k4, a0], by simp [go_sem, k4, a1'], by simp [go_sem, k4, a2'], by simp [go_sem, k4, a3]⟩
    have hd : W1.cell? ⟨g7, 0, none⟩ = some (.int .i64 r2) ∧ W1.cell? ⟨g7, 1, none⟩ = some (.int .i64 s.c) ∧ W1.cell? ⟨g7, 2, none⟩ = some (.int .i64 s.l) ∧ W1.cell? ⟨g7, 3, none⟩ = some (.int .i64 s.w) := by
      rw [hW1]
      exact ⟨by simp [go_sem, k5, b0], by simp [go_sem, k5, b1], by simp [go_sem, k5, b2], by simp [go_sem, k5, b3]⟩
    have ha : W1.cell? ⟨wc.heap.size, 0, none⟩ = some (.int .i64 (r3 : Int)) ∧ W1.cell? ⟨wc.heap.size, 1, none⟩ = some (.int .i64 s.c) ∧ W1.cell? ⟨wc.heap.size, 2, none⟩ = some (.int .i64 s.l) ∧ W1.cell? ⟨wc.heap.size, 3, none⟩ = some (.int .i64 s.w) := by
      rw [hW1]
      exact ⟨by simp [go_sem], by simp [go_sem], by simp [go_sem], by simp [go_sem]⟩
    rw [← hW1]
    have h8z : W1.heap.size = wc.heap.size + 1 := hz1
    generalize wc.heap.size = g8 at *
    have HKW := Lib.hid (fun (W : World) (h : Below W1.heap.size W1 W) => show
        (W.cell? ⟨g6, 0, none⟩ = some (.int .i64 r1) ∧ W.cell? ⟨g6, 1, none⟩ = some (.int .i64 s.c) ∧ W.cell? ⟨g6, 2, none⟩ = some (.int .i64 s.l) ∧ W.cell? ⟨g6, 3, none⟩ = some (.int .i64 s.w)) ∧
        (W.cell? ⟨g7, 0, none⟩ = some (.int .i64 r2) ∧ W.cell? ⟨g7, 1, none⟩ = some (.int .i64 s.c) ∧ W.cell? ⟨g7, 2, none⟩ = some (.int .i64 s.l) ∧ W.cell? ⟨g7, 3, none⟩ = some (.int .i64 s.w)) ∧
        W.cell? ⟨g8, 0, none⟩ = some (.int .i64 (r3 : Int)) ∧ W.cell? ⟨g8, 1, none⟩ = some (.int .i64 s.c) ∧ W.cell? ⟨g8, 2, none⟩ = some (.int .i64 s.l) ∧ W.cell? ⟨g8, 3, none⟩ = some (.int .i64 s.w) from
      have f := fun {g o : Nat} {v : Value} (hg : g < g8 + 1) (e : W1.cell? ⟨g, o, none⟩ = some v) => (h.cell (p := ⟨g, o, none⟩) (by simp only; omega)).trans e
      ⟨⟨f (by omega) hu.1, f (by omega) hu.2.1, f (by omega) hu.2.2.1, f (by omega) hu.2.2.2⟩, ⟨f (by omega) hd.1, f (by omega) hd.2.1, f (by omega) hd.2.2.1, f (by omega) hd.2.2.2⟩, f (by omega) ha.1, f (by omega) ha.2.1, f (by omega) ha.2.2.1, f (by omega) ha.2.2.2⟩)
    have HBA := Lib.hid (hb0.trans (hbW.mono hb0.size))
    have HTW := Lib.hid (fun W (h : Below W1.heap.size W1 W) => (HT.out.below HBA.out).below h)
    have HSZ := Lib.hid (show w.heap.size ≤ W1.heap.size from HBA.out.size)
    have hsu : Sh.Ok ⟨r1, s.c, s.l, s.w⟩ := ⟨hr13.1, by simp only; omega, hs.c1, hs.c6, hs.l1, hs.l6, hs.w1, hs.w6⟩
    have hsd : Sh.Ok ⟨r2, s.c, s.l, s.w⟩ := ⟨hr23.1, by simp only; omega, hs.c1, hs.c6, hs.l1, hs.l6, hs.w1, hs.w6⟩
    have hsa : Sh.Ok ⟨r3, s.c, s.l, s.w⟩ := ⟨by simp only; omega, by simp only; omega, hs.c1, hs.c6, hs.l1, hs.l6, hs.w1, hs.w6⟩
    have hstk := stack_of hr13 hr23 ⟨hs.c1, hs.c6⟩ ⟨hs.l1, hs.l6⟩ ⟨hs.w1, hs.w6⟩
    have hxy := cnt_two hsu hsd (hr3 ▸ hsa) hr23.1 hstk.1
    rw [← hr3] at hstk hxy
    clear hW1 hu hd ha hz1 hbW hb0 d0 p0 p1 p2 p3 hbc a0 a1' a2' a3 af b0 b1 b2 b3 bf HZC n6 n7 n76 m6 m7 l6 e6 e7 hlt
    have HZ8 := Lib.hid (show g6 < W1.heap.size ∧ g7 < W1.heap.size ∧ g8 < W1.heap.size from ⟨by omega, by omega, by omega⟩)
    clear hr1 hr2 hr3 hI1 hI2 hI3 hp hq h8z k1 k2 k3 k4 k5
    have hxs := cntC_small hsu 0
    have hys := cntC_small hsd 0
    have Q1 := Lib.hid (fun W h => count_of hsu W h)
    have Q2 := Lib.hid (fun W h => count_of hsd W h)
    have Q3 := Lib.hid (fun W h => count_of hsa W h)
    generalize cntC ⟨r1, s.c, s.l, s.w⟩ 0 = nx at *
    generalize cntC ⟨r2, s.c, s.l, s.w⟩ 0 = ny at *
    generalize cntC ⟨r3, s.c, s.l, s.w⟩ 0 = nn at *
    dsimp only at Q1 Q2 Q3
    have hmul : IntKind.i64.wrap ((nx : Int) * (ny : Int)) = ((nx * ny : Nat) : Int) := by
      rw [show ((nx : Int) * (ny : Int)) = ((nx * ny : Nat) : Int) by rw [Int.natCast_mul]]
      have := Nat.mul_le_mul hxs hys
      exact IntWalk.i64_in _ (by omega)
    have hge : ¬ ((nn : Int) < ((nx * ny : Nat) : Int)) := by omega
    have hx0 : ¬ ((1048576 : Int) < (nx : Int)) := by omega
    have hy0 : ¬ ((1048576 : Int) < (ny : Int)) := by omega
    generalize nx * ny = nm at *
    have hbb := Below.refl W1.heap.size W1
    obtain ⟨⟨u0, u1, u2, u3⟩, ⟨v0, v1, v2, v3⟩, x0, x1, x2, x3⟩ := HKW.out _ hbb
    go_wp2_with (first
      | (go_at_call 23; (with_reducible refine (Q1.out _ (HTW.out _ hbb)).mono ?_); rintro e w2 ⟨rfl, hb2⟩; obtain ⟨⟨u0, u1, u2, u3⟩, ⟨v0, v1, v2, v3⟩, x0, x1, x2, x3⟩ := HKW.out _ hb2)
      | (go_at_call 23; (with_reducible refine (Q2.out _ (HTW.out _ hb2)).mono ?_); rintro e w3 ⟨rfl, hb3⟩; replace hb3 := hb2.trans (hb3.mono hb2.size); obtain ⟨⟨u0, u1, u2, u3⟩, ⟨v0, v1, v2, v3⟩, x0, x1, x2, x3⟩ := HKW.out _ hb3)
      | (go_at_call 23; (with_reducible refine (Q3.out _ (HTW.out _ hb3)).mono ?_); rintro e w4 ⟨rfl, hb4⟩; replace hb4 := hb3.trans (hb4.mono hb3.size); obtain ⟨⟨u0, u1, u2, u3⟩, ⟨v0, v1, v2, v3⟩, x0, x1, x2, x3⟩ := HKW.out _ hb4))
    clear Q1 Q2 Q3 hb2 hb3 hmul hge hx0 hy0 hxs hys hxy
    have HB4 := Lib.hid hb4
    have Q4 := fun W h => fill_of hsu W h
    have Q5 := fun W h => fill_of hsd W h
    have hlen : ∀ l, (filC ⟨r1, s.c, s.l, s.w⟩ 0 []).head? = some l → l.length ≤ 36 := fun l h => filC_len hsu (List.mem_of_mem_head? h)
    have hlen2 : ∀ l, (filC ⟨r2, s.c, s.l, s.w⟩ 0 []).head? = some l → l.length ≤ 36 := fun l h => filC_len hsd (List.mem_of_mem_head? h)
    have hst2 := hstk.2
    generalize (filC ⟨r1, s.c, s.l, s.w⟩ 0 []).head? = fu at *
    generalize (filC ⟨r2, s.c, s.l, s.w⟩ 0 []).head? = fd at *
    dsimp only at Q4 Q5
    have ht4 := HTW.out _ hb4
    rcases fu with _ | a'
    · have Q4 := Lib.hid Q4
      have Q5 := Lib.hid Q5
      clear hstk hst2 hlen hlen2
      go_wp2_with fail
      refine (Q4.out _ ht4).mono ?_
      rintro e w5 ⟨A5, c5, rfl, _, hb5⟩
      replace hb5 := hb4.trans (hb5.mono hb4.size)
      obtain ⟨⟨u0, u1, u2, u3⟩, ⟨v0, v1, v2, v3⟩, x0, x1, x2, x3⟩ := HKW.out _ hb5
      have ht5 := HTW.out _ hb5
      go_wp2_with fail
      refine (Q5.out _ ht5).mono ?_
      rintro e w6 ⟨A6, c6, rfl, _, hb6⟩
      replace hb6 := hb5.trans (hb6.mono hb5.size)
      have ht6 := HTW.out _ hb6
      go_wp2_with (go_at_call 22; (with_reducible refine (works_any _ ht6).mono ?_); rintro e w7 ⟨rfl, hb7⟩; have hb7' := hb6.trans (hb7.mono hb6.size))
      all_goals
        go_ret
        exact ⟨rfl, HBA.out.trans (hb7'.mono HSZ.out)⟩
    · rcases fd with _ | b'
      · have Q4 := Lib.hid Q4
        have Q5 := Lib.hid Q5
        clear hstk hst2 hlen hlen2
        go_wp2_with fail
        refine (Q4.out _ ht4).mono ?_
        rintro e w5 ⟨A5, c5, rfl, _, hb5⟩
        replace hb5 := hb4.trans (hb5.mono hb4.size)
        obtain ⟨⟨u0, u1, u2, u3⟩, ⟨v0, v1, v2, v3⟩, x0, x1, x2, x3⟩ := HKW.out _ hb5
        have ht5 := HTW.out _ hb5
        go_wp2_with fail
        refine (Q5.out _ ht5).mono ?_
        rintro e w6 ⟨A6, c6, rfl, _, hb6⟩
        replace hb6 := hb5.trans (hb6.mono hb5.size)
        have ht6 := HTW.out _ hb6
        go_wp2_with (go_at_call 22; (with_reducible refine (works_any _ ht6).mono ?_); rintro e w7 ⟨rfl, hb7⟩; have hb7' := hb6.trans (hb7.mono hb6.size))
        go_ret
        exact ⟨rfl, HBA.out.trans (hb7'.mono HSZ.out)⟩
      · obtain ⟨hv, hcut, hrow⟩ := hst2 a' b' rfl rfl
        have hl1 := hlen a' rfl
        have hl2 := hlen2 b' rfl
        have Q4 := Lib.hid Q4
        have Q5 := Lib.hid Q5
        clear hstk hst2 hlen hlen2
        go_wp2_with fail
        refine (Q4.out _ ht4).mono ?_
        rintro e w5 ⟨A5, c5, rfl, hA5, hb5⟩
        have hb5' := hb5
        replace hb5 := hb4.trans (hb5.mono hb4.size)
        obtain ⟨⟨u0, u1, u2, u3⟩, ⟨v0, v1, v2, v3⟩, x0, x1, x2, x3⟩ := HKW.out _ hb5
        have ht5 := HTW.out _ hb5
        go_wp2_with fail
        refine (Q5.out _ ht5).mono ?_
        rintro e w6 ⟨A6, c6, rfl, hA6, hb6⟩
        replace hA5 := hA5.up hb6
        replace hb6 := hb5.trans (hb6.mono hb5.size)
        obtain ⟨⟨u0, u1, u2, u3⟩, ⟨v0, v1, v2, v3⟩, x0, x1, x2, x3⟩ := HKW.out _ hb6
        dsimp only [Option.getD_some] at hA5 hA6 ⊢
        have HC := Lib.hid (clone_any A5 c5 a' w6 hA5 (by omega))
        have hA6' := Lib.hid hA6
        clear hA5 hA6
        go_wp2_with (go_at_call 46; (with_reducible refine HC.out.mono ?_); rintro e w7 ⟨v7, rfl, hown7, hb7⟩; have hA7 := hA6'.out.up hb7)
        have HO7 := Lib.hid hown7
        have HB6 := Lib.hid hb6
        have HB7 := Lib.hid hb7
        have HRW := Lib.hid hrow
        have HV := Lib.hid hv
        have HCT := Lib.hid hcut
        obtain ⟨W6, rfl⟩ : ∃ W6 : World, W6 = w6 := ⟨_, rfl⟩
        have HZ8b := Lib.hid (show g6 < W6.heap.size ∧ g7 < W6.heap.size ∧ g8 < W6.heap.size from ⟨by have := HZ8.out; have := hb6.size; omega, by have := HZ8.out; have := hb6.size; omega, by have := HZ8.out; have := hb6.size; omega⟩)
        clear hown7 hb7 hA7 hb6 hb5 hb5' ht5 ht4 hb4 u0 u1 u2 u3 v0 v1 v2 v3 x0 x1 x2 x3 hrow hv hcut Q4 Q5 HC
        go_loopw [19, 116] (fun v i wr => ∃ j : Nat, j ≤ b'.length ∧ i = .int .i64 j ∧ wr.ownsRow W6.heap.size 69 3 v (a' ++ (b'.take j).map (downC r1)).length (ccells (a' ++ (b'.take j).map (downC r1))) ∧ Below W6.heap.size W6 wr) (fun _ i _ => b'.length - (intOf i).toNat)
        case atStart => exact ⟨0, Nat.zero_le _, rfl, by simpa using HO7.out, HB7.out⟩
        case round =>
          obtain ⟨j, hj, rfl, hown, hbr⟩ := hrel
          have hzr := hbr.size
          have hbr1 := HB6.out.trans (hbr.mono HB6.out.size)
          obtain ⟨⟨u0, u1, u2, u3⟩, ⟨v0, v1, v2, v3⟩, x0, x1, x2, x3⟩ := HKW.out _ hbr1
          by_cases hlt : j < b'.length
          · have hx : b'[j]? = some b'[j] := List.getElem?_eq_getElem hlt
            generalize b'[j] = y at hx
            have hyr := HRW.out y (mem_of_get hx)
            have hT := take_snoc hx
            have HTT := Lib.hid (show a' ++ (b'.take (j + 1)).map (downC r1) = (a' ++ (b'.take j).map (downC r1)) ++ [downC r1 y] by rw [hT, List.map_append, List.append_assoc]; rfl)
            have hll : (a' ++ (b'.take j).map (downC r1)).length ≤ 72 := by rw [List.length_append, List.length_map, List.length_take]; omega
            generalize a' ++ (b'.take j).map (downC r1) = LL at *
            obtain ⟨bb, off, rfl, hbk, d0, d1, d2⟩ := hA6'.out j y hx
            replace d0 := (hbr.cell (p := ⟨bb, _, none⟩) hbk).trans d0
            replace d1 := (hbr.cell (p := ⟨bb, _, none⟩) hbk).trans d1
            replace d2 := (hbr.cell (p := ⟨bb, _, none⟩) hbk).trans d2
            have hbz : bb < wr.heap.size := by omega
            obtain ⟨hz6, hz7, hz8⟩ := HZ8b.out
            have hg6 : g6 < wr.heap.size := by omega
            have hw1 : IntKind.i64.wrap (y.row + (r1 : Int)) = y.row + (r1 : Int) := IntWalk.i64_in _ (by omega)
            have hji : (j : Int) < (b'.length : Int) := by omega
            have hj0 : (0 : Int) ≤ (j : Int) := by omega
            have hr0 : ¬ y.row < 0 := by omega
            have hr6 : ¬ (6 : Int) < y.row := by omega
            have hbs : Below wr.heap.size wr (wr.alloc (.cells #[.int .i64 (y.row + (r1 : Int)), .int .i64 y.col, .bool y.t] 69)) := below_new wr _
            have hownS := own_below hown hbs
            clear hx hT hown hz6 hz7 hz8 hyr
            go_wp2_with (at_builtin; refine wpList_append_card _ rfl _ _ rfl W6.heap.size LL.length (wr.heap.size + 1) _ LL (downC r1 y) rfl (hownS.alloc _) rfl (heap_at _ _ _ (by simp)) (by omega) (by simp; omega) ?_; intro A8 c8 w8 hown8 hgr8 _)
            go_roundw
            case rel =>
              refine ⟨j + 1, by omega, by go_num, ?_, ?_⟩
              · rw [HTT.out, List.length_append]; exact hown8
              · exact ((hbr.trans (hbs.mono hzr)).alloc (by simp; omega) _).grown hgr8 (by simp; omega) (fun g hg => (hownS.lt g hg).1)
            case measure => simp [intOf]; omega
          · have e : b'.take j = b' := List.take_of_length_le (by omega)
            rw [e] at hown
            have hlen : (a' ++ b'.map (downC r1)).length ≤ 72 := by rw [List.length_append, List.length_map]; omega
            generalize a' ++ b'.map (downC r1) = LL at *
            obtain ⟨A8, c8, rfl, hA8, _⟩ := own_cards hown
            clear e
            have hcl : (cutsR ⟨r3, s.c, s.l, s.w⟩ LL).length < 1000000 := by
              have h1 := hsa.r6
              have h2 := gapN_len 0 (((⟨r3, s.c, s.l, s.w⟩ : Sh).r : Int) - 0 - 1).toNat (rowsB (LL.map (blk ⟨r3, s.c, s.l, s.w⟩)))
              unfold cutsR gapL
              omega
            have H28 := Lib.hid (cuts_ok ⟨r3, s.c, s.l, s.w⟩ A8 c8 LL wr hsa hA8 HV.out (by omega))
            have H35 := Lib.hid (fun W (h : Below wr.heap.size wr W) => show Calls Tryd.prog 35 #[.agg #[.int .i64 r3, .int .i64 s.c, .int .i64 s.l, .int .i64 s.w], .slice A8 LL.length c8] W (fun e w' => e = .returned (.int .i64 0) ∧ Below W.heap.size W w') from by
              have h := verify_ok ⟨r3, s.c, s.l, s.w⟩ A8 c8 LL W hsa (hA8.up h) (by omega)
              rw [HV.out] at h
              exact h)
            have HCC := HCT.out
            generalize cutsR ⟨r3, s.c, s.l, s.w⟩ LL = ct at *
            have H58 := Lib.hid (fun A c W hA => contains_any A c ct r1 W hA hcl HCC)
            have HB1 := Lib.hid hbr1
            dsimp only at H28
            clear hA8 hown hcl HCC
            go_wp2_with (first
              | (go_at_call 28; (with_reducible refine H28.out.mono ?_); rintro e w10 ⟨A10, c10, A11, c11, rfl, hA10, _, hb10⟩; obtain ⟨⟨u0, u1, u2, u3⟩, ⟨v0, v1, v2, v3⟩, x0, x1, x2, x3⟩ := HKW.out _ (HB1.out.trans (hb10.mono HB1.out.size)))
              | (go_at_call 35; (with_reducible refine (H35.out _ hb10).mono ?_); rintro e w11 ⟨rfl, hb11⟩; have hA12 := hA10.up hb11; have hb12 := hb10.trans (hb11.mono hb10.size); obtain ⟨⟨u0, u1, u2, u3⟩, ⟨v0, v1, v2, v3⟩, x0, x1, x2, x3⟩ := HKW.out _ (HB1.out.trans (hb12.mono HB1.out.size)))
              | (go_at_call 58; (with_reducible refine (H58.out _ _ _ hA12).mono ?_); rintro e w13 ⟨rfl, hb13⟩; have hb14 := HB1.out.trans ((hb12.trans (hb13.mono hb12.size)).mono HB1.out.size))
              | (go_at_call 22; (with_reducible refine (works_any _ (HTW.out _ hb14)).mono ?_); rintro e w15 ⟨rfl, hb15⟩; have hb16 := hb14.trans (hb15.mono hb14.size)))
            go_ret
            exact ⟨rfl, HBA.out.trans (hb16.mono HSZ.out)⟩
end Go.Proofs.YtlollcabnfncpaaDoor
