/-
  What books are in memory, and the walk of the sum over all ways.
-/
import Derived.Test.YtcebihijnedekaaDoorWalkA
namespace Go.Proofs.YtcebihijnedekaaDoor
open Go.RowKit

/-- Ways that lie in memory below block B. -/
def WaysAt (w : World) (B : Nat) (A : Option Addr) (ws : List Wy) : Prop :=
  ∀ (k : Nat) (x : Wy), ws[k]? = some x → ∃ b off, A = some ⟨b, off, none⟩ ∧ b < B ∧ w.cell? ⟨b, off + k * 4, none⟩ = some (.int .i64 x.src) ∧ w.cell? ⟨b, off + k * 4 + 1, none⟩ = some (.int .i64 x.dst) ∧
    w.cell? ⟨b, off + k * 4 + 2, none⟩ = some (.int .i64 x.lo) ∧ w.cell? ⟨b, off + k * 4 + 3, none⟩ = some (.int .i64 x.hi)

theorem WaysAt.below {w w' : World} {B B' : Nat} {A : Option Addr} {ws : List Wy} (h : WaysAt w B A ws) (hb : Below B' w w') (hB : B ≤ B') : WaysAt w' B A ws := by
  intro k x hx
  obtain ⟨b, off, h1, h2, h3, h4, h5, h6⟩ := h k x hx
  exact ⟨b, off, h1, h2, (hb.cell (p := ⟨b, _, none⟩) (by simp; omega)).trans h3, (hb.cell (p := ⟨b, _, none⟩) (by simp; omega)).trans h4, (hb.cell (p := ⟨b, _, none⟩) (by simp; omega)).trans h5, (hb.cell (p := ⟨b, _, none⟩) (by simp; omega)).trans h6⟩
theorem WaysAt.mono {w : World} {B B' : Nat} {A : Option Addr} {ws : List Wy} (h : WaysAt w B A ws) (hB : B ≤ B') : WaysAt w B' A ws := by
  intro k x hx
  obtain ⟨b, off, h1, h2, h3⟩ := h k x hx
  exact ⟨b, off, h1, by omega, h3⟩

structure ValB (rooms : Nat) (ws : List Wy) : Prop where
  r6 : rooms ≤ 6
  len : ws.length ≤ 12
  way : ∀ x ∈ ws, (0 ≤ x.src ∧ x.src < rooms) ∧ (0 ≤ x.dst ∧ x.dst < rooms) ∧ 0 ≤ x.lo ∧ x.lo ≤ x.hi ∧ x.hi ≤ 99

theorem ex_bound {rooms : Nat} {ws : List Wy} (h : ∀ x ∈ ws, (0 ≤ x.src ∧ x.src < (rooms : Int)) ∧ (0 ≤ x.dst ∧ x.dst < (rooms : Int)) ∧ 0 ≤ x.lo ∧ x.lo ≤ x.hi ∧ x.hi ≤ 99) (m : Int → Bool) :
    -(99 * (ws.length : Int)) ≤ ex m ws ∧ ex m ws ≤ 99 * (ws.length : Int) := by
  induction ws with
  | nil => simp [ex]
  | cons x ws ih =>
    obtain ⟨_, _, h1, h2, h3⟩ := h x (by simp)
    have := ih (fun y hy => h y (by simp [hy]))
    simp only [ex, List.length_cons]
    have : -99 ≤ ex1 m x ∧ ex1 m x ≤ 99 := by
      rcases xb_cases m x with ⟨_, _, e, _⟩ | ⟨_, _, e, _⟩ | ⟨_, _, e, _⟩ <;> rw [e] <;> omega
    omega

theorem ex_take_succ (m : Int → Bool) {ws : List Wy} {k : Nat} {x : Wy} (h : ws[k]? = some x) : ex m (ws.take (k + 1)) = ex m (ws.take k) + ex1 m x := by
  obtain ⟨hk, rfl⟩ := List.getElem?_eq_some_iff.1 h
  rw [List.take_succ_eq_append_getElem hk, ex_append]
  simp [ex]

theorem bcell {W w1 : World} (hb : Below W.heap.size W w1) : (∀ b o, b < W.heap.size → w1.cell? ⟨b, o, none⟩ = W.cell? ⟨b, o, none⟩) ∧ (∀ b o, b < W.heap.size → w1.frozen? ⟨b, o, none⟩ = W.frozen? ⟨b, o, none⟩) ∧ W.heap.size ≤ w1.heap.size :=
  ⟨fun b o h => hb.cell (p := ⟨b, o, none⟩) h, fun b o h => hb.frozen (p := ⟨b, o, none⟩) h, hb.size⟩

set_option maxHeartbeats 400000 in
theorem excess_any (rooms s : Nat) (A : Option Addr) (c : Nat) (ws : List Wy) (w : World) (hv : ValB rooms ws) (hs : s < 64) (hw : WaysAt w w.heap.size A ws) :
    Calls Tryd.prog 73 #[.agg #[.int .i64 rooms, .slice A ws.length c], .int .i64 s] w fun e w' =>
      e = .returned (.int .i64 (ex (memP rooms s) ws)) ∧ Below w.heap.size w w' := by
  have hr6 := hv.r6
  have hlen := hv.len
  go_enter Tryd.func73, Tryd.ntmps73
  go_wp2
  obtain ⟨W0, hW0⟩ : ∃ W0, W0 = w.alloc (.cells #[.int .i64 rooms, .slice A ws.length c] 24) := ⟨_, rfl⟩
  have hz0 : W0.heap.size = w.heap.size + 1 := by rw [hW0]; simp
  have hb0 : Below w.heap.size w W0 := by rw [hW0]; exact (Below.refl _ _).alloc (Nat.le_refl _) _
  have hc0 : W0.cell? ⟨w.heap.size, 0, none⟩ = some (.int .i64 rooms) := by rw [hW0]; simp [go_sem]
  have hc1 : W0.cell? ⟨w.heap.size, 1, none⟩ = some (.slice A ws.length c) := by rw [hW0]; simp [go_sem]
  have hw0 := hw.below hb0 (Nat.le_refl _)
  rw [← hW0]
  clear hW0
  go_loopw [5, 11] (fun v i wr => ∃ k : Nat, k ≤ ws.length ∧ i = .int .i64 k ∧ v = .int .i64 (ex (memP rooms s) (ws.take k)) ∧ Below W0.heap.size W0 wr) (fun _ i _ => ws.length - (intOf i).toNat)
  case atStart => exact ⟨0, Nat.zero_le _, rfl, rfl, Below.refl _ _⟩
  case round =>
    obtain ⟨k, hk, rfl, rfl, hbw⟩ := hrel
    have hd0 := (hbw.cell (p := ⟨w.heap.size, 0, none⟩) (by simp; omega)).trans hc0
    have hd1 := (hbw.cell (p := ⟨w.heap.size, 1, none⟩) (by simp; omega)).trans hc1
    have hww := hw0.below hbw (by omega)
    have hsz : w.heap.size < wr.heap.size := by have := hbw.size; omega
    by_cases hlt : k < ws.length
    · have hx : ws[k]? = some ws[k] := List.getElem?_eq_getElem hlt
      generalize ws[k] = x at hx
      obtain ⟨b, off, rfl, hb, h1, h2, h3, h4⟩ := hww k x hx
      obtain ⟨hx1, hx2, hx3, hx4, hx5⟩ := hv.way x (mem_of_get hx)
      have htk := ex_take_succ (memP rooms s) hx
      have HX := Lib.hid hx
      clear hx hw hw0 hww
      have hbd := ex_bound (ws := ws.take k) (fun y hy => hv.way y (List.mem_of_mem_take hy)) (memP rooms s)
      have hl12 : (ws.take k).length ≤ 12 := by rw [List.length_take]; omega
      obtain ⟨E, hE⟩ : ∃ E, E = ex (memP rooms s) (ws.take k) := ⟨_, rfl⟩
      rw [← hE] at hbd htk ⊢
      have hbd' : -1188 ≤ E ∧ E ≤ 1188 := by omega
      clear hbd hl12
      have HE := Lib.hid hE
      clear hE
      have sv : sideV (memP rooms s) x = 1 ∧ ex1 (memP rooms s) x = x.lo ∨ sideV (memP rooms s) x = 2 ∧ ex1 (memP rooms s) x = - x.hi ∨ sideV (memP rooms s) x = 0 ∧ ex1 (memP rooms s) x = 0 := by
        unfold sideV
        rcases xb_cases (memP rooms s) x with ⟨a1, a2, a3, _⟩ | ⟨a1, a2, a3, _⟩ | ⟨a1, a2, a3, _⟩ <;> simp [a1, a2, a3]
      rcases sv with ⟨sv, se⟩ | ⟨sv, se⟩ | ⟨sv, se⟩
      all_goals
        rw [se] at htk
        have hc90 := fun W => sideOf_any rooms s x W (by assumption) (by assumption) (by omega) (by omega) (by omega) (by omega)
        rw [sv] at hc90
        have HC := Lib.hid hc90
        have HT := Lib.hid htk
        clear hc90 htk se sv
        go_wp2_with (go_at_call 90; refine (HC.out _).mono ?_; rintro e w1 ⟨rfl, hb1⟩; obtain ⟨q1, q2, q3⟩ := bcell hb1; simp only [World.size_alloc] at q1 q2 q3)
        go_roundw
        case rel => exact ⟨k + 1, by omega, by go_num, by rw [HT.out]; try (first | rfl | go_num), (hbw.alloc (by omega) _).trans (hb1.mono (by simp; omega))⟩
        case measure => simp [intOf]; omega
    · have : k = ws.length := by omega
      subst this
      go_wp2
      go_ret
      exact ⟨ret_eq (by rw [List.take_length]), hb0.trans (hbw.mono (by omega))⟩
end Go.Proofs.YtcebihijnedekaaDoor
