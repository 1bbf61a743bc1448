/-
  The walks of what sets say of a way.
-/
import Derived.Test.YtcebihijnedekaaDoorWalkF
import Derived.Deep.RegionHeld3
namespace Go.Proofs.YtcebihijnedekaaDoor
open Go.RowKit

theorem ret2_eq {k : IntKind} {a b : Int} {v : Value} (h : a = b) : Ending.returned (.tuple #[.int k a, v]) = .returned (.tuple #[.int k b, v]) := by rw [h]

/-- What a set says of a way, and how the way leads. -/
def saysV (m : Int → Bool) (ws : List Wy) (x : Wy) : Int := if lv m x then x.lo - ex m ws else if en m x then x.hi + ex m ws else 0

set_option maxHeartbeats 1000000 in
theorem says_any (rooms s k : Nat) (A : Option Addr) (c : Nat) (ws : List Wy) (x : Wy) (w : World) (hv : ValB rooms ws) (hs : s < 64) (hx : ws[k]? = some x) (hw : WaysAt w w.heap.size A ws) :
    Calls Tryd.prog 79 #[.agg #[.int .i64 rooms, .slice A ws.length c], .int .i64 s, .int .i64 k] w fun e w' =>
      e = .returned (.tuple #[.int .i64 (saysV (memP rooms s) ws x), .int .i64 (sideV (memP rooms s) x)]) ∧ Below w.heap.size w w' := by
  have hk := lt_of_get hx
  have hr6 := hv.r6
  obtain ⟨hx1, hx2, hx3, hx4, hx5⟩ := hv.way x (mem_of_get hx)
  have hlen := hv.len
  have hbd := ex_bound hv.way (memP rooms s)
  have hki : (k : Int) < (ws.length : Int) := by omega
  have HS := Lib.hid (fun W => sideOf_any rooms s x W hr6 hs hx1.1 hx1.2 hx2.1 hx2.2)
  have HE := Lib.hid (fun W h => excess_any rooms s A c ws W hv hs h)
  have hw1 := fun o => (hw.alloc (Nat.le_refl _) o)
  obtain ⟨b, off, rfl, hb, h1, h2, h3, h4⟩ := hw k x hx
  have sv : (sideV (memP rooms s) x = 1 ∧ saysV (memP rooms s) ws x = x.lo - ex (memP rooms s) ws) ∨ (sideV (memP rooms s) x = 2 ∧ saysV (memP rooms s) ws x = x.hi + ex (memP rooms s) ws) ∨ (sideV (memP rooms s) x = 0 ∧ saysV (memP rooms s) ws x = 0) := by
    unfold sideV saysV
    rcases xb_cases (memP rooms s) x with ⟨a1, a2, a3, _⟩ | ⟨a1, a2, a3, _⟩ | ⟨a1, a2, a3, _⟩ <;> simp [a1, a2]
  generalize ex (memP rooms s) ws = E at hbd HE sv
  generalize saysV (memP rooms s) ws x = V at sv ⊢
  generalize sideV (memP rooms s) x = S at sv HS ⊢
  have hE : -1188 ≤ E ∧ E ≤ 1188 := by omega
  clear hbd
  rcases sv with ⟨rfl, rfl⟩ | ⟨rfl, rfl⟩ | ⟨rfl, rfl⟩
  · go_enter Tryd.func79, Tryd.ntmps79
    go_wp2_with (go_at_call 90; refine (HS.out _).mono ?_; rintro e w1 ⟨rfl, hb1⟩; obtain ⟨q1, q2, q3⟩ := bcell hb1; simp only [World.size_alloc] at q1 q2 q3)
    have c0 : w1.cell? ⟨w.heap.size, 0, none⟩ = some (.int .i64 rooms) := by rw [q1 _ _ (by omega)]; simp [go_sem]
    have c1 : w1.cell? ⟨w.heap.size, 1, none⟩ = some (.slice (some ⟨b, off, none⟩) ws.length c) := by rw [q1 _ _ (by omega)]; simp [go_sem]
    have c2 : w1.cell? ⟨w.heap.size + 1, 2, none⟩ = some (.int .i64 x.lo) := by rw [q1 _ _ (by omega)]; simp [go_sem]
    have hb0 : Below w.heap.size w w1 := ((((Below.refl _ _).alloc (Nat.le_refl _) _).alloc (by simp) _).trans (hb1.mono (by simp; omega)))
    have hw2 := (hw.below hb0 (Nat.le_refl _)).mono hb0.size
    have hz1 : w.heap.size < w1.heap.size := by omega
    clear q1 q2 hb1 hw1
    go_region_held3 (fun w' => Below w1.heap.size w1 w' ∧ w'.cell? ⟨w.heap.size, 0, none⟩ = some (.int .i64 rooms) ∧ w'.cell? ⟨w.heap.size, 1, none⟩ = some (.slice (some ⟨b, off, none⟩) ws.length c) ∧ w'.cell? ⟨w.heap.size + 1, 2, none⟩ = some (.int .i64 x.lo))
      (first | exact ⟨(Below.refl _ _).drew, c0, c1, c2⟩ | exact ⟨hb2, (hb2.cell (p := ⟨w.heap.size, 0, none⟩) hz1).trans c0, (hb2.cell (p := ⟨w.heap.size, 1, none⟩) hz1).trans c1, (hb2.cell (p := ⟨w.heap.size + 1, 2, none⟩) (by simp; omega)).trans c2⟩)
      (first | (go_at_call 73; refine (HE.out _ (by exact hw2)).mono ?_; rintro e w2 ⟨rfl, hb2'⟩; have hb2 : Below w1.heap.size w1 w2 := Below.trans (Below.refl _ _).drew hb2'))
    go_wp2
    go_ret2
    exact ⟨ret2_eq (IntWalk.i64_in _ (by omega)), hb0.trans (Below.mono (by first | assumption | exact And.left (by assumption)) (by omega))⟩
  · go_enter Tryd.func79, Tryd.ntmps79
    go_wp2_with (go_at_call 90; refine (HS.out _).mono ?_; rintro e w1 ⟨rfl, hb1⟩; obtain ⟨q1, q2, q3⟩ := bcell hb1; simp only [World.size_alloc] at q1 q2 q3)
    have c0 : w1.cell? ⟨w.heap.size, 0, none⟩ = some (.int .i64 rooms) := by rw [q1 _ _ (by omega)]; simp [go_sem]
    have c1 : w1.cell? ⟨w.heap.size, 1, none⟩ = some (.slice (some ⟨b, off, none⟩) ws.length c) := by rw [q1 _ _ (by omega)]; simp [go_sem]
    have c2 : w1.cell? ⟨w.heap.size + 1, 3, none⟩ = some (.int .i64 x.hi) := by rw [q1 _ _ (by omega)]; simp [go_sem]
    have hb0 : Below w.heap.size w w1 := ((((Below.refl _ _).alloc (Nat.le_refl _) _).alloc (by simp) _).trans (hb1.mono (by simp; omega)))
    have hw2 := (hw.below hb0 (Nat.le_refl _)).mono hb0.size
    have hz1 : w.heap.size < w1.heap.size := by omega
    clear q1 q2 hb1 hw1
    go_region_held3 (fun w' => Below w1.heap.size w1 w' ∧ w'.cell? ⟨w.heap.size, 0, none⟩ = some (.int .i64 rooms) ∧ w'.cell? ⟨w.heap.size, 1, none⟩ = some (.slice (some ⟨b, off, none⟩) ws.length c) ∧ w'.cell? ⟨w.heap.size + 1, 3, none⟩ = some (.int .i64 x.hi))
      (first | exact ⟨(Below.refl _ _).drew, c0, c1, c2⟩ | exact ⟨hb2, (hb2.cell (p := ⟨w.heap.size, 0, none⟩) hz1).trans c0, (hb2.cell (p := ⟨w.heap.size, 1, none⟩) hz1).trans c1, (hb2.cell (p := ⟨w.heap.size + 1, 3, none⟩) (by simp; omega)).trans c2⟩)
      (first | (go_at_call 73; refine (HE.out _ (by exact hw2)).mono ?_; rintro e w2 ⟨rfl, hb2'⟩; have hb2 : Below w1.heap.size w1 w2 := Below.trans (Below.refl _ _).drew hb2'))
    go_wp2
    go_ret2
    exact ⟨ret2_eq (IntWalk.i64_in _ (by omega)), hb0.trans (Below.mono (by first | assumption | exact And.left (by assumption)) (by omega))⟩
  · go_enter Tryd.func79, Tryd.ntmps79
    go_wp2_with (go_at_call 90; refine (HS.out _).mono ?_; rintro e w1 ⟨rfl, hb1⟩; obtain ⟨q1, q2, q3⟩ := bcell hb1; simp only [World.size_alloc] at q1 q2 q3)
    go_ret2
    exact ⟨rfl, ((((Below.refl _ _).alloc (Nat.le_refl _) _).alloc (by simp) _).trans (hb1.mono (by simp; omega)))⟩
end Go.Proofs.YtcebihijnedekaaDoor
