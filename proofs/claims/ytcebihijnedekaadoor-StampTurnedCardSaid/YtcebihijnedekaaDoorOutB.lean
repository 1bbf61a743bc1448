/-
  Lists of flows while calls run, and what stays of them.
-/
import Derived.Test.YtcebihijnedekaaDoorHouseA
import Derived.Test.YtcebihijnedekaaDoorMathF
import Derived.Test.YtcebihijnedekaaDoorKnownB
import Derived.Test.YtcebihijnedekaaDoorWalkX
namespace Go.Proofs.YtcebihijnedekaaDoor
open Go.RowKit

theorem ListsAt.up {w w' : World} {A : Option Addr} {all : List (List Int)} (h : ListsAt w w.heap.size A all) (hb : Below w.heap.size w w') : ListsAt w' w'.heap.size A all := by
  intro k l hl
  obtain ⟨b, off, A', c', e, h1, h2, h3, h4⟩ := h k l hl
  exact ⟨b, off, A', c', e, Nat.lt_of_lt_of_le h1 hb.size, (hb.cell (p := ⟨b, _, none⟩) h1).trans h2, (h3.below hb (Nat.le_refl _)).mono hb.size, h4⟩

theorem flows_len {rooms : Nat} {ws : List Wy} (hv : ValB rooms ws) {fl : List Int} (h : fl ∈ flowsS ws) : fl.length = ws.length := ((flowsS_mem hv fl).1 h).1.1

theorem rem_len {p : Int} {N : Nat} (hp : 0 ≤ p) : p.tmod (N : Int) = ((p.toNat % N : Nat) : Int) := by
  rw [Int.tmod_eq_emod_of_nonneg hp]
  obtain ⟨n, rfl⟩ := Int.eq_ofNat_of_zero_le hp
  rfl

theorem bnew (w : World) (o : Obj) : Below w.heap.size w (w.alloc o) := (Below.refl _ _).alloc (Nat.le_refl _) _
theorem waysUp {w w' : World} {A : Option Addr} {l : List Wy} (h : WaysAt w w.heap.size A l) (hb : Below w.heap.size w w') : WaysAt w' w'.heap.size A l := (h.below hb (Nat.le_refl _)).mono hb.size

theorem sameO {W : World} {A D : Option Addr} {c d : Nat} {l : List Int} (hl : l.length ≤ 1000) (hA : IntsAt W W.heap.size A l) (hD : IntsAt W W.heap.size D l) :
    Calls Tryd.prog 22 #[.slice A l.length c, .slice D l.length d] W fun e w' => e = .returned (.bool true) ∧ Below W.heap.size W w' :=
  (same_any A D c d l l W hl hA hD).mono fun _ _ ⟨he, hb⟩ => ⟨by rw [he, decide_eq_true rfl], hb⟩
end Go.Proofs.YtcebihijnedekaaDoor
