/-
  Small words: the smallest and the greatest of numbers; a contract of lists that are the same.
-/
import Derived.Test.YtlollcabnfncpaaDoorWkA
namespace Go.Proofs.YtlollcabnfncpaaDoor
open Go.RowKit

theorem foldl_min_le : ∀ (l : List Int) (x : Int), l.foldl min x ≤ x ∧ ∀ y ∈ l, l.foldl min x ≤ y
  | [], x => ⟨Int.le_refl _, by simp⟩
  | z :: l, x => by
    obtain ⟨h1, h2⟩ := foldl_min_le l (min x z)
    rw [List.foldl_cons]
    refine ⟨by omega, fun y hy => ?_⟩
    rcases List.mem_cons.1 hy with rfl | hy
    · omega
    · exact h2 y hy
theorem foldl_max_ge : ∀ (l : List Int) (x : Int), x ≤ l.foldl max x ∧ ∀ y ∈ l, y ≤ l.foldl max x
  | [], x => ⟨Int.le_refl _, by simp⟩
  | z :: l, x => by
    obtain ⟨h1, h2⟩ := foldl_max_ge l (max x z)
    rw [List.foldl_cons]
    refine ⟨by omega, fun y hy => ?_⟩
    rcases List.mem_cons.1 hy with rfl | hy
    · omega
    · exact h2 y hy

theorem same_q {L : List Int} {A D : Option Addr} {c d : Nat} {w0 W : World} (hn : L.length < 1000000) (hA : IntsAt W W.heap.size A L) (hD : IntsAt W W.heap.size D L) (hb : Below w0.heap.size w0 W) (Q : Ending → World → Prop) (hQ : ∀ w', Below w0.heap.size w0 w' → Q (.returned (.bool true)) w') :
    Calls Tryd.prog 34 #[.slice A L.length c, .slice D L.length d] W Q :=
  (same_any A D c d L L W hn hA hD).mono fun e w' ⟨he, h⟩ => by
    rw [he, decide_eq_true rfl]
    exact hQ w' (hb.trans (h.mono hb.size))
end Go.Proofs.YtlollcabnfncpaaDoor
