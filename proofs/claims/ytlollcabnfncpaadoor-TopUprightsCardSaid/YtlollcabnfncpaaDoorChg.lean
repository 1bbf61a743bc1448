/-
  What may change between two worlds: blocks that a predicate names, and new ones.
-/
import Derived.Test.YtlollcabnfncpaaDoorApp
import Derived.Laws.Rows
namespace Go.Proofs.YtlollcabnfncpaaDoor
open Go.RowKit

structure Chg (P : Nat → Prop) (w w' : World) : Prop where
  os : w'.os = w.os
  tape : w'.tape = w.tape
  output : w'.output = w.output
  size : w.heap.size ≤ w'.heap.size
  block : ∀ k, k < w.heap.size → ¬ P k → w'.heap[k]? = w.heap[k]?

theorem Chg.refl (P : Nat → Prop) (w : World) : Chg P w w := ⟨rfl, rfl, rfl, Nat.le_refl _, fun _ _ _ => rfl⟩
theorem Chg.trans {P Q : Nat → Prop} {a b c : World} (h : Chg P a b) (k : Chg Q b c) (hq : ∀ i, i < a.heap.size → Q i → P i) : Chg P a c :=
  ⟨k.os.trans h.os, k.tape.trans h.tape, k.output.trans h.output, Nat.le_trans h.size k.size, fun i hi hn => (k.block i (Nat.lt_of_lt_of_le hi h.size) fun hQ => hn (hq i hi hQ)).trans (h.block i hi hn)⟩
theorem Chg.mono {P Q : Nat → Prop} {a b : World} (h : Chg P a b) (hq : ∀ i, i < a.heap.size → P i → Q i) : Chg Q a b :=
  ⟨h.os, h.tape, h.output, h.size, fun i hi hn => h.block i hi fun hP => hn (hq i hi hP)⟩
theorem Chg.of_below {P : Nat → Prop} {a b : World} (h : Below a.heap.size a b) : Chg P a b := ⟨h.os, h.tape, h.output, h.size, fun i hi _ => h.block i hi⟩
theorem Chg.of_grown {a b : World} {r : Option Nat} (h : a.grownBy b r) : Chg (fun i => some i = r) a b := ⟨h.os, h.tape, h.output, h.size, fun i hi hn => h.block i hi hn⟩
theorem Chg.store (w : World) (p : Addr) (u : Value) : Chg (fun i => i = p.block) w (w.setCell p u) := ⟨rfl, rfl, rfl, by simp [World.setCell], fun k _ h => Below.heap_setCell w p u k h⟩
theorem Chg.alloc {P : Nat → Prop} {a b : World} (h : Chg P a b) (o : Obj) : Chg P a (b.alloc o) := h.trans (Q := fun _ => False) (Chg.of_below (below_new b o)) (fun _ _ h => h.elim)
theorem Chg.then_below {P : Nat → Prop} {a b c : World} (h : Chg P a b) (k : Below b.heap.size b c) : Chg P a c := h.trans (Q := fun _ => False) (Chg.of_below k) (fun _ _ h => h.elim)
theorem Chg.heap {P : Nat → Prop} {a b : World} (h : Chg P a b) {i : Nat} {o : Obj} (hi : a.heap[i]? = some o) (hn : ¬ P i) : b.heap[i]? = some o :=
  (h.block i (by have := Array.getElem?_eq_some_iff.1 hi; exact this.1) hn).trans hi
theorem Chg.cell {P : Nat → Prop} {a b : World} (h : Chg P a b) {p : Addr} (hi : p.block < a.heap.size) (hn : ¬ P p.block) : b.cell? p = a.cell? p := World.cell?_of_block (h.block _ hi hn)
theorem Chg.frozen {P : Nat → Prop} {a b : World} (h : Chg P a b) {p : Addr} (hi : p.block < a.heap.size) (hn : ¬ P p.block) : b.frozen? p = a.frozen? p := World.frozen?_of_block (h.block _ hi hn)
theorem Chg.below {P : Nat → Prop} {a b : World} (h : Chg P a b) {B : Nat} (hB : B ≤ a.heap.size) (hn : ∀ i, i < B → ¬ P i) : Below B a b := ⟨h.os, h.tape, h.output, h.size, fun i hi => h.block i (Nat.lt_of_lt_of_le hi hB) (hn i hi)⟩
theorem Chg.own {P : Nat → Prop} {a b : World} (h : Chg P a b) {base : Nat} {e : TypeId} {size : Nat} {v : Value} {n : Nat} {xs : List Value} (ho : a.ownsRow base e size v n xs) (hn : ∀ g, v.ownBlock = some g → ¬ P g) : b.ownsRow base e size v n xs := by
  refine ⟨ho.1, ?_⟩
  have hl := ho.lt
  rcases ho.2 with h1 | ⟨g, cap, cur, h1, h2, h3, h4⟩
  · exact .inl h1
  · have hg : v.ownBlock = some g := by rw [h1]; rfl
    exact .inr ⟨g, cap, cur, h1, h2, h.heap h3 (hn g hg), h4⟩

theorem lt_of_heap {w : World} {i : Nat} {o : Obj} (h : w.heap[i]? = some o) : i < w.heap.size := (Array.getElem?_eq_some_iff.1 h).1
theorem heap_at (W : World) (o : Obj) (b : Nat) (h : b = W.heap.size) : (W.alloc o).heap[b]? = some o := by subst h; exact heap_alloc_new W o
/-- A slice of one card in a block of its own. -/
theorem own_card_at {W : World} {b base : Nat} {y : Cd} (h : W.heap[b]? = some (.cells #[.int .i64 y.row, .int .i64 y.col, .bool y.t] 69 (0, 0))) (hb : base ≤ b) : W.ownsRow base 69 3 (.slice (some ⟨b, 0, none⟩) 1 1) 1 (ccells [y]) :=
  ⟨rfl, .inr ⟨b, 1, #[.int .i64 y.row, .int .i64 y.col, .bool y.t], rfl, hb, h, Nat.le_refl _, by decide, rfl, rfl⟩⟩
end Go.Proofs.YtlollcabnfncpaaDoor
