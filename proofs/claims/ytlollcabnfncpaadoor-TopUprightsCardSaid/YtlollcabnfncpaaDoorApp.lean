/-
  Appends of one card, or of one number, to a row of the call's own; a slice that is built of one card.
-/
import Derived.Test.YtlollcabnfncpaaDoorBase
import Derived.Maps.AppendAt
import Derived.Deep.AppendLies
namespace Go.Proofs.YtlollcabnfncpaaDoor
open Go.RowKit

theorem own_slice {w : World} {base : Nat} {e : TypeId} {size n : Nat} {v : Value} {xs : List Value} (_ : 0 < n) (h : w.ownsRow base e size v n xs) : ∃ A c, v = .slice A n c := by
  rcases h.2 with ⟨rfl, h0⟩ | ⟨g, cap, cur, h1, _⟩
  · exact ⟨none, 0, by rw [h0]⟩
  · exact ⟨_, _, h1⟩

theorem wpList_append_card {ops : Array Oper} {rest : List Oper} {o : Oper} {a : Act} {Q : Exit → Act → World → Prop} (W : World) (hgd : o.guard = none) (s x : Operand)
    (ho : o.op = .call { callee := .builtin .append, args := #[s, x], argTypes := #[29, 29] }) (base k B : Nat) (v : Value) (l : List Cd) (y : Cd) (hs : a.eval s = v) (hown : W.ownsRow base 69 3 v k (ccells l))
    (hx : a.eval x = .slice (some ⟨B, 0, none⟩) 1 1) (hB : W.heap[B]? = some (.cells #[.int .i64 y.row, .int .i64 y.col, .bool y.t] 69 (0, 0))) (hk : k < 1000000) (hbase : base ≤ W.heap.size)
    (h : ∀ A c w', w'.ownsRow base 69 3 (.slice A (k + 1) c) (k + 1) (ccells (l ++ [y])) → W.grownBy w' v.ownBlock → ((Value.slice A (k + 1) c).ownBlock = v.ownBlock ∨ (Value.slice A (k + 1) c).ownBlock = some W.heap.size) → wpList Tryd.prog ops Q rest (a.put o.dst (.slice A (k + 1) c)) w') :
    wpList Tryd.prog ops Q (o :: rest) a W := by
  obtain ⟨i0, hi, hz0, hz1, hz2⟩ := info_parts info69
  refine wpList_append_own_at W hgd s x 29 ho base 69 i0 (.agg #[.int .i64 0, .int .i64 0, .bool false]) 3 24 Tryd.underlying29 hi hz0 hz1 hz2 rfl (by decide) v k (ccells l) hs hown ⟨B, 0, none⟩ 1 1 [.int .i64 y.row, .int .i64 y.col, .bool y.t] hx rfl (World.news_of_block hB) ?_ (by unfold maxLen; omega) (by omega) hbase ?_
  · intro u hu
    simp only [List.mem_cons, List.not_mem_nil, or_false] at hu
    rcases hu with rfl | rfl | rfl <;> rfl
  · intro v' w' h1 h2 _ h4
    obtain ⟨A, c, rfl⟩ := own_slice (by omega) h1
    exact h A c w' (by rw [ccells_append]; exact h1) h2 h4

theorem wpList_append_int {ops : Array Oper} {rest : List Oper} {o : Oper} {a : Act} {Q : Exit → Act → World → Prop} (W : World) (hgd : o.guard = none) (s x : Operand)
    (ho : o.op = .call { callee := .builtin .append, args := #[s, x], argTypes := #[47, 47] }) (base k B : Nat) (v : Value) (l : List Int) (y : Int) (hs : a.eval s = v) (hown : W.ownsRow base 3 1 v k (l.map (Value.int .i64)))
    (hx : a.eval x = .slice (some ⟨B, 0, none⟩) 1 1) (hB : W.heap[B]? = some (.cells #[.int .i64 y] 3 (0, 0))) (hk : k < 1000000) (hbase : base ≤ W.heap.size)
    (h : ∀ A c w', w'.ownsRow base 3 1 (.slice A (k + 1) c) (k + 1) ((l ++ [y]).map (Value.int .i64)) → W.grownBy w' v.ownBlock → ((Value.slice A (k + 1) c).ownBlock = v.ownBlock ∨ (Value.slice A (k + 1) c).ownBlock = some W.heap.size) → wpList Tryd.prog ops Q rest (a.put o.dst (.slice A (k + 1) c)) w') :
    wpList Tryd.prog ops Q (o :: rest) a W := by
  obtain ⟨i0, hi, hz0, hz1, hz2⟩ := info_parts info3
  refine wpList_append_own_at W hgd s x 47 ho base 3 i0 (.int .i64 0) 1 8 Tryd.underlying47 hi hz0 hz1 hz2 rfl (by decide) v k _ hs hown ⟨B, 0, none⟩ 1 1 [.int .i64 y] hx rfl (World.news_of_block hB) ?_ (by unfold maxLen; omega) (by omega) hbase ?_
  · intro u hu
    simp only [List.mem_cons, List.not_mem_nil, or_false] at hu
    rcases hu with rfl; rfl
  · intro v' w' h1 h2 _ h4
    obtain ⟨A, c, rfl⟩ := own_slice (by omega) h1
    exact h A c w' (by rw [List.map_append]; exact h1) h2 h4

/-- A slice that was just built of one card is a row of the call's own. -/
theorem own_card_new (W : World) (base : Nat) (y : Cd) (h : base ≤ W.heap.size) : (W.alloc (.cells #[.int .i64 y.row, .int .i64 y.col, .bool y.t] 69)).ownsRow base 69 3 (.slice (some ⟨W.heap.size, 0, none⟩) 1 1) 1 (ccells [y]) :=
  ⟨rfl, .inr ⟨W.heap.size, 1, #[.int .i64 y.row, .int .i64 y.col, .bool y.t], rfl, h, heap_alloc_new W _, Nat.le_refl _, by decide, rfl, rfl⟩⟩
theorem heap_new (W : World) (o : Obj) : (W.alloc o).heap[W.heap.size]? = some o := heap_alloc_new W o
end Go.Proofs.YtlollcabnfncpaaDoor
