/-
  Rows of spans, of blocks, and of pairs of blocks in memory.
-/
import Derived.Test.YtlollcabnfncpaaDoorSrcB
import Derived.Test.YtlollcabnfncpaaDoorMathD
import Derived.Deep.LoopGhost
namespace Go.Proofs.YtlollcabnfncpaaDoor
open Go.RowKit

/-- Rows of Span in memory below block B. -/
def SpansAt (w : World) (B : Nat) (A : Option Addr) (l : List (Int × Int)) : Prop :=
  ∀ (k : Nat) (x : Int × Int), l[k]? = some x → ∃ b off, A = some ⟨b, off, none⟩ ∧ b < B ∧ w.cell? ⟨b, off + k * 2, none⟩ = some (.int .i64 x.1) ∧ w.cell? ⟨b, off + k * 2 + 1, none⟩ = some (.int .i64 x.2)
theorem SpansAt.below {w w' : World} {B B' : Nat} {A : Option Addr} {l : List (Int × Int)} (h : SpansAt w B A l) (hb : Below B' w w') (hB : B ≤ B') : SpansAt w' B A l := by
  intro k x hx
  obtain ⟨b, off, h1, h2, h3, h4⟩ := h k x hx
  exact ⟨b, off, h1, h2, (hb.cell (p := ⟨b, _, none⟩) (by simp; omega)).trans h3, (hb.cell (p := ⟨b, _, none⟩) (by simp; omega)).trans h4⟩
theorem SpansAt.mono {w : World} {B B' : Nat} {A : Option Addr} {l : List (Int × Int)} (h : SpansAt w B A l) (hB : B ≤ B') : SpansAt w B' A l := by
  intro k x hx
  obtain ⟨b, off, h1, h2, h3⟩ := h k x hx
  exact ⟨b, off, h1, by omega, h3⟩
theorem SpansAt.nil (w : World) (B : Nat) (A : Option Addr) : SpansAt w B A [] := by intro k x h; simp at h
theorem SpansAt.up {w w' : World} {A : Option Addr} {l : List (Int × Int)} (h : SpansAt w w.heap.size A l) (hb : Below w.heap.size w w') : SpansAt w' w'.heap.size A l := (h.below hb (Nat.le_refl _)).mono hb.size
def spancells : List (Int × Int) → List Value
  | [] => []
  | x :: l => .int .i64 x.1 :: .int .i64 x.2 :: spancells l
theorem spancells_len : ∀ l : List (Int × Int), (spancells l).length = l.length * 2
  | [] => rfl
  | x :: l => by simp [spancells, spancells_len l]; omega
theorem spancells_append : ∀ l m : List (Int × Int), spancells (l ++ m) = spancells l ++ spancells m
  | [], _ => rfl
  | x :: l, m => by simp [spancells, spancells_append l m]
theorem spancells_get : ∀ (l : List (Int × Int)) (k : Nat) (x : Int × Int), l[k]? = some x → (spancells l)[k * 2]? = some (.int .i64 x.1) ∧ (spancells l)[k * 2 + 1]? = some (.int .i64 x.2)
  | [], k, x, h => by simp at h
  | y :: l, 0, x, h => by simp at h; subst h; simp [spancells]
  | y :: l, k + 1, x, h => by
    have := spancells_get l k x (by simpa using h)
    have e : (k + 1) * 2 = k * 2 + 2 := by omega
    rw [e]
    simpa [spancells] using this
theorem own_spans {w : World} {base : Nat} {v : Value} {n : Nat} {l : List (Int × Int)} (h : w.ownsRow base 115 2 v n (spancells l)) : ∃ A c, v = .slice A l.length c ∧ SpansAt w w.heap.size A l ∧ n = l.length := by
  have hn : n = l.length := by have := h.1; rw [spancells_len] at this; omega
  subst hn
  rcases h.2 with ⟨rfl, h0⟩ | ⟨g, cap, cur, rfl, h2⟩
  · have : l = [] := by simpa using h0
    subst this
    exact ⟨none, 0, rfl, SpansAt.nil _ _ _, rfl⟩
  · refine ⟨some ⟨g, 0, none⟩, cap, rfl, fun k x hx => ?_, rfl⟩
    obtain ⟨h3, h4⟩ := spancells_get l k x hx
    have c3 := h.cells (g := g) rfl _ _ h3
    have c4 := h.cells (g := g) rfl _ _ h4
    rw [addr_add] at c3 c4
    exact ⟨g, 0, rfl, (h.lt g rfl).2, by simpa using c3, by simpa using c4⟩
theorem info115 : (Tryd.prog.info? 115).map (fun i => (i.zero, i.size, i.bytes)) = some (some (.agg #[.int .i64 0, .int .i64 0]), 2, 16) := by kernel_rfl
def RetSpans (w : World) (l : List (Int × Int)) (e : Ending) (w' : World) : Prop := ∃ A c, e = .returned (.slice A l.length c) ∧ SpansAt w' w'.heap.size A l ∧ Below w.heap.size w w' ∧ ∀ ad, A = some ad → w.heap.size ≤ ad.block
theorem wpList_append_span {ops : Array Oper} {rest : List Oper} {o : Oper} {a : Act} {Q : Exit → Act → World → Prop} (W : World) (hgd : o.guard = none) (s x : Operand)
    (ho : o.op = .call { callee := .builtin .append, args := #[s, x], argTypes := #[165, 165] }) (base k B : Nat) (v : Value) (l : List (Int × Int)) (y : Int × Int) (hs : a.eval s = v) (hown : W.ownsRow base 115 2 v k (spancells l))
    (hx : a.eval x = .slice (some ⟨B, 0, none⟩) 1 1) (hB : W.heap[B]? = some (.cells #[.int .i64 y.1, .int .i64 y.2] 115 (0, 0))) (hk : k < 1000000) (hbase : base ≤ W.heap.size)
    (h : ∀ A c w', w'.ownsRow base 115 2 (.slice A (k + 1) c) (k + 1) (spancells (l ++ [y])) → W.grownBy w' v.ownBlock → ((Value.slice A (k + 1) c).ownBlock = v.ownBlock ∨ (Value.slice A (k + 1) c).ownBlock = some W.heap.size) → wpList Tryd.prog ops Q rest (a.put o.dst (.slice A (k + 1) c)) w') :
    wpList Tryd.prog ops Q (o :: rest) a W := by
  obtain ⟨i0, hi, hz0, hz1, hz2⟩ := info_parts info115
  refine wpList_append_own_at W hgd s x 165 ho base 115 i0 (.agg #[.int .i64 0, .int .i64 0]) 2 16 Tryd.underlying165 hi hz0 hz1 hz2 rfl (by decide) v k (spancells l) hs hown ⟨B, 0, none⟩ 1 1 [.int .i64 y.1, .int .i64 y.2] hx rfl (World.news_of_block hB) ?_ (by unfold maxLen; omega) (by omega) hbase ?_
  · intro u hu
    simp only [List.mem_cons, List.not_mem_nil, or_false] at hu
    rcases hu with rfl | rfl <;> rfl
  · intro v' w' h1 h2 _ h4
    obtain ⟨A, c, rfl⟩ := own_slice (by omega) h1
    exact h A c w' (by rw [spancells_append]; exact h1) h2 h4
theorem step_append_span {ops : Array Oper} {o : Oper} {a : Act} {K : Act → World → Prop} {Q : Exit → Act → World → Prop} {E : Prop} (W : World) (hgd : o.guard = none) (s x : Operand)
    (ho : o.op = .call { callee := .builtin .append, args := #[s, x], argTypes := #[165, 165] }) (base k B : Nat) (v : Value) (l : List (Int × Int)) (y : Int × Int) (hs : a.eval s = v) (hown : W.ownsRow base 115 2 v k (spancells l))
    (hx : a.eval x = .slice (some ⟨B, 0, none⟩) 1 1) (hB : W.heap[B]? = some (.cells #[.int .i64 y.1, .int .i64 y.2] 115 (0, 0))) (hk : k < 1000000) (hbase : base ≤ W.heap.size)
    (h : ∀ g c w', w'.ownsRow base 115 2 (.slice (some ⟨g, 0, none⟩) (k + 1) c) (k + 1) (spancells (l ++ [y])) → W.grownBy w' v.ownBlock → (v.ownBlock = some g ∨ g = W.heap.size) → K (a.put o.dst (.slice (some ⟨g, 0, none⟩) (k + 1) c)) w') :
    if Region.wanted o (yielded ops a.tmps) = true then Oper.wp Tryd.prog o a W K Q else E := by
  obtain ⟨i0, hi, hz0, hz1, hz2⟩ := info_parts info115
  refine step_append_lies W hgd s x 165 ho base 115 i0 (.agg #[.int .i64 0, .int .i64 0]) 2 16 Tryd.underlying165 hi hz0 hz1 hz2 rfl (by decide) v k (spancells l) hs hown ⟨B, 0, none⟩ 1 1 [.int .i64 y.1, .int .i64 y.2] hx rfl (World.news_of_block hB) ?_ (by decide) (by unfold maxLen; omega) (by omega) hbase _ rfl ?_
  · intro u hu
    simp only [List.mem_cons, List.not_mem_nil, or_false] at hu
    rcases hu with rfl | rfl <;> rfl
  · intro g c w' h1 h2 h3 _
    exact h g c w' (by rw [spancells_append]; exact h1) h2 h3
theorem own_span_at {W : World} {b base : Nat} {y : Int × Int} (h : W.heap[b]? = some (.cells #[.int .i64 y.1, .int .i64 y.2] 115 (0, 0))) (hb : base ≤ b) : W.ownsRow base 115 2 (.slice (some ⟨b, 0, none⟩) 1 1) 1 (spancells [y]) :=
  ⟨rfl, .inr ⟨b, 1, #[.int .i64 y.1, .int .i64 y.2], rfl, hb, h, Nat.le_refl _, by decide, rfl, rfl⟩⟩

/-- Rows of Blk in memory below block B. -/
def BlksAt (w : World) (B : Nat) (A : Option Addr) (l : List (Bl)) : Prop :=
  ∀ (k : Nat) (x : Bl), l[k]? = some x → ∃ b off, A = some ⟨b, off, none⟩ ∧ b < B ∧ w.cell? ⟨b, off + k * 4, none⟩ = some (.int .i64 x.a) ∧ w.cell? ⟨b, off + k * 4 + 1, none⟩ = some (.int .i64 x.b) ∧ w.cell? ⟨b, off + k * 4 + 2, none⟩ = some (.int .i64 x.c) ∧ w.cell? ⟨b, off + k * 4 + 3, none⟩ = some (.int .i64 x.d)
theorem BlksAt.below {w w' : World} {B B' : Nat} {A : Option Addr} {l : List (Bl)} (h : BlksAt w B A l) (hb : Below B' w w') (hB : B ≤ B') : BlksAt w' B A l := by
  intro k x hx
  obtain ⟨b, off, h1, h2, h3, h4, h5, h6⟩ := h k x hx
  exact ⟨b, off, h1, h2, (hb.cell (p := ⟨b, _, none⟩) (by simp; omega)).trans h3, (hb.cell (p := ⟨b, _, none⟩) (by simp; omega)).trans h4, (hb.cell (p := ⟨b, _, none⟩) (by simp; omega)).trans h5, (hb.cell (p := ⟨b, _, none⟩) (by simp; omega)).trans h6⟩
theorem BlksAt.mono {w : World} {B B' : Nat} {A : Option Addr} {l : List (Bl)} (h : BlksAt w B A l) (hB : B ≤ B') : BlksAt w B' A l := by
  intro k x hx
  obtain ⟨b, off, h1, h2, h3⟩ := h k x hx
  exact ⟨b, off, h1, by omega, h3⟩
theorem BlksAt.nil (w : World) (B : Nat) (A : Option Addr) : BlksAt w B A [] := by intro k x h; simp at h
theorem BlksAt.up {w w' : World} {A : Option Addr} {l : List (Bl)} (h : BlksAt w w.heap.size A l) (hb : Below w.heap.size w w') : BlksAt w' w'.heap.size A l := (h.below hb (Nat.le_refl _)).mono hb.size
def blkcells : List (Bl) → List Value
  | [] => []
  | x :: l => .int .i64 x.a :: .int .i64 x.b :: .int .i64 x.c :: .int .i64 x.d :: blkcells l
theorem blkcells_len : ∀ l : List (Bl), (blkcells l).length = l.length * 4
  | [] => rfl
  | x :: l => by simp [blkcells, blkcells_len l]; omega
theorem blkcells_append : ∀ l m : List (Bl), blkcells (l ++ m) = blkcells l ++ blkcells m
  | [], _ => rfl
  | x :: l, m => by simp [blkcells, blkcells_append l m]
theorem blkcells_get : ∀ (l : List (Bl)) (k : Nat) (x : Bl), l[k]? = some x → (blkcells l)[k * 4]? = some (.int .i64 x.a) ∧ (blkcells l)[k * 4 + 1]? = some (.int .i64 x.b) ∧ (blkcells l)[k * 4 + 2]? = some (.int .i64 x.c) ∧ (blkcells l)[k * 4 + 3]? = some (.int .i64 x.d)
  | [], k, x, h => by simp at h
  | y :: l, 0, x, h => by simp at h; subst h; simp [blkcells]
  | y :: l, k + 1, x, h => by
    have := blkcells_get l k x (by simpa using h)
    have e : (k + 1) * 4 = k * 4 + 4 := by omega
    rw [e]
    simpa [blkcells] using this
theorem own_blks {w : World} {base : Nat} {v : Value} {n : Nat} {l : List (Bl)} (h : w.ownsRow base 117 4 v n (blkcells l)) : ∃ A c, v = .slice A l.length c ∧ BlksAt w w.heap.size A l ∧ n = l.length := by
  have hn : n = l.length := by have := h.1; rw [blkcells_len] at this; omega
  subst hn
  rcases h.2 with ⟨rfl, h0⟩ | ⟨g, cap, cur, rfl, h2⟩
  · have : l = [] := by simpa using h0
    subst this
    exact ⟨none, 0, rfl, BlksAt.nil _ _ _, rfl⟩
  · refine ⟨some ⟨g, 0, none⟩, cap, rfl, fun k x hx => ?_, rfl⟩
    obtain ⟨h3, h4, h5, h6⟩ := blkcells_get l k x hx
    have c3 := h.cells (g := g) rfl _ _ h3
    have c4 := h.cells (g := g) rfl _ _ h4
    have c5 := h.cells (g := g) rfl _ _ h5
    have c6 := h.cells (g := g) rfl _ _ h6
    rw [addr_add] at c3 c4 c5 c6
    exact ⟨g, 0, rfl, (h.lt g rfl).2, by simpa using c3, by simpa using c4, by simpa using c5, by simpa using c6⟩
theorem info117 : (Tryd.prog.info? 117).map (fun i => (i.zero, i.size, i.bytes)) = some (some (.agg #[.int .i64 0, .int .i64 0, .int .i64 0, .int .i64 0]), 4, 32) := by kernel_rfl
def RetBlks (w : World) (l : List (Bl)) (e : Ending) (w' : World) : Prop := ∃ A c, e = .returned (.slice A l.length c) ∧ BlksAt w' w'.heap.size A l ∧ Below w.heap.size w w' ∧ ∀ ad, A = some ad → w.heap.size ≤ ad.block
theorem wpList_append_blk {ops : Array Oper} {rest : List Oper} {o : Oper} {a : Act} {Q : Exit → Act → World → Prop} (W : World) (hgd : o.guard = none) (s x : Operand)
    (ho : o.op = .call { callee := .builtin .append, args := #[s, x], argTypes := #[119, 119] }) (base k B : Nat) (v : Value) (l : List (Bl)) (y : Bl) (hs : a.eval s = v) (hown : W.ownsRow base 117 4 v k (blkcells l))
    (hx : a.eval x = .slice (some ⟨B, 0, none⟩) 1 1) (hB : W.heap[B]? = some (.cells #[.int .i64 y.a, .int .i64 y.b, .int .i64 y.c, .int .i64 y.d] 117 (0, 0))) (hk : k < 1000000) (hbase : base ≤ W.heap.size)
    (h : ∀ A c w', w'.ownsRow base 117 4 (.slice A (k + 1) c) (k + 1) (blkcells (l ++ [y])) → W.grownBy w' v.ownBlock → ((Value.slice A (k + 1) c).ownBlock = v.ownBlock ∨ (Value.slice A (k + 1) c).ownBlock = some W.heap.size) → wpList Tryd.prog ops Q rest (a.put o.dst (.slice A (k + 1) c)) w') :
    wpList Tryd.prog ops Q (o :: rest) a W := by
  obtain ⟨i0, hi, hz0, hz1, hz2⟩ := info_parts info117
  refine wpList_append_own_at W hgd s x 119 ho base 117 i0 (.agg #[.int .i64 0, .int .i64 0, .int .i64 0, .int .i64 0]) 4 32 Tryd.underlying119 hi hz0 hz1 hz2 rfl (by decide) v k (blkcells l) hs hown ⟨B, 0, none⟩ 1 1 [.int .i64 y.a, .int .i64 y.b, .int .i64 y.c, .int .i64 y.d] hx rfl (World.news_of_block hB) ?_ (by unfold maxLen; omega) (by omega) hbase ?_
  · intro u hu
    simp only [List.mem_cons, List.not_mem_nil, or_false] at hu
    rcases hu with rfl | rfl | rfl | rfl <;> rfl
  · intro v' w' h1 h2 _ h4
    obtain ⟨A, c, rfl⟩ := own_slice (by omega) h1
    exact h A c w' (by rw [blkcells_append]; exact h1) h2 h4
theorem step_append_blk {ops : Array Oper} {o : Oper} {a : Act} {K : Act → World → Prop} {Q : Exit → Act → World → Prop} {E : Prop} (W : World) (hgd : o.guard = none) (s x : Operand)
    (ho : o.op = .call { callee := .builtin .append, args := #[s, x], argTypes := #[119, 119] }) (base k B : Nat) (v : Value) (l : List (Bl)) (y : Bl) (hs : a.eval s = v) (hown : W.ownsRow base 117 4 v k (blkcells l))
    (hx : a.eval x = .slice (some ⟨B, 0, none⟩) 1 1) (hB : W.heap[B]? = some (.cells #[.int .i64 y.a, .int .i64 y.b, .int .i64 y.c, .int .i64 y.d] 117 (0, 0))) (hk : k < 1000000) (hbase : base ≤ W.heap.size)
    (h : ∀ g c w', w'.ownsRow base 117 4 (.slice (some ⟨g, 0, none⟩) (k + 1) c) (k + 1) (blkcells (l ++ [y])) → W.grownBy w' v.ownBlock → (v.ownBlock = some g ∨ g = W.heap.size) → K (a.put o.dst (.slice (some ⟨g, 0, none⟩) (k + 1) c)) w') :
    if Region.wanted o (yielded ops a.tmps) = true then Oper.wp Tryd.prog o a W K Q else E := by
  obtain ⟨i0, hi, hz0, hz1, hz2⟩ := info_parts info117
  refine step_append_lies W hgd s x 119 ho base 117 i0 (.agg #[.int .i64 0, .int .i64 0, .int .i64 0, .int .i64 0]) 4 32 Tryd.underlying119 hi hz0 hz1 hz2 rfl (by decide) v k (blkcells l) hs hown ⟨B, 0, none⟩ 1 1 [.int .i64 y.a, .int .i64 y.b, .int .i64 y.c, .int .i64 y.d] hx rfl (World.news_of_block hB) ?_ (by decide) (by unfold maxLen; omega) (by omega) hbase _ rfl ?_
  · intro u hu
    simp only [List.mem_cons, List.not_mem_nil, or_false] at hu
    rcases hu with rfl | rfl | rfl | rfl <;> rfl
  · intro g c w' h1 h2 h3 _
    exact h g c w' (by rw [blkcells_append]; exact h1) h2 h3
theorem own_blk_at {W : World} {b base : Nat} {y : Bl} (h : W.heap[b]? = some (.cells #[.int .i64 y.a, .int .i64 y.b, .int .i64 y.c, .int .i64 y.d] 117 (0, 0))) (hb : base ≤ b) : W.ownsRow base 117 4 (.slice (some ⟨b, 0, none⟩) 1 1) 1 (blkcells [y]) :=
  ⟨rfl, .inr ⟨b, 1, #[.int .i64 y.a, .int .i64 y.b, .int .i64 y.c, .int .i64 y.d], rfl, hb, h, Nat.le_refl _, by decide, rfl, rfl⟩⟩

/-- Rows of Pair in memory below block B. -/
def PairsAt (w : World) (B : Nat) (A : Option Addr) (l : List (Bl × Bl)) : Prop :=
  ∀ (k : Nat) (x : Bl × Bl), l[k]? = some x → ∃ b off, A = some ⟨b, off, none⟩ ∧ b < B ∧ w.cell? ⟨b, off + k * 8, none⟩ = some (.int .i64 x.1.a) ∧ w.cell? ⟨b, off + k * 8 + 1, none⟩ = some (.int .i64 x.1.b) ∧ w.cell? ⟨b, off + k * 8 + 2, none⟩ = some (.int .i64 x.1.c) ∧ w.cell? ⟨b, off + k * 8 + 3, none⟩ = some (.int .i64 x.1.d) ∧ w.cell? ⟨b, off + k * 8 + 4, none⟩ = some (.int .i64 x.2.a) ∧ w.cell? ⟨b, off + k * 8 + 5, none⟩ = some (.int .i64 x.2.b) ∧ w.cell? ⟨b, off + k * 8 + 6, none⟩ = some (.int .i64 x.2.c) ∧ w.cell? ⟨b, off + k * 8 + 7, none⟩ = some (.int .i64 x.2.d)
theorem PairsAt.below {w w' : World} {B B' : Nat} {A : Option Addr} {l : List (Bl × Bl)} (h : PairsAt w B A l) (hb : Below B' w w') (hB : B ≤ B') : PairsAt w' B A l := by
  intro k x hx
  obtain ⟨b, off, h1, h2, h3, h4, h5, h6, h7, h8, h9, h10⟩ := h k x hx
  exact ⟨b, off, h1, h2, (hb.cell (p := ⟨b, _, none⟩) (by simp; omega)).trans h3, (hb.cell (p := ⟨b, _, none⟩) (by simp; omega)).trans h4, (hb.cell (p := ⟨b, _, none⟩) (by simp; omega)).trans h5, (hb.cell (p := ⟨b, _, none⟩) (by simp; omega)).trans h6, (hb.cell (p := ⟨b, _, none⟩) (by simp; omega)).trans h7, (hb.cell (p := ⟨b, _, none⟩) (by simp; omega)).trans h8, (hb.cell (p := ⟨b, _, none⟩) (by simp; omega)).trans h9, (hb.cell (p := ⟨b, _, none⟩) (by simp; omega)).trans h10⟩
theorem PairsAt.mono {w : World} {B B' : Nat} {A : Option Addr} {l : List (Bl × Bl)} (h : PairsAt w B A l) (hB : B ≤ B') : PairsAt w B' A l := by
  intro k x hx
  obtain ⟨b, off, h1, h2, h3⟩ := h k x hx
  exact ⟨b, off, h1, by omega, h3⟩
theorem PairsAt.nil (w : World) (B : Nat) (A : Option Addr) : PairsAt w B A [] := by intro k x h; simp at h
theorem PairsAt.up {w w' : World} {A : Option Addr} {l : List (Bl × Bl)} (h : PairsAt w w.heap.size A l) (hb : Below w.heap.size w w') : PairsAt w' w'.heap.size A l := (h.below hb (Nat.le_refl _)).mono hb.size
def paircells : List (Bl × Bl) → List Value
  | [] => []
  | x :: l => .int .i64 x.1.a :: .int .i64 x.1.b :: .int .i64 x.1.c :: .int .i64 x.1.d :: .int .i64 x.2.a :: .int .i64 x.2.b :: .int .i64 x.2.c :: .int .i64 x.2.d :: paircells l
theorem paircells_len : ∀ l : List (Bl × Bl), (paircells l).length = l.length * 8
  | [] => rfl
  | x :: l => by simp [paircells, paircells_len l]; omega
theorem paircells_append : ∀ l m : List (Bl × Bl), paircells (l ++ m) = paircells l ++ paircells m
  | [], _ => rfl
  | x :: l, m => by simp [paircells, paircells_append l m]
theorem paircells_get : ∀ (l : List (Bl × Bl)) (k : Nat) (x : Bl × Bl), l[k]? = some x → (paircells l)[k * 8]? = some (.int .i64 x.1.a) ∧ (paircells l)[k * 8 + 1]? = some (.int .i64 x.1.b) ∧ (paircells l)[k * 8 + 2]? = some (.int .i64 x.1.c) ∧ (paircells l)[k * 8 + 3]? = some (.int .i64 x.1.d) ∧ (paircells l)[k * 8 + 4]? = some (.int .i64 x.2.a) ∧ (paircells l)[k * 8 + 5]? = some (.int .i64 x.2.b) ∧ (paircells l)[k * 8 + 6]? = some (.int .i64 x.2.c) ∧ (paircells l)[k * 8 + 7]? = some (.int .i64 x.2.d)
  | [], k, x, h => by simp at h
  | y :: l, 0, x, h => by simp at h; subst h; simp [paircells]
  | y :: l, k + 1, x, h => by
    have := paircells_get l k x (by simpa using h)
    have e : (k + 1) * 8 = k * 8 + 8 := by omega
    rw [e]
    simpa [paircells] using this
theorem own_pairs {w : World} {base : Nat} {v : Value} {n : Nat} {l : List (Bl × Bl)} (h : w.ownsRow base 193 8 v n (paircells l)) : ∃ A c, v = .slice A l.length c ∧ PairsAt w w.heap.size A l ∧ n = l.length := by
  have hn : n = l.length := by have := h.1; rw [paircells_len] at this; omega
  subst hn
  rcases h.2 with ⟨rfl, h0⟩ | ⟨g, cap, cur, rfl, h2⟩
  · have : l = [] := by simpa using h0
    subst this
    exact ⟨none, 0, rfl, PairsAt.nil _ _ _, rfl⟩
  · refine ⟨some ⟨g, 0, none⟩, cap, rfl, fun k x hx => ?_, rfl⟩
    obtain ⟨h3, h4, h5, h6, h7, h8, h9, h10⟩ := paircells_get l k x hx
    have c3 := h.cells (g := g) rfl _ _ h3
    have c4 := h.cells (g := g) rfl _ _ h4
    have c5 := h.cells (g := g) rfl _ _ h5
    have c6 := h.cells (g := g) rfl _ _ h6
    have c7 := h.cells (g := g) rfl _ _ h7
    have c8 := h.cells (g := g) rfl _ _ h8
    have c9 := h.cells (g := g) rfl _ _ h9
    have c10 := h.cells (g := g) rfl _ _ h10
    rw [addr_add] at c3 c4 c5 c6 c7 c8 c9 c10
    exact ⟨g, 0, rfl, (h.lt g rfl).2, by simpa using c3, by simpa using c4, by simpa using c5, by simpa using c6, by simpa using c7, by simpa using c8, by simpa using c9, by simpa using c10⟩
theorem info193 : (Tryd.prog.info? 193).map (fun i => (i.zero, i.size, i.bytes)) = some (some (.agg #[.int .i64 0, .int .i64 0, .int .i64 0, .int .i64 0, .int .i64 0, .int .i64 0, .int .i64 0, .int .i64 0]), 8, 64) := by kernel_rfl
def RetPairs (w : World) (l : List (Bl × Bl)) (e : Ending) (w' : World) : Prop := ∃ A c, e = .returned (.slice A l.length c) ∧ PairsAt w' w'.heap.size A l ∧ Below w.heap.size w w' ∧ ∀ ad, A = some ad → w.heap.size ≤ ad.block
theorem wpList_append_pair {ops : Array Oper} {rest : List Oper} {o : Oper} {a : Act} {Q : Exit → Act → World → Prop} (W : World) (hgd : o.guard = none) (s x : Operand)
    (ho : o.op = .call { callee := .builtin .append, args := #[s, x], argTypes := #[173, 173] }) (base k B : Nat) (v : Value) (l : List (Bl × Bl)) (y : Bl × Bl) (hs : a.eval s = v) (hown : W.ownsRow base 193 8 v k (paircells l))
    (hx : a.eval x = .slice (some ⟨B, 0, none⟩) 1 1) (hB : W.heap[B]? = some (.cells #[.int .i64 y.1.a, .int .i64 y.1.b, .int .i64 y.1.c, .int .i64 y.1.d, .int .i64 y.2.a, .int .i64 y.2.b, .int .i64 y.2.c, .int .i64 y.2.d] 193 (0, 0))) (hk : k < 1000000) (hbase : base ≤ W.heap.size)
    (h : ∀ A c w', w'.ownsRow base 193 8 (.slice A (k + 1) c) (k + 1) (paircells (l ++ [y])) → W.grownBy w' v.ownBlock → ((Value.slice A (k + 1) c).ownBlock = v.ownBlock ∨ (Value.slice A (k + 1) c).ownBlock = some W.heap.size) → wpList Tryd.prog ops Q rest (a.put o.dst (.slice A (k + 1) c)) w') :
    wpList Tryd.prog ops Q (o :: rest) a W := by
  obtain ⟨i0, hi, hz0, hz1, hz2⟩ := info_parts info193
  refine wpList_append_own_at W hgd s x 173 ho base 193 i0 (.agg #[.int .i64 0, .int .i64 0, .int .i64 0, .int .i64 0, .int .i64 0, .int .i64 0, .int .i64 0, .int .i64 0]) 8 64 Tryd.underlying173 hi hz0 hz1 hz2 rfl (by decide) v k (paircells l) hs hown ⟨B, 0, none⟩ 1 1 [.int .i64 y.1.a, .int .i64 y.1.b, .int .i64 y.1.c, .int .i64 y.1.d, .int .i64 y.2.a, .int .i64 y.2.b, .int .i64 y.2.c, .int .i64 y.2.d] hx rfl (World.news_of_block hB) ?_ (by unfold maxLen; omega) (by omega) hbase ?_
  · intro u hu
    simp only [List.mem_cons, List.not_mem_nil, or_false] at hu
    rcases hu with rfl | rfl | rfl | rfl | rfl | rfl | rfl | rfl <;> rfl
  · intro v' w' h1 h2 _ h4
    obtain ⟨A, c, rfl⟩ := own_slice (by omega) h1
    exact h A c w' (by rw [paircells_append]; exact h1) h2 h4
theorem step_append_pair {ops : Array Oper} {o : Oper} {a : Act} {K : Act → World → Prop} {Q : Exit → Act → World → Prop} {E : Prop} (W : World) (hgd : o.guard = none) (s x : Operand)
    (ho : o.op = .call { callee := .builtin .append, args := #[s, x], argTypes := #[173, 173] }) (base k B : Nat) (v : Value) (l : List (Bl × Bl)) (y : Bl × Bl) (hs : a.eval s = v) (hown : W.ownsRow base 193 8 v k (paircells l))
    (hx : a.eval x = .slice (some ⟨B, 0, none⟩) 1 1) (hB : W.heap[B]? = some (.cells #[.int .i64 y.1.a, .int .i64 y.1.b, .int .i64 y.1.c, .int .i64 y.1.d, .int .i64 y.2.a, .int .i64 y.2.b, .int .i64 y.2.c, .int .i64 y.2.d] 193 (0, 0))) (hk : k < 1000000) (hbase : base ≤ W.heap.size)
    (h : ∀ g c w', w'.ownsRow base 193 8 (.slice (some ⟨g, 0, none⟩) (k + 1) c) (k + 1) (paircells (l ++ [y])) → W.grownBy w' v.ownBlock → (v.ownBlock = some g ∨ g = W.heap.size) → K (a.put o.dst (.slice (some ⟨g, 0, none⟩) (k + 1) c)) w') :
    if Region.wanted o (yielded ops a.tmps) = true then Oper.wp Tryd.prog o a W K Q else E := by
  obtain ⟨i0, hi, hz0, hz1, hz2⟩ := info_parts info193
  refine step_append_lies W hgd s x 173 ho base 193 i0 (.agg #[.int .i64 0, .int .i64 0, .int .i64 0, .int .i64 0, .int .i64 0, .int .i64 0, .int .i64 0, .int .i64 0]) 8 64 Tryd.underlying173 hi hz0 hz1 hz2 rfl (by decide) v k (paircells l) hs hown ⟨B, 0, none⟩ 1 1 [.int .i64 y.1.a, .int .i64 y.1.b, .int .i64 y.1.c, .int .i64 y.1.d, .int .i64 y.2.a, .int .i64 y.2.b, .int .i64 y.2.c, .int .i64 y.2.d] hx rfl (World.news_of_block hB) ?_ (by decide) (by unfold maxLen; omega) (by omega) hbase _ rfl ?_
  · intro u hu
    simp only [List.mem_cons, List.not_mem_nil, or_false] at hu
    rcases hu with rfl | rfl | rfl | rfl | rfl | rfl | rfl | rfl <;> rfl
  · intro g c w' h1 h2 h3 _
    exact h g c w' (by rw [paircells_append]; exact h1) h2 h3
theorem own_pair_at {W : World} {b base : Nat} {y : Bl × Bl} (h : W.heap[b]? = some (.cells #[.int .i64 y.1.a, .int .i64 y.1.b, .int .i64 y.1.c, .int .i64 y.1.d, .int .i64 y.2.a, .int .i64 y.2.b, .int .i64 y.2.c, .int .i64 y.2.d] 193 (0, 0))) (hb : base ≤ b) : W.ownsRow base 193 8 (.slice (some ⟨b, 0, none⟩) 1 1) 1 (paircells [y]) :=
  ⟨rfl, .inr ⟨b, 1, #[.int .i64 y.1.a, .int .i64 y.1.b, .int .i64 y.1.c, .int .i64 y.1.d, .int .i64 y.2.a, .int .i64 y.2.b, .int .i64 y.2.c, .int .i64 y.2.d], rfl, hb, h, Nat.le_refl _, by decide, rfl, rfl⟩⟩
end Go.Proofs.YtlollcabnfncpaaDoor
