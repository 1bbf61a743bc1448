/-
  Small words of the walks: what an ending holds, what keeps its memory, lists of numbers and of cards in memory.
-/
import Derived.Test.YtlollcabnfncpaaDoorMathB
import Derived.Test.YtlollcabnfncpaaDoorProg
import Derived.WalkKit
import Derived.WalkSpells
import Derived.WalkLawsBesides
import Derived.Laws.BitsAllLaws
import Derived.Laws.BitsLemmas
import Derived.Laws.NewBlocks
import Derived.Lib.Hide
import Derived.OwnWalk
import Derived.IntWalk
namespace Go.Proofs.YtlollcabnfncpaaDoor
open Go.RowKit

theorem ret_val {u v : Value} (h : u = v) : Ending.returned u = .returned v := by rw [h]
theorem ret_eq {k : IntKind} {a b : Int} (h : a = b) : Ending.returned (.int k a) = .returned (.int k b) := by rw [h]
theorem ret_bool {a b : Bool} (h : a = b) : Ending.returned (.bool a) = .returned (.bool b) := by rw [h]
theorem lt_of_get {α : Type} {l : List α} {k : Nat} {x : α} (h : l[k]? = some x) : k < l.length := (List.getElem?_eq_some_iff.1 h).1
theorem mem_of_get {α : Type} {l : List α} {k : Nat} {x : α} (h : l[k]? = some x) : x ∈ l := List.mem_of_getElem? h
theorem take_snoc {α : Type} {l : List α} {k : Nat} {x : α} (h : l[k]? = some x) : l.take (k + 1) = l.take k ++ [x] := by
  obtain ⟨hk, rfl⟩ := List.getElem?_eq_some_iff.1 h
  exact List.take_succ_eq_append_getElem hk
theorem drop_cons {α : Type} {l : List α} {k : Nat} {x : α} (h : l[k]? = some x) : l.drop k = x :: l.drop (k + 1) := by
  obtain ⟨hk, rfl⟩ := List.getElem?_eq_some_iff.1 h
  exact List.drop_eq_getElem_cons hk

theorem bcell {W w1 : World} (hb : Below W.heap.size W w1) : (∀ b o, b < W.heap.size → w1.cell? ⟨b, o, none⟩ = W.cell? ⟨b, o, none⟩) ∧ (∀ b o, b < W.heap.size → w1.frozen? ⟨b, o, none⟩ = W.frozen? ⟨b, o, none⟩) ∧ W.heap.size ≤ w1.heap.size :=
  ⟨fun b o h => hb.cell (p := ⟨b, o, none⟩) h, fun b o h => hb.frozen (p := ⟨b, o, none⟩) h, hb.size⟩
theorem below_new (w : World) (o : Obj) : Below w.heap.size w (w.alloc o) := (Below.refl _ _).alloc (Nat.le_refl _) o
theorem below_via {w w1 : World} {o : Obj} (h : Below (w.alloc o).heap.size (w.alloc o) w1) : Below w.heap.size w w1 := (below_new w o).trans (h.mono (by simp))
theorem below_then {a b c : World} (h : Below a.heap.size a b) (k : Below b.heap.size b c) : Below a.heap.size a c := h.trans (k.mono h.size)
theorem below_drewN {B : Nat} {a w : World} (h : Below B a w) (n : Nat) : Below B a (w.drewN n) := ⟨h.os, h.tape, h.output, h.size, h.block⟩

/-- Numbers that lie in memory below block B. -/
def IntsAt (w : World) (B : Nat) (A : Option Addr) (l : List Int) : Prop :=
  ∀ (k : Nat) (x : Int), l[k]? = some x → ∃ b off, A = some ⟨b, off, none⟩ ∧ b < B ∧ w.cell? ⟨b, off + k, none⟩ = some (.int .i64 x)
theorem IntsAt.below {w w' : World} {B B' : Nat} {A : Option Addr} {l : List Int} (h : IntsAt w B A l) (hb : Below B' w w') (hB : B ≤ B') : IntsAt w' B A l := by
  intro k x hx
  obtain ⟨b, off, h1, h2, h3⟩ := h k x hx
  exact ⟨b, off, h1, h2, (hb.cell (p := ⟨b, _, none⟩) (by simp; omega)).trans h3⟩
theorem IntsAt.mono {w : World} {B B' : Nat} {A : Option Addr} {l : List Int} (h : IntsAt w B A l) (hB : B ≤ B') : IntsAt w B' A l := by
  intro k x hx
  obtain ⟨b, off, h1, h2, h3⟩ := h k x hx
  exact ⟨b, off, h1, by omega, h3⟩
theorem IntsAt.nil (w : World) (B : Nat) (A : Option Addr) : IntsAt w B A [] := by intro k x h; simp at h
theorem IntsAt.up {w w' : World} {A : Option Addr} {l : List Int} (h : IntsAt w w.heap.size A l) (hb : Below w.heap.size w w') : IntsAt w' w'.heap.size A l := (h.below hb (Nat.le_refl _)).mono hb.size

/-- Cards that lie in memory below block B. -/
def CardsAt (w : World) (B : Nat) (A : Option Addr) (l : List Cd) : Prop :=
  ∀ (k : Nat) (x : Cd), l[k]? = some x → ∃ b off, A = some ⟨b, off, none⟩ ∧ b < B ∧ w.cell? ⟨b, off + k * 3, none⟩ = some (.int .i64 x.row) ∧ w.cell? ⟨b, off + k * 3 + 1, none⟩ = some (.int .i64 x.col) ∧
    w.cell? ⟨b, off + k * 3 + 2, none⟩ = some (.bool x.t)
theorem CardsAt.below {w w' : World} {B B' : Nat} {A : Option Addr} {l : List Cd} (h : CardsAt w B A l) (hb : Below B' w w') (hB : B ≤ B') : CardsAt w' B A l := by
  intro k x hx
  obtain ⟨b, off, h1, h2, h3, h4, h5⟩ := h k x hx
  exact ⟨b, off, h1, h2, (hb.cell (p := ⟨b, _, none⟩) (by simp; omega)).trans h3, (hb.cell (p := ⟨b, _, none⟩) (by simp; omega)).trans h4, (hb.cell (p := ⟨b, _, none⟩) (by simp; omega)).trans h5⟩
theorem CardsAt.mono {w : World} {B B' : Nat} {A : Option Addr} {l : List Cd} (h : CardsAt w B A l) (hB : B ≤ B') : CardsAt w B' A l := by
  intro k x hx
  obtain ⟨b, off, h1, h2, h3⟩ := h k x hx
  exact ⟨b, off, h1, by omega, h3⟩
theorem CardsAt.nil (w : World) (B : Nat) (A : Option Addr) : CardsAt w B A [] := by intro k x h; simp at h
theorem CardsAt.up {w w' : World} {A : Option Addr} {l : List Cd} (h : CardsAt w w.heap.size A l) (hb : Below w.heap.size w w') : CardsAt w' w'.heap.size A l := (h.below hb (Nat.le_refl _)).mono hb.size

theorem own_below {w w' : World} {base : Nat} {e : TypeId} {size : Nat} {v : Value} {n : Nat} {xs : List Value} (h : w.ownsRow base e size v n xs) (hb : Below w.heap.size w w') : w'.ownsRow base e size v n xs :=
  h.kept (row := none) ⟨hb.os, hb.tape, hb.output, hb.size, fun k hk _ => hb.block k hk⟩ (by
    rcases v.ownBlock with _ | g
    · exact .inl rfl
    · exact .inr (by simp))
theorem own_base {w : World} {B B' : Nat} {e : TypeId} {size : Nat} {v : Value} {n : Nat} {xs : List Value} (h : w.ownsRow B e size v n xs) (hB : B' ≤ B) : w.ownsRow B' e size v n xs := by
  refine ⟨h.1, ?_⟩
  rcases h.2 with h | ⟨g, cap, cur, h1, h2, h3⟩
  · exact .inl h
  · exact .inr ⟨g, cap, cur, h1, by omega, h3⟩

/-- The cells of cards in a row. -/
def ccells : List Cd → List Value
  | [] => []
  | x :: l => .int .i64 x.row :: .int .i64 x.col :: .bool x.t :: ccells l
theorem ccells_len : ∀ l : List Cd, (ccells l).length = l.length * 3
  | [] => rfl
  | x :: l => by simp [ccells, ccells_len l]; omega
theorem ccells_append : ∀ l m : List Cd, ccells (l ++ m) = ccells l ++ ccells m
  | [], _ => rfl
  | x :: l, m => by simp [ccells, ccells_append l m]
theorem ccells_one : ∀ l : List Cd, ∀ u ∈ ccells l, u.oneCell' = true
  | [], u, h => by simp [ccells] at h
  | x :: l, u, h => by
    simp only [ccells, List.mem_cons] at h
    rcases h with rfl | rfl | rfl | h
    · rfl
    · rfl
    · rfl
    · exact ccells_one l u h
theorem ccells_get : ∀ (l : List Cd) (k : Nat) (x : Cd), l[k]? = some x →
    (ccells l)[k * 3]? = some (.int .i64 x.row) ∧ (ccells l)[k * 3 + 1]? = some (.int .i64 x.col) ∧ (ccells l)[k * 3 + 2]? = some (.bool x.t)
  | [], k, x, h => by simp at h
  | y :: l, 0, x, h => by simp at h; subst h; simp [ccells]
  | y :: l, k + 1, x, h => by
    have := ccells_get l k x (by simpa using h)
    have e : (k + 1) * 3 = k * 3 + 3 := by omega
    rw [e]
    simpa [ccells] using this

theorem addr_add (g i : Nat) : (⟨g, 0, none⟩ : Addr).add i = ⟨g, i, none⟩ := by unfold Addr.add; split <;> simp_all
theorem own_cards {w : World} {base : Nat} {v : Value} {n : Nat} {l : List Cd} (h : w.ownsRow base 69 3 v n (ccells l)) : ∃ A c, v = .slice A l.length c ∧ CardsAt w w.heap.size A l ∧ n = l.length := by
  have hn : n = l.length := by have := h.1; rw [ccells_len] at this; omega
  subst hn
  rcases h.2 with ⟨rfl, h0⟩ | ⟨g, cap, cur, rfl, h2⟩
  · have : l = [] := by simpa using h0
    subst this
    exact ⟨none, 0, rfl, CardsAt.nil _ _ _, rfl⟩
  · refine ⟨some ⟨g, 0, none⟩, cap, rfl, fun k x hx => ?_, rfl⟩
    obtain ⟨h3, h4, h5⟩ := ccells_get l k x hx
    have c3 := h.cells (g := g) rfl _ _ h3
    have c4 := h.cells (g := g) rfl _ _ h4
    have c5 := h.cells (g := g) rfl _ _ h5
    rw [addr_add] at c3 c4 c5
    exact ⟨g, 0, rfl, (h.lt g rfl).2, by simpa using c3, by simpa using c4, by simpa using c5⟩
theorem own_ints {w : World} {base : Nat} {v : Value} {n : Nat} {l : List Int} (h : w.ownsRow base 3 1 v n (l.map (Value.int .i64))) : ∃ A c, v = .slice A l.length c ∧ IntsAt w w.heap.size A l ∧ n = l.length := by
  have hn : n = l.length := by have := h.1; rw [List.length_map] at this; omega
  subst hn
  rcases h.2 with ⟨rfl, h0⟩ | ⟨g, cap, cur, rfl, h2⟩
  · have : l = [] := by simpa using h0
    subst this
    exact ⟨none, 0, rfl, IntsAt.nil _ _ _, rfl⟩
  · refine ⟨some ⟨g, 0, none⟩, cap, rfl, fun k x hx => ?_, rfl⟩
    have hc := h.cells (g := g) rfl k (.int .i64 x) (by simp [hx])
    refine ⟨g, 0, rfl, (h.lt g rfl).2, ?_⟩
    rw [addr_add] at hc
    simpa using hc

theorem own_block_ge {w : World} {base : Nat} {e : TypeId} {size n m c : Nat} {A : Option Addr} {xs : List Value} (h : w.ownsRow base e size (.slice A m c) n xs) : ∀ ad, A = some ad → base ≤ ad.block := by
  rintro ad rfl
  exact (h.lt ad.block rfl).1

theorem info3 : (Tryd.prog.info? 3).map (fun i => (i.zero, i.size, i.bytes)) = some (some (.int .i64 0), 1, 8) := by kernel_rfl
theorem info69 : (Tryd.prog.info? 69).map (fun i => (i.zero, i.size, i.bytes)) = some (some (.agg #[.int .i64 0, .int .i64 0, .bool false]), 3, 24) := by kernel_rfl

/-- A list of numbers, or of cards, is handed back. -/
def RetInts (w : World) (l : List Int) (e : Ending) (w' : World) : Prop := ∃ A c, e = .returned (.slice A l.length c) ∧ IntsAt w' w'.heap.size A l ∧ Below w.heap.size w w'
def RetCards (w : World) (l : List Cd) (e : Ending) (w' : World) : Prop := ∃ A c, e = .returned (.slice A l.length c) ∧ CardsAt w' w'.heap.size A l ∧ Below w.heap.size w w' ∧ ∀ ad, A = some ad → w.heap.size ≤ ad.block
end Go.Proofs.YtlollcabnfncpaaDoor
