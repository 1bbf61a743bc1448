/-
  Small words of the walks: what an ending holds, what keeps its memory, lists of numbers and lists of lists in memory, rows of the call's own.
-/
import Derived.Test.YtbcbaaapogejiaaDoorMathA
import Derived.Test.YtbcbaaapogejiaaDoorProg
import Derived.WalkKit
import Derived.WalkSpells
import Derived.WalkLawsBesides
import Derived.Laws.BitsAllLaws
import Derived.Laws.BitsLemmas
import Derived.Laws.NewBlocks
import Derived.Lib.Hide
import Derived.OwnWalk
import Derived.IntWalk
import Derived.Maps.AppendAt
import Derived.Deep.AppendLies
import Derived.Laws.Rows
namespace Go.Proofs.YtbcbaaapogejiaaDoor
open Go.RowKit

theorem ret_val {u v : Value} (h : u = v) : Ending.returned u = .returned v := by rw [h]
theorem ret_eq {k : IntKind} {a b : Int} (h : a = b) : Ending.returned (.int k a) = .returned (.int k b) := by rw [h]
theorem ret_bool {a b : Bool} (h : a = b) : Ending.returned (.bool a) = .returned (.bool b) := by rw [h]
theorem lt_of_get {α : Type} {l : List α} {k : Nat} {x : α} (h : l[k]? = some x) : k < l.length := (List.getElem?_eq_some_iff.1 h).1
theorem mem_of_get {α : Type} {l : List α} {k : Nat} {x : α} (h : l[k]? = some x) : x ∈ l := List.mem_of_getElem? h
theorem take_snoc {α : Type} {l : List α} {k : Nat} {x : α} (h : l[k]? = some x) : l.take (k + 1) = l.take k ++ [x] := by
  obtain ⟨hk, rfl⟩ := List.getElem?_eq_some_iff.1 h
  exact List.take_succ_eq_append_getElem hk
theorem drop_cons {α : Type} {l : List α} {k : Nat} {x : α} (h : l[k]? = some x) : l.drop k = x :: l.drop (k + 1) := by
  obtain ⟨hk, rfl⟩ := List.getElem?_eq_some_iff.1 h
  exact List.drop_eq_getElem_cons hk

theorem bcell {W w1 : World} (hb : Below W.heap.size W w1) : (∀ b o, b < W.heap.size → w1.cell? ⟨b, o, none⟩ = W.cell? ⟨b, o, none⟩) ∧ (∀ b o, b < W.heap.size → w1.frozen? ⟨b, o, none⟩ = W.frozen? ⟨b, o, none⟩) ∧ W.heap.size ≤ w1.heap.size :=
  ⟨fun b o h => hb.cell (p := ⟨b, o, none⟩) h, fun b o h => hb.frozen (p := ⟨b, o, none⟩) h, hb.size⟩
theorem below_new (w : World) (o : Obj) : Below w.heap.size w (w.alloc o) := (Below.refl _ _).alloc (Nat.le_refl _) o
theorem below_via {w w1 : World} {o : Obj} (h : Below (w.alloc o).heap.size (w.alloc o) w1) : Below w.heap.size w w1 := (below_new w o).trans (h.mono (by simp))
theorem below_then {a b c : World} (h : Below a.heap.size a b) (k : Below b.heap.size b c) : Below a.heap.size a c := h.trans (k.mono h.size)
theorem below_drewN {B : Nat} {a w : World} (h : Below B a w) (n : Nat) : Below B a (w.drewN n) := ⟨h.os, h.tape, h.output, h.size, h.block⟩
theorem lt_of_heap {w : World} {i : Nat} {o : Obj} (h : w.heap[i]? = some o) : i < w.heap.size := (Array.getElem?_eq_some_iff.1 h).1
theorem lt_of_cell {w : World} {b o : Nat} {f : Option TypeId} {v : Value} (h : w.cell? ⟨b, o, none⟩ = some v) (_ : f = none) : b < w.heap.size := by
  refine Nat.lt_of_not_le fun h0 => ?_
  have hn : w.heap[b]? = none := Array.getElem?_eq_none h0
  simp [World.cell?, hn] at h
theorem heap_at (W : World) (o : Obj) (b : Nat) (h : b = W.heap.size) : (W.alloc o).heap[b]? = some o := by subst h; exact heap_alloc_new W o
theorem heap_new (W : World) (o : Obj) : (W.alloc o).heap[W.heap.size]? = some o := heap_alloc_new W o

/-- What may change between two worlds: blocks that a predicate names, and new ones. -/
structure Chg (P : Nat → Prop) (w w' : World) : Prop where
  os : w'.os = w.os
  tape : w'.tape = w.tape
  output : w'.output = w.output
  size : w.heap.size ≤ w'.heap.size
  block : ∀ k, k < w.heap.size → ¬ P k → w'.heap[k]? = w.heap[k]?

theorem Chg.refl (P : Nat → Prop) (w : World) : Chg P w w := ⟨rfl, rfl, rfl, Nat.le_refl _, fun _ _ _ => rfl⟩
theorem Chg.trans {P Q : Nat → Prop} {a b c : World} (h : Chg P a b) (k : Chg Q b c) (hq : ∀ i, i < a.heap.size → Q i → P i) : Chg P a c :=
  ⟨k.os.trans h.os, k.tape.trans h.tape, k.output.trans h.output, Nat.le_trans h.size k.size, fun i hi hn => (k.block i (Nat.lt_of_lt_of_le hi h.size) fun hQ => hn (hq i hi hQ)).trans (h.block i hi hn)⟩
theorem Chg.mono {P Q : Nat → Prop} {a b : World} (h : Chg P a b) (hq : ∀ i, i < a.heap.size → P i → Q i) : Chg Q a b :=
  ⟨h.os, h.tape, h.output, h.size, fun i hi hn => h.block i hi fun hP => hn (hq i hi hP)⟩
theorem Chg.of_below {P : Nat → Prop} {a b : World} (h : Below a.heap.size a b) : Chg P a b := ⟨h.os, h.tape, h.output, h.size, fun i hi _ => h.block i hi⟩
theorem Chg.of_grown {a b : World} {r : Option Nat} (h : a.grownBy b r) : Chg (fun i => some i = r) a b := ⟨h.os, h.tape, h.output, h.size, fun i hi hn => h.block i hi hn⟩
theorem Chg.store (w : World) (p : Addr) (u : Value) : Chg (fun i => i = p.block) w (w.setCell p u) := ⟨rfl, rfl, rfl, by simp [World.setCell], fun k _ h => Below.heap_setCell w p u k h⟩
theorem Chg.alloc {P : Nat → Prop} {a b : World} (h : Chg P a b) (o : Obj) : Chg P a (b.alloc o) := h.trans (Q := fun _ => False) (Chg.of_below (below_new b o)) (fun _ _ h => h.elim)
theorem Chg.then_below {P : Nat → Prop} {a b c : World} (h : Chg P a b) (k : Below b.heap.size b c) : Chg P a c := h.trans (Q := fun _ => False) (Chg.of_below k) (fun _ _ h => h.elim)
theorem Chg.heap {P : Nat → Prop} {a b : World} (h : Chg P a b) {i : Nat} {o : Obj} (hi : a.heap[i]? = some o) (hn : ¬ P i) : b.heap[i]? = some o :=
  (h.block i (by have := Array.getElem?_eq_some_iff.1 hi; exact this.1) hn).trans hi
theorem Chg.cell {P : Nat → Prop} {a b : World} (h : Chg P a b) {p : Addr} (hi : p.block < a.heap.size) (hn : ¬ P p.block) : b.cell? p = a.cell? p := World.cell?_of_block (h.block _ hi hn)
theorem Chg.frozen {P : Nat → Prop} {a b : World} (h : Chg P a b) {p : Addr} (hi : p.block < a.heap.size) (hn : ¬ P p.block) : b.frozen? p = a.frozen? p := World.frozen?_of_block (h.block _ hi hn)
theorem Chg.below {P : Nat → Prop} {a b : World} (h : Chg P a b) {B : Nat} (hB : B ≤ a.heap.size) (hn : ∀ i, i < B → ¬ P i) : Below B a b := ⟨h.os, h.tape, h.output, h.size, fun i hi => h.block i (Nat.lt_of_lt_of_le hi hB) (hn i hi)⟩
theorem Chg.own {P : Nat → Prop} {a b : World} (h : Chg P a b) {base : Nat} {e : TypeId} {size : Nat} {v : Value} {n : Nat} {xs : List Value} (ho : a.ownsRow base e size v n xs) (hn : ∀ g, v.ownBlock = some g → ¬ P g) : b.ownsRow base e size v n xs := by
  refine ⟨ho.1, ?_⟩
  rcases ho.2 with h1 | ⟨g, cap, cur, h1, h2, h3, h4⟩
  · exact .inl h1
  · have hg : v.ownBlock = some g := by rw [h1]; rfl
    exact .inr ⟨g, cap, cur, h1, h2, h.heap h3 (hn g hg), h4⟩

/-- Numbers that lie in memory below block B. -/
def IntsAt (w : World) (B : Nat) (A : Option Addr) (l : List Int) : Prop :=
  ∀ (k : Nat) (x : Int), l[k]? = some x → ∃ b off, A = some ⟨b, off, none⟩ ∧ b < B ∧ w.cell? ⟨b, off + k, none⟩ = some (.int .i64 x)
theorem IntsAt.below {w w' : World} {B B' : Nat} {A : Option Addr} {l : List Int} (h : IntsAt w B A l) (hb : Below B' w w') (hB : B ≤ B') : IntsAt w' B A l := by
  intro k x hx
  obtain ⟨b, off, h1, h2, h3⟩ := h k x hx
  exact ⟨b, off, h1, h2, (hb.cell (p := ⟨b, _, none⟩) (by simp; omega)).trans h3⟩
theorem IntsAt.mono {w : World} {B B' : Nat} {A : Option Addr} {l : List Int} (h : IntsAt w B A l) (hB : B ≤ B') : IntsAt w B' A l := by
  intro k x hx
  obtain ⟨b, off, h1, h2, h3⟩ := h k x hx
  exact ⟨b, off, h1, by omega, h3⟩
theorem IntsAt.nil (w : World) (B : Nat) (A : Option Addr) : IntsAt w B A [] := by intro k x h; simp at h
theorem IntsAt.up {w w' : World} {A : Option Addr} {l : List Int} (h : IntsAt w w.heap.size A l) (hb : Below w.heap.size w w') : IntsAt w' w'.heap.size A l := (h.below hb (Nat.le_refl _)).mono hb.size
theorem IntsAt.chg {P : Nat → Prop} {w w' : World} {A : Option Addr} {l : List Int} (h : IntsAt w w.heap.size A l) (hc : Chg P w w') (hn : ∀ ad, A = some ad → ¬ P ad.block) : IntsAt w' w'.heap.size A l := by
  intro k x hx
  obtain ⟨b, off, h1, h2, h3⟩ := h k x hx
  have hb := hn _ h1
  exact ⟨b, off, h1, Nat.lt_of_lt_of_le h2 hc.size, (hc.cell (p := ⟨b, off + k, none⟩) h2 hb).trans h3⟩
theorem IntsAt.keep {P : Nat → Prop} {w w' : World} {B : Nat} {A : Option Addr} {l : List Int} (h : IntsAt w B A l) (hc : Chg P w w') (hB : B ≤ w.heap.size) (hn : ∀ ad, A = some ad → ¬ P ad.block) : IntsAt w' B A l := by
  intro k x hx
  obtain ⟨b, off, h1, h2, h3⟩ := h k x hx
  have hb := hn _ h1
  exact ⟨b, off, h1, h2, (hc.cell (p := ⟨b, off + k, none⟩) (Nat.lt_of_lt_of_le h2 hB) hb).trans h3⟩

theorem addr_add (g i : Nat) : (⟨g, 0, none⟩ : Addr).add i = ⟨g, i, none⟩ := by unfold Addr.add; split <;> simp_all
theorem adr_add (b o j : Nat) : (⟨b, o, none⟩ : Addr).add j = ⟨b, o + j, none⟩ := by unfold Addr.add; split <;> simp_all

theorem own_below {w w' : World} {base : Nat} {e : TypeId} {size : Nat} {v : Value} {n : Nat} {xs : List Value} (h : w.ownsRow base e size v n xs) (hb : Below w.heap.size w w') : w'.ownsRow base e size v n xs :=
  (Chg.of_below (P := fun _ => False) hb).own h fun _ _ h => h
theorem own_base {w : World} {B B' : Nat} {e : TypeId} {size : Nat} {v : Value} {n : Nat} {xs : List Value} (h : w.ownsRow B e size v n xs) (hB : B' ≤ B) : w.ownsRow B' e size v n xs := by
  refine ⟨h.1, ?_⟩
  rcases h.2 with h | ⟨g, cap, cur, h1, h2, h3⟩
  · exact .inl h
  · exact .inr ⟨g, cap, cur, h1, by omega, h3⟩
theorem own_slice {w : World} {base : Nat} {e : TypeId} {size n : Nat} {v : Value} {xs : List Value} (h : w.ownsRow base e size v n xs) : ∃ A c, v = .slice A n c := by
  rcases h.2 with ⟨rfl, h0⟩ | ⟨g, cap, cur, h1, _⟩
  · have := h.1
    rw [h0] at this
    exact ⟨none, 0, by rw [h0]⟩
  · exact ⟨_, _, h1⟩
theorem own_ints {w : World} {base : Nat} {v : Value} {n : Nat} {l : List Int} (h : w.ownsRow base 3 1 v n (l.map (Value.int .i64))) : ∃ A c, v = .slice A l.length c ∧ IntsAt w w.heap.size A l ∧ n = l.length ∧ ∀ ad, A = some ad → base ≤ ad.block ∧ ad.off = 0 := by
  have hn : n = l.length := by have := h.1; rw [List.length_map] at this; omega
  subst hn
  rcases h.2 with ⟨rfl, h0⟩ | ⟨g, cap, cur, rfl, h2⟩
  · have : l = [] := by simpa using h0
    subst this
    exact ⟨none, 0, rfl, IntsAt.nil _ _ _, rfl, fun _ h => by cases h⟩
  · refine ⟨some ⟨g, 0, none⟩, cap, rfl, fun k x hx => ?_, rfl, fun ad e => by injection e with e; subst e; exact ⟨h2.1, rfl⟩⟩
    have hc := h.cells (g := g) rfl k (.int .i64 x) (by simp [hx])
    refine ⟨g, 0, rfl, (h.lt g rfl).2, ?_⟩
    rw [addr_add] at hc
    simpa using hc

/-- Values that are slices of numbers, in blocks of which P holds. -/
def Sls (W : World) (P : Nat → Prop) : List Value → List (List Int) → Prop
  | [], [] => True
  | v :: vs, x :: xs => (∃ A c, v = .slice A x.length c ∧ IntsAt W W.heap.size A x ∧ ∀ ad, A = some ad → ad.block < W.heap.size ∧ P ad.block) ∧ Sls W P vs xs
  | _, _ => False
theorem Sls.chg {W W' : World} {P P' Q : Nat → Prop} (hc : Chg Q W W') (hn : ∀ i, i < W.heap.size → P i → ¬ Q i ∧ P' i) : ∀ {vs : List Value} {ls : List (List Int)}, Sls W P vs ls → Sls W' P' vs ls
  | [], [], _ => trivial
  | _ :: _, _ :: _, ⟨⟨A, c, h1, h2, h3⟩, h4⟩ => ⟨⟨A, c, h1, h2.chg hc fun ad e => (hn _ (h3 ad e).1 (h3 ad e).2).1, fun ad e => ⟨Nat.lt_of_lt_of_le (h3 ad e).1 hc.size, (hn _ (h3 ad e).1 (h3 ad e).2).2⟩⟩, Sls.chg hc hn h4⟩
  | [], _ :: _, h => h.elim
  | _ :: _, [], h => h.elim
theorem Sls.imp {W : World} {P Q : Nat → Prop} (hp : ∀ i, i < W.heap.size → P i → Q i) : ∀ {vs : List Value} {ls : List (List Int)}, Sls W P vs ls → Sls W Q vs ls
  | [], [], _ => trivial
  | _ :: _, _ :: _, ⟨⟨A, c, h1, h2, h3⟩, h4⟩ => ⟨⟨A, c, h1, h2, fun ad e => ⟨(h3 ad e).1, hp _ (h3 ad e).1 (h3 ad e).2⟩⟩, Sls.imp hp h4⟩
  | [], _ :: _, h => h.elim
  | _ :: _, [], h => h.elim
theorem Sls.append {W : World} {P : Nat → Prop} {us : List Value} {ms : List (List Int)} (k : Sls W P us ms) : ∀ {vs : List Value} {ls : List (List Int)}, Sls W P vs ls → Sls W P (vs ++ us) (ls ++ ms)
  | [], [], _ => k
  | _ :: _, _ :: _, ⟨h, h4⟩ => ⟨h, Sls.append k h4⟩
  | [], _ :: _, h => h.elim
  | _ :: _, [], h => h.elim
theorem Sls.len {W : World} {P : Nat → Prop} : ∀ {vs : List Value} {ls : List (List Int)}, Sls W P vs ls → vs.length = ls.length
  | [], [], _ => rfl
  | _ :: _, _ :: _, ⟨_, h4⟩ => by rw [List.length_cons, List.length_cons, Sls.len h4]
  | [], _ :: _, h => h.elim
  | _ :: _, [], h => h.elim
theorem Sls.one {W : World} {P : Nat → Prop} : ∀ {vs : List Value} {ls : List (List Int)}, Sls W P vs ls → ∀ u ∈ vs, u.oneCell' = true
  | [], [], _ => fun u h => absurd h List.not_mem_nil
  | _ :: _, _ :: _, ⟨⟨A, c, h1, _⟩, h4⟩ => fun u hu => by
    rcases List.mem_cons.1 hu with e | hu
    · rw [e, h1]; rfl
    · exact Sls.one h4 u hu
  | [], _ :: _, h => h.elim
  | _ :: _, [], h => h.elim
theorem Sls.get {W : World} {P : Nat → Prop} : ∀ {vs : List Value} {ls : List (List Int)}, Sls W P vs ls → ∀ {k : Nat} {x : List Int}, ls[k]? = some x → ∃ A c, vs[k]? = some (.slice A x.length c) ∧ IntsAt W W.heap.size A x ∧ ∀ ad, A = some ad → ad.block < W.heap.size ∧ P ad.block
  | [], [], _, _, _, h => by simp at h
  | v :: _, y :: _, ⟨⟨A, c, h1, h2, h3⟩, _⟩, 0, x, h => by
    have e : y = x := by simpa using h
    subst e
    exact ⟨A, c, by rw [h1]; rfl, h2, h3⟩
  | _ :: _, _ :: _, ⟨_, h4⟩, k + 1, x, h => by
    obtain ⟨A, c, h1, h2⟩ := Sls.get h4 (k := k) (x := x) (by simpa using h)
    exact ⟨A, c, by simpa using h1, h2⟩
  | [], _ :: _, h, _, _, _ => h.elim
  | _ :: _, [], h, _, _, _ => h.elim

/-- Lists of numbers that lie in memory. -/
def ListsAt (w : World) (B : Nat) (A : Option Addr) (ls : List (List Int)) : Prop :=
  ∀ (k : Nat) (x : List Int), ls[k]? = some x → ∃ b off D c, A = some ⟨b, off, none⟩ ∧ b < B ∧ w.cell? ⟨b, off + k, none⟩ = some (.slice D x.length c) ∧ IntsAt w B D x
theorem ListsAt.below {w w' : World} {B B' : Nat} {A : Option Addr} {l : List (List Int)} (h : ListsAt w B A l) (hb : Below B' w w') (hB : B ≤ B') : ListsAt w' B A l := by
  intro k x hx
  obtain ⟨b, off, D, c, h1, h2, h3, h4⟩ := h k x hx
  exact ⟨b, off, D, c, h1, h2, (hb.cell (p := ⟨b, _, none⟩) (by simp; omega)).trans h3, h4.below hb hB⟩
theorem ListsAt.mono {w : World} {B B' : Nat} {A : Option Addr} {l : List (List Int)} (h : ListsAt w B A l) (hB : B ≤ B') : ListsAt w B' A l := by
  intro k x hx
  obtain ⟨b, off, D, c, h1, h2, h3, h4⟩ := h k x hx
  exact ⟨b, off, D, c, h1, by omega, h3, h4.mono hB⟩
theorem ListsAt.nil (w : World) (B : Nat) (A : Option Addr) : ListsAt w B A [] := by intro k x h; simp at h
theorem ListsAt.up {w w' : World} {A : Option Addr} {l : List (List Int)} (h : ListsAt w w.heap.size A l) (hb : Below w.heap.size w w') : ListsAt w' w'.heap.size A l := (h.below hb (Nat.le_refl _)).mono hb.size

/-- A list of lists of the call's own. -/
def Out (B : Nat) (W : World) (v : Value) (ls : List (List Int)) : Prop := ∃ vals, W.ownsRow B 22 1 v ls.length vals ∧ Sls W (fun i => B ≤ i ∧ v.ownBlock ≠ some i) vals ls
theorem Out.nil (B : Nat) (W : World) : Out B W (.slice none 0 0) [] := ⟨[], World.ownsRow_nil _ _ _ _, trivial⟩
theorem Out.below {B : Nat} {W W' : World} {v : Value} {ls : List (List Int)} (h : Out B W v ls) (hb : Below W.heap.size W W') : Out B W' v ls := by
  obtain ⟨vals, h1, h2⟩ := h
  exact ⟨vals, own_below h1 hb, h2.chg (Chg.of_below (P := fun _ => False) hb) fun _ _ h => ⟨fun h => h, h⟩⟩
theorem Out.base {B B' : Nat} {W : World} {v : Value} {ls : List (List Int)} (h : Out B W v ls) (hB : B' ≤ B) : Out B' W v ls := by
  obtain ⟨vals, h1, h2⟩ := h
  exact ⟨vals, own_base h1 hB, h2.imp fun i _ hp => ⟨by omega, hp.2⟩⟩
theorem Out.slice {B : Nat} {W : World} {v : Value} {ls : List (List Int)} (h : Out B W v ls) : ∃ A c, v = .slice A ls.length c := by
  obtain ⟨vals, h1, _⟩ := h
  exact own_slice h1
theorem Out.lists {B : Nat} {W : World} {A : Option Addr} {n c : Nat} {ls : List (List Int)} (h : Out B W (.slice A n c) ls) : ListsAt W W.heap.size A ls := by
  obtain ⟨vals, h1, h2⟩ := h
  intro k x hx
  obtain ⟨D, d, h3, h4, _⟩ := h2.get hx
  rcases h1.2 with ⟨e, h0⟩ | ⟨g, cap, cur, e, h5⟩
  · have := lt_of_get hx
    omega
  · injection e with e1 e2 e3
    subst e1 e2 e3
    have hc := h1.cells (g := g) rfl k _ h3
    rw [addr_add] at hc
    exact ⟨g, 0, D, d, rfl, (h1.lt g rfl).2, by simpa using hc, h4⟩

theorem info3 : (Tryd.prog.info? 3).map (fun i => (i.zero, i.size, i.bytes)) = some (some (.int .i64 0), 1, 8) := by kernel_rfl
theorem info22 : (Tryd.prog.info? 22).map (fun i => (i.zero, i.size, i.bytes)) = some (some (.slice none 0 0), 1, 24) := by kernel_rfl

theorem wpList_append_int {ops : Array Oper} {rest : List Oper} {o : Oper} {a : Act} {Q : Exit → Act → World → Prop} (W : World) (hgd : o.guard = none) (s x : Operand)
    (ho : o.op = .call { callee := .builtin .append, args := #[s, x], argTypes := #[22, 22] }) (base k B : Nat) (v : Value) (l : List Int) (y : Int) (hs : a.eval s = v) (hown : W.ownsRow base 3 1 v k (l.map (Value.int .i64)))
    (hx : a.eval x = .slice (some ⟨B, 0, none⟩) 1 1) (hB : W.heap[B]? = some (.cells #[.int .i64 y] 3 (0, 0))) (hk : k < 1000000) (hbase : base ≤ W.heap.size)
    (h : ∀ A c w', w'.ownsRow base 3 1 (.slice A (k + 1) c) (k + 1) ((l ++ [y]).map (Value.int .i64)) → W.grownBy w' v.ownBlock → ((Value.slice A (k + 1) c).ownBlock = v.ownBlock ∨ (Value.slice A (k + 1) c).ownBlock = some W.heap.size) → wpList Tryd.prog ops Q rest (a.put o.dst (.slice A (k + 1) c)) w') :
    wpList Tryd.prog ops Q (o :: rest) a W := by
  obtain ⟨i0, hi, hz0, hz1, hz2⟩ := info_parts info3
  refine wpList_append_own_at W hgd s x 22 ho base 3 i0 (.int .i64 0) 1 8 Tryd.underlying22 hi hz0 hz1 hz2 rfl (by decide) v k _ hs hown ⟨B, 0, none⟩ 1 1 [.int .i64 y] hx rfl (World.news_of_block hB) ?_ (by unfold maxLen; omega) (by omega) hbase ?_
  · intro u hu
    simp only [List.mem_cons, List.not_mem_nil, or_false] at hu
    rcases hu with rfl; rfl
  · intro v' w' h1 h2 _ h4
    obtain ⟨A, c, rfl⟩ := own_slice h1
    exact h A c w' (by rw [List.map_append]; exact h1) h2 h4

theorem wpList_append_list {ops : Array Oper} {rest : List Oper} {o : Oper} {a : Act} {Q : Exit → Act → World → Prop} (W : World) (hgd : o.guard = none) (s x : Operand)
    (ho : o.op = .call { callee := .builtin .append, args := #[s, x], argTypes := #[43, 43] }) (base B : Nat) (v : Value) (ls : List (List Int)) (y : List Int) (D : Option Addr) (d : Nat) (hs : a.eval s = v) (hown : Out base W v ls)
    (hx : a.eval x = .slice (some ⟨B, 0, none⟩) 1 1) (hB : W.heap[B]? = some (.cells #[.slice D y.length d] 22 (0, 0))) (hD : IntsAt W W.heap.size D y) (hD2 : ∀ ad, D = some ad → ad.block < W.heap.size ∧ base ≤ ad.block ∧ v.ownBlock ≠ some ad.block) (hk : ls.length < 1000000) (hbase : base ≤ W.heap.size)
    (h : ∀ A c w', Out base w' (.slice A (ls.length + 1) c) (ls ++ [y]) → W.grownBy w' v.ownBlock → Below base W w' → wpList Tryd.prog ops Q rest (a.put o.dst (.slice A (ls.length + 1) c)) w') :
    wpList Tryd.prog ops Q (o :: rest) a W := by
  obtain ⟨i0, hi, hz0, hz1, hz2⟩ := info_parts info22
  obtain ⟨us, h1, h2⟩ := hown
  refine wpList_append_own_at W hgd s x 43 ho base 22 i0 (.slice none 0 0) 1 24 Tryd.underlying43 hi hz0 hz1 hz2 rfl (by decide) v ls.length _ hs h1 ⟨B, 0, none⟩ 1 1 [.slice D y.length d] hx rfl (World.news_of_block hB) ?_ (by unfold maxLen; omega) (by omega) hbase ?_
  · intro u hu
    simp only [List.mem_cons, List.not_mem_nil, or_false] at hu
    rcases hu with rfl; rfl
  · intro v' w' k1 k2 _ k3
    obtain ⟨A, c, rfl⟩ := own_slice k1
    have hlt := h1.lt
    refine h A c w' ⟨us ++ [.slice D y.length d], by simpa using k1, ?_⟩ k2 ((Below.refl _ _).grown k2 hbase fun g hg => (hlt g hg).1)
    have hnew : ∀ {vs : List Value} {xs : List (List Int)}, Sls W (fun i => base ≤ i ∧ v.ownBlock ≠ some i) vs xs → Sls w' (fun i => base ≤ i ∧ (Value.slice A (ls.length + 1) c).ownBlock ≠ some i) vs xs := fun hh => hh.chg (Chg.of_grown k2) fun i hi hp => ⟨fun e => hp.2 e.symm, hp.1, by
      rcases k3 with e | e
      · rw [e]; exact hp.2
      · rw [e]; intro h; injection h; omega⟩
    refine Sls.append (hnew ?_) (hnew h2)
    exact ⟨⟨D, d, rfl, hD, hD2⟩, trivial⟩

/-- A list of numbers, or of lists, is handed back. -/
def RetInts (w : World) (l : List Int) (e : Ending) (w' : World) : Prop := ∃ A c, e = .returned (.slice A l.length c) ∧ IntsAt w' w'.heap.size A l ∧ Below w.heap.size w w' ∧ ∀ ad, A = some ad → w.heap.size ≤ ad.block ∧ ad.block < w'.heap.size
def RetLists (w : World) (l : List (List Int)) (e : Ending) (w' : World) : Prop := ∃ A c, e = .returned (.slice A l.length c) ∧ ListsAt w' w'.heap.size A l ∧ Below w.heap.size w w'

/-- What lies in a new block. -/
theorem ints_new (w : World) (L : List Int) (cs : Array Value) (h : cs.toList = L.map (Value.int .i64)) : IntsAt (w.alloc (.cells cs 3)) (w.alloc (.cells cs 3)).heap.size (some ⟨w.heap.size, 0, none⟩) L := by
  intro k x hx
  refine ⟨w.heap.size, 0, rfl, by simp, ?_⟩
  rw [cell_of_row _ w.heap.size (0 + k) cs 3 _ (heap_alloc_new w _), ← Array.getElem?_toList, h, Nat.zero_add, List.getElem?_map, hx]
  rfl
end Go.Proofs.YtbcbaaapogejiaaDoor
