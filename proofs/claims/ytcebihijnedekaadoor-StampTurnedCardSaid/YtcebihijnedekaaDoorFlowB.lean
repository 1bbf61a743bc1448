/-
  What stays in memory while flows are collected: the lists that were collected, and what may change.
-/
import Derived.Test.YtcebihijnedekaaDoorFlowA
namespace Go.Proofs.YtcebihijnedekaaDoor
open Go.RowKit

/-- A list lies in a block that is no row to be written. -/
def IntsX (w : World) (lo : Nat) (ex : Option Nat) (A : Option Addr) (l : List Int) : Prop :=
  ∀ (i : Nat) (x : Int), l[i]? = some x → ∃ b off, A = some ⟨b, off, none⟩ ∧ lo ≤ b ∧ b < w.heap.size ∧ some b ≠ ex ∧ w.cell? ⟨b, off + i, none⟩ = some (.int .i64 x)

/-- Block g, and a row, may change; all other blocks stay. -/
structure Put2 (g : Nat) (row : Option Nat) (w w' : World) : Prop where
  os : w'.os = w.os
  tape : w'.tape = w.tape
  output : w'.output = w.output
  size : w.heap.size ≤ w'.heap.size
  block : ∀ k, k < w.heap.size → k ≠ g → some k ≠ row → w'.heap[k]? = w.heap[k]?

/-- The row is the old one, or a new one. -/
def NewOr (w : World) (r r' : Option Nat) : Prop := r' = r ∨ ∃ k, r' = some k ∧ w.heap.size ≤ k

theorem Put2.refl (g : Nat) (r : Option Nat) (w : World) : Put2 g r w w := ⟨rfl, rfl, rfl, Nat.le_refl _, fun _ _ _ _ => rfl⟩
theorem Put2.trans {g : Nat} {r r' : Option Nat} {a b c : World} (h : Put2 g r a b) (k : Put2 g r' b c) (hr : NewOr a r r') : Put2 g r a c :=
  ⟨k.os.trans h.os, k.tape.trans h.tape, k.output.trans h.output, Nat.le_trans h.size k.size, fun i hi h1 h2 =>
    (k.block i (Nat.lt_of_lt_of_le hi h.size) h1 (by
      rcases hr with e | ⟨k, e, hk⟩
      · rw [e]; exact h2
      · rw [e]; intro e; injection e; omega)).trans (h.block i hi h1 h2)⟩
theorem NewOr.refl (w : World) (r : Option Nat) : NewOr w r r := .inl rfl
theorem NewOr.trans {a b : World} {r r' r'' : Option Nat} (h : NewOr a r r') (k : NewOr b r' r'') (hs : a.heap.size ≤ b.heap.size) : NewOr a r r'' := by
  rcases k with e | ⟨k, e, hk⟩
  · rw [e]; exact h
  · exact .inr ⟨k, e, by omega⟩
theorem Put2.of_below {g : Nat} {r : Option Nat} {w w' : World} (h : Below w.heap.size w w') : Put2 g r w w' := ⟨h.os, h.tape, h.output, h.size, fun k hk _ _ => h.block k hk⟩
theorem Put2.of_grown {g : Nat} {r : Option Nat} {w w' : World} (h : w.grownBy w' r) : Put2 g r w w' := ⟨h.os, h.tape, h.output, h.size, fun k hk _ h2 => h.block k hk h2⟩
theorem Put2.store {g : Nat} {r : Option Nat} (w : World) {p : Addr} (hp : p.block = g) (u : Value) : Put2 g r w (w.setCell p u) :=
  ⟨rfl, rfl, rfl, by simp [World.setCell], fun k _ h1 _ => Below.heap_setCell w p u k (by rw [hp]; exact h1)⟩
theorem Put2.cell {g : Nat} {r : Option Nat} {w w' : World} (h : Put2 g r w w') {p : Addr} (h0 : p.block < w.heap.size) (h1 : p.block ≠ g) (h2 : some p.block ≠ r) : w'.cell? p = w.cell? p := World.cell?_of_block (h.block _ h0 h1 h2)
theorem Put2.frozen {g : Nat} {r : Option Nat} {w w' : World} (h : Put2 g r w w') {p : Addr} (h0 : p.block < w.heap.size) (h1 : p.block ≠ g) (h2 : some p.block ≠ r) : w'.frozen? p = w.frozen? p := World.frozen?_of_block (h.block _ h0 h1 h2)
theorem Put2.below {g : Nat} {r : Option Nat} {w w' : World} (h : Put2 g r w w') {B : Nat} (hB : B ≤ w.heap.size) (hg : B ≤ g) (hr : ∀ k, r = some k → B ≤ k) : Below B w w' :=
  ⟨h.os, h.tape, h.output, h.size, fun k hk => h.block k (by omega) (by omega) (fun e => by have := hr k e.symm; omega)⟩

theorem IntsX.put {g lo : Nat} {ex ex' : Option Nat} {A : Option Addr} {l : List Int} {w w' : World} (h : IntsX w lo ex A l) (hp : Put2 g ex w w') (hg : g < lo) (hn : NewOr w ex ex') : IntsX w' lo ex' A l := by
  intro i x hx
  obtain ⟨b, off, e, h1, h2, h3, h4⟩ := h i x hx
  refine ⟨b, off, e, h1, Nat.lt_of_lt_of_le h2 hp.size, ?_, (hp.cell (p := ⟨b, _, none⟩) h2 (by show b ≠ g; omega) h3).trans h4⟩
  rcases hn with e | ⟨k, e, hk⟩
  · rw [e]; exact h3
  · rw [e]; intro e; injection e; omega
theorem IntsX.up {lo : Nat} {ex : Option Nat} {A : Option Addr} {l : List Int} {w w' : World} (h : IntsX w lo ex A l) (hb : Below w.heap.size w w') : IntsX w' lo ex A l := by
  intro i x hx
  obtain ⟨b, off, e, h1, h2, h3, h4⟩ := h i x hx
  exact ⟨b, off, e, h1, Nat.lt_of_lt_of_le h2 hb.size, h3, (hb.cell (p := ⟨b, _, none⟩) h2).trans h4⟩
theorem IntsX.ints {lo : Nat} {ex : Option Nat} {A : Option Addr} {l : List Int} {w : World} (h : IntsX w lo ex A l) : IntsAt w w.heap.size A l := by
  intro i x hx
  obtain ⟨b, off, e, h1, h2, h3, h4⟩ := h i x hx
  exact ⟨b, off, e, h2, h4⟩
theorem IntsX.nil (w : World) (lo : Nat) (ex : Option Nat) (A : Option Addr) : IntsX w lo ex A [] := by intro i x h; simp at h
theorem IntsX.ne {lo : Nat} {ex ex' : Option Nat} {A : Option Addr} {l : List Int} {w : World} (h : IntsX w lo ex A l) (hn : NewOr w ex ex') : IntsX w lo ex' A l := by
  intro i x hx
  obtain ⟨b, off, e, h1, h2, h3, h4⟩ := h i x hx
  refine ⟨b, off, e, h1, h2, ?_, h4⟩
  rcases hn with e | ⟨k, e, hk⟩
  · rw [e]; exact h3
  · rw [e]; intro e; injection e; omega

/-- The lists that were collected, and where each lies. -/
def RowsX (w : World) (lo : Nat) (ex : Option Nat) (all : List (List Int)) (cs : List Value) : Prop :=
  cs.length = all.length ∧ ∀ (k : Nat) (l : List Int), all[k]? = some l → ∃ A cap, cs[k]? = some (.slice A l.length cap) ∧ IntsX w lo ex A l ∧ l.length ≤ cap

/-- The variable in block g holds the lists. -/
def St (g lo : Nat) (w : World) (all : List (List Int)) (v : Value) : Prop :=
  w.cell? ⟨g, 0, none⟩ = some v ∧ w.frozen? ⟨g, 0, none⟩ = false ∧ ∃ cs, w.ownsRow lo 25 1 v all.length cs ∧ RowsX w lo v.ownBlock all cs

theorem RowsX.put {g lo : Nat} {ex ex' : Option Nat} {all : List (List Int)} {cs : List Value} {w w' : World} (h : RowsX w lo ex all cs) (hp : Put2 g ex w w') (hg : g < lo) (hn : NewOr w ex ex') : RowsX w' lo ex' all cs :=
  ⟨h.1, fun k l hl => by obtain ⟨A, cap, e, hi, hc⟩ := h.2 k l hl; exact ⟨A, cap, e, hi.put hp hg hn, hc⟩⟩
theorem RowsX.up {lo : Nat} {ex : Option Nat} {all : List (List Int)} {cs : List Value} {w w' : World} (h : RowsX w lo ex all cs) (hb : Below w.heap.size w w') : RowsX w' lo ex all cs :=
  ⟨h.1, fun k l hl => by obtain ⟨A, cap, e, hi, hc⟩ := h.2 k l hl; exact ⟨A, cap, e, hi.up hb, hc⟩⟩
theorem St.up {g lo : Nat} {w w' : World} {all : List (List Int)} {v : Value} (h : St g lo w all v) (hb : Below w.heap.size w w') (hg : g < w.heap.size) : St g lo w' all v := by
  obtain ⟨h1, h2, cs, h3, h4⟩ := h
  exact ⟨(hb.cell (p := ⟨g, 0, none⟩) hg).trans h1, (hb.frozen (p := ⟨g, 0, none⟩) hg).trans h2, cs, own_below h3 hb, h4.up hb⟩
theorem St.lt {g lo : Nat} {w : World} {all : List (List Int)} {v : Value} (h : St g lo w all v) : ∀ k, v.ownBlock = some k → lo ≤ k ∧ k < w.heap.size := by
  obtain ⟨_, _, cs, h3, _⟩ := h
  exact h3.lt

/-- One more list is collected: behind the append, the new value is stored. -/
theorem St.add {g lo : Nat} {w w' : World} {all : List (List Int)} {v v' : Value} {cs : List Value} {A : Option Addr} {cap : Nat} {l : List Int} (hlo : g < lo) (hg : g < w.heap.size)
    (h2 : w.frozen? ⟨g, 0, none⟩ = false) (h1 : w.cell? ⟨g, 0, none⟩ = some v) (h3 : w.ownsRow lo 25 1 v all.length cs) (h4 : RowsX w lo v.ownBlock all cs) (hl : IntsX w lo v.ownBlock A l) (hlc : l.length ≤ cap)
    (g1 : w'.ownsRow lo 25 1 v' (all.length + 1) (cs ++ [.slice A l.length cap])) (g2 : w.grownBy w' v.ownBlock) (g3 : v'.ownBlock = v.ownBlock ∨ v'.ownBlock = some w.heap.size) :
    St g lo (w'.setCell ⟨g, 0, none⟩ v') (all ++ [l]) v' ∧ Put2 g v.ownBlock w (w'.setCell ⟨g, 0, none⟩ v') ∧ NewOr w v.ownBlock v'.ownBlock := by
  have hn : NewOr w v.ownBlock v'.ownBlock := by
    rcases g3 with e | e
    · exact .inl e
    · exact .inr ⟨_, e, Nat.le_refl _⟩
  have hne : some g ≠ v.ownBlock := fun e => by have := (h3.lt g e.symm).1; omega
  have hp1 : Put2 g v.ownBlock w w' := Put2.of_grown g2
  have hp2 : Put2 g v.ownBlock w (w'.setCell ⟨g, 0, none⟩ v') := hp1.trans (Put2.store (g := g) (r := v.ownBlock) (p := ⟨g, 0, none⟩) w' rfl v') (NewOr.refl _ _)
  have hc : w'.cell? ⟨g, 0, none⟩ = some v := (World.cell?_of_block (a := ⟨g, 0, none⟩) (g2.block g hg hne)).trans h1
  have hf : w'.frozen? ⟨g, 0, none⟩ = false := (World.frozen?_of_block (a := ⟨g, 0, none⟩) (g2.block g hg hne)).trans h2
  refine ⟨⟨?_, ?_, cs ++ [.slice A l.length cap], ?_, ?_, ?_⟩, hp2, hn⟩
  · simp [go_sem, hc]
  · simp [go_sem, hf]
  · rw [List.length_append, List.length_singleton]
    exact ownsRow_setCell_below g1 (a := ⟨g, 0, none⟩) hlo v'
  · rw [List.length_append, List.length_append, h4.1]; rfl
  · intro k y hy
    by_cases hk : k < all.length
    · rw [List.getElem?_append_left hk] at hy
      obtain ⟨A', cap', e, hi, hc⟩ := h4.2 k y hy
      exact ⟨A', cap', by rw [List.getElem?_append_left (by rw [h4.1]; exact hk)]; exact e, hi.put hp2 hlo hn, hc⟩
    · rw [List.getElem?_append_right (by omega)] at hy
      have hk' : k = all.length := by have := lt_of_get hy; simp at this; omega
      subst hk'
      simp at hy
      subst hy
      exact ⟨A, cap, by rw [List.getElem?_append_right (by rw [h4.1]; exact Nat.le_refl _), h4.1]; simp, hl.put hp2 hlo hn, hlc⟩

theorem upiF {W0 W : World} {A : Option Addr} {l : List Int} (h : IntsAt W0 W0.heap.size A l) (hW : Below W0.heap.size W0 W) : IntsAt W W.heap.size A l := (h.below hW (Nat.le_refl _)).mono hW.size

theorem info25 : (Tryd.prog.info? 25).map (fun i => (i.zero, i.size, i.bytes)) = some (some (.slice none 0 0), 1, 24) := by kernel_rfl

/-- What put hands back. -/
def PutPost (g lo : Nat) (w : World) (all : List (List Int)) (v : Value) (e : Ending) (w' : World) : Prop :=
  e = .returned (.tuple #[]) ∧ ∃ v', St g lo w' all v' ∧ Put2 g v.ownBlock w w' ∧ NewOr w v.ownBlock v'.ownBlock
end Go.Proofs.YtcebihijnedekaaDoor
