/-
  Two neighbours of a list of lists are exchanged in memory.
-/
import Derived.Test.YtbcbaaapogejiaaDoorRefI
import Derived.Test.YtbcbaaapogejiaaDoorMathF
import Derived.Laws.OwnMore
namespace Go.Proofs.YtbcbaaapogejiaaDoor
open Go.RowKit

theorem Sls.set {W : World} {P : Nat → Prop} {A : Option Addr} {c : Nat} {x : List Int} (hA : IntsAt W W.heap.size A x) (hP : ∀ ad, A = some ad → ad.block < W.heap.size ∧ P ad.block) : ∀ {vs : List Value} {ls : List (List Int)} (i : Nat), Sls W P vs ls → Sls W P (vs.set i (.slice A x.length c)) (ls.set i x)
  | [], [], _, _ => trivial
  | _ :: _, _ :: _, 0, ⟨_, h4⟩ => ⟨⟨A, c, rfl, hA, hP⟩, h4⟩
  | _ :: _, _ :: _, i + 1, ⟨h, h4⟩ => ⟨h, Sls.set hA hP i h4⟩
  | [], _ :: _, _, h => h.elim
  | _ :: _, [], _, h => h.elim

theorem Out.form {B : Nat} {W : World} {v : Value} {ls : List (List Int)} (h : Out B W v ls) (hl : 0 < ls.length) : ∃ g c, v = .slice (some ⟨g, 0, none⟩) ls.length c ∧ B ≤ g ∧ g < W.heap.size := by
  obtain ⟨vals, h1, _⟩ := h
  rcases h1.2 with ⟨e, h0⟩ | ⟨g, cap, cur, e, h5, h6, _⟩
  · omega
  · exact ⟨g, cap, e, h5, lt_of_heap h6⟩
theorem Out.get {B : Nat} {W : World} {g n c : Nat} {ls : List (List Int)} (h : Out B W (.slice (some ⟨g, 0, none⟩) n c) ls) {k : Nat} {x : List Int} (hx : ls[k]? = some x) :
    ∃ D d, W.cell? ⟨g, k, none⟩ = some (.slice D x.length d) ∧ IntsAt W W.heap.size D x ∧ (∀ ad, D = some ad → ad.block < W.heap.size ∧ B ≤ ad.block ∧ ad.block ≠ g) ∧ W.frozen? ⟨g, k, none⟩ = false := by
  obtain ⟨vals, h1, h2⟩ := h
  obtain ⟨D, d, h3, h4, h5⟩ := h2.get hx
  obtain ⟨A0, c0, e⟩ := own_slice h1
  injection e with e1 e2 e3
  subst e2
  have hc := h1.cells (g := g) rfl k _ h3
  rw [addr_add] at hc
  refine ⟨D, d, by simpa using hc, h4, fun ad e => ⟨(h5 ad e).1, (h5 ad e).2.1, fun e2 => (h5 ad e).2.2 (by rw [e2]; rfl)⟩, h1.frozenAt k⟩

theorem Out.swap {B : Nat} {W : World} {g n c : Nat} {ls : List (List Int)} (h : Out B W (.slice (some ⟨g, 0, none⟩) n c) ls) (j : Nat) {a b : List Int} {D1 D2 : Option Addr} {d1 d2 : Nat}
    (i1 : IntsAt W W.heap.size D1 a) (i2 : IntsAt W W.heap.size D2 b) (o1 : ∀ ad, D1 = some ad → ad.block < W.heap.size ∧ B ≤ ad.block ∧ ad.block ≠ g) (o2 : ∀ ad, D2 = some ad → ad.block < W.heap.size ∧ B ≤ ad.block ∧ ad.block ≠ g) :
    Out B ((W.setCell ⟨g, j + 1, none⟩ (.slice D1 a.length d1)).setCell ⟨g, j, none⟩ (.slice D2 b.length d2)) (.slice (some ⟨g, 0, none⟩) n c) ((ls.set (j + 1) a).set j b) ∧
      W.grownBy ((W.setCell ⟨g, j + 1, none⟩ (.slice D1 a.length d1)).setCell ⟨g, j, none⟩ (.slice D2 b.length d2)) (some g) := by
  obtain ⟨vals, h1, h2⟩ := h
  obtain ⟨A0, c0, e⟩ := own_slice h1
  injection e with e1 e2 e3
  subst e2
  obtain ⟨k1, k2⟩ := h1.stored (j + 1) (.slice D1 a.length d1)
  obtain ⟨k3, k4⟩ := k1.stored j (.slice D2 b.length d2)
  have hP : ∀ {i : Nat}, (Value.slice (some ⟨g, 0, none⟩) ls.length c).ownBlock ≠ some i ↔ i ≠ g := by
    intro i
    constructor
    · intro h e; exact h (by rw [e]; rfl)
    · intro h e; injection e with e; exact h e.symm
  have hgr : W.grownBy ((W.setCell ⟨g, j + 1, none⟩ (.slice D1 a.length d1)).setCell ⟨g, j, none⟩ (.slice D2 b.length d2)) (some g) :=
    ⟨k4.os.trans k2.os, k4.tape.trans k2.tape, k4.output.trans k2.output, Nat.le_trans k2.size k4.size, fun i hi hn => (k4.block i (Nat.lt_of_lt_of_le hi k2.size) hn).trans (k2.block i hi hn)⟩
  refine ⟨⟨(vals.set (j + 1) (.slice D1 a.length d1)).set j (.slice D2 b.length d2), by simpa using k3, ?_⟩, hgr⟩
  have s1 := Sls.set (W := W) (P := fun i => B ≤ i ∧ (Value.slice (some ⟨g, 0, none⟩) ls.length c).ownBlock ≠ some i) (c := d1) i1 (fun ad e => ⟨(o1 ad e).1, (o1 ad e).2.1, hP.2 (o1 ad e).2.2⟩) (j + 1) h2
  have s2 := Sls.set (W := W) (P := fun i => B ≤ i ∧ (Value.slice (some ⟨g, 0, none⟩) ls.length c).ownBlock ≠ some i) (c := d2) i2 (fun ad e => ⟨(o2 ad e).1, (o2 ad e).2.1, hP.2 (o2 ad e).2.2⟩) j s1
  have s3 := s2.chg (Chg.of_grown hgr) (P' := fun i => B ≤ i ∧ (Value.slice (some ⟨g, 0, none⟩) ls.length c).ownBlock ≠ some i) (fun i _ hp => ⟨fun e => hp.2 (by injection e with e; rw [e]; rfl), hp⟩)
  simpa using s3
end Go.Proofs.YtbcbaaapogejiaaDoor
