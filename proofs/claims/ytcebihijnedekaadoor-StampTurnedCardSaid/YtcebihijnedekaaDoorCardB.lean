/-
  What books and lists that come in as arguments are in memory, and the last step of a row.
-/
import Derived.Test.YtcebihijnedekaaDoorCardA
import Derived.Deep.Slices
import Derived.Lib.SmallJoins
import Derived.Carry
namespace Go.Proofs.YtcebihijnedekaaDoor
open Go.ChangeShapes Go.WideShapes Go.ChangeAt Go.RowKit Go.Deep Go.Joins

theorem Tryd.laidOut : laidOutB Tryd.prog = true := by kernel_rfl
theorem read24 : Tryd.prog.readableRec 24 = true := by kernel_rfl
theorem read25 : Tryd.prog.readableRec 25 = true := by kernel_rfl
theorem read3 : Tryd.prog.readableRec 3 = true := by kernel_rfl
theorem read4 : Tryd.prog.readableRec 4 = true := by kernel_rfl
theorem row4 : 4 < Tryd.prog.types.size := of_decide_eq_true (by kernel_rfl)
theorem row24 : 24 < Tryd.prog.types.size := of_decide_eq_true (by kernel_rfl)
theorem row25 : 25 < Tryd.prog.types.size := of_decide_eq_true (by kernel_rfl)
theorem row3 : 3 < Tryd.prog.types.size := of_decide_eq_true (by kernel_rfl)
theorem cells74 : Tryd.prog.cellsOf 74 = 4 := by kernel_rfl
theorem cellsI : Tryd.prog.cellsOf 3 = 1 := by kernel_rfl
theorem cells24 : Tryd.prog.cellsOf 24 = 2 := by kernel_rfl

section
variable {H : Type} {enc : TypeId × Value → H} {W : World} {base : Nat} {spare : Nat → Bool} {held : Bool}

theorem cell_block {w : World} {a : Addr} {v : Value} (h : w.cell? a = some v) : a.block < w.heap.size := by
  rcases Nat.lt_or_ge a.block w.heap.size with hl | hl
  · exact hl
  · have hn : w.heap[a.block]? = none := Array.getElem?_eq_none hl
    simp [World.cell?, hn] at h

theorem cell_spot {w : World} {a : Addr} {v : Value} (h : w.cell? a = some v) : a.spot = none := by
  unfold World.cell? at h
  split at h
  · split at h
    · cases h
    · rename_i hs; simpa using hs
  · cases h

theorem ints_of_trod {n : Nat} {v : Value} {y : DataW H × List MemPlace} (h : DataW.trod enc Tryd.prog W base spare held n 25 [v] = some y) :
    ∃ (A : Option Addr) (l : List Int) (c : Nat), v = .slice A l.length c ∧ l.length ≤ c ∧ IntsAt W W.heap.size A l := by
  rcases open_slice Tryd.underlying25 h with ⟨h0, _⟩ | ⟨a, len, cap, m, n, D, Pl, h0, _, hlc, _, hm, _, hi⟩
  · obtain rfl : v = .slice none 0 0 := by simpa using h0
    exact ⟨none, [], 0, rfl, by simp, IntsAt.nil _ _ _⟩
  · obtain rfl : v = .slice (some a) len cap := by simpa using h0
    have hlm : len ≤ m := by rw [hm]; split <;> omega
    have hel : ∀ i, i < len → ∃ k : Int, W.cell? (a.add i) = some (.int .i64 k) := by
      intro i hil
      obtain ⟨cs', hc, ht⟩ := hi i (by omega)
      rw [cellsI, Nat.mul_one] at hc
      obtain ⟨k, rfl, _, _⟩ := DataW.trod_int Tryd.underlying3 ht
      obtain ⟨_, _, hat⟩ := World.cells?_some hc
      have := hat 0 (by decide)
      exact ⟨k, by simpa [Addr.add] using this⟩
    obtain ⟨f, hf⟩ : ∃ f : Nat → Int, ∀ i, i < len → W.cell? (a.add i) = some (.int .i64 (f i)) :=
      ⟨fun i => if h : i < len then (hel i h).choose else 0, fun i h => by simp only [dif_pos h]; exact (hel i h).choose_spec⟩
    refine ⟨some a, (List.range len).map f, cap, by simp, by simpa using hlc, fun k x hx => ?_⟩
    have hk : k < len := by have := lt_of_get hx; simpa using this
    have hx' : x = f k := by simpa [List.getElem?_range hk] using hx.symm
    subst hx'
    have h1 := hf k hk
    have h0' := hf 0 (by omega)
    have hsp : a.spot = none := by have := cell_spot h0'; simpa [Addr.add] using this
    obtain ⟨b, off, sp⟩ := a
    dsimp only at hsp
    subst hsp
    refine ⟨b, off, rfl, ?_, ?_⟩
    · have := cell_block h0'; simpa [Addr.add] using this
    · have e : (⟨b, off, none⟩ : Addr).add k = ⟨b, off + k, none⟩ := by unfold Addr.add; split <;> simp_all
      rw [← e]; exact h1

set_option maxRecDepth 100000 in
theorem way_of_trod {n : Nat} {cs : List Value} {y : DataW H × List MemPlace} (h : DataW.trod enc Tryd.prog W base spare held n 74 cs = some y) :
    ∃ x : Wy, cs = [.int .i64 x.src, .int .i64 x.dst, .int .i64 x.lo, .int .i64 x.hi] := by
  obtain ⟨xs, m, _, _, hl, hn, hf⟩ := DataW.trod_struct Tryd.underlying74 h
  have h0 : DataW.trod enc Tryd.prog W base spare held m 3 ((cs.drop 0).take (Tryd.prog.cellsOf 3)) = xs[0]? := hf 0 _ rfl
  have h1 : DataW.trod enc Tryd.prog W base spare held m 3 ((cs.drop 1).take (Tryd.prog.cellsOf 3)) = xs[1]? := hf 1 _ rfl
  have h2 : DataW.trod enc Tryd.prog W base spare held m 3 ((cs.drop 2).take (Tryd.prog.cellsOf 3)) = xs[2]? := hf 2 _ rfl
  have h3 : DataW.trod enc Tryd.prog W base spare held m 3 ((cs.drop 3).take (Tryd.prog.cellsOf 3)) = xs[3]? := hf 3 _ rfl
  rw [cellsI] at h0 h1 h2 h3
  rw [cells74] at hl
  match xs, hn with
  | [y0, y1, y2, y3], _ =>
    obtain ⟨c0, c1, c2, c3, rfl⟩ : ∃ c0 c1 c2 c3, cs = [c0, c1, c2, c3] := by
      match cs, hl with
      | [c0, c1, c2, c3], _ => exact ⟨c0, c1, c2, c3, rfl⟩
    obtain ⟨k0, e0, _⟩ := DataW.trod_int Tryd.underlying3 h0
    obtain ⟨k1, e1, _⟩ := DataW.trod_int Tryd.underlying3 h1
    obtain ⟨k2, e2, _⟩ := DataW.trod_int Tryd.underlying3 h2
    obtain ⟨k3, e3, _⟩ := DataW.trod_int Tryd.underlying3 h3
    simp at e0 e1 e2 e3
    exact ⟨⟨k0, k1, k2, k3⟩, by rw [e0, e1, e2, e3]⟩

theorem ways_of_trod {n : Nat} {v : Value} {y : DataW H × List MemPlace} (h : DataW.trod enc Tryd.prog W base spare held n 22 [v] = some y) :
    ∃ (A : Option Addr) (ws : List Wy) (c : Nat), v = .slice A ws.length c ∧ ws.length ≤ c ∧ WaysAt W W.heap.size A ws := by
  rcases open_slice Tryd.underlying22 h with ⟨h0, _⟩ | ⟨a, len, cap, m, n, D, Pl, h0, _, hlc, _, hm, _, hi⟩
  · obtain rfl : v = .slice none 0 0 := by simpa using h0
    exact ⟨none, [], 0, rfl, by simp, fun k x hx => by simp at hx⟩
  · obtain rfl : v = .slice (some a) len cap := by simpa using h0
    have hlm : len ≤ m := by rw [hm]; split <;> omega
    have hel : ∀ i, i < len → ∃ x : Wy, ∀ j, j < 4 → W.cell? (a.add (i * 4 + j)) = [Value.int .i64 x.src, .int .i64 x.dst, .int .i64 x.lo, .int .i64 x.hi][j]? := by
      intro i hil
      obtain ⟨cs', hc, ht⟩ := hi i (by omega)
      rw [cells74] at hc
      obtain ⟨x, rfl⟩ := way_of_trod ht
      obtain ⟨_, _, hat⟩ := World.cells?_some hc
      refine ⟨x, fun j hj => ?_⟩
      rw [← hat j hj, Go.Deep.add_add]
    obtain ⟨f, hf⟩ : ∃ f : Nat → Wy, ∀ i, i < len → ∀ j, j < 4 → W.cell? (a.add (i * 4 + j)) = [Value.int .i64 (f i).src, .int .i64 (f i).dst, .int .i64 (f i).lo, .int .i64 (f i).hi][j]? :=
      ⟨fun i => if h : i < len then (hel i h).choose else ⟨0, 0, 0, 0⟩, fun i h => by simp only [dif_pos h]; exact (hel i h).choose_spec⟩
    refine ⟨some a, (List.range len).map f, cap, by simp, by simpa using hlc, fun k x hx => ?_⟩
    have hk : k < len := by have := lt_of_get hx; simpa using this
    have hx' : x = f k := by simpa [List.getElem?_range hk] using hx.symm
    subst hx'
    have h0' := hf 0 (by omega) 0 (by decide)
    have hsp : a.spot = none := by have := cell_spot h0'; simpa [Addr.add] using this
    obtain ⟨b, off, sp⟩ := a
    dsimp only at hsp
    subst hsp
    have e : ∀ q, (⟨b, off, none⟩ : Addr).add q = ⟨b, off + q, none⟩ := by intro q; unfold Addr.add; split <;> simp_all
    have g0 := hf k hk 0 (by decide)
    have g1 := hf k hk 1 (by decide)
    have g2 := hf k hk 2 (by decide)
    have g3 := hf k hk 3 (by decide)
    rw [e] at g0 g1 g2 g3
    refine ⟨b, off, rfl, ?_, by simpa using g0, by rw [Nat.add_assoc]; exact g1, by rw [Nat.add_assoc]; exact g2, by rw [Nat.add_assoc]; exact g3⟩
    have := cell_block h0'; simpa [Addr.add] using this

set_option maxRecDepth 100000 in
theorem books_of_trod {r : Reach} {b0 : Nat} {v : Value} {d : DataW H} {p : List MemPlace} (hv : Value.okWide Tryd.prog W r b0 24 v) (h : DataW.Trod enc Tryd.prog W base spare held 24 v d p) :
    ∃ (R : Int) (A : Option Addr) (ws : List Wy) (c : Nat), v = .agg #[.int .i64 R, .slice A ws.length c] ∧ ws.length ≤ c ∧ WaysAt W W.heap.size A ws := by
  obtain ⟨v0, v1, y0, y1, n, rfl, _, _, h0, h1⟩ := open_agg2 Tryd.underlying24 (by kernel_rfl) cells24 hv h
  obtain ⟨R, e0, _⟩ := DataW.trod_int Tryd.underlying3 h0
  obtain ⟨A, ws, c, rfl, hc, hw⟩ := ways_of_trod h1
  obtain rfl : v0 = .int .i64 R := by simpa using e0
  exact ⟨R, A, ws, c, rfl, hc, hw⟩

set_option maxRecDepth 100000 in
theorem ints_of_arg {r : Reach} {b0 : Nat} {v : Value} {d : DataW H} {p : List MemPlace} (hv : Value.okWide Tryd.prog W r b0 25 v) (h : DataW.Trod enc Tryd.prog W base spare held 25 v d p) :
    ∃ (A : Option Addr) (l : List Int) (c : Nat), v = .slice A l.length c ∧ l.length ≤ c ∧ IntsAt W W.heap.size A l := by
  obtain ⟨a0, len, cap, rfl⟩ := okWide_slice Tryd.underlying25 hv
  obtain ⟨n, hn⟩ := h
  exact ints_of_trod hn
end
end Go.Proofs.YtcebihijnedekaaDoor
