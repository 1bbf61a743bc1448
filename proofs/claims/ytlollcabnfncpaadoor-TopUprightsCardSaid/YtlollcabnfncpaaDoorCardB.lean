/-
  What sheets, boards and cards that come in as arguments are.
-/
import Derived.Test.YtlollcabnfncpaaDoorCardA
import Derived.Deep.Slices
import Derived.Lib.SmallJoins
import Derived.Carry
namespace Go.Proofs.YtlollcabnfncpaaDoor
open Go.ChangeShapes Go.WideShapes Go.ChangeAt Go.RowKit Go.Deep Go.Joins

theorem Tryd.laidOut : laidOutB Tryd.prog = true := by kernel_rfl
theorem read23 : Tryd.prog.readableRec 23 = true := by kernel_rfl
theorem read29 : Tryd.prog.readableRec 29 = true := by kernel_rfl
theorem read64 : Tryd.prog.readableRec 64 = true := by kernel_rfl
theorem read3 : Tryd.prog.readableRec 3 = true := by kernel_rfl
theorem read5 : Tryd.prog.readableRec 5 = true := by kernel_rfl
theorem read77 : Tryd.prog.readableRec 77 = true := by kernel_rfl
theorem row23 : 23 < Tryd.prog.types.size := of_decide_eq_true (by kernel_rfl)
theorem row29 : 29 < Tryd.prog.types.size := of_decide_eq_true (by kernel_rfl)
theorem row64 : 64 < Tryd.prog.types.size := of_decide_eq_true (by kernel_rfl)
theorem row3 : 3 < Tryd.prog.types.size := of_decide_eq_true (by kernel_rfl)
theorem row5 : 5 < Tryd.prog.types.size := of_decide_eq_true (by kernel_rfl)
theorem row77 : 77 < Tryd.prog.types.size := of_decide_eq_true (by kernel_rfl)
theorem cells23 : Tryd.prog.cellsOf 23 = 4 := by kernel_rfl
theorem cells64 : Tryd.prog.cellsOf 64 = 4 := by kernel_rfl
theorem cells69 : Tryd.prog.cellsOf 69 = 3 := by kernel_rfl
theorem cellsI : Tryd.prog.cellsOf 3 = 1 := by kernel_rfl
theorem cellsB : Tryd.prog.cellsOf 4 = 1 := by kernel_rfl

theorem u8_wf {n : Int} (h : (Lit.int .u8 n).wf = true) : 0 ≤ n ∧ n ≤ 255 := by
  have h1 : IntKind.u8.min = 0 := by decide
  have h2 : IntKind.u8.max = 255 := by decide
  simp only [Lit.wf, Bool.and_eq_true, decide_eq_true_eq, h1, h2] at h
  exact h
theorem u16_wf {n : Int} (h : (Lit.int .u16 n).wf = true) : 0 ≤ n ∧ n ≤ 65535 := by
  have h1 : IntKind.u16.min = 0 := by decide
  have h2 : IntKind.u16.max = 65535 := by decide
  simp only [Lit.wf, Bool.and_eq_true, decide_eq_true_eq, h1, h2] at h
  exact h

/-- A sheet by numbers. -/
structure Bd where
  a : Int
  b : Int
  c : Int
  d : Int
def okB (h : Bd) : Prop := (0 ≤ h.a ∧ h.a ≤ 255) ∧ (0 ≤ h.b ∧ h.b ≤ 255) ∧ (0 ≤ h.c ∧ h.c ≤ 255) ∧ (0 ≤ h.d ∧ h.d ≤ 255)

section
variable {H : Type} {enc : TypeId × Value → H} {W : World} {base : Nat} {spare : Nat → Bool} {held : Bool}

theorem cell_block {w : World} {a : Addr} {v : Value} (h : w.cell? a = some v) : a.block < w.heap.size := by
  rcases Nat.lt_or_ge a.block w.heap.size with hl | hl
  · exact hl
  · have hn : w.heap[a.block]? = none := Array.getElem?_eq_none hl
    simp [World.cell?, hn] at h

theorem cell_spot {w : World} {a : Addr} {v : Value} (h : w.cell? a = some v) : a.spot = none := by
  unfold World.cell? at h
  split at h
  · split at h
    · cases h
    · rename_i hs; simpa using hs
  · cases h

set_option maxRecDepth 100000 in
theorem sheet_of_trod {r : Reach} {b0 : Nat} {v : Value} {d : DataW H} {p : List MemPlace} (hv : Value.okWide Tryd.prog W r b0 23 v) (h : DataW.Trod enc Tryd.prog W base spare held 23 v d p) :
    ∃ a b c e : Int, v = .agg #[.int .i64 a, .int .i64 b, .int .i64 c, .int .i64 e] := by
  obtain ⟨v0, v1, v2, v3, y0, y1, y2, y3, n, rfl, _, _, h0, h1, h2, h3⟩ := open_agg4 Tryd.underlying23 (by kernel_rfl) cells23 hv h
  obtain ⟨k0, e0, _⟩ := DataW.trod_int Tryd.underlying3 h0
  obtain ⟨k1, e1, _⟩ := DataW.trod_int Tryd.underlying3 h1
  obtain ⟨k2, e2, _⟩ := DataW.trod_int Tryd.underlying3 h2
  obtain ⟨k3, e3, _⟩ := DataW.trod_int Tryd.underlying3 h3
  obtain rfl : v0 = .int .i64 k0 := by simpa using e0
  obtain rfl : v1 = .int .i64 k1 := by simpa using e1
  obtain rfl : v2 = .int .i64 k2 := by simpa using e2
  obtain rfl : v3 = .int .i64 k3 := by simpa using e3
  exact ⟨k0, k1, k2, k3, rfl⟩

set_option maxRecDepth 100000 in
theorem board_of_trod {r : Reach} {b0 : Nat} {v : Value} {d : DataW H} {p : List MemPlace} (hv : Value.okWide Tryd.prog W r b0 64 v) (h : DataW.Trod enc Tryd.prog W base spare held 64 v d p) :
    ∃ x : Bd, okB x ∧ v = .agg #[.int .u8 x.a, .int .u8 x.b, .int .u8 x.c, .int .u8 x.d] := by
  obtain ⟨v0, v1, v2, v3, y0, y1, y2, y3, n, rfl, _, _, h0, h1, h2, h3⟩ := open_agg4 Tryd.underlying64 (by kernel_rfl) cells64 hv h
  obtain ⟨k0, e0, _, w0⟩ := DataW.trod_int Tryd.underlying5 h0
  obtain ⟨k1, e1, _, w1⟩ := DataW.trod_int Tryd.underlying5 h1
  obtain ⟨k2, e2, _, w2⟩ := DataW.trod_int Tryd.underlying5 h2
  obtain ⟨k3, e3, _, w3⟩ := DataW.trod_int Tryd.underlying5 h3
  obtain rfl : v0 = .int .u8 k0 := by simpa using e0
  obtain rfl : v1 = .int .u8 k1 := by simpa using e1
  obtain rfl : v2 = .int .u8 k2 := by simpa using e2
  obtain rfl : v3 = .int .u8 k3 := by simpa using e3
  exact ⟨⟨k0, k1, k2, k3⟩, ⟨u8_wf w0, u8_wf w1, u8_wf w2, u8_wf w3⟩, rfl⟩

set_option maxRecDepth 100000 in
theorem card_of_trod {n : Nat} {cs : List Value} {y : DataW H × List MemPlace} (h : DataW.trod enc Tryd.prog W base spare held n 69 cs = some y) :
    ∃ x : Cd, cs = [.int .i64 x.row, .int .i64 x.col, .bool x.t] := by
  obtain ⟨xs, m, _, _, hl, hn, hf⟩ := DataW.trod_struct Tryd.underlying69 h
  have h0 : DataW.trod enc Tryd.prog W base spare held m 3 ((cs.drop 0).take (Tryd.prog.cellsOf 3)) = xs[0]? := hf 0 _ rfl
  have h1 : DataW.trod enc Tryd.prog W base spare held m 3 ((cs.drop 1).take (Tryd.prog.cellsOf 3)) = xs[1]? := hf 1 _ rfl
  have h2 : DataW.trod enc Tryd.prog W base spare held m 4 ((cs.drop 2).take (Tryd.prog.cellsOf 4)) = xs[2]? := hf 2 _ rfl
  rw [cellsI] at h0 h1
  rw [cellsB] at h2
  rw [cells69] at hl
  match xs, hn with
  | [y0, y1, y2], _ =>
    obtain ⟨c0, c1, c2, rfl⟩ : ∃ c0 c1 c2, cs = [c0, c1, c2] := by
      match cs, hl with
      | [c0, c1, c2], _ => exact ⟨c0, c1, c2, rfl⟩
    obtain ⟨k0, e0, _⟩ := DataW.trod_int Tryd.underlying3 h0
    obtain ⟨k1, e1, _⟩ := DataW.trod_int Tryd.underlying3 h1
    obtain ⟨k2, e2, _⟩ := DataW.trod_bool Tryd.underlying4 h2
    simp at e0 e1 e2
    exact ⟨⟨k0, k1, k2⟩, by rw [e0, e1, e2]⟩

theorem cardsA_of_trod {n : Nat} {v : Value} {y : DataW H × List MemPlace} (h : DataW.trod enc Tryd.prog W base spare held n 29 [v] = some y) :
    ∃ (A : Option Addr) (l : List Cd) (c : Nat), v = .slice A l.length c ∧ l.length ≤ c ∧ CardsAt W W.heap.size A l := by
  rcases open_slice Tryd.underlying29 h with ⟨h0, _⟩ | ⟨a, len, cap, m, n, D, Pl, h0, _, hlc, _, hm, _, hi⟩
  · obtain rfl : v = .slice none 0 0 := by simpa using h0
    exact ⟨none, [], 0, rfl, by simp, fun k x hx => by simp at hx⟩
  · obtain rfl : v = .slice (some a) len cap := by simpa using h0
    have hlm : len ≤ m := by rw [hm]; split <;> omega
    have hel : ∀ i, i < len → ∃ x : Cd, ∀ j, j < 3 → W.cell? (a.add (i * 3 + j)) = [Value.int .i64 x.row, .int .i64 x.col, .bool x.t][j]? := by
      intro i hil
      obtain ⟨cs', hc, ht⟩ := hi i (by omega)
      rw [cells69] at hc
      obtain ⟨x, rfl⟩ := card_of_trod ht
      obtain ⟨_, _, hat⟩ := World.cells?_some hc
      refine ⟨x, fun j hj => ?_⟩
      rw [← hat j hj, Go.Deep.add_add]
    obtain ⟨f, hf⟩ : ∃ f : Nat → Cd, ∀ i, i < len → ∀ j, j < 3 → W.cell? (a.add (i * 3 + j)) = [Value.int .i64 (f i).row, .int .i64 (f i).col, .bool (f i).t][j]? :=
      ⟨fun i => if h : i < len then (hel i h).choose else ⟨0, 0, false⟩, fun i h => by simp only [dif_pos h]; exact (hel i h).choose_spec⟩
    refine ⟨some a, (List.range len).map f, cap, by simp, by simpa using hlc, fun k x hx => ?_⟩
    have hk : k < len := by have := lt_of_get hx; simpa using this
    have hx' : x = f k := by simpa [List.getElem?_range hk] using hx.symm
    subst hx'
    have h0' := hf 0 (by omega) 0 (by decide)
    have hsp : a.spot = none := by have := cell_spot h0'; simpa [Addr.add] using this
    obtain ⟨b, off, sp⟩ := a
    dsimp only at hsp
    subst hsp
    have e : ∀ q, (⟨b, off, none⟩ : Addr).add q = ⟨b, off + q, none⟩ := by intro q; unfold Addr.add; split <;> simp_all
    have g0 := hf k hk 0 (by decide)
    have g1 := hf k hk 1 (by decide)
    have g2 := hf k hk 2 (by decide)
    rw [e] at g0 g1 g2
    refine ⟨b, off, rfl, ?_, by simpa using g0, by rw [Nat.add_assoc]; exact g1, by rw [Nat.add_assoc]; exact g2⟩
    have := cell_block h0'; simpa [Addr.add] using this

set_option maxRecDepth 100000 in
theorem cards_of_arg {r : Reach} {b0 : Nat} {v : Value} {d : DataW H} {p : List MemPlace} (hv : Value.okWide Tryd.prog W r b0 29 v) (h : DataW.Trod enc Tryd.prog W base spare held 29 v d p) :
    ∃ (A : Option Addr) (l : List Cd) (c : Nat), v = .slice A l.length c ∧ l.length ≤ c ∧ CardsAt W W.heap.size A l := by
  obtain ⟨a0, len, cap, rfl⟩ := okWide_slice Tryd.underlying29 hv
  obtain ⟨n, hn⟩ := h
  exact cardsA_of_trod hn
end
end Go.Proofs.YtlollcabnfncpaaDoor
