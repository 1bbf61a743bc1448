/-
  Books by numbers: what the numbers are, and how they come in.
-/
import Derived.Test.YtcebihijnedekaaDoorFlowD
import Derived.Test.YtcebihijnedekaaDoorCardB
namespace Go.Proofs.YtcebihijnedekaaDoor
open Go.RowKit

/-- Four small numbers. -/
structure H4 where
  a : Int
  b : Int
  c : Int
  d : Int

def okH (h : H4) : Prop := (0 ≤ h.a ∧ h.a ≤ 255) ∧ (0 ≤ h.b ∧ h.b ≤ 255) ∧ (0 ≤ h.c ∧ h.c ≤ 255) ∧ (0 ≤ h.d ∧ h.d ≤ 255)

/-- The way that four numbers are. -/
def wayH (R : Int) (h : H4) : Wy := ⟨h.a % R, (h.a % R + 1 + h.b % (R - 1)) % R, h.c % 4, min 4 (h.c % 4 + h.d % 4)⟩

def roomsH (r : Int) : Int := 2 + r % 3

/-- The ways of a house: so many at most. -/
def madeS (r : Int) (hs : List H4) (most : Nat) : List Wy := (hs.take most).map (wayH (roomsH r))

theorem roomsH_cases (r : Int) : roomsH r = ((2 : Nat) : Int) ∨ roomsH r = ((3 : Nat) : Int) ∨ roomsH r = ((4 : Nat) : Int) := by
  unfold roomsH; omega

theorem wayH_ok {R : Nat} (hR : R = 2 ∨ R = 3 ∨ R = 4) {h : H4} (hh : okH h) : (0 ≤ (wayH R h).src ∧ (wayH R h).src < R) ∧ (0 ≤ (wayH R h).dst ∧ (wayH R h).dst < R) ∧ 0 ≤ (wayH R h).lo ∧ (wayH R h).lo ≤ (wayH R h).hi ∧ (wayH R h).hi ≤ 4 ∧ (wayH R h).src ≠ (wayH R h).dst ∧ (wayH R h).hi ≤ (wayH R h).lo + 3 := by
  obtain ⟨h1, h2, h3, h4⟩ := hh
  unfold wayH
  dsimp only
  rcases hR with rfl | rfl | rfl <;> (refine ⟨?_, ?_, ?_, ?_, ?_, ?_, ?_⟩ <;> omega)

theorem madeS_all {r : Int} {hs : List H4} {most : Nat} (hh : ∀ h ∈ hs, okH h) : ∀ x ∈ madeS r hs most, (0 ≤ x.src ∧ x.src < roomsH r) ∧ (0 ≤ x.dst ∧ x.dst < roomsH r) ∧ 0 ≤ x.lo ∧ x.lo ≤ x.hi ∧ x.hi ≤ 4 ∧ x.src ≠ x.dst ∧ x.hi ≤ x.lo + 3 := by
  intro x hx
  unfold madeS at hx
  obtain ⟨h, hm, rfl⟩ := List.mem_map.1 hx
  have ho := hh h (List.mem_of_mem_take hm)
  rcases roomsH_cases r with e | e | e <;> rw [e] <;> exact wayH_ok (by simp) ho

theorem madeS_len (r : Int) (hs : List H4) (most : Nat) : (madeS r hs most).length ≤ most := by
  unfold madeS; rw [List.length_map, List.length_take]; omega

/-- The books of a house are valid. -/
theorem chk_made {r : Int} {hs : List H4} {most : Nat} (hh : ∀ h ∈ hs, okH h) (hm : most ≤ 12) : ∃ rooms : Nat, roomsH r = rooms ∧ 2 ≤ rooms ∧ rooms ≤ 4 ∧ chk rooms (madeS r hs most) = 0 ∧ ValB rooms (madeS r hs most) ∧ (∀ x ∈ madeS r hs most, x.src ≠ x.dst) ∧ (∀ x ∈ madeS r hs most, wide x ≤ 4) := by
  have hall := madeS_all (r := r) (most := most) hh
  have hlen := madeS_len r hs most
  obtain ⟨R, hR, h2, h4⟩ : ∃ R : Nat, roomsH r = R ∧ 2 ≤ R ∧ R ≤ 4 := by
    rcases roomsH_cases r with e | e | e
    · exact ⟨2, e, by omega, by omega⟩
    · exact ⟨3, e, by omega, by omega⟩
    · exact ⟨4, e, by omega, by omega⟩
  refine ⟨R, hR, h2, h4, ?_, ⟨by omega, by omega, fun x hx => ?_⟩, fun x hx => (hall x hx).2.2.2.2.2.1, fun x hx => ?_⟩
  · rw [chk_L (by omega) (by omega)]
    rw [hR] at hall
    generalize madeS r hs most = ws at hall
    clear hlen
    induction ws with
    | nil => rfl
    | cons x ws ih =>
      have h1 := hall x (List.mem_cons_self ..)
      have h0 := chkW0 (R := R) (x := x) ⟨h1.1.1, h1.1.2, h1.2.1.1, h1.2.1.2⟩ h1.2.2.2.2.2.1 ⟨h1.2.2.1, by omega, h1.2.2.2.1⟩
      rw [chkL, h0]
      simpa using ih (fun y hy => hall y (List.mem_cons_of_mem _ hy))
  · have := hall x hx
    rw [hR] at this
    exact ⟨this.1, this.2.1, this.2.2.1, this.2.2.2.1, by omega⟩
  · have := hall x hx
    unfold wide; omega

/-- What made hands back. -/
def RetMade (w : World) (R : Int) (ws : List Wy) (e : Ending) (w' : World) : Prop := ∃ A c, e = .returned (.agg #[.int .i64 R, .slice A ws.length c]) ∧ WaysAt w' w'.heap.size A ws ∧ Below w.heap.size w w'

/-- Lists of four small numbers in memory. -/
def HouseAt (w : World) (B : Nat) (A : Option Addr) (hs : List H4) : Prop :=
  ∀ (k : Nat) (h : H4), hs[k]? = some h → ∃ b off, A = some ⟨b, off, none⟩ ∧ b < B ∧ w.cell? ⟨b, off + k * 4, none⟩ = some (.int .u8 h.a) ∧ w.cell? ⟨b, off + k * 4 + 1, none⟩ = some (.int .u8 h.b) ∧ w.cell? ⟨b, off + k * 4 + 2, none⟩ = some (.int .u8 h.c) ∧ w.cell? ⟨b, off + k * 4 + 3, none⟩ = some (.int .u8 h.d)

theorem HouseAt.below {w w' : World} {B B' : Nat} {A : Option Addr} {hs : List H4} (h : HouseAt w B A hs) (hb : Below B' w w') (hB : B ≤ B') : HouseAt w' B A hs := by
  intro k x hx
  obtain ⟨b, off, e, h1, h2, h3, h4, h5⟩ := h k x hx
  exact ⟨b, off, e, h1, (hb.cell (p := ⟨b, _, none⟩) (Nat.lt_of_lt_of_le h1 hB)).trans h2, (hb.cell (p := ⟨b, _, none⟩) (Nat.lt_of_lt_of_le h1 hB)).trans h3, (hb.cell (p := ⟨b, _, none⟩) (Nat.lt_of_lt_of_le h1 hB)).trans h4, (hb.cell (p := ⟨b, _, none⟩) (Nat.lt_of_lt_of_le h1 hB)).trans h5⟩
theorem HouseAt.mono {w : World} {B B' : Nat} {A : Option Addr} {hs : List H4} (h : HouseAt w B A hs) (hB : B ≤ B') : HouseAt w B' A hs := by
  intro k x hx
  obtain ⟨b, off, e, h1, h2⟩ := h k x hx
  exact ⟨b, off, e, Nat.lt_of_lt_of_le h1 hB, h2⟩

section
open Go.ChangeShapes Go.WideShapes Go.ChangeAt Go.Deep Go.Joins
variable {H : Type} {enc : TypeId × Value → H} {W : World} {base : Nat} {spare : Nat → Bool} {held : Bool}

theorem read63 : Tryd.prog.readableRec 63 = true := by kernel_rfl
theorem row63 : 63 < Tryd.prog.types.size := of_decide_eq_true (by kernel_rfl)
theorem read5 : Tryd.prog.readableRec 5 = true := by kernel_rfl
theorem row5 : 5 < Tryd.prog.types.size := of_decide_eq_true (by kernel_rfl)
theorem read76 : Tryd.prog.readableRec 76 = true := by kernel_rfl
theorem row76 : 76 < Tryd.prog.types.size := of_decide_eq_true (by kernel_rfl)
theorem cells63 : Tryd.prog.cellsOf 63 = 2 := by kernel_rfl
theorem cells76 : Tryd.prog.cellsOf 76 = 4 := by kernel_rfl
theorem cells5 : Tryd.prog.cellsOf 5 = 1 := by kernel_rfl

theorem u8_wf {n : Int} (h : (Lit.int .u8 n).wf = true) : 0 ≤ n ∧ n ≤ 255 := by
  have h1 : IntKind.u8.min = 0 := by decide
  have h2 : IntKind.u8.max = 255 := by decide
  simp only [Lit.wf, Bool.and_eq_true, decide_eq_true_eq, h1, h2] at h
  exact h

set_option maxRecDepth 100000 in
theorem four_of_trod {n : Nat} {cs : List Value} {y : DataW H × List MemPlace} (h : DataW.trod enc Tryd.prog W base spare held n 76 cs = some y) :
    ∃ x : H4, okH x ∧ cs = [.int .u8 x.a, .int .u8 x.b, .int .u8 x.c, .int .u8 x.d] := by
  obtain ⟨xs, m, _, _, hl, hn, hf⟩ := DataW.trod_array Tryd.underlying76 h
  rw [cells76] at hl
  have h0 := hf 0 (by decide)
  have h1 := hf 1 (by decide)
  have h2 := hf 2 (by decide)
  have h3 := hf 3 (by decide)
  rw [cells5] at h0 h1 h2 h3
  match xs, hn with
  | [y0, y1, y2, y3], _ =>
    obtain ⟨c0, c1, c2, c3, rfl⟩ : ∃ c0 c1 c2 c3, cs = [c0, c1, c2, c3] := by
      match cs, hl with
      | [c0, c1, c2, c3], _ => exact ⟨c0, c1, c2, c3, rfl⟩
    obtain ⟨k0, e0, _, w0⟩ := DataW.trod_int Tryd.underlying5 h0
    obtain ⟨k1, e1, _, w1⟩ := DataW.trod_int Tryd.underlying5 h1
    obtain ⟨k2, e2, _, w2⟩ := DataW.trod_int Tryd.underlying5 h2
    obtain ⟨k3, e3, _, w3⟩ := DataW.trod_int Tryd.underlying5 h3
    simp at e0 e1 e2 e3
    exact ⟨⟨k0, k1, k2, k3⟩, ⟨u8_wf w0, u8_wf w1, u8_wf w2, u8_wf w3⟩, by rw [e0, e1, e2, e3]⟩

theorem fours_of_trod {n : Nat} {v : Value} {y : DataW H × List MemPlace} (h : DataW.trod enc Tryd.prog W base spare held n 61 [v] = some y) :
    ∃ (A : Option Addr) (hs : List H4) (c : Nat), v = .slice A hs.length c ∧ (∀ h ∈ hs, okH h) ∧ HouseAt W W.heap.size A hs := by
  rcases open_slice Tryd.underlying61 h with ⟨h0, _⟩ | ⟨a, len, cap, m, n, D, Pl, h0, _, hlc, _, hm, _, hi⟩
  · obtain rfl : v = .slice none 0 0 := by simpa using h0
    exact ⟨none, [], 0, rfl, by simp, fun k x hx => by simp at hx⟩
  · obtain rfl : v = .slice (some a) len cap := by simpa using h0
    have hlm : len ≤ m := by rw [hm]; split <;> omega
    have hel : ∀ i, i < len → ∃ x : H4, okH x ∧ ∀ j, j < 4 → W.cell? (a.add (i * 4 + j)) = [Value.int .u8 x.a, .int .u8 x.b, .int .u8 x.c, .int .u8 x.d][j]? := by
      intro i hil
      obtain ⟨cs', hc, ht⟩ := hi i (by omega)
      rw [cells76] at hc
      obtain ⟨x, hx, rfl⟩ := four_of_trod ht
      obtain ⟨_, _, hat⟩ := World.cells?_some hc
      refine ⟨x, hx, fun j hj => ?_⟩
      rw [← hat j hj, Go.Deep.add_add]
    obtain ⟨f, hf⟩ : ∃ f : Nat → H4, ∀ i, i < len → okH (f i) ∧ ∀ j, j < 4 → W.cell? (a.add (i * 4 + j)) = [Value.int .u8 (f i).a, .int .u8 (f i).b, .int .u8 (f i).c, .int .u8 (f i).d][j]? :=
      ⟨fun i => if h : i < len then (hel i h).choose else ⟨0, 0, 0, 0⟩, fun i h => by simp only [dif_pos h]; exact (hel i h).choose_spec⟩
    refine ⟨some a, (List.range len).map f, cap, by simp, fun h hh => ?_, fun k x hx => ?_⟩
    · obtain ⟨i, hi, rfl⟩ := List.mem_map.1 hh
      exact (hf i (List.mem_range.1 hi)).1
    · have hk : k < len := by have := lt_of_get hx; simpa using this
      have hx' : x = f k := by simpa [List.getElem?_range hk] using hx.symm
      subst hx'
      have h0' := (hf 0 (by omega)).2 0 (by decide)
      have hsp : a.spot = none := by have := cell_spot h0'; simpa [Addr.add] using this
      obtain ⟨b, off, sp⟩ := a
      dsimp only at hsp
      subst hsp
      have e : ∀ q, (⟨b, off, none⟩ : Addr).add q = ⟨b, off + q, none⟩ := by intro q; unfold Addr.add; split <;> simp_all
      have g0 := (hf k hk).2 0 (by decide)
      have g1 := (hf k hk).2 1 (by decide)
      have g2 := (hf k hk).2 2 (by decide)
      have g3 := (hf k hk).2 3 (by decide)
      rw [e] at g0 g1 g2 g3
      refine ⟨b, off, rfl, ?_, by simpa using g0, by rw [Nat.add_assoc]; exact g1, by rw [Nat.add_assoc]; exact g2, by rw [Nat.add_assoc]; exact g3⟩
      have := cell_block h0'; simpa [Addr.add] using this

set_option maxRecDepth 100000 in
theorem house_of_trod {r : Reach} {b0 : Nat} {v : Value} {d : DataW H} {p : List MemPlace} (hv : Value.okWide Tryd.prog W r b0 63 v) (h : DataW.Trod enc Tryd.prog W base spare held 63 v d p) :
    ∃ (q : Int) (A : Option Addr) (hs : List H4) (c : Nat), v = .agg #[.int .u8 q, .slice A hs.length c] ∧ (0 ≤ q ∧ q ≤ 255) ∧ (∀ h ∈ hs, okH h) ∧ HouseAt W W.heap.size A hs := by
  obtain ⟨v0, v1, y0, y1, n, rfl, _, _, h0, h1⟩ := open_agg2 Tryd.underlying63 (by kernel_rfl) cells63 hv h
  obtain ⟨q, e0, _, w0⟩ := DataW.trod_int Tryd.underlying5 h0
  obtain ⟨A, hs, c, rfl, hok, hw⟩ := fours_of_trod h1
  obtain rfl : v0 = .int .u8 q := by simpa using e0
  exact ⟨q, A, hs, c, rfl, u8_wf w0, hok, hw⟩
end
end Go.Proofs.YtcebihijnedekaaDoor
