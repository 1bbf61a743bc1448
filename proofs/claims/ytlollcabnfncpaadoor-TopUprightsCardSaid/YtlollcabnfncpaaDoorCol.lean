/-
  How many squares have each colour: the walks of colours and Colours.
-/
import Derived.Test.YtlollcabnfncpaaDoorDivE
import Derived.Laws.OwnMore
namespace Go.Proofs.YtlollcabnfncpaaDoor
open Go.RowKit

def bump (l : List Int) (j : Nat) : List Int := l.set j (l.getD j 0 + 1)
def colR (k a : Nat) : Nat → List Int → List Int
  | 0, l => l
  | b + 1, l => bump (colR k a b l) ((a + b) % k)
/-- How many squares of so many rows have each colour. -/
def colA (k c : Nat) : Nat → List Int
  | 0 => List.replicate k 0
  | a + 1 => colR k a c (colA k c a)

theorem bump_len (l : List Int) (j : Nat) : (bump l j).length = l.length := by simp [bump]
theorem colR_len (k a : Nat) : ∀ (b : Nat) (l : List Int), (colR k a b l).length = l.length
  | 0, _ => rfl
  | b + 1, l => by rw [colR, bump_len, colR_len k a b l]
theorem colA_len (k c : Nat) : ∀ a : Nat, (colA k c a).length = k
  | 0 => by simp [colA]
  | a + 1 => by rw [colA, colR_len, colA_len k c a]
def InN (l : List Int) (N : Int) : Prop := ∀ x ∈ l, 0 ≤ x ∧ x ≤ N
theorem InN.bump {l : List Int} {N : Int} (h : InN l N) (hN : 0 ≤ N) (j : Nat) : InN (bump l j) (N + 1) := by
  intro x hx
  unfold Proofs.YtlollcabnfncpaaDoor.bump at hx
  rcases List.mem_or_eq_of_mem_set hx with hx | hx
  · have := h x hx; omega
  · rw [hx, List.getD_eq_getElem?_getD]
    rcases hj : l[j]? with _ | y
    · simp; omega
    · have := h y (List.mem_of_getElem? hj)
      simp only [Option.getD_some]; omega
theorem InN.colR {l : List Int} {N : Int} (h : InN l N) (hN : 0 ≤ N) (k a : Nat) : ∀ b : Nat, InN (colR k a b l) (N + b)
  | 0 => by simpa [Proofs.YtlollcabnfncpaaDoor.colR] using h
  | b + 1 => by
    have := (InN.colR h hN k a b).bump (by omega) ((a + b) % k)
    rw [Proofs.YtlollcabnfncpaaDoor.colR]
    have e : N + ((b + 1 : Nat) : Int) = N + (b : Nat) + 1 := by omega
    rw [e]; exact this
theorem colA_in (k c : Nat) : ∀ a : Nat, InN (colA k c a) ((a * c : Nat) : Int)
  | 0 => by
    intro x hx
    rw [colA, List.mem_replicate] at hx
    omega
  | a + 1 => by
    have := (colA_in k c a).colR (by omega) k a c
    rw [colA]
    have e : (((a + 1) * c : Nat) : Int) = ((a * c : Nat) : Int) + (c : Nat) := by rw [Nat.succ_mul]; omega
    rw [e]; exact this

/-- A list of numbers and an error are handed back. -/
def RetIntsE (w : World) (l : List Int) (z : Int) (e : Ending) (w' : World) : Prop := ∃ A c, e = .returned (.tuple #[.slice A l.length c, .int .i64 z]) ∧ IntsAt w' w'.heap.size A l ∧ Below w.heap.size w w'

set_option maxRecDepth 100000 in
set_option maxHeartbeats 2000000 in
theorem colours_any (s : Sh) (k : Nat) (w : World) (hs : s.Ok) (hk1 : 1 ≤ k) (hk6 : k ≤ 6) :
    Calls Tryd.prog 89 #[.agg #[.int .i64 s.r, .int .i64 s.c, .int .i64 s.l, .int .i64 s.w], .int .i64 k] w (RetInts w (colA k s.c s.r)) := by
  have hr6 := hs.r6
  have hc6 := hs.c6
  obtain ⟨i0, hi, hz0, hz1, hz2⟩ := info_parts info3
  obtain ⟨w1, hmk, hown0, hg0⟩ := run_make_full (P := Tryd.prog) (w.alloc (.cells #[.int .i64 s.r, .int .i64 s.c, .int .i64 s.l, .int .i64 s.w] 23)) (w.heap.size + 1) 47 3 i0 _ 1 Tryd.underlying47 hi hz0 hz1 .i64 .i64 k (by rw [hz2]; omega) (by unfold maxLen; omega) (by simp)
  have hb1 : Below w.heap.size w w1 := (below_new w _).grown hg0 (by simp) (by simp)
  have hz1 : w.heap.size + 1 ≤ w1.heap.size := by have := (Chg.of_grown hg0).size; simpa using this
  have cc := fun (o : Nat) => (Chg.of_grown hg0).cell (p := ⟨w.heap.size, o, none⟩) (by simp) (by simp)
  have p0 : w1.cell? ⟨w.heap.size, 0, none⟩ = some (.int .i64 s.r) := (cc 0).trans (by simp [go_sem])
  have p1 : w1.cell? ⟨w.heap.size, 1, none⟩ = some (.int .i64 s.c) := (cc 1).trans (by simp [go_sem])
  have hrep : (madeCells (Value.int .i64 0).cells (k * 1)).toList = (colA k s.c 0).map (Value.int .i64) := by
    rw [Nat.mul_one, show (Value.int .i64 0).cells = #[.int .i64 0] from rfl, toList_madeCells_one]
    simp [colA]
  rw [hrep] at hown0
  simp only [World.size_alloc] at hown0 hmk
  have H0 := Lib.hid hown0
  have HB := Lib.hid hb1
  have hk0 : ((k : Int) == 0) = false := by simp; omega
  have hknz : ¬ k = 0 := by omega
  clear hown0 hrep cc hi hz0 hg0 hb1
  go_enter Tryd.func89, Tryd.ntmps89
  go_wp2
  clear hmk
  go_loopw [12] (fun i wr => ∃ a : Nat, a ≤ s.r ∧ i = .int .i64 a ∧ wr.ownsRow (w.heap.size + 1) 3 1 (.slice (some ⟨w.heap.size + 1, 0, none⟩) k k) k ((colA k s.c a).map (Value.int .i64)) ∧ Below (w.heap.size + 1) w1 wr) (fun i _ => s.r - (intOf i).toNat)
  case atStart => exact ⟨0, by omega, rfl, H0.out, Below.refl _ _⟩
  case round =>
    obtain ⟨a, ha, rfl, hown, hbr⟩ := hrel
    have r0 := (hbr.cell (p := ⟨w.heap.size, 0, none⟩) (by simp)).trans p0
    have r1 := (hbr.cell (p := ⟨w.heap.size, 1, none⟩) (by simp)).trans p1
    by_cases hlt : a < s.r
    · obtain ⟨wo, rfl⟩ : ∃ wo : World, wo = wr := ⟨_, rfl⟩
      have HO := Lib.hid hown
      clear hown
      go_wp2
      go_loopw [17] (fun i wx => ∃ b : Nat, b ≤ s.c ∧ i = .int .i64 b ∧ wx.ownsRow (w.heap.size + 1) 3 1 (.slice (some ⟨w.heap.size + 1, 0, none⟩) k k) k ((colR k a b (colA k s.c a)).map (Value.int .i64)) ∧ Below (w.heap.size + 1) w1 wx) (fun i _ => s.c - (intOf i).toNat)
      case atStart => exact ⟨0, by omega, rfl, HO.out, hbr⟩
      case round =>
        obtain ⟨b, hb, rfl, hown, hbx⟩ := hrel
        have t0 := (hbx.cell (p := ⟨w.heap.size, 0, none⟩) (by simp)).trans p0
        have t1 := (hbx.cell (p := ⟨w.heap.size, 1, none⟩) (by simp)).trans p1
        by_cases hlt2 : b < s.c
        · have hmod : ((a : Int) + (b : Int)).tmod (k : Int) = (((a + b) % k : Nat) : Int) := by
            rw [show ((a : Int) + (b : Int)) = ((a + b : Nat) : Int) by omega]; rfl
          have hjk : (a + b) % k < k := Nat.mod_lt _ (by omega)
          have hbin := (colA_in k s.c a).colR (by omega) k a b
          have hac : a * s.c ≤ 36 := by have := Nat.mul_le_mul (show a ≤ 6 by omega) hc6; omega
          have hln : (colR k a b (colA k s.c a)).length = k := by rw [colR_len, colA_len]
          have hnx : colR k a (b + 1) (colA k s.c a) = bump (colR k a b (colA k s.c a)) ((a + b) % k) := rfl
          have HNX := Lib.hid hnx
          have HOW := Lib.hid hown
          generalize colR k a b (colA k s.c a) = L at *
          have hw1 : IntKind.i64.wrap ((a : Int) + (b : Int)) = (a : Int) + (b : Int) := IntWalk.i64_in _ (by omega)
          generalize (a + b) % k = j at *
          have hLj : L[j]? = some (L[j]'(by omega)) := List.getElem?_eq_getElem (by omega)
          generalize hy : L[j]'(by omega) = y at hLj
          have hyin := hbin y (List.mem_of_getElem? hLj)
          have hcell := (hown.cellAt j (by omega)).trans (show (L.map (Value.int .i64))[j]? = some (.int .i64 y) by rw [List.getElem?_map, hLj]; rfl)
          have hfz := hown.frozenAt j
          have hst := hown.stored j (.int .i64 (y + 1))
          have HST := Lib.hid hst
          have HY := Lib.hid (show (L.map (Value.int .i64)).set j (.int .i64 (y + 1)) = (bump L j).map (Value.int .i64) by
            rw [← List.map_set, bump, List.getD_eq_getElem?_getD, hLj]; rfl)
          clear hst hown hbin hLj hy hnx
          go_wp2
          go_roundw
          case rel =>
            refine ⟨b + 1, by omega, by go_num, ?_, ?_⟩
            · rw [HNX.out, ← HY.out]; exact HST.out.1
            · exact hbx.setCell (p := ⟨w.heap.size + 1, j, none⟩) (by simp) _
          case measure => simp [intOf]; omega
        · have e : b = s.c := by omega
          have HF := Lib.hid (show (colR k a b (colA k s.c a)).map (Value.int .i64) = (colA k s.c (a + 1)).map (Value.int .i64) by rw [e]; rfl)
          have HOW := Lib.hid hown
          clear hown e
          go_wp2
          go_roundw
          case rel => exact ⟨a + 1, by omega, by go_num, by rw [← HF.out]; exact HOW.out, hbx⟩
          case measure => simp [intOf]; omega
    · have e : a = s.r := by omega
      rw [e] at hown
      obtain ⟨A, c, he, hA, hn⟩ := own_ints hown
      have HR := Lib.hid (show RetInts w (colA k s.c s.r) (.returned (.slice A (colA k s.c s.r).length c)) wr from ⟨A, c, rfl, hA, HB.out.trans (hbr.mono (by omega))⟩)
      rw [← he] at HR
      clear hown hA he e hn
      go_wp2
      go_ret
      exact HR.out
end Go.Proofs.YtlollcabnfncpaaDoor
