/-
  The loops of a turn, walked.
-/
import Derived.Test.YtbcbaaapogejiaaDoorCntA
import Derived.Laws.OwnMore
namespace Go.Proofs.YtbcbaaapogejiaaDoor
open Go.RowKit

theorem alongN_le (s : List Int) : ∀ (f : Nat) (seen : List Bool) (k : Nat), (alongN s f seen k).1 ≤ f
  | 0, _, _ => Nat.le_refl 0
  | f + 1, seen, k => by
    unfold alongN
    split
    · simp
    · exact Nat.succ_le_succ (alongN_le s f (seen.set k true) (s.getD k 0).toNat)
theorem alongN_len (s : List Int) : ∀ (f : Nat) (seen : List Bool) (k : Nat), (alongN s f seen k).2.length = seen.length
  | 0, _, _ => rfl
  | f + 1, seen, k => by
    unfold alongN
    split
    · rfl
    · simp only
      rw [alongN_len s f, List.length_set]
theorem lensK_len (s : List Int) : ∀ k, (lensK s k).2.length = s.length
  | 0 => by simp [lensK]
  | k + 1 => by simp only [lensK]; rw [alongN_len, lensK_len s k]
theorem count_set : ∀ (l : List Bool) (k : Nat), l[k]? = some false → (l.set k true).count false + 1 = l.count false
  | [], k, h => by simp at h
  | b :: l, 0, h => by
    have : b = false := by simpa using h
    subst this
    simp
  | b :: l, k + 1, h => by
    have := count_set l k (by simpa using h)
    simp only [List.set_cons_succ, List.count_cons]
    omega
theorem along_seen {s : List Int} {seen : List Bool} {k : Nat} (h : seen[k]? = some true) : ∀ f, alongN s f seen k = (0, seen)
  | 0 => rfl
  | f + 1 => by
    unfold alongN
    rw [if_pos (by rw [List.getD_eq_getElem?_getD, h]; rfl)]
theorem along_step {s : List Int} {seen : List Bool} {k : Nat} (h : seen[k]? = some false) (f : Nat) : (alongN s (f + 1) seen k).1 = (alongN s f (seen.set k true) (s.getD k 0).toNat).1 + 1 ∧ (alongN s (f + 1) seen k).2 = (alongN s f (seen.set k true) (s.getD k 0).toNat).2 := by
  have e : alongN s (f + 1) seen k = ((alongN s f (seen.set k true) (s.getD k 0).toNat).1 + 1, (alongN s f (seen.set k true) (s.getD k 0).toNat).2) := by
    rw [alongN, if_neg (by rw [List.getD_eq_getElem?_getD, h]; simp)]
  rw [e]
  exact ⟨rfl, rfl⟩
theorem lpOf_more (s : List Int) (k : Nat) : lpOf (lensK s (k + 1)).1 = addLp (lpOf (lensK s k).1) (alongN s (s.length + 1) (lensK s k).2 k).1 := by
  unfold lpOf
  rw [lensK, List.foldl_append]
  rfl
theorem addLp_le (l : Lp) (n : Nat) : (addLp l n).o ≤ l.o + 1 ∧ (addLp l n).t ≤ l.t + 1 ∧ (addLp l n).f ≤ l.f + 1 := by
  unfold addLp
  repeat' split
  all_goals first | (simp only; omega) | omega
theorem lpOf_le (s : List Int) : ∀ k, (lpOf (lensK s k).1).o ≤ k ∧ (lpOf (lensK s k).1).t ≤ k ∧ (lpOf (lensK s k).1).f ≤ k
  | 0 => ⟨Nat.le_refl 0, Nat.le_refl 0, Nat.le_refl 0⟩
  | k + 1 => by
    rw [lpOf_more]
    have := lpOf_le s k
    have := addLp_le (lpOf (lensK s k).1) (alongN s (s.length + 1) (lensK s k).2 k).1
    omega

theorem info4 : (Tryd.prog.info? 4).map (fun i => (i.zero, i.size, i.bytes)) = some (some (.bool false), 1, 1) := by kernel_rfl

/-- Three numbers in a block, that can be written. -/
def LpAt (W : World) (g : Nat) (l : Lp) : Prop := (W.cell? ⟨g, 0, none⟩ = some (.int .i64 l.o) ∧ W.cell? ⟨g, 1, none⟩ = some (.int .i64 l.t) ∧ W.cell? ⟨g, 2, none⟩ = some (.int .i64 l.f)) ∧ (W.frozen? ⟨g, 0, none⟩ = false ∧ W.frozen? ⟨g, 1, none⟩ = false ∧ W.frozen? ⟨g, 2, none⟩ = false)
theorem LpAt.chg {P : Nat → Prop} {W W' : World} {g : Nat} {l : Lp} (h : LpAt W g l) (hc : Chg P W W') (hg : g < W.heap.size) (hn : ¬ P g) : LpAt W' g l := by
  obtain ⟨⟨h1, h2, h3⟩, h4, h5, h6⟩ := h
  exact ⟨⟨(hc.cell (p := ⟨g, 0, none⟩) hg hn).trans h1, (hc.cell (p := ⟨g, 1, none⟩) hg hn).trans h2, (hc.cell (p := ⟨g, 2, none⟩) hg hn).trans h3⟩, (hc.frozen (p := ⟨g, 0, none⟩) hg hn).trans h4, (hc.frozen (p := ⟨g, 1, none⟩) hg hn).trans h5, (hc.frozen (p := ⟨g, 2, none⟩) hg hn).trans h6⟩
theorem LpAt.s0 {W : World} {g : Nat} {l : Lp} (h : LpAt W g l) (n : Int) (m : Nat) (e : n = (m : Int)) : LpAt (W.setCell ⟨g, 0, none⟩ (.int .i64 n)) g ⟨m, l.t, l.f⟩ := by
  subst e
  obtain ⟨⟨h1, h2, h3⟩, h4⟩ := h
  have n : ∀ i j : Nat, i ≠ j → (⟨g, i, none⟩ : Addr) ≠ ⟨g, j, none⟩ := fun i j h e => h (by injection e)
  refine ⟨⟨World.cell?_setCell_same _ _ _ h1, (World.cell?_setCell_other _ _ _ _ (n 0 1 (by decide))).trans h2, (World.cell?_setCell_other _ _ _ _ (n 0 2 (by decide))).trans h3⟩, by simpa using h4⟩
theorem LpAt.s1 {W : World} {g : Nat} {l : Lp} (h : LpAt W g l) (n : Int) (m : Nat) (e : n = (m : Int)) : LpAt (W.setCell ⟨g, 1, none⟩ (.int .i64 n)) g ⟨l.o, m, l.f⟩ := by
  subst e
  obtain ⟨⟨h1, h2, h3⟩, h4⟩ := h
  have n : ∀ i j : Nat, i ≠ j → (⟨g, i, none⟩ : Addr) ≠ ⟨g, j, none⟩ := fun i j h e => h (by injection e)
  refine ⟨⟨(World.cell?_setCell_other _ _ _ _ (n 1 0 (by decide))).trans h1, World.cell?_setCell_same _ _ _ h2, (World.cell?_setCell_other _ _ _ _ (n 1 2 (by decide))).trans h3⟩, by simpa using h4⟩
theorem LpAt.s2 {W : World} {g : Nat} {l : Lp} (h : LpAt W g l) (n : Int) (m : Nat) (e : n = (m : Int)) : LpAt (W.setCell ⟨g, 2, none⟩ (.int .i64 n)) g ⟨l.o, l.t, m⟩ := by
  subst e
  obtain ⟨⟨h1, h2, h3⟩, h4⟩ := h
  have n : ∀ i j : Nat, i ≠ j → (⟨g, i, none⟩ : Addr) ≠ ⟨g, j, none⟩ := fun i j h e => h (by injection e)
  refine ⟨⟨(World.cell?_setCell_other _ _ _ _ (n 2 0 (by decide))).trans h1, (World.cell?_setCell_other _ _ _ _ (n 2 1 (by decide))).trans h2, World.cell?_setCell_same _ _ _ h3⟩, by simpa using h4⟩
theorem lp_new (W : World) : LpAt (W.alloc (.cells #[.int .i64 0, .int .i64 0, .int .i64 0] 125)) W.heap.size ⟨0, 0, 0⟩ :=
  ⟨⟨by rw [cell_of_row _ _ _ _ _ _ (heap_new _ _)]; rfl, by rw [cell_of_row _ _ _ _ _ _ (heap_new _ _)]; rfl, by rw [cell_of_row _ _ _ _ _ _ (heap_new _ _)]; rfl⟩, by simp [go_sem], by simp [go_sem], by simp [go_sem]⟩

def boolsV (l : List Bool) : List Value := l.map Value.bool
theorem boolsV_len (l : List Bool) : (boolsV l).length = l.length := by simp [boolsV]
theorem boolsV_set (l : List Bool) (k : Nat) (b : Bool) : (boolsV l).set k (.bool b) = boolsV (l.set k b) := by simp [boolsV]
theorem boolsV_get {l : List Bool} {k : Nat} {b : Bool} (h : l[k]? = some b) : (boolsV l)[k]? = some (.bool b) := by simp [boolsV, h]

set_option maxRecDepth 100000 in
set_option maxHeartbeats 8000000 in
theorem loops_any (A : Option Addr) (c : Nat) (s : List Int) (w : World) (hA : IntsAt w w.heap.size A s) (hin : ∀ i ∈ s, 0 ≤ i ∧ i < (s.length : Nat)) (hn : s.length < 1000) :
    Calls Tryd.prog 82 #[.slice A s.length c] w fun e w' => e = .returned (.agg #[.int .i64 (loopsN s).o, .int .i64 (loopsN s).t, .int .i64 (loopsN s).f]) ∧ Below w.heap.size w w' := by
  obtain ⟨i0, hi, hz0, hz1, hz2⟩ := info_parts info4
  have HA := Lib.hid hA
  have HI := Lib.hid hin
  clear hA hin
  have hL0 := lp_new w
  have hL1 := lp_new (w.alloc (.cells #[.int .i64 0, .int .i64 0, .int .i64 0] 125))
  have hbA := below_new w (.cells #[.int .i64 0, .int .i64 0, .int .i64 0] 125)
  have hbB := below_new (w.alloc (.cells #[.int .i64 0, .int .i64 0, .int .i64 0] 125)) (.cells #[.int .i64 0, .int .i64 0, .int .i64 0] 125)
  have hL0' := hL0.chg (Chg.of_below (P := fun _ => False) hbB) (by simp) (fun h => h)
  have hbC := hbA.trans (hbB.mono hbA.size)
  simp only [World.size_alloc] at hL1
  have hsC : ((w.alloc (.cells #[.int .i64 0, .int .i64 0, .int .i64 0] 125)).alloc (.cells #[.int .i64 0, .int .i64 0, .int .i64 0] 125)).heap.size = w.heap.size + 2 := by simp
  go_enter Tryd.func82, Tryd.ntmps82
  go_upto_region 2 with fail
  clear hL0 hbA hbB
  generalize (w.alloc (.cells #[.int .i64 0, .int .i64 0, .int .i64 0] 125)).alloc (.cells #[.int .i64 0, .int .i64 0, .int .i64 0] 125) = w1 at *
  go_wp2_with (at_make; go_must (refine wpList_make_full _ rfl _ _ 176 rfl (w.heap.size + 2) 4 i0 (.bool false) 1 Tryd.underlying176 hi hz0 hz1 .i64 .i64 _ _ s.length rfl rfl rfl rfl (by rw [hz2]; omega) (by unfold maxLen; omega) (by omega) ?_); intro w2 hown0 hgrow0; have hM0 := hL0'.chg (Chg.of_grown hgrow0) (by omega) (fun h => by cases h); have hM1 := hL1.chg (Chg.of_grown hgrow0) (by omega) (fun h => by cases h); have hb2 := hbC.grown hgrow0 (by omega) (fun g hg => by cases hg); have hs2 := hgrow0.size; rw [show (madeCells (Value.bool false).cells (s.length * 1)).toList = boolsV (lensK s 0).2 from (by rw [Nat.mul_one, show (Value.bool false).cells = #[Value.bool false] from rfl, toList_madeCells_one]; simp [boolsV, lensK])] at hown0; rw [hsC] at hown0; clear hgrow0 hL0' hL1 hbC)
  go_loopw [13] (fun i wr => ∃ k : Nat, k ≤ s.length ∧ i = .int .i64 k ∧ LpAt wr (w.heap.size + 1) (lpOf (lensK s k).1) ∧ wr.ownsRow (w.heap.size + 2) 4 1 (.slice (some ⟨w.heap.size + 2, 0, none⟩) s.length s.length) s.length (boolsV (lensK s k).2) ∧ Below (w.heap.size + 1) w2 wr) (fun i _ => s.length - (intOf i).toNat)
  case atStart => exact ⟨0, Nat.zero_le _, rfl, hM1, hown0, Below.refl _ _⟩
  case round =>
    obtain ⟨k, hk, rfl, hM, hown, hbw⟩ := hrel
    by_cases hlt : k < s.length
    · have hki : (k : Int) < (s.length : Int) := by omega
      have hlen := lensK_len s k
      have HL := Lib.hid (lpOf_more s k)
      have hle := lpOf_le s k
      have HS := Lib.hid (show (lensK s (k + 1)).2 = (alongN s (s.length + 1) (lensK s k).2 k).2 from rfl)
      have hN := alongN_le s (s.length + 1) (lensK s k).2 k
      have hsz := hbw.size
      have hn4 : (⟨w.heap.size + 1, 0, none⟩ : Addr).block < w.heap.size + 2 := by simp
      generalize hR : alongN s (s.length + 1) (lensK s k).2 k = R at *
      obtain ⟨N, S⟩ := R
      have hfu : s.length + 1 ≥ (lensK s k).2.count false + 1 := by have := List.count_le_length (a := false) (l := (lensK s k).2); omega
      generalize lpOf (lensK s k).1 = L at *
      generalize (lensK s k).2 = se at *
      dsimp only at hN
      go_wp2
      go_loopw [6, 7] (fun s6 s7 wr => ∃ (len at' fuel : Nat) (seen : List Bool), s6 = .int .i64 len ∧ s7 = .int .i64 at' ∧ at' < s.length ∧ seen.length = s.length ∧ (len + (alongN s fuel seen at').1 = N ∧ Hid ((alongN s fuel seen at').2 = S)) ∧ fuel ≥ seen.count false + 1 ∧ LpAt wr (w.heap.size + 1) L ∧ wr.ownsRow (w.heap.size + 2) 4 1 (.slice (some ⟨w.heap.size + 2, 0, none⟩) s.length s.length) s.length (boolsV seen) ∧ Below (w.heap.size + 1) w2 wr) (fun s6 _ _ => N - (intOf s6).toNat)
      case atStart => exact ⟨0, k, s.length + 1, se, rfl, rfl, hlt, hlen, ⟨by rw [hR]; simp, Lib.hid (by rw [hR])⟩, hfu, hM, hown, hbw⟩
      case round =>
        clear hM hown hbw hR hfu hlen
        obtain ⟨len, at', fuel, seen, rfl, rfl, hat, hslen, ⟨hrN, HrS⟩, hfu, hM, hown, hbw⟩ := hrel
        have hx : seen[at']? = some (seen[at']'(by omega)) := List.getElem?_eq_getElem _
        have hc := hown.cellAt at' (by omega)
        have hf := hown.frozenAt at'
        rw [boolsV_get hx] at hc
        have hai : (at' : Int) < (s.length : Int) := by omega
        have ha0 : (0 : Int) ≤ (at' : Int) := by omega
        rcases hb : seen[at']'(by omega) with _ | _
        · rw [hb] at hx hc
          clear hb
          obtain ⟨f, rfl⟩ : ∃ f, fuel = f + 1 := ⟨fuel - 1, by omega⟩
          obtain ⟨a1, a2⟩ := along_step (s := s) hx f
          have hcs := count_set seen at' hx
          have hy : s[at']? = some s[at'] := List.getElem?_eq_getElem hat
          obtain ⟨g0, g1⟩ := HI.out _ (mem_of_get hy)
          have hyd : s.getD at' 0 = s[at'] := by rw [List.getD_eq_getElem?_getD, hy]; rfl
          rw [hyd] at a1 a2
          obtain ⟨st1, st2⟩ := hown.stored at' (.bool true)
          rw [boolsV_set] at st1
          have hM2 := hM.chg (Chg.of_grown st2) (by have := hbw.size; omega) (fun h => by injection h with h; omega)
          have hbn : Below (w.heap.size + 1) w2 (wr.setCell ⟨w.heap.size + 2, at', none⟩ (.bool true)) := hbw.setCell (by simp) _
          have hbww : Below w.heap.size w (wr.setCell ⟨w.heap.size + 2, at', none⟩ (.bool true)) := hb2.trans (hbn.mono (by omega))
          obtain ⟨ab, ao, rfl, hab, d⟩ := (HA.out.below hbww (Nat.le_refl _)) at' _ hy
          have HS2 := Lib.hid (a2.symm.trans HrS.out)
          rw [a1] at hrN
          generalize s[at'] = y at *
          obtain ⟨u, rfl⟩ : ∃ u : Nat, y = (u : Int) := ⟨y.toNat, by omega⟩
          simp only [Int.toNat_natCast] at *
          clear hx hy hyd a1 a2 hM hown hbw HrS st2
          go_wp2
          go_roundw
          case rel => exact ⟨len + 1, u, f, seen.set at' true, by go_num, rfl, by omega, by simpa using hslen, ⟨by omega, HS2⟩, by omega, hM2, st1, hbn⟩
          case measure => simp [intOf]; omega
        · rw [hb] at hx hc
          clear hb
          have ha := along_seen (s := s) hx fuel
          have e1 : N = len := by rw [ha] at hrN; simpa using hrN.symm
          have e2 := HrS.out
          rw [ha] at e2
          replace e2 : seen = S := e2
          subst e1 e2
          clear ha hrN HrS hx
          have HLe := Lib.hid (show lpOf (lensK s (k + 1)).1 = addLp L N from HL.out)
          have HSe := Lib.hid (show (lensK s (k + 1)).2 = seen from HS.out)
          obtain ⟨⟨p0, p1, p2⟩, y0, y1, y2⟩ := id hM
          have q0 : (L.o : Int) + 1 = ((L.o + 1 : Nat) : Int) := by omega
          have q1 : (L.t : Int) + 1 = ((L.t + 1 : Nat) : Int) := by omega
          have q2 : (L.f : Int) + 1 = ((L.f + 1 : Nat) : Int) := by omega
          have hownP : ∀ j u, (wr.setCell ⟨w.heap.size + 1, j, none⟩ u).ownsRow (w.heap.size + 2) 4 1 (.slice (some ⟨w.heap.size + 2, 0, none⟩) s.length s.length) s.length (boolsV seen) := fun j u => ownsRow_setCell_below hown (by simp) u
          have hbP : ∀ j u, Below (w.heap.size + 1) w2 (wr.setCell ⟨w.heap.size + 1, j, none⟩ u) := fun j u => hbw.setCell (by simp) _
          by_cases c1 : N = 1
          · subst c1
            have hMn := hM.s0 _ _ q0
            rw [show addLp L 1 = ⟨L.o + 1, L.t, L.f⟩ from rfl] at HLe
            clear hM q0 q1 q2
            go_wp2
            go_roundw
            case rel => exact ⟨k + 1, by omega, by go_num, by rw [HLe.out]; exact hMn, by rw [HSe.out]; exact hownP _ _, hbP _ _⟩
            case measure => simp [intOf]; omega
          by_cases c2 : N = 2
          · subst c2
            have hMn := hM.s1 _ _ q1
            rw [show addLp L 2 = ⟨L.o, L.t + 1, L.f⟩ from rfl] at HLe
            clear hM q0 q1 q2
            go_wp2
            go_roundw
            case rel => exact ⟨k + 1, by omega, by go_num, by rw [HLe.out]; exact hMn, by rw [HSe.out]; exact hownP _ _, hbP _ _⟩
            case measure => simp [intOf]; omega
          by_cases c4 : N = 4
          · subst c4
            have hMn := hM.s2 _ _ q2
            rw [show addLp L 4 = ⟨L.o, L.t, L.f + 1⟩ from rfl] at HLe
            clear hM q0 q1 q2
            go_wp2
            go_roundw
            case rel => exact ⟨k + 1, by omega, by go_num, by rw [HLe.out]; exact hMn, by rw [HSe.out]; exact hownP _ _, hbP _ _⟩
            case measure => simp [intOf]; omega
          · rw [show addLp L N = L from by unfold addLp; rw [if_neg c1, if_neg c2, if_neg c4]] at HLe
            have d1 : ((N : Int) == 1) = false := by simpa using (by omega : ¬ (N : Int) = 1)
            have d2 : ((N : Int) == 2) = false := by simpa using (by omega : ¬ (N : Int) = 2)
            have d4 : ((N : Int) == 4) = false := by simpa using (by omega : ¬ (N : Int) = 4)
            clear q0 q1 q2
            go_wp2
            go_roundw
            case rel => exact ⟨k + 1, by omega, by go_num, by rw [HLe.out]; exact hM, by rw [HSe.out]; exact hown, hbw⟩
            case measure => simp [intOf]; omega
    · have e : k = s.length := by omega
      subst e
      rw [show lpOf (lensK s s.length).1 = loopsN s from rfl] at hM
      have hki : ¬ (s.length : Int) < (s.length : Int) := by omega
      obtain ⟨⟨p0, p1, p2⟩, y0, y1, y2⟩ := hM
      obtain ⟨⟨z0, z1, z2⟩, x0, x1, x2⟩ := hM0.chg (show Chg (fun i => ¬ i < w.heap.size + 1) w2 wr from ⟨hbw.os, hbw.tape, hbw.output, hbw.size, fun j _ hj => hbw.block j (by omega)⟩) (by omega) (by omega)
      clear hown
      go_wp2
      refine bodyPost_ret (v := .agg #[.int .i64 (loopsN s).o, .int .i64 (loopsN s).t, .int .i64 (loopsN s).f]) (by simp [results, Tryd.results82, go_sem, z0, z1, z2]) rfl ⟨rfl, ?_⟩
      exact (((hb2.trans (hbw.mono (by omega))).setCell (Nat.le_refl _) _).setCell (Nat.le_refl _) _).setCell (Nat.le_refl _) _
end Go.Proofs.YtbcbaaapogejiaaDoor
