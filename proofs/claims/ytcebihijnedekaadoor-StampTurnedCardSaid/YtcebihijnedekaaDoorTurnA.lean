/-
  Helpers for the statement on turned books: make of ways in a region that draws its order, the closure that turns a room, and what the books answer.
-/
import Derived.Test.YtcebihijnedekaaDoorMoreA
import Derived.Test.YtcebihijnedekaaDoorMathL
namespace Go.Proofs.YtcebihijnedekaaDoor
open Go.RowKit

theorem wcells_zero (n : Nat) : (madeCells (Value.cells (.agg #[.int .i64 0, .int .i64 0, .int .i64 0, .int .i64 0])) (n * 4)).toList = wcells (List.replicate n ⟨0, 0, 0, 0⟩) := by
  refine List.ext_getElem (by rw [wcells_len, List.length_replicate, Array.length_toList, size_madeCells]) fun i h1 h2 => ?_
  rw [Array.length_toList, size_madeCells] at h1
  have hk : (List.replicate n (⟨0, 0, 0, 0⟩ : Wy))[i / 4]? = some ⟨0, 0, 0, 0⟩ := by rw [List.getElem?_replicate, if_pos (by omega)]
  obtain ⟨g1, g2, g3, g4⟩ := wcells_get _ _ _ hk
  have hm : i = i / 4 * 4 ∨ i = i / 4 * 4 + 1 ∨ i = i / 4 * 4 + 2 ∨ i = i / 4 * 4 + 3 := by omega
  have e : (madeCells (Value.cells (.agg #[.int .i64 0, .int .i64 0, .int .i64 0, .int .i64 0])) (n * 4)).toList[i]'(by simpa [size_madeCells] using h1) = .int .i64 0 := by
    simp only [madeCells, Value.cells, Array.toList_map, List.getElem_map, Array.getElem_toList, Array.getElem_range]
    have : i % 4 = 0 ∨ i % 4 = 1 ∨ i % 4 = 2 ∨ i % 4 = 3 := by omega
    rcases this with h | h | h | h <;> simp [h]
  rw [e]
  have e2 : (wcells (List.replicate n (⟨0, 0, 0, 0⟩ : Wy)))[i]? = some (.int .i64 0) := by
    rcases hm with hm | hm | hm | hm <;> rw [hm]
    · exact g1
    · exact g2
    · exact g3
    · exact g4
  rw [List.getElem?_eq_getElem h2] at e2
  exact (Option.some.inj e2).symm

theorem step_make {ops : Array Oper} {o : Oper} {ac : Act} {K : Act → World → Prop} {Q : Exit → Act → World → Prop} {E : Prop} {W : World} (hgd : o.guard = none) (l c : Operand) (hop : o.op = Op.makeSlice 22 l c)
    (base n : Nat) (hl : ac.eval l = .int .i64 (n : Nat)) (hc : ac.eval c = .int .i64 (n : Nat)) (hn : n ≤ 100) (hbase : base ≤ W.heap.size)
    (h : ∀ w', w'.ownsRow base 74 4 (.slice (some ⟨W.heap.size, 0, none⟩) n n) n (wcells (List.replicate n ⟨0, 0, 0, 0⟩)) → W.grownBy w' none → K (ac.put o.dst (.slice (some ⟨W.heap.size, 0, none⟩) n n)) w') :
    if Region.wanted o (yielded ops ac.tmps) = true then Oper.wp Tryd.prog o ac W K Q else E := by
  obtain ⟨i0, hi, hz0, hz1, hz2⟩ := info_parts info74
  have hwt : Region.wanted o (yielded ops ac.tmps) = true := by simp [Region.wanted, hgd]
  rw [if_pos hwt]
  obtain ⟨w', hrun, r1, r2⟩ := run_make_full (P := Tryd.prog) W base 22 74 i0 (.agg #[.int .i64 0, .int .i64 0, .int .i64 0, .int .i64 0]) 4 Tryd.underlying22 hi hz0 hz1 .i64 .i64 n (by rw [hz2]; omega) (by unfold maxLen; omega) hbase
  rw [wcells_zero] at r1
  unfold Oper.wp
  simp [execOp, hop, hl, hc, hrun, Result.andThen]
  exact h w' r1 r2

theorem wcells_put : ∀ (us : List Wy) (j : Nat) (y : Wy), j < us.length → wcells (us.set j y) = ((((wcells us).set (j * 4) (.int .i64 y.src)).set (j * 4 + 1) (.int .i64 y.dst)).set (j * 4 + 2) (.int .i64 y.lo)).set (j * 4 + 3) (.int .i64 y.hi)
  | [], _, _, h => by simp at h
  | u :: us, 0, y, _ => by simp [wcells]
  | u :: us, j + 1, y, h => by
    have ih := wcells_put us j y (by simpa using h)
    rw [show (j + 1) * 4 + 3 = (j * 4 + 3) + 1 + 1 + 1 + 1 by omega, show (j + 1) * 4 + 2 = (j * 4 + 2) + 1 + 1 + 1 + 1 by omega, show (j + 1) * 4 + 1 = (j * 4 + 1) + 1 + 1 + 1 + 1 by omega, show (j + 1) * 4 = (j * 4) + 1 + 1 + 1 + 1 by omega]
    simp only [List.set_cons_succ, wcells, ih]

set_option maxHeartbeats 400000 in
/-- The closure turns a room. -/
theorem to49 (x a R : Int) (g5 g11 : Nat) (w : World) (h5 : w.cell? ⟨g5, 0, none⟩ = some (.int .u8 a)) (h11 : w.cell? ⟨g11, 0, none⟩ = some (.int .i64 R)) (hx : 0 ≤ x ∧ x ≤ 100) (ha : 0 ≤ a ∧ a ≤ 255) (hR : 3 ≤ R ∧ R ≤ 7) :
    Calls Tryd.prog 49 #[.int .i64 x, .pointer (some ⟨g5, 0, none⟩), .pointer (some ⟨g11, 0, none⟩)] w fun e w' => e = .returned (.int .i64 ((x + a) % R)) ∧ w = w' := by
  have h1 : IntKind.i64.wrap a = a := IntWalk.i64_in _ (by omega)
  have h2 : IntKind.i64.wrap (x + a) = x + a := IntWalk.i64_in _ (by omega)
  have h3 : (x + a).tmod R = (x + a) % R := Int.tmod_eq_emod_of_nonneg (by omega)
  have h4 : ¬ R = 0 := by omega
  have hm1 := Int.emod_nonneg (x + a) h4
  have hm2 := Int.emod_lt_of_pos (x + a) (by omega : 0 < R)
  have h6 : IntKind.i64.wrap ((x + a) % R) = (x + a) % R := IntWalk.i64_in _ (by omega)
  go_enter Tryd.func49, Tryd.ntmps49
  go_wp2
  go_ret
  exact ⟨rfl, rfl⟩

def LostC (rooms n : Nat) (ws : List Wy) : Prop := ∀ A c W, WaysAt W W.heap.size A ws → SizesAt W → Calls Tryd.prog 35 #[.agg #[.int .i64 rooms, .slice A n c]] W fun e w' => ∃ A' c', e = .returned (.tuple #[.slice A' 0 c', .int .i64 12]) ∧ Below W.heap.size W w'
def OkC (rooms n : Nat) (ws : List Wy) (sp : List (Int × Int)) : Prop := ∀ A c W, WaysAt W W.heap.size A ws → SizesAt W → Calls Tryd.prog 35 #[.agg #[.int .i64 rooms, .slice A n c]] W (RetPairsM W n sp)

/-- What Spans answers of books and of the turned ones: neither agrees, or the spans are the same. -/
def TurnF (rooms R1 : Nat) (ws us : List Wy) (s : Nat) : Prop :=
  (LostC rooms ws.length ws ∧ LostC R1 ws.length us) ∨ ∃ sp sp2 : List (Int × Int), sp.length = ws.length ∧ (∀ (j : Nat) p, sp[j]? = some p → sp2[(j + s) % ws.length]? = some p) ∧
    (∀ r : Int, (stT r ws ws.length).2.2 = true → 0 ≤ (stT r ws ws.length).1 → 0 ≤ (stT r ws ws.length).2.1 → ∃ (i o : Nat) (p : Int × Int), (stT r ws ws.length).1 = i ∧ (stT r ws ws.length).2.1 = o ∧ sp[i]? = some p ∧ sp[o]? = some p) ∧
    OkC rooms ws.length ws sp ∧ OkC R1 ws.length us sp2

theorem turnF_holds {rooms R1 : Nat} {ws us : List Wy} {a : Int} {s : Nat} {back : Bool} (hR1 : R1 = rooms + 1) (hr : rooms = 2 ∨ rooms = 3 ∨ rooms = 4) (hch : chk rooms ws = 0) (hv : ValB rooms ws) (hsd : ∀ x ∈ ws, x.src ≠ x.dst) (hl : us.length = ws.length)
    (h : ∀ (i : Nat) (x : Wy), ws[i]? = some x → us[(i + s) % ws.length]? = some (turn (R1 : Int) a back x)) : TurnF rooms R1 ws us s := by
  subst hR1
  obtain ⟨hvu, hou, hag, hsp⟩ := turn_facts hr hv.inW hv.okW hl h
  have hR : ((rooms : Int) + 1) = 3 ∨ ((rooms : Int) + 1) = 4 ∨ ((rooms : Int) + 1) = 5 := by omega
  have hchu : chk ((rooms + 1 : Nat) : Int) us = 0 := chk_of (rooms := rooms + 1) (by omega) (by omega) (by have := hv.len; omega) fun y hy => by
    have h1 := hvu y hy
    obtain ⟨j, hj, hjy⟩ := List.mem_iff_getElem.1 hy
    obtain ⟨i, hi, e⟩ := rotR_at (n := ws.length) (s := s) (j := j) (by omega)
    have h2 := h i ws[i] (List.getElem?_eq_getElem hi)
    rw [e, List.getElem?_eq_getElem hj, hjy] at h2
    have h3 := hv.way ws[i] (List.getElem_mem hi)
    have h4 := hsd ws[i] (List.getElem_mem hi)
    generalize ws[i] = x at h2 h3 h4
    obtain rfl := Option.some.inj h2
    have h5 := mod_inj (a := a) hR (s := x.src) (r := x.dst) (by omega) (by omega)
    refine ⟨h1.1, h1.2, ?_, ?_⟩
    · show (turn ((rooms : Int) + 1) a back x).src ≠ (turn ((rooms : Int) + 1) a back x).dst
      cases back
      · exact fun e => h4 (h5.1 e)
      · exact fun e => h4 (h5.1 e.symm)
    · cases back <;> exact ⟨h3.2.2.1, h3.2.2.2.1, h3.2.2.2.2⟩
  cases hg : agrS rooms ws with
  | false =>
    have hgu : agrS (rooms + 1) us = false := by
      cases hq : agrS (rooms + 1) us with
      | false => rfl
      | true => rw [(agrS_iff hv.inW).2 (hag.1 ((agrS_iff hvu).1 hq))] at hg; cases hg
    exact .inl ⟨fun A c W hW hT => spans_lost hch hg A c ws.length W rfl hW hT, fun A c W hW hT => spans_lost hchu hgu A c ws.length W hl hW hT⟩
  | true =>
    have ha := (agrS_iff hv.inW).1 hg
    have hgu := (agrS_iff hvu).2 (hag.2 ha)
    refine .inr ⟨ws.map (spanS rooms ws), us.map (spanS (rooms + 1) us), by simp, fun j p hp => ?_, fun r h1 h2 h3 => stT_span hv.inW hv.okW ha h1 h2 h3, fun A c W hW hT => spans_ok hch hg A c ws.length W rfl hW hT, fun A c W hW hT => spans_ok hchu hgu A c ws.length W hl hW hT⟩
    rw [List.getElem?_map] at hp
    cases hx : ws[j]? with
    | none => rw [hx] at hp; cases hp
    | some x =>
      rw [hx] at hp
      cases hp
      rw [List.getElem?_map, h j x hx, ← hsp ha j x hx]
      rfl
end Go.Proofs.YtcebihijnedekaaDoor
