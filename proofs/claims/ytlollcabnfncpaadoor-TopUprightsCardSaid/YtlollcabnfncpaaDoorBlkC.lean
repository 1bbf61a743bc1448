/-
  The walk of the cuts of a part.
-/
import Derived.Test.YtlollcabnfncpaaDoorBlkB
import Derived.Deep.RegionHeld3
namespace Go.Proofs.YtlollcabnfncpaaDoor
open Go.RowKit

/-- Two rows of spans of the call's own, apart from each other. -/
structure Two (W0 : World) (w : World) (v u : Value) (l m : List (Int × Int)) : Prop where
  own1 : w.ownsRow W0.heap.size 115 2 v l.length (spancells l)
  own2 : w.ownsRow W0.heap.size 115 2 u m.length (spancells m)
  apart : ∀ g, v.ownBlock = some g → u.ownBlock ≠ some g
  below : Below W0.heap.size W0 w

theorem Two.swap {W0 w : World} {v u : Value} {l m : List (Int × Int)} (h : Two W0 w v u l m) : Two W0 w u v m l := ⟨h.own2, h.own1, fun g h1 h2 => h.apart g h2 h1, h.below⟩
theorem Two.alloc {W0 w : World} {v u : Value} {l m : List (Int × Int)} (h : Two W0 w v u l m) (o : Obj) : Two W0 (w.alloc o) v u l m := ⟨h.own1.alloc _, h.own2.alloc _, h.apart, h.below.alloc h.below.size _⟩
theorem Two.drew {W0 w : World} {v u : Value} {l m : List (Int × Int)} (h : Two W0 w v u l m) : Two W0 w.drew v u l m := ⟨h.own1, h.own2, h.apart, h.below.drew⟩
theorem Two.push {W0 w w' : World} {v u : Value} {l m : List (Int × Int)} {x : Int × Int} {g c : Nat} (h : Two W0 w v u l m) (ho : w'.ownsRow W0.heap.size 115 2 (.slice (some ⟨g, 0, none⟩) (l.length + 1) c) (l.length + 1) (spancells (l ++ [x]))) (hg : w.grownBy w' v.ownBlock) (hat : v.ownBlock = some g ∨ g = w.heap.size) :
    Two W0 w' (.slice (some ⟨g, 0, none⟩) (l.length + 1) c) u (l ++ [x]) m := by
  refine ⟨by rw [List.length_append]; exact ho, (Chg.of_grown hg).own h.own2 (fun i hi e => h.apart i e.symm hi), ?_, h.below.grown hg h.below.size (fun g' hg' => (h.own1.lt g' hg').1)⟩
  intro i hi hu
  have hi' : g = i := Option.some.inj hi
  subst hi'
  rcases hat with h1 | h1
  · exact h.apart _ h1 hu
  · have := (h.own2.lt g hu).2
    omega

theorem Two.far {W0 w : World} {v u : Value} {l m : List (Int × Int)} (h : Two W0 w v u l m) : ∀ i, w.heap.size ≤ i → v.ownBlock ≠ some i := fun i hi e => absurd (h.own1.lt i e).2 (by omega)

/-- At a step of a region: a span is appended to the first row, or to the second. -/
theorem step_two {ops : Array Oper} {o : Oper} {a : Act} {K : Act → World → Prop} {Q : Exit → Act → World → Prop} {E : Prop} (W0 W : World) (hgd : o.guard = none) (s x : Operand)
    (ho : o.op = .call { callee := .builtin .append, args := #[s, x], argTypes := #[165, 165] }) (B : Nat) (v u : Value) (l m : List (Int × Int)) (y : Int × Int) (hT : Two W0 W v u l m) (hs : a.eval s = v)
    (hx : a.eval x = .slice (some ⟨B, 0, none⟩) 1 1) (hB : W.heap[B]? = some (.cells #[.int .i64 y.1, .int .i64 y.2] 115 (0, 0))) (hk : l.length < 1000000)
    (h : ∀ g c w', Two W0 w' (.slice (some ⟨g, 0, none⟩) (l.length + 1) c) u (l ++ [y]) m → (∀ i o, W.heap[i]? = some o → v.ownBlock ≠ some i → w'.heap[i]? = some o) → K (a.put o.dst (.slice (some ⟨g, 0, none⟩) (l.length + 1) c)) w') :
    if Region.wanted o (yielded ops a.tmps) = true then Oper.wp Tryd.prog o a W K Q else E := by
  refine step_append_span W hgd s x ho W0.heap.size l.length B v l y hs hT.own1 hx hB hk hT.below.size ?_
  intro g c w' h1 h2 h3
  exact h g c w' (hT.push h1 h2 h3) fun i o hi hn => (Chg.of_grown h2).heap hi (fun e => hn e.symm)

/-- The cuts of a part are handed back. -/
def RetCuts (w : World) (p : Bl) (l : List Bl) (e : Ending) (w' : World) : Prop := ∃ A c A' c', e = .returned (.tuple #[.slice A (gapL p.a p.b (rowsB l)).length c, .slice A' (gapL p.c p.d (colsB l)).length c']) ∧
  IntsAt w' w'.heap.size A (gapL p.a p.b (rowsB l)) ∧ IntsAt w' w'.heap.size A' (gapL p.c p.d (colsB l)) ∧ Below w.heap.size w w'

set_option maxRecDepth 100000 in
set_option maxHeartbeats 4000000 in
theorem cuts_any (p : Bl) (hp : p.Ok) (A : Option Addr) (c : Nat) (l : List Bl) (w : World) (hA : BlksAt w w.heap.size A l) (hn : l.length < 1000000) :
    Calls Tryd.prog 73 #[.agg #[.int .i64 p.a, .int .i64 p.b, .int .i64 p.c, .int .i64 p.d], .slice A l.length c] w (RetCuts w p l) := by
  go_enter Tryd.func73, Tryd.ntmps73
  go_wp2
  obtain ⟨W0, hW0⟩ : ∃ W0, W0 = w.alloc (.cells #[.int .i64 p.a, .int .i64 p.b, .int .i64 p.c, .int .i64 p.d] 117) := ⟨_, rfl⟩
  have hb0 : Below w.heap.size w W0 := by rw [hW0]; exact below_new _ _
  have hz0 : W0.heap.size = w.heap.size + 1 := by rw [hW0]; simp
  have p0 : W0.cell? ⟨w.heap.size, 0, none⟩ = some (.int .i64 p.a) := by rw [hW0]; simp [go_sem]
  have p1 : W0.cell? ⟨w.heap.size, 1, none⟩ = some (.int .i64 p.b) := by rw [hW0]; simp [go_sem]
  have p2 : W0.cell? ⟨w.heap.size, 2, none⟩ = some (.int .i64 p.c) := by rw [hW0]; simp [go_sem]
  have p3 : W0.cell? ⟨w.heap.size, 3, none⟩ = some (.int .i64 p.d) := by rw [hW0]; simp [go_sem]
  have HA := Lib.hid (hA.below hb0 (Nat.le_refl _))
  rw [← hW0]
  clear hW0 hA
  go_loopw [6, 7, 12] (fun v u i wr => ∃ k : Nat, k ≤ l.length ∧ i = .int .i64 k ∧ Two W0 wr v u (rowsB (l.take k)) (colsB (l.take k))) (fun _ _ i _ => l.length - (intOf i).toNat)
  case atStart => exact ⟨0, by omega, rfl, ⟨World.ownsRow_nil _ _ _ _, World.ownsRow_nil _ _ _ _, by simp [Value.ownBlock], Below.refl _ _⟩⟩
  case round =>
    obtain ⟨k, hk, rfl, T0⟩ := hrel
    have hbr := T0.below
    have hzr := hbr.size
    by_cases hlt : k < l.length
    · have hx : l[k]? = some l[k] := List.getElem?_eq_getElem hlt
      generalize l[k] = x at hx
      have HT := Lib.hid (take_snoc hx)
      obtain ⟨b, off, rfl, hb, d0, d1, d2, d3⟩ := HA.out k x hx
      replace d0 := (hbr.cell (p := ⟨b, _, none⟩) (by simp; omega)).trans d0
      replace d1 := (hbr.cell (p := ⟨b, _, none⟩) (by simp; omega)).trans d1
      replace d2 := (hbr.cell (p := ⟨b, _, none⟩) (by simp; omega)).trans d2
      replace d3 := (hbr.cell (p := ⟨b, _, none⟩) (by simp; omega)).trans d3
      have hbz : b < wr.heap.size := by omega
      clear hx
      go_wp2
      have hk6 : (rowsB (l.take k)).length < 1000000 := by unfold rowsB; rw [List.length_map, List.length_take]; omega
      have hk7 : (colsB (l.take k)).length < 1000000 := by unfold colsB; rw [List.length_map, List.length_take]; omega
      have hR : rowsB (l.take (k + 1)) = rowsB (l.take k) ++ [(x.a, x.b)] := by rw [HT.out]; unfold rowsB; rw [List.map_append]; rfl
      have hC : colsB (l.take (k + 1)) = colsB (l.take k) ++ [(x.c, x.d)] := by rw [HT.out]; unfold colsB; rw [List.map_append]; rfl
      have HR := Lib.hid hR
      have HC := Lib.hid hC
      clear hR hC
      generalize rowsB (l.take k) = lr at *
      generalize colsB (l.take k) = lc at *
      have T1 := (T0.alloc (.cells #[.int .i64 x.a, .int .i64 x.b, .int .i64 x.c, .int .i64 x.d] 117)).drew
      have K0 : (wr.alloc (.cells #[.int .i64 x.a, .int .i64 x.b, .int .i64 x.c, .int .i64 x.d] 117)).drew.heap[wr.heap.size]? = some (.cells #[.int .i64 x.a, .int .i64 x.b, .int .i64 x.c, .int .i64 x.d] 117 (0, 0)) := heap_alloc_new wr _
      have HK := Lib.hid (fun (W : World) (h : W.heap[wr.heap.size]? = some (.cells #[.int .i64 x.a, .int .i64 x.b, .int .i64 x.c, .int .i64 x.d] 117 (0, 0))) => show W.cell? ⟨wr.heap.size, 0, none⟩ = some (.int .i64 x.a) ∧ W.cell? ⟨wr.heap.size, 1, none⟩ = some (.int .i64 x.b) ∧ W.cell? ⟨wr.heap.size, 2, none⟩ = some (.int .i64 x.c) ∧ W.cell? ⟨wr.heap.size, 3, none⟩ = some (.int .i64 x.d) from ⟨cell_of_row W _ 0 _ _ _ h, cell_of_row W _ 1 _ _ _ h, cell_of_row W _ 2 _ _ _ h, cell_of_row W _ 3 _ _ _ h⟩)
      have KA := Lib.hid (fun (W : World) (o : Obj) (i : Nat) (p : Obj) (h : W.heap[i]? = some p) => (heap_alloc_old W o (lt_of_heap h)).trans h)
      have V6 := Lib.hid T0.far
      have V7 := Lib.hid T0.swap.far
      clear hb d0 d1 d2 d3 hbr
      go_region_held3 (fun w' => w'.cell? ⟨wr.heap.size, 0, none⟩ = some (.int .i64 x.a) ∧ w'.cell? ⟨wr.heap.size, 1, none⟩ = some (.int .i64 x.b) ∧ w'.cell? ⟨wr.heap.size, 2, none⟩ = some (.int .i64 x.c) ∧ w'.cell? ⟨wr.heap.size, 3, none⟩ = some (.int .i64 x.d))
        (first
          | exact HK.out _ (by assumption)
          | exact HK.out _ (KA.out _ _ _ _ (by assumption))
          | exact HK.out _ (KA.out _ _ _ _ (KA.out _ _ _ _ (by assumption))))
        (first
          | (refine step_two W0 _ rfl _ _ rfl _ _ _ _ _ (x.a, x.b) (by first | exact T7 | exact T7.alloc _ | exact (T7.alloc _).alloc _ | exact T1.alloc _ | exact (T1.alloc _).alloc _) rfl rfl (by first | exact heap_at _ _ _ (by first | rfl | simp) | exact KA.out _ _ _ _ (heap_at _ _ _ (by first | rfl | simp)) | exact P7 _ _ (heap_at _ _ _ (by first | rfl | simp)) (V7.out _ (by omega)) | exact P7 _ _ (KA.out _ _ _ _ (heap_at _ _ _ (by first | rfl | simp))) (V7.out _ (by omega))) hk6 ?_; intro g6 c6 w6 T6 P6; have K6 := P6 wr.heap.size _ (by first | exact K7 | exact KA.out _ _ _ _ K7 | exact KA.out _ _ _ _ (KA.out _ _ _ _ K7) | exact KA.out _ _ _ _ K0 | exact KA.out _ _ _ _ (KA.out _ _ _ _ K0)) (V6.out _ (Nat.le_refl _)))
          | (refine step_two W0 _ rfl _ _ rfl _ _ _ _ _ (x.c, x.d) (by first | exact T6.swap | exact T6.swap.alloc _ | exact (T6.swap.alloc _).alloc _ | exact T1.swap.alloc _ | exact (T1.swap.alloc _).alloc _) rfl rfl (by first | exact heap_at _ _ _ (by first | rfl | simp) | exact KA.out _ _ _ _ (heap_at _ _ _ (by first | rfl | simp)) | exact P6 _ _ (heap_at _ _ _ (by first | rfl | simp)) (V6.out _ (by omega)) | exact P6 _ _ (KA.out _ _ _ _ (heap_at _ _ _ (by first | rfl | simp))) (V6.out _ (by omega))) hk7 ?_; intro g7 c7 w7 T7' P7; have T7 := T7'.swap; clear T7'; have K7 := P7 wr.heap.size _ (by first | exact K6 | exact KA.out _ _ _ _ K6 | exact KA.out _ _ _ _ (KA.out _ _ _ _ K6) | exact KA.out _ _ _ _ K0 | exact KA.out _ _ _ _ (KA.out _ _ _ _ K0)) (V7.out _ (Nat.le_refl _))))
      all_goals
        go_wp2
        go_roundw
        case rel => exact ⟨k + 1, by omega, by go_num, by rw [HR.out, HC.out]; first | simpa using T7 | simpa using T6⟩
        case measure => simp [intOf]; omega
    · have e : l.take k = l := List.take_of_length_le (by omega)
      rw [e] at T0
      obtain ⟨A6, c6, hv6, hA6, _⟩ := own_spans T0.own1
      obtain ⟨A7, c7, hv7, hA7, _⟩ := own_spans T0.own2
      subst hv6 hv7
      have q0 := (hbr.cell (p := ⟨w.heap.size, 0, none⟩) (by simp; omega)).trans p0
      have q1 := (hbr.cell (p := ⟨w.heap.size, 1, none⟩) (by simp; omega)).trans p1
      have q2 := (hbr.cell (p := ⟨w.heap.size, 2, none⟩) (by simp; omega)).trans p2
      have q3 := (hbr.cell (p := ⟨w.heap.size, 3, none⟩) (by simp; omega)).trans p3
      have hk6 : (rowsB l).length < 1000000 := by unfold rowsB; rw [List.length_map]; omega
      have hk7 : (colsB l).length < 1000000 := by unfold colsB; rw [List.length_map]; omega
      have HB := Lib.hid (hb0.trans (hbr.mono (by omega)))
      obtain ⟨h1, h2, h3, h4⟩ := hp
      have hzw : w.heap.size < wr.heap.size := by omega
      have HK := Lib.hid (fun (W : World) (h : Below wr.heap.size wr W) => show Below wr.heap.size wr W ∧ W.cell? ⟨w.heap.size, 0, none⟩ = some (.int .i64 p.a) ∧ W.cell? ⟨w.heap.size, 1, none⟩ = some (.int .i64 p.b) ∧ W.cell? ⟨w.heap.size, 2, none⟩ = some (.int .i64 p.c) ∧ W.cell? ⟨w.heap.size, 3, none⟩ = some (.int .i64 p.d) from
        ⟨h, (h.cell (p := ⟨w.heap.size, 0, none⟩) hzw).trans q0, (h.cell (p := ⟨w.heap.size, 1, none⟩) hzw).trans q1, (h.cell (p := ⟨w.heap.size, 2, none⟩) hzw).trans q2, (h.cell (p := ⟨w.heap.size, 3, none⟩) hzw).trans q3⟩)
      have HG6 := Lib.hid (fun W (Q : Ending → World → Prop) (h : Below wr.heap.size wr W) (hQ : ∀ B d w', IntsAt w' w'.heap.size B (gapL p.a p.b (rowsB l)) → Below wr.heap.size wr w' → w'.heap.size ≤ w'.heap.size → Q (.returned (.slice B (gapL p.a p.b (rowsB l)).length d)) w') =>
        (gaps_any p.a p.b A6 c6 (rowsB l) W h1 h2 (hA6.up h) hk6).mono fun e w' ⟨B, d, he, hi, hb⟩ => he ▸ hQ B d w' hi (h.trans (hb.mono h.size)) (Nat.le_refl _))
      have HG7 := Lib.hid (fun W (Q : Ending → World → Prop) (h : Below wr.heap.size wr W) (hQ : ∀ B d w', IntsAt w' w'.heap.size B (gapL p.c p.d (colsB l)) → Below wr.heap.size wr w' → Below W.heap.size W w' → Q (.returned (.slice B (gapL p.c p.d (colsB l)).length d)) w') =>
        (gaps_any p.c p.d A7 c7 (colsB l) W h3 h4 (hA7.up h) hk7).mono fun e w' ⟨B, d, he, hi, hb⟩ => he ▸ hQ B d w' hi (h.trans (hb.mono h.size)) hb)
      have hbd : Below wr.heap.size wr wr.drew := (Below.refl _ _).drew
      clear T0 hA6 hA7 hbr e HA h1 h2 h3 h4
      generalize hlr : rowsB l = lr at *
      generalize hlc : colsB l = lc at *
      have HLR := Lib.hid hlr
      have HLC := Lib.hid hlc
      clear hlr hlc
      go_wp2
      go_region_held3 (fun w' => Below wr.heap.size wr w' ∧ w'.cell? ⟨w.heap.size, 0, none⟩ = some (.int .i64 p.a) ∧ w'.cell? ⟨w.heap.size, 1, none⟩ = some (.int .i64 p.b) ∧ w'.cell? ⟨w.heap.size, 2, none⟩ = some (.int .i64 p.c) ∧ w'.cell? ⟨w.heap.size, 3, none⟩ = some (.int .i64 p.d))
        (exact HK.out _ (by assumption))
        (first
          | (go_at_call 112; with_reducible refine HG6.out _ _ (by assumption) ?_; intro A8 c8 w8 hA8 hb8 _)
          | (go_at_call 112; with_reducible refine HG7.out _ _ (by assumption) ?_; intro A9 c9 w9 hA9 hb9 hB9))
      go_wp2
      go_ret2
      refine ⟨A8, c8, A9, c9, ?_, ?_, ?_, HB.out.trans (hb9.mono (by omega))⟩
      · rw [HLR.out, HLC.out]; rfl
      · rw [HLR.out]; exact hA8.up hB9
      · rw [HLC.out]; exact hA9
end Go.Proofs.YtlollcabnfncpaaDoor
