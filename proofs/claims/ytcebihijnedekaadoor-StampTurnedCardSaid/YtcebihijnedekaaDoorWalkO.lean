/-
  The walk of balanced.
-/
import Derived.Test.YtcebihijnedekaaDoorWalkN
import Derived.Test.YtcebihijnedekaaDoorWalkL
import Derived.ChangeKeysEq
namespace Go.Proofs.YtcebihijnedekaaDoor
open Go.RowKit

theorem under112 : Tryd.prog.underlying 112 = some (.array 6 3) := Tryd.underlying112
theorem cells3 : Tryd.prog.cellsOf 3 = 1 := by kernel_rfl
theorem plain3 : Tryd.prog.plainKey 3 = true := by kernel_rfl

theorem item_step (w : World) (xs ys : Array Value) (i : Nat) (is : List Nat) (a b : Int) (h1 : xs[i]? = some (.int .i64 a)) (h2 : ys[i]? = some (.int .i64 b)) :
    (Op.eqItems 9999 3 1 xs ys (i :: is)).run Tryd.prog w = if a = b then (Op.eqItems 9999 3 1 xs ys is).run Tryd.prog w else .ok false w := by
  have p1 := run_part_plain w plain3 h1
  have p2 := run_part_plain w plain3 h2
  have e := run_equalIn_int w 9998 3 .i64 .i64 a b Tryd.underlying3
  simp only [Op.eqItems, Nat.mul_one, Sem.run_bind, p1, p2, e, Result.andThen_ok]
  by_cases h : a = b <;> simp [h]

theorem eq6 (w : World) (m0 m1 m2 m3 m4 m5 : Int) : (Op.equalIn 10000 112 (.agg #[.int .i64 m0, .int .i64 m1, .int .i64 m2, .int .i64 m3, .int .i64 m4, .int .i64 m5]) (.agg #[.int .i64 0, .int .i64 0, .int .i64 0, .int .i64 0, .int .i64 0, .int .i64 0])).run Tryd.prog w =
    .ok (decide (m0 = 0 ∧ m1 = 0 ∧ m2 = 0 ∧ m3 = 0 ∧ m4 = 0 ∧ m5 = 0)) w := by
  obtain ⟨i, hi, _, _, _⟩ := info_parts info3
  rw [run_equalIn_array w 9999 _ _ under112 hi, cells3, show List.range 6 = [0, 1, 2, 3, 4, 5] from rfl,
    item_step w _ _ 0 _ m0 0 rfl rfl, item_step w _ _ 1 _ m1 0 rfl rfl, item_step w _ _ 2 _ m2 0 rfl rfl, item_step w _ _ 3 _ m3 0 rfl rfl, item_step w _ _ 4 _ m4 0 rfl rfl, item_step w _ _ 5 _ m5 0 rfl rfl]
  by_cases h0 : m0 = 0 <;> by_cases h1 : m1 = 0 <;> by_cases h2 : m2 = 0 <;> by_cases h3 : m3 = 0 <;> by_cases h4 : m4 = 0 <;> by_cases h5 : m5 = 0 <;> simp [h0, h1, h2, h3, h4, h5, Op.eqItems]

theorem grown_alloc {a w : World} {row : Option Nat} (h : a.grownBy w row) (o : Obj) : a.grownBy (w.alloc o) row :=
  ⟨h.os, h.tape, h.output, Nat.le_trans h.size (by simp), fun i hi hne => (Below.heap_alloc w o i (Nat.lt_of_lt_of_le hi h.size)).trans (h.block i hi hne)⟩
theorem grown_setCell {a w : World} {g : Nat} (h : a.grownBy w (some g)) {p : Addr} (hp : p.block = g) (u : Value) : a.grownBy (w.setCell p u) (some g) :=
  ⟨h.os, h.tape, h.output, by simpa [World.setCell] using h.size, fun i hi hne => (Below.heap_setCell w p u i (by rintro rfl; exact hne (by rw [hp]))).trans (h.block i hi hne)⟩

set_option maxRecDepth 100000 in
set_option maxHeartbeats 2000000 in
theorem balanced_any (rooms : Nat) (A D : Option Addr) (c d : Nat) (ws : List Wy) (fl : List Int) (w : World) (hv : ValB rooms ws) (hne : ∀ x ∈ ws, x.src ≠ x.dst) (hl : fl.length = ws.length) (hf : ∀ f ∈ fl, 0 ≤ f ∧ f ≤ 99)
    (hw : WaysAt w w.heap.size A ws) (hd : IntsAt w w.heap.size D fl) :
    Calls Tryd.prog 62 #[.agg #[.int .i64 rooms, .slice A ws.length c], .slice D fl.length d] w fun e w' => e = .returned (.bool (balS ws fl)) ∧ Below w.heap.size w w' := by
  have hlen := hv.len
  have hr6 := hv.r6
  go_enter Tryd.func62, Tryd.ntmps62
  go_wp2
  obtain ⟨W0, hW0⟩ : ∃ W0, W0 = (w.alloc (.cells #[.int .i64 rooms, .slice A ws.length c] 24)).alloc (.cells #[.int .i64 0, .int .i64 0, .int .i64 0, .int .i64 0, .int .i64 0, .int .i64 0] 112) := ⟨_, rfl⟩
  have hz0 : W0.heap.size = w.heap.size + 1 + 1 := by rw [hW0]; simp
  have hb0 : Below w.heap.size w W0 := by rw [hW0]; exact ((Below.refl w.heap.size w).alloc (Nat.le_refl _) _).alloc (by simp) _
  have hc0 : W0.cell? ⟨w.heap.size, 0, none⟩ = some (.int .i64 rooms) := by rw [hW0]; simp [go_sem]
  have hc1 : W0.cell? ⟨w.heap.size, 1, none⟩ = some (.slice A ws.length c) := by rw [hW0]; simp [go_sem]
  have hf0 : ∀ r : Nat, r < 6 → W0.frozen? ⟨w.heap.size + 1, r, none⟩ = false := by intro r _; rw [hW0]; simp [go_sem]
  have ha0 : ∀ r : Nat, r < 6 → W0.cell? ⟨w.heap.size + 1, r, none⟩ = some (.int .i64 0) := by
    intro r hr; rw [hW0]
    match r, hr with
    | 0, _ | 1, _ | 2, _ | 3, _ | 4, _ | 5, _ => simp [go_sem]
  have hw0 := hw.below hb0 (Nat.le_refl _)
  have hd0 := hd.below hb0 (Nat.le_refl _)
  rw [← hW0]
  clear hW0 hw hd
  go_loopw [11] (fun i wr => ∃ k : Nat, k ≤ ws.length ∧ i = .int .i64 k ∧ (∀ r : Nat, r < 6 → wr.cell? ⟨w.heap.size + 1, r, none⟩ = some (.int .i64 (net r (ws.take k) (fl.take k)))) ∧ W0.grownBy wr (some (w.heap.size + 1)) ∧ (∀ r : Nat, r < 6 → wr.frozen? ⟨w.heap.size + 1, r, none⟩ = false)) (fun i _ => ws.length - (intOf i).toNat)
  case atStart => exact ⟨0, Nat.zero_le _, rfl, fun r hr => by rw [ha0 r hr]; rfl, World.grownBy.refl _ _, hf0⟩
  case round =>
    obtain ⟨k, hk, rfl, hcs, hgr, hfs⟩ := hrel
    have hgs := hgr.size
    have hbB : ∀ i, i < w.heap.size + 1 → ∀ o, wr.cell? ⟨i, o, none⟩ = W0.cell? ⟨i, o, none⟩ := fun i hi o => World.cell?_of_block (hgr.block i (by omega) (fun h => by injection h; omega))
    have d0 := (hbB w.heap.size (by omega) 0).trans hc0
    have d1 := (hbB w.heap.size (by omega) 1).trans hc1
    have hsz : w.heap.size + 1 < wr.heap.size := by omega
    by_cases hlt : k < ws.length
    · have hx : ws[k]? = some ws[k] := List.getElem?_eq_getElem hlt
      have hy : fl[k]? = some (fl[k]'(by omega)) := List.getElem?_eq_getElem (by omega)
      generalize ws[k] = x at hx
      generalize fl[k]'(by omega) = f at hy
      obtain ⟨b1, o1, rfl, hb1, h1, h2, h3, h4⟩ := hw0 k x hx
      obtain ⟨b2, o2, rfl, hb2, h5⟩ := hd0 k f hy
      have h1' := (hbB b1 (by omega) _).trans h1
      have h2' := (hbB b1 (by omega) _).trans h2
      have h3' := (hbB b1 (by omega) _).trans h3
      have h4' := (hbB b1 (by omega) _).trans h4
      have h5' := (hbB b2 (by omega) _).trans h5
      obtain ⟨⟨x1, x2⟩, ⟨x3, x4⟩, _⟩ := hv.way x (mem_of_get hx)
      have hsd := hne x (mem_of_get hx)
      obtain ⟨y1, y2⟩ := hf f (mem_of_get hy)
      have x2' : x.src < 6 := by omega
      have hb2' : b2 < wr.heap.size := by omega
      have hb1' : b1 < wr.heap.size := by omega
      have x4' : x.dst < 6 := by omega
      have nb := fun r => net_bound r (ws.take k) (fl.take k) (fun g hg => hf g (List.mem_of_mem_take hg))
      have hl12 : (ws.take k).length ≤ 12 := by rw [List.length_take]; omega
      have n1 := nb x.src
      have n2 := nb x.dst
      have c1 := hcs x.src.toNat (by omega)
      have c2 := hcs x.dst.toNat (by omega)
      rw [Int.toNat_of_nonneg x1] at c1
      rw [Int.toNat_of_nonneg x3] at c2
      have e1 := hfs x.src.toNat (by omega)
      have e2 := hfs x.dst.toNat (by omega)
      have hki : (k : Int) < (fl.length : Int) := by omega
      have hnn : ¬ x.src.toNat = x.dst.toNat := by omega
      have NT := fun r => Lib.hid (net_take r ws fl k x f hx hy)
      have HCS := Lib.hid hcs
      have HFS := Lib.hid hfs
      generalize hn1 : net x.src (ws.take k) (fl.take k) = m1 at c1 n1
      generalize hn2 : net x.dst (ws.take k) (fl.take k) = m2 at c2 n2
      have m1b : -1188 ≤ m1 ∧ m1 ≤ 1188 := by omega
      have m2b : -1188 ≤ m2 ∧ m2 ≤ 1188 := by omega
      have HN1 := Lib.hid hn1
      have HN2 := Lib.hid hn2
      clear hx hy hn1 hn2 nb n1 n2 hl12 hbB hcs hfs hw0 hd0 h1 h2 h3 h4 h5 hc0 hc1 ha0 hf0 hz0
      go_wp2
      go_region
      go_wp2
      go_region
      go_wp2
      go_roundw
      case rel =>
        refine ⟨k + 1, by omega, by go_num, fun r hr => ?_, ?_, fun r hr => ?_⟩
        · rw [(NT r).out]
          by_cases t1 : r = x.dst.toNat
          · subst t1
            rw [Int.toNat_of_nonneg x3, HN2.out, if_pos rfl, if_neg hsd, Int.sub_zero]
            simp [go_sem, c2, hsz]
          · rw [if_neg (by omega : ¬ x.dst = (r : Int))]
            by_cases t2 : r = x.src.toNat
            · subst t2
              rw [Int.toNat_of_nonneg x1, HN1.out, if_pos rfl, show m1 + (0 - f) = m1 - f by omega]
              simp [go_sem, c1, hsz]
            · rw [if_neg (by omega : ¬ x.src = (r : Int)), Int.sub_self, Int.add_zero]
              simp [go_sem, hsz, HCS.out r hr]
        · exact grown_drew (grown_drew (grown_alloc (grown_setCell (grown_setCell hgr rfl _) rfl _) _))
        · simp [go_sem, hsz, HFS.out r hr]
      case measure => simp [intOf]; omega
    · have : k = ws.length := by omega
      subst this
      rw [List.take_length, ← hl, List.take_length] at hcs
      have hbn : Below w.heap.size w wr := hb0.grown hgr (by omega) (fun i hi => by injection hi; omega)
      have c0 := hcs 0 (by omega)
      have c1 := hcs 1 (by omega)
      have c2 := hcs 2 (by omega)
      have c3 := hcs 3 (by omega)
      have c4 := hcs 4 (by omega)
      have c5 := hcs 5 (by omega)
      simp only [Int.cast_ofNat_Int] at c0 c1 c2 c3 c4 c5
      generalize hm0 : net 0 ws fl = m0 at c0
      generalize hm1 : net 1 ws fl = m1 at c1
      generalize hm2 : net 2 ws fl = m2 at c2
      generalize hm3 : net 3 ws fl = m3 at c3
      generalize hm4 : net 4 ws fl = m4 at c4
      generalize hm5 : net 5 ws fl = m5 at c5
      have HB := Lib.hid (show balS ws fl = decide (m0 = 0 ∧ m1 = 0 ∧ m2 = 0 ∧ m3 = 0 ∧ m4 = 0 ∧ m5 = 0) by unfold balS; rw [hm0, hm1, hm2, hm3, hm4, hm5])
      clear hcs hfs hbB ha0 hf0 hw0 hd0 hc0 hc1 hm0 hm1 hm2 hm3 hm4 hm5
      have h6 := fun W => eq6 W m0 m1 m2 m3 m4 m5
      generalize decide (m0 = 0 ∧ m1 = 0 ∧ m2 = 0 ∧ m3 = 0 ∧ m4 = 0 ∧ m5 = 0) = R at HB h6
      go_wp2
      go_ret
      exact ⟨by rw [HB.out]; rfl, hbn⟩
end Go.Proofs.YtcebihijnedekaaDoor
