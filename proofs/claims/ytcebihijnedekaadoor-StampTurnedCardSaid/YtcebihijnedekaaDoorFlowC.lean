/-
  The walk of what collects flows, where all numbers are given.
-/
import Derived.Test.YtcebihijnedekaaDoorFlowB
namespace Go.Proofs.YtcebihijnedekaaDoor
open Go.RowKit

theorem own_form {w : World} {base : Nat} {e : TypeId} {size : Nat} {v : Value} {n : Nat} {xs : List Value} (h : w.ownsRow base e size v n xs) : ∃ B cap, v = .slice B n cap := by
  rcases h.2 with ⟨rfl, rfl⟩ | ⟨g, cap, cur, rfl, _⟩
  · exact ⟨none, 0, rfl⟩
  · exact ⟨_, cap, rfl⟩

set_option maxRecDepth 100000 in
set_option maxHeartbeats 400000 in
theorem put_leaf (rooms : Nat) (A Aw : Option Addr) (c cw g1 g2 g lo : Nat) (ws : List Wy) (l : List Int) (all : List (List Int)) (v : Value) (w : World) (hv : ValB rooms ws) (hne : ∀ x ∈ ws, x.src ≠ x.dst) (hl : l.length = ws.length) (hf : ∀ f ∈ l, 0 ≤ f ∧ f ≤ 99)
    (hg1 : g1 < g) (hg : g < lo) (hlo : lo ≤ w.heap.size) (hc : w.cell? ⟨g1, 1, none⟩ = some (.slice Aw ws.length cw)) (hw : WaysAt w g Aw ws) (hst : St g lo w all v) (hA : IntsX w lo v.ownBlock A l) (hcap : l.length ≤ c) (hcnt : all.length ≤ 2000) :
    Calls Tryd.prog 85 #[.slice A l.length c, .pointer (some ⟨g1, 0, none⟩), .pointer (some ⟨g2, 0, none⟩), .pointer (some ⟨g, 0, none⟩)] w (PutPost g lo w (all ++ putS ws 0 l) v) := by
  have hlen := hv.len
  have hr6 := hv.r6
  rw [← hl] at hc
  have hd := hA.ints
  have HLE := Lib.hid hl
  have HCAP := Lib.hid hcap
  clear hcap
  have hll : l.length ≤ 12 := by omega
  have hgw : g < w.heap.size := by omega
  have hg1w : g1 < w.heap.size := by omega
  have hww := hw.mono (B' := w.heap.size) (by omega)
  have HST := Lib.hid hst
  have HIX := Lib.hid hA
  clear hl hw hst hA
  go_enter Tryd.func85, Tryd.ntmps85
  go_wp2
  obtain ⟨W0, hW0⟩ : ∃ W0, W0 = w.alloc (.cells #[.int .i64 0, .int .i64 0, .int .i64 0, .int .i64 0, .int .i64 0, .int .i64 0] 112) := ⟨_, rfl⟩
  have hz0 : W0.heap.size = w.heap.size + 1 := by rw [hW0]; simp
  have hb0 : Below w.heap.size w W0 := by rw [hW0]; exact (Below.refl w.heap.size w).alloc (Nat.le_refl _) _
  have hf0 : ∀ r : Nat, r < 6 → W0.frozen? ⟨w.heap.size, r, none⟩ = false := by intro r _; rw [hW0]; simp [go_sem]
  have ha0 : ∀ r : Nat, r < 6 → W0.cell? ⟨w.heap.size, r, none⟩ = some (.int .i64 0) := by
    intro r hr; rw [hW0]
    match r, hr with
    | 0, _ | 1, _ | 2, _ | 3, _ | 4, _ | 5, _ => simp [go_sem]
  have hw0 := hww.below hb0 (Nat.le_refl _)
  have hd0 := hd.below hb0 (Nat.le_refl _)
  have hc0 := (hb0.cell (p := ⟨g1, 1, none⟩) hg1w).trans hc
  rw [← hW0]
  clear hW0 hww hd hc
  go_loopw [40] (fun i wr => ∃ k : Nat, k ≤ l.length ∧ i = .int .i64 k ∧ (∀ r : Nat, r < 6 → wr.cell? ⟨w.heap.size, r, none⟩ = some (.int .i64 (net r (ws.take k) (l.take k)))) ∧ W0.grownBy wr (some w.heap.size) ∧ (∀ r : Nat, r < 6 → wr.frozen? ⟨w.heap.size, r, none⟩ = false)) (fun i _ => l.length - (intOf i).toNat)
  case atStart => exact ⟨0, Nat.zero_le _, rfl, fun r hr => by rw [ha0 r hr]; rfl, World.grownBy.refl _ _, hf0⟩
  case round =>
    obtain ⟨k, hk, rfl, hcs, hgr, hfs⟩ := hrel
    have hgs := hgr.size
    have hbB : ∀ i, i < w.heap.size → ∀ o, wr.cell? ⟨i, o, none⟩ = W0.cell? ⟨i, o, none⟩ := fun i hi o => World.cell?_of_block (hgr.block i (by omega) (fun h => by injection h; omega))
    have d1 := (hbB g1 hg1w 1).trans hc0
    have hsz : w.heap.size < wr.heap.size := by omega
    by_cases hlt : k < l.length
    · have hx : ws[k]? = some (ws[k]'(by have := HLE.out; omega)) := List.getElem?_eq_getElem (by have := HLE.out; omega)
      have hy : l[k]? = some l[k] := List.getElem?_eq_getElem hlt
      generalize ws[k]'(by have := HLE.out; omega) = x at hx
      generalize l[k] = f at hy
      obtain ⟨b1, o1, rfl, hb1, h1, h2, h3, h4⟩ := hw0 k x hx
      obtain ⟨b2, o2, rfl, hb2, h5⟩ := hd0 k f hy
      have h1' := (hbB b1 (by omega) _).trans h1
      have h2' := (hbB b1 (by omega) _).trans h2
      have h3' := (hbB b1 (by omega) _).trans h3
      have h4' := (hbB b1 (by omega) _).trans h4
      have h5' := (hbB b2 (by omega) _).trans h5
      obtain ⟨⟨x1, x2⟩, ⟨x3, x4⟩, _⟩ := hv.way x (mem_of_get hx)
      have hsd := hne x (mem_of_get hx)
      obtain ⟨y1, y2⟩ := hf f (mem_of_get hy)
      have x2' : x.src < 6 := by omega
      have hb2' : b2 < wr.heap.size := by omega
      have hb1' : b1 < wr.heap.size := by omega
      have hg1' : g1 < wr.heap.size := by omega
      have x4' : x.dst < 6 := by omega
      have nb := fun r => net_bound r (ws.take k) (l.take k) (fun g hg => hf g (List.mem_of_mem_take hg))
      have hl12 : (ws.take k).length ≤ 12 := by rw [List.length_take]; omega
      have n1 := nb x.src
      have n2 := nb x.dst
      have c1 := hcs x.src.toNat (by omega)
      have c2 := hcs x.dst.toNat (by omega)
      rw [Int.toNat_of_nonneg x1] at c1
      rw [Int.toNat_of_nonneg x3] at c2
      have e1 := hfs x.src.toNat (by omega)
      have e2 := hfs x.dst.toNat (by omega)
      have hki : (k : Int) < (l.length : Int) := by omega
      have hkw : (k : Int) < (ws.length : Int) := by have := HLE.out; omega
      have hnn : ¬ x.src.toNat = x.dst.toNat := by omega
      have NT := fun r => Lib.hid (net_take r ws l k x f hx hy)
      have HCS := Lib.hid hcs
      have HFS := Lib.hid hfs
      have HGR := Lib.hid hgr
      generalize hn1 : net x.src (ws.take k) (l.take k) = m1 at c1 n1
      generalize hn2 : net x.dst (ws.take k) (l.take k) = m2 at c2 n2
      have m1b : -1188 ≤ m1 ∧ m1 ≤ 1188 := by omega
      have m2b : -1188 ≤ m2 ∧ m2 ≤ 1188 := by omega
      have HN1 := Lib.hid hn1
      have HN2 := Lib.hid hn2
      clear hx hy hn1 hn2 nb n1 n2 hl12 hbB hcs hfs hw0 hd0 h1 h2 h3 h4 h5 ha0 hf0 hz0 hgr
      go_wp2
      go_roundw
      case rel =>
        refine ⟨k + 1, by omega, by go_num, fun r hr => ?_, ?_, fun r hr => ?_⟩
        · rw [(NT r).out]
          by_cases t1 : r = x.dst.toNat
          · subst t1
            rw [Int.toNat_of_nonneg x3, HN2.out, if_pos rfl, if_neg hsd, Int.sub_zero]
            simp [go_sem, c2]
          · rw [if_neg (by omega : ¬ x.dst = (r : Int))]
            by_cases t2 : r = x.src.toNat
            · subst t2
              rw [Int.toNat_of_nonneg x1, HN1.out, if_pos rfl, show m1 + (0 - f) = m1 - f by omega]
              simp [go_sem, c1]
            · rw [if_neg (by omega : ¬ x.src = (r : Int)), Int.sub_self, Int.add_zero]
              simp [go_sem, HCS.out r hr]
        · exact grown_setCell (grown_setCell HGR.out rfl _) rfl _
        · simp [go_sem, HFS.out r hr]
      case measure => simp [intOf]; omega
    · have : k = l.length := by omega
      subst this
      rw [List.take_length, HLE.out, List.take_length] at hcs
      have hbn : Below w.heap.size w wr := hb0.grown hgr (by omega) (fun i hi => by injection hi; omega)
      have c0 := hcs 0 (by omega)
      have c1 := hcs 1 (by omega)
      have c2 := hcs 2 (by omega)
      have c3 := hcs 3 (by omega)
      have c4 := hcs 4 (by omega)
      have c5 := hcs 5 (by omega)
      simp only [Int.cast_ofNat_Int] at c0 c1 c2 c3 c4 c5
      generalize hm0 : net 0 ws l = m0 at c0
      generalize hm1 : net 1 ws l = m1 at c1
      generalize hm2 : net 2 ws l = m2 at c2
      generalize hm3 : net 3 ws l = m3 at c3
      generalize hm4 : net 4 ws l = m4 at c4
      generalize hm5 : net 5 ws l = m5 at c5
      have hbal : balS ws l = decide (m0 = 0 ∧ m1 = 0 ∧ m2 = 0 ∧ m3 = 0 ∧ m4 = 0 ∧ m5 = 0) := by unfold balS; rw [hm0, hm1, hm2, hm3, hm4, hm5]
      clear hcs hfs hbB ha0 hf0 hw0 hd0 hc0 hm0 hm1 hm2 hm3 hm4 hm5
      have h6 := fun W => eq6 W m0 m1 m2 m3 m4 m5
      rw [← hbal] at h6
      have hstr := HST.out.up hbn hgw
      have hixr := HIX.out.up hbn
      have HBN := Lib.hid hbn
      have hgr' : g < wr.heap.size := by omega
      have hlor : lo ≤ wr.heap.size := by omega
      cases hb : balS ws l
      · rw [hb] at h6
        have HPS := Lib.hid (show putS ws 0 l = [] by rw [putS, hb]; rfl)
        have HSR := Lib.hid hstr
        clear hbal hb hstr hixr hbn
        go_wp2
        refine bodyPost_ret (v := .tuple #[]) (by simp [results, Tryd.results85, go_sem]) rfl ⟨rfl, v, ?_, Put2.of_below HBN.out, NewOr.refl _ _⟩
        rw [HPS.out, List.append_nil]; exact HSR.out
      · rw [hb] at h6
        have HPS := Lib.hid (show putS ws 0 l = [l] by rw [putS, hb]; rfl)
        clear hbal hb hbn
        obtain ⟨s1, s2, cs, s3, s4⟩ := hstr
        obtain ⟨B, cap, rfl⟩ := own_form s3
        obtain ⟨i0, hi, hz0, hz1, hz2⟩ := info_parts info25
        have HIXR := Lib.hid hixr
        have HS4 := Lib.hid s4
        clear hixr s4 HST HIX
        have hne : some g ≠ (Value.slice B all.length cap).ownBlock := fun e => by have := (s3.lt g e.symm).1; omega
        go_wp2_with (at_builtin; go_must (refine wpList_append_own_at _ rfl _ _ 65 rfl lo 25 i0 (.slice none 0 0) 1 24 Tryd.underlying65 hi hz0 hz1 hz2 rfl (by decide) (.slice B all.length cap) all.length cs rfl (s3.alloc _) ⟨wr.heap.size, 0, none⟩ 1 1 [.slice A l.length c] rfl rfl (cell_one_new _ _ _) (fun u hu => by simp at hu; subst hu; rfl) (by unfold maxLen; omega) (by omega) (by simp; omega) ?_); intro v' w4 hown4 hgrow4 _ hat4; go_must (obtain ⟨B', cap', rfl⟩ := own_form hown4); go_must (have k0 := hgrow4.block g (by simp; omega) hne); go_must (have z1 := (World.cell?_of_block (a := ⟨g, 0, none⟩) k0).trans ((((Below.refl wr.heap.size wr).alloc (Nat.le_refl _) _).cell (p := ⟨g, 0, none⟩) hgr').trans s1)); go_must (have z2 := (World.frozen?_of_block (a := ⟨g, 0, none⟩) k0).trans ((((Below.refl wr.heap.size wr).alloc (Nat.le_refl _) _).frozen (p := ⟨g, 0, none⟩) hgr').trans s2)))
        have hbA : Below wr.heap.size wr (wr.alloc (.cells #[.slice A l.length c] 25)) := (Below.refl wr.heap.size wr).alloc (Nat.le_refl _) _
        have hadd := St.add (g := g) (lo := lo) (cap := c) (l := l) (A := A) hg (by simp; omega) ((hbA.frozen (p := ⟨g, 0, none⟩) hgr').trans s2) ((hbA.cell (p := ⟨g, 0, none⟩) hgr').trans s1) (s3.alloc _) (HS4.out.up hbA) (HIXR.out.up hbA) HCAP.out hown4 hgrow4 hat4
        have HADD := Lib.hid hadd
        clear hadd hown4 hgrow4 hat4 hbA
        go_wp2
        obtain ⟨a1, a2, a3⟩ := HADD.out
        refine bodyPost_ret (v := .tuple #[]) (by simp [results, Tryd.results85, go_sem]) rfl ⟨rfl, .slice B' (all.length + 1) cap', ?_, ((Put2.of_below HBN.out).trans (Put2.of_below ((Below.refl wr.heap.size wr).alloc (Nat.le_refl _) _)) (NewOr.refl _ _)).trans a2 (NewOr.refl _ _), ?_⟩
        · rw [HPS.out]; exact a1
        · rcases a3 with e | ⟨k, e, hk⟩
          · exact .inl e
          · exact .inr ⟨k, e, by simp at hk; omega⟩
end Go.Proofs.YtcebihijnedekaaDoor
