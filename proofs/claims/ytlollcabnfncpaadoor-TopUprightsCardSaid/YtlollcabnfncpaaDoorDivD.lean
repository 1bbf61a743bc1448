/-
  The best division of a part, and the rule of the memo: the walks.
-/
import Derived.Test.YtlollcabnfncpaaDoorDivC
namespace Go.Proofs.YtlollcabnfncpaaDoor
open Go.RowKit Go.Maps

/-- A division lies in block g, which can be written. -/
structure Ad (g : Nat) (a : Dv) (w : World) : Prop where
  c0 : w.cell? ⟨g, 0, none⟩ = some (.bool a.st)
  c1 : w.cell? ⟨g, 1, none⟩ = some (.int .i64 (a.n : Nat))
  f0 : w.frozen? ⟨g, 0, none⟩ = false
  f1 : w.frozen? ⟨g, 1, none⟩ = false
theorem Ad.chg {g : Nat} {a : Dv} {w w' : World} {P : Nat → Prop} (h : Ad g a w) (hc : Chg P w w') (hn : ¬ P g) : Ad g a w' :=
  have hl := lt_of_cell h.c0
  ⟨(hc.cell (p := ⟨g, _, none⟩) hl hn).trans h.c0, (hc.cell (p := ⟨g, _, none⟩) hl hn).trans h.c1, (hc.frozen (p := ⟨g, _, none⟩) hl hn).trans h.f0, (hc.frozen (p := ⟨g, _, none⟩) hl hn).trans h.f1⟩
theorem Ad.below {g : Nat} {a : Dv} {w w' : World} (h : Ad g a w) (hb : Below w.heap.size w w') : Ad g a w' := h.chg (P := fun _ => False) (Chg.of_below hb) (fun h => h)
theorem Ad.new (w : World) (a : Dv) : Ad w.heap.size a (w.alloc (.cells #[.bool a.st, .int .i64 (a.n : Nat)] 123)) := by
  refine ⟨?_, ?_, ?_, ?_⟩ <;> simp [go_sem]
theorem Ad.set {g : Nat} {a : Dv} {w : World} (h : Ad g a w) (b : Dv) : Ad g b ((w.setCell ⟨g, 0, none⟩ (.bool b.st)).setCell ⟨g, 1, none⟩ (.int .i64 (b.n : Nat))) := by
  obtain ⟨c0, c1, f0, f1⟩ := h
  refine ⟨?_, ?_, ?_, ?_⟩
  · simp [go_sem, c0]
  · simp [go_sem, c1]
  · simp [go_sem, f0]
  · simp [go_sem, f1]

/-- The best division is handed back. -/
def RetBest (all : List Bl) (B p b g M : Nat) (w : World) (v : Dv) (e : Ending) (w' : World) : Prop :=
  e = .returned (.agg #[.bool v.st, .int .i64 (v.n : Nat)]) ∧ ∃ m' D', MemD all B p b g w' m' D' ∧ m' ≤ M ∧ Chg (fun i => i = b) w w'

set_option maxRecDepth 100000 in
set_option maxHeartbeats 4000000 in
theorem best_any (all : List Bl) (B p b g n N : Nat) (hNe : N = 22 ^ n) (ho : OfSpecD all B p b g n) (L : List (Bl × Bl)) (A : Option Addr) (c : Nat) (w : World) (m : Nat) (D : DataW Unit)
    (hL : ∀ x ∈ L, (x.1.m < n ∧ x.1.Ok) ∧ x.2.m < n ∧ x.2.Ok) (hlen : L.length ≤ 10) (hm : MemD all B p b g w m D) (hN : m + 20 * N + N ≤ 1152921504606846976) (hA : PairsAt w w.heap.size A L) (hAb : ∀ ad, A = some ad → B ≤ ad.block) :
    Calls Tryd.prog 118 #[.pointer (some ⟨p, 0, none⟩), .slice A L.length c] w (RetBest all B p b g (m + L.length * (2 * N)) w (bestD (L.map fun x => (divC all x.1, divC all x.2)))) := by
  unfold OfSpecD at ho
  rw [← hNe] at ho
  have hpos : 0 < N := by rw [hNe]; exact Nat.pow_pos (by omega)
  have HO := Lib.hid ho
  have HL := Lib.hid hL
  clear ho hNe hL
  have hbB := hm.old
  have hBw := hm.bs
  have hb0 : Below w.heap.size w ((w.alloc (.cells #[.bool false, .int .i64 0] 123)).alloc (.cells #[.bool false, .int .i64 0] 123)) := ((Below.refl _ _).alloc (Nat.le_refl _) _).alloc (by simp) _
  have a4 := (Ad.new w ⟨false, 0⟩).below (below_new _ (.cells #[.bool false, .int .i64 0] 123))
  have a5 := Ad.new (w.alloc (.cells #[.bool false, .int .i64 0] 123)) ⟨false, 0⟩
  rw [World.size_alloc] at a5
  unfold bestD
  go_enter Tryd.func118, Tryd.ntmps118
  go_wp2
  obtain ⟨W0, hW0⟩ : ∃ W0, W0 = (w.alloc (.cells #[.bool false, .int .i64 0] 123)).alloc (.cells #[.bool false, .int .i64 0] 123) := ⟨_, rfl⟩
  have hz0 : W0.heap.size = w.heap.size + 1 + 1 := by rw [hW0]; simp
  have b4 : Ad w.heap.size ⟨false, 0⟩ W0 := by rw [hW0]; exact a4
  have b5 : Ad (w.heap.size + 1) ⟨false, 0⟩ W0 := by rw [hW0]; exact a5
  have hbw : Below w.heap.size w W0 := by rw [hW0]; exact hb0
  rw [← hW0]
  have HA := Lib.hid (hA.below hbw (Nat.le_refl _))
  have HM := Lib.hid (hm.below hbw)
  have B4 := Lib.hid b4
  have B5 := Lib.hid b5
  have HB := Lib.hid hbw
  clear hW0 hA hm b4 b5 a4 a5 hb0 hbw
  go_loopw [13] (fun i wr => ∃ (k m' : Nat) (D' : DataW Unit) (acc : Dv), k ≤ L.length ∧ i = .int .i64 k ∧ MemD all B p b g wr m' D' ∧ m' ≤ m + k * (2 * N) ∧ Chg (fun i => i = b ∨ i = w.heap.size + 1) W0 wr ∧ Ad (w.heap.size + 1) acc wr ∧ acc.n ≤ 14 ∧
    Hid (acc = ((L.take k).map fun x => (divC all x.1, divC all x.2)).foldl Dv.bet ⟨false, 0⟩)) (fun i _ => L.length - (intOf i).toNat)
  case atStart => exact ⟨0, m, D, ⟨false, 0⟩, Nat.zero_le _, rfl, HM.out, by omega, Chg.refl _ _, B5.out, by simp, Lib.hid rfl⟩
  case round =>
    obtain ⟨k, m', D', acc, hk, rfl, hmr, hle, hcr, hac, hac14, HACC⟩ := hrel
    have hzr := hcr.size
    have hmr' := Lib.hid hmr
    have HAC := Lib.hid hac
    by_cases hlt : k < L.length
    ·
      have hx : L[k]? = some L[k] := List.getElem?_eq_getElem hlt
      generalize L[k] = x at hx
      obtain ⟨⟨hx1, hx2⟩, hx3, hx4⟩ := HL.out x (mem_of_get hx)
      have hts := take_snoc hx
      have hkN : k * (2 * N) ≤ 9 * (2 * N) := Nat.mul_le_mul_right _ (by omega)
      have hkS : (k + 1) * (2 * N) = k * (2 * N) + 2 * N := Nat.succ_mul k (2 * N)
      have hnext : ((L.take (k + 1)).map fun x => (divC all x.1, divC all x.2)).foldl Dv.bet ⟨false, 0⟩ = acc.bet (divC all x.1, divC all x.2) := by rw [hts, List.map_append, List.foldl_append, ← HACC.out]; rfl
      have HI1 := Lib.hid (fun W (Q : Ending → World → Prop) (h : MemD all B p b g W m' D') (hQ : ∀ w' m3 D3, MemD all B p b g w' m3 D3 → m3 + 1 ≤ m' + N → Chg (fun i => i = b) W w' → Q (.returned (.agg #[.bool (divC all x.1).st, .int .i64 ((divC all x.1).n : Nat)])) w') =>
        (HO.out x.1 W m' D' hx1 hx2 h (by omega)).mono fun e w' ⟨he, m3, D3, h1, h2, h3⟩ => he ▸ hQ w' m3 D3 h1 h2 h3)
      have HI2 := Lib.hid (fun W (Q : Ending → World → Prop) m3 D3 (h : MemD all B p b g W m3 D3) (h3 : m3 + 1 ≤ m' + N) (hQ : ∀ w' m4 D4, MemD all B p b g w' m4 D4 → m4 + 1 ≤ m3 + N → Chg (fun i => i = b) W w' → Q (.returned (.agg #[.bool (divC all x.2).st, .int .i64 ((divC all x.2).n : Nat)])) w') =>
        (HO.out x.2 W m3 D3 hx3 hx4 h (by omega)).mono fun e w' ⟨he, m4, D4, h1, h2, h3⟩ => he ▸ hQ w' m4 D4 h1 h2 h3)
      have h13 := divC_le all x.1
      have h23 := divC_le all x.2
      obtain ⟨b', off, rfl, hb', d0, d1, d2, d3, d4, d5, d6, d7⟩ := HA.out k x hx
      have hbn := hAb _ rfl
      have hnb : ¬ (b' = b ∨ b' = w.heap.size + 1) := by simp only at hbn; omega
      replace d0 := (hcr.cell (p := ⟨b', _, none⟩) (lt_of_cell d0) hnb).trans d0
      replace d1 := (hcr.cell (p := ⟨b', _, none⟩) (lt_of_cell d1) hnb).trans d1
      replace d2 := (hcr.cell (p := ⟨b', _, none⟩) (lt_of_cell d2) hnb).trans d2
      replace d3 := (hcr.cell (p := ⟨b', _, none⟩) (lt_of_cell d3) hnb).trans d3
      replace d4 := (hcr.cell (p := ⟨b', _, none⟩) (lt_of_cell d4) hnb).trans d4
      replace d5 := (hcr.cell (p := ⟨b', _, none⟩) (lt_of_cell d5) hnb).trans d5
      replace d6 := (hcr.cell (p := ⟨b', _, none⟩) (lt_of_cell d6) hnb).trans d6
      replace d7 := (hcr.cell (p := ⟨b', _, none⟩) (lt_of_cell d7) hnb).trans d7
      have hbz : b' < wr.heap.size := lt_of_cell d0
      generalize divC all x.1 = e1 at HI1 h13 hnext
      generalize divC all x.2 = e2 at HI2 h23 hnext
      have HNX := Lib.hid hnext
      have HKS := Lib.hid hkS
      obtain ⟨⟨xa, xb, xc, xd⟩, ⟨ya, yb, yc, yd⟩⟩ := x
      dsimp only at HI1 HI2 d0 d1 d2 d3 d4 d5 d6 d7
      have hn5 : ¬ w.heap.size + 1 = b := by omega
      have hnr : ¬ wr.heap.size = b := by omega
      obtain ⟨st1, n1⟩ := e1
      obtain ⟨st2, n2⟩ := e2
      obtain ⟨st, na⟩ := acc
      dsimp only at h13 h23 hac14
      obtain ⟨g0, g1, g2, g3⟩ := hac
      dsimp only at g0 g1 g2 g3
      have kk0 := fun (w3 w4 : World) (h3 : Chg (fun i => i = b) (wr.alloc (.cells #[.int .i64 xa, .int .i64 xb, .int .i64 xc, .int .i64 xd, .int .i64 ya, .int .i64 yb, .int .i64 yc, .int .i64 yd] 193)) w3) (o : Obj) (h4 : Chg (fun i => i = b) (w3.alloc o) w4) => show Chg (fun i => i = b ∨ i = w.heap.size + 1) W0 w4 from
        (((hcr.alloc _).trans h3 (fun _ _ h => .inl h)).alloc o).trans h4 (fun _ _ h => .inl h)
      have KK := Lib.hid kk0
      clear kk0
      clear hx hts hkS hnext hmr hx1 hx2 hx3 hx4 hkN g0 g1 g2 g3
      rcases Nat.lt_or_ge n2 n1 with hcmp | hcmp
      · have HMX := Lib.hid (show max n1 n2 = n1 by omega)
        rcases st1 with _ | _
        · rcases st2 with _ | _ <;> rcases st with _ | _
          · have HBET := Lib.hid (show (Dv.mk false na).bet (⟨false, n1⟩, ⟨false, n2⟩) = ⟨false, na⟩ by simp [Dv.bet])
            go_wp2_with (first
                    | (go_at_call 120; with_reducible refine HI1.out _ _ (hmr'.out.below (below_new _ _)) ?_; intro w3 m3 D3 hm3 hle3 hch3; have hz3 := hch3.size; simp only [World.size_alloc] at hz3; have hz3' : wr.heap.size < w3.heap.size := (by omega); have hz3'' : w.heap.size + 1 < w3.heap.size := (by omega); have y4 := (hch3.cell (p := ⟨wr.heap.size, 4, none⟩) (by simp) hnr).trans (show _ = some (Value.int .i64 ya) by simp [go_sem]); have y5 := (hch3.cell (p := ⟨wr.heap.size, 5, none⟩) (by simp) hnr).trans (show _ = some (Value.int .i64 yb) by simp [go_sem]); have y6 := (hch3.cell (p := ⟨wr.heap.size, 6, none⟩) (by simp) hnr).trans (show _ = some (Value.int .i64 yc) by simp [go_sem]); have y7 := (hch3.cell (p := ⟨wr.heap.size, 7, none⟩) (by simp) hnr).trans (show _ = some (Value.int .i64 yd) by simp [go_sem]); have A3 := Lib.hid ((HAC.out.below (below_new _ _)).chg hch3 hn5))
                    | (go_at_call 120; with_reducible refine HI2.out _ _ _ _ (hm3.below (below_new _ _)) hle3 ?_; intro w4 m4 D4 hm4 hle4 hch4; have hz4 := hch4.size; simp only [World.size_alloc] at hz4; have hz4' : w3.heap.size < w4.heap.size := (by omega); have hz4'' : w.heap.size + 1 < w4.heap.size := (by omega); have hn3 : ¬ w3.heap.size = b := (by omega); have T4 := Lib.hid ((Ad.new w3 ⟨false, n1⟩).chg hch4 hn3); have A4 := Lib.hid ((A3.out.below (below_new _ _)).chg hch4 hn5); obtain ⟨t0, t1, _, _⟩ := T4.out; obtain ⟨s0, s1, s2, s3⟩ := A4.out))
            all_goals
              first
              | (exfalso; omega)
              | (have kk := KK.out w3 w4 hch3 _ hch4
                 go_roundw
                 case rel => exact ⟨k + 1, m4, D4, ⟨false, na⟩, by omega, by go_num, hm4.below (below_new _ _), by rw [HKS.out]; omega, kk.alloc _, A4.out.below (below_new _ _), hac14, Lib.hid (by rw [HNX.out, HBET.out])⟩
                 case measure => simp [intOf]; omega)
          · have HBET := Lib.hid (show (Dv.mk true na).bet (⟨false, n1⟩, ⟨false, n2⟩) = ⟨true, na⟩ by simp [Dv.bet])
            go_wp2_with (first
                    | (go_at_call 120; with_reducible refine HI1.out _ _ (hmr'.out.below (below_new _ _)) ?_; intro w3 m3 D3 hm3 hle3 hch3; have hz3 := hch3.size; simp only [World.size_alloc] at hz3; have hz3' : wr.heap.size < w3.heap.size := (by omega); have hz3'' : w.heap.size + 1 < w3.heap.size := (by omega); have y4 := (hch3.cell (p := ⟨wr.heap.size, 4, none⟩) (by simp) hnr).trans (show _ = some (Value.int .i64 ya) by simp [go_sem]); have y5 := (hch3.cell (p := ⟨wr.heap.size, 5, none⟩) (by simp) hnr).trans (show _ = some (Value.int .i64 yb) by simp [go_sem]); have y6 := (hch3.cell (p := ⟨wr.heap.size, 6, none⟩) (by simp) hnr).trans (show _ = some (Value.int .i64 yc) by simp [go_sem]); have y7 := (hch3.cell (p := ⟨wr.heap.size, 7, none⟩) (by simp) hnr).trans (show _ = some (Value.int .i64 yd) by simp [go_sem]); have A3 := Lib.hid ((HAC.out.below (below_new _ _)).chg hch3 hn5))
                    | (go_at_call 120; with_reducible refine HI2.out _ _ _ _ (hm3.below (below_new _ _)) hle3 ?_; intro w4 m4 D4 hm4 hle4 hch4; have hz4 := hch4.size; simp only [World.size_alloc] at hz4; have hz4' : w3.heap.size < w4.heap.size := (by omega); have hz4'' : w.heap.size + 1 < w4.heap.size := (by omega); have hn3 : ¬ w3.heap.size = b := (by omega); have T4 := Lib.hid ((Ad.new w3 ⟨false, n1⟩).chg hch4 hn3); have A4 := Lib.hid ((A3.out.below (below_new _ _)).chg hch4 hn5); obtain ⟨t0, t1, _, _⟩ := T4.out; obtain ⟨s0, s1, s2, s3⟩ := A4.out))
            all_goals
              first
              | (exfalso; omega)
              | (have kk := KK.out w3 w4 hch3 _ hch4
                 go_roundw
                 case rel => exact ⟨k + 1, m4, D4, ⟨true, na⟩, by omega, by go_num, hm4.below (below_new _ _), by rw [HKS.out]; omega, kk.alloc _, A4.out.below (below_new _ _), hac14, Lib.hid (by rw [HNX.out, HBET.out])⟩
                 case measure => simp [intOf]; omega)
          · have HBET := Lib.hid (show (Dv.mk false na).bet (⟨false, n1⟩, ⟨true, n2⟩) = ⟨false, na⟩ by simp [Dv.bet])
            go_wp2_with (first
                    | (go_at_call 120; with_reducible refine HI1.out _ _ (hmr'.out.below (below_new _ _)) ?_; intro w3 m3 D3 hm3 hle3 hch3; have hz3 := hch3.size; simp only [World.size_alloc] at hz3; have hz3' : wr.heap.size < w3.heap.size := (by omega); have hz3'' : w.heap.size + 1 < w3.heap.size := (by omega); have y4 := (hch3.cell (p := ⟨wr.heap.size, 4, none⟩) (by simp) hnr).trans (show _ = some (Value.int .i64 ya) by simp [go_sem]); have y5 := (hch3.cell (p := ⟨wr.heap.size, 5, none⟩) (by simp) hnr).trans (show _ = some (Value.int .i64 yb) by simp [go_sem]); have y6 := (hch3.cell (p := ⟨wr.heap.size, 6, none⟩) (by simp) hnr).trans (show _ = some (Value.int .i64 yc) by simp [go_sem]); have y7 := (hch3.cell (p := ⟨wr.heap.size, 7, none⟩) (by simp) hnr).trans (show _ = some (Value.int .i64 yd) by simp [go_sem]); have A3 := Lib.hid ((HAC.out.below (below_new _ _)).chg hch3 hn5))
                    | (go_at_call 120; with_reducible refine HI2.out _ _ _ _ (hm3.below (below_new _ _)) hle3 ?_; intro w4 m4 D4 hm4 hle4 hch4; have hz4 := hch4.size; simp only [World.size_alloc] at hz4; have hz4' : w3.heap.size < w4.heap.size := (by omega); have hz4'' : w.heap.size + 1 < w4.heap.size := (by omega); have hn3 : ¬ w3.heap.size = b := (by omega); have T4 := Lib.hid ((Ad.new w3 ⟨false, n1⟩).chg hch4 hn3); have A4 := Lib.hid ((A3.out.below (below_new _ _)).chg hch4 hn5); obtain ⟨t0, t1, _, _⟩ := T4.out; obtain ⟨s0, s1, s2, s3⟩ := A4.out))
            all_goals
              first
              | (exfalso; omega)
              | (have kk := KK.out w3 w4 hch3 _ hch4
                 go_roundw
                 case rel => exact ⟨k + 1, m4, D4, ⟨false, na⟩, by omega, by go_num, hm4.below (below_new _ _), by rw [HKS.out]; omega, kk.alloc _, A4.out.below (below_new _ _), hac14, Lib.hid (by rw [HNX.out, HBET.out])⟩
                 case measure => simp [intOf]; omega)
          · have HBET := Lib.hid (show (Dv.mk true na).bet (⟨false, n1⟩, ⟨true, n2⟩) = ⟨true, na⟩ by simp [Dv.bet])
            go_wp2_with (first
                    | (go_at_call 120; with_reducible refine HI1.out _ _ (hmr'.out.below (below_new _ _)) ?_; intro w3 m3 D3 hm3 hle3 hch3; have hz3 := hch3.size; simp only [World.size_alloc] at hz3; have hz3' : wr.heap.size < w3.heap.size := (by omega); have hz3'' : w.heap.size + 1 < w3.heap.size := (by omega); have y4 := (hch3.cell (p := ⟨wr.heap.size, 4, none⟩) (by simp) hnr).trans (show _ = some (Value.int .i64 ya) by simp [go_sem]); have y5 := (hch3.cell (p := ⟨wr.heap.size, 5, none⟩) (by simp) hnr).trans (show _ = some (Value.int .i64 yb) by simp [go_sem]); have y6 := (hch3.cell (p := ⟨wr.heap.size, 6, none⟩) (by simp) hnr).trans (show _ = some (Value.int .i64 yc) by simp [go_sem]); have y7 := (hch3.cell (p := ⟨wr.heap.size, 7, none⟩) (by simp) hnr).trans (show _ = some (Value.int .i64 yd) by simp [go_sem]); have A3 := Lib.hid ((HAC.out.below (below_new _ _)).chg hch3 hn5))
                    | (go_at_call 120; with_reducible refine HI2.out _ _ _ _ (hm3.below (below_new _ _)) hle3 ?_; intro w4 m4 D4 hm4 hle4 hch4; have hz4 := hch4.size; simp only [World.size_alloc] at hz4; have hz4' : w3.heap.size < w4.heap.size := (by omega); have hz4'' : w.heap.size + 1 < w4.heap.size := (by omega); have hn3 : ¬ w3.heap.size = b := (by omega); have T4 := Lib.hid ((Ad.new w3 ⟨false, n1⟩).chg hch4 hn3); have A4 := Lib.hid ((A3.out.below (below_new _ _)).chg hch4 hn5); obtain ⟨t0, t1, _, _⟩ := T4.out; obtain ⟨s0, s1, s2, s3⟩ := A4.out))
            all_goals
              first
              | (exfalso; omega)
              | (have kk := KK.out w3 w4 hch3 _ hch4
                 go_roundw
                 case rel => exact ⟨k + 1, m4, D4, ⟨true, na⟩, by omega, by go_num, hm4.below (below_new _ _), by rw [HKS.out]; omega, kk.alloc _, A4.out.below (below_new _ _), hac14, Lib.hid (by rw [HNX.out, HBET.out])⟩
                 case measure => simp [intOf]; omega)
        · rcases st2 with _ | _
          · rcases st with _ | _
            · have HBET := Lib.hid (show (Dv.mk false na).bet (⟨true, n1⟩, ⟨false, n2⟩) = ⟨false, na⟩ by simp [Dv.bet])
              go_wp2_with (first
                      | (go_at_call 120; with_reducible refine HI1.out _ _ (hmr'.out.below (below_new _ _)) ?_; intro w3 m3 D3 hm3 hle3 hch3; have hz3 := hch3.size; simp only [World.size_alloc] at hz3; have hz3' : wr.heap.size < w3.heap.size := (by omega); have hz3'' : w.heap.size + 1 < w3.heap.size := (by omega); have y4 := (hch3.cell (p := ⟨wr.heap.size, 4, none⟩) (by simp) hnr).trans (show _ = some (Value.int .i64 ya) by simp [go_sem]); have y5 := (hch3.cell (p := ⟨wr.heap.size, 5, none⟩) (by simp) hnr).trans (show _ = some (Value.int .i64 yb) by simp [go_sem]); have y6 := (hch3.cell (p := ⟨wr.heap.size, 6, none⟩) (by simp) hnr).trans (show _ = some (Value.int .i64 yc) by simp [go_sem]); have y7 := (hch3.cell (p := ⟨wr.heap.size, 7, none⟩) (by simp) hnr).trans (show _ = some (Value.int .i64 yd) by simp [go_sem]); have A3 := Lib.hid ((HAC.out.below (below_new _ _)).chg hch3 hn5))
                      | (go_at_call 120; with_reducible refine HI2.out _ _ _ _ (hm3.below (below_new _ _)) hle3 ?_; intro w4 m4 D4 hm4 hle4 hch4; have hz4 := hch4.size; simp only [World.size_alloc] at hz4; have hz4' : w3.heap.size < w4.heap.size := (by omega); have hz4'' : w.heap.size + 1 < w4.heap.size := (by omega); have hn3 : ¬ w3.heap.size = b := (by omega); have T4 := Lib.hid ((Ad.new w3 ⟨true, n1⟩).chg hch4 hn3); have A4 := Lib.hid ((A3.out.below (below_new _ _)).chg hch4 hn5); obtain ⟨t0, t1, _, _⟩ := T4.out; obtain ⟨s0, s1, s2, s3⟩ := A4.out))
              all_goals
                first
                | (exfalso; omega)
                | (have kk := KK.out w3 w4 hch3 _ hch4
                   go_roundw
                   case rel => exact ⟨k + 1, m4, D4, ⟨false, na⟩, by omega, by go_num, hm4.below (below_new _ _), by rw [HKS.out]; omega, kk.alloc _, A4.out.below (below_new _ _), hac14, Lib.hid (by rw [HNX.out, HBET.out])⟩
                   case measure => simp [intOf]; omega)
            · have HBET := Lib.hid (show (Dv.mk true na).bet (⟨true, n1⟩, ⟨false, n2⟩) = ⟨true, na⟩ by simp [Dv.bet])
              go_wp2_with (first
                      | (go_at_call 120; with_reducible refine HI1.out _ _ (hmr'.out.below (below_new _ _)) ?_; intro w3 m3 D3 hm3 hle3 hch3; have hz3 := hch3.size; simp only [World.size_alloc] at hz3; have hz3' : wr.heap.size < w3.heap.size := (by omega); have hz3'' : w.heap.size + 1 < w3.heap.size := (by omega); have y4 := (hch3.cell (p := ⟨wr.heap.size, 4, none⟩) (by simp) hnr).trans (show _ = some (Value.int .i64 ya) by simp [go_sem]); have y5 := (hch3.cell (p := ⟨wr.heap.size, 5, none⟩) (by simp) hnr).trans (show _ = some (Value.int .i64 yb) by simp [go_sem]); have y6 := (hch3.cell (p := ⟨wr.heap.size, 6, none⟩) (by simp) hnr).trans (show _ = some (Value.int .i64 yc) by simp [go_sem]); have y7 := (hch3.cell (p := ⟨wr.heap.size, 7, none⟩) (by simp) hnr).trans (show _ = some (Value.int .i64 yd) by simp [go_sem]); have A3 := Lib.hid ((HAC.out.below (below_new _ _)).chg hch3 hn5))
                      | (go_at_call 120; with_reducible refine HI2.out _ _ _ _ (hm3.below (below_new _ _)) hle3 ?_; intro w4 m4 D4 hm4 hle4 hch4; have hz4 := hch4.size; simp only [World.size_alloc] at hz4; have hz4' : w3.heap.size < w4.heap.size := (by omega); have hz4'' : w.heap.size + 1 < w4.heap.size := (by omega); have hn3 : ¬ w3.heap.size = b := (by omega); have T4 := Lib.hid ((Ad.new w3 ⟨true, n1⟩).chg hch4 hn3); have A4 := Lib.hid ((A3.out.below (below_new _ _)).chg hch4 hn5); obtain ⟨t0, t1, _, _⟩ := T4.out; obtain ⟨s0, s1, s2, s3⟩ := A4.out))
              all_goals
                first
                | (exfalso; omega)
                | (have kk := KK.out w3 w4 hch3 _ hch4
                   go_roundw
                   case rel => exact ⟨k + 1, m4, D4, ⟨true, na⟩, by omega, by go_num, hm4.below (below_new _ _), by rw [HKS.out]; omega, kk.alloc _, A4.out.below (below_new _ _), hac14, Lib.hid (by rw [HNX.out, HBET.out])⟩
                   case measure => simp [intOf]; omega)
          · rcases st with _ | _
            · have HBET := Lib.hid (show (Dv.mk false na).bet (⟨true, n1⟩, ⟨true, n2⟩) = ⟨true, max n1 n2 + 1⟩ by simp [Dv.bet])
              go_wp2_with (first
                      | (go_at_call 120; with_reducible refine HI1.out _ _ (hmr'.out.below (below_new _ _)) ?_; intro w3 m3 D3 hm3 hle3 hch3; have hz3 := hch3.size; simp only [World.size_alloc] at hz3; have hz3' : wr.heap.size < w3.heap.size := (by omega); have hz3'' : w.heap.size + 1 < w3.heap.size := (by omega); have y4 := (hch3.cell (p := ⟨wr.heap.size, 4, none⟩) (by simp) hnr).trans (show _ = some (Value.int .i64 ya) by simp [go_sem]); have y5 := (hch3.cell (p := ⟨wr.heap.size, 5, none⟩) (by simp) hnr).trans (show _ = some (Value.int .i64 yb) by simp [go_sem]); have y6 := (hch3.cell (p := ⟨wr.heap.size, 6, none⟩) (by simp) hnr).trans (show _ = some (Value.int .i64 yc) by simp [go_sem]); have y7 := (hch3.cell (p := ⟨wr.heap.size, 7, none⟩) (by simp) hnr).trans (show _ = some (Value.int .i64 yd) by simp [go_sem]); have A3 := Lib.hid ((HAC.out.below (below_new _ _)).chg hch3 hn5))
                      | (go_at_call 120; with_reducible refine HI2.out _ _ _ _ (hm3.below (below_new _ _)) hle3 ?_; intro w4 m4 D4 hm4 hle4 hch4; have hz4 := hch4.size; simp only [World.size_alloc] at hz4; have hz4' : w3.heap.size < w4.heap.size := (by omega); have hz4'' : w.heap.size + 1 < w4.heap.size := (by omega); have hn3 : ¬ w3.heap.size = b := (by omega); have T4 := Lib.hid ((Ad.new w3 ⟨true, n1⟩).chg hch4 hn3); have A4 := Lib.hid ((A3.out.below (below_new _ _)).chg hch4 hn5); obtain ⟨t0, t1, _, _⟩ := T4.out; obtain ⟨s0, s1, s2, s3⟩ := A4.out))
              all_goals
                first
                | (exfalso; omega)
                | (have kk := KK.out w3 w4 hch3 _ hch4
                   go_roundw
                   case rel =>
                     have hk5 := chg2 w4 (w.heap.size + 1) (.bool true) (.int .i64 ((n1 + 1 : Nat) : Int))
                     exact ⟨k + 1, m4, D4, ⟨true, n1 + 1⟩, by omega, by go_num, (hm4.keep hk5 (fun i h => by omega)).below (below_new _ _), by rw [HKS.out]; omega, (kk.trans hk5 (fun _ _ h => .inr h)).alloc _, (A4.out.set ⟨true, n1 + 1⟩).below (below_new _ _), by simp only; omega, Lib.hid (by rw [HNX.out, HBET.out, HMX.out])⟩
                   case measure => simp [intOf]; omega)
            · by_cases hlt3 : n1 + 1 < na
              · have HBET := Lib.hid (show (Dv.mk true na).bet (⟨true, n1⟩, ⟨true, n2⟩) = ⟨true, max n1 n2 + 1⟩ by simp [Dv.bet]; omega)
                go_wp2_with (first
                        | (go_at_call 120; with_reducible refine HI1.out _ _ (hmr'.out.below (below_new _ _)) ?_; intro w3 m3 D3 hm3 hle3 hch3; have hz3 := hch3.size; simp only [World.size_alloc] at hz3; have hz3' : wr.heap.size < w3.heap.size := (by omega); have hz3'' : w.heap.size + 1 < w3.heap.size := (by omega); have y4 := (hch3.cell (p := ⟨wr.heap.size, 4, none⟩) (by simp) hnr).trans (show _ = some (Value.int .i64 ya) by simp [go_sem]); have y5 := (hch3.cell (p := ⟨wr.heap.size, 5, none⟩) (by simp) hnr).trans (show _ = some (Value.int .i64 yb) by simp [go_sem]); have y6 := (hch3.cell (p := ⟨wr.heap.size, 6, none⟩) (by simp) hnr).trans (show _ = some (Value.int .i64 yc) by simp [go_sem]); have y7 := (hch3.cell (p := ⟨wr.heap.size, 7, none⟩) (by simp) hnr).trans (show _ = some (Value.int .i64 yd) by simp [go_sem]); have A3 := Lib.hid ((HAC.out.below (below_new _ _)).chg hch3 hn5))
                        | (go_at_call 120; with_reducible refine HI2.out _ _ _ _ (hm3.below (below_new _ _)) hle3 ?_; intro w4 m4 D4 hm4 hle4 hch4; have hz4 := hch4.size; simp only [World.size_alloc] at hz4; have hz4' : w3.heap.size < w4.heap.size := (by omega); have hz4'' : w.heap.size + 1 < w4.heap.size := (by omega); have hn3 : ¬ w3.heap.size = b := (by omega); have T4 := Lib.hid ((Ad.new w3 ⟨true, n1⟩).chg hch4 hn3); have A4 := Lib.hid ((A3.out.below (below_new _ _)).chg hch4 hn5); obtain ⟨t0, t1, _, _⟩ := T4.out; obtain ⟨s0, s1, s2, s3⟩ := A4.out))
                all_goals
                  first
                  | (exfalso; omega)
                  | (have kk := KK.out w3 w4 hch3 _ hch4
                     go_roundw
                     case rel =>
                       have hk5 := chg2 w4 (w.heap.size + 1) (.bool true) (.int .i64 ((n1 + 1 : Nat) : Int))
                       exact ⟨k + 1, m4, D4, ⟨true, n1 + 1⟩, by omega, by go_num, (hm4.keep hk5 (fun i h => by omega)).below (below_new _ _), by rw [HKS.out]; omega, (kk.trans hk5 (fun _ _ h => .inr h)).alloc _, (A4.out.set ⟨true, n1 + 1⟩).below (below_new _ _), by simp only; omega, Lib.hid (by rw [HNX.out, HBET.out, HMX.out])⟩
                     case measure => simp [intOf]; omega)
              · have HBET := Lib.hid (show (Dv.mk true na).bet (⟨true, n1⟩, ⟨true, n2⟩) = ⟨true, na⟩ by simp [Dv.bet]; omega)
                go_wp2_with (first
                        | (go_at_call 120; with_reducible refine HI1.out _ _ (hmr'.out.below (below_new _ _)) ?_; intro w3 m3 D3 hm3 hle3 hch3; have hz3 := hch3.size; simp only [World.size_alloc] at hz3; have hz3' : wr.heap.size < w3.heap.size := (by omega); have hz3'' : w.heap.size + 1 < w3.heap.size := (by omega); have y4 := (hch3.cell (p := ⟨wr.heap.size, 4, none⟩) (by simp) hnr).trans (show _ = some (Value.int .i64 ya) by simp [go_sem]); have y5 := (hch3.cell (p := ⟨wr.heap.size, 5, none⟩) (by simp) hnr).trans (show _ = some (Value.int .i64 yb) by simp [go_sem]); have y6 := (hch3.cell (p := ⟨wr.heap.size, 6, none⟩) (by simp) hnr).trans (show _ = some (Value.int .i64 yc) by simp [go_sem]); have y7 := (hch3.cell (p := ⟨wr.heap.size, 7, none⟩) (by simp) hnr).trans (show _ = some (Value.int .i64 yd) by simp [go_sem]); have A3 := Lib.hid ((HAC.out.below (below_new _ _)).chg hch3 hn5))
                        | (go_at_call 120; with_reducible refine HI2.out _ _ _ _ (hm3.below (below_new _ _)) hle3 ?_; intro w4 m4 D4 hm4 hle4 hch4; have hz4 := hch4.size; simp only [World.size_alloc] at hz4; have hz4' : w3.heap.size < w4.heap.size := (by omega); have hz4'' : w.heap.size + 1 < w4.heap.size := (by omega); have hn3 : ¬ w3.heap.size = b := (by omega); have T4 := Lib.hid ((Ad.new w3 ⟨true, n1⟩).chg hch4 hn3); have A4 := Lib.hid ((A3.out.below (below_new _ _)).chg hch4 hn5); obtain ⟨t0, t1, _, _⟩ := T4.out; obtain ⟨s0, s1, s2, s3⟩ := A4.out))
                all_goals
                  first
                  | (exfalso; omega)
                  | (have kk := KK.out w3 w4 hch3 _ hch4
                     go_roundw
                     case rel => exact ⟨k + 1, m4, D4, ⟨true, na⟩, by omega, by go_num, hm4.below (below_new _ _), by rw [HKS.out]; omega, kk.alloc _, A4.out.below (below_new _ _), hac14, Lib.hid (by rw [HNX.out, HBET.out])⟩
                     case measure => simp [intOf]; omega)
      · rcases Nat.lt_or_ge n1 n2 with hcm2 | hcm2
        · have HMX := Lib.hid (show max n1 n2 = n2 by omega)
          rcases st1 with _ | _
          · rcases st2 with _ | _ <;> rcases st with _ | _
            · have HBET := Lib.hid (show (Dv.mk false na).bet (⟨false, n1⟩, ⟨false, n2⟩) = ⟨false, na⟩ by simp [Dv.bet])
              go_wp2_with (first
                      | (go_at_call 120; with_reducible refine HI1.out _ _ (hmr'.out.below (below_new _ _)) ?_; intro w3 m3 D3 hm3 hle3 hch3; have hz3 := hch3.size; simp only [World.size_alloc] at hz3; have hz3' : wr.heap.size < w3.heap.size := (by omega); have hz3'' : w.heap.size + 1 < w3.heap.size := (by omega); have y4 := (hch3.cell (p := ⟨wr.heap.size, 4, none⟩) (by simp) hnr).trans (show _ = some (Value.int .i64 ya) by simp [go_sem]); have y5 := (hch3.cell (p := ⟨wr.heap.size, 5, none⟩) (by simp) hnr).trans (show _ = some (Value.int .i64 yb) by simp [go_sem]); have y6 := (hch3.cell (p := ⟨wr.heap.size, 6, none⟩) (by simp) hnr).trans (show _ = some (Value.int .i64 yc) by simp [go_sem]); have y7 := (hch3.cell (p := ⟨wr.heap.size, 7, none⟩) (by simp) hnr).trans (show _ = some (Value.int .i64 yd) by simp [go_sem]); have A3 := Lib.hid ((HAC.out.below (below_new _ _)).chg hch3 hn5))
                      | (go_at_call 120; with_reducible refine HI2.out _ _ _ _ (hm3.below (below_new _ _)) hle3 ?_; intro w4 m4 D4 hm4 hle4 hch4; have hz4 := hch4.size; simp only [World.size_alloc] at hz4; have hz4' : w3.heap.size < w4.heap.size := (by omega); have hz4'' : w.heap.size + 1 < w4.heap.size := (by omega); have hn3 : ¬ w3.heap.size = b := (by omega); have T4 := Lib.hid ((Ad.new w3 ⟨false, n1⟩).chg hch4 hn3); have A4 := Lib.hid ((A3.out.below (below_new _ _)).chg hch4 hn5); obtain ⟨t0, t1, _, _⟩ := T4.out; obtain ⟨s0, s1, s2, s3⟩ := A4.out))
              all_goals
                first
                | (exfalso; omega)
                | (have kk := KK.out w3 w4 hch3 _ hch4
                   go_roundw
                   case rel => exact ⟨k + 1, m4, D4, ⟨false, na⟩, by omega, by go_num, hm4.below (below_new _ _), by rw [HKS.out]; omega, kk.alloc _, A4.out.below (below_new _ _), hac14, Lib.hid (by rw [HNX.out, HBET.out])⟩
                   case measure => simp [intOf]; omega)
            · have HBET := Lib.hid (show (Dv.mk true na).bet (⟨false, n1⟩, ⟨false, n2⟩) = ⟨true, na⟩ by simp [Dv.bet])
              go_wp2_with (first
                      | (go_at_call 120; with_reducible refine HI1.out _ _ (hmr'.out.below (below_new _ _)) ?_; intro w3 m3 D3 hm3 hle3 hch3; have hz3 := hch3.size; simp only [World.size_alloc] at hz3; have hz3' : wr.heap.size < w3.heap.size := (by omega); have hz3'' : w.heap.size + 1 < w3.heap.size := (by omega); have y4 := (hch3.cell (p := ⟨wr.heap.size, 4, none⟩) (by simp) hnr).trans (show _ = some (Value.int .i64 ya) by simp [go_sem]); have y5 := (hch3.cell (p := ⟨wr.heap.size, 5, none⟩) (by simp) hnr).trans (show _ = some (Value.int .i64 yb) by simp [go_sem]); have y6 := (hch3.cell (p := ⟨wr.heap.size, 6, none⟩) (by simp) hnr).trans (show _ = some (Value.int .i64 yc) by simp [go_sem]); have y7 := (hch3.cell (p := ⟨wr.heap.size, 7, none⟩) (by simp) hnr).trans (show _ = some (Value.int .i64 yd) by simp [go_sem]); have A3 := Lib.hid ((HAC.out.below (below_new _ _)).chg hch3 hn5))
                      | (go_at_call 120; with_reducible refine HI2.out _ _ _ _ (hm3.below (below_new _ _)) hle3 ?_; intro w4 m4 D4 hm4 hle4 hch4; have hz4 := hch4.size; simp only [World.size_alloc] at hz4; have hz4' : w3.heap.size < w4.heap.size := (by omega); have hz4'' : w.heap.size + 1 < w4.heap.size := (by omega); have hn3 : ¬ w3.heap.size = b := (by omega); have T4 := Lib.hid ((Ad.new w3 ⟨false, n1⟩).chg hch4 hn3); have A4 := Lib.hid ((A3.out.below (below_new _ _)).chg hch4 hn5); obtain ⟨t0, t1, _, _⟩ := T4.out; obtain ⟨s0, s1, s2, s3⟩ := A4.out))
              all_goals
                first
                | (exfalso; omega)
                | (have kk := KK.out w3 w4 hch3 _ hch4
                   go_roundw
                   case rel => exact ⟨k + 1, m4, D4, ⟨true, na⟩, by omega, by go_num, hm4.below (below_new _ _), by rw [HKS.out]; omega, kk.alloc _, A4.out.below (below_new _ _), hac14, Lib.hid (by rw [HNX.out, HBET.out])⟩
                   case measure => simp [intOf]; omega)
            · have HBET := Lib.hid (show (Dv.mk false na).bet (⟨false, n1⟩, ⟨true, n2⟩) = ⟨false, na⟩ by simp [Dv.bet])
              go_wp2_with (first
                      | (go_at_call 120; with_reducible refine HI1.out _ _ (hmr'.out.below (below_new _ _)) ?_; intro w3 m3 D3 hm3 hle3 hch3; have hz3 := hch3.size; simp only [World.size_alloc] at hz3; have hz3' : wr.heap.size < w3.heap.size := (by omega); have hz3'' : w.heap.size + 1 < w3.heap.size := (by omega); have y4 := (hch3.cell (p := ⟨wr.heap.size, 4, none⟩) (by simp) hnr).trans (show _ = some (Value.int .i64 ya) by simp [go_sem]); have y5 := (hch3.cell (p := ⟨wr.heap.size, 5, none⟩) (by simp) hnr).trans (show _ = some (Value.int .i64 yb) by simp [go_sem]); have y6 := (hch3.cell (p := ⟨wr.heap.size, 6, none⟩) (by simp) hnr).trans (show _ = some (Value.int .i64 yc) by simp [go_sem]); have y7 := (hch3.cell (p := ⟨wr.heap.size, 7, none⟩) (by simp) hnr).trans (show _ = some (Value.int .i64 yd) by simp [go_sem]); have A3 := Lib.hid ((HAC.out.below (below_new _ _)).chg hch3 hn5))
                      | (go_at_call 120; with_reducible refine HI2.out _ _ _ _ (hm3.below (below_new _ _)) hle3 ?_; intro w4 m4 D4 hm4 hle4 hch4; have hz4 := hch4.size; simp only [World.size_alloc] at hz4; have hz4' : w3.heap.size < w4.heap.size := (by omega); have hz4'' : w.heap.size + 1 < w4.heap.size := (by omega); have hn3 : ¬ w3.heap.size = b := (by omega); have T4 := Lib.hid ((Ad.new w3 ⟨false, n1⟩).chg hch4 hn3); have A4 := Lib.hid ((A3.out.below (below_new _ _)).chg hch4 hn5); obtain ⟨t0, t1, _, _⟩ := T4.out; obtain ⟨s0, s1, s2, s3⟩ := A4.out))
              all_goals
                first
                | (exfalso; omega)
                | (have kk := KK.out w3 w4 hch3 _ hch4
                   go_roundw
                   case rel => exact ⟨k + 1, m4, D4, ⟨false, na⟩, by omega, by go_num, hm4.below (below_new _ _), by rw [HKS.out]; omega, kk.alloc _, A4.out.below (below_new _ _), hac14, Lib.hid (by rw [HNX.out, HBET.out])⟩
                   case measure => simp [intOf]; omega)
            · have HBET := Lib.hid (show (Dv.mk true na).bet (⟨false, n1⟩, ⟨true, n2⟩) = ⟨true, na⟩ by simp [Dv.bet])
              go_wp2_with (first
                      | (go_at_call 120; with_reducible refine HI1.out _ _ (hmr'.out.below (below_new _ _)) ?_; intro w3 m3 D3 hm3 hle3 hch3; have hz3 := hch3.size; simp only [World.size_alloc] at hz3; have hz3' : wr.heap.size < w3.heap.size := (by omega); have hz3'' : w.heap.size + 1 < w3.heap.size := (by omega); have y4 := (hch3.cell (p := ⟨wr.heap.size, 4, none⟩) (by simp) hnr).trans (show _ = some (Value.int .i64 ya) by simp [go_sem]); have y5 := (hch3.cell (p := ⟨wr.heap.size, 5, none⟩) (by simp) hnr).trans (show _ = some (Value.int .i64 yb) by simp [go_sem]); have y6 := (hch3.cell (p := ⟨wr.heap.size, 6, none⟩) (by simp) hnr).trans (show _ = some (Value.int .i64 yc) by simp [go_sem]); have y7 := (hch3.cell (p := ⟨wr.heap.size, 7, none⟩) (by simp) hnr).trans (show _ = some (Value.int .i64 yd) by simp [go_sem]); have A3 := Lib.hid ((HAC.out.below (below_new _ _)).chg hch3 hn5))
                      | (go_at_call 120; with_reducible refine HI2.out _ _ _ _ (hm3.below (below_new _ _)) hle3 ?_; intro w4 m4 D4 hm4 hle4 hch4; have hz4 := hch4.size; simp only [World.size_alloc] at hz4; have hz4' : w3.heap.size < w4.heap.size := (by omega); have hz4'' : w.heap.size + 1 < w4.heap.size := (by omega); have hn3 : ¬ w3.heap.size = b := (by omega); have T4 := Lib.hid ((Ad.new w3 ⟨false, n1⟩).chg hch4 hn3); have A4 := Lib.hid ((A3.out.below (below_new _ _)).chg hch4 hn5); obtain ⟨t0, t1, _, _⟩ := T4.out; obtain ⟨s0, s1, s2, s3⟩ := A4.out))
              all_goals
                first
                | (exfalso; omega)
                | (have kk := KK.out w3 w4 hch3 _ hch4
                   go_roundw
                   case rel => exact ⟨k + 1, m4, D4, ⟨true, na⟩, by omega, by go_num, hm4.below (below_new _ _), by rw [HKS.out]; omega, kk.alloc _, A4.out.below (below_new _ _), hac14, Lib.hid (by rw [HNX.out, HBET.out])⟩
                   case measure => simp [intOf]; omega)
          · rcases st2 with _ | _
            · rcases st with _ | _
              · have HBET := Lib.hid (show (Dv.mk false na).bet (⟨true, n1⟩, ⟨false, n2⟩) = ⟨false, na⟩ by simp [Dv.bet])
                go_wp2_with (first
                        | (go_at_call 120; with_reducible refine HI1.out _ _ (hmr'.out.below (below_new _ _)) ?_; intro w3 m3 D3 hm3 hle3 hch3; have hz3 := hch3.size; simp only [World.size_alloc] at hz3; have hz3' : wr.heap.size < w3.heap.size := (by omega); have hz3'' : w.heap.size + 1 < w3.heap.size := (by omega); have y4 := (hch3.cell (p := ⟨wr.heap.size, 4, none⟩) (by simp) hnr).trans (show _ = some (Value.int .i64 ya) by simp [go_sem]); have y5 := (hch3.cell (p := ⟨wr.heap.size, 5, none⟩) (by simp) hnr).trans (show _ = some (Value.int .i64 yb) by simp [go_sem]); have y6 := (hch3.cell (p := ⟨wr.heap.size, 6, none⟩) (by simp) hnr).trans (show _ = some (Value.int .i64 yc) by simp [go_sem]); have y7 := (hch3.cell (p := ⟨wr.heap.size, 7, none⟩) (by simp) hnr).trans (show _ = some (Value.int .i64 yd) by simp [go_sem]); have A3 := Lib.hid ((HAC.out.below (below_new _ _)).chg hch3 hn5))
                        | (go_at_call 120; with_reducible refine HI2.out _ _ _ _ (hm3.below (below_new _ _)) hle3 ?_; intro w4 m4 D4 hm4 hle4 hch4; have hz4 := hch4.size; simp only [World.size_alloc] at hz4; have hz4' : w3.heap.size < w4.heap.size := (by omega); have hz4'' : w.heap.size + 1 < w4.heap.size := (by omega); have hn3 : ¬ w3.heap.size = b := (by omega); have T4 := Lib.hid ((Ad.new w3 ⟨true, n1⟩).chg hch4 hn3); have A4 := Lib.hid ((A3.out.below (below_new _ _)).chg hch4 hn5); obtain ⟨t0, t1, _, _⟩ := T4.out; obtain ⟨s0, s1, s2, s3⟩ := A4.out))
                all_goals
                  first
                  | (exfalso; omega)
                  | (have kk := KK.out w3 w4 hch3 _ hch4
                     go_roundw
                     case rel => exact ⟨k + 1, m4, D4, ⟨false, na⟩, by omega, by go_num, hm4.below (below_new _ _), by rw [HKS.out]; omega, kk.alloc _, A4.out.below (below_new _ _), hac14, Lib.hid (by rw [HNX.out, HBET.out])⟩
                     case measure => simp [intOf]; omega)
              · have HBET := Lib.hid (show (Dv.mk true na).bet (⟨true, n1⟩, ⟨false, n2⟩) = ⟨true, na⟩ by simp [Dv.bet])
                go_wp2_with (first
                        | (go_at_call 120; with_reducible refine HI1.out _ _ (hmr'.out.below (below_new _ _)) ?_; intro w3 m3 D3 hm3 hle3 hch3; have hz3 := hch3.size; simp only [World.size_alloc] at hz3; have hz3' : wr.heap.size < w3.heap.size := (by omega); have hz3'' : w.heap.size + 1 < w3.heap.size := (by omega); have y4 := (hch3.cell (p := ⟨wr.heap.size, 4, none⟩) (by simp) hnr).trans (show _ = some (Value.int .i64 ya) by simp [go_sem]); have y5 := (hch3.cell (p := ⟨wr.heap.size, 5, none⟩) (by simp) hnr).trans (show _ = some (Value.int .i64 yb) by simp [go_sem]); have y6 := (hch3.cell (p := ⟨wr.heap.size, 6, none⟩) (by simp) hnr).trans (show _ = some (Value.int .i64 yc) by simp [go_sem]); have y7 := (hch3.cell (p := ⟨wr.heap.size, 7, none⟩) (by simp) hnr).trans (show _ = some (Value.int .i64 yd) by simp [go_sem]); have A3 := Lib.hid ((HAC.out.below (below_new _ _)).chg hch3 hn5))
                        | (go_at_call 120; with_reducible refine HI2.out _ _ _ _ (hm3.below (below_new _ _)) hle3 ?_; intro w4 m4 D4 hm4 hle4 hch4; have hz4 := hch4.size; simp only [World.size_alloc] at hz4; have hz4' : w3.heap.size < w4.heap.size := (by omega); have hz4'' : w.heap.size + 1 < w4.heap.size := (by omega); have hn3 : ¬ w3.heap.size = b := (by omega); have T4 := Lib.hid ((Ad.new w3 ⟨true, n1⟩).chg hch4 hn3); have A4 := Lib.hid ((A3.out.below (below_new _ _)).chg hch4 hn5); obtain ⟨t0, t1, _, _⟩ := T4.out; obtain ⟨s0, s1, s2, s3⟩ := A4.out))
                all_goals
                  first
                  | (exfalso; omega)
                  | (have kk := KK.out w3 w4 hch3 _ hch4
                     go_roundw
                     case rel => exact ⟨k + 1, m4, D4, ⟨true, na⟩, by omega, by go_num, hm4.below (below_new _ _), by rw [HKS.out]; omega, kk.alloc _, A4.out.below (below_new _ _), hac14, Lib.hid (by rw [HNX.out, HBET.out])⟩
                     case measure => simp [intOf]; omega)
            · rcases st with _ | _
              · have HBET := Lib.hid (show (Dv.mk false na).bet (⟨true, n1⟩, ⟨true, n2⟩) = ⟨true, max n1 n2 + 1⟩ by simp [Dv.bet])
                go_wp2_with (first
                        | (go_at_call 120; with_reducible refine HI1.out _ _ (hmr'.out.below (below_new _ _)) ?_; intro w3 m3 D3 hm3 hle3 hch3; have hz3 := hch3.size; simp only [World.size_alloc] at hz3; have hz3' : wr.heap.size < w3.heap.size := (by omega); have hz3'' : w.heap.size + 1 < w3.heap.size := (by omega); have y4 := (hch3.cell (p := ⟨wr.heap.size, 4, none⟩) (by simp) hnr).trans (show _ = some (Value.int .i64 ya) by simp [go_sem]); have y5 := (hch3.cell (p := ⟨wr.heap.size, 5, none⟩) (by simp) hnr).trans (show _ = some (Value.int .i64 yb) by simp [go_sem]); have y6 := (hch3.cell (p := ⟨wr.heap.size, 6, none⟩) (by simp) hnr).trans (show _ = some (Value.int .i64 yc) by simp [go_sem]); have y7 := (hch3.cell (p := ⟨wr.heap.size, 7, none⟩) (by simp) hnr).trans (show _ = some (Value.int .i64 yd) by simp [go_sem]); have A3 := Lib.hid ((HAC.out.below (below_new _ _)).chg hch3 hn5))
                        | (go_at_call 120; with_reducible refine HI2.out _ _ _ _ (hm3.below (below_new _ _)) hle3 ?_; intro w4 m4 D4 hm4 hle4 hch4; have hz4 := hch4.size; simp only [World.size_alloc] at hz4; have hz4' : w3.heap.size < w4.heap.size := (by omega); have hz4'' : w.heap.size + 1 < w4.heap.size := (by omega); have hn3 : ¬ w3.heap.size = b := (by omega); have T4 := Lib.hid ((Ad.new w3 ⟨true, n1⟩).chg hch4 hn3); have A4 := Lib.hid ((A3.out.below (below_new _ _)).chg hch4 hn5); obtain ⟨t0, t1, _, _⟩ := T4.out; obtain ⟨s0, s1, s2, s3⟩ := A4.out))
                all_goals
                  first
                  | (exfalso; omega)
                  | (have kk := KK.out w3 w4 hch3 _ hch4
                     go_roundw
                     case rel =>
                       have hk5 := chg2 w4 (w.heap.size + 1) (.bool true) (.int .i64 ((n2 + 1 : Nat) : Int))
                       exact ⟨k + 1, m4, D4, ⟨true, n2 + 1⟩, by omega, by go_num, (hm4.keep hk5 (fun i h => by omega)).below (below_new _ _), by rw [HKS.out]; omega, (kk.trans hk5 (fun _ _ h => .inr h)).alloc _, (A4.out.set ⟨true, n2 + 1⟩).below (below_new _ _), by simp only; omega, Lib.hid (by rw [HNX.out, HBET.out, HMX.out])⟩
                     case measure => simp [intOf]; omega)
              · by_cases hlt3 : n2 + 1 < na
                · have HBET := Lib.hid (show (Dv.mk true na).bet (⟨true, n1⟩, ⟨true, n2⟩) = ⟨true, max n1 n2 + 1⟩ by simp [Dv.bet]; omega)
                  go_wp2_with (first
                          | (go_at_call 120; with_reducible refine HI1.out _ _ (hmr'.out.below (below_new _ _)) ?_; intro w3 m3 D3 hm3 hle3 hch3; have hz3 := hch3.size; simp only [World.size_alloc] at hz3; have hz3' : wr.heap.size < w3.heap.size := (by omega); have hz3'' : w.heap.size + 1 < w3.heap.size := (by omega); have y4 := (hch3.cell (p := ⟨wr.heap.size, 4, none⟩) (by simp) hnr).trans (show _ = some (Value.int .i64 ya) by simp [go_sem]); have y5 := (hch3.cell (p := ⟨wr.heap.size, 5, none⟩) (by simp) hnr).trans (show _ = some (Value.int .i64 yb) by simp [go_sem]); have y6 := (hch3.cell (p := ⟨wr.heap.size, 6, none⟩) (by simp) hnr).trans (show _ = some (Value.int .i64 yc) by simp [go_sem]); have y7 := (hch3.cell (p := ⟨wr.heap.size, 7, none⟩) (by simp) hnr).trans (show _ = some (Value.int .i64 yd) by simp [go_sem]); have A3 := Lib.hid ((HAC.out.below (below_new _ _)).chg hch3 hn5))
                          | (go_at_call 120; with_reducible refine HI2.out _ _ _ _ (hm3.below (below_new _ _)) hle3 ?_; intro w4 m4 D4 hm4 hle4 hch4; have hz4 := hch4.size; simp only [World.size_alloc] at hz4; have hz4' : w3.heap.size < w4.heap.size := (by omega); have hz4'' : w.heap.size + 1 < w4.heap.size := (by omega); have hn3 : ¬ w3.heap.size = b := (by omega); have T4 := Lib.hid ((Ad.new w3 ⟨true, n1⟩).chg hch4 hn3); have A4 := Lib.hid ((A3.out.below (below_new _ _)).chg hch4 hn5); obtain ⟨t0, t1, _, _⟩ := T4.out; obtain ⟨s0, s1, s2, s3⟩ := A4.out))
                  all_goals
                    first
                    | (exfalso; omega)
                    | (have kk := KK.out w3 w4 hch3 _ hch4
                       go_roundw
                       case rel =>
                         have hk5 := chg2 w4 (w.heap.size + 1) (.bool true) (.int .i64 ((n2 + 1 : Nat) : Int))
                         exact ⟨k + 1, m4, D4, ⟨true, n2 + 1⟩, by omega, by go_num, (hm4.keep hk5 (fun i h => by omega)).below (below_new _ _), by rw [HKS.out]; omega, (kk.trans hk5 (fun _ _ h => .inr h)).alloc _, (A4.out.set ⟨true, n2 + 1⟩).below (below_new _ _), by simp only; omega, Lib.hid (by rw [HNX.out, HBET.out, HMX.out])⟩
                       case measure => simp [intOf]; omega)
                · have HBET := Lib.hid (show (Dv.mk true na).bet (⟨true, n1⟩, ⟨true, n2⟩) = ⟨true, na⟩ by simp [Dv.bet]; omega)
                  go_wp2_with (first
                          | (go_at_call 120; with_reducible refine HI1.out _ _ (hmr'.out.below (below_new _ _)) ?_; intro w3 m3 D3 hm3 hle3 hch3; have hz3 := hch3.size; simp only [World.size_alloc] at hz3; have hz3' : wr.heap.size < w3.heap.size := (by omega); have hz3'' : w.heap.size + 1 < w3.heap.size := (by omega); have y4 := (hch3.cell (p := ⟨wr.heap.size, 4, none⟩) (by simp) hnr).trans (show _ = some (Value.int .i64 ya) by simp [go_sem]); have y5 := (hch3.cell (p := ⟨wr.heap.size, 5, none⟩) (by simp) hnr).trans (show _ = some (Value.int .i64 yb) by simp [go_sem]); have y6 := (hch3.cell (p := ⟨wr.heap.size, 6, none⟩) (by simp) hnr).trans (show _ = some (Value.int .i64 yc) by simp [go_sem]); have y7 := (hch3.cell (p := ⟨wr.heap.size, 7, none⟩) (by simp) hnr).trans (show _ = some (Value.int .i64 yd) by simp [go_sem]); have A3 := Lib.hid ((HAC.out.below (below_new _ _)).chg hch3 hn5))
                          | (go_at_call 120; with_reducible refine HI2.out _ _ _ _ (hm3.below (below_new _ _)) hle3 ?_; intro w4 m4 D4 hm4 hle4 hch4; have hz4 := hch4.size; simp only [World.size_alloc] at hz4; have hz4' : w3.heap.size < w4.heap.size := (by omega); have hz4'' : w.heap.size + 1 < w4.heap.size := (by omega); have hn3 : ¬ w3.heap.size = b := (by omega); have T4 := Lib.hid ((Ad.new w3 ⟨true, n1⟩).chg hch4 hn3); have A4 := Lib.hid ((A3.out.below (below_new _ _)).chg hch4 hn5); obtain ⟨t0, t1, _, _⟩ := T4.out; obtain ⟨s0, s1, s2, s3⟩ := A4.out))
                  all_goals
                    first
                    | (exfalso; omega)
                    | (have kk := KK.out w3 w4 hch3 _ hch4
                       go_roundw
                       case rel => exact ⟨k + 1, m4, D4, ⟨true, na⟩, by omega, by go_num, hm4.below (below_new _ _), by rw [HKS.out]; omega, kk.alloc _, A4.out.below (below_new _ _), hac14, Lib.hid (by rw [HNX.out, HBET.out])⟩
                       case measure => simp [intOf]; omega)
        · have hnn : n1 = n2 := by omega
          subst hnn
          clear hcmp hcm2
          have HMX := Lib.hid (show max n1 n1 = n1 by omega)
          rcases st1 with _ | _
          · rcases st2 with _ | _ <;> rcases st with _ | _
            · have HBET := Lib.hid (show (Dv.mk false na).bet (⟨false, n1⟩, ⟨false, n1⟩) = ⟨false, na⟩ by simp [Dv.bet])
              go_wp2_with (first
                      | (go_at_call 120; with_reducible refine HI1.out _ _ (hmr'.out.below (below_new _ _)) ?_; intro w3 m3 D3 hm3 hle3 hch3; have hz3 := hch3.size; simp only [World.size_alloc] at hz3; have hz3' : wr.heap.size < w3.heap.size := (by omega); have hz3'' : w.heap.size + 1 < w3.heap.size := (by omega); have y4 := (hch3.cell (p := ⟨wr.heap.size, 4, none⟩) (by simp) hnr).trans (show _ = some (Value.int .i64 ya) by simp [go_sem]); have y5 := (hch3.cell (p := ⟨wr.heap.size, 5, none⟩) (by simp) hnr).trans (show _ = some (Value.int .i64 yb) by simp [go_sem]); have y6 := (hch3.cell (p := ⟨wr.heap.size, 6, none⟩) (by simp) hnr).trans (show _ = some (Value.int .i64 yc) by simp [go_sem]); have y7 := (hch3.cell (p := ⟨wr.heap.size, 7, none⟩) (by simp) hnr).trans (show _ = some (Value.int .i64 yd) by simp [go_sem]); have A3 := Lib.hid ((HAC.out.below (below_new _ _)).chg hch3 hn5))
                      | (go_at_call 120; with_reducible refine HI2.out _ _ _ _ (hm3.below (below_new _ _)) hle3 ?_; intro w4 m4 D4 hm4 hle4 hch4; have hz4 := hch4.size; simp only [World.size_alloc] at hz4; have hz4' : w3.heap.size < w4.heap.size := (by omega); have hz4'' : w.heap.size + 1 < w4.heap.size := (by omega); have hn3 : ¬ w3.heap.size = b := (by omega); have T4 := Lib.hid ((Ad.new w3 ⟨false, n1⟩).chg hch4 hn3); have A4 := Lib.hid ((A3.out.below (below_new _ _)).chg hch4 hn5); obtain ⟨t0, t1, _, _⟩ := T4.out; obtain ⟨s0, s1, s2, s3⟩ := A4.out))
              all_goals
                first
                | (exfalso; omega)
                | (have kk := KK.out w3 w4 hch3 _ hch4
                   go_roundw
                   case rel => exact ⟨k + 1, m4, D4, ⟨false, na⟩, by omega, by go_num, hm4.below (below_new _ _), by rw [HKS.out]; omega, kk.alloc _, A4.out.below (below_new _ _), hac14, Lib.hid (by rw [HNX.out, HBET.out])⟩
                   case measure => simp [intOf]; omega)
            · have HBET := Lib.hid (show (Dv.mk true na).bet (⟨false, n1⟩, ⟨false, n1⟩) = ⟨true, na⟩ by simp [Dv.bet])
              go_wp2_with (first
                      | (go_at_call 120; with_reducible refine HI1.out _ _ (hmr'.out.below (below_new _ _)) ?_; intro w3 m3 D3 hm3 hle3 hch3; have hz3 := hch3.size; simp only [World.size_alloc] at hz3; have hz3' : wr.heap.size < w3.heap.size := (by omega); have hz3'' : w.heap.size + 1 < w3.heap.size := (by omega); have y4 := (hch3.cell (p := ⟨wr.heap.size, 4, none⟩) (by simp) hnr).trans (show _ = some (Value.int .i64 ya) by simp [go_sem]); have y5 := (hch3.cell (p := ⟨wr.heap.size, 5, none⟩) (by simp) hnr).trans (show _ = some (Value.int .i64 yb) by simp [go_sem]); have y6 := (hch3.cell (p := ⟨wr.heap.size, 6, none⟩) (by simp) hnr).trans (show _ = some (Value.int .i64 yc) by simp [go_sem]); have y7 := (hch3.cell (p := ⟨wr.heap.size, 7, none⟩) (by simp) hnr).trans (show _ = some (Value.int .i64 yd) by simp [go_sem]); have A3 := Lib.hid ((HAC.out.below (below_new _ _)).chg hch3 hn5))
                      | (go_at_call 120; with_reducible refine HI2.out _ _ _ _ (hm3.below (below_new _ _)) hle3 ?_; intro w4 m4 D4 hm4 hle4 hch4; have hz4 := hch4.size; simp only [World.size_alloc] at hz4; have hz4' : w3.heap.size < w4.heap.size := (by omega); have hz4'' : w.heap.size + 1 < w4.heap.size := (by omega); have hn3 : ¬ w3.heap.size = b := (by omega); have T4 := Lib.hid ((Ad.new w3 ⟨false, n1⟩).chg hch4 hn3); have A4 := Lib.hid ((A3.out.below (below_new _ _)).chg hch4 hn5); obtain ⟨t0, t1, _, _⟩ := T4.out; obtain ⟨s0, s1, s2, s3⟩ := A4.out))
              all_goals
                first
                | (exfalso; omega)
                | (have kk := KK.out w3 w4 hch3 _ hch4
                   go_roundw
                   case rel => exact ⟨k + 1, m4, D4, ⟨true, na⟩, by omega, by go_num, hm4.below (below_new _ _), by rw [HKS.out]; omega, kk.alloc _, A4.out.below (below_new _ _), hac14, Lib.hid (by rw [HNX.out, HBET.out])⟩
                   case measure => simp [intOf]; omega)
            · have HBET := Lib.hid (show (Dv.mk false na).bet (⟨false, n1⟩, ⟨true, n1⟩) = ⟨false, na⟩ by simp [Dv.bet])
              go_wp2_with (first
                      | (go_at_call 120; with_reducible refine HI1.out _ _ (hmr'.out.below (below_new _ _)) ?_; intro w3 m3 D3 hm3 hle3 hch3; have hz3 := hch3.size; simp only [World.size_alloc] at hz3; have hz3' : wr.heap.size < w3.heap.size := (by omega); have hz3'' : w.heap.size + 1 < w3.heap.size := (by omega); have y4 := (hch3.cell (p := ⟨wr.heap.size, 4, none⟩) (by simp) hnr).trans (show _ = some (Value.int .i64 ya) by simp [go_sem]); have y5 := (hch3.cell (p := ⟨wr.heap.size, 5, none⟩) (by simp) hnr).trans (show _ = some (Value.int .i64 yb) by simp [go_sem]); have y6 := (hch3.cell (p := ⟨wr.heap.size, 6, none⟩) (by simp) hnr).trans (show _ = some (Value.int .i64 yc) by simp [go_sem]); have y7 := (hch3.cell (p := ⟨wr.heap.size, 7, none⟩) (by simp) hnr).trans (show _ = some (Value.int .i64 yd) by simp [go_sem]); have A3 := Lib.hid ((HAC.out.below (below_new _ _)).chg hch3 hn5))
                      | (go_at_call 120; with_reducible refine HI2.out _ _ _ _ (hm3.below (below_new _ _)) hle3 ?_; intro w4 m4 D4 hm4 hle4 hch4; have hz4 := hch4.size; simp only [World.size_alloc] at hz4; have hz4' : w3.heap.size < w4.heap.size := (by omega); have hz4'' : w.heap.size + 1 < w4.heap.size := (by omega); have hn3 : ¬ w3.heap.size = b := (by omega); have T4 := Lib.hid ((Ad.new w3 ⟨false, n1⟩).chg hch4 hn3); have A4 := Lib.hid ((A3.out.below (below_new _ _)).chg hch4 hn5); obtain ⟨t0, t1, _, _⟩ := T4.out; obtain ⟨s0, s1, s2, s3⟩ := A4.out))
              all_goals
                first
                | (exfalso; omega)
                | (have kk := KK.out w3 w4 hch3 _ hch4
                   go_roundw
                   case rel => exact ⟨k + 1, m4, D4, ⟨false, na⟩, by omega, by go_num, hm4.below (below_new _ _), by rw [HKS.out]; omega, kk.alloc _, A4.out.below (below_new _ _), hac14, Lib.hid (by rw [HNX.out, HBET.out])⟩
                   case measure => simp [intOf]; omega)
            · have HBET := Lib.hid (show (Dv.mk true na).bet (⟨false, n1⟩, ⟨true, n1⟩) = ⟨true, na⟩ by simp [Dv.bet])
              go_wp2_with (first
                      | (go_at_call 120; with_reducible refine HI1.out _ _ (hmr'.out.below (below_new _ _)) ?_; intro w3 m3 D3 hm3 hle3 hch3; have hz3 := hch3.size; simp only [World.size_alloc] at hz3; have hz3' : wr.heap.size < w3.heap.size := (by omega); have hz3'' : w.heap.size + 1 < w3.heap.size := (by omega); have y4 := (hch3.cell (p := ⟨wr.heap.size, 4, none⟩) (by simp) hnr).trans (show _ = some (Value.int .i64 ya) by simp [go_sem]); have y5 := (hch3.cell (p := ⟨wr.heap.size, 5, none⟩) (by simp) hnr).trans (show _ = some (Value.int .i64 yb) by simp [go_sem]); have y6 := (hch3.cell (p := ⟨wr.heap.size, 6, none⟩) (by simp) hnr).trans (show _ = some (Value.int .i64 yc) by simp [go_sem]); have y7 := (hch3.cell (p := ⟨wr.heap.size, 7, none⟩) (by simp) hnr).trans (show _ = some (Value.int .i64 yd) by simp [go_sem]); have A3 := Lib.hid ((HAC.out.below (below_new _ _)).chg hch3 hn5))
                      | (go_at_call 120; with_reducible refine HI2.out _ _ _ _ (hm3.below (below_new _ _)) hle3 ?_; intro w4 m4 D4 hm4 hle4 hch4; have hz4 := hch4.size; simp only [World.size_alloc] at hz4; have hz4' : w3.heap.size < w4.heap.size := (by omega); have hz4'' : w.heap.size + 1 < w4.heap.size := (by omega); have hn3 : ¬ w3.heap.size = b := (by omega); have T4 := Lib.hid ((Ad.new w3 ⟨false, n1⟩).chg hch4 hn3); have A4 := Lib.hid ((A3.out.below (below_new _ _)).chg hch4 hn5); obtain ⟨t0, t1, _, _⟩ := T4.out; obtain ⟨s0, s1, s2, s3⟩ := A4.out))
              all_goals
                first
                | (exfalso; omega)
                | (have kk := KK.out w3 w4 hch3 _ hch4
                   go_roundw
                   case rel => exact ⟨k + 1, m4, D4, ⟨true, na⟩, by omega, by go_num, hm4.below (below_new _ _), by rw [HKS.out]; omega, kk.alloc _, A4.out.below (below_new _ _), hac14, Lib.hid (by rw [HNX.out, HBET.out])⟩
                   case measure => simp [intOf]; omega)
          · rcases st2 with _ | _
            · rcases st with _ | _
              · have HBET := Lib.hid (show (Dv.mk false na).bet (⟨true, n1⟩, ⟨false, n1⟩) = ⟨false, na⟩ by simp [Dv.bet])
                go_wp2_with (first
                        | (go_at_call 120; with_reducible refine HI1.out _ _ (hmr'.out.below (below_new _ _)) ?_; intro w3 m3 D3 hm3 hle3 hch3; have hz3 := hch3.size; simp only [World.size_alloc] at hz3; have hz3' : wr.heap.size < w3.heap.size := (by omega); have hz3'' : w.heap.size + 1 < w3.heap.size := (by omega); have y4 := (hch3.cell (p := ⟨wr.heap.size, 4, none⟩) (by simp) hnr).trans (show _ = some (Value.int .i64 ya) by simp [go_sem]); have y5 := (hch3.cell (p := ⟨wr.heap.size, 5, none⟩) (by simp) hnr).trans (show _ = some (Value.int .i64 yb) by simp [go_sem]); have y6 := (hch3.cell (p := ⟨wr.heap.size, 6, none⟩) (by simp) hnr).trans (show _ = some (Value.int .i64 yc) by simp [go_sem]); have y7 := (hch3.cell (p := ⟨wr.heap.size, 7, none⟩) (by simp) hnr).trans (show _ = some (Value.int .i64 yd) by simp [go_sem]); have A3 := Lib.hid ((HAC.out.below (below_new _ _)).chg hch3 hn5))
                        | (go_at_call 120; with_reducible refine HI2.out _ _ _ _ (hm3.below (below_new _ _)) hle3 ?_; intro w4 m4 D4 hm4 hle4 hch4; have hz4 := hch4.size; simp only [World.size_alloc] at hz4; have hz4' : w3.heap.size < w4.heap.size := (by omega); have hz4'' : w.heap.size + 1 < w4.heap.size := (by omega); have hn3 : ¬ w3.heap.size = b := (by omega); have T4 := Lib.hid ((Ad.new w3 ⟨true, n1⟩).chg hch4 hn3); have A4 := Lib.hid ((A3.out.below (below_new _ _)).chg hch4 hn5); obtain ⟨t0, t1, _, _⟩ := T4.out; obtain ⟨s0, s1, s2, s3⟩ := A4.out))
                all_goals
                  first
                  | (exfalso; omega)
                  | (have kk := KK.out w3 w4 hch3 _ hch4
                     go_roundw
                     case rel => exact ⟨k + 1, m4, D4, ⟨false, na⟩, by omega, by go_num, hm4.below (below_new _ _), by rw [HKS.out]; omega, kk.alloc _, A4.out.below (below_new _ _), hac14, Lib.hid (by rw [HNX.out, HBET.out])⟩
                     case measure => simp [intOf]; omega)
              · have HBET := Lib.hid (show (Dv.mk true na).bet (⟨true, n1⟩, ⟨false, n1⟩) = ⟨true, na⟩ by simp [Dv.bet])
                go_wp2_with (first
                        | (go_at_call 120; with_reducible refine HI1.out _ _ (hmr'.out.below (below_new _ _)) ?_; intro w3 m3 D3 hm3 hle3 hch3; have hz3 := hch3.size; simp only [World.size_alloc] at hz3; have hz3' : wr.heap.size < w3.heap.size := (by omega); have hz3'' : w.heap.size + 1 < w3.heap.size := (by omega); have y4 := (hch3.cell (p := ⟨wr.heap.size, 4, none⟩) (by simp) hnr).trans (show _ = some (Value.int .i64 ya) by simp [go_sem]); have y5 := (hch3.cell (p := ⟨wr.heap.size, 5, none⟩) (by simp) hnr).trans (show _ = some (Value.int .i64 yb) by simp [go_sem]); have y6 := (hch3.cell (p := ⟨wr.heap.size, 6, none⟩) (by simp) hnr).trans (show _ = some (Value.int .i64 yc) by simp [go_sem]); have y7 := (hch3.cell (p := ⟨wr.heap.size, 7, none⟩) (by simp) hnr).trans (show _ = some (Value.int .i64 yd) by simp [go_sem]); have A3 := Lib.hid ((HAC.out.below (below_new _ _)).chg hch3 hn5))
                        | (go_at_call 120; with_reducible refine HI2.out _ _ _ _ (hm3.below (below_new _ _)) hle3 ?_; intro w4 m4 D4 hm4 hle4 hch4; have hz4 := hch4.size; simp only [World.size_alloc] at hz4; have hz4' : w3.heap.size < w4.heap.size := (by omega); have hz4'' : w.heap.size + 1 < w4.heap.size := (by omega); have hn3 : ¬ w3.heap.size = b := (by omega); have T4 := Lib.hid ((Ad.new w3 ⟨true, n1⟩).chg hch4 hn3); have A4 := Lib.hid ((A3.out.below (below_new _ _)).chg hch4 hn5); obtain ⟨t0, t1, _, _⟩ := T4.out; obtain ⟨s0, s1, s2, s3⟩ := A4.out))
                all_goals
                  first
                  | (exfalso; omega)
                  | (have kk := KK.out w3 w4 hch3 _ hch4
                     go_roundw
                     case rel => exact ⟨k + 1, m4, D4, ⟨true, na⟩, by omega, by go_num, hm4.below (below_new _ _), by rw [HKS.out]; omega, kk.alloc _, A4.out.below (below_new _ _), hac14, Lib.hid (by rw [HNX.out, HBET.out])⟩
                     case measure => simp [intOf]; omega)
            · rcases st with _ | _
              · have HBET := Lib.hid (show (Dv.mk false na).bet (⟨true, n1⟩, ⟨true, n1⟩) = ⟨true, max n1 n1 + 1⟩ by simp [Dv.bet])
                go_wp2_with (first
                        | (go_at_call 120; with_reducible refine HI1.out _ _ (hmr'.out.below (below_new _ _)) ?_; intro w3 m3 D3 hm3 hle3 hch3; have hz3 := hch3.size; simp only [World.size_alloc] at hz3; have hz3' : wr.heap.size < w3.heap.size := (by omega); have hz3'' : w.heap.size + 1 < w3.heap.size := (by omega); have y4 := (hch3.cell (p := ⟨wr.heap.size, 4, none⟩) (by simp) hnr).trans (show _ = some (Value.int .i64 ya) by simp [go_sem]); have y5 := (hch3.cell (p := ⟨wr.heap.size, 5, none⟩) (by simp) hnr).trans (show _ = some (Value.int .i64 yb) by simp [go_sem]); have y6 := (hch3.cell (p := ⟨wr.heap.size, 6, none⟩) (by simp) hnr).trans (show _ = some (Value.int .i64 yc) by simp [go_sem]); have y7 := (hch3.cell (p := ⟨wr.heap.size, 7, none⟩) (by simp) hnr).trans (show _ = some (Value.int .i64 yd) by simp [go_sem]); have A3 := Lib.hid ((HAC.out.below (below_new _ _)).chg hch3 hn5))
                        | (go_at_call 120; with_reducible refine HI2.out _ _ _ _ (hm3.below (below_new _ _)) hle3 ?_; intro w4 m4 D4 hm4 hle4 hch4; have hz4 := hch4.size; simp only [World.size_alloc] at hz4; have hz4' : w3.heap.size < w4.heap.size := (by omega); have hz4'' : w.heap.size + 1 < w4.heap.size := (by omega); have hn3 : ¬ w3.heap.size = b := (by omega); have T4 := Lib.hid ((Ad.new w3 ⟨true, n1⟩).chg hch4 hn3); have A4 := Lib.hid ((A3.out.below (below_new _ _)).chg hch4 hn5); obtain ⟨t0, t1, _, _⟩ := T4.out; obtain ⟨s0, s1, s2, s3⟩ := A4.out))
                all_goals
                  first
                  | (exfalso; omega)
                  | (have kk := KK.out w3 w4 hch3 _ hch4
                     go_roundw
                     case rel =>
                       have hk5 := chg2 w4 (w.heap.size + 1) (.bool true) (.int .i64 ((n1 + 1 : Nat) : Int))
                       exact ⟨k + 1, m4, D4, ⟨true, n1 + 1⟩, by omega, by go_num, (hm4.keep hk5 (fun i h => by omega)).below (below_new _ _), by rw [HKS.out]; omega, (kk.trans hk5 (fun _ _ h => .inr h)).alloc _, (A4.out.set ⟨true, n1 + 1⟩).below (below_new _ _), by simp only; omega, Lib.hid (by rw [HNX.out, HBET.out, HMX.out])⟩
                     case measure => simp [intOf]; omega)
              · by_cases hlt3 : n1 + 1 < na
                · have HBET := Lib.hid (show (Dv.mk true na).bet (⟨true, n1⟩, ⟨true, n1⟩) = ⟨true, max n1 n1 + 1⟩ by simp [Dv.bet]; omega)
                  go_wp2_with (first
                          | (go_at_call 120; with_reducible refine HI1.out _ _ (hmr'.out.below (below_new _ _)) ?_; intro w3 m3 D3 hm3 hle3 hch3; have hz3 := hch3.size; simp only [World.size_alloc] at hz3; have hz3' : wr.heap.size < w3.heap.size := (by omega); have hz3'' : w.heap.size + 1 < w3.heap.size := (by omega); have y4 := (hch3.cell (p := ⟨wr.heap.size, 4, none⟩) (by simp) hnr).trans (show _ = some (Value.int .i64 ya) by simp [go_sem]); have y5 := (hch3.cell (p := ⟨wr.heap.size, 5, none⟩) (by simp) hnr).trans (show _ = some (Value.int .i64 yb) by simp [go_sem]); have y6 := (hch3.cell (p := ⟨wr.heap.size, 6, none⟩) (by simp) hnr).trans (show _ = some (Value.int .i64 yc) by simp [go_sem]); have y7 := (hch3.cell (p := ⟨wr.heap.size, 7, none⟩) (by simp) hnr).trans (show _ = some (Value.int .i64 yd) by simp [go_sem]); have A3 := Lib.hid ((HAC.out.below (below_new _ _)).chg hch3 hn5))
                          | (go_at_call 120; with_reducible refine HI2.out _ _ _ _ (hm3.below (below_new _ _)) hle3 ?_; intro w4 m4 D4 hm4 hle4 hch4; have hz4 := hch4.size; simp only [World.size_alloc] at hz4; have hz4' : w3.heap.size < w4.heap.size := (by omega); have hz4'' : w.heap.size + 1 < w4.heap.size := (by omega); have hn3 : ¬ w3.heap.size = b := (by omega); have T4 := Lib.hid ((Ad.new w3 ⟨true, n1⟩).chg hch4 hn3); have A4 := Lib.hid ((A3.out.below (below_new _ _)).chg hch4 hn5); obtain ⟨t0, t1, _, _⟩ := T4.out; obtain ⟨s0, s1, s2, s3⟩ := A4.out))
                  all_goals
                    first
                    | (exfalso; omega)
                    | (have kk := KK.out w3 w4 hch3 _ hch4
                       go_roundw
                       case rel =>
                         have hk5 := chg2 w4 (w.heap.size + 1) (.bool true) (.int .i64 ((n1 + 1 : Nat) : Int))
                         exact ⟨k + 1, m4, D4, ⟨true, n1 + 1⟩, by omega, by go_num, (hm4.keep hk5 (fun i h => by omega)).below (below_new _ _), by rw [HKS.out]; omega, (kk.trans hk5 (fun _ _ h => .inr h)).alloc _, (A4.out.set ⟨true, n1 + 1⟩).below (below_new _ _), by simp only; omega, Lib.hid (by rw [HNX.out, HBET.out, HMX.out])⟩
                       case measure => simp [intOf]; omega)
                · have HBET := Lib.hid (show (Dv.mk true na).bet (⟨true, n1⟩, ⟨true, n1⟩) = ⟨true, na⟩ by simp [Dv.bet]; omega)
                  go_wp2_with (first
                          | (go_at_call 120; with_reducible refine HI1.out _ _ (hmr'.out.below (below_new _ _)) ?_; intro w3 m3 D3 hm3 hle3 hch3; have hz3 := hch3.size; simp only [World.size_alloc] at hz3; have hz3' : wr.heap.size < w3.heap.size := (by omega); have hz3'' : w.heap.size + 1 < w3.heap.size := (by omega); have y4 := (hch3.cell (p := ⟨wr.heap.size, 4, none⟩) (by simp) hnr).trans (show _ = some (Value.int .i64 ya) by simp [go_sem]); have y5 := (hch3.cell (p := ⟨wr.heap.size, 5, none⟩) (by simp) hnr).trans (show _ = some (Value.int .i64 yb) by simp [go_sem]); have y6 := (hch3.cell (p := ⟨wr.heap.size, 6, none⟩) (by simp) hnr).trans (show _ = some (Value.int .i64 yc) by simp [go_sem]); have y7 := (hch3.cell (p := ⟨wr.heap.size, 7, none⟩) (by simp) hnr).trans (show _ = some (Value.int .i64 yd) by simp [go_sem]); have A3 := Lib.hid ((HAC.out.below (below_new _ _)).chg hch3 hn5))
                          | (go_at_call 120; with_reducible refine HI2.out _ _ _ _ (hm3.below (below_new _ _)) hle3 ?_; intro w4 m4 D4 hm4 hle4 hch4; have hz4 := hch4.size; simp only [World.size_alloc] at hz4; have hz4' : w3.heap.size < w4.heap.size := (by omega); have hz4'' : w.heap.size + 1 < w4.heap.size := (by omega); have hn3 : ¬ w3.heap.size = b := (by omega); have T4 := Lib.hid ((Ad.new w3 ⟨true, n1⟩).chg hch4 hn3); have A4 := Lib.hid ((A3.out.below (below_new _ _)).chg hch4 hn5); obtain ⟨t0, t1, _, _⟩ := T4.out; obtain ⟨s0, s1, s2, s3⟩ := A4.out))
                  all_goals
                    first
                    | (exfalso; omega)
                    | (have kk := KK.out w3 w4 hch3 _ hch4
                       go_roundw
                       case rel => exact ⟨k + 1, m4, D4, ⟨true, na⟩, by omega, by go_num, hm4.below (below_new _ _), by rw [HKS.out]; omega, kk.alloc _, A4.out.below (below_new _ _), hac14, Lib.hid (by rw [HNX.out, HBET.out])⟩
                       case measure => simp [intOf]; omega)
    · have e : L.take k = L := List.take_of_length_le (by omega)
      have hkl : k = L.length := by omega
      have hF := HACC.out
      rw [e] at hF
      have hn4 : ¬ (w.heap.size = b ∨ w.heap.size = w.heap.size + 1) := by omega
      obtain ⟨r0, r1, v0, v1⟩ := B4.out.chg hcr hn4
      obtain ⟨c0, c1, _, _⟩ := hac
      have HF := Lib.hid hF
      have HCR := Lib.hid hcr
      rw [hkl] at hle
      have HKL := Lib.hid hkl
      clear hmr e hF hkl hcr
      go_wp2
      rw [← HF.out]
      refine bodyPost_ret (v := .agg #[.bool acc.st, .int .i64 (acc.n : Nat)]) (by simp [results, Tryd.results118, go_sem, r0, r1]) rfl ⟨rfl, m', D', hmr'.out.keep (chg2 wr w.heap.size _ _) (fun i h => by omega), hle, ?_⟩
      exact ((Chg.of_below HB.out).trans HCR.out (fun i hi h => by omega)).trans (chg2 wr w.heap.size _ _) (fun i hi h => by omega)
end Go.Proofs.YtlollcabnfncpaaDoor
