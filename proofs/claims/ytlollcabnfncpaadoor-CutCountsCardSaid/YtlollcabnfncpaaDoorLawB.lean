/-
  The walk of CutCounts.
-/
import Derived.Test.YtlollcabnfncpaaDoorLawA
import Derived.Test.YtlollcabnfncpaaDoorRefI
namespace Go.Proofs.YtlollcabnfncpaaDoor
open Go.RowKit

set_option maxRecDepth 100000 in
set_option maxHeartbeats 4000000 in
theorem lawCounts_any (r c l v : Int) (w : World) (ht : TabW w) :
    Calls Tryd.prog 4 #[.agg #[.int .i64 r, .int .i64 c, .int .i64 l, .int .i64 v]] w fun e w' => e = .returned (.bool true) ∧ Below w.heap.size w w' := by
  have HK := Lib.hid (fun W => @two_cells w W r c l v)
  obtain ⟨W0, hW0⟩ : ∃ W0, W0 = (w.alloc (.cells #[.int .i64 r, .int .i64 c, .int .i64 l, .int .i64 v] 23)).alloc (.cells #[.int .i64 r, .int .i64 c, .int .i64 l, .int .i64 v] 24) := ⟨_, rfl⟩
  have HB := Lib.hid (show Below w.heap.size w W0 from hW0 ▸ ((Below.refl _ _).alloc (Nat.le_refl _) _).alloc (by simp) _)
  have HT := Lib.hid (ht.below HB.out)
  have HZ := Lib.hid (show w.heap.size ≤ W0.heap.size by rw [hW0]; simp; omega)
  have H1 := Lib.hid (fun W => count_any r c l v W)
  have H2 := Lib.hid (rcount_any r c l v)
  have H3 := Lib.hid (fun W => upright_any r c l v W)
  have H4 := Lib.hid (rupright_any r c l v)
  have hbb := Below.refl W0.heap.size W0
  clear ht
  rw [← hW0] at HK
  generalize cntS r c l v = cb at *
  generalize upE r c l v = ze at *
  generalize chkS r c l v = ck at *
  generalize upS r c l v = en at *
  obtain ⟨lo, hi, fd⟩ := en
  dsimp only at H3 H4
  go_enter Tryd.func4, Tryd.ntmps4
  go_wp2_with fail
  rw [← hW0]
  clear hW0
  refine (H1.out _ HT.out).mono ?_
  rintro e w1 ⟨rfl, hb1⟩
  obtain ⟨⟨s0, s1, s2, s3⟩, t0, t1, t2, t3⟩ := HK.out _ hb1
  go_wp2_with fail
  refine (H2.out _).mono ?_
  rintro e w2 ⟨rfl, hb2⟩
  replace hb2 := hb1.trans (hb2.mono hb1.size)
  clear s0 s1 s2 s3 t0 t1 t2 t3 hb1
  obtain ⟨⟨s0, s1, s2, s3⟩, t0, t1, t2, t3⟩ := HK.out _ hb2
  have ht2 := HT.out.below hb2
  go_wp2_with fail
  refine (H3.out _ ht2).mono ?_
  rintro e w3 ⟨rfl, hb3⟩
  replace hb3 := hb2.trans (hb3.mono hb2.size)
  clear s0 s1 s2 s3 t0 t1 t2 t3 hb2 ht2
  obtain ⟨⟨s0, s1, s2, s3⟩, t0, t1, t2, t3⟩ := HK.out _ hb3
  go_wp2_with fail
  refine (H4.out _).mono ?_
  rintro e w4 ⟨rfl, hb4'⟩
  have hb4 := hb3.trans (hb4'.mono hb3.size)
  clear s0 s1 s2 s3 t0 t1 t2 t3 hb3 hb4'
  have ht4 := HT.out.below hb4
  have HF := Lib.hid (HB.out.trans (hb4.mono HZ.out))
  have HZ4 := Lib.hid (show w.heap.size ≤ w4.heap.size from Nat.le_trans HZ.out hb4.size)
  clear hb4 H1 H2 H3 H4 HT HZ HB hbb HK
  go_wp2_with fail
  refine (works_any _ ht4).mono ?_
  rintro e w5 ⟨rfl, hb5⟩
  have HR := Lib.hid (HF.out.trans (hb5.mono HZ4.out))
  go_wp2
  go_ret
  exact ⟨rfl, HR.out⟩
end Go.Proofs.YtlollcabnfncpaaDoor
