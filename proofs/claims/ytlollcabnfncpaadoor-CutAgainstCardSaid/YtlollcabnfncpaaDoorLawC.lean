/-
  The walk of CutAgainst.
-/
import Derived.Test.YtlollcabnfncpaaDoorLawA
import Derived.Test.YtlollcabnfncpaaDoorRefM
namespace Go.Proofs.YtlollcabnfncpaaDoor
open Go.RowKit

theorem solS_len (r c l v : Int) : ((solS r c l v).getD []).length ≤ 36 := by
  unfold solS
  by_cases h0 : chkS r c l v = 0
  · rw [if_pos h0]
    obtain ⟨s, hs, rfl, rfl, rfl, rfl⟩ := ok_of_chk h0
    rcases h : List.find? (solidP ⟨(s.r : Int).toNat, (s.c : Int).toNat, (s.l : Int).toNat, (s.w : Int).toNat⟩) (allF ⟨(s.r : Int).toNat, (s.c : Int).toNat, (s.l : Int).toNat, (s.w : Int).toNat⟩) with _ | x
    · simp
    · exact filC_len hs (List.mem_of_find?_eq_some h)
  · rw [if_neg h0]; simp
theorem colF_len (r c l v k : Int) : (colF r c l v k).length ≤ 6 := by
  unfold colF
  split
  · rw [colA_len]; omega
  · simp

theorem same_q {L : List Int} {A D : Option Addr} {c d : Nat} {w0 W : World} (hn : L.length < 1000000) (hA : IntsAt W W.heap.size A L) (hD : IntsAt W W.heap.size D L) (hb : Below w0.heap.size w0 W) (Q : Ending → World → Prop) (hQ : ∀ w', Below w0.heap.size w0 w' → Q (.returned (.bool true)) w') :
    Calls Tryd.prog 34 #[.slice A L.length c, .slice D L.length d] W Q :=
  (same_any A D c d L L W hn hA hD).mono fun e w' ⟨he, h⟩ => by
    rw [he, decide_eq_true rfl]
    exact hQ w' (hb.trans (h.mono hb.size))

set_option maxRecDepth 100000 in
set_option maxHeartbeats 4000000 in
theorem lawAgainst_any (r c l v k : Int) (w : World) (ht : TabW w) :
    Calls Tryd.prog 6 #[.agg #[.int .i64 r, .int .i64 c, .int .i64 l, .int .i64 v], .int .i64 k] w fun e w' => e = .returned (.bool true) ∧ Below w.heap.size w w' := by
  have HK := Lib.hid (fun W => @two_cells w W r c l v)
  have hn := solS_len r c l v
  have hn2 := colF_len r c l v k
  obtain ⟨W0, hW0⟩ : ∃ W0, W0 = (w.alloc (.cells #[.int .i64 r, .int .i64 c, .int .i64 l, .int .i64 v] 23)).alloc (.cells #[.int .i64 r, .int .i64 c, .int .i64 l, .int .i64 v] 24) := ⟨_, rfl⟩
  have HB := Lib.hid (show Below w.heap.size w W0 from hW0 ▸ ((Below.refl _ _).alloc (Nat.le_refl _) _).alloc (by simp) _)
  have HT := Lib.hid (ht.below HB.out)
  have HZ := Lib.hid (show w.heap.size ≤ W0.heap.size by rw [hW0]; simp; omega)
  have H1 := Lib.hid (fun W => solidF_any r c l v W)
  have H2 := Lib.hid (rsolid_any r c l v)
  have H3 := Lib.hid (fun W => coloursF_any r c l v k W)
  have H4 := Lib.hid (fun W => rcoloursF_any r c l v k W)
  have H5 := Lib.hid (fun W => against_any r c l v W)
  have H6 := Lib.hid (fun W => ragainst_any r c l v W)
  have hbb := Below.refl W0.heap.size W0
  clear ht
  rw [← hW0] at HK
  generalize errS r c l v (solS r c l v) = ze at *
  unfold RetFirst at H1
  unfold RetRFirst at H2
  unfold RetIntsE at H3 H4
  generalize (solS r c l v).getD [] = L at *
  generalize colF r c l v k = C at *
  generalize colE r c l v k = ce at *
  generalize agaF r c l v = ag at *
  obtain ⟨g1, g2, g3⟩ := ag
  dsimp only at H5 H6
  have HN := Lib.hid hn
  have HN2 := Lib.hid hn2
  clear hn hn2
  go_enter Tryd.func6, Tryd.ntmps6
  go_wp2_with fail
  rw [← hW0]
  clear hW0
  refine (H1.out _ HT.out).mono ?_
  rintro e w1 ⟨A1, c1, rfl, hA1, hb1⟩
  obtain ⟨⟨s0, s1, s2, s3⟩, t0, t1, t2, t3⟩ := HK.out _ hb1
  go_wp2_with fail
  refine (H2.out _).mono ?_
  rintro e w2 ⟨A2, c2, rfl, hA2, hb2'⟩
  have hb2 := hb1.trans (hb2'.mono hb1.size)
  replace hA1 := hA1.up hb2'
  clear s0 s1 s2 s3 t0 t1 t2 t3 hb1 hb2'
  obtain ⟨⟨s0, s1, s2, s3⟩, t0, t1, t2, t3⟩ := HK.out _ hb2
  go_wp2_with fail
  refine (H3.out _).mono ?_
  rintro e w3 ⟨A3, c3, rfl, hA3, hb3'⟩
  have hb3 := hb2.trans (hb3'.mono hb2.size)
  replace hA1 := hA1.up hb3'
  replace hA2 := hA2.up hb3'
  clear s0 s1 s2 s3 t0 t1 t2 t3 hb2 hb3'
  obtain ⟨⟨s0, s1, s2, s3⟩, t0, t1, t2, t3⟩ := HK.out _ hb3
  go_wp2_with fail
  refine (H4.out _).mono ?_
  rintro e w4 ⟨A4, c4, rfl, hA4, hb4'⟩
  have hb4 := hb3.trans (hb4'.mono hb3.size)
  replace hA1 := hA1.up hb4'
  replace hA2 := hA2.up hb4'
  replace hA3 := hA3.up hb4'
  clear s0 s1 s2 s3 t0 t1 t2 t3 hb3 hb4'
  obtain ⟨⟨s0, s1, s2, s3⟩, t0, t1, t2, t3⟩ := HK.out _ hb4
  have ht4 := HT.out.below hb4
  go_wp2_with fail
  refine (H5.out _ ht4).mono ?_
  rintro e w5 ⟨rfl, hb5'⟩
  have hb5 := hb4.trans (hb5'.mono hb4.size)
  replace hA1 := hA1.up hb5'
  replace hA2 := hA2.up hb5'
  replace hA3 := hA3.up hb5'
  replace hA4 := hA4.up hb5'
  clear s0 s1 s2 s3 t0 t1 t2 t3 hb4 hb5' ht4
  obtain ⟨⟨s0, s1, s2, s3⟩, t0, t1, t2, t3⟩ := HK.out _ hb5
  go_wp2_with fail
  refine (H6.out _).mono ?_
  rintro e w6 ⟨rfl, hb6'⟩
  have hb6 := hb5.trans (hb6'.mono hb5.size)
  have HA1 := Lib.hid (hA1.up hb6')
  have HA2 := Lib.hid (hA2.up hb6')
  have HA3 := Lib.hid (hA3.up hb6')
  have HA4 := Lib.hid (hA4.up hb6')
  clear s0 s1 s2 s3 t0 t1 t2 t3 hb5 hb6' hA1 hA2 hA3 hA4
  have ht6 := HT.out.below hb6
  have HF := Lib.hid (HB.out.trans (hb6.mono HZ.out))
  have HZ4 := Lib.hid (show w.heap.size ≤ w6.heap.size from Nat.le_trans HZ.out hb6.size)
  have Q19 := Lib.hid (fun W (Q : Ending → World → Prop) (hb : Below w6.heap.size w6 W) => alike_q (c := c1) (d := c2) (by have := HN.out; omega) (HA1.out.up hb) (HA2.out.up hb) hb Q)
  have Q34 := Lib.hid (fun W (Q : Ending → World → Prop) (hb : Below w6.heap.size w6 W) => same_q (c := c3) (d := c4) (by have := HN2.out; omega) (HA3.out.up hb) (HA4.out.up hb) hb Q)
  have Q22 := Lib.hid (fun W (Q : Ending → World → Prop) (hb : Below w6.heap.size w6 W) (hQ : ∀ w', Below w6.heap.size w6 w' → Q (.returned (.bool true)) w') => (works_any W (ht6.below hb)).mono fun e w' ⟨he, h⟩ => he ▸ hQ w' (hb.trans (h.mono hb.size)))
  have hbd := (Below.refl w6.heap.size w6).drew
  have hbr := (Below.refl w6.heap.size w6)
  obtain ⟨W6, rfl⟩ : ∃ W6 : World, W6 = w6 := ⟨_, rfl⟩
  clear hb6 ht6 H1 H2 H3 H4 H5 H6 HT HZ HB hbb HN HN2 HA1 HA2 HA3 HA4 HK
  go_wp2_with (first
      | (go_at_call 19; with_reducible refine Q19.out _ _ (by assumption) ?_; intro w7 hb7)
      | (go_at_call 34; with_reducible refine Q34.out _ _ (by assumption) ?_; intro w8 hb8)
      | (go_at_call 22; with_reducible refine Q22.out _ _ (by assumption) ?_; intro w9 hb9))
  go_ret
  exact ⟨rfl, HF.out.trans (Below.mono hb9 HZ4.out)⟩
end Go.Proofs.YtlollcabnfncpaaDoor
