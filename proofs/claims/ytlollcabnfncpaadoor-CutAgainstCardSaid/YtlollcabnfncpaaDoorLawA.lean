/-
  The walk of CutSheets.
-/
import Derived.Test.YtlollcabnfncpaaDoorWorks
import Derived.Test.YtlollcabnfncpaaDoorRefH
import Derived.Test.YtlollcabnfncpaaDoorLenA
namespace Go.Proofs.YtlollcabnfncpaaDoor
open Go.RowKit

/-- The two sheets of a statement lie where they were put. -/
theorem two_cells {w W : World} {r c l v : Int} (h : Below ((w.alloc (.cells #[.int .i64 r, .int .i64 c, .int .i64 l, .int .i64 v] 23)).alloc (.cells #[.int .i64 r, .int .i64 c, .int .i64 l, .int .i64 v] 24)).heap.size ((w.alloc (.cells #[.int .i64 r, .int .i64 c, .int .i64 l, .int .i64 v] 23)).alloc (.cells #[.int .i64 r, .int .i64 c, .int .i64 l, .int .i64 v] 24)) W) :
    (W.cell? ⟨w.heap.size, 0, none⟩ = some (.int .i64 r) ∧ W.cell? ⟨w.heap.size, 1, none⟩ = some (.int .i64 c) ∧ W.cell? ⟨w.heap.size, 2, none⟩ = some (.int .i64 l) ∧ W.cell? ⟨w.heap.size, 3, none⟩ = some (.int .i64 v)) ∧
    W.cell? ⟨w.heap.size + 1, 0, none⟩ = some (.int .i64 r) ∧ W.cell? ⟨w.heap.size + 1, 1, none⟩ = some (.int .i64 c) ∧ W.cell? ⟨w.heap.size + 1, 2, none⟩ = some (.int .i64 l) ∧ W.cell? ⟨w.heap.size + 1, 3, none⟩ = some (.int .i64 v) := by
  refine ⟨⟨?_, ?_, ?_, ?_⟩, ?_, ?_, ?_, ?_⟩
  all_goals
    refine (h.cell (by simp <;> omega)).trans ?_
    simp [go_sem]

theorem filS_len (r c l v : Int) : ((filS r c l v).getD []).length ≤ 36 := by
  unfold filS
  by_cases h0 : chkS r c l v = 0
  · rw [if_pos h0]
    obtain ⟨s, hs, rfl, rfl, rfl, rfl⟩ := ok_of_chk h0
    rcases h : List.find? (fun _ => true) (allF ⟨(s.r : Int).toNat, (s.c : Int).toNat, (s.l : Int).toNat, (s.w : Int).toNat⟩) with _ | x
    · simp
    · exact filC_len hs (List.mem_of_find?_eq_some h)
  · rw [if_neg h0]; simp

theorem alike_q {L : List Cd} {A D : Option Addr} {c d : Nat} {w0 W : World} (hn : L.length < 1000000) (hA : CardsAt W W.heap.size A L) (hD : RcdsAt W W.heap.size D L) (hb : Below w0.heap.size w0 W) (Q : Ending → World → Prop) (hQ : ∀ w', Below w0.heap.size w0 w' → Q (.returned (.bool true)) w') :
    Calls Tryd.prog 19 #[.slice A L.length c, .slice D L.length d] W Q :=
  (alike_any A D c d L L W hn hA hD).mono fun e w' ⟨he, h⟩ => by
    rw [he, decide_eq_true rfl]
    exact hQ w' (hb.trans (h.mono hb.size))

set_option maxRecDepth 100000 in
set_option maxHeartbeats 4000000 in
theorem lawSheets_any (r c l v : Int) (w : World) (ht : TabW w) :
    Calls Tryd.prog 3 #[.agg #[.int .i64 r, .int .i64 c, .int .i64 l, .int .i64 v]] w fun e w' => e = .returned (.bool true) ∧ Below w.heap.size w w' := by
  have HK := Lib.hid (fun W => @two_cells w W r c l v)
  have hn := filS_len r c l v
  obtain ⟨W0, hW0⟩ : ∃ W0, W0 = (w.alloc (.cells #[.int .i64 r, .int .i64 c, .int .i64 l, .int .i64 v] 23)).alloc (.cells #[.int .i64 r, .int .i64 c, .int .i64 l, .int .i64 v] 24) := ⟨_, rfl⟩
  have HB := Lib.hid (show Below w.heap.size w W0 from hW0 ▸ ((Below.refl _ _).alloc (Nat.le_refl _) _).alloc (by simp) _)
  have HT := Lib.hid (ht.below HB.out)
  have HZ := Lib.hid (show w.heap.size ≤ W0.heap.size by rw [hW0]; simp; omega)
  have H1 := Lib.hid (fun W => can_any r c l v W)
  have H2 := Lib.hid (rcan_any r c l v)
  have H3 := Lib.hid (fun W => fill_any r c l v W)
  have H4 := Lib.hid (rfill_any r c l v)
  have H5 := Lib.hid (fun W => check_any r c l v W)
  have H6 := Lib.hid (fun W => rcheck_any r c l v W)
  have hbb := Below.refl W0.heap.size W0
  clear ht
  rw [← hW0] at HK
  generalize canS r c l v = cb at *
  generalize errS r c l v (filS r c l v) = ze at *
  generalize chkS r c l v = ck at *
  unfold RetFirst at H3
  unfold RetRFirst at H4
  generalize (filS r c l v).getD [] = L at *
  have HN := Lib.hid hn
  clear hn
  go_enter Tryd.func3, Tryd.ntmps3
  go_wp2_with fail
  rw [← hW0]
  clear hW0
  refine (H1.out _ HT.out).mono ?_
  rintro e w1 ⟨rfl, hb1⟩
  obtain ⟨⟨s0, s1, s2, s3⟩, t0, t1, t2, t3⟩ := HK.out _ hb1
  go_wp2_with fail
  refine (H2.out _).mono ?_
  rintro e w2 ⟨rfl, hb2⟩
  replace hb2 := hb1.trans (hb2.mono hb1.size)
  clear s0 s1 s2 s3 t0 t1 t2 t3 hb1
  obtain ⟨⟨s0, s1, s2, s3⟩, t0, t1, t2, t3⟩ := HK.out _ hb2
  have ht2 := HT.out.below hb2
  go_wp2_with fail
  refine (H3.out _ ht2).mono ?_
  rintro e w3 ⟨A1, c1, rfl, hA1, hb3⟩
  replace hb3 := hb2.trans (hb3.mono hb2.size)
  clear s0 s1 s2 s3 t0 t1 t2 t3 hb2 ht2
  obtain ⟨⟨s0, s1, s2, s3⟩, t0, t1, t2, t3⟩ := HK.out _ hb3
  go_wp2_with fail
  refine (H4.out _).mono ?_
  rintro e w4 ⟨A2, c2, rfl, hA2, hb4'⟩
  have hb4 := hb3.trans (hb4'.mono hb3.size)
  replace hA1 := hA1.up hb4'
  clear s0 s1 s2 s3 t0 t1 t2 t3 hb3 hb4'
  have HA1 := Lib.hid hA1
  have HA2 := Lib.hid hA2
  have ht4 := HT.out.below hb4
  have hFB := HB.out.trans (hb4.mono HZ.out)
  have HK4 := Lib.hid (fun W (h : Below w4.heap.size w4 W) => HK.out W (hb4.trans (h.mono hb4.size)))
  clear hA1 hA2 HK
  have Q19 := Lib.hid (fun W (Q : Ending → World → Prop) (hb : Below w4.heap.size w4 W) => alike_q (c := c1) (d := c2) (by have := HN.out; omega) (HA1.out.up hb) (HA2.out.up hb) hb Q)
  have Q20 := Lib.hid (fun W (Q : Ending → World → Prop) (hb : Below w4.heap.size w4 W) (hQ : ∀ w', Below w4.heap.size w4 w' → Q (.returned (.int .i64 ck)) w') => (H5.out W).mono fun e w' ⟨he, h⟩ => he ▸ hQ w' (hb.trans (h.mono hb.size)))
  have Q21 := Lib.hid (fun W (Q : Ending → World → Prop) (hb : Below w4.heap.size w4 W) (hQ : ∀ w', Below w4.heap.size w4 w' → Q (.returned (.int .i64 ck)) w') => (H6.out W).mono fun e w' ⟨he, h⟩ => he ▸ hQ w' (hb.trans (h.mono hb.size)))
  have Q22 := Lib.hid (fun W (Q : Ending → World → Prop) (hb : Below w4.heap.size w4 W) (hQ : ∀ w', Below w4.heap.size w4 w' → Q (.returned (.bool true)) w') => (works_any W (ht4.below hb)).mono fun e w' ⟨he, h⟩ => he ▸ hQ w' (hb.trans (h.mono hb.size)))
  have HF := Lib.hid hFB
  have HZ4 := Lib.hid (show w.heap.size ≤ w4.heap.size from Nat.le_trans HZ.out hb4.size)
  have hbd := (Below.refl w4.heap.size w4).drew
  have hbr := (Below.refl w4.heap.size w4)
  obtain ⟨W4, rfl⟩ : ∃ W4 : World, W4 = w4 := ⟨_, rfl⟩
  clear hb4 ht4 hFB H1 H2 H3 H4 H5 H6 HT HZ HB hbb HN HA1 HA2
  go_wp2_with fail
  go_region_held3 (fun W => (W.cell? ⟨w.heap.size, 0, none⟩ = some (.int .i64 r) ∧ W.cell? ⟨w.heap.size, 1, none⟩ = some (.int .i64 c) ∧ W.cell? ⟨w.heap.size, 2, none⟩ = some (.int .i64 l) ∧ W.cell? ⟨w.heap.size, 3, none⟩ = some (.int .i64 v)) ∧
    W.cell? ⟨w.heap.size + 1, 0, none⟩ = some (.int .i64 r) ∧ W.cell? ⟨w.heap.size + 1, 1, none⟩ = some (.int .i64 c) ∧ W.cell? ⟨w.heap.size + 1, 2, none⟩ = some (.int .i64 l) ∧ W.cell? ⟨w.heap.size + 1, 3, none⟩ = some (.int .i64 v))
    (exact HK4.out _ (by assumption))
    (first
      | (go_at_call 19; with_reducible refine Q19.out _ _ (by assumption) ?_; intro w5 hb5)
      | (go_at_call 20; with_reducible refine Q20.out _ _ (by assumption) ?_; intro w6 hb6)
      | (go_at_call 21; with_reducible refine Q21.out _ _ (by assumption) ?_; intro w7 hb7)
      | (go_at_call 22; with_reducible refine Q22.out _ _ (by assumption) ?_; intro w8 hb8))
  all_goals
    go_wp2
    go_ret
    exact ⟨rfl, HF.out.trans (Below.mono (by assumption) HZ4.out)⟩
end Go.Proofs.YtlollcabnfncpaaDoor
