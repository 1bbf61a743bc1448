/-
  How many different backs have given amounts of colours.
-/
import Derived.Test.YtbcbaaapogejiaaDoorExpC
namespace Go.Proofs.YtbcbaaapogejiaaDoor
open Go.RowKit

theorem gcells6 (W : World) (a b c d e : Value) : (W.alloc (.cells #[a, b, c, d, e] 115)).cell? ⟨W.heap.size, 0, none⟩ = some a ∧ (W.alloc (.cells #[a, b, c, d, e] 115)).cell? ⟨W.heap.size, 1, none⟩ = some b ∧ (W.alloc (.cells #[a, b, c, d, e] 115)).cell? ⟨W.heap.size, 2, none⟩ = some c ∧ (W.alloc (.cells #[a, b, c, d, e] 115)).cell? ⟨W.heap.size, 3, none⟩ = some d ∧ (W.alloc (.cells #[a, b, c, d, e] 115)).cell? ⟨W.heap.size, 4, none⟩ = some e := by
  refine ⟨?_, ?_, ?_, ?_, ?_⟩ <;> (rw [cell_of_row _ _ _ _ _ _ (heap_new _ _)]; rfl)

set_option maxRecDepth 100000 in
set_option maxHeartbeats 2000000 in
theorem withF_ok (p : Pr) (hp : p.Ok) (D TA : Option Addr) (d tc : Nat) (xs : List Nat) (w : World) (hm : MovW w) (hT : IntsAt w w.heap.size TA (intsN p.T)) (hD : IntsAt w w.heap.size D (intsN xs)) (hxl : xs.length = p.K) (hd : xs.length ≤ d) (hxn : ∀ x ∈ xs, x ≤ p.n) (hsum : xs.foldl (· + ·) 0 = p.n) :
    Calls Tryd.prog 39 #[.agg #[.int .i64 p.R, .int .i64 p.C, .int .i64 p.K, .slice TA p.T.length tc], .slice D xs.length d] w fun e w' => e = .returned (.tuple #[.int .i64 (p.withC xs : Nat), .int .i64 0]) ∧ Below w.heap.size w w' := by
  have hb1 := below_new w (.cells #[.int .i64 p.R, .int .i64 p.C, .int .i64 p.K, .slice TA p.T.length tc] 24)
  have hbx := hb1.trans ((below_new (w.alloc (.cells #[.int .i64 p.R, .int .i64 p.C, .int .i64 p.K, .slice TA p.T.length tc] 24)) (.cells #[.slice D xs.length d] 22)).mono hb1.size)
  have HP := Lib.hid (plate_none p hp TA tc _ (hm.below hbx) (hT.up hbx))
  have hk4 := hp.k4
  have hn16 := hp.n16.2
  have HCe := Lib.hid (fun FA fc W => cells_any p.R p.C p.K (.slice TA p.T.length tc) (.slice FA p.T.length fc) W (by have := hp.r4; omega) (by have := hp.c4; omega))
  rw [show p.R * p.C = p.n from rfl] at HCe
  have HK := Lib.hid (fun W FA fc gb (hW : Below w.heap.size w W) hF (hg : gb < W.heap.size) (h2 : W.cell? ⟨gb, 0, none⟩ = some (.slice D xs.length d)) => average89_any (fun l => withN xs l) gb p.R p.C p.K TA FA tc fc p.T p.from W hF (from_len p) hp.len hp.pos (fun s hs => by
    obtain ⟨h1, h2, h3⟩ := loops_of_press hp s hs
    exact ⟨h1, h2, h3, withN_le (by omega) h3⟩) (fun l W' hW' hl => with89_any xs D d l gb W' (hD.up (hW.trans (hW'.mono hW.size))) (by omega) hd hl (fun a ha => by have := hxn a ha; omega) (Nat.lt_of_lt_of_le hg hW'.size) ((hW'.cell (p := ⟨gb, 0, none⟩) hg).trans h2)))
  rw [show sumG (fun l => withN xs l) p.from / p.T.length = p.withC xs from rfl] at HK
  obtain ⟨v, hv⟩ : ∃ v, v = p.withC xs := ⟨_, rfl⟩
  rw [← hv] at HK ⊢
  have HD := Lib.hid hD
  have HX := Lib.hid hxn
  have HSu := Lib.hid hsum
  have hne : ((xs.length : Int) != (p.K : Int)) = false := bne_eq_false_iff_eq.2 (by omega)
  have hmf : ∀ fn first cap w, (Instr.makeFunc fn first cap).run Tryd.prog w = .ok (.func fn first cap) w := fun _ _ _ _ => rfl
  have hxl' : xs.length ≤ 4 := by omega
  generalize p.n = n at *
  clear hm hT hD hp hxn hsum hxl hv hk4
  go_enter Tryd.func39, Tryd.ntmps39
  go_upto_region 4 with (first
    | (go_at_call 74; refine (HP.out).mono ?_; rintro e w1 ⟨FA, fc, rfl, hF, hb2⟩; have hb3 := hbx.trans (hb2.mono hbx.size); have hb4 := hb3.trans ((below_new w1 (.cells #[.int .i64 p.R, .int .i64 p.C, .int .i64 p.K, .slice TA p.T.length tc, .slice FA p.T.length fc] 115)).mono hb3.size); have hF2 := hF.up (below_new w1 (.cells #[.int .i64 p.R, .int .i64 p.C, .int .i64 p.K, .slice TA p.T.length tc, .slice FA p.T.length fc] 115)); have hg3 := gcells6 w1 (.int .i64 p.R) (.int .i64 p.C) (.int .i64 p.K) (.slice TA p.T.length tc) (.slice FA p.T.length fc); have hgs : w1.heap.size < (w1.alloc (.cells #[.int .i64 p.R, .int .i64 p.C, .int .i64 p.K, .slice TA p.T.length tc, .slice FA p.T.length fc] 115)).heap.size := (by simp); have c0 := (hb2.cell (p := ⟨w.heap.size + 1, 0, none⟩) (by simp)).trans (by rw [cell_of_row _ _ _ _ _ _ (heap_at _ _ _ (by simp))]; rfl : ((w.alloc (.cells #[.int .i64 p.R, .int .i64 p.C, .int .i64 p.K, .slice TA p.T.length tc] 24)).alloc (.cells #[.slice D xs.length d] 22)).cell? ⟨w.heap.size + 1, 0, none⟩ = some (.slice D xs.length d)))
    | fail)
  have hc3 := (bcell (below_new w1 (.cells #[.int .i64 p.R, .int .i64 p.C, .int .i64 p.K, .slice TA p.T.length tc, .slice FA p.T.length fc] 115))).1 (w.heap.size + 1) 0 (by have := hb2.size; simp at this; omega)
  rw [c0] at hc3
  clear c0
  generalize hw3 : w1.alloc (.cells #[.int .i64 p.R, .int .i64 p.C, .int .i64 p.K, .slice TA p.T.length tc, .slice FA p.T.length fc] 115) = w3 at *
  clear hw3
  have hs3 : w.heap.size + 1 < w3.heap.size := by have := hb2.size; simp at this; omega
  have HG := Lib.hid (fun (W : World) (hW : Below w3.heap.size w3 W) => show (W.cell? ⟨w1.heap.size, 0, none⟩ = some (.int .i64 p.R) ∧ W.cell? ⟨w1.heap.size, 1, none⟩ = some (.int .i64 p.C) ∧ W.cell? ⟨w1.heap.size, 2, none⟩ = some (.int .i64 p.K) ∧ W.cell? ⟨w1.heap.size, 3, none⟩ = some (.slice TA p.T.length tc) ∧ W.cell? ⟨w1.heap.size, 4, none⟩ = some (.slice FA p.T.length fc)) ∧ W.cell? ⟨w.heap.size + 1, 0, none⟩ = some (.slice D xs.length d) from
    ⟨⟨(hW.cell (p := ⟨w1.heap.size, 0, none⟩) hgs).trans hg3.1, (hW.cell (p := ⟨w1.heap.size, 1, none⟩) hgs).trans hg3.2.1, (hW.cell (p := ⟨w1.heap.size, 2, none⟩) hgs).trans hg3.2.2.1, (hW.cell (p := ⟨w1.heap.size, 3, none⟩) hgs).trans hg3.2.2.2.1, (hW.cell (p := ⟨w1.heap.size, 4, none⟩) hgs).trans hg3.2.2.2.2⟩, (hW.cell (p := ⟨w.heap.size + 1, 0, none⟩) hs3).trans hc3⟩)
  obtain ⟨⟨p0, p1, p2, p3, p4⟩, p5⟩ := HG.out w3 (Below.refl _ _)
  have HF2 := Lib.hid hF2
  clear hg3 hc3 hF hF2
  go_wp2
  clear p0 p1 p2 p3 p4 p5
  go_loopw [8, 27] (fun s i wr => ∃ (k S : Nat), k ≤ xs.length ∧ i = .int .i64 k ∧ s = .int .i64 S ∧ S ≤ k * 16 ∧ Hid (S = (xs.take k).foldl (· + ·) 0) ∧ Below w3.heap.size w3 wr) (fun _ i _ => xs.length - (intOf i).toNat)
  case atStart => exact ⟨0, 0, Nat.zero_le _, rfl, rfl, Nat.zero_le _, Lib.hid rfl, Below.refl _ _⟩
  case round =>
    obtain ⟨k, S, hk, rfl, rfl, hSk, HS, hbr⟩ := hrel
    have hbwr := hb4.trans (hbr.mono hb4.size)
    obtain ⟨⟨p0, p1, p2, p3, p4⟩, p5⟩ := HG.out wr hbr
    by_cases hlt : k < xs.length
    · have hx : xs[k]? = some xs[k] := List.getElem?_eq_getElem hlt
      have hxn := HX.out _ (mem_of_get hx)
      obtain ⟨db, dq, rfl, hdb, d1⟩ := (HD.out.up hbwr) k _ (intsN_get hx)
      have HN := Lib.hid (show S + xs[k] = (xs.take (k + 1)).foldl (· + ·) 0 by rw [take_snoc hx, List.foldl_append, ← HS.out]; rfl)
      clear hx
      generalize xs[k] = x at *
      have hki : (k : Int) < (xs.length : Int) := by omega
      have hx0 : ¬ (x : Int) < 0 := by omega
      have hxg : ¬ (x : Int) > (n : Int) := by omega
      have hS3 : S + x ≤ 100 := by omega
      have es : IntKind.i64.wrap ((S : Int) + (x : Int)) = ((S + x : Nat) : Int) := (IntWalk.i64_in _ (by omega)).trans (by omega)
      have hS2 : S + x ≤ (k + 1) * 16 := by omega
      go_wp2_with (go_at_call 88; refine (HCe.out _ _ _).mono ?_; rintro e w7 ⟨rfl, hb7⟩)
      go_roundw
      case rel => exact ⟨k + 1, S + x, by omega, by go_num, rfl, hS2, HN, hbr.trans (hb7.mono hbr.size)⟩
      case measure => simp [intOf]; omega
    · have e1 := HS.out
      rw [List.take_of_length_le (by omega), HSu.out] at e1
      subst e1
      have hki : ¬ (k : Int) < (xs.length : Int) := by omega
      have HFr := Lib.hid (HF2.out.up hbr)
      have hg9 : w.heap.size + 1 < wr.heap.size := Nat.lt_of_lt_of_le hs3 hbr.size
      go_wp2_with (first
        | (go_at_call 88; refine (HCe.out _ _ _).mono ?_; rintro e w7 ⟨rfl, hb7⟩; have hbw7 := hbwr.trans (hb7.mono hbwr.size); obtain ⟨⟨q0, q1, q2, q3, q4⟩, q5⟩ := HG.out w7 (hbr.trans (hb7.mono hbr.size)))
        | (go_at_call 86; refine (HK.out _ _ _ _ hbw7 (HFr.out.up hb7) (Nat.lt_of_lt_of_le hg9 hb7.size) q5).mono ?_; rintro e w8 ⟨rfl, hb8⟩))
      go_ret2
      exact ⟨rfl, hbw7.trans (hb8.mono hbw7.size)⟩
end Go.Proofs.YtbcbaaapogejiaaDoor
