/-
  The plate of a press for some backs, or an error.
-/
import Derived.Test.YtbcbaaapogejiaaDoorMathC
import Derived.Test.YtbcbaaapogejiaaDoorPlaB
import Derived.Test.YtbcbaaapogejiaaDoorPlaC
import Derived.Test.YtbcbaaapogejiaaDoorStpA
namespace Go.Proofs.YtbcbaaapogejiaaDoor
open Go.RowKit

def zeroPl : Value := .agg #[.int .i64 0, .int .i64 0, .int .i64 0, .slice none 0 0, .slice none 0 0]

set_option maxRecDepth 100000 in
set_option maxHeartbeats 4000000 in
theorem plate_bad (R C K : Int) (A BA : Option Addr) (c bn bc : Nat) (T : List Int) (w : World) (hm : MovW w) (hA : IntsAt w w.heap.size A T) (hn : T.length < 1000) (h : chkE R C K T ≠ 0) :
    Calls Tryd.prog 74 #[.agg #[.int .i64 R, .int .i64 C, .int .i64 K, .slice A T.length c], .slice BA bn bc] w fun e w' => e = .returned (.tuple #[zeroPl, .int .i64 (chkE R C K T)]) ∧ Below w.heap.size w w' := by
  have hb1 := (below_new w (.cells #[.int .i64 R, .int .i64 C, .int .i64 K, .slice A T.length c] 24))
  have hb2 := hb1.trans ((below_new (w.alloc (.cells #[.int .i64 R, .int .i64 C, .int .i64 K, .slice A T.length c] 24)) (.cells #[.int .i64 0, .int .i64 0, .int .i64 0, .slice none 0 0, .slice none 0 0] 115)).mono (by simp))
  have HC := Lib.hid (check_any R C K A c T _ (hm.below hb2) (hA.up hb2) hn)
  have hne : (chkE R C K T != 0) = true := by simpa using h
  generalize chkE R C K T = v at *
  clear h hA hm
  go_enter Tryd.func74, Tryd.ntmps74
  go_wp2_with (go_at_call 21; refine (HC.out).mono ?_; rintro e w1 ⟨rfl, hb3⟩; obtain ⟨q1, q2, q3⟩ := bcell hb3; simp only [World.size_alloc] at q1 q2 q3)
  refine bodyPost_ret (v := .tuple #[zeroPl, .int .i64 v]) (by simp [results, Tryd.results74, go_sem, q1, zeroPl]) rfl ⟨rfl, ?_⟩
  exact (((((hb2.trans (hb3.mono hb2.size)).setCell (by simp) _).setCell (by simp) _).setCell (by simp) _).setCell (by simp) _).setCell (by simp) _

theorem zero_cells {W w1 : World} {x : Obj} (h : Below ((W.alloc x).alloc (.cells #[.int .i64 0, .int .i64 0, .int .i64 0, .slice none 0 0, .slice none 0 0] 115)).heap.size ((W.alloc x).alloc (.cells #[.int .i64 0, .int .i64 0, .int .i64 0, .slice none 0 0, .slice none 0 0] 115)) w1) (j : Nat) (hj : j < 5) :
    ∃ u, w1.cell? ⟨W.heap.size + 1, j, none⟩ = some u ∧ w1.frozen? ⟨W.heap.size + 1, j, none⟩ = false := by
  rw [h.cell (p := ⟨W.heap.size + 1, j, none⟩) (by simp), h.frozen (p := ⟨W.heap.size + 1, j, none⟩) (by simp)]
  have hh := cell_of_row ((W.alloc x).alloc (.cells #[.int .i64 0, .int .i64 0, .int .i64 0, .slice none 0 0, .slice none 0 0] 115)) (W.heap.size + 1) j _ _ _ (heap_at _ _ _ (by simp))
  rcases j with _ | _ | _ | _ | _ | j
  · exact ⟨_, hh.trans rfl, by simp [go_sem]⟩
  · exact ⟨_, hh.trans rfl, by simp [go_sem]⟩
  · exact ⟨_, hh.trans rfl, by simp [go_sem]⟩
  · exact ⟨_, hh.trans rfl, by simp [go_sem]⟩
  · exact ⟨_, hh.trans rfl, by simp [go_sem]⟩
  · omega
theorem chkB_lt {n : Nat} {K : Int} {b : List Int} (hn : n ≤ 16) (h : chkB n K b = 0) : b.length = n ∧ b.length < 1000 ∧ ∀ x ∈ b, 0 ≤ x ∧ x < K := by
  unfold chkB at h
  split at h
  · split at h
    · next h1 h2 => exact ⟨h1, by omega, h2⟩
    · omega
  · omega

set_option maxRecDepth 100000 in
set_option maxHeartbeats 8000000 in
theorem plate_err (p : Pr) (hp : p.Ok) (A BA : Option Addr) (c bc : Nat) (Bs : List (List Int)) (w : World) (hm : MovW w) (hA : IntsAt w w.heap.size A (intsN p.T)) (hB : ListsAt w w.heap.size BA Bs) (hbl : ∀ b ∈ Bs, b.length < 1000) (hbn : Bs.length < 1000) (h : bksE p.n p.K chkB Bs ≠ 0) :
    Calls Tryd.prog 74 #[.agg #[.int .i64 p.R, .int .i64 p.C, .int .i64 p.K, .slice A p.T.length c], .slice BA Bs.length bc] w fun e w' => e = .returned (.tuple #[zeroPl, .int .i64 (bksE p.n p.K chkB Bs)]) ∧ Below w.heap.size w w' := by
  have hR := hp.r4
  have hC := hp.c4
  have hl8 := hp.len
  have hb1 := (below_new w (.cells #[.int .i64 p.R, .int .i64 p.C, .int .i64 p.K, .slice A p.T.length c] 24))
  have hb2 := hb1.trans ((below_new (w.alloc (.cells #[.int .i64 p.R, .int .i64 p.C, .int .i64 p.K, .slice A p.T.length c] 24)) (.cells #[.int .i64 0, .int .i64 0, .int .i64 0, .slice none 0 0, .slice none 0 0] 115)).mono (by simp))
  have HC := Lib.hid (check_any p.R p.C p.K A c (intsN p.T) _ (hm.below hb2) (hA.up hb2) (by rw [intsN_len]; omega))
  rw [chk_of_ok hp, intsN_len] at HC
  have HO := Lib.hid hp
  have HM := Lib.hid hm
  have HA := Lib.hid hA
  have HB := Lib.hid hB
  have HL := Lib.hid hbl
  have hl : p.T.length < 1000 := by omega
  obtain ⟨v, hv⟩ : ∃ v, v = bksE p.n p.K chkB Bs := ⟨_, rfl⟩
  rw [← hv] at h ⊢
  have HV := Lib.hid hv
  clear hA hm hB hbl hp hl8 hv
  go_enter Tryd.func74, Tryd.ntmps74
  go_wp2_with (go_at_call 21; refine (HC.out).mono ?_; rintro e w1 ⟨rfl, hb3⟩; obtain ⟨q1, q2, q3⟩ := bcell hb3; simp only [World.size_alloc] at q1 q2 q3; have hbw1 := hb2.trans (hb3.mono hb2.size); have HZ := Lib.hid (zero_cells hb3); clear hb3)
  clear HC
  generalize hg : w1.heap.size = g at *
  have hbg : Below g w1 (w1.alloc (.cells #[.int .i64 p.R, .int .i64 p.C, .int .i64 p.K, .slice A p.T.length c, .slice none 0 0] 115)) := by have := below_new w1 (.cells #[.int .i64 p.R, .int .i64 p.C, .int .i64 p.K, .slice A p.T.length c, .slice none 0 0] 115); rw [hg] at this; exact this
  have hsg : g < (w1.alloc (.cells #[.int .i64 p.R, .int .i64 p.C, .int .i64 p.K, .slice A p.T.length c, .slice none 0 0] 115)).heap.size := by simp; omega
  have HG : ∀ (j : Nat) (u : Value), [Value.int .i64 p.R, .int .i64 p.C, .int .i64 p.K, .slice A p.T.length c, .slice none 0 0][j]? = some u → (w1.alloc (.cells #[.int .i64 p.R, .int .i64 p.C, .int .i64 p.K, .slice A p.T.length c, .slice none 0 0] 115)).cell? ⟨g, j, none⟩ = some u ∧ (w1.alloc (.cells #[.int .i64 p.R, .int .i64 p.C, .int .i64 p.K, .slice A p.T.length c, .slice none 0 0] 115)).frozen? ⟨g, j, none⟩ = false := by
    intro j u hj
    subst hg
    refine ⟨?_, by have := lt_of_get hj; simp [go_sem]⟩
    rw [cell_of_row _ _ _ _ _ _ (heap_new _ _)]
    simpa using hj
  generalize w1.alloc (.cells #[.int .i64 p.R, .int .i64 p.C, .int .i64 p.K, .slice A p.T.length c, .slice none 0 0] 115) = w2 at *
  have hbw2 := hbw1.trans (hbg.mono (by have := hbw1.size; omega))
  have HH := Lib.hid (fun (W : World) (hW : Below w2.heap.size w2 W) => show W.cell? ⟨g, 0, none⟩ = some (.int .i64 p.R) ∧ W.cell? ⟨g, 1, none⟩ = some (.int .i64 p.C) ∧ W.cell? ⟨g, 2, none⟩ = some (.int .i64 p.K) ∧ W.cell? ⟨g, 3, none⟩ = some (.slice A p.T.length c) ∧ W.cell? ⟨g, 4, none⟩ = some (.slice none 0 0) from
    ⟨(hW.cell (p := ⟨g, 0, none⟩) hsg).trans (HG 0 _ rfl).1, (hW.cell (p := ⟨g, 1, none⟩) hsg).trans (HG 1 _ rfl).1, (hW.cell (p := ⟨g, 2, none⟩) hsg).trans (HG 2 _ rfl).1, (hW.cell (p := ⟨g, 3, none⟩) hsg).trans (HG 3 _ rfl).1, (hW.cell (p := ⟨g, 4, none⟩) hsg).trans (HG 4 _ rfl).1⟩)
  go_loopw [23] (fun i wr => ∃ k : Nat, k ≤ Bs.length ∧ i = .int .i64 k ∧ Hid (bksE p.n p.K chkB Bs = bksE p.n p.K chkB (Bs.drop k)) ∧ Below w2.heap.size w2 wr) (fun i _ => Bs.length - (intOf i).toNat)
  case atStart => exact ⟨0, Nat.zero_le _, rfl, Lib.hid rfl, Below.refl _ _⟩
  case round =>
    obtain ⟨k, hk, rfl, HK, hbr⟩ := hrel
    obtain ⟨p0, p1, p2, p3, p4⟩ := HH.out _ hbr
    have hbwr := hbw2.trans (hbr.mono hbw2.size)
    by_cases hlt : k < Bs.length
    · have hx : Bs[k]? = some Bs[k] := List.getElem?_eq_getElem hlt
      have hbl := HL.out _ (mem_of_get hx)
      obtain ⟨bb, off, D, d, rfl, hb, e1, e2⟩ := (HB.out.up hbwr) k _ hx
      have ek := HK.out
      rw [drop_cons hx] at ek
      clear hx
      generalize Bs[k] = b at *
      have hki : (k : Int) < (Bs.length : Int) := by omega
      have hk0 : (0 : Int) ≤ (k : Int) := by omega
      have HBk := Lib.hid (backOk_any p.R p.C p.K A none p.T.length c 0 0 D d b wr hR hC e2 hbl)
      by_cases hz : chkB p.n p.K b = 0
      · have HN := Lib.hid (ek.trans (if_pos hz))
        rw [show p.R * p.C = p.n from rfl, hz] at HBk
        clear ek hz e2
        go_wp2_with (go_at_call 121; refine (HBk.out).mono ?_; rintro e w4 ⟨rfl, hb4⟩)
        go_roundw
        case rel => exact ⟨k + 1, by omega, by go_num, HN, hbr.trans (hb4.mono hbr.size)⟩
        case measure => simp [intOf]; omega
      · have hv : v = chkB p.n p.K b := (HV.out.trans ek).trans (if_neg hz)
        rw [show p.R * p.C = p.n from rfl, ← hv] at HBk
        have hne : (v != 0) = true := by simpa using h
        clear ek hz e2 hv
        go_wp2_with (go_at_call 121; refine (HBk.out).mono ?_; rintro e w4 ⟨rfl, hb4⟩; have hb5 := hbr.trans (hb4.mono hbr.size); have hb6 := hbg.trans (hb5.mono (by omega)); obtain ⟨u0, z0, y0⟩ := HZ.out 0 (by omega); obtain ⟨u1, z1, y1⟩ := HZ.out 1 (by omega); obtain ⟨u2, z2, y2⟩ := HZ.out 2 (by omega); obtain ⟨u3, z3, y3⟩ := HZ.out 3 (by omega); obtain ⟨u4, z4, y4⟩ := HZ.out 4 (by omega); replace z0 := (hb6.cell (p := ⟨w.heap.size + 1, 0, none⟩) (by show w.heap.size + 1 < g; omega)).trans z0; replace y0 := (hb6.frozen (p := ⟨w.heap.size + 1, 0, none⟩) (by show w.heap.size + 1 < g; omega)).trans y0; replace z1 := (hb6.cell (p := ⟨w.heap.size + 1, 1, none⟩) (by show w.heap.size + 1 < g; omega)).trans z1; replace y1 := (hb6.frozen (p := ⟨w.heap.size + 1, 1, none⟩) (by show w.heap.size + 1 < g; omega)).trans y1; replace z2 := (hb6.cell (p := ⟨w.heap.size + 1, 2, none⟩) (by show w.heap.size + 1 < g; omega)).trans z2; replace y2 := (hb6.frozen (p := ⟨w.heap.size + 1, 2, none⟩) (by show w.heap.size + 1 < g; omega)).trans y2; replace z3 := (hb6.cell (p := ⟨w.heap.size + 1, 3, none⟩) (by show w.heap.size + 1 < g; omega)).trans z3; replace y3 := (hb6.frozen (p := ⟨w.heap.size + 1, 3, none⟩) (by show w.heap.size + 1 < g; omega)).trans y3; replace z4 := (hb6.cell (p := ⟨w.heap.size + 1, 4, none⟩) (by show w.heap.size + 1 < g; omega)).trans z4; replace y4 := (hb6.frozen (p := ⟨w.heap.size + 1, 4, none⟩) (by show w.heap.size + 1 < g; omega)).trans y4)
        refine bodyPost_ret (v := .tuple #[zeroPl, .int .i64 v]) (by simp [results, Tryd.results74, go_sem, z0, z1, z2, z3, z4, zeroPl]) rfl ⟨rfl, ?_⟩
        have hb7 := hbw2.trans (hb5.mono hbw2.size)
        exact ((((hb7.setCell (by simp) _).setCell (by simp) _).setCell (by simp) _).setCell (by simp) _).setCell (by simp) _
    · exfalso
      have ek := HK.out
      rw [List.drop_of_length_le (by omega)] at ek
      exact h (HV.out.trans ek)

theorem cell_far4 (W : World) (g : Nat) (u : Value) (j : Nat) (hj : j ≠ 4) : (W.setCell ⟨g, 4, none⟩ u).cell? ⟨g, j, none⟩ = W.cell? ⟨g, j, none⟩ :=
  World.cell?_setCell_other _ _ _ _ (fun e => hj (by injection e with _ e; exact e.symm))
theorem chg5 (w : World) (g : Nat) (a b c d e : Value) : Chg (fun i => i = g) w (((((w.setCell ⟨g, 0, none⟩ a).setCell ⟨g, 1, none⟩ b).setCell ⟨g, 2, none⟩ c).setCell ⟨g, 3, none⟩ d).setCell ⟨g, 4, none⟩ e) :=
  ((((Chg.store w ⟨g, 0, none⟩ a).trans (Chg.store _ ⟨g, 1, none⟩ b) (fun _ _ h => h)).trans (Chg.store _ ⟨g, 2, none⟩ c) (fun _ _ h => h)).trans (Chg.store _ ⟨g, 3, none⟩ d) (fun _ _ h => h)).trans (Chg.store _ ⟨g, 4, none⟩ e) (fun _ _ h => h)
theorem setCell4 {W : World} {g : Nat} {u v : Value} (h : W.cell? ⟨g, 4, none⟩ = some v) : (W.setCell ⟨g, 4, none⟩ u).cell? ⟨g, 4, none⟩ = some u := World.cell?_setCell_same _ _ _ h

/-- A plate is handed back. -/
def RetPlate (w : World) (p : Pr) (A : Option Addr) (c : Nat) (e : Ending) (w' : World) : Prop := ∃ FA fc, e = .returned (.tuple #[.agg #[.int .i64 p.R, .int .i64 p.C, .int .i64 p.K, .slice A p.T.length c, .slice FA p.T.length fc], .int .i64 0]) ∧ ListsAt w' w'.heap.size FA p.from ∧ Below w.heap.size w w'

set_option maxRecDepth 100000 in
set_option maxHeartbeats 8000000 in
theorem plate_ok (p : Pr) (hp : p.Ok) (A BA : Option Addr) (c bc : Nat) (Bs : List (List Int)) (w : World) (hm : MovW w) (hA : IntsAt w w.heap.size A (intsN p.T)) (hB : ListsAt w w.heap.size BA Bs) (hbl : ∀ b ∈ Bs, b.length < 1000) (hbn : Bs.length < 1000) (h : bksE p.n p.K chkB Bs = 0) :
    Calls Tryd.prog 74 #[.agg #[.int .i64 p.R, .int .i64 p.C, .int .i64 p.K, .slice A p.T.length c], .slice BA Bs.length bc] w (RetPlate w p A c) := by
  have hR := hp.r4
  have hC := hp.c4
  have hl8 := hp.len
  have hb1 := (below_new w (.cells #[.int .i64 p.R, .int .i64 p.C, .int .i64 p.K, .slice A p.T.length c] 24))
  have hb2 := hb1.trans ((below_new (w.alloc (.cells #[.int .i64 p.R, .int .i64 p.C, .int .i64 p.K, .slice A p.T.length c] 24)) (.cells #[.int .i64 0, .int .i64 0, .int .i64 0, .slice none 0 0, .slice none 0 0] 115)).mono (by simp))
  have HC := Lib.hid (check_any p.R p.C p.K A c (intsN p.T) _ (hm.below hb2) (hA.up hb2) (by rw [intsN_len]; omega))
  rw [chk_of_ok hp, intsN_len] at HC
  have HO := Lib.hid hp
  have HM := Lib.hid hm
  have HA := Lib.hid hA
  have HB := Lib.hid hB
  have HL := Lib.hid hbl
  have hl : p.T.length < 1000 := by omega
  have hv : bksE p.n p.K chkB Bs = bksE p.n p.K chkB Bs := rfl
  have HV := Lib.hid h
  clear h
  clear hA hm hB hbl hp hl8 hv
  go_enter Tryd.func74, Tryd.ntmps74
  go_wp2_with (go_at_call 21; refine (HC.out).mono ?_; rintro e w1 ⟨rfl, hb3⟩; obtain ⟨q1, q2, q3⟩ := bcell hb3; simp only [World.size_alloc] at q1 q2 q3; have hbw1 := hb2.trans (hb3.mono hb2.size); have HZ := Lib.hid (zero_cells hb3); clear hb3)
  clear HC
  generalize hg : w1.heap.size = g at *
  have hbg : Below g w1 (w1.alloc (.cells #[.int .i64 p.R, .int .i64 p.C, .int .i64 p.K, .slice A p.T.length c, .slice none 0 0] 115)) := by have := below_new w1 (.cells #[.int .i64 p.R, .int .i64 p.C, .int .i64 p.K, .slice A p.T.length c, .slice none 0 0] 115); rw [hg] at this; exact this
  have hsg : g < (w1.alloc (.cells #[.int .i64 p.R, .int .i64 p.C, .int .i64 p.K, .slice A p.T.length c, .slice none 0 0] 115)).heap.size := by simp; omega
  have HG : ∀ (j : Nat) (u : Value), [Value.int .i64 p.R, .int .i64 p.C, .int .i64 p.K, .slice A p.T.length c, .slice none 0 0][j]? = some u → (w1.alloc (.cells #[.int .i64 p.R, .int .i64 p.C, .int .i64 p.K, .slice A p.T.length c, .slice none 0 0] 115)).cell? ⟨g, j, none⟩ = some u ∧ (w1.alloc (.cells #[.int .i64 p.R, .int .i64 p.C, .int .i64 p.K, .slice A p.T.length c, .slice none 0 0] 115)).frozen? ⟨g, j, none⟩ = false := by
    intro j u hj
    subst hg
    refine ⟨?_, by have := lt_of_get hj; simp [go_sem]⟩
    rw [cell_of_row _ _ _ _ _ _ (heap_new _ _)]
    simpa using hj
  generalize w1.alloc (.cells #[.int .i64 p.R, .int .i64 p.C, .int .i64 p.K, .slice A p.T.length c, .slice none 0 0] 115) = w2 at *
  have hbw2 := hbw1.trans (hbg.mono (by have := hbw1.size; omega))
  have HH := Lib.hid (fun (W : World) (hW : Below w2.heap.size w2 W) => show W.cell? ⟨g, 0, none⟩ = some (.int .i64 p.R) ∧ W.cell? ⟨g, 1, none⟩ = some (.int .i64 p.C) ∧ W.cell? ⟨g, 2, none⟩ = some (.int .i64 p.K) ∧ W.cell? ⟨g, 3, none⟩ = some (.slice A p.T.length c) ∧ W.cell? ⟨g, 4, none⟩ = some (.slice none 0 0) from
    ⟨(hW.cell (p := ⟨g, 0, none⟩) hsg).trans (HG 0 _ rfl).1, (hW.cell (p := ⟨g, 1, none⟩) hsg).trans (HG 1 _ rfl).1, (hW.cell (p := ⟨g, 2, none⟩) hsg).trans (HG 2 _ rfl).1, (hW.cell (p := ⟨g, 3, none⟩) hsg).trans (HG 3 _ rfl).1, (hW.cell (p := ⟨g, 4, none⟩) hsg).trans (HG 4 _ rfl).1⟩)
  go_loopw [23] (fun i wr => ∃ k : Nat, k ≤ Bs.length ∧ i = .int .i64 k ∧ Hid (bksE p.n p.K chkB Bs = bksE p.n p.K chkB (Bs.drop k)) ∧ Below w2.heap.size w2 wr) (fun i _ => Bs.length - (intOf i).toNat)
  case atStart => exact ⟨0, Nat.zero_le _, rfl, Lib.hid rfl, Below.refl _ _⟩
  case round =>
    obtain ⟨k, hk, rfl, HK, hbr⟩ := hrel
    obtain ⟨p0, p1, p2, p3, p4⟩ := HH.out _ hbr
    have hbwr := hbw2.trans (hbr.mono hbw2.size)
    by_cases hlt : k < Bs.length
    · have hx : Bs[k]? = some Bs[k] := List.getElem?_eq_getElem hlt
      have hbl := HL.out _ (mem_of_get hx)
      obtain ⟨bb, off, D, d, rfl, hb, e1, e2⟩ := (HB.out.up hbwr) k _ hx
      have ek := HK.out
      rw [drop_cons hx] at ek
      clear hx
      generalize Bs[k] = b at *
      have hki : (k : Int) < (Bs.length : Int) := by omega
      have hk0 : (0 : Int) ≤ (k : Int) := by omega
      have HBk := Lib.hid (backOk_any p.R p.C p.K A none p.T.length c 0 0 D d b wr hR hC e2 hbl)
      by_cases hz : chkB p.n p.K b = 0
      · have HN := Lib.hid (ek.trans (if_pos hz))
        rw [show p.R * p.C = p.n from rfl, hz] at HBk
        clear ek hz e2
        go_wp2_with (go_at_call 121; refine (HBk.out).mono ?_; rintro e w4 ⟨rfl, hb4⟩)
        go_roundw
        case rel => exact ⟨k + 1, by omega, by go_num, HN, hbr.trans (hb4.mono hbr.size)⟩
        case measure => simp [intOf]; omega
      · exfalso
        have hv : bksE p.n p.K chkB Bs = chkB p.n p.K b := ek.trans (if_neg hz)
        rw [HV.out] at hv
        exact hz hv.symm
    · have hki : ¬ (k : Int) < (Bs.length : Int) := by omega
      have hfz : ∀ j, j < 5 → wr.frozen? ⟨g, j, none⟩ = false := fun j hj => by
        rw [hbr.frozen (p := ⟨g, j, none⟩) hsg]
        rcases j with _ | _ | _ | _ | _ | j
        · exact (HG 0 _ rfl).2
        · exact (HG 1 _ rfl).2
        · exact (HG 2 _ rfl).2
        · exact (HG 3 _ rfl).2
        · exact (HG 4 _ rfl).2
        · omega
      have hszr : g < wr.heap.size := Nat.lt_of_lt_of_le hsg hbr.size
      have hwg : w.heap.size + 1 < g := by omega
      clear HG HK
      go_wp2
      generalize wr = w3 at *
      go_loopw [39] (fun i wr => ∃ (k : Nat) (v : Value), k ≤ p.T.length ∧ i = .int .i64 k ∧ ((wr.cell? ⟨g, 0, none⟩ = some (.int .i64 p.R) ∧ wr.cell? ⟨g, 1, none⟩ = some (.int .i64 p.C) ∧ wr.cell? ⟨g, 2, none⟩ = some (.int .i64 p.K) ∧ wr.cell? ⟨g, 3, none⟩ = some (.slice A p.T.length c)) ∧ wr.cell? ⟨g, 4, none⟩ = some v ∧ Hid (∀ j, j < 5 → wr.frozen? ⟨g, j, none⟩ = false)) ∧ Out (g + 1) wr v (p.from.take k) ∧ Below g w3 wr) (fun i _ => p.T.length - (intOf i).toNat)
      case atStart => exact ⟨0, _, Nat.zero_le _, rfl, ⟨⟨p0, p1, p2, p3⟩, p4, Lib.hid hfz⟩, Out.nil _ _, Below.refl _ _⟩
      case round =>
        clear p0 p1 p2 p3 p4 hfz
        obtain ⟨i, v, hi, rfl, ⟨⟨p0, p1, p2, p3⟩, p4, HF⟩, hO, hbi⟩ := hrel
        have hwr3 : g < wr.heap.size := Nat.lt_of_lt_of_le hszr hbi.size
        have hbw3 : Below w.heap.size w wr := hbwr.trans (hbi.mono (by omega))
        by_cases hlt2 : i < p.T.length
        · have hx : p.T[i]? = some p.T[i] := List.getElem?_eq_getElem hlt2
          have ht8 := HO.out.t8 _ (mem_of_get hx)
          have hfr : p.from[i]? = some (srcs p.R p.C (mv p.T[i])) := by simp [Pr.from, hx]
          have HTK := Lib.hid (take_snoc hfr)
          have hlen : (p.from.take i).length = i := by have e1 : p.from.length = p.T.length := (by simp [Pr.from]); rw [List.length_take]; omega
          obtain ⟨tb, tf, rfl, htb, e3⟩ := (HA.out.up hbw3) i _ (intsN_get hx)
          obtain ⟨mm, mt⟩ := HM.out.below hbw3
          obtain ⟨FA, fc, rfl⟩ := hO.slice
          rw [hlen] at p4 hO
          generalize p.T[i] = t at *
          have HSr := Lib.hid (fun W (_ : Below (g + 1) wr W) => sources_any p.R p.C p.K (some ⟨tb, tf, none⟩) FA p.T.length c i fc (mv t) W hR hC)
          have HS0 := Lib.hid (fun (W : World) (hW : Below (g + 1) wr W) => show (W.cell? ⟨g, 0, none⟩ = some (.int .i64 p.R) ∧ W.cell? ⟨g, 1, none⟩ = some (.int .i64 p.C) ∧ W.cell? ⟨g, 2, none⟩ = some (.int .i64 p.K) ∧ W.cell? ⟨g, 3, none⟩ = some (.slice (some ⟨tb, tf, none⟩) p.T.length c)) ∧ W.cell? ⟨g, 4, none⟩ = some (.slice FA i fc) ∧ W.cell? ⟨0, t * 3, none⟩ = some (.bool (mv t).x) ∧ W.cell? ⟨0, t * 3 + 1, none⟩ = some (.bool (mv t).r) ∧ W.cell? ⟨0, t * 3 + 2, none⟩ = some (.bool (mv t).c) from
            ⟨⟨(hW.cell (p := ⟨g, 0, none⟩) (Nat.lt_succ_self g)).trans p0, (hW.cell (p := ⟨g, 1, none⟩) (Nat.lt_succ_self g)).trans p1, (hW.cell (p := ⟨g, 2, none⟩) (Nat.lt_succ_self g)).trans p2, (hW.cell (p := ⟨g, 3, none⟩) (Nat.lt_succ_self g)).trans p3⟩, (hW.cell (p := ⟨g, 4, none⟩) (Nat.lt_succ_self g)).trans p4, (hW.cell (p := ⟨0, _, none⟩) (Nat.succ_pos g)).trans (mt t ht8).1, (hW.cell (p := ⟨0, _, none⟩) (Nat.succ_pos g)).trans (mt t ht8).2.1, (hW.cell (p := ⟨0, _, none⟩) (Nat.succ_pos g)).trans (mt t ht8).2.2⟩)
          have hki2 : (i : Int) < (p.T.length : Int) := by omega
          have hti : (t : Int) < 8 := by omega
          have hiw : (p.from.take i).length < 1000000 := by rw [hlen]; omega
          have hbd : Below (g + 1) wr wr.drew := (Below.refl _ _).drew
          have hOd := hO.below ((Below.refl wr.heap.size wr).drew)
          have hds : wr.drew.heap.size = wr.heap.size := rfl
          have hlow : ∀ b, (Value.slice FA i fc).ownBlock = some b → b < wr.heap.size := fun b hb => by
            obtain ⟨us, h1, _⟩ := hO
            exact (h1.lt b hb).2
          clear hx hfr
          have hSof : ∀ W, Below (g + 1) wr W → Below g wr W ∧ (W.cell? ⟨g, 0, none⟩ = some (.int .i64 p.R) ∧ W.cell? ⟨g, 1, none⟩ = some (.int .i64 p.C) ∧ W.cell? ⟨g, 2, none⟩ = some (.int .i64 p.K) ∧ W.cell? ⟨g, 3, none⟩ = some (.slice (some ⟨tb, tf, none⟩) p.T.length c)) := fun W hW => ⟨hW.mono (by omega), (HS0.out W hW).1⟩
          have hSst : ∀ W, Below (g + 1) wr W → ∀ u, Below g wr (W.setCell ⟨g, 4, none⟩ u) ∧ ((W.setCell ⟨g, 4, none⟩ u).cell? ⟨g, 0, none⟩ = some (.int .i64 p.R) ∧ (W.setCell ⟨g, 4, none⟩ u).cell? ⟨g, 1, none⟩ = some (.int .i64 p.C) ∧ (W.setCell ⟨g, 4, none⟩ u).cell? ⟨g, 2, none⟩ = some (.int .i64 p.K) ∧ (W.setCell ⟨g, 4, none⟩ u).cell? ⟨g, 3, none⟩ = some (.slice (some ⟨tb, tf, none⟩) p.T.length c)) := fun W hW u => by
            obtain ⟨h1, h2, h3, h4, h5⟩ := hSof W hW
            exact ⟨h1.setCell (Nat.le_refl g) _, (cell_far4 W g u 0 (by decide)).trans h2, (cell_far4 W g u 1 (by decide)).trans h3, (cell_far4 W g u 2 (by decide)).trans h4, (cell_far4 W g u 3 (by decide)).trans h5⟩
          have HMt := Lib.hid (fun (W : World) (hW : Below g wr W) => show W.cell? ⟨0, t * 3, none⟩ = some (.bool (mv t).x) ∧ W.cell? ⟨0, t * 3 + 1, none⟩ = some (.bool (mv t).r) ∧ W.cell? ⟨0, t * 3 + 2, none⟩ = some (.bool (mv t).c) from
            ⟨(hW.cell (p := ⟨0, _, none⟩) (show 0 < g by omega)).trans (mt t ht8).1, (hW.cell (p := ⟨0, _, none⟩) (show 0 < g by omega)).trans (mt t ht8).2.1, (hW.cell (p := ⟨0, _, none⟩) (show 0 < g by omega)).trans (mt t ht8).2.2⟩)
          clear mm mt
          go_upto_region 15 with fail
          skip
          refine wp_region_held_drew (S := fun W => Below g wr W ∧ (W.cell? ⟨g, 0, none⟩ = some (.int .i64 p.R) ∧ W.cell? ⟨g, 1, none⟩ = some (.int .i64 p.C) ∧ W.cell? ⟨g, 2, none⟩ = some (.int .i64 p.K) ∧ W.cell? ⟨g, 3, none⟩ = some (.slice (some ⟨tb, tf, none⟩) p.T.length c))) (by kernel_rfl) (hSof _ hbd) (fun hHeld => ?_)
          refine wpAnyH_take (i := 0) (v := ?_) rfl (by kernel_rfl) (by kernel_rfl) (by kernel_rfl) (fun _ _ _ h => h) (Or.inl ⟨by rfl, ?_⟩) (by assumption) ?_
          rotate_left
          · intro w hSw; obtain ⟨hSb, x0, x1, x2, x3⟩ := hSw; obtain ⟨m0, m1, m2⟩ := HMt.out _ hSb; go_simp; try with_reducible rfl
          try simp only [Act.put, List.getElem_toArray, List.getElem_cons_zero, List.setIfInBounds_toArray, List.set_cons_zero, List.set_cons_succ]
          refine wpAnyH_take (i := 3) (v := ?_) rfl (by kernel_rfl) (by kernel_rfl) (by kernel_rfl) (fun _ _ _ h => h) (Or.inl ⟨by rfl, ?_⟩) (by assumption) ?_
          rotate_left
          · intro w hSw; obtain ⟨hSb, x0, x1, x2, x3⟩ := hSw; obtain ⟨m0, m1, m2⟩ := HMt.out _ hSb; go_simp; try with_reducible rfl
          try simp only [Act.put, List.getElem_toArray, List.getElem_cons_zero, List.getElem_cons_succ, List.setIfInBounds_toArray, List.set_cons_zero, List.set_cons_succ]
          refine wpAnyH_take (i := 4) (v := ?_) rfl (by kernel_rfl) (by kernel_rfl) (by kernel_rfl) (fun _ _ _ h => h) (Or.inl ⟨by rfl, ?_⟩) (by assumption) ?_
          rotate_left
          · intro w hSw; obtain ⟨hSb, x0, x1, x2, x3⟩ := hSw; obtain ⟨m0, m1, m2⟩ := HMt.out _ hSb; go_simp; try with_reducible rfl
          try simp only [Act.put, List.getElem_toArray, List.getElem_cons_zero, List.getElem_cons_succ, List.setIfInBounds_toArray, List.set_cons_zero, List.set_cons_succ]
          refine wpAnyH_take (i := 5) (v := ?_) rfl (by kernel_rfl) (by kernel_rfl) (by kernel_rfl) (fun _ _ _ h => h) (Or.inl ⟨by rfl, ?_⟩) (by assumption) ?_
          rotate_left
          · intro w hSw; obtain ⟨hSb, x0, x1, x2, x3⟩ := hSw; obtain ⟨m0, m1, m2⟩ := HMt.out _ hSb; go_simp; try with_reducible rfl
          try simp only [Act.put, List.getElem_toArray, List.getElem_cons_zero, List.getElem_cons_succ, List.setIfInBounds_toArray, List.set_cons_zero, List.set_cons_succ]
          refine wpAnyH_ready (rs := [1, 2]) (by kernel_rfl) (by simp) ?_
          refine AllReadyH.cons rfl (fun K hK => ?_) (AllReadyH.cons rfl (fun K hK => ?_) AllReadyH.nil)
          · skip
            go_simp
            refine hK.out _ _ (hSof _ (hbd)) (fun _ => ?_)
            clear hK K
            try simp only [Act.put, List.getElem_toArray, List.getElem_cons_zero, List.getElem_cons_succ, List.setIfInBounds_toArray, List.set_cons_zero, List.set_cons_succ]
            refine wpAnyH_ready (rs := [2]) (by kernel_rfl) (by simp) ?_
            refine AllReadyH.cons rfl (fun K hK => ?_) AllReadyH.nil
            go_simp
            refine hK.out _ _ (hSof _ (hbd)) (fun _ => ?_)
            clear hK K
            try simp only [Act.put, List.getElem_toArray, List.getElem_cons_zero, List.getElem_cons_succ, List.setIfInBounds_toArray, List.set_cons_zero, List.set_cons_succ]
            refine wpAnyH_ready (rs := [6]) (by kernel_rfl) (by simp) ?_
            refine AllReadyH.cons rfl (fun K hK => ?_) AllReadyH.nil
            go_simp
            refine (HSr.out _ hbd).mono ?_
            rintro e w5 ⟨D, d, rfl, hD, hb5, hge⟩
            have hO5 := hOd.below hb5
            have hS5 : Below (g + 1) wr w5 := hbd.trans (hb5.mono (by omega))
            have x4 := (HS0.out _ hS5).2.1
            have x5 : g < w5.heap.size := Nat.lt_of_lt_of_le hwr3 hS5.size
            refine hK.out _ _ (hSof _ hS5) (fun _ => ?_)
            clear hK K
            try simp only [Act.put, List.getElem_toArray, List.getElem_cons_zero, List.getElem_cons_succ, List.setIfInBounds_toArray, List.set_cons_zero, List.set_cons_succ]
            refine wpAnyH_ready (rs := [7]) (by kernel_rfl) (by simp) ?_
            refine AllReadyH.cons rfl (fun K hK => ?_) AllReadyH.nil
            go_simp
            refine hK.out _ _ (hSof _ (hS5.alloc (by omega) _)) (fun _ => ?_)
            clear hK K
            try simp only [Act.put, List.getElem_toArray, List.getElem_cons_zero, List.getElem_cons_succ, List.setIfInBounds_toArray, List.set_cons_zero, List.set_cons_succ]
            refine wpAnyH_ready (rs := [8]) (by kernel_rfl) (by simp) ?_
            refine AllReadyH.cons rfl (fun K hK => ?_) AllReadyH.nil
            refine step_append_list _ rfl _ _ rfl (g + 1) w5.heap.size _ _ _ D d rfl (hO5.below (below_new _ _)) rfl (heap_new _ _) (hD.up (below_new _ _)) (fun ad had => ⟨by have := (hge ad had).2; simp; omega, by have := (hge ad had).1; omega, fun e => by have := hlow _ e; have := (hge ad had).1; omega⟩) hiw (by simp; omega) ?_
            intro A8 c8 w8 hO8 hb8
            rw [hlen] at hO8
            try rw [hlen]
            have hS8 : Below (g + 1) wr w8 := (hS5.alloc (by omega) _).trans hb8
            have s4 := (HS0.out _ hS8).2.1
            have y4 : w8.frozen? ⟨g, 4, none⟩ = false := (hS8.frozen (p := ⟨g, 4, none⟩) (Nat.lt_succ_self g)).trans (HF.out 4 (by decide))
            refine hK.out _ _ (hSof _ hS8) (fun _ => ?_)
            clear hK K
            try simp only [Act.put, List.getElem_toArray, List.getElem_cons_zero, List.getElem_cons_succ, List.setIfInBounds_toArray, List.set_cons_zero, List.set_cons_succ]
            refine wpAnyH_take (i := 9) (v := ?_) rfl (by kernel_rfl) (by kernel_rfl) (by kernel_rfl) (fun _ _ _ h => h) (Or.inl ⟨by rfl, ?_⟩) (by assumption) ?_
            rotate_left
            · intro w hSw; obtain ⟨hSb, x0, x1, x2, x3⟩ := hSw; obtain ⟨m0, m1, m2⟩ := HMt.out _ hSb; go_simp; try with_reducible rfl
            try simp only [Act.put, List.getElem_toArray, List.getElem_cons_zero, List.getElem_cons_succ, List.setIfInBounds_toArray, List.set_cons_zero, List.set_cons_succ]
            refine wpAnyH_ready (rs := [10]) (by kernel_rfl) (by simp) ?_
            refine AllReadyH.cons rfl (fun K hK => ?_) AllReadyH.nil
            go_simp
            refine hK.out _ _ (hSst _ hS8 _) (fun _ => ?_)
            clear hK K
            try simp only [Act.put, List.getElem_toArray, List.getElem_cons_zero, List.getElem_cons_succ, List.setIfInBounds_toArray, List.set_cons_zero, List.set_cons_succ]
            refine wpAnyH_done (by kernel_rfl) ?_ _
            go_wp2
            go_roundw
            case rel => exact ⟨i + 1, _, by omega, by go_num, ⟨(hSst _ hS8 _).2, setCell4 s4, Lib.hid (fun j hj => by rw [World.frozen?_setCell]; exact (hS8.frozen (p := ⟨g, j, none⟩) (Nat.lt_succ_self g)).trans (HF.out j hj))⟩, by rw [HTK.out]; exact hO8.chg (Chg.store _ _ _) (fun i hi e => by subst e; exact absurd hi (by simp)), hbi.trans (hSst _ hS8 _).1⟩
            case measure => simp [intOf]; omega
          · skip
            go_simp
            refine hK.out _ _ (hSof _ (hbd)) (fun _ => ?_)
            clear hK K
            try simp only [Act.put, List.getElem_toArray, List.getElem_cons_zero, List.getElem_cons_succ, List.setIfInBounds_toArray, List.set_cons_zero, List.set_cons_succ]
            refine wpAnyH_ready (rs := [1, 6]) (by kernel_rfl) (by simp) ?_
            refine AllReadyH.cons rfl (fun K hK => ?_) (AllReadyH.cons rfl (fun K hK => ?_) AllReadyH.nil)
            · skip
              go_simp
              refine hK.out _ _ (hSof _ (hbd)) (fun _ => ?_)
              clear hK K
              try simp only [Act.put, List.getElem_toArray, List.getElem_cons_zero, List.getElem_cons_succ, List.setIfInBounds_toArray, List.set_cons_zero, List.set_cons_succ]
              refine wpAnyH_ready (rs := [6]) (by kernel_rfl) (by simp) ?_
              refine AllReadyH.cons rfl (fun K hK => ?_) AllReadyH.nil
              go_simp
              refine (HSr.out _ hbd).mono ?_
              rintro e w5 ⟨D, d, rfl, hD, hb5, hge⟩
              have hO5 := hOd.below hb5
              have hS5 : Below (g + 1) wr w5 := hbd.trans (hb5.mono (by omega))
              have x4 := (HS0.out _ hS5).2.1
              have x5 : g < w5.heap.size := Nat.lt_of_lt_of_le hwr3 hS5.size
              refine hK.out _ _ (hSof _ hS5) (fun _ => ?_)
              clear hK K
              try simp only [Act.put, List.getElem_toArray, List.getElem_cons_zero, List.getElem_cons_succ, List.setIfInBounds_toArray, List.set_cons_zero, List.set_cons_succ]
              refine wpAnyH_ready (rs := [7]) (by kernel_rfl) (by simp) ?_
              refine AllReadyH.cons rfl (fun K hK => ?_) AllReadyH.nil
              go_simp
              refine hK.out _ _ (hSof _ (hS5.alloc (by omega) _)) (fun _ => ?_)
              clear hK K
              try simp only [Act.put, List.getElem_toArray, List.getElem_cons_zero, List.getElem_cons_succ, List.setIfInBounds_toArray, List.set_cons_zero, List.set_cons_succ]
              refine wpAnyH_ready (rs := [8]) (by kernel_rfl) (by simp) ?_
              refine AllReadyH.cons rfl (fun K hK => ?_) AllReadyH.nil
              refine step_append_list _ rfl _ _ rfl (g + 1) w5.heap.size _ _ _ D d rfl (hO5.below (below_new _ _)) rfl (heap_new _ _) (hD.up (below_new _ _)) (fun ad had => ⟨by have := (hge ad had).2; simp; omega, by have := (hge ad had).1; omega, fun e => by have := hlow _ e; have := (hge ad had).1; omega⟩) hiw (by simp; omega) ?_
              intro A8 c8 w8 hO8 hb8
              rw [hlen] at hO8
              try rw [hlen]
              have hS8 : Below (g + 1) wr w8 := (hS5.alloc (by omega) _).trans hb8
              have s4 := (HS0.out _ hS8).2.1
              have y4 : w8.frozen? ⟨g, 4, none⟩ = false := (hS8.frozen (p := ⟨g, 4, none⟩) (Nat.lt_succ_self g)).trans (HF.out 4 (by decide))
              refine hK.out _ _ (hSof _ hS8) (fun _ => ?_)
              clear hK K
              try simp only [Act.put, List.getElem_toArray, List.getElem_cons_zero, List.getElem_cons_succ, List.setIfInBounds_toArray, List.set_cons_zero, List.set_cons_succ]
              refine wpAnyH_take (i := 9) (v := ?_) rfl (by kernel_rfl) (by kernel_rfl) (by kernel_rfl) (fun _ _ _ h => h) (Or.inl ⟨by rfl, ?_⟩) (by assumption) ?_
              rotate_left
              · intro w hSw; obtain ⟨hSb, x0, x1, x2, x3⟩ := hSw; obtain ⟨m0, m1, m2⟩ := HMt.out _ hSb; go_simp; try with_reducible rfl
              try simp only [Act.put, List.getElem_toArray, List.getElem_cons_zero, List.getElem_cons_succ, List.setIfInBounds_toArray, List.set_cons_zero, List.set_cons_succ]
              refine wpAnyH_ready (rs := [10]) (by kernel_rfl) (by simp) ?_
              refine AllReadyH.cons rfl (fun K hK => ?_) AllReadyH.nil
              go_simp
              refine hK.out _ _ (hSst _ hS8 _) (fun _ => ?_)
              clear hK K
              try simp only [Act.put, List.getElem_toArray, List.getElem_cons_zero, List.getElem_cons_succ, List.setIfInBounds_toArray, List.set_cons_zero, List.set_cons_succ]
              refine wpAnyH_done (by kernel_rfl) ?_ _
              go_wp2
              go_roundw
              case rel => exact ⟨i + 1, _, by omega, by go_num, ⟨(hSst _ hS8 _).2, setCell4 s4, Lib.hid (fun j hj => by rw [World.frozen?_setCell]; exact (hS8.frozen (p := ⟨g, j, none⟩) (Nat.lt_succ_self g)).trans (HF.out j hj))⟩, by rw [HTK.out]; exact hO8.chg (Chg.store _ _ _) (fun i hi e => by subst e; exact absurd hi (by simp)), hbi.trans (hSst _ hS8 _).1⟩
              case measure => simp [intOf]; omega
            · skip
              go_simp
              refine (HSr.out _ hbd).mono ?_
              rintro e w5 ⟨D, d, rfl, hD, hb5, hge⟩
              have hO5 := hOd.below hb5
              have hS5 : Below (g + 1) wr w5 := hbd.trans (hb5.mono (by omega))
              have x4 := (HS0.out _ hS5).2.1
              have x5 : g < w5.heap.size := Nat.lt_of_lt_of_le hwr3 hS5.size
              refine hK.out _ _ (hSof _ hS5) (fun _ => ?_)
              clear hK K
              try simp only [Act.put, List.getElem_toArray, List.getElem_cons_zero, List.getElem_cons_succ, List.setIfInBounds_toArray, List.set_cons_zero, List.set_cons_succ]
              refine wpAnyH_ready (rs := [1, 7]) (by kernel_rfl) (by simp) ?_
              refine AllReadyH.cons rfl (fun K hK => ?_) (AllReadyH.cons rfl (fun K hK => ?_) AllReadyH.nil)
              · skip
                go_simp
                refine hK.out _ _ (hSof _ (hS5)) (fun _ => ?_)
                clear hK K
                try simp only [Act.put, List.getElem_toArray, List.getElem_cons_zero, List.getElem_cons_succ, List.setIfInBounds_toArray, List.set_cons_zero, List.set_cons_succ]
                refine wpAnyH_ready (rs := [7]) (by kernel_rfl) (by simp) ?_
                refine AllReadyH.cons rfl (fun K hK => ?_) AllReadyH.nil
                go_simp
                refine hK.out _ _ (hSof _ (hS5.alloc (by omega) _)) (fun _ => ?_)
                clear hK K
                try simp only [Act.put, List.getElem_toArray, List.getElem_cons_zero, List.getElem_cons_succ, List.setIfInBounds_toArray, List.set_cons_zero, List.set_cons_succ]
                refine wpAnyH_ready (rs := [8]) (by kernel_rfl) (by simp) ?_
                refine AllReadyH.cons rfl (fun K hK => ?_) AllReadyH.nil
                refine step_append_list _ rfl _ _ rfl (g + 1) w5.heap.size _ _ _ D d rfl (hO5.below (below_new _ _)) rfl (heap_new _ _) (hD.up (below_new _ _)) (fun ad had => ⟨by have := (hge ad had).2; simp; omega, by have := (hge ad had).1; omega, fun e => by have := hlow _ e; have := (hge ad had).1; omega⟩) hiw (by simp; omega) ?_
                intro A8 c8 w8 hO8 hb8
                rw [hlen] at hO8
                try rw [hlen]
                have hS8 : Below (g + 1) wr w8 := (hS5.alloc (by omega) _).trans hb8
                have s4 := (HS0.out _ hS8).2.1
                have y4 : w8.frozen? ⟨g, 4, none⟩ = false := (hS8.frozen (p := ⟨g, 4, none⟩) (Nat.lt_succ_self g)).trans (HF.out 4 (by decide))
                refine hK.out _ _ (hSof _ hS8) (fun _ => ?_)
                clear hK K
                try simp only [Act.put, List.getElem_toArray, List.getElem_cons_zero, List.getElem_cons_succ, List.setIfInBounds_toArray, List.set_cons_zero, List.set_cons_succ]
                refine wpAnyH_take (i := 9) (v := ?_) rfl (by kernel_rfl) (by kernel_rfl) (by kernel_rfl) (fun _ _ _ h => h) (Or.inl ⟨by rfl, ?_⟩) (by assumption) ?_
                rotate_left
                · intro w hSw; obtain ⟨hSb, x0, x1, x2, x3⟩ := hSw; obtain ⟨m0, m1, m2⟩ := HMt.out _ hSb; go_simp; try with_reducible rfl
                try simp only [Act.put, List.getElem_toArray, List.getElem_cons_zero, List.getElem_cons_succ, List.setIfInBounds_toArray, List.set_cons_zero, List.set_cons_succ]
                refine wpAnyH_ready (rs := [10]) (by kernel_rfl) (by simp) ?_
                refine AllReadyH.cons rfl (fun K hK => ?_) AllReadyH.nil
                go_simp
                refine hK.out _ _ (hSst _ hS8 _) (fun _ => ?_)
                clear hK K
                try simp only [Act.put, List.getElem_toArray, List.getElem_cons_zero, List.getElem_cons_succ, List.setIfInBounds_toArray, List.set_cons_zero, List.set_cons_succ]
                refine wpAnyH_done (by kernel_rfl) ?_ _
                go_wp2
                go_roundw
                case rel => exact ⟨i + 1, _, by omega, by go_num, ⟨(hSst _ hS8 _).2, setCell4 s4, Lib.hid (fun j hj => by rw [World.frozen?_setCell]; exact (hS8.frozen (p := ⟨g, j, none⟩) (Nat.lt_succ_self g)).trans (HF.out j hj))⟩, by rw [HTK.out]; exact hO8.chg (Chg.store _ _ _) (fun i hi e => by subst e; exact absurd hi (by simp)), hbi.trans (hSst _ hS8 _).1⟩
                case measure => simp [intOf]; omega
              · skip
                go_simp
                refine hK.out _ _ (hSof _ (hS5.alloc (by omega) _)) (fun _ => ?_)
                clear hK K
                try simp only [Act.put, List.getElem_toArray, List.getElem_cons_zero, List.getElem_cons_succ, List.setIfInBounds_toArray, List.set_cons_zero, List.set_cons_succ]
                refine wpAnyH_ready (rs := [1]) (by kernel_rfl) (by simp) ?_
                refine AllReadyH.cons rfl (fun K hK => ?_) AllReadyH.nil
                go_simp
                refine hK.out _ _ (hSof _ (hS5.alloc (by omega) _)) (fun _ => ?_)
                clear hK K
                try simp only [Act.put, List.getElem_toArray, List.getElem_cons_zero, List.getElem_cons_succ, List.setIfInBounds_toArray, List.set_cons_zero, List.set_cons_succ]
                refine wpAnyH_ready (rs := [8]) (by kernel_rfl) (by simp) ?_
                refine AllReadyH.cons rfl (fun K hK => ?_) AllReadyH.nil
                refine step_append_list _ rfl _ _ rfl (g + 1) w5.heap.size _ _ _ D d rfl (hO5.below (below_new _ _)) rfl (heap_new _ _) (hD.up (below_new _ _)) (fun ad had => ⟨by have := (hge ad had).2; simp; omega, by have := (hge ad had).1; omega, fun e => by have := hlow _ e; have := (hge ad had).1; omega⟩) hiw (by simp; omega) ?_
                intro A8 c8 w8 hO8 hb8
                rw [hlen] at hO8
                try rw [hlen]
                have hS8 : Below (g + 1) wr w8 := (hS5.alloc (by omega) _).trans hb8
                have s4 := (HS0.out _ hS8).2.1
                have y4 : w8.frozen? ⟨g, 4, none⟩ = false := (hS8.frozen (p := ⟨g, 4, none⟩) (Nat.lt_succ_self g)).trans (HF.out 4 (by decide))
                refine hK.out _ _ (hSof _ hS8) (fun _ => ?_)
                clear hK K
                try simp only [Act.put, List.getElem_toArray, List.getElem_cons_zero, List.getElem_cons_succ, List.setIfInBounds_toArray, List.set_cons_zero, List.set_cons_succ]
                refine wpAnyH_take (i := 9) (v := ?_) rfl (by kernel_rfl) (by kernel_rfl) (by kernel_rfl) (fun _ _ _ h => h) (Or.inl ⟨by rfl, ?_⟩) (by assumption) ?_
                rotate_left
                · intro w hSw; obtain ⟨hSb, x0, x1, x2, x3⟩ := hSw; obtain ⟨m0, m1, m2⟩ := HMt.out _ hSb; go_simp; try with_reducible rfl
                try simp only [Act.put, List.getElem_toArray, List.getElem_cons_zero, List.getElem_cons_succ, List.setIfInBounds_toArray, List.set_cons_zero, List.set_cons_succ]
                refine wpAnyH_ready (rs := [10]) (by kernel_rfl) (by simp) ?_
                refine AllReadyH.cons rfl (fun K hK => ?_) AllReadyH.nil
                go_simp
                refine hK.out _ _ (hSst _ hS8 _) (fun _ => ?_)
                clear hK K
                try simp only [Act.put, List.getElem_toArray, List.getElem_cons_zero, List.getElem_cons_succ, List.setIfInBounds_toArray, List.set_cons_zero, List.set_cons_succ]
                refine wpAnyH_done (by kernel_rfl) ?_ _
                go_wp2
                go_roundw
                case rel => exact ⟨i + 1, _, by omega, by go_num, ⟨(hSst _ hS8 _).2, setCell4 s4, Lib.hid (fun j hj => by rw [World.frozen?_setCell]; exact (hS8.frozen (p := ⟨g, j, none⟩) (Nat.lt_succ_self g)).trans (HF.out j hj))⟩, by rw [HTK.out]; exact hO8.chg (Chg.store _ _ _) (fun i hi e => by subst e; exact absurd hi (by simp)), hbi.trans (hSst _ hS8 _).1⟩
                case measure => simp [intOf]; omega
        · have hki2 : ¬ (i : Int) < (p.T.length : Int) := by omega
          have e1 : p.from.length = p.T.length := by simp [Pr.from]
          rw [List.take_of_length_le (by omega)] at hO
          obtain ⟨FA, fc, rfl⟩ := hO.slice
          have hLs := hO.lists
          have hbz : Below g w1 wr := (hbg.trans (hbr.mono (by omega))).trans hbi
          obtain ⟨u0, z0, y0⟩ := HZ.out 0 (by omega)
          replace z0 := (hbz.cell (p := ⟨w.heap.size + 1, 0, none⟩) (by show w.heap.size + 1 < g; omega)).trans z0
          replace y0 := (hbz.frozen (p := ⟨w.heap.size + 1, 0, none⟩) (by show w.heap.size + 1 < g; omega)).trans y0
          obtain ⟨u1, z1, y1⟩ := HZ.out 1 (by omega)
          replace z1 := (hbz.cell (p := ⟨w.heap.size + 1, 1, none⟩) (by show w.heap.size + 1 < g; omega)).trans z1
          replace y1 := (hbz.frozen (p := ⟨w.heap.size + 1, 1, none⟩) (by show w.heap.size + 1 < g; omega)).trans y1
          obtain ⟨u2, z2, y2⟩ := HZ.out 2 (by omega)
          replace z2 := (hbz.cell (p := ⟨w.heap.size + 1, 2, none⟩) (by show w.heap.size + 1 < g; omega)).trans z2
          replace y2 := (hbz.frozen (p := ⟨w.heap.size + 1, 2, none⟩) (by show w.heap.size + 1 < g; omega)).trans y2
          obtain ⟨u3, z3, y3⟩ := HZ.out 3 (by omega)
          replace z3 := (hbz.cell (p := ⟨w.heap.size + 1, 3, none⟩) (by show w.heap.size + 1 < g; omega)).trans z3
          replace y3 := (hbz.frozen (p := ⟨w.heap.size + 1, 3, none⟩) (by show w.heap.size + 1 < g; omega)).trans y3
          obtain ⟨u4, z4, y4⟩ := HZ.out 4 (by omega)
          replace z4 := (hbz.cell (p := ⟨w.heap.size + 1, 4, none⟩) (by show w.heap.size + 1 < g; omega)).trans z4
          replace y4 := (hbz.frozen (p := ⟨w.heap.size + 1, 4, none⟩) (by show w.heap.size + 1 < g; omega)).trans y4
          have hge : ∀ ad, FA = some ad → g + 1 ≤ ad.block := fun ad e => by
            obtain ⟨us, h1, _⟩ := hO
            exact (h1.lt ad.block (by rw [e]; rfl)).1
          have HX := Lib.hid hO
          clear hO
          go_wp2
          have HC5 := Lib.hid (fun (a b c' d e : Value) => chg5 wr (w.heap.size + 1) a b c' d e)
          refine bodyPost_ret (v := .tuple #[.agg #[.int .i64 p.R, .int .i64 p.C, .int .i64 p.K, .slice A p.T.length c, .slice FA p.T.length fc], .int .i64 0]) (by simp [results, Tryd.results74, go_sem, z0, z1, z2, z3, z4]) rfl ⟨FA, fc, rfl, ?_, ?_⟩
          · refine Out.lists (B := g + 1) (n := p.T.length) (c := fc) ?_
            have h5 := HX.out.chg (HC5.out (.int .i64 p.R) (.int .i64 p.C) (.int .i64 p.K) (.slice A p.T.length c) (.slice FA p.T.length fc)) (fun i hi e => by omega)
            rw [e1] at h5
            exact h5
          · exact (((((hbwr.trans (hbi.mono (by omega))).setCell (by simp) _).setCell (by simp) _).setCell (by simp) _).setCell (by simp) _).setCell (by simp) _
end Go.Proofs.YtbcbaaapogejiaaDoor
