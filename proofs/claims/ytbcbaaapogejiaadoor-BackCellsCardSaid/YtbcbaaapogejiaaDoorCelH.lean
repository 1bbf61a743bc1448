/-
  The reference: whether some cells show all turns.
-/
import Derived.Test.YtbcbaaapogejiaaDoorCelG
namespace Go.Proofs.YtbcbaaapogejiaaDoor
open Go.RowKit

theorem seen_next {l b : List Int} {cs : List Nat} {i c : Nat} {v : Bool} (hi : cs[i]? = some c) (h : v = (decide (l = b) || (cs.take i).any fun c => decide (l.getD c 0 ≠ b.getD c 0))) :
    (v || decide (l.getD c 0 ≠ b.getD c 0)) = (decide (l = b) || (cs.take (i + 1)).any fun c => decide (l.getD c 0 ≠ b.getD c 0)) := by
  rw [h, take_snoc hi, List.any_append, Bool.or_assoc]
  simp

set_option maxRecDepth 100000 in
set_option maxHeartbeats 2000000 in
theorem refShows0_ok (p : Pr) (hp : p.Ok) (A X Y : Option Addr) (c xc yc : Nat) (b : List Int) (cs : List Nat) (w : World) (hT : IntsAt w w.heap.size A (intsN p.T)) (hX : IntsAt w w.heap.size X b) (hY : IntsAt w w.heap.size Y (intsN cs)) (hb : BackOk p b) (hcs : ∀ x ∈ cs, x < p.n) (hcl : cs.length < 1000) :
    Calls Tryd.prog 99 #[.agg #[.int .i64 p.R, .int .i64 p.C, .int .i64 p.K, .slice A p.T.length c], .slice X b.length xc, .slice Y cs.length yc] w fun e w' => e = .returned (.bool (showsB p b cs)) ∧ Below w.heap.size w w' := by
  have hb1 := below_new w (.cells #[.int .i64 p.R, .int .i64 p.C, .int .i64 p.K, .slice A p.T.length c] 32)
  have hc1 := own_cells4 w (.int .i64 p.R) (.int .i64 p.C) (.int .i64 p.K) (.slice A p.T.length c) 32
  have hz1 : w.heap.size < (w.alloc (.cells #[.int .i64 p.R, .int .i64 p.C, .int .i64 p.K, .slice A p.T.length c] 32)).heap.size := by simp
  have hl8 := hp.len
  have hbl := Lib.hid hb.1
  have HTd := Lib.hid (fun W t h ht => refTd p hp A X c xc t b W h hb ht)
  have HO := Lib.hid hp
  have HXX := Lib.hid hX
  have HYY := Lib.hid hY
  have HTT := Lib.hid hT
  have HCs := Lib.hid hcs
  obtain ⟨v, hv⟩ : ∃ v, v = showsB p b cs := ⟨_, rfl⟩
  rw [← hv]
  have HV := Lib.hid hv
  clear hp hb hX hT hY hcs hv
  have HH := Lib.hid (fun (W : World) (h : Below (w.alloc (.cells #[.int .i64 p.R, .int .i64 p.C, .int .i64 p.K, .slice A p.T.length c] 32)).heap.size (w.alloc (.cells #[.int .i64 p.R, .int .i64 p.C, .int .i64 p.K, .slice A p.T.length c] 32)) W) => show W.cell? ⟨w.heap.size, 0, none⟩ = some (.int .i64 p.R) ∧ W.cell? ⟨w.heap.size, 1, none⟩ = some (.int .i64 p.C) ∧ W.cell? ⟨w.heap.size, 2, none⟩ = some (.int .i64 p.K) ∧ W.cell? ⟨w.heap.size, 3, none⟩ = some (.slice A p.T.length c) from
    ⟨(h.cell (p := ⟨w.heap.size, 0, none⟩) hz1).trans hc1.1, (h.cell (p := ⟨w.heap.size, 1, none⟩) hz1).trans hc1.2.1, (h.cell (p := ⟨w.heap.size, 2, none⟩) hz1).trans hc1.2.2.1, (h.cell (p := ⟨w.heap.size, 3, none⟩) hz1).trans hc1.2.2.2⟩)
  clear hc1
  go_enter Tryd.func99, Tryd.ntmps99
  go_wp2
  generalize hw4 : (w.alloc (.cells #[.int .i64 p.R, .int .i64 p.C, .int .i64 p.K, .slice A p.T.length c] 32)) = w4 at *
  clear hw4
  go_loopw [7] (fun i wr => ∃ k : Nat, k ≤ p.T.length ∧ i = .int .i64 k ∧ Hid ((p.T.take k).all (seenT p b cs) = true) ∧ Below w4.heap.size w4 wr) (fun i _ => p.T.length - (intOf i).toNat)
  case atStart => exact ⟨0, Nat.zero_le _, rfl, Lib.hid rfl, Below.refl _ _⟩
  case round =>
    obtain ⟨k, hk, rfl, HK, hbr⟩ := hrel
    have hbwr := hb1.trans (hbr.mono hb1.size)
    obtain ⟨p0, p1, p2, p3⟩ := HH.out _ hbr
    have HF := Lib.hid hbwr
    by_cases hlt : k < p.T.length
    · have hx : p.T[k]? = some p.T[k] := List.getElem?_eq_getElem hlt
      have hmem := mem_of_get hx
      have HNx := Lib.hid (show (p.T.take (k + 1)).all (seenT p b cs) = seenT p b cs p.T[k] by rw [take_snoc hx, List.all_append, HK.out]; simp)
      have HFl := Lib.hid (show seenT p b cs p.T[k] = false → v = false from fun h => by
        rw [HV.out]
        unfold showsB
        rw [List.all_eq_false]
        exact ⟨_, hmem, by rw [h]; decide⟩)
      obtain ⟨tb, tf, rfl, htb, d⟩ := (HTT.out.up hbwr) k _ (intsN_get hx)
      clear hx
      generalize p.T[k] = t at *
      have hki : (k : Int) < (p.T.length : Int) := by omega
      have hk0 : (0 : Int) ≤ (k : Int) := by omega
      have hwz : w.heap.size < wr.heap.size := Nat.lt_of_lt_of_le hz1 hbr.size
      have HKK := Lib.hid (fun (W : World) (h : Below wr.heap.size wr W) => show Below wr.heap.size wr W ∧ W.cell? ⟨w.heap.size, 0, none⟩ = some (.int .i64 p.R) ∧ W.cell? ⟨w.heap.size, 1, none⟩ = some (.int .i64 p.C) ∧ W.cell? ⟨w.heap.size, 2, none⟩ = some (.int .i64 p.K) ∧ W.cell? ⟨w.heap.size, 3, none⟩ = some (.slice (some ⟨tb, tf, none⟩) p.T.length c) ∧ W.cell? ⟨tb, tf + k, none⟩ = some (.int .i64 t) from
        ⟨h, (h.cell (p := ⟨w.heap.size, 0, none⟩) hwz).trans p0, (h.cell (p := ⟨w.heap.size, 1, none⟩) hwz).trans p1, (h.cell (p := ⟨w.heap.size, 2, none⟩) hwz).trans p2, (h.cell (p := ⟨w.heap.size, 3, none⟩) hwz).trans p3, (h.cell (p := ⟨tb, _, none⟩) htb).trans d⟩)
      have X70 := Lib.hid (fun W (Q : Ending → World → Prop) (h : Below wr.heap.size wr W) (hQ : ∀ D d w', IntsAt w' w'.heap.size D (tdL (srcs p.R p.C (mv t)) b) → Below wr.heap.size wr w' → Q (.returned (.slice D p.n d)) w') =>
        (HTd.out W t ((HXX.out.up hbwr).up h) hmem).mono fun e w' ⟨D, d, he, hi, hb, _⟩ => by rw [he, td_len]; exact hQ D d w' hi (h.trans (hb.mono h.size)))
      have hbd := (Below.refl wr.heap.size wr).drew
      have hYr := Lib.hid (fun W (h : Below wr.heap.size wr W) => (HXX.out.up hbwr).up h)
      have hYc := Lib.hid (fun W (h : Below wr.heap.size wr W) => (HYY.out.up hbwr).up h)
      have HTl := Lib.hid (td_len p t b)
      have hn16 := HO.out.n16.2
      obtain ⟨sv, hsv⟩ : ∃ sv, sv = seenT p b cs t := ⟨_, rfl⟩
      rw [← hsv] at HNx HFl
      have HSv := Lib.hid (show sv = (decide (tdL (srcs p.R p.C (mv t)) b = b) || cs.any fun c => decide ((tdL (srcs p.R p.C (mv t)) b).getD c 0 ≠ b.getD c 0)) from hsv)
      have X71 := Lib.hid (fun D d W (Q : Ending → World → Prop) (hD : IntsAt W W.heap.size D (tdL (srcs p.R p.C (mv t)) b)) (h : Below wr.heap.size wr W) (hQ : ∀ w', Below W.heap.size W w' → Below wr.heap.size wr w' → Q (.returned (.bool (decide (tdL (srcs p.R p.C (mv t)) b = b)))) w') => show Calls Tryd.prog 71 #[.slice D p.n d, .slice X b.length xc] W Q from by
        have h0 := refSame_any D X d xc (tdL (srcs p.R p.C (mv t)) b) b W (by rw [HTl.out]; omega) (by rw [HTl.out, hbl.out]) _ hD (hYr.out W h)
        rw [HTl.out] at h0
        rw [hbl.out]
        exact h0.mono fun e w' ⟨he, q, hq⟩ => by rw [he, hq]; exact hQ _ (below_drewN (Below.refl _ _) q) (below_drewN h q))
      generalize tdL (srcs p.R p.C (mv t)) b = l at *
      clear d hsv
      go_upto_region 4 with (fail)
      clear p0 p1 p2 p3
      go_region_held3 (fun W => Below wr.heap.size wr W ∧ W.cell? ⟨w.heap.size, 0, none⟩ = some (.int .i64 p.R) ∧ W.cell? ⟨w.heap.size, 1, none⟩ = some (.int .i64 p.C) ∧ W.cell? ⟨w.heap.size, 2, none⟩ = some (.int .i64 p.K) ∧ W.cell? ⟨w.heap.size, 3, none⟩ = some (.slice (some ⟨tb, tf, none⟩) p.T.length c) ∧ W.cell? ⟨tb, tf + k, none⟩ = some (.int .i64 t))
        (exact HKK.out _ (by assumption))
        (first
            | (go_at_call 70; with_reducible refine X70.out _ _ (by assumption) ?_; intro D5 d5 w5 hI5 hb5))
      all_goals
        have HI5 := Lib.hid hI5
        go_wp2_with (go_at_call 71; with_reducible refine X71.out _ _ _ _ hI5 (by assumption) ?_; intro w6 hb56 hb6)
        have HI6 := Lib.hid (hI5.up hb56)
        have HX6 := Lib.hid (hYr.out w6 hb6)
        have HY6 := Lib.hid (hYc.out w6 hb6)
        have HB6 := Lib.hid hb6
        clear hI5 hb56
        go_wp2
        go_loopw [9, 10] (fun s i wr2 => ∃ (m : Nat) (sb : Bool), m ≤ cs.length ∧ i = .int .i64 m ∧ s = .bool sb ∧ Hid (sb = (decide (l = b) || (cs.take m).any fun c => decide (l.getD c 0 ≠ b.getD c 0))) ∧ Below w6.heap.size w6 wr2) (fun _ i _ => cs.length - (intOf i).toNat)
        case atStart => exact ⟨0, _, Nat.zero_le _, rfl, rfl, Lib.hid (by simp), Below.refl _ _⟩
        case round =>
          obtain ⟨m, sb, hm, rfl, rfl, HM, hb2⟩ := hrel
          by_cases hlt2 : m < cs.length
          · have hcx : cs[m]? = some cs[m] := List.getElem?_eq_getElem hlt2
            have hcn := HCs.out _ (mem_of_get hcx)
            have HSN := Lib.hid (seen_next hcx HM.out)
            obtain ⟨yb, yo, rfl, hyb, dy⟩ := (HY6.out.up hb2) m _ (intsN_get hcx)
            clear hcx
            generalize cs[m] = q at *
            have hlq : l[q]? = some (l.getD q 0) := by
              have := HTl.out
              rw [List.getD_eq_getElem?_getD, List.getElem?_eq_getElem (by omega)]; rfl
            have hbq : b[q]? = some (b.getD q 0) := by
              have := hbl.out
              rw [List.getD_eq_getElem?_getD, List.getElem?_eq_getElem (by omega)]; rfl
            obtain ⟨db, dof, rfl, hdb, d1⟩ := (HI6.out.up hb2) q _ hlq
            obtain ⟨xb, xo, rfl, hxb, d2⟩ := (HX6.out.up hb2) q _ hbq
            clear hlq hbq
            generalize l.getD q 0 = lv at *
            generalize b.getD q 0 = bv at *
            have hmi : (m : Int) < (cs.length : Int) := by omega
            have hqn : (q : Int) < (p.n : Int) := by omega
            have hqb : (q : Int) < (b.length : Int) := by have := hbl.out; omega
            cases sb
            · have HSN2 := Lib.hid (show (lv != bv) = _ from (show (lv != bv) = (false || decide (lv ≠ bv)) by by_cases h : lv = bv <;> simp [h]).trans HSN.out)
              go_upto_region 9 with (fail)
              go_quiet (fail)
              go_wp2
              go_roundw
              case rel => exact ⟨m + 1, lv != bv, by omega, by go_num, rfl, HSN2, below_drewN hb2 _⟩
              case measure => simp [intOf]; omega
            · go_upto_region 9 with (fail)
              go_quiet (fail)
              go_wp2
              go_roundw
              case rel => exact ⟨m + 1, true, by omega, by go_num, rfl, Lib.hid (HSN.out), below_drewN hb2 _⟩
              case measure => simp [intOf]; omega
          · have hmi : ¬ (m : Int) < (cs.length : Int) := by omega
            have HE := Lib.hid (show sb = sv by rw [HM.out, HSv.out, List.take_of_length_le (by omega)])
            have HFF := Lib.hid (HF.out.trans ((HB6.out.trans (hb2.mono HB6.out.size)).mono HF.out.size))
            have HRR := Lib.hid (hbr.trans ((HB6.out.trans (hb2.mono HB6.out.size)).mono hbr.size))
            cases sb
            · go_wp2
              go_ret
              exact ⟨by rw [HFl.out HE.out.symm]; rfl, HFF.out⟩
            · go_wp2
              go_roundw
              case rel => exact ⟨k + 1, by omega, by go_num, Lib.hid (by rw [HNx.out]; exact HE.out.symm), HRR.out⟩
              case measure => simp [intOf]; omega
    · have hki : ¬ (k : Int) < (p.T.length : Int) := by omega
      have HE := Lib.hid (show v = true by
        rw [HV.out]
        have := HK.out
        rw [List.take_of_length_le (by omega)] at this
        exact this)
      go_wp2
      go_ret
      exact ⟨by rw [HE.out]; rfl, HF.out⟩
end Go.Proofs.YtbcbaaapogejiaaDoor
