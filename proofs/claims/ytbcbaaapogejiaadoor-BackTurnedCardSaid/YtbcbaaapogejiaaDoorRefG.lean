/-
  The reference: turns with which a back stays.
-/
import Derived.Test.YtbcbaaapogejiaaDoorRefF
namespace Go.Proofs.YtbcbaaapogejiaaDoor
open Go.RowKit

set_option maxRecDepth 100000 in
set_option maxHeartbeats 2000000 in
theorem refStays_ok (p : Pr) (hp : p.Ok) (A X : Option Addr) (c xc : Nat) (b : List Int) (w : World) (hT : IntsAt w w.heap.size A (intsN p.T)) (hX : IntsAt w w.heap.size X b) (hb : BackOk p b) :
    Calls Tryd.prog 28 #[.agg #[.int .i64 p.R, .int .i64 p.C, .int .i64 p.K, .slice A p.T.length c], .slice X b.length xc] w (RetIE w (intsN (p.makes b b)) 0) := by
  have hb1 := below_new w (.cells #[.int .i64 p.R, .int .i64 p.C, .int .i64 p.K, .slice A p.T.length c] 32)
  have hc1 := own_cells4 w (.int .i64 p.R) (.int .i64 p.C) (.int .i64 p.K) (.slice A p.T.length c) 32
  have hz1 : w.heap.size < (w.alloc (.cells #[.int .i64 p.R, .int .i64 p.C, .int .i64 p.K, .slice A p.T.length c] 32)).heap.size := by simp
  have HV := Lib.hid (refVal_ok p hp A X c xc b _ (hT.up hb1) (hX.up hb1) hb)
  have hl8 := hp.len
  have hbl := Lib.hid hb.1
  have HTd := Lib.hid (fun W t h ht => refTd p hp A X c xc t b W h hb ht)
  have HO := Lib.hid hp
  have HXX := Lib.hid hX
  have HTT := Lib.hid hT
  clear hp hb hX hT
  go_enter Tryd.func28, Tryd.ntmps28
  go_upto_region 4 with (go_at_call 77; ((with_reducible refine (HV.out).mono ?_); rintro e w4 ⟨rfl, hb2⟩))
  have hbw : Below w.heap.size w w4 := hb1.trans (hb2.mono hb1.size)
  have hz4 : w.heap.size < w4.heap.size := Nat.lt_of_lt_of_le hz1 hb2.size
  have HH := Lib.hid (fun (W : World) (h : Below w4.heap.size w4 W) => show W.cell? ⟨w.heap.size, 0, none⟩ = some (.int .i64 p.R) ∧ W.cell? ⟨w.heap.size, 1, none⟩ = some (.int .i64 p.C) ∧ W.cell? ⟨w.heap.size, 2, none⟩ = some (.int .i64 p.K) ∧ W.cell? ⟨w.heap.size, 3, none⟩ = some (.slice A p.T.length c) from
    ⟨(h.cell (p := ⟨w.heap.size, 0, none⟩) hz4).trans ((hb2.cell (p := ⟨w.heap.size, 0, none⟩) hz1).trans hc1.1), (h.cell (p := ⟨w.heap.size, 1, none⟩) hz4).trans ((hb2.cell (p := ⟨w.heap.size, 1, none⟩) hz1).trans hc1.2.1), (h.cell (p := ⟨w.heap.size, 2, none⟩) hz4).trans ((hb2.cell (p := ⟨w.heap.size, 2, none⟩) hz1).trans hc1.2.2.1), (h.cell (p := ⟨w.heap.size, 3, none⟩) hz4).trans ((hb2.cell (p := ⟨w.heap.size, 3, none⟩) hz1).trans hc1.2.2.2)⟩)
  clear hc1 hb2 hb1 HV
  go_wp2
  go_loopw [7, 8] (fun v i wr => ∃ k : Nat, k ≤ p.T.length ∧ i = .int .i64 k ∧ (∃ n : Nat, n ≤ k ∧ wr.ownsRow w4.heap.size 3 1 v n ((intsN ((p.T.take k).filter (fun t => tdL (srcs p.R p.C (mv t)) b = b))).map (Value.int .i64))) ∧ Below w4.heap.size w4 wr) (fun _ i _ => p.T.length - (intOf i).toNat)
  case atStart => exact ⟨0, Nat.zero_le _, rfl, ⟨0, Nat.zero_le _, World.ownsRow_nil _ _ _ _⟩, Below.refl _ _⟩
  case round =>
    obtain ⟨k, hk, rfl, ⟨n, hnk, hown⟩, hbr⟩ := hrel
    have hbwr := hbw.trans (hbr.mono hbw.size)
    obtain ⟨p0, p1, p2, p3⟩ := HH.out _ hbr
    have HF := Lib.hid hbwr
    by_cases hlt : k < p.T.length
    · have hx : p.T[k]? = some p.T[k] := List.getElem?_eq_getElem hlt
      have hmem := mem_of_get hx
      have HXk := Lib.hid (makes_take (p := p) (a := b) (b := b) hx)
      obtain ⟨tb, tf, rfl, htb, d⟩ := (HTT.out.up hbwr) k _ (intsN_get hx)
      clear hx
      generalize p.T[k] = t at *
      have hki : (k : Int) < (p.T.length : Int) := by omega
      have hk0 : (0 : Int) ≤ (k : Int) := by omega
      have hwz : w.heap.size < wr.heap.size := Nat.lt_of_lt_of_le hz4 hbr.size
      have HKK := Lib.hid (fun (W : World) (h : Below wr.heap.size wr W) => show Below wr.heap.size wr W ∧ W.cell? ⟨w.heap.size, 0, none⟩ = some (.int .i64 p.R) ∧ W.cell? ⟨w.heap.size, 1, none⟩ = some (.int .i64 p.C) ∧ W.cell? ⟨w.heap.size, 2, none⟩ = some (.int .i64 p.K) ∧ W.cell? ⟨w.heap.size, 3, none⟩ = some (.slice (some ⟨tb, tf, none⟩) p.T.length c) ∧ W.cell? ⟨tb, tf + k, none⟩ = some (.int .i64 t) from
        ⟨h, (h.cell (p := ⟨w.heap.size, 0, none⟩) hwz).trans p0, (h.cell (p := ⟨w.heap.size, 1, none⟩) hwz).trans p1, (h.cell (p := ⟨w.heap.size, 2, none⟩) hwz).trans p2, (h.cell (p := ⟨w.heap.size, 3, none⟩) hwz).trans p3, (h.cell (p := ⟨tb, _, none⟩) htb).trans d⟩)
      have X70 := Lib.hid (fun W (Q : Ending → World → Prop) (h : Below wr.heap.size wr W) (hQ : ∀ D d w', IntsAt w' w'.heap.size D (tdL (srcs p.R p.C (mv t)) b) → Below wr.heap.size wr w' → Q (.returned (.slice D p.n d)) w') =>
        (HTd.out W t ((HXX.out.up hbwr).up h) hmem).mono fun e w' ⟨D, d, he, hi, hb, _⟩ => by rw [he, td_len]; exact hQ D d w' hi (h.trans (hb.mono h.size)))
      have hbd := (Below.refl wr.heap.size wr).drew
      have hYr := Lib.hid (fun W (h : Below wr.heap.size wr W) => (HXX.out.up hbwr).up h)
      have hownH := Lib.hid hown
      by_cases hin : tdL (srcs p.R p.C (mv t)) b = b
      · have X71 := Lib.hid (fun D d W (Q : Ending → World → Prop) (hD : IntsAt W W.heap.size D (tdL (srcs p.R p.C (mv t)) b)) (h : Below wr.heap.size wr W) (hQ : ∀ w', Below wr.heap.size wr w' → Q (.returned (.bool true)) w') =>
          (same_yes p HO.out D X d xc b.length _ b W (td_len p t b) hbl.out hbl.out hD (hYr.out W h) hin).mono fun e w' ⟨he, q, hq⟩ => by rw [he, hq]; exact hQ _ (below_drewN h q))
        have HN := HXk.out
        rw [if_pos hin] at HN
        have HNN := Lib.hid HN
        generalize tdL (srcs p.R p.C (mv t)) b = l at *
        clear hin d HN hown
        go_upto_region 8 with (fail)
        clear p0 p1 p2 p3
        go_region_held3 (fun W => Below wr.heap.size wr W ∧ W.cell? ⟨w.heap.size, 0, none⟩ = some (.int .i64 p.R) ∧ W.cell? ⟨w.heap.size, 1, none⟩ = some (.int .i64 p.C) ∧ W.cell? ⟨w.heap.size, 2, none⟩ = some (.int .i64 p.K) ∧ W.cell? ⟨w.heap.size, 3, none⟩ = some (.slice (some ⟨tb, tf, none⟩) p.T.length c) ∧ W.cell? ⟨tb, tf + k, none⟩ = some (.int .i64 t))
          (exact HKK.out _ (by assumption))
          (first
            | (go_at_call 70; with_reducible refine X70.out _ _ (by assumption) ?_; intro D5 d5 w5 hI5 hb5)
            | (go_at_call 71; with_reducible refine X71.out _ _ _ _ (by assumption) (by assumption) ?_; intro w6 hb6))
        all_goals
          obtain ⟨_, p0, p1, p2, p3, d⟩ := HKK.out w6 hb6
          have hown6 := own_below hownH.out hb6
          have hs6 := hb6.size
          have hs4 := hbr.size
          go_wp2_with (at_builtin; go_must (refine wpList_append_int _ rfl _ _ rfl w4.heap.size n w6.heap.size _ _ (t : Int) rfl (hown6.alloc _) rfl (heap_new _ _) (by omega) (by simp; omega) ?_); intro A4 c4 w7 hown7 hgrow7 _)
          have hbn : Below w4.heap.size w4 w7 := ((hbr.trans (hb6.mono hbr.size)).alloc (by omega) _).grown hgrow7 (by simp; omega) (fun g hg => (hown6.lt g hg).1)
          clear p0 p1 p2 p3 d
          go_wp2
          go_roundw
          case rel => exact ⟨k + 1, by omega, by go_num, ⟨n + 1, by omega, by rw [HNN.out]; unfold intsN at hown7 ⊢; rw [List.map_append]; exact hown7⟩, hbn⟩
          case measure => simp [intOf]; omega
      · have X71 := Lib.hid (fun D d W (Q : Ending → World → Prop) (hD : IntsAt W W.heap.size D (tdL (srcs p.R p.C (mv t)) b)) (h : Below wr.heap.size wr W) (hQ : ∀ w', Below wr.heap.size wr w' → Q (.returned (.bool false)) w') =>
          (same_no p HO.out D X d xc b.length _ b W (td_len p t b) hbl.out hbl.out hD (hYr.out W h) hin).mono fun e w' ⟨he, q, hq⟩ => by rw [he, hq]; exact hQ _ (below_drewN h q))
        have HN := HXk.out
        rw [if_neg hin, List.append_nil] at HN
        have HNN := Lib.hid HN
        generalize tdL (srcs p.R p.C (mv t)) b = l at *
        clear hin d HN hown
        go_upto_region 8 with (fail)
        clear p0 p1 p2 p3
        go_region_held3 (fun W => Below wr.heap.size wr W ∧ W.cell? ⟨w.heap.size, 0, none⟩ = some (.int .i64 p.R) ∧ W.cell? ⟨w.heap.size, 1, none⟩ = some (.int .i64 p.C) ∧ W.cell? ⟨w.heap.size, 2, none⟩ = some (.int .i64 p.K) ∧ W.cell? ⟨w.heap.size, 3, none⟩ = some (.slice (some ⟨tb, tf, none⟩) p.T.length c) ∧ W.cell? ⟨tb, tf + k, none⟩ = some (.int .i64 t))
          (exact HKK.out _ (by assumption))
          (first
            | (go_at_call 70; with_reducible refine X70.out _ _ (by assumption) ?_; intro D5 d5 w5 hI5 hb5)
            | (go_at_call 71; with_reducible refine X71.out _ _ _ _ (by assumption) (by assumption) ?_; intro w6 hb6))
        all_goals
          have hown6 := own_below hownH.out hb6
          go_wp2
          go_roundw
          case rel => exact ⟨k + 1, by omega, by go_num, ⟨n, by omega, by rw [HNN.out]; exact hown6⟩, hbr.trans (Below.mono hb6 hbr.size)⟩
          case measure => simp [intOf]; omega
    · have hki : ¬ (k : Int) < (p.T.length : Int) := by omega
      rw [List.take_of_length_le (by omega), show p.T.filter (fun t => tdL (srcs p.R p.C (mv t)) b = b) = p.makes b b from rfl] at hown
      generalize intsN (p.makes b b) = l at *
      obtain ⟨A', c', rfl, hA', hll, hge⟩ := own_ints hown
      have HL := Lib.hid hll
      clear hown hll
      go_wp2
      go_ret2
      exact ⟨A', c', by rw [← HL.out]; rfl, hA', HF.out⟩
end Go.Proofs.YtbcbaaapogejiaaDoor
