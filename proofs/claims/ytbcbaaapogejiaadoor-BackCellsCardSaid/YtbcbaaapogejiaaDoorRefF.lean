/-
  The reference: backs that are alike, and turns with which they stay.
-/
import Derived.Test.YtbcbaaapogejiaaDoorGErr
namespace Go.Proofs.YtbcbaaapogejiaaDoor
open Go.RowKit

/-- The first turn that makes a back another one, and the error. -/
def alkN (p : Pr) (a b : List Int) : Int × Int := match p.makes a b with
  | [] => (0, 12)
  | t :: _ => (t, 0)
theorem makes_take {p : Pr} {a b : List Int} {k t : Nat} (hk : p.T[k]? = some t) : (p.T.take (k + 1)).filter (fun t => tdL (srcs p.R p.C (mv t)) a = b) = (p.T.take k).filter (fun t => tdL (srcs p.R p.C (mv t)) a = b) ++ if tdL (srcs p.R p.C (mv t)) a = b then [t] else [] := by
  rw [take_snoc hk, List.filter_append]
  by_cases h : tdL (srcs p.R p.C (mv t)) a = b <;> simp [h]
theorem alk_found {p : Pr} {a b : List Int} {k t : Nat} (hk : p.T[k]? = some t) (hno : (p.T.take k).filter (fun t => tdL (srcs p.R p.C (mv t)) a = b) = []) (h : tdL (srcs p.R p.C (mv t)) a = b) : alkN p a b = ((t : Int), 0) := by
  have e : p.makes a b = t :: (p.T.drop (k + 1)).filter (fun t => tdL (srcs p.R p.C (mv t)) a = b) := by
    have h1 : p.T = p.T.take k ++ t :: p.T.drop (k + 1) := by rw [← drop_cons hk, List.take_append_drop]
    unfold Pr.makes
    conv => lhs; rw [h1]
    rw [List.filter_append, hno, List.filter_cons, if_pos (by simpa using h)]
    rfl
  unfold alkN
  rw [e]
theorem alk_lost {p : Pr} {a b : List Int} (h : p.makes a b = []) : alkN p a b = (0, 12) := by unfold alkN; rw [h]

theorem same_yes (p : Pr) (hp : p.Ok) (A D : Option Addr) (c d n : Nat) (l m : List Int) (W : World) (hl : l.length = p.n) (hm : m.length = p.n) (hn : n = p.n) (hA : IntsAt W W.heap.size A l) (hD : IntsAt W W.heap.size D m) (h : l = m) :
    Calls Tryd.prog 71 #[.slice A p.n c, .slice D n d] W fun e w' => e = .returned (.bool true) ∧ ∃ q, w' = W.drewN q := by
  have := hp.n16
  have h1 := refSame_any A D c d l m W (by omega) (by omega) _ hA hD
  rw [decide_eq_true h, hl] at h1
  rw [hn]
  exact h1
theorem same_no (p : Pr) (hp : p.Ok) (A D : Option Addr) (c d n : Nat) (l m : List Int) (W : World) (hl : l.length = p.n) (hm : m.length = p.n) (hn : n = p.n) (hA : IntsAt W W.heap.size A l) (hD : IntsAt W W.heap.size D m) (h : l ≠ m) :
    Calls Tryd.prog 71 #[.slice A p.n c, .slice D n d] W fun e w' => e = .returned (.bool false) ∧ ∃ q, w' = W.drewN q := by
  have := hp.n16
  have h1 := refSame_any A D c d l m W (by omega) (by omega) _ hA hD
  rw [decide_eq_false h, hl] at h1
  rw [hn]
  exact h1

set_option maxRecDepth 100000 in
set_option maxHeartbeats 2000000 in
theorem refAlike_ok (p : Pr) (hp : p.Ok) (A X Y : Option Addr) (c xc yc : Nat) (a b : List Int) (w : World) (hT : IntsAt w w.heap.size A (intsN p.T)) (hX : IntsAt w w.heap.size X a) (hY : IntsAt w w.heap.size Y b) (ha : BackOk p a) (hb : BackOk p b) :
    Calls Tryd.prog 26 #[.agg #[.int .i64 p.R, .int .i64 p.C, .int .i64 p.K, .slice A p.T.length c], .slice X a.length xc, .slice Y b.length yc] w (RetNE w (alkN p a b).1 (alkN p a b).2) := by
  have hb1 := below_new w (.cells #[.int .i64 p.R, .int .i64 p.C, .int .i64 p.K, .slice A p.T.length c] 32)
  have hc1 := own_cells4 w (.int .i64 p.R) (.int .i64 p.C) (.int .i64 p.K) (.slice A p.T.length c) 32
  have hz1 : w.heap.size < (w.alloc (.cells #[.int .i64 p.R, .int .i64 p.C, .int .i64 p.K, .slice A p.T.length c] 32)).heap.size := by simp
  have HV := Lib.hid (refVal_ok p hp A X c xc a _ (hT.up hb1) (hX.up hb1) ha)
  have HU := Lib.hid (fun W (h : Below w.heap.size w W) => refVal_ok p hp A Y c yc b W (hT.up h) (hY.up h) hb)
  have hl8 := hp.len
  have hal := Lib.hid ha.1
  have hbl := Lib.hid hb.1
  obtain ⟨v1, v2, hv⟩ : ∃ v1 v2, alkN p a b = (v1, v2) := ⟨_, _, rfl⟩
  rw [hv]
  have HVV := Lib.hid hv
  have HTd := Lib.hid (fun W t h ht => refTd p hp A X c xc t a W h ha ht)
  have HO := Lib.hid hp
  have HXX := Lib.hid hX
  have HYY := Lib.hid hY
  have HTT := Lib.hid hT
  clear hv hp ha hb hX hY hT
  dsimp only
  go_enter Tryd.func26, Tryd.ntmps26
  go_upto_region 6 with (first
    | (go_at_call 77; ((with_reducible refine (HV.out).mono ?_); rintro e w1 ⟨rfl, hb2⟩; have hb3 := hb1.trans (hb2.mono hb1.size); obtain ⟨q1, q2, q3⟩ := bcell hb2; simp only [World.size_alloc] at q1 q2 q3))
    | (go_at_call 77; refine (HU.out _ hb3).mono ?_; rintro e w4 ⟨rfl, hb4⟩))
  have hbw : Below w.heap.size w w4 := hb3.trans (hb4.mono hb3.size)
  have hb14 := hb2.trans (hb4.mono hb2.size)
  have hz4 : w.heap.size < w4.heap.size := Nat.lt_of_lt_of_le hz1 hb14.size
  have HH := Lib.hid (fun (W : World) (h : Below w4.heap.size w4 W) => show W.cell? ⟨w.heap.size, 0, none⟩ = some (.int .i64 p.R) ∧ W.cell? ⟨w.heap.size, 1, none⟩ = some (.int .i64 p.C) ∧ W.cell? ⟨w.heap.size, 2, none⟩ = some (.int .i64 p.K) ∧ W.cell? ⟨w.heap.size, 3, none⟩ = some (.slice A p.T.length c) from
    ⟨(h.cell (p := ⟨w.heap.size, 0, none⟩) hz4).trans ((hb14.cell (p := ⟨w.heap.size, 0, none⟩) hz1).trans hc1.1), (h.cell (p := ⟨w.heap.size, 1, none⟩) hz4).trans ((hb14.cell (p := ⟨w.heap.size, 1, none⟩) hz1).trans hc1.2.1), (h.cell (p := ⟨w.heap.size, 2, none⟩) hz4).trans ((hb14.cell (p := ⟨w.heap.size, 2, none⟩) hz1).trans hc1.2.2.1), (h.cell (p := ⟨w.heap.size, 3, none⟩) hz4).trans ((hb14.cell (p := ⟨w.heap.size, 3, none⟩) hz1).trans hc1.2.2.2)⟩)
  clear hc1 q1 q2 q3 hb14 hb4 hb3 hb2 hb1 HV HU
  go_wp2
  go_loopw [9] (fun i wr => ∃ k : Nat, k ≤ p.T.length ∧ i = .int .i64 k ∧ Hid ((p.T.take k).filter (fun t => tdL (srcs p.R p.C (mv t)) a = b) = []) ∧ Below w4.heap.size w4 wr) (fun i _ => p.T.length - (intOf i).toNat)
  case atStart => exact ⟨0, Nat.zero_le _, rfl, Lib.hid rfl, Below.refl _ _⟩
  case round =>
    obtain ⟨k, hk, rfl, HK, hbr⟩ := hrel
    have hbwr := hbw.trans (hbr.mono hbw.size)
    obtain ⟨p0, p1, p2, p3⟩ := HH.out _ hbr
    have HF := Lib.hid hbwr
    by_cases hlt : k < p.T.length
    · have hx : p.T[k]? = some p.T[k] := List.getElem?_eq_getElem hlt
      have hmem := mem_of_get hx
      have HXk := Lib.hid hx
      obtain ⟨tb, tf, rfl, htb, d⟩ := (HTT.out.up hbwr) k _ (intsN_get hx)
      clear hx
      generalize p.T[k] = t at *
      have hki : (k : Int) < (p.T.length : Int) := by omega
      have hk0 : (0 : Int) ≤ (k : Int) := by omega
      have hwz : w.heap.size < wr.heap.size := Nat.lt_of_lt_of_le hz4 hbr.size
      have HKK := Lib.hid (fun (W : World) (h : Below wr.heap.size wr W) => show Below wr.heap.size wr W ∧ W.cell? ⟨w.heap.size, 0, none⟩ = some (.int .i64 p.R) ∧ W.cell? ⟨w.heap.size, 1, none⟩ = some (.int .i64 p.C) ∧ W.cell? ⟨w.heap.size, 2, none⟩ = some (.int .i64 p.K) ∧ W.cell? ⟨w.heap.size, 3, none⟩ = some (.slice (some ⟨tb, tf, none⟩) p.T.length c) ∧ W.cell? ⟨tb, tf + k, none⟩ = some (.int .i64 t) from
        ⟨h, (h.cell (p := ⟨w.heap.size, 0, none⟩) hwz).trans p0, (h.cell (p := ⟨w.heap.size, 1, none⟩) hwz).trans p1, (h.cell (p := ⟨w.heap.size, 2, none⟩) hwz).trans p2, (h.cell (p := ⟨w.heap.size, 3, none⟩) hwz).trans p3, (h.cell (p := ⟨tb, _, none⟩) htb).trans d⟩)
      have X70 := Lib.hid (fun W (Q : Ending → World → Prop) (h : Below wr.heap.size wr W) (hQ : ∀ D d w', IntsAt w' w'.heap.size D (tdL (srcs p.R p.C (mv t)) a) → Below wr.heap.size wr w' → Q (.returned (.slice D p.n d)) w') =>
        (HTd.out W t ((HXX.out.up hbwr).up h) hmem).mono fun e w' ⟨D, d, he, hi, hb, _⟩ => by rw [he, td_len]; exact hQ D d w' hi (h.trans (hb.mono h.size)))
      have hbd := (Below.refl wr.heap.size wr).drew
      have hYr := Lib.hid (fun W (h : Below wr.heap.size wr W) => (HYY.out.up hbwr).up h)
      by_cases hin : tdL (srcs p.R p.C (mv t)) a = b
      · have X71 := Lib.hid (fun D d W (Q : Ending → World → Prop) (hD : IntsAt W W.heap.size D (tdL (srcs p.R p.C (mv t)) a)) (h : Below wr.heap.size wr W) (hQ : ∀ w', Below wr.heap.size wr w' → Q (.returned (.bool true)) w') =>
          (same_yes p HO.out D Y d yc b.length _ b W (td_len p t a) hbl.out hbl.out hD (hYr.out W h) hin).mono fun e w' ⟨he, q, hq⟩ => by rw [he, hq]; exact hQ _ (below_drewN h q))
        have HE := Lib.hid (alk_found HXk.out HK.out hin)
        generalize tdL (srcs p.R p.C (mv t)) a = l at *
        clear hin d
        go_upto_region 9 with (fail)
        clear p0 p1 p2 p3
        go_region_held3 (fun W => Below wr.heap.size wr W ∧ W.cell? ⟨w.heap.size, 0, none⟩ = some (.int .i64 p.R) ∧ W.cell? ⟨w.heap.size, 1, none⟩ = some (.int .i64 p.C) ∧ W.cell? ⟨w.heap.size, 2, none⟩ = some (.int .i64 p.K) ∧ W.cell? ⟨w.heap.size, 3, none⟩ = some (.slice (some ⟨tb, tf, none⟩) p.T.length c) ∧ W.cell? ⟨tb, tf + k, none⟩ = some (.int .i64 t))
          (exact HKK.out _ (by assumption))
          (first
            | (go_at_call 70; with_reducible refine X70.out _ _ (by assumption) ?_; intro D5 d5 w5 hI5 hb5)
            | (go_at_call 71; with_reducible refine X71.out _ _ _ _ (by assumption) (by assumption) ?_; intro w6 hb6))
        all_goals
          obtain ⟨_, p0, p1, p2, p3, d⟩ := HKK.out w6 hb6
          go_wp2
          go_ret2
          have e := HE.out
          rw [HVV.out] at e
          injection e with e1 e2
          exact ⟨by rw [e1, e2]; rfl, HF.out.trans (Below.mono hb6 HF.out.size)⟩
      · have X71 := Lib.hid (fun D d W (Q : Ending → World → Prop) (hD : IntsAt W W.heap.size D (tdL (srcs p.R p.C (mv t)) a)) (h : Below wr.heap.size wr W) (hQ : ∀ w', Below wr.heap.size wr w' → Q (.returned (.bool false)) w') =>
          (same_no p HO.out D Y d yc b.length _ b W (td_len p t a) hbl.out hbl.out hD (hYr.out W h) hin).mono fun e w' ⟨he, q, hq⟩ => by rw [he, hq]; exact hQ _ (below_drewN h q))
        have HN := Lib.hid (show (p.T.take (k + 1)).filter (fun t => tdL (srcs p.R p.C (mv t)) a = b) = [] by rw [makes_take HXk.out, HK.out, if_neg hin]; rfl)
        generalize tdL (srcs p.R p.C (mv t)) a = l at *
        clear hin d
        go_upto_region 9 with (fail)
        clear p0 p1 p2 p3
        go_region_held3 (fun W => Below wr.heap.size wr W ∧ W.cell? ⟨w.heap.size, 0, none⟩ = some (.int .i64 p.R) ∧ W.cell? ⟨w.heap.size, 1, none⟩ = some (.int .i64 p.C) ∧ W.cell? ⟨w.heap.size, 2, none⟩ = some (.int .i64 p.K) ∧ W.cell? ⟨w.heap.size, 3, none⟩ = some (.slice (some ⟨tb, tf, none⟩) p.T.length c) ∧ W.cell? ⟨tb, tf + k, none⟩ = some (.int .i64 t))
          (exact HKK.out _ (by assumption))
          (first
            | (go_at_call 70; with_reducible refine X70.out _ _ (by assumption) ?_; intro D5 d5 w5 hI5 hb5)
            | (go_at_call 71; with_reducible refine X71.out _ _ _ _ (by assumption) (by assumption) ?_; intro w6 hb6))
        all_goals
          go_wp2
          go_roundw
          case rel => exact ⟨k + 1, by omega, by go_num, HN, hbr.trans (Below.mono hb6 hbr.size)⟩
          case measure => simp [intOf]; omega
    · have HE := Lib.hid (alk_lost (p := p) (a := a) (b := b) (by have := HK.out; rw [List.take_of_length_le (by omega)] at this; exact this))
      have hki : ¬ (k : Int) < (p.T.length : Int) := by omega
      go_wp2
      go_ret2
      have e := HE.out
      rw [HVV.out] at e
      injection e with e1 e2
      exact ⟨by rw [e1, e2]; rfl, HF.out⟩
end Go.Proofs.YtbcbaaapogejiaaDoor
