/-
  Backs that are turned, alike, first, that stay; products.
-/
import Derived.Test.YtbcbaaapogejiaaDoorExpA
namespace Go.Proofs.YtbcbaaapogejiaaDoor
open Go.RowKit

set_option maxRecDepth 100000 in
set_option maxHeartbeats 600000 in
theorem productF_ok (a b : Nat) (w : World) (hm : MovW w) (ha : a < 8) (hb : b < 8) : Calls Tryd.prog 19 #[.int .i64 a, .int .i64 b] w fun e w' => e = .returned (.tuple #[.int .i64 (prodN a b : Nat), .int .i64 0]) ∧ Below w.heap.size w w' := by
  have HA := Lib.hid (fun W => isTurn_any (a : Int) W)
  have HB := Lib.hid (fun W => isTurn_any (b : Int) W)
  rw [decide_eq_true (show 0 ≤ (a : Int) ∧ (a : Int) < 8 by omega)] at HA
  rw [decide_eq_true (show 0 ≤ (b : Int) ∧ (b : Int) < 8 by omega)] at HB
  have HP := Lib.hid (product_any a b w hm ha hb)
  generalize prodN a b = P at *
  clear hm
  go_enter Tryd.func19, Tryd.ntmps19
  go_wp2_with (first
    | (go_at_call 67; first | ((with_reducible refine (HA.out _).mono ?_); rintro e w1 ⟨rfl, rfl⟩) | ((with_reducible refine (HB.out _).mono ?_); rintro e w1 ⟨rfl, rfl⟩))
    | (go_at_call 68; refine (HP.out).mono ?_; rintro e w1 ⟨rfl, hb1⟩))
  go_ret2
  exact ⟨rfl, hb1⟩

set_option maxRecDepth 100000 in
set_option maxHeartbeats 600000 in
theorem firstF_ok (p : Pr) (hp : p.Ok) (A TA : Option Addr) (c tc : Nat) (b : List Int) (w : World) (hm : MovW w) (hT : IntsAt w w.heap.size TA (intsN p.T)) (hA : IntsAt w w.heap.size A b) (hb : BackOk p b) (l : List Int) (hl : (p.kin b)[0]? = some l) :
    Calls Tryd.prog 30 #[.agg #[.int .i64 p.R, .int .i64 p.C, .int .i64 p.K, .slice TA p.T.length tc], .slice A b.length c] w (RetInts0 w l) := by
  have hb1 := below_new w (.cells #[.int .i64 p.R, .int .i64 p.C, .int .i64 p.K, .slice TA p.T.length tc] 24)
  have HP := Lib.hid (plate_one p hp A TA c tc b w _ hm hT hA hb hb1)
  simp only [World.size_alloc] at HP
  have hbx := hb1.trans ((below_new (w.alloc (.cells #[.int .i64 p.R, .int .i64 p.C, .int .i64 p.K, .slice TA p.T.length tc] 24)) (.cells #[.slice A b.length c] 22)).mono hb1.size)
  have HK := Lib.hid (fun W FA fc (hW : Below w.heap.size w W) hF => kin_any p.R p.C p.K TA FA tc fc p.T p.from A c b W (hT.up hW) hF (hA.up hW) (from_len p) (from_in hp hb.1) (by have := hb.len hp; omega) hp.len hp.pos)
  have hk : p.kin b = kinU (p.from.map fun s => tdL s b) := rfl
  rw [hk] at hl
  generalize kinU (p.from.map fun s => tdL s b) = L at *
  have HL := Lib.hid hl
  have hpos := lt_of_get hl
  have hposi : (0 : Int) < (L.length : Int) := by omega
  clear hm hT hA hb hp hk hl
  go_enter Tryd.func30, Tryd.ntmps30
  go_wp2_with (first
    | (go_at_call 74; refine (HP.out).mono ?_; rintro e w1 ⟨FA, fc, rfl, hF, hb2⟩; have hb3 := hbx.trans (hb2.mono hbx.size); have hb4 := hb3.trans ((below_new w1 (.cells #[.int .i64 p.R, .int .i64 p.C, .int .i64 p.K, .slice TA p.T.length tc, .slice FA p.T.length fc] 115)).mono hb3.size); have hF2 := hF.up (below_new w1 (.cells #[.int .i64 p.R, .int .i64 p.C, .int .i64 p.K, .slice TA p.T.length tc, .slice FA p.T.length fc] 115)))
    | (go_at_call 79; refine (HK.out _ _ _ hb4 hF2).mono ?_; rintro e w5 ⟨E, g, rfl, hL, hb5⟩; obtain ⟨eb, eo, D, d, rfl, he1, he2, he3⟩ := hL 0 l HL.out; rw [Nat.add_zero] at he2))
  go_ret2
  exact ⟨D, d, rfl, he3, hb4.trans (hb5.mono hb4.size)⟩

theorem idx_first {T : List Nat} {k t : Nat} (hasc : T.Pairwise (· < ·)) (hk : T[k]? = some t) (j : Nat) (hj : j < k) : (intsN T)[j]? ≠ some (t : Int) := by
  intro e
  have h0 : (intsN T)[j]? = (T[j]?).map (fun n : Nat => (n : Int)) := by simp [intsN]
  rw [h0, Option.map_eq_some_iff] at e
  obtain ⟨u, hu, e2⟩ := e
  obtain ⟨h1, e1⟩ := List.getElem?_eq_some_iff.1 hu
  obtain ⟨h2, e3⟩ := List.getElem?_eq_some_iff.1 hk
  have := List.pairwise_iff_getElem.1 hasc j k h1 h2 hj
  omega

set_option maxRecDepth 100000 in
set_option maxHeartbeats 600000 in
theorem turnF_ok (p : Pr) (hp : p.Ok) (A TA : Option Addr) (c tc : Nat) (b : List Int) (k t : Nat) (w : World) (hm : MovW w) (hT : IntsAt w w.heap.size TA (intsN p.T)) (hA : IntsAt w w.heap.size A b) (hb : BackOk p b) (hk : p.T[k]? = some t) :
    Calls Tryd.prog 23 #[.agg #[.int .i64 p.R, .int .i64 p.C, .int .i64 p.K, .slice TA p.T.length tc], .slice A b.length c, .int .i64 t] w (RetInts0 w (tdL (srcs p.R p.C (mv t)) b)) := by
  have hb1 := below_new w (.cells #[.int .i64 p.R, .int .i64 p.C, .int .i64 p.K, .slice TA p.T.length tc] 24)
  have HP := Lib.hid (plate_one p hp A TA c tc b w _ hm hT hA hb hb1)
  simp only [World.size_alloc] at HP
  have hbx := hb1.trans ((below_new (w.alloc (.cells #[.int .i64 p.R, .int .i64 p.C, .int .i64 p.K, .slice TA p.T.length tc] 24)) (.cells #[.slice A b.length c] 22)).mono hb1.size)
  have hfi := from_in hp hb.1 _ (mem_of_get (from_get hk))
  have HK := Lib.hid (fun W FA fc (hW : Below w.heap.size w W) hF => turned_any p.R p.C p.K TA FA p.T.length tc fc p.from A c b k _ W hF (hA.up hW) (from_get hk) hfi.2 (by have := hb.len hp; omega) hfi.1 (by rw [from_len]; have := hp.len; omega))
  rw [from_len] at HK
  have hasc := hp.asc
  have hl8 := hp.len
  have HX := Lib.hid (fun W (hW : Below w.heap.size w W) => index_in TA tc (intsN p.T) (t : Int) k W W.heap.size (hT.up hW) (by rw [intsN_len]; omega) (intsN_get hk) (idx_first hasc hk))
  rw [intsN_len] at HX
  have hk0 : ¬ (k : Int) < 0 := by omega
  generalize tdL (srcs p.R p.C (mv t)) b = l at *
  clear hm hT hA hb hp hasc hfi hk
  go_enter Tryd.func23, Tryd.ntmps23
  go_wp2_with (first
    | (go_at_call 74; refine (HP.out).mono ?_; rintro e w1 ⟨FA, fc, rfl, hF, hb2⟩; have hb3 := hbx.trans (hb2.mono hbx.size); have hb4 := hb3.trans ((below_new w1 (.cells #[.int .i64 p.R, .int .i64 p.C, .int .i64 p.K, .slice TA p.T.length tc, .slice FA p.T.length fc] 115)).mono hb3.size); have hF2 := hF.up (below_new w1 (.cells #[.int .i64 p.R, .int .i64 p.C, .int .i64 p.K, .slice TA p.T.length tc, .slice FA p.T.length fc] 115)))
    | (go_at_call 75; refine (HX.out _ hb4).mono ?_; rintro e w5 ⟨rfl, rfl⟩)
    | (go_at_call 76; refine (HK.out _ _ _ hb4 hF2).mono ?_; rintro e w5 ⟨E, g, rfl, hL, hb5, _⟩))
  go_ret2
  exact ⟨E, g, rfl, hL, hb4.trans (hb5.mono hb4.size)⟩
set_option maxRecDepth 100000 in
set_option maxHeartbeats 600000 in
theorem staysF_ok (p : Pr) (hp : p.Ok) (A TA : Option Addr) (c tc : Nat) (b : List Int) (w : World) (hm : MovW w) (hT : IntsAt w w.heap.size TA (intsN p.T)) (hA : IntsAt w w.heap.size A b) (hb : BackOk p b) :
    Calls Tryd.prog 27 #[.agg #[.int .i64 p.R, .int .i64 p.C, .int .i64 p.K, .slice TA p.T.length tc], .slice A b.length c] w (RetInts0 w (intsN (p.makes b b))) := by
  have hb1 := below_new w (.cells #[.int .i64 p.R, .int .i64 p.C, .int .i64 p.K, .slice TA p.T.length tc] 24)
  have HP := Lib.hid (plate_one p hp A TA c tc b w _ hm hT hA hb hb1)
  simp only [World.size_alloc] at HP
  have hbx := hb1.trans ((below_new (w.alloc (.cells #[.int .i64 p.R, .int .i64 p.C, .int .i64 p.K, .slice TA p.T.length tc] 24)) (.cells #[.slice A b.length c] 22)).mono hb1.size)
  have HK := Lib.hid (fun W FA fc (hW : Below w.heap.size w W) hF => makes_any p.R p.C p.K TA FA tc fc p.T p.from A A c c b b W (hT.up hW) hF (hA.up hW) (hA.up hW) (from_len p) (from_in hp hb.1) (by have := hb.len hp; omega) (by have := hb.len hp; omega) (by have := hp.len; omega))
  rw [mkL_all] at HK
  generalize intsN (p.makes b b) = l at *
  clear hm hT hA hb hp
  go_enter Tryd.func27, Tryd.ntmps27
  go_wp2_with (first
    | (go_at_call 74; refine (HP.out).mono ?_; rintro e w1 ⟨FA, fc, rfl, hF, hb2⟩; have hb3 := hbx.trans (hb2.mono hbx.size); have hb4 := hb3.trans ((below_new w1 (.cells #[.int .i64 p.R, .int .i64 p.C, .int .i64 p.K, .slice TA p.T.length tc, .slice FA p.T.length fc] 115)).mono hb3.size); have hF2 := hF.up (below_new w1 (.cells #[.int .i64 p.R, .int .i64 p.C, .int .i64 p.K, .slice TA p.T.length tc, .slice FA p.T.length fc] 115)))
    | (go_at_call 78; refine (HK.out _ _ _ hb4 hF2).mono ?_; rintro e w5 ⟨E, g, rfl, hL, hb5, _⟩))
  go_ret2
  exact ⟨E, g, rfl, hL, hb4.trans (hb5.mono hb4.size)⟩

set_option maxRecDepth 100000 in
set_option maxHeartbeats 600000 in
theorem alikeF_ok (p : Pr) (hp : p.Ok) (A D TA : Option Addr) (c d tc : Nat) (a b : List Int) (t : Nat) (w : World) (hm : MovW w) (hT : IntsAt w w.heap.size TA (intsN p.T)) (hA : IntsAt w w.heap.size A a) (hD : IntsAt w w.heap.size D b) (ha : BackOk p a) (hb : BackOk p b) (ht : (p.makes a b)[0]? = some t) :
    Calls Tryd.prog 25 #[.agg #[.int .i64 p.R, .int .i64 p.C, .int .i64 p.K, .slice TA p.T.length tc], .slice A a.length c, .slice D b.length d] w fun e w' => e = .returned (.tuple #[.int .i64 t, .int .i64 0]) ∧ Below w.heap.size w w' := by
  have hb1 := below_new w (.cells #[.int .i64 p.R, .int .i64 p.C, .int .i64 p.K, .slice TA p.T.length tc] 24)
  have HP := Lib.hid (plate_two p hp A D TA c d tc a b w _ hm hT hA hD ha hb hb1)
  simp only [World.size_alloc] at HP
  have hbx := hb1.trans ((below_new (w.alloc (.cells #[.int .i64 p.R, .int .i64 p.C, .int .i64 p.K, .slice TA p.T.length tc] 24)) (.cells #[.slice A a.length c, .slice D b.length d] 22)).mono hb1.size)
  have HK := Lib.hid (fun W FA fc (hW : Below w.heap.size w W) hF => makes_any p.R p.C p.K TA FA tc fc p.T p.from A D c d a b W (hT.up hW) hF (hA.up hW) (hD.up hW) (from_len p) (from_in hp ha.1) (by have := ha.len hp; omega) (by have := hb.len hp; omega) (by have := hp.len; omega))
  rw [mkL_all] at HK
  have HL := Lib.hid (intsN_get ht)
  have hpos := lt_of_get (intsN_get ht)
  generalize intsN (p.makes a b) = l at *
  have hposi : (0 : Int) < (l.length : Int) := by omega
  have hne : ((l.length : Int) == 0) = false := beq_eq_false_iff_ne.2 (by omega)
  clear hm hT hA hD hb ha hp ht
  go_enter Tryd.func25, Tryd.ntmps25
  go_wp2_with (first
    | (go_at_call 74; refine (HP.out).mono ?_; rintro e w1 ⟨FA, fc, rfl, hF, hb2⟩; have hb3 := hbx.trans (hb2.mono hbx.size); have hb4 := hb3.trans ((below_new w1 (.cells #[.int .i64 p.R, .int .i64 p.C, .int .i64 p.K, .slice TA p.T.length tc, .slice FA p.T.length fc] 115)).mono hb3.size); have hF2 := hF.up (below_new w1 (.cells #[.int .i64 p.R, .int .i64 p.C, .int .i64 p.K, .slice TA p.T.length tc, .slice FA p.T.length fc] 115)))
    | (go_at_call 78; refine (HK.out _ _ _ hb4 hF2).mono ?_; rintro e w5 ⟨E, g, rfl, hL, hb5, _⟩; obtain ⟨eb, eo, rfl, he1, he2⟩ := hL 0 t HL.out; rw [Nat.add_zero] at he2))
  go_ret2
  exact ⟨rfl, hb4.trans (hb5.mono hb4.size)⟩
end Go.Proofs.YtbcbaaapogejiaaDoor
