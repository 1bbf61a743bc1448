/-
  The reference: backs that are turned, alike, and turns with which they stay.
-/
import Derived.Test.YtbcbaaapogejiaaDoorGErr
namespace Go.Proofs.YtbcbaaapogejiaaDoor
open Go.RowKit

theorem prodN_cast (p : Pr) : ((p.R : Int) * (p.C : Int)).toNat = p.n := by unfold Pr.n; rw [← Int.natCast_mul]; rfl
theorem val_ok {p : Pr} (hp : p.Ok) {b : List Int} (hb : BackOk p b) : valE p.R p.C p.K (intsN p.T) b = 0 := by rw [valE_ok (chk_of_ok hp), prodN_cast]; exact hb.chk
theorem back_of_chk {p : Pr} {b : List Int} (h : chkB p.n p.K b = 0) : BackOk p b := by
  unfold chkB at h
  split at h
  · split at h
    · next h1 h2 => exact ⟨h1, h2⟩
    · omega
  · omega
theorem ok_of_val {R C K : Int} {T b : List Int} (h : valE R C K T b = 0) : ∃ p : Pr, p.Ok ∧ R = p.R ∧ C = p.C ∧ K = p.K ∧ T = intsN p.T ∧ BackOk p b := by
  by_cases h0 : chkE R C K T = 0
  · obtain ⟨p, hp, rfl, rfl, rfl, rfl⟩ := ok_of_chk h0
    rw [valE_ok h0, prodN_cast] at h
    exact ⟨p, hp, rfl, rfl, rfl, rfl, back_of_chk h⟩
  · rw [valE_bad h0] at h
    exact absurd h h0

theorem refVal_ok (p : Pr) (hp : p.Ok) (A X : Option Addr) (c xc : Nat) (b : List Int) (w : World) (hT : IntsAt w w.heap.size A (intsN p.T)) (hX : IntsAt w w.heap.size X b) (hb : BackOk p b) :
    Calls Tryd.prog 77 #[.agg #[.int .i64 p.R, .int .i64 p.C, .int .i64 p.K, .slice A p.T.length c], .slice X b.length xc] w fun e w' => e = .returned (.int .i64 0) ∧ Below w.heap.size w w' := by
  have h := refValid_any p.R p.C p.K A X c xc (intsN p.T) b w hT hX (by rw [intsN_len]; have := hp.len; omega) (by have := hb.len hp; omega)
  rw [val_ok hp hb, intsN_len] at h
  exact h
theorem refTd (p : Pr) (hp : p.Ok) (A X : Option Addr) (c xc t : Nat) (b : List Int) (w : World) (hX : IntsAt w w.heap.size X b) (hb : BackOk p b) (ht : t ∈ p.T) :
    Calls Tryd.prog 70 #[.agg #[.int .i64 p.R, .int .i64 p.C, .int .i64 p.K, .slice A p.T.length c], .slice X b.length xc, .int .i64 t] w (RetInts w (tdL (srcs p.R p.C (mv t)) b)) :=
  refTurned_any p.R p.C t p.K A p.T.length c X xc b w (hp.t8 t ht) (hp.kind t ht) hp.r4 hp.c4 hX hb.1
theorem td_len (p : Pr) (t : Nat) (b : List Int) : (tdL (srcs p.R p.C (mv t)) b).length = p.n := by rw [tdL_len, srcs_len]; rfl

set_option maxRecDepth 100000 in
set_option maxHeartbeats 2000000 in
theorem refTurn_ok (p : Pr) (hp : p.Ok) (A X : Option Addr) (c xc t : Nat) (b : List Int) (w : World) (hT : IntsAt w w.heap.size A (intsN p.T)) (hX : IntsAt w w.heap.size X b) (hb : BackOk p b) (ht : t ∈ p.T) :
    Calls Tryd.prog 24 #[.agg #[.int .i64 p.R, .int .i64 p.C, .int .i64 p.K, .slice A p.T.length c], .slice X b.length xc, .int .i64 t] w (RetIE w (tdL (srcs p.R p.C (mv t)) b) 0) := by
  have hb1 := below_new w (.cells #[.int .i64 p.R, .int .i64 p.C, .int .i64 p.K, .slice A p.T.length c] 32)
  have HV := Lib.hid (refVal_ok p hp A X c xc b _ (hT.up hb1) (hX.up hb1) hb)
  have HT := Lib.hid (fun W h => refTd p hp A X c xc t b W h hb ht)
  have HH := Lib.hid (fun W (h : IntsAt W W.heap.size A (intsN p.T)) => refHas_yes A c (intsN p.T) t W h (by rw [intsN_len]; have := hp.len; omega) (intsN_mem.2 ht))
  rw [intsN_len] at HH
  generalize tdL (srcs p.R p.C (mv t)) b = l at *
  clear hp hb ht
  go_enter Tryd.func24, Tryd.ntmps24
  go_wp2_with (first
    | (go_at_call 77; refine (HV.out).mono ?_; rintro e w2 ⟨rfl, hb2⟩; obtain ⟨q1, q2, q3⟩ := bcell hb2; simp only [World.size_alloc] at q1 q2 q3; have hb3 := hb1.trans (hb2.mono hb1.size))
    | (go_at_call 73; refine (HH.out _ (hT.up hb3)).mono ?_; rintro e w4 ⟨rfl, rfl⟩)
    | (go_at_call 70; refine (HT.out _ (hX.up hb3)).mono ?_; rintro e w5 ⟨D, d, rfl, hI, hb5, _⟩))
  go_ret2
  exact ⟨D, d, rfl, hI, hb3.trans (hb5.mono hb3.size)⟩

set_option maxRecDepth 100000 in
set_option maxHeartbeats 2000000 in
theorem refTurn_none (p : Pr) (hp : p.Ok) (A X : Option Addr) (c xc : Nat) (t : Int) (b : List Int) (w : World) (hT : IntsAt w w.heap.size A (intsN p.T)) (hX : IntsAt w w.heap.size X b) (hb : BackOk p b) (ht : t ∉ intsN p.T) :
    Calls Tryd.prog 24 #[.agg #[.int .i64 p.R, .int .i64 p.C, .int .i64 p.K, .slice A p.T.length c], .slice X b.length xc, .int .i64 t] w (RetIE w [] 2) := by
  have hb1 := below_new w (.cells #[.int .i64 p.R, .int .i64 p.C, .int .i64 p.K, .slice A p.T.length c] 32)
  have HV := Lib.hid (refVal_ok p hp A X c xc b _ (hT.up hb1) (hX.up hb1) hb)
  have HH := Lib.hid (fun W (h : IntsAt W W.heap.size A (intsN p.T)) => refHas_no A c (intsN p.T) t W h (by rw [intsN_len]; have := hp.len; omega) ht)
  rw [intsN_len] at HH
  clear hp hb ht
  go_enter Tryd.func24, Tryd.ntmps24
  go_wp2_with (first
    | (go_at_call 77; refine (HV.out).mono ?_; rintro e w2 ⟨rfl, hb2⟩; obtain ⟨q1, q2, q3⟩ := bcell hb2; simp only [World.size_alloc] at q1 q2 q3; have hb3 := hb1.trans (hb2.mono hb1.size))
    | (go_at_call 73; refine (HH.out _ (hT.up hb3)).mono ?_; rintro e w4 ⟨rfl, rfl⟩))
  go_ret2
  exact ⟨none, 0, rfl, IntsAt.nil _ _ _, hb3⟩

set_option maxRecDepth 100000 in
set_option maxHeartbeats 2000000 in
theorem turnF_none (p : Pr) (hp : p.Ok) (A TA : Option Addr) (c tc : Nat) (b : List Int) (t : Int) (w : World) (hm : MovW w) (hT : IntsAt w w.heap.size TA (intsN p.T)) (hA : IntsAt w w.heap.size A b) (hb : BackOk p b) (ht : t ∉ intsN p.T) :
    Calls Tryd.prog 23 #[.agg #[.int .i64 p.R, .int .i64 p.C, .int .i64 p.K, .slice TA p.T.length tc], .slice A b.length c, .int .i64 t] w (RetIE w [] 2) := by
  have hb1 := below_new w (.cells #[.int .i64 p.R, .int .i64 p.C, .int .i64 p.K, .slice TA p.T.length tc] 24)
  have HP := Lib.hid (plate_one p hp A TA c tc b w _ hm hT hA hb hb1)
  simp only [World.size_alloc] at HP
  have hbx := hb1.trans ((below_new (w.alloc (.cells #[.int .i64 p.R, .int .i64 p.C, .int .i64 p.K, .slice TA p.T.length tc] 24)) (.cells #[.slice A b.length c] 22)).mono hb1.size)
  have hl8 := hp.len
  have HX := Lib.hid (fun W (hW : Below w.heap.size w W) => index_out TA tc (intsN p.T) t W W.heap.size (hT.up hW) (by rw [intsN_len]; omega) ht)
  rw [intsN_len] at HX
  clear hm hT hA hb hp ht
  go_enter Tryd.func23, Tryd.ntmps23
  go_wp2_with (first
    | (go_at_call 74; refine (HP.out).mono ?_; rintro e w1 ⟨FA, fc, rfl, hF, hb2⟩; have hb3 := hbx.trans (hb2.mono hbx.size); have hb4 := hb3.trans ((below_new w1 (.cells #[.int .i64 p.R, .int .i64 p.C, .int .i64 p.K, .slice TA p.T.length tc, .slice FA p.T.length fc] 115)).mono hb3.size))
    | (go_at_call 75; refine (HX.out _ hb4).mono ?_; rintro e w5 ⟨rfl, rfl⟩))
  go_ret2
  exact ⟨none, 0, rfl, IntsAt.nil _ _ _, hb4⟩

set_option maxRecDepth 100000 in
set_option maxHeartbeats 2000000 in
theorem alikeF_lost (p : Pr) (hp : p.Ok) (A D TA : Option Addr) (c d tc : Nat) (a b : List Int) (w : World) (hm : MovW w) (hT : IntsAt w w.heap.size TA (intsN p.T)) (hA : IntsAt w w.heap.size A a) (hD : IntsAt w w.heap.size D b) (ha : BackOk p a) (hb : BackOk p b) (ht : p.makes a b = []) :
    Calls Tryd.prog 25 #[.agg #[.int .i64 p.R, .int .i64 p.C, .int .i64 p.K, .slice TA p.T.length tc], .slice A a.length c, .slice D b.length d] w (RetNE w 0 12) := by
  have hb1 := below_new w (.cells #[.int .i64 p.R, .int .i64 p.C, .int .i64 p.K, .slice TA p.T.length tc] 24)
  have HP := Lib.hid (plate_two p hp A D TA c d tc a b w _ hm hT hA hD ha hb hb1)
  simp only [World.size_alloc] at HP
  have hbx := hb1.trans ((below_new (w.alloc (.cells #[.int .i64 p.R, .int .i64 p.C, .int .i64 p.K, .slice TA p.T.length tc] 24)) (.cells #[.slice A a.length c, .slice D b.length d] 22)).mono hb1.size)
  have HK := Lib.hid (fun W FA fc (hW : Below w.heap.size w W) hF => makes_any p.R p.C p.K TA FA tc fc p.T p.from A D c d a b W (hT.up hW) hF (hA.up hW) (hD.up hW) (from_len p) (from_in hp ha.1) (by have := ha.len hp; omega) (by have := hb.len hp; omega) (by have := hp.len; omega))
  rw [mkL_all, ht] at HK
  clear hm hT hA hD hb ha hp ht
  go_enter Tryd.func25, Tryd.ntmps25
  go_wp2_with (first
    | (go_at_call 74; refine (HP.out).mono ?_; rintro e w1 ⟨FA, fc, rfl, hF, hb2⟩; have hb3 := hbx.trans (hb2.mono hbx.size); have hb4 := hb3.trans ((below_new w1 (.cells #[.int .i64 p.R, .int .i64 p.C, .int .i64 p.K, .slice TA p.T.length tc, .slice FA p.T.length fc] 115)).mono hb3.size); have hF2 := hF.up (below_new w1 (.cells #[.int .i64 p.R, .int .i64 p.C, .int .i64 p.K, .slice TA p.T.length tc, .slice FA p.T.length fc] 115)))
    | (go_at_call 78; refine (HK.out _ _ _ hb4 hF2).mono ?_; rintro e w5 ⟨E, g, rfl, _, hb5, _⟩))
  go_ret2
  exact ⟨rfl, hb4.trans (hb5.mono hb4.size)⟩
end Go.Proofs.YtbcbaaapogejiaaDoor
