/-
  Backs by their numbers. The reference: all different backs.
-/
import Derived.Test.YtbcbaaapogejiaaDoorRefO
import Derived.Test.YtbcbaaapogejiaaDoorExpD
import Derived.Test.YtbcbaaapogejiaaDoorMathH
import Derived.Test.YtbcbaaapogejiaaDoorRefJ
namespace Go.Proofs.YtbcbaaapogejiaaDoor
open Go.RowKit

theorem natsV_zero (n : Nat) : (madeCells (Value.int .i64 0).cells (n * 1)).toList = natsV (List.replicate n 0) := by
  rw [Nat.mul_one, show (Value.int .i64 0).cells = #[Value.int .i64 0] from rfl, toList_madeCells_one]
  unfold natsV intsN
  simp
theorem set_tail (a q : Nat) (tl : List Nat) : (List.replicate (a + 1) 0 ++ tl).set a q = List.replicate a 0 ++ q :: tl := by
  rw [List.replicate_succ', List.append_assoc, List.set_append, if_neg (by simp)]
  simp

set_option maxRecDepth 100000 in
set_option maxHeartbeats 4000000 in
theorem numbered_any (p : Pr) (hp : p.Ok) (TA FA : Option Addr) (tc fc m : Nat) (w : World) (hm : m < 1000000) :
    Calls Tryd.prog 94 #[.agg #[.int .i64 p.R, .int .i64 p.C, .int .i64 p.K, .slice TA p.T.length tc, .slice FA p.T.length fc], .int .i64 m] w (RetInts w (intsN (digN p.K p.n m))) := by
  obtain ⟨i0, hi, hz0, hz1, hz2⟩ := info_parts info3
  have hn16 := hp.n16
  have hk1 := hp.k1
  have hk4 := hp.k4
  have HCe := Lib.hid (fun W => cells_any p.R p.C p.K (.slice TA p.T.length tc) (.slice FA p.T.length fc) W (by have := hp.r4; omega) (by have := hp.c4; omega))
  rw [show p.R * p.C = p.n from rfl] at HCe
  have hg3 := gcells6 w (.int .i64 p.R) (.int .i64 p.C) (.int .i64 p.K) (.slice TA p.T.length tc) (.slice FA p.T.length fc)
  have hb1 := below_new w (.cells #[.int .i64 p.R, .int .i64 p.C, .int .i64 p.K, .slice TA p.T.length tc, .slice FA p.T.length fc] 115)
  have hz1' : (w.alloc (.cells #[.int .i64 p.R, .int .i64 p.C, .int .i64 p.K, .slice TA p.T.length tc, .slice FA p.T.length fc] 115)).heap.size = w.heap.size + 1 := by simp
  obtain ⟨V, hV⟩ : ∃ V, V = digN p.K p.n m := ⟨_, rfl⟩
  rw [← hV]
  have HV := Lib.hid hV
  have HVl := Lib.hid (show V.length = p.n by rw [hV, digN_len])
  generalize p.n = n at *
  generalize p.K = K at *
  clear hp hV
  go_enter Tryd.func94, Tryd.ntmps94
  go_upto_region 1 with fail
  generalize w.alloc (.cells #[.int .i64 p.R, .int .i64 p.C, .int .i64 K, .slice TA p.T.length tc, .slice FA p.T.length fc] 115) = w1 at *
  obtain ⟨c0, c1, c2, c3, c4⟩ := hg3
  go_wp2_with (first
    | (go_at_call 88; refine (HCe.out _).mono ?_; rintro e w7 ⟨rfl, hb7⟩)
    | (at_make; go_must (refine wpList_make_full _ rfl _ _ 22 rfl w7.heap.size 3 i0 (.int .i64 0) 1 Tryd.underlying22 hi hz0 hz1 .i64 .i64 _ _ n rfl rfl rfl rfl (by rw [hz2]; omega) (by unfold maxLen; omega) (by omega) ?_); intro w2 hown0 hgrow0; rw [natsV_zero] at hown0))
  have hs7 := hb7.size
  have hb2 : Below w7.heap.size w7 w2 := (Below.refl _ _).grown hgrow0 (Nat.le_refl _) (fun g hg => by cases hg)
  have hc2 : w2.cell? ⟨w.heap.size, 2, none⟩ = some (.int .i64 K) := (hb2.cell (p := ⟨w.heap.size, 2, none⟩) (by show w.heap.size < w7.heap.size; omega)).trans ((hb7.cell (p := ⟨w.heap.size, 2, none⟩) (by show w.heap.size < w1.heap.size; omega)).trans c2)
  have hbw2 : Below w.heap.size w w2 := hb1.trans ((hb7.trans (hb2.mono hs7)).mono (by omega))
  have HC2 := Lib.hid (fun (W : World) (h : Below w7.heap.size w2 W) => show W.cell? ⟨w.heap.size, 2, none⟩ = some (.int .i64 K) from (h.cell (p := ⟨w.heap.size, 2, none⟩) (by show w.heap.size < w7.heap.size; omega)).trans hc2)
  have hw7 : w.heap.size < w7.heap.size := by omega
  have hs2 := hgrow0.size
  clear hc2 c0 c1 c2 c3 c4 hgrow0 hb2 hb7 hb1
  generalize hg : w7.heap.size = g at *
  have e0 : IntKind.i64.wrap ((n : Int) - 1) = (n : Int) - 1 := IntWalk.i64_in _ (by omega)
  have hw7c : w.heap.size + 1 ≤ g := by omega
  go_wp2
  clear e0
  go_loopw [1, 6] (fun v i wr => ∃ (a q : Nat) (tl : List Nat), a ≤ n ∧ i = .int .i64 ((a : Int) - 1) ∧ v = .int .i64 q ∧ q ≤ m ∧ Hid (digN K a q ++ tl = V ∧ a + tl.length = n) ∧ wr.ownsRow g 3 1 (.slice (some ⟨g, 0, none⟩) n n) n (natsV (List.replicate a 0 ++ tl)) ∧ Below g w2 wr) (fun _ i _ => (intOf i + 1).toNat)
  case atStart => exact ⟨n, m, [], Nat.le_refl _, rfl, rfl, Nat.le_refl _, Lib.hid ⟨by rw [List.append_nil, HV.out], rfl⟩, by rw [List.append_nil]; exact hown0, Below.refl _ _⟩
  case round =>
    clear hown0
    obtain ⟨a, q, tl, ha, rfl, rfl, hqm, HD, hown, hbr⟩ := hrel
    have hF := hbw2.trans (hbr.mono (by omega))
    by_cases ha0 : 0 < a
    · obtain ⟨b, rfl⟩ : ∃ b, a = b + 1 := ⟨a - 1, by omega⟩
      have cK := HC2.out _ hbr
      obtain ⟨st1, st2⟩ := hown.stored b (.int .i64 ((q % K : Nat) : Int))
      rw [natsV_set, set_tail] at st1
      have hlr : (List.replicate (b + 1) 0 ++ tl).length = n := by have := HD.out.2; simp; omega
      have hcl := hown.cellAt b (by omega)
      obtain ⟨cv, hcv⟩ : ∃ cv, (natsV (List.replicate (b + 1) 0 ++ tl))[b]? = some cv := ⟨_, List.getElem?_eq_getElem (by rw [natsV_len]; omega)⟩
      rw [hcv] at hcl
      have hfr := hown.frozenAt b
      have hbn : Below g w2 (wr.setCell ⟨g, b, none⟩ (.int .i64 ((q % K : Nat) : Int))) := hbr.setCell (Nat.le_refl _) _
      have cK2 := HC2.out _ hbn
      have HN := Lib.hid (show digN K b (q / K) ++ (q % K :: tl) = V ∧ b + (q % K :: tl).length = n from ⟨by rw [← HD.out.1, digN, List.append_assoc]; rfl, by have := HD.out.2; simp only [List.length_cons]; omega⟩)
      have hq1 : (q : Int).tdiv (K : Int) = ((q / K : Nat) : Int) := rfl
      have hq2 : (q : Int).tmod (K : Int) = ((q % K : Nat) : Int) := rfl
      have hq3 : (q : Int) / (K : Int) = ((q / K : Nat) : Int) := rfl
      have hq4 : (q : Int) % (K : Int) = ((q % K : Nat) : Int) := rfl
      have hqd : q / K ≤ q := Nat.div_le_self _ _
      have hqr : q % K < K := Nat.mod_lt _ (by omega)
      generalize q / K = s at *
      generalize q % K = r at *
      have hne : ¬ (K : Int) = 0 := by omega
      have hnb : ((K : Int) == 0) = false := beq_eq_false_iff_ne.2 hne
      have hb0 : (0 : Int) ≤ (b : Int) := by omega
      have hbn2 : (b : Int) < (n : Int) := by omega
      have e1 : ((b + 1 : Nat) : Int) - 1 = (b : Int) := by omega
      have e2 : IntKind.i64.wrap ((b : Int) - 1) = (b : Int) - 1 := IntWalk.i64_in _ (by omega)
      rw [e1]
      clear hown hcv hlr e1
      go_wp2
      go_roundw
      case rel => exact ⟨b, s, r :: tl, by omega, rfl, rfl, by omega, HN, st1, hbn⟩
      case measure => simp [intOf]; try omega
    · have e : a = 0 := by omega
      subst e
      obtain ⟨d1, d2⟩ := HD.out
      have d1' : tl = V := d1
      subst d1'
      have hown' : wr.ownsRow g 3 1 (.slice (some ⟨g, 0, none⟩) n n) n ((intsN tl).map (Value.int .i64)) := hown
      obtain ⟨A', c', hAe, hA', hll, hge⟩ := own_ints hown'
      have hlt' := hown'.lt
      have hni : ¬ (0 : Int) ≤ ((0 : Nat) : Int) - 1 := by omega
      have hni2 : ¬ (0 : Int) ≤ -1 := by omega
      injection hAe with a1 a2 a3
      subst a1 a3
      have HLL := Lib.hid hll
      have HFF := Lib.hid hF
      clear hown hown' hll a2 HD d1 d2
      go_wp2
      go_ret
      exact ⟨_, n, by rw [← HLL.out]; rfl, hA', HFF.out, fun ad had => by
        have h1 := (hge ad had).1
        injection had with had
        subst had
        exact ⟨by omega, (hlt' _ rfl).2⟩⟩

theorem back_dig {p : Pr} (hp : p.Ok) (m : Nat) : BackOk p (intsN (digN p.K p.n m)) := by
  refine ⟨by rw [intsN_len, digN_len], fun x hx => ?_⟩
  obtain ⟨u, hu, rfl⟩ := List.mem_map.1 hx
  have := digN_lt (K := p.K) (by have := hp.k1; omega) p.n m u hu
  omega
theorem allK_step (p : Pr) (k : Nat) : allK p (k + 1) = allK p k ++ if minF (intsN (digN p.K p.n k)) (p.imgs (intsN (digN p.K p.n k))) = intsN (digN p.K p.n k) then [intsN (digN p.K p.n k)] else [] := allK_more p k

set_option maxRecDepth 100000 in
theorem allR_err (R C K : Int) (A : Option Addr) (c : Nat) (T : List Int) (w : World) (hA : IntsAt w w.heap.size A T) (hn : T.length < 1000) (h : chkE R C K T ≠ 0) :
    Calls Tryd.prog 42 #[.agg #[.int .i64 R, .int .i64 C, .int .i64 K, .slice A T.length c]] w (RetLE w [] (chkE R C K T)) := by
  have hb1 := below_new w (.cells #[.int .i64 R, .int .i64 C, .int .i64 K, .slice A T.length c] 32)
  have HP := Lib.hid (refCheck_any R C K A c T _ (hA.up hb1) hn)
  have hne : (chkE R C K T != 0) = true := by simpa using h
  have heq : (chkE R C K T == 0) = false := by simpa using h
  generalize chkE R C K T = E at *
  clear hA h
  go_enter Tryd.func42, Tryd.ntmps42
  go_wp2_with (go_at_call 22; refine (HP.out).mono ?_; rintro e w1 ⟨rfl, hb2⟩; have hb3 := hb1.trans (hb2.mono hb1.size))
  go_ret2
  exact ⟨none, 0, rfl, ListsAt.nil _ _ _, hb3⟩

set_option maxRecDepth 100000 in
set_option maxHeartbeats 4000000 in
theorem refAll_full (p : Pr) (hp : p.Ok) (A : Option Addr) (c : Nat) (w : World) (hT : IntsAt w w.heap.size A (intsN p.T)) (hfull : 4096 < p.K ^ p.n) :
    Calls Tryd.prog 42 #[.agg #[.int .i64 p.R, .int .i64 p.C, .int .i64 p.K, .slice A p.T.length c]] w (RetLE w [] 16) := by
  have hb1 := below_new w (.cells #[.int .i64 p.R, .int .i64 p.C, .int .i64 p.K, .slice A p.T.length c] 32)
  have HCk := Lib.hid (refChk_ok p hp A c _ (hT.up hb1))
  have hn16 := hp.n16
  have hr4 := hp.r4
  have hc4 := hp.c4
  have hmul : (p.R : Int) * (p.C : Int) = (p.n : Int) := by unfold Pr.n; simp
  have hw : IntKind.i64.wrap ((p.R : Int) * (p.C : Int)) = (p.n : Int) := by rw [hmul]; exact IntWalk.i64_in _ (by omega)
  have HPo := Lib.hid (fun W => refPower_any p.K p.n W hp.k4 hn16.2)
  obtain ⟨V, hV⟩ : ∃ V, V = p.K ^ p.n := ⟨_, rfl⟩
  rw [← hV] at HPo hfull
  have hVi : (V : Int) > 4096 := by omega
  generalize p.n = n at *
  clear hp hT hV
  go_enter Tryd.func42, Tryd.ntmps42
  go_wp2_with (first
    | (go_at_call 22; refine (HCk.out).mono ?_; rintro e w1 ⟨rfl, hb2⟩; obtain ⟨q1, q2, q3⟩ := bcell hb2; simp only [World.size_alloc] at q1 q2 q3; have hb3 := hb1.trans (hb2.mono hb1.size))
    | (go_at_call 84; refine (HPo.out _).mono ?_; rintro e w4 ⟨rfl, h⟩; obtain rfl := h.symm))
  go_ret2
  exact ⟨none, 0, rfl, ListsAt.nil _ _ _, hb3⟩

theorem own_under {w w' : World} {base B : Nat} {e : TypeId} {size : Nat} {v : Value} {n : Nat} {xs : List Value} (h : w.ownsRow base e size v n xs) (hb : Below B w w') (hg : ∀ g, v.ownBlock = some g → g < B) : w'.ownsRow base e size v n xs :=
  Chg.own (P := fun i => ¬ i < B) ⟨hb.os, hb.tape, hb.output, hb.size, fun i _ hn => hb.block i (Decidable.not_not.1 hn)⟩ h fun g e hn => hn (hg g e)
theorem ints_row {w : World} {g n m : Nat} {ys : List Nat} (h : w.ownsRow g 3 1 (.slice (some ⟨g, 0, none⟩) n m) n (natsV ys)) : IntsAt w w.heap.size (some ⟨g, 0, none⟩) (intsN ys) := by
  have h' : w.ownsRow g 3 1 (.slice (some ⟨g, 0, none⟩) n m) n ((intsN ys).map (Value.int .i64)) := h
  obtain ⟨A', c', e, hA', _, _⟩ := own_ints h'
  injection e with e _ _
  rw [e]
  exact hA'

set_option maxRecDepth 100000 in
set_option maxHeartbeats 8000000 in
theorem refAll_ok (p : Pr) (hp : p.Ok) (A : Option Addr) (c : Nat) (w : World) (hT : IntsAt w w.heap.size A (intsN p.T)) (hfull : p.K ^ p.n ≤ 4096) :
    Calls Tryd.prog 42 #[.agg #[.int .i64 p.R, .int .i64 p.C, .int .i64 p.K, .slice A p.T.length c]] w (RetLE w (allK p (p.K ^ p.n)) 0) := by
  obtain ⟨i0, hi, hz0, hz1, hz2⟩ := info_parts info3
  have hb1 := below_new w (.cells #[.int .i64 p.R, .int .i64 p.C, .int .i64 p.K, .slice A p.T.length c] 32)
  have hc1 := own_cells4 w (.int .i64 p.R) (.int .i64 p.C) (.int .i64 p.K) (.slice A p.T.length c) 32
  have hz1' : w.heap.size < (w.alloc (.cells #[.int .i64 p.R, .int .i64 p.C, .int .i64 p.K, .slice A p.T.length c] 32)).heap.size := by simp
  have HCk := Lib.hid (refChk_ok p hp A c _ (hT.up hb1))
  have hn16 := hp.n16
  have hk1 := hp.k1
  have hk4 := hp.k4
  have hr4 := hp.r4
  have hc4 := hp.c4
  have hmul : (p.R : Int) * (p.C : Int) = (p.n : Int) := by unfold Pr.n; simp
  have hw : IntKind.i64.wrap ((p.R : Int) * (p.C : Int)) = (p.n : Int) := by rw [hmul]; exact IntWalk.i64_in _ (by omega)
  have HPo := Lib.hid (fun W => refPower_any p.K p.n W hp.k4 hn16.2)
  obtain ⟨V, hV⟩ : ∃ V, V = p.K ^ p.n := ⟨_, rfl⟩
  rw [← hV] at HPo hfull ⊢
  have HVp := Lib.hid hV
  have hVi : ¬ (V : Int) > 4096 := by omega
  have HFi := Lib.hid (fun X xc b (hb : BackOk p b) W (hW : Below w.heap.size w W) hX => refFirst0_ok p hp A X c xc b W (hT.up hW) hX hb)
  have HBo := Lib.hid (fun m => back_dig hp m)
  have HML := Lib.hid (fun b (hb : BackOk p b) => show (minF b (p.imgs b)).length = b.length by
    have h1 := minF_len (p := p) hb.1 p.T.length
    rw [List.take_of_length_le (by rw [imgs_size]; omega)] at h1
    exact h1)
  have HO := Lib.hid hp
  generalize hnn : p.n = n at *
  have HNn := Lib.hid hnn
  generalize hKK : p.K = K at *
  have HKK := Lib.hid hKK
  clear hp hT hV hnn hKK
  go_enter Tryd.func42, Tryd.ntmps42
  go_upto_region 7 with (first
    | (go_at_call 22; refine (HCk.out).mono ?_; rintro e w1 ⟨rfl, hb2⟩; obtain ⟨q1, q2, q3⟩ := bcell hb2; simp only [World.size_alloc] at q1 q2 q3; have hb3 := hb1.trans (hb2.mono hb1.size); have p0 := (hb2.cell (p := ⟨w.heap.size, 0, none⟩) hz1').trans hc1.1; have p1 := (hb2.cell (p := ⟨w.heap.size, 1, none⟩) hz1').trans hc1.2.1)
    | (go_at_call 84; refine (HPo.out _).mono ?_; rintro e w4 ⟨rfl, h⟩; obtain rfl := h.symm))
  have hs1 : w.heap.size < w1.heap.size := by omega
  have HH1 := Lib.hid (fun (W : World) (h : Below w1.heap.size w1 W) => show W.cell? ⟨w.heap.size, 0, none⟩ = some (.int .i64 p.R) ∧ W.cell? ⟨w.heap.size, 1, none⟩ = some (.int .i64 p.C) ∧ W.cell? ⟨w.heap.size, 2, none⟩ = some (.int .i64 K) ∧ W.cell? ⟨w.heap.size, 3, none⟩ = some (.slice A p.T.length c) from
    ⟨(h.cell (p := ⟨w.heap.size, 0, none⟩) hs1).trans ((hb2.cell (p := ⟨w.heap.size, 0, none⟩) hz1').trans hc1.1), (h.cell (p := ⟨w.heap.size, 1, none⟩) hs1).trans ((hb2.cell (p := ⟨w.heap.size, 1, none⟩) hz1').trans hc1.2.1), (h.cell (p := ⟨w.heap.size, 2, none⟩) hs1).trans ((hb2.cell (p := ⟨w.heap.size, 2, none⟩) hz1').trans hc1.2.2.1), (h.cell (p := ⟨w.heap.size, 3, none⟩) hs1).trans ((hb2.cell (p := ⟨w.heap.size, 3, none⟩) hz1').trans hc1.2.2.2)⟩)
  clear q1 q2 q3 hc1 hb1 hb2 HCk HPo
  go_wp2_with (at_make; go_must (refine wpList_make_full _ rfl _ _ 22 rfl w1.heap.size 3 i0 (.int .i64 0) 1 Tryd.underlying22 hi hz0 hz1 .i64 .i64 _ _ n rfl rfl rfl rfl (by rw [hz2]; omega) (by unfold maxLen; omega) (by omega) ?_); intro w2 hown0 hgrow0; rw [natsV_zero, ← digN_zero K] at hown0)
  generalize hg : w1.heap.size = g at *
  have hb12 : Below g w1 w2 := by have h := (Below.refl w1.heap.size w1).grown hgrow0 (Nat.le_refl _) (fun g hg => by cases hg); rw [hg] at h; exact h
  have hs2 := hgrow0.size
  have HH2 := Lib.hid (fun (W : World) (h : Below g w2 W) => HH1.out W (hb12.trans h))
  have HBw := Lib.hid (show Below w.heap.size w w2 from hb3.trans (hb12.mono (by omega)))
  have hgw : w.heap.size < g := by omega
  have hgs2 : g < w2.heap.size := (hown0.lt _ rfl).2
  have hVpos : 0 < V := by rw [HVp.out]; exact Nat.pow_pos (by omega)
  clear hgrow0 hb12 p0 p1 hw hmul hb3
  go_wp2
  go_loopg [5] V (fun gh v wr => ∃ m : Nat, m < V ∧ V - m ≤ gh ∧ Out w2.heap.size wr v (allK p m) ∧ wr.ownsRow g 3 1 (.slice (some ⟨g, 0, none⟩) n n) n (natsV (digN K n m)) ∧ Below g w2 wr ∧ w2.heap.size ≤ wr.heap.size)
  case atStart => exact ⟨0, hVpos, Nat.le_refl _, Out.nil _ _, hown0, Below.refl _ _, Nat.le_refl _⟩
  case round =>
    clear hown0
    obtain ⟨m, hmV, hgh, hO, hrow, hbr, hsz⟩ := hrel
    have hbwr := HBw.out.trans (hbr.mono (by omega))
    obtain ⟨p0, p1, p2, p3⟩ := HH2.out _ hbr
    have hbk := HBo.out m
    have hbl := hbk.1
    rw [HNn.out] at hbl
    have hst := allK_step p m
    rw [HNn.out, HKK.out] at hst
    have HFm := Lib.hid (HFi.out (some ⟨g, 0, none⟩) n _ hbk wr hbwr (ints_row hrow))
    have HIb := Lib.hid (ints_row hrow)
    have hml := HML.out _ hbk
    have HLl := Lib.hid (allK_len p m)
    obtain ⟨vA, vc, rfl⟩ := hO.slice
    have hbwrH := Lib.hid hbwr
    generalize hB : intsN (digN K n m) = b at *
    have HBl := Lib.hid hbl
    generalize minF b (p.imgs b) = mb at *
    have X71 := Lib.hid (fun D6 d6 W (h1 : IntsAt W W.heap.size D6 mb) (h2 : IntsAt W W.heap.size (some ⟨g, 0, none⟩) b) => refSame_any D6 (some ⟨g, 0, none⟩) d6 n mb b W (by omega) hml.symm W.heap.size h1 h2)
    have hmn : mb.length = n := hml.trans hbl
    have HMn := Lib.hid hmn
    rw [hmn] at X71
    have HRowF := Lib.hid (fun W (h : Below wr.heap.size wr W) => show Below g w2 W ∧ w2.heap.size ≤ W.heap.size ∧ W.ownsRow g 3 1 (.slice (some ⟨g, 0, none⟩) n n) n (natsV (digN K n m)) ∧ IntsAt W W.heap.size (some ⟨g, 0, none⟩) b from ⟨hbr.trans (h.mono (by omega)), Nat.le_trans hsz h.size, own_below hrow h, HIb.out.up h⟩)
    have HOF := Lib.hid (fun W (h : Below wr.heap.size wr W) => hO.below h)
    have HOz := Lib.hid hO
    rw [hbl] at HFm
    have HL9 := HLl.out
    clear hbk hbl hml hmn hrow hO hB
    by_cases hm : mb = b
    · rw [decide_eq_true hm] at X71
      rw [if_pos hm] at hst
      have HSt9 := Lib.hid hst
      clear hst hm
      generalize hLL : allK p m = L at *
      go_upto_region 10 with (first
        | (go_at_call 80; refine (HFm.out).mono ?_; rintro e w5 ⟨D5, d5, rfl, hI5, hb5, _⟩; rw [HMn.out]; obtain ⟨_, _, _, hi5⟩ := HRowF.out w5 hb5)
        | (go_at_call 71; refine (X71.out D5 d5 w5 hI5 hi5).mono ?_; rintro e w6 ⟨rfl, u, rfl⟩; have hb6 : Below wr.heap.size wr (w5.drewN u) := below_drewN hb5 u; obtain ⟨_, hs6, _, hi6⟩ := HRowF.out _ hb6; have hO6 := HOF.out _ hb6)
        | (at_builtin; refine wpList_append_ints _ rfl _ _ rfl (w5.drewN u).heap.size 0 _ [] b rfl (own_zero (w5.drewN u) (w5.drewN u).heap.size (Nat.le_refl _)) (some ⟨g, 0, none⟩) n (by rw [HBl.out]; rfl) (hi6.up (below_new _ _)) (by rw [HBl.out]; omega) (by simp) ?_; intro v7 w7 hown7 hb7; obtain ⟨A7, c7, rfl, hA7, hl7, hge7⟩ := own_ints (l := b) (by simpa using hown7); have hlt7 := hown7.lt; have hb7' : Below wr.heap.size wr w7 := (hb6.alloc hb6.size _).trans (hb7.mono hb6.size); have hO7 := HOF.out _ hb7'; have hs67 : w2.heap.size ≤ w7.heap.size := Nat.le_trans hsz hb7'.size)
        | (at_builtin; go_must (refine wpList_append_list _ rfl _ _ rfl w2.heap.size w7.heap.size _ L b A7 c7 rfl (hO7.below (below_new _ _)) rfl (heap_new _ _) (hA7.up (below_new _ _)) (fun ad had => ⟨by subst had; have := (hlt7 _ rfl).2; simp; omega, by have := (hge7 ad had).1; have h5 := hb5.size; omega, fun e => by obtain ⟨us, h1, _⟩ := HOz.out; have h2 := (h1.lt _ e).2; have h3 := (hge7 ad had).1; have h4 := hb6.size; have h5 := hb5.size; omega⟩) (by omega) (by simp; omega) ?_); intro A8 c8 w8 hO8 hg8 hb8))
      have hbg7 : Below g w2 w7 := hbr.trans (hb7'.mono (by omega))
      have HBW := Lib.hid (show Below g w2 w8 from (hbg7.alloc (by omega) _).trans (hb8.mono (by omega)))
      have HRW := Lib.hid (show w8.ownsRow g 3 1 (.slice (some ⟨g, 0, none⟩) n n) n (natsV (digN K n m)) from own_under (own_below (HRowF.out w7 hb7').2.2.1 (below_new _ _)) hb8 (fun j hj => by have e' : g = j := (by injection hj); omega))
      have HOW := Lib.hid (show Out w2.heap.size w8 (.slice A8 (L.length + 1) c8) (allK p (m + 1)) from by rw [HSt9.out]; exact hO8)
      have HSW := Lib.hid (show w2.heap.size ≤ w8.heap.size from Nat.le_trans hs67 (Nat.le_trans (by simp) hb8.size))
      clear hI5 hi5 hb5 hi6 hO6 hown7 hb7 hA7 hl7 hge7 hlt7 hb7' hO7 hO8 hg8 hb8 hbg7 hb6
      have e0 : IntKind.i64.wrap ((n : Int) - 1) = (n : Int) - 1 := IntWalk.i64_in _ (by omega)
      have hMul : m + 1 = (m + 1) * K ^ 0 := by simp
      clear p0 p1 p2 p3
      go_wp2
      clear e0
      go_loopw [7] (fun i wr => ∃ (a q b : Nat), a + b = n ∧ i = .int .i64 ((a : Int) - 1) ∧ Hid (m + 1 = (q + 1) * K ^ b) ∧ wr.ownsRow g 3 1 (.slice (some ⟨g, 0, none⟩) n n) n (natsV (carL K a q b)) ∧ Out w2.heap.size wr (.slice A8 (L.length + 1) c8) (allK p (m + 1)) ∧ Below g w2 wr ∧ w2.heap.size ≤ wr.heap.size) (fun i _ => (intOf i + 1).toNat)
      case atStart => exact ⟨n, m, 0, rfl, rfl, Lib.hid hMul, by rw [← digN_car]; exact HRW.out, HOW.out, HBW.out, HSW.out⟩
      case round =>
        clear hMul
        obtain ⟨a, q, b', hab, rfl, HM, hrw, hO9, hbr9, hsz9⟩ := hrel
        by_cases ha0 : 0 < a
        · obtain ⟨a', rfl⟩ : ∃ a', a = a' + 1 := ⟨a - 1, by omega⟩
          have e1 : ((a' + 1 : Nat) : Int) - 1 = (a' : Int) := by omega
          have hcl := hrw.cellAt a' (by omega)
          rw [natsV_get (carL_at K a' q b')] at hcl
          have hfr := hrw.frozenAt a'
          have cK := (HH2.out _ hbr9).2.2.1
          have hqK : q % K < K := Nat.mod_lt _ (by omega)
          have ha0' : (0 : Int) ≤ (a' : Int) := by omega
          have han : (a' : Int) < (n : Int) := by omega
          have eK : IntKind.i64.wrap ((K : Int) - 1) = (K : Int) - 1 := IntWalk.i64_in _ (by omega)
          have hd0 : decide ((0 : Int) ≤ (a' : Int)) = true := decide_eq_true ha0'
          have HSt := Lib.hid (fun (u : Nat) (z : Nat) => show ((wr.drewN u).setCell ⟨g, a', none⟩ (.int .i64 (z : Int))).ownsRow g 3 1 (.slice (some ⟨g, 0, none⟩) n n) n (natsV ((carL K (a' + 1) q b').set a' z)) ∧ Out w2.heap.size ((wr.drewN u).setCell ⟨g, a', none⟩ (.int .i64 (z : Int))) (.slice A8 (L.length + 1) c8) (allK p (m + 1)) ∧ Below g w2 ((wr.drewN u).setCell ⟨g, a', none⟩ (.int .i64 (z : Int))) ∧ w2.heap.size ≤ ((wr.drewN u).setCell ⟨g, a', none⟩ (.int .i64 (z : Int))).heap.size from by
            have h1 := own_below hrw (below_drewN (Below.refl _ _) u)
            obtain ⟨h2, h3⟩ := h1.stored a' (.int .i64 (z : Int))
            rw [natsV_set] at h2
            exact ⟨h2, (hO9.below (below_drewN (Below.refl _ _) u)).chg (Chg.of_grown h3) (fun i hi e => by have e' : g = i := (by injection e with e; exact e.symm); omega), (below_drewN hbr9 u).setCell (Nat.le_refl _) _, by simp; exact hsz9⟩)
          rw [e1]
          by_cases hq : q % K = K - 1
          · have hqb : (((q % K : Nat) : Int) == (K : Int) - 1) = true := beq_iff_eq.2 (by omega)
            have HM2 := Lib.hid (show m + 1 = (q / K + 1) * K ^ (b' + 1) by rw [HM.out, Nat.pow_succ, Nat.mul_comm (K ^ b') K, ← Nat.mul_assoc, carry_eq (by omega) hq])
            have HCa := Lib.hid (carL_carry K a' q b')
            generalize q % K = r at *
            clear hq hrw hO9 e1
            go_upto_region 11 with (fail)
            go_quiet (fail)
            go_wp2
            clear hcl hfr cK hqb
            go_roundw
            case rel => exact ⟨a', q / K, b' + 1, by omega, by first | rfl | go_num, HM2, by rw [← HCa.out]; exact (HSt.out _ 0).1, (HSt.out _ 0).2.1, (HSt.out _ 0).2.2.1, (HSt.out _ 0).2.2.2⟩
            case measure => simp [intOf]; try omega
          · have hqb : (((q % K : Nat) : Int) == (K : Int) - 1) = false := beq_eq_false_iff_ne.2 (by omega)
            have HNx := Lib.hid (show (carL K (a' + 1) q b').set a' (q % K + 1) = digN K n (m + 1) by rw [carL_next (by omega) hq, HM.out, hab])
            have HLt := Lib.hid (show m + 1 < V by
              refine Nat.lt_of_le_of_ne hmV fun e => ?_
              rw [HM.out, HVp.out, ← hab, Nat.pow_add] at e
              have e2 := Nat.eq_of_mul_eq_mul_right (Nat.pow_pos (by omega)) e
              have e3 : (q + 1) % K = 0 := by rw [e2, Nat.pow_succ]; exact Nat.mul_mod_left _ _
              apply hq
              have h1 := Nat.div_add_mod q K
              have e4 : (q + 1) % K = (q % K + 1) % K := by
                conv => lhs; rw [← h1, Nat.add_assoc, Nat.mul_add_mod]
              rw [e4] at e3
              rcases Nat.lt_or_ge (q % K + 1) K with h | h
              · rw [Nat.mod_eq_of_lt h] at e3; omega
              · omega)
            have eq1 : IntKind.i64.wrap (((q % K : Nat) : Int) + 1) = ((q % K + 1 : Nat) : Int) := (IntWalk.i64_in _ (by omega)).trans (by omega)
            have ha1 : ¬ (a' : Int) < 0 := by omega
            generalize q % K = r at *
            clear hq hrw hO9 e1
            go_upto_region 11 with (fail)
            go_quiet (fail)
            go_wp2
            clear hcl hfr cK hqb
            go_roundg (V - (m + 1))
            case measure => have := HLt.out; omega
            case rel => exact ⟨m + 1, HLt.out, Nat.le_refl _, (HSt.out _ (r + 1)).2.1, by rw [← HNx.out]; exact (HSt.out _ (r + 1)).1, (HSt.out _ (r + 1)).2.2.1, (HSt.out _ (r + 1)).2.2.2⟩
        · have e : a = 0 := by omega
          subst e
          have hbn : b' = n := by omega
          subst hbn
          have HEnd := Lib.hid (show V = m + 1 by
            have h1 := HM.out
            rw [HVp.out] at hmV ⊢
            have h2 : q = 0 := by
              rcases Nat.eq_zero_or_pos q with h | h
              · exact h
              · exfalso
                have h3 : 2 * K ^ b' ≤ (q + 1) * K ^ b' := Nat.mul_le_mul_right _ (by omega)
                have h4 : 0 < K ^ b' := Nat.pow_pos (by omega)
                omega
            rw [h1, h2]; omega)
          have hni : ¬ (0 : Int) ≤ ((0 : Nat) : Int) - 1 := by omega
          have hni2 : ¬ (0 : Int) ≤ -1 := by omega
          have hd0 : decide ((0 : Int) ≤ -1) = false := by decide
          have hd1 : decide ((0 : Int) ≤ ((0 : Nat) : Int) - 1) = false := decide_eq_false hni
          have HLs := Lib.hid (hO9.below (below_drewN (Below.refl wr.heap.size wr) 0)).lists
          have HOl := Lib.hid (fun u => (hO9.below (below_drewN (Below.refl wr.heap.size wr) u)).lists)
          have HFF := Lib.hid (fun u => HBw.out.trans ((below_drewN hbr9 u).mono (by omega)))
          have HLn := Lib.hid hO9.slice
          clear hrw hO9 hbr9
          go_upto_region 11 with (fail)
          go_quiet (fail)
          go_wp2
          go_ret2
          rw [HEnd.out]
          obtain ⟨A9, c9, e9⟩ := HLn.out
          injection e9 with _ e9 _
          exact ⟨_, _, by rw [← e9]; rfl, HOl.out _, HFF.out _⟩
    · rw [decide_eq_false hm] at X71
      rw [if_neg hm, List.append_nil] at hst
      have HSt9 := Lib.hid hst
      clear hst hm
      generalize hLL : allK p m = L at *
      go_upto_region 10 with (first
        | (go_at_call 80; refine (HFm.out).mono ?_; rintro e w5 ⟨D5, d5, rfl, hI5, hb5, _⟩; rw [HMn.out]; obtain ⟨_, _, _, hi5⟩ := HRowF.out w5 hb5)
        | (go_at_call 71; refine (X71.out D5 d5 w5 hI5 hi5).mono ?_; rintro e w6 ⟨rfl, u, rfl⟩; have hb6 : Below wr.heap.size wr (w5.drewN u) := below_drewN hb5 u; obtain ⟨hbg6, hs6, hr6, hi6⟩ := HRowF.out _ hb6; have hO6 := HOF.out _ hb6))
      have HBW := Lib.hid hbg6
      have HRW := Lib.hid hr6
      have HOW := Lib.hid (show Out w2.heap.size (w5.drewN u) (.slice vA L.length vc) (allK p (m + 1)) from by rw [HSt9.out]; exact hO6)
      have HSW := Lib.hid hs6
      clear hI5 hi5 hb5 hi6 hO6 hb6 hbg6 hr6 hs6
      have e0 : IntKind.i64.wrap ((n : Int) - 1) = (n : Int) - 1 := IntWalk.i64_in _ (by omega)
      have hMul : m + 1 = (m + 1) * K ^ 0 := by simp
      clear p0 p1 p2 p3
      go_wp2
      clear e0
      go_loopw [7] (fun i wr => ∃ (a q b : Nat), a + b = n ∧ i = .int .i64 ((a : Int) - 1) ∧ Hid (m + 1 = (q + 1) * K ^ b) ∧ wr.ownsRow g 3 1 (.slice (some ⟨g, 0, none⟩) n n) n (natsV (carL K a q b)) ∧ Out w2.heap.size wr (.slice vA L.length vc) (allK p (m + 1)) ∧ Below g w2 wr ∧ w2.heap.size ≤ wr.heap.size) (fun i _ => (intOf i + 1).toNat)
      case atStart => exact ⟨n, m, 0, rfl, rfl, Lib.hid hMul, by rw [← digN_car]; exact HRW.out, HOW.out, HBW.out, HSW.out⟩
      case round =>
        clear hMul
        obtain ⟨a, q, b', hab, rfl, HM, hrw, hO9, hbr9, hsz9⟩ := hrel
        by_cases ha0 : 0 < a
        · obtain ⟨a', rfl⟩ : ∃ a', a = a' + 1 := ⟨a - 1, by omega⟩
          have e1 : ((a' + 1 : Nat) : Int) - 1 = (a' : Int) := by omega
          have hcl := hrw.cellAt a' (by omega)
          rw [natsV_get (carL_at K a' q b')] at hcl
          have hfr := hrw.frozenAt a'
          have cK := (HH2.out _ hbr9).2.2.1
          have hqK : q % K < K := Nat.mod_lt _ (by omega)
          have ha0' : (0 : Int) ≤ (a' : Int) := by omega
          have han : (a' : Int) < (n : Int) := by omega
          have eK : IntKind.i64.wrap ((K : Int) - 1) = (K : Int) - 1 := IntWalk.i64_in _ (by omega)
          have hd0 : decide ((0 : Int) ≤ (a' : Int)) = true := decide_eq_true ha0'
          have HSt := Lib.hid (fun (u : Nat) (z : Nat) => show ((wr.drewN u).setCell ⟨g, a', none⟩ (.int .i64 (z : Int))).ownsRow g 3 1 (.slice (some ⟨g, 0, none⟩) n n) n (natsV ((carL K (a' + 1) q b').set a' z)) ∧ Out w2.heap.size ((wr.drewN u).setCell ⟨g, a', none⟩ (.int .i64 (z : Int))) (.slice vA L.length vc) (allK p (m + 1)) ∧ Below g w2 ((wr.drewN u).setCell ⟨g, a', none⟩ (.int .i64 (z : Int))) ∧ w2.heap.size ≤ ((wr.drewN u).setCell ⟨g, a', none⟩ (.int .i64 (z : Int))).heap.size from by
            have h1 := own_below hrw (below_drewN (Below.refl _ _) u)
            obtain ⟨h2, h3⟩ := h1.stored a' (.int .i64 (z : Int))
            rw [natsV_set] at h2
            exact ⟨h2, (hO9.below (below_drewN (Below.refl _ _) u)).chg (Chg.of_grown h3) (fun i hi e => by have e' : g = i := (by injection e with e; exact e.symm); omega), (below_drewN hbr9 u).setCell (Nat.le_refl _) _, by simp; exact hsz9⟩)
          rw [e1]
          by_cases hq : q % K = K - 1
          · have hqb : (((q % K : Nat) : Int) == (K : Int) - 1) = true := beq_iff_eq.2 (by omega)
            have HM2 := Lib.hid (show m + 1 = (q / K + 1) * K ^ (b' + 1) by rw [HM.out, Nat.pow_succ, Nat.mul_comm (K ^ b') K, ← Nat.mul_assoc, carry_eq (by omega) hq])
            have HCa := Lib.hid (carL_carry K a' q b')
            generalize q % K = r at *
            clear hq hrw hO9 e1
            go_upto_region 11 with (fail)
            go_quiet (fail)
            go_wp2
            clear hcl hfr cK hqb
            go_roundw
            case rel => exact ⟨a', q / K, b' + 1, by omega, by first | rfl | go_num, HM2, by rw [← HCa.out]; exact (HSt.out _ 0).1, (HSt.out _ 0).2.1, (HSt.out _ 0).2.2.1, (HSt.out _ 0).2.2.2⟩
            case measure => simp [intOf]; try omega
          · have hqb : (((q % K : Nat) : Int) == (K : Int) - 1) = false := beq_eq_false_iff_ne.2 (by omega)
            have HNx := Lib.hid (show (carL K (a' + 1) q b').set a' (q % K + 1) = digN K n (m + 1) by rw [carL_next (by omega) hq, HM.out, hab])
            have HLt := Lib.hid (show m + 1 < V by
              refine Nat.lt_of_le_of_ne hmV fun e => ?_
              rw [HM.out, HVp.out, ← hab, Nat.pow_add] at e
              have e2 := Nat.eq_of_mul_eq_mul_right (Nat.pow_pos (by omega)) e
              have e3 : (q + 1) % K = 0 := by rw [e2, Nat.pow_succ]; exact Nat.mul_mod_left _ _
              apply hq
              have h1 := Nat.div_add_mod q K
              have e4 : (q + 1) % K = (q % K + 1) % K := by
                conv => lhs; rw [← h1, Nat.add_assoc, Nat.mul_add_mod]
              rw [e4] at e3
              rcases Nat.lt_or_ge (q % K + 1) K with h | h
              · rw [Nat.mod_eq_of_lt h] at e3; omega
              · omega)
            have eq1 : IntKind.i64.wrap (((q % K : Nat) : Int) + 1) = ((q % K + 1 : Nat) : Int) := (IntWalk.i64_in _ (by omega)).trans (by omega)
            have ha1 : ¬ (a' : Int) < 0 := by omega
            generalize q % K = r at *
            clear hq hrw hO9 e1
            go_upto_region 11 with (fail)
            go_quiet (fail)
            go_wp2
            clear hcl hfr cK hqb
            go_roundg (V - (m + 1))
            case measure => have := HLt.out; omega
            case rel => exact ⟨m + 1, HLt.out, Nat.le_refl _, (HSt.out _ (r + 1)).2.1, by rw [← HNx.out]; exact (HSt.out _ (r + 1)).1, (HSt.out _ (r + 1)).2.2.1, (HSt.out _ (r + 1)).2.2.2⟩
        · have e : a = 0 := by omega
          subst e
          have hbn : b' = n := by omega
          subst hbn
          have HEnd := Lib.hid (show V = m + 1 by
            have h1 := HM.out
            rw [HVp.out] at hmV ⊢
            have h2 : q = 0 := by
              rcases Nat.eq_zero_or_pos q with h | h
              · exact h
              · exfalso
                have h3 : 2 * K ^ b' ≤ (q + 1) * K ^ b' := Nat.mul_le_mul_right _ (by omega)
                have h4 : 0 < K ^ b' := Nat.pow_pos (by omega)
                omega
            rw [h1, h2]; omega)
          have hni : ¬ (0 : Int) ≤ ((0 : Nat) : Int) - 1 := by omega
          have hni2 : ¬ (0 : Int) ≤ -1 := by omega
          have hd0 : decide ((0 : Int) ≤ -1) = false := by decide
          have hd1 : decide ((0 : Int) ≤ ((0 : Nat) : Int) - 1) = false := decide_eq_false hni
          have HLs := Lib.hid (hO9.below (below_drewN (Below.refl wr.heap.size wr) 0)).lists
          have HOl := Lib.hid (fun u => (hO9.below (below_drewN (Below.refl wr.heap.size wr) u)).lists)
          have HFF := Lib.hid (fun u => HBw.out.trans ((below_drewN hbr9 u).mono (by omega)))
          have HLn := Lib.hid hO9.slice
          clear hrw hO9 hbr9
          go_upto_region 11 with (fail)
          go_quiet (fail)
          go_wp2
          go_ret2
          rw [HEnd.out]
          obtain ⟨A9, c9, e9⟩ := HLn.out
          injection e9 with _ e9 _
          exact ⟨_, _, by rw [← e9]; rfl, HOl.out _, HFF.out _⟩
end Go.Proofs.YtbcbaaapogejiaaDoor
