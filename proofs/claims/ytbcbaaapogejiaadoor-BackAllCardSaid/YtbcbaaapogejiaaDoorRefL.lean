/-
  The reference: the rings of a turn, powers. The reference: powers, how many backs stay with a turn, how many different ones there are. The reference: how many different backs there are.
-/
import Derived.Test.YtbcbaaapogejiaaDoorGErr
import Derived.Test.YtbcbaaapogejiaaDoorCntD
namespace Go.Proofs.YtbcbaaapogejiaaDoor
open Go.RowKit

/-- The sizes of the rings of a turn. -/
def ringsL (s : List Int) : List Nat := (lensN s).filter (0 < ·)
def ringsK (s : List Int) (k : Nat) : List Nat := (lensK s k).1.filter (0 < ·)
theorem ringsK_all (s : List Int) : ringsK s s.length = ringsL s := rfl
theorem ringsK_more (s : List Int) (k : Nat) : ringsK s (k + 1) = ringsK s k ++ if 0 < (alongN s (s.length + 1) (lensK s k).2 k).1 then [(alongN s (s.length + 1) (lensK s k).2 k).1] else [] := by
  unfold ringsK
  rw [lensK, List.filter_append]
  by_cases h : 0 < (alongN s (s.length + 1) (lensK s k).2 k).1 <;> simp [h]
theorem srcs_at {R C : Nat} {m : Mv} {i : Nat} (h : i < R * C) : (srcs R C m)[i]? = some (cellI R C m i) := by
  unfold srcs
  rw [List.getElem?_map, List.getElem?_range h]; rfl

/-- A list of numbers is handed back, with room for all of them. -/
def RetIntsC (w : World) (l : List Int) (e : Ending) (w' : World) : Prop := ∃ A c, e = .returned (.slice A l.length c) ∧ (IntsAt w' w'.heap.size A l ∧ l.length ≤ c) ∧ Below w.heap.size w w' ∧ ∀ ad, A = some ad → w.heap.size ≤ ad.block ∧ ad.block < w'.heap.size
theorem own_cap {w : World} {base : Nat} {e : TypeId} {size n m c : Nat} {A : Option Addr} {xs : List Value} (h : w.ownsRow base e size (.slice A n c) m xs) : n ≤ c := by
  rcases h.2 with ⟨e, h0⟩ | ⟨g, cap, cur, e, _, _, hnc, _⟩
  · injection e with _ e2 e3
    omega
  · injection e with _ e2 e3
    omega

set_option maxRecDepth 100000 in
set_option maxHeartbeats 8000000 in
theorem refRings_cap (p : Pr) (hp : p.Ok) (A : Option Addr) (c t : Nat) (w : World) (ht : t ∈ p.T) :
    Calls Tryd.prog 85 #[.agg #[.int .i64 p.R, .int .i64 p.C, .int .i64 p.K, .slice A p.T.length c], .int .i64 t] w (RetIntsC w (intsN (ringsL (srcs p.R p.C (mv t))))) := by
  obtain ⟨i0, hi, hz0, hz1, hz2⟩ := info_parts info4
  have hn16 := hp.n16
  have hr4 := hp.r4
  have hc4 := hp.c4
  have HCe := Lib.hid (fun (i : Nat) (W : World) (h : i < p.n) => refCell_any p.R p.C t i p.K A p.T.length c W (hp.t8 t ht) hr4 hc4 h)
  have HIn := Lib.hid (fun i hi => hp.cell ht (i := i) hi)
  have HGt := Lib.hid (fun i (h : i < p.n) => srcs_at (R := p.R) (C := p.C) (m := mv t) (i := i) h)
  have HLs := Lib.hid (show (srcs p.R p.C (mv t)).length = p.n from srcs_len p.R p.C (mv t))
  have hmul : (p.R : Int) * (p.C : Int) = (p.n : Int) := by unfold Pr.n; simp
  have hw : IntKind.i64.wrap ((p.R : Int) * (p.C : Int)) = (p.n : Int) := by rw [hmul]; exact IntWalk.i64_in _ (by omega)
  have hb1 := below_new w (.cells #[.int .i64 p.R, .int .i64 p.C, .int .i64 p.K, .slice A p.T.length c] 32)
  have hc1 := own_cells4 w (.int .i64 p.R) (.int .i64 p.C) (.int .i64 p.K) (.slice A p.T.length c) 32
  have hz1' : (w.alloc (.cells #[.int .i64 p.R, .int .i64 p.C, .int .i64 p.K, .slice A p.T.length c] 32)).heap.size = w.heap.size + 1 := by simp
  clear hp ht
  go_enter Tryd.func85, Tryd.ntmps85
  go_upto_region 2 with fail
  generalize w.alloc (.cells #[.int .i64 p.R, .int .i64 p.C, .int .i64 p.K, .slice A p.T.length c] 32) = w1 at *
  have HBx := Lib.hid hc1
  obtain ⟨p0, p1, p2, p3⟩ := hc1
  go_wp2_with (at_make; go_must (refine wpList_make_full _ rfl _ _ 176 rfl (w.heap.size + 1) 4 i0 (.bool false) 1 Tryd.underlying176 hi hz0 hz1 .i64 .i64 _ _ p.n rfl rfl rfl rfl (by rw [hz2]; omega) (by unfold maxLen; omega) (by omega) ?_); intro w2 hown0 hgrow0; have hb12 : Below (w.heap.size + 1) w1 w2 := (Below.refl _ _).grown hgrow0 (by omega) (fun g hg => by cases hg); have hs2 := hgrow0.size; rw [show (madeCells (Value.bool false).cells (p.n * 1)).toList = boolsV (lensK (srcs p.R p.C (mv t)) 0).2 from (by rw [Nat.mul_one, show (Value.bool false).cells = #[Value.bool false] from rfl, toList_madeCells_one]; simp [boolsV, lensK, HLs.out])] at hown0; rw [hz1'] at hown0; clear hgrow0)
  clear p0 p1 p2 p3
  have HH := Lib.hid (fun (W : World) (h : Below (w.heap.size + 1) w2 W) => show W.cell? ⟨w.heap.size, 0, none⟩ = some (.int .i64 p.R) ∧ W.cell? ⟨w.heap.size, 1, none⟩ = some (.int .i64 p.C) ∧ W.cell? ⟨w.heap.size, 2, none⟩ = some (.int .i64 p.K) ∧ W.cell? ⟨w.heap.size, 3, none⟩ = some (.slice A p.T.length c) from
    ⟨(h.cell (p := ⟨w.heap.size, 0, none⟩) (Nat.lt_succ_self _)).trans ((hb12.cell (p := ⟨w.heap.size, 0, none⟩) (Nat.lt_succ_self _)).trans HBx.out.1), (h.cell (p := ⟨w.heap.size, 1, none⟩) (Nat.lt_succ_self _)).trans ((hb12.cell (p := ⟨w.heap.size, 1, none⟩) (Nat.lt_succ_self _)).trans HBx.out.2.1), (h.cell (p := ⟨w.heap.size, 2, none⟩) (Nat.lt_succ_self _)).trans ((hb12.cell (p := ⟨w.heap.size, 2, none⟩) (Nat.lt_succ_self _)).trans HBx.out.2.2.1), (h.cell (p := ⟨w.heap.size, 3, none⟩) (Nat.lt_succ_self _)).trans ((hb12.cell (p := ⟨w.heap.size, 3, none⟩) (Nat.lt_succ_self _)).trans HBx.out.2.2.2)⟩)
  have hbw2 : Below w.heap.size w w2 := hb1.trans (hb12.mono (by omega))
  have hs22 : w.heap.size + 2 ≤ w2.heap.size := by have h : w.heap.size + 1 < w2.heap.size := (hown0.lt _ rfl).2; omega
  generalize hS : srcs p.R p.C (mv t) = s at *
  have HBw := Lib.hid hbw2
  clear hb1 hb12 hbw2 hw hmul HBx hs2 hS
  go_loopw [5, 7] (fun v i wr => ∃ (k m : Nat), k ≤ p.n ∧ m ≤ k ∧ i = .int .i64 k ∧ wr.ownsRow w2.heap.size 3 1 v m ((intsN (ringsK s k)).map (Value.int .i64)) ∧ wr.ownsRow (w.heap.size + 1) 4 1 (.slice (some ⟨w.heap.size + 1, 0, none⟩) p.n p.n) p.n (boolsV (lensK s k).2) ∧ Below (w.heap.size + 1) w2 wr ∧ w2.heap.size ≤ wr.heap.size) (fun _ i _ => p.n - (intOf i).toNat)
  case atStart => exact ⟨0, 0, Nat.zero_le _, Nat.zero_le _, rfl, World.ownsRow_nil _ _ _ _, hown0, Below.refl _ _, Nat.le_refl _⟩
  case round =>
    clear hown0
    obtain ⟨k, m, hk, hmk, rfl, hout, hown, hbw, hsw⟩ := hrel
    by_cases hlt : k < p.n
    · have hki : (k : Int) < (p.n : Int) := by omega
      have hlen := lensK_len s k
      rw [HLs.out] at hlen
      have HL := Lib.hid (ringsK_more s k)
      have HS := Lib.hid (show (lensK s (k + 1)).2 = (alongN s (s.length + 1) (lensK s k).2 k).2 from rfl)
      have hN := alongN_le s (s.length + 1) (lensK s k).2 k
      have hfu : s.length + 1 ≥ (lensK s k).2.count false + 1 := by have := List.count_le_length (a := false) (l := (lensK s k).2); rw [HLs.out]; omega
      generalize hR : alongN s (s.length + 1) (lensK s k).2 k = R at *
      obtain ⟨N, S⟩ := R
      generalize (lensK s k).2 = se at *
      dsimp only at hN
      obtain ⟨vA, vc, rfl⟩ := own_slice hout
      rw [HLs.out] at hN
      go_wp2
      go_loopw [8, 9] (fun s8 s9 wr => ∃ (len at' fuel : Nat) (seen : List Bool), s8 = .int .i64 len ∧ s9 = .int .i64 at' ∧ at' < p.n ∧ seen.length = p.n ∧ (len + (alongN s fuel seen at').1 = N ∧ Hid ((alongN s fuel seen at').2 = S)) ∧ fuel ≥ seen.count false + 1 ∧ wr.ownsRow w2.heap.size 3 1 (.slice vA m vc) m ((intsN (ringsK s k)).map (Value.int .i64)) ∧ wr.ownsRow (w.heap.size + 1) 4 1 (.slice (some ⟨w.heap.size + 1, 0, none⟩) p.n p.n) p.n (boolsV seen) ∧ Below (w.heap.size + 1) w2 wr ∧ w2.heap.size ≤ wr.heap.size) (fun s8 _ _ => N - (intOf s8).toNat)
      case atStart => exact ⟨0, k, s.length + 1, se, rfl, rfl, hlt, hlen, ⟨by rw [hR]; simp, Lib.hid (by rw [hR])⟩, hfu, hout, hown, hbw, hsw⟩
      case round =>
        clear hout hown hbw hR hfu hlen hsw
        obtain ⟨len, at', fuel, seen, rfl, rfl, hat, hslen, ⟨hrN, HrS⟩, hfu, hout, hown, hbw, hsw⟩ := hrel
        have hx : seen[at']? = some (seen[at']'(by omega)) := List.getElem?_eq_getElem _
        have hc := hown.cellAt at' (by omega)
        have hf := hown.frozenAt at'
        rw [boolsV_get hx] at hc
        have hai : (at' : Int) < (p.n : Int) := by omega
        have ha0 : (0 : Int) ≤ (at' : Int) := by omega
        rcases hb : seen[at']'(by omega) with _ | _
        · rw [hb] at hx hc
          clear hb
          obtain ⟨f, rfl⟩ : ∃ f, fuel = f + 1 := ⟨fuel - 1, by omega⟩
          obtain ⟨a1, a2⟩ := along_step (s := s) hx f
          have hcs := count_set seen at' hx
          have hy := HGt.out at' hat
          obtain ⟨g0, g1⟩ := HIn.out _ (mem_of_get hy)
          have hyd : s.getD at' 0 = cellI p.R p.C (mv t) at' := by rw [List.getD_eq_getElem?_getD, hy]; rfl
          rw [hyd] at a1 a2
          obtain ⟨st1, st2⟩ := hown.stored at' (.bool true)
          rw [boolsV_set] at st1
          have hout2 := ownsRow_setCell_below hout (a := ⟨w.heap.size + 1, at', none⟩) (by simp; omega) (.bool true)
          have hbn : Below (w.heap.size + 1) w2 (wr.setCell ⟨w.heap.size + 1, at', none⟩ (.bool true)) := hbw.setCell (by simp) _
          obtain ⟨b0, b1, b2, b3⟩ := HH.out _ hbn
          have HCa := Lib.hid (fun W => HCe.out at' W hat)
          have HS2 := Lib.hid (a2.symm.trans HrS.out)
          rw [a1] at hrN
          generalize cellI p.R p.C (mv t) at' = y at *
          obtain ⟨u, rfl⟩ : ∃ u : Nat, y = (u : Int) := ⟨y.toNat, by omega⟩
          simp only [Int.toNat_natCast] at *
          have hsn : w2.heap.size ≤ (wr.setCell ⟨w.heap.size + 1, at', none⟩ (.bool true)).heap.size := by simpa using hsw
          clear hx hy hyd a1 a2 hown hbw HrS st2 hout
          go_wp2_with (go_at_call 120; refine (HCa.out _).mono ?_; rintro e w5 ⟨rfl, hb5⟩)
          go_roundw
          case rel => exact ⟨len + 1, u, f, seen.set at' true, by go_num, rfl, by omega, by simpa using hslen, ⟨by omega, HS2⟩, by omega, own_below hout2 hb5, own_below st1 hb5, hbn.trans (hb5.mono (by omega)), Nat.le_trans hsn hb5.size⟩
          case measure => simp [intOf]; omega
        · rw [hb] at hx hc
          clear hb
          have ha := along_seen (s := s) hx fuel
          have e1 : N = len := by rw [ha] at hrN; simpa using hrN.symm
          have e2 := HrS.out
          rw [ha] at e2
          replace e2 : seen = S := e2
          subst e1 e2
          clear ha hrN HrS hx
          have HSe := Lib.hid (show (lensK s (k + 1)).2 = seen from HS.out)
          by_cases hN0 : 0 < N
          · have HLe := Lib.hid (show ringsK s (k + 1) = ringsK s k ++ [N] by rw [HL.out, if_pos hN0])
            have hNi : (0 : Int) < (N : Int) := by omega
            go_wp2_with (at_builtin; go_must (refine wpList_append_int _ rfl _ _ rfl w2.heap.size m wr.heap.size _ _ (N : Int) rfl (hout.alloc _) rfl (heap_new _ _) (by omega) (by simp; omega) ?_); intro A4 c4 w7 hown7 hgrow7 _)
            have hbn : Below (w.heap.size + 1) w2 w7 := (hbw.alloc (by omega) _).grown hgrow7 (by simp; omega) (fun g hg => by have := (hout.lt g hg).1; omega)
            have hownn := (Chg.of_grown hgrow7).own (hown.alloc (.cells #[.int .i64 N] 3)) (fun g hg e => by
              have e1 : w.heap.size + 1 = g := by injection hg
              have := (hout.lt g e.symm).1
              omega)
            have hs7 := hgrow7.size
            simp only [World.size_alloc] at hs7
            clear hout hown hgrow7
            go_wp2
            go_roundw
            case rel => exact ⟨k + 1, m + 1, by omega, by omega, by go_num, by rw [HLe.out]; unfold intsN at hown7 ⊢; rw [List.map_append]; exact hown7, by rw [HSe.out]; exact hownn, hbn, by omega⟩
            case measure => simp [intOf]; omega
          · have HLe := Lib.hid (show ringsK s (k + 1) = ringsK s k by rw [HL.out, if_neg hN0, List.append_nil])
            have hNi : ¬ (0 : Int) < (N : Int) := by omega
            have hNd : decide (0 < N) = false := decide_eq_false hN0
            go_wp2
            go_roundw
            case rel => exact ⟨k + 1, m, by omega, by omega, by go_num, by rw [HLe.out]; exact hout, by rw [HSe.out]; exact hown, hbw, hsw⟩
            case measure => simp [intOf]; omega
    · have e : k = p.n := by omega
      subst e
      rw [show ringsK s p.n = ringsL s by rw [← HLs.out]; rfl] at hout
      have hki : ¬ (p.n : Int) < (p.n : Int) := by omega
      obtain ⟨A', c', rfl, hA', hll, hge⟩ := own_ints hout
      have hlt' := hout.lt
      have hcap := own_cap hout
      have HLL := Lib.hid hll
      have HCP := Lib.hid hcap
      have HF := Lib.hid (HBw.out.trans (hbw.mono (by omega)))
      clear hout hown hll hcap
      go_wp2
      go_ret
      exact ⟨A', c', by rw [← HLL.out]; rfl, ⟨hA', by have := HCP.out; omega⟩, HF.out, fun ad had => ⟨by have := (hge ad had).1; omega, by subst had; exact (hlt' _ rfl).2⟩⟩
theorem refRings_ok (p : Pr) (hp : p.Ok) (A : Option Addr) (c t : Nat) (w : World) (ht : t ∈ p.T) :
    Calls Tryd.prog 85 #[.agg #[.int .i64 p.R, .int .i64 p.C, .int .i64 p.K, .slice A p.T.length c], .int .i64 t] w (RetInts w (intsN (ringsL (srcs p.R p.C (mv t))))) :=
  (refRings_cap p hp A c t w ht).mono fun _ _ ⟨A, c, h1, h2, h3⟩ => ⟨A, c, h1, h2.1, h3⟩

set_option maxHeartbeats 4000000 in
theorem refPower_any (K n : Nat) (w : World) (hK : K ≤ 4) (hn : n ≤ 16) : Calls Tryd.prog 84 #[.int .i64 K, .int .i64 n] w fun e w' => e = .returned (.int .i64 (K ^ n : Nat)) ∧ w' = w := by
  obtain ⟨P, hP⟩ : ∃ P, P = K ^ n := ⟨_, rfl⟩
  rw [← hP]
  have HQ := Lib.hid hP
  clear hP
  go_enter Tryd.func84, Tryd.ntmps84
  go_wp2
  go_loopw [5, 6] (fun v i wr => ∃ k p : Nat, k ≤ n ∧ i = .int .i64 k ∧ v = .int .i64 p ∧ Hid (p = K ^ k) ∧ wr = w) (fun _ i _ => n - (intOf i).toNat)
  case atStart => exact ⟨0, 1, Nat.zero_le _, rfl, rfl, Lib.hid rfl, rfl⟩
  case round =>
    obtain ⟨k, p, hk, rfl, rfl, HP, rfl⟩ := hrel
    by_cases hlt : k < n
    · have hki : (k : Int) < (n : Int) := by omega
      have h1 : p * K = K ^ (k + 1) := by rw [HP.out, Nat.pow_succ]
      have h2 := pow_le hK (show k + 1 ≤ 16 by omega)
      rw [← h1] at h2
      have e1 : IntKind.i64.wrap ((p : Int) * (K : Int)) = ((p * K : Nat) : Int) := by
        rw [IntWalk.i64_in _ (by have : ((p * K : Nat) : Int) = (p : Int) * K := by simp
                                 omega)]
        simp
      have HN := Lib.hid h1
      clear h1 h2
      go_wp2
      go_roundw
      case rel => exact ⟨k + 1, p * K, by omega, by go_num, rfl, HN, trivial⟩
      case measure => simp [intOf]; omega
    · have e : k = n := by omega
      subst e
      have hki : ¬ (k : Int) < (k : Int) := by omega
      go_wp2
      go_ret
      exact ⟨by rw [HQ.out, ← HP.out]; rfl, rfl⟩

theorem rings_count {p : Pr} (hp : p.Ok) {t : Nat} (ht : t ∈ p.T) : (ringsL (srcs p.R p.C (mv t))).length = (loopsN (srcs p.R p.C (mv t))).all ∧ (loopsN (srcs p.R p.C (mv t))).all ≤ 16 := by
  have h := loops_small p.R (by have := hp.r4; omega) p.C (by have := hp.c4; omega) t (hp.t8 t ht) (hp.kind t ht)
  rw [decide_eq_true_eq] at h
  have h16 := hp.n16.2
  unfold Pr.n at h16
  have h1 := h.1
  refine ⟨h.2.1.symm, ?_⟩
  unfold Lp.all
  omega

theorem refChk_ok (p : Pr) (hp : p.Ok) (A : Option Addr) (c : Nat) (w : World) (hT : IntsAt w w.heap.size A (intsN p.T)) :
    Calls Tryd.prog 22 #[.agg #[.int .i64 p.R, .int .i64 p.C, .int .i64 p.K, .slice A p.T.length c]] w fun e w' => e = .returned (.int .i64 0) ∧ Below w.heap.size w w' := by
  have h := refCheck_any p.R p.C p.K A c (intsN p.T) w hT (by rw [intsN_len]; have := hp.len; omega)
  rw [chk_of_ok hp, intsN_len] at h
  exact h

set_option maxRecDepth 100000 in
set_option maxHeartbeats 2000000 in
theorem refStaying_ok (p : Pr) (hp : p.Ok) (A : Option Addr) (c t : Nat) (w : World) (hT : IntsAt w w.heap.size A (intsN p.T)) (ht : t ∈ p.T) :
    Calls Tryd.prog 36 #[.agg #[.int .i64 p.R, .int .i64 p.C, .int .i64 p.K, .slice A p.T.length c], .int .i64 t] w (RetNE w (p.K ^ (loopsN (srcs p.R p.C (mv t))).all : Nat) 0) := by
  have hb1 := below_new w (.cells #[.int .i64 p.R, .int .i64 p.C, .int .i64 p.K, .slice A p.T.length c] 32)
  have hc1 := own_cells4 w (.int .i64 p.R) (.int .i64 p.C) (.int .i64 p.K) (.slice A p.T.length c) 32
  have hz1 : w.heap.size < (w.alloc (.cells #[.int .i64 p.R, .int .i64 p.C, .int .i64 p.K, .slice A p.T.length c] 32)).heap.size := by simp
  have HV := Lib.hid (refChk_ok p hp A c _ (hT.up hb1))
  have HH := Lib.hid (fun W (h : IntsAt W W.heap.size A (intsN p.T)) => refHas_yes A c (intsN p.T) t W h (by rw [intsN_len]; have := hp.len; omega) (intsN_mem.2 ht))
  rw [intsN_len] at HH
  obtain ⟨hrl, hr16⟩ := rings_count hp ht
  have HR := Lib.hid (fun W => refRings_ok p hp A c t W ht)
  have HRL := Lib.hid hrl
  have HP := Lib.hid (fun W => refPower_any p.K (loopsN (srcs p.R p.C (mv t))).all W hp.k4 hr16)
  generalize (loopsN (srcs p.R p.C (mv t))).all = n at *
  generalize ringsL (srcs p.R p.C (mv t)) = l at *
  generalize p.K ^ n = V at *
  clear hp ht hrl
  go_enter Tryd.func36, Tryd.ntmps36
  go_upto_region 6 with (first
    | (go_at_call 22; refine (HV.out).mono ?_; rintro e w2 ⟨rfl, hb2⟩; obtain ⟨q1, q2, q3⟩ := bcell hb2; simp only [World.size_alloc] at q1 q2 q3; have hb3 := hb1.trans (hb2.mono hb1.size))
    | (go_at_call 73; refine (HH.out _ (hT.up hb3)).mono ?_; rintro e w4 ⟨rfl, rfl⟩))
  have hz2 : w.heap.size < w2.heap.size := Nat.lt_of_lt_of_le hz1 hb2.size
  have HK := Lib.hid (fun (W : World) (h : Below w2.heap.size w2 W) => show Below w2.heap.size w2 W ∧ W.cell? ⟨w.heap.size, 0, none⟩ = some (.int .i64 p.R) ∧ W.cell? ⟨w.heap.size, 1, none⟩ = some (.int .i64 p.C) ∧ W.cell? ⟨w.heap.size, 2, none⟩ = some (.int .i64 p.K) ∧ W.cell? ⟨w.heap.size, 3, none⟩ = some (.slice A p.T.length c) from
    ⟨h, (h.cell (p := ⟨w.heap.size, 0, none⟩) hz2).trans ((hb2.cell (p := ⟨w.heap.size, 0, none⟩) hz1).trans hc1.1), (h.cell (p := ⟨w.heap.size, 1, none⟩) hz2).trans ((hb2.cell (p := ⟨w.heap.size, 1, none⟩) hz1).trans hc1.2.1), (h.cell (p := ⟨w.heap.size, 2, none⟩) hz2).trans ((hb2.cell (p := ⟨w.heap.size, 2, none⟩) hz1).trans hc1.2.2.1), (h.cell (p := ⟨w.heap.size, 3, none⟩) hz2).trans ((hb2.cell (p := ⟨w.heap.size, 3, none⟩) hz1).trans hc1.2.2.2)⟩)
  have HF := Lib.hid hb3
  have X85 := Lib.hid (fun W (Q : Ending → World → Prop) (h : Below w2.heap.size w2 W) (hQ : ∀ D d w', Below w2.heap.size w2 w' → Q (.returned (.slice D n d)) w') =>
    (HR.out W).mono fun e w' ⟨D, d, he, _, hb, _⟩ => by rw [he, intsN_len, HRL.out]; exact hQ D d w' (h.trans (hb.mono h.size)))
  have X84 := Lib.hid (fun W (Q : Ending → World → Prop) (h : Below w2.heap.size w2 W) (hQ : ∀ w', Below w2.heap.size w2 w' → Q (.returned (.int .i64 V)) w') =>
    (HP.out W).mono fun e w' ⟨he, hw⟩ => by rw [he, hw]; exact hQ W h)
  have hbd := (Below.refl w2.heap.size w2).drew
  clear hc1 hb1 hb2 hb3 q1 q2 q3 HV HH HR HP hT
  go_region_held3 (fun W => Below w2.heap.size w2 W ∧ W.cell? ⟨w.heap.size, 0, none⟩ = some (.int .i64 p.R) ∧ W.cell? ⟨w.heap.size, 1, none⟩ = some (.int .i64 p.C) ∧ W.cell? ⟨w.heap.size, 2, none⟩ = some (.int .i64 p.K) ∧ W.cell? ⟨w.heap.size, 3, none⟩ = some (.slice A p.T.length c))
    (exact HK.out _ (by assumption))
    (first
      | (go_at_call 85; with_reducible refine X85.out _ _ (by assumption) ?_; intro D5 d5 w5 hb5)
      | (go_at_call 84; with_reducible refine X84.out _ _ (by assumption) ?_; intro w6 hb6))
  all_goals
    go_wp2
    go_ret2
    exact ⟨rfl, HF.out.trans (Below.mono hb6 HF.out.size)⟩

set_option maxRecDepth 100000 in
set_option maxHeartbeats 2000000 in
theorem refStaying_none (p : Pr) (hp : p.Ok) (A : Option Addr) (c : Nat) (t : Int) (w : World) (hT : IntsAt w w.heap.size A (intsN p.T)) (ht : t ∉ intsN p.T) :
    Calls Tryd.prog 36 #[.agg #[.int .i64 p.R, .int .i64 p.C, .int .i64 p.K, .slice A p.T.length c], .int .i64 t] w (RetNE w 0 2) := by
  have hb1 := below_new w (.cells #[.int .i64 p.R, .int .i64 p.C, .int .i64 p.K, .slice A p.T.length c] 32)
  have HV := Lib.hid (refChk_ok p hp A c _ (hT.up hb1))
  have HH := Lib.hid (fun W (h : IntsAt W W.heap.size A (intsN p.T)) => refHas_no A c (intsN p.T) t W h (by rw [intsN_len]; have := hp.len; omega) ht)
  rw [intsN_len] at HH
  clear hp ht
  go_enter Tryd.func36, Tryd.ntmps36
  go_wp2_with (first
    | (go_at_call 22; refine (HV.out).mono ?_; rintro e w2 ⟨rfl, hb2⟩; obtain ⟨q1, q2, q3⟩ := bcell hb2; simp only [World.size_alloc] at q1 q2 q3; have hb3 := hb1.trans (hb2.mono hb1.size))
    | (go_at_call 73; refine (HH.out _ (hT.up hb3)).mono ?_; rintro e w4 ⟨rfl, rfl⟩))
  go_ret2
  exact ⟨rfl, hb3⟩

set_option maxRecDepth 100000 in
set_option maxHeartbeats 2000000 in
theorem stayingF_none (p : Pr) (hp : p.Ok) (TA : Option Addr) (tc : Nat) (t : Int) (w : World) (hm : MovW w) (hT : IntsAt w w.heap.size TA (intsN p.T)) (ht : t ∉ intsN p.T) :
    Calls Tryd.prog 35 #[.agg #[.int .i64 p.R, .int .i64 p.C, .int .i64 p.K, .slice TA p.T.length tc], .int .i64 t] w (RetNE w 0 2) := by
  have hbx := below_new w (.cells #[.int .i64 p.R, .int .i64 p.C, .int .i64 p.K, .slice TA p.T.length tc] 24)
  have HP := Lib.hid (plate_none p hp TA tc _ (hm.below hbx) (hT.up hbx))
  have hl8 := hp.len
  have HX := Lib.hid (fun W (hW : Below w.heap.size w W) => index_out TA tc (intsN p.T) t W W.heap.size (hT.up hW) (by rw [intsN_len]; omega) ht)
  rw [intsN_len] at HX
  clear hm hT hp ht
  go_enter Tryd.func35, Tryd.ntmps35
  go_wp2_with (first
    | (go_at_call 74; refine (HP.out).mono ?_; rintro e w1 ⟨FA, fc, rfl, hF, hb2⟩; have hb3 := hbx.trans (hb2.mono hbx.size); have hb4 := hb3.trans ((below_new w1 (.cells #[.int .i64 p.R, .int .i64 p.C, .int .i64 p.K, .slice TA p.T.length tc, .slice FA p.T.length fc] 115)).mono hb3.size))
    | (go_at_call 75; refine (HX.out _ hb4).mono ?_; rintro e w5 ⟨rfl, rfl⟩))
  go_ret2
  exact ⟨rfl, hb4⟩

set_option maxRecDepth 100000 in
theorem stayingR_err (R C K : Int) (A : Option Addr) (c : Nat) (T : List Int) (t : Int) (w : World) (hA : IntsAt w w.heap.size A T) (hn : T.length < 1000) (h : chkE R C K T ≠ 0) :
    Calls Tryd.prog 36 #[.agg #[.int .i64 R, .int .i64 C, .int .i64 K, .slice A T.length c], .int .i64 t] w (RetNE w 0 (chkE R C K T)) := by
  have hb1 := below_new w (.cells #[.int .i64 R, .int .i64 C, .int .i64 K, .slice A T.length c] 32)
  have HP := Lib.hid (refCheck_any R C K A c T _ (hA.up hb1) hn)
  have hne : (chkE R C K T != 0) = true := by simpa using h
  have heq : (chkE R C K T == 0) = false := by simpa using h
  generalize chkE R C K T = E at *
  clear hA h
  go_enter Tryd.func36, Tryd.ntmps36
  go_wp2_with (go_at_call 22; refine (HP.out).mono ?_; rintro e w1 ⟨rfl, hb2⟩; have hb3 := hb1.trans (hb2.mono hb1.size))
  go_ret2
  exact ⟨rfl, hb3⟩

set_option maxRecDepth 100000 in
theorem countR_err (R C K : Int) (A : Option Addr) (c : Nat) (T : List Int) (w : World) (hA : IntsAt w w.heap.size A T) (hn : T.length < 1000) (h : chkE R C K T ≠ 0) :
    Calls Tryd.prog 38 #[.agg #[.int .i64 R, .int .i64 C, .int .i64 K, .slice A T.length c]] w (RetNE w 0 (chkE R C K T)) := by
  have hb1 := below_new w (.cells #[.int .i64 R, .int .i64 C, .int .i64 K, .slice A T.length c] 32)
  have HP := Lib.hid (refCheck_any R C K A c T _ (hA.up hb1) hn)
  have hne : (chkE R C K T != 0) = true := by simpa using h
  have heq : (chkE R C K T == 0) = false := by simpa using h
  generalize chkE R C K T = E at *
  clear hA h
  go_enter Tryd.func38, Tryd.ntmps38
  go_wp2_with (go_at_call 22; refine (HP.out).mono ?_; rintro e w1 ⟨rfl, hb2⟩; have hb3 := hb1.trans (hb2.mono hb1.size))
  go_ret2
  exact ⟨rfl, hb3⟩

set_option maxRecDepth 100000 in
set_option maxHeartbeats 2000000 in
theorem refCount_ok (p : Pr) (hp : p.Ok) (A : Option Addr) (c : Nat) (w : World) (hT : IntsAt w w.heap.size A (intsN p.T)) :
    Calls Tryd.prog 38 #[.agg #[.int .i64 p.R, .int .i64 p.C, .int .i64 p.K, .slice A p.T.length c]] w (RetNE w (p.count : Nat) 0) := by
  have hb1 := below_new w (.cells #[.int .i64 p.R, .int .i64 p.C, .int .i64 p.K, .slice A p.T.length c] 32)
  have hc1 := own_cells4 w (.int .i64 p.R) (.int .i64 p.C) (.int .i64 p.K) (.slice A p.T.length c) 32
  have hz1 : w.heap.size < (w.alloc (.cells #[.int .i64 p.R, .int .i64 p.C, .int .i64 p.K, .slice A p.T.length c] 32)).heap.size := by simp
  have HV := Lib.hid (refChk_ok p hp A c _ (hT.up hb1))
  have hl8 := hp.len
  have hpos := hp.pos
  have hk4 := hp.k4
  have HR := Lib.hid (fun t ht => rings_count hp (t := t) ht)
  have HRR := Lib.hid (fun W t ht => refRings_ok p hp A c t W ht)
  have HTT := Lib.hid hT
  obtain ⟨V, hV⟩ : ∃ V, V = p.count := ⟨_, rfl⟩
  rw [← hV]
  have HV2 := Lib.hid (show V = sumG (fun l => p.K ^ l.all) p.from / p.T.length from hV)
  clear hp hT hV
  go_enter Tryd.func38, Tryd.ntmps38
  go_upto_region 4 with (go_at_call 22; ((with_reducible refine (HV.out).mono ?_); rintro e w4 ⟨rfl, hb2⟩))
  have hbw : Below w.heap.size w w4 := hb1.trans (hb2.mono hb1.size)
  have hz4 : w.heap.size < w4.heap.size := Nat.lt_of_lt_of_le hz1 hb2.size
  have HH := Lib.hid (fun (W : World) (h : Below w4.heap.size w4 W) => show W.cell? ⟨w.heap.size, 0, none⟩ = some (.int .i64 p.R) ∧ W.cell? ⟨w.heap.size, 1, none⟩ = some (.int .i64 p.C) ∧ W.cell? ⟨w.heap.size, 2, none⟩ = some (.int .i64 p.K) ∧ W.cell? ⟨w.heap.size, 3, none⟩ = some (.slice A p.T.length c) from
    ⟨(h.cell (p := ⟨w.heap.size, 0, none⟩) hz4).trans ((hb2.cell (p := ⟨w.heap.size, 0, none⟩) hz1).trans hc1.1), (h.cell (p := ⟨w.heap.size, 1, none⟩) hz4).trans ((hb2.cell (p := ⟨w.heap.size, 1, none⟩) hz1).trans hc1.2.1), (h.cell (p := ⟨w.heap.size, 2, none⟩) hz4).trans ((hb2.cell (p := ⟨w.heap.size, 2, none⟩) hz1).trans hc1.2.2.1), (h.cell (p := ⟨w.heap.size, 3, none⟩) hz4).trans ((hb2.cell (p := ⟨w.heap.size, 3, none⟩) hz1).trans hc1.2.2.2)⟩)
  clear hc1 hb2 hb1 HV
  go_wp2
  go_loopw [5, 6] (fun v i wr => ∃ (k S : Nat), k ≤ p.T.length ∧ i = .int .i64 k ∧ v = .int .i64 S ∧ Hid (S = sumG (fun l => p.K ^ l.all) (p.from.take k)) ∧ S ≤ k * 4294967296 ∧ Below w4.heap.size w4 wr) (fun _ i _ => p.T.length - (intOf i).toNat)
  case atStart => exact ⟨0, 0, Nat.zero_le _, rfl, rfl, Lib.hid rfl, Nat.zero_le _, Below.refl _ _⟩
  case round =>
    obtain ⟨k, S, hk, rfl, rfl, HS, hSb, hbr⟩ := hrel
    have hbwr := hbw.trans (hbr.mono hbw.size)
    obtain ⟨p0, p1, p2, p3⟩ := HH.out _ hbr
    have HF := Lib.hid hbwr
    by_cases hlt : k < p.T.length
    · have hx : p.T[k]? = some p.T[k] := List.getElem?_eq_getElem hlt
      have hmem := mem_of_get hx
      have HK := Lib.hid (show S + p.K ^ (loopsN (srcs p.R p.C (mv p.T[k]))).all = sumG (fun l => p.K ^ l.all) (p.from.take (k + 1)) by rw [take_snoc (from_get hx), sumG_snoc, HS.out])
      obtain ⟨tb, tf, rfl, htb, dt⟩ := (HTT.out.up hbwr) k _ (intsN_get hx)
      clear hx
      generalize p.T[k] = t at *
      obtain ⟨hrl, hr16⟩ := HR.out t hmem
      have hpw := pow_le hk4 hr16
      have HRL := Lib.hid hrl
      have HP := Lib.hid (fun W => refPower_any p.K (loopsN (srcs p.R p.C (mv t))).all W hk4 hr16)
      have HRk := Lib.hid (fun W => HRR.out W t hmem)
      generalize (loopsN (srcs p.R p.C (mv t))).all = n at *
      generalize ringsL (srcs p.R p.C (mv t)) = l at *
      generalize p.K ^ n = y at *
      have hki : (k : Int) < (p.T.length : Int) := by omega
      have hk0 : (0 : Int) ≤ (k : Int) := by omega
      have hwz : w.heap.size < wr.heap.size := Nat.lt_of_lt_of_le hz4 hbr.size
      have hsum : (k + 1) * 4294967296 = k * 4294967296 + 4294967296 := by rw [Nat.add_mul, Nat.one_mul]
      have hS2 : S + y ≤ (k + 1) * 4294967296 := by omega
      have hS3 : S + y ≤ 10000000000000 := by
        have : (k + 1) * 4294967296 ≤ 8 * 4294967296 := Nat.mul_le_mul_right _ (by omega)
        omega
      have e4 : IntKind.i64.wrap ((S : Int) + (y : Int)) = ((S + y : Nat) : Int) := (IntWalk.i64_in _ (by omega)).trans (by omega)
      have HKK := Lib.hid (fun (W : World) (h : Below wr.heap.size wr W) => show Below wr.heap.size wr W ∧ W.cell? ⟨w.heap.size, 0, none⟩ = some (.int .i64 p.R) ∧ W.cell? ⟨w.heap.size, 1, none⟩ = some (.int .i64 p.C) ∧ W.cell? ⟨w.heap.size, 2, none⟩ = some (.int .i64 p.K) ∧ W.cell? ⟨w.heap.size, 3, none⟩ = some (.slice (some ⟨tb, tf, none⟩) p.T.length c) ∧ W.cell? ⟨tb, tf + k, none⟩ = some (.int .i64 t) from
        ⟨h, (h.cell (p := ⟨w.heap.size, 0, none⟩) hwz).trans p0, (h.cell (p := ⟨w.heap.size, 1, none⟩) hwz).trans p1, (h.cell (p := ⟨w.heap.size, 2, none⟩) hwz).trans p2, (h.cell (p := ⟨w.heap.size, 3, none⟩) hwz).trans p3, (h.cell (p := ⟨tb, _, none⟩) htb).trans dt⟩)
      have X85 := Lib.hid (fun W (Q : Ending → World → Prop) (h : Below wr.heap.size wr W) (hQ : ∀ D d w', Below wr.heap.size wr w' → Q (.returned (.slice D n d)) w') =>
        (HRk.out W).mono fun e w' ⟨D, d, he, _, hb, _⟩ => by rw [he, intsN_len, HRL.out]; exact hQ D d w' (h.trans (hb.mono h.size)))
      have X84 := Lib.hid (fun W (Q : Ending → World → Prop) (h : Below wr.heap.size wr W) (hQ : ∀ w', Below wr.heap.size wr w' → Q (.returned (.int .i64 y)) w') =>
        (HP.out W).mono fun e w' ⟨he, hw⟩ => by rw [he, hw]; exact hQ W h)
      have hbd := (Below.refl wr.heap.size wr).drew
      have HE4 := Lib.hid e4
      clear dt hrl hpw HP HRk e4
      go_upto_region 8 with (fail)
      clear p0 p1 p2 p3
      have e4 := HE4.out
      go_region_held3 (fun W => Below wr.heap.size wr W ∧ W.cell? ⟨w.heap.size, 0, none⟩ = some (.int .i64 p.R) ∧ W.cell? ⟨w.heap.size, 1, none⟩ = some (.int .i64 p.C) ∧ W.cell? ⟨w.heap.size, 2, none⟩ = some (.int .i64 p.K) ∧ W.cell? ⟨w.heap.size, 3, none⟩ = some (.slice (some ⟨tb, tf, none⟩) p.T.length c) ∧ W.cell? ⟨tb, tf + k, none⟩ = some (.int .i64 t))
        (exact HKK.out _ (by assumption))
        (first
          | (go_at_call 85; with_reducible refine X85.out _ _ (by assumption) ?_; intro D5 d5 w5 hb5)
          | (go_at_call 84; with_reducible refine X84.out _ _ (by assumption) ?_; intro w6 hb6))
      all_goals
        clear e4
        go_wp2
        go_roundw
        case rel => exact ⟨k + 1, S + y, by omega, by go_num, by first | rfl | (rw [← HE4.out]; rfl) | go_num, HK, hS2, hbr.trans (Below.mono hb6 hbr.size)⟩
        case measure => simp [intOf]; omega
    · have HE := Lib.hid (show S = sumG (fun l => p.K ^ l.all) p.from by rw [HS.out, List.take_of_length_le (by rw [from_len]; omega)])
      have hki : ¬ (k : Int) < (p.T.length : Int) := by omega
      have hne : ¬ ((p.T.length : Int) = 0) := by omega
      have hnb : ((p.T.length : Int) == 0) = false := by simpa using hne
      have hS3 : S ≤ 10000000000000 := by
        have : k * 4294967296 ≤ 8 * 4294967296 := Nat.mul_le_mul_right _ (by omega)
        omega
      obtain ⟨Q, hQ⟩ : ∃ Q, Q = S / p.T.length := ⟨_, rfl⟩
      have hQb : Q ≤ 10000000000000 := by rw [hQ]; exact Nat.le_trans (Nat.div_le_self _ _) hS3
      have hdiv : (S : Int) / (p.T.length : Int) = (Q : Int) := by rw [hQ]; rfl
      have HQq := Lib.hid (show V = Q by rw [hQ, HE.out, HV2.out])
      clear hQ
      go_wp2
      go_ret2
      exact ⟨by rw [HQq.out]; rfl, HF.out⟩
end Go.Proofs.YtbcbaaapogejiaaDoor
