/-
  The reference: another flow, where the first flow is the given one.
-/
import Derived.Test.YtcebihijnedekaaDoorRefR
namespace Go.Proofs.YtcebihijnedekaaDoor
open Go.RowKit

/-- What Other returns where the flow is the first one. -/
def sndS (rooms : Nat) (ws : List Wy) (fl : List Int) : List Int × Int := match secK rooms ws fl ws.length with | some l => (l, 0) | none => ([], 12)

theorem firstRL_any {rooms : Nat} {A : Option Addr} {c : Nat} {ws : List Wy} {w : World} (N : Nat) (hN : N = ws.length) (hv : ValB rooms ws) (ha : Agr ws) (hw : WaysAt w w.heap.size A ws) :
    Calls Tryd.prog 59 #[.agg #[.int .i64 rooms, .slice A N c]] w (RetInts w (firstS rooms ws)) := by
  subst hN; exact firstR_any rooms A c ws w hv ha hw

theorem withK_any {R n : Int} {k : Nat} {A : Option Addr} {c : Nat} {ws : List Wy} {x : Wy} {w : World} (N : Nat) (hN : N = ws.length) (h12 : ws.length ≤ 12) (hx : ws[k]? = some x) (hw : WaysAt w w.heap.size A ws) :
    Calls Tryd.prog 66 #[.agg #[.int .i64 R, .slice A N c], .int .i64 k, .int .i64 n] w (RetCopy w R N (ws.set k (fixW x n))) :=
  (withL_any N hN h12 hx hw).mono fun _ _ ⟨ad, c', h⟩ => ⟨ad, c', h⟩

set_option maxRecDepth 100000 in
set_option maxHeartbeats 2000000 in
theorem otherR_same (rooms : Nat) (A D : Option Addr) (c d : Nat) (ws : List Wy) (fl : List Int) (w : World) (hw : WaysAt w w.heap.size A ws) (hd : IntsAt w w.heap.size D fl) (h0 : verS rooms ws fl = 0) (hv : ValB rooms ws) (ha : Agr ws) (hl : fl.length = ws.length)
    (hr : ∀ (k : Nat) (y : Wy) (g : Int), ws[k]? = some y → fl[k]? = some g → y.lo ≤ g ∧ g ≤ y.hi) (he : firstS rooms ws = fl) :
    Calls Tryd.prog 28 #[.agg #[.int .i64 rooms, .slice A ws.length c], .slice D fl.length d] w (RetList w (sndS rooms ws fl).1 (sndS rooms ws fl).2) := by
  have HC := Lib.hid (fun W hW hD => verifyR_any rooms A D c d ws fl W hW hD)
  rw [h0] at HC
  have hw1 := fun o => (hw.alloc (Nat.le_refl _) o).mono (B' := (w.alloc o).heap.size) (by simp)
  have hd1 := fun o => (hd.alloc (Nat.le_refl _) o).mono (B' := (w.alloc o).heap.size) (by simp)
  have HF := Lib.hid (fun W hW => firstR_any rooms A c ws W hv ha hW)
  have hlen := hv.len
  have HE := Lib.hid (fun W A' c' hA' hD => sameR_any A' D c' d (firstS rooms ws) fl W (by rw [he]; omega) (by rw [he]) hA' hD)
  rw [decide_eq_true he] at HE
  have HLE := Lib.hid hl
  have hl12 : fl.length ≤ 12 := by omega
  have HR := Lib.hid hr
  generalize hS : sndS rooms ws fl = S
  have HS := Lib.hid hS
  clear h0 hl hr hS ha
  rw [he] at HF HE
  clear he
  go_enter Tryd.func28, Tryd.ntmps28
  go_wp2_with (first
    | (go_at_call 26; refine (HC.out _ (hw1 _) (hd1 _)).mono ?_; rintro e w1 ⟨rfl, hb1⟩; obtain ⟨q1, q2, q3⟩ := bcell hb1; simp only [World.size_alloc] at q1 q2 q3; have hw2 := upw (hw1 _) hb1; have hd2 := upi (hd1 _) hb1; have hz2 : w.heap.size < w1.heap.size := (by omega))
    | (go_at_call 65; refine (HE.out _ _ _ hA' hd3).mono ?_; rintro e w4 ⟨rfl, hb4⟩)
    | (go_at_call 59; refine (HF.out _ hw2).mono ?_; rintro e w3 ⟨A', c', rfl, hA', hb3⟩; obtain ⟨p1, p2, p3⟩ := bcell hb3; have hw3 := upw hw2 hb3; have hd3 := upi hd2 hb3; have hz3 : w.heap.size < w3.heap.size := (by omega)))
  have c0 : w4.cell? ⟨w.heap.size, 0, none⟩ = some (.int .i64 rooms) := (hb4.cell (p := ⟨w.heap.size, 0, none⟩) hz3).trans (by rw [p1 _ _ hz2, q1 _ _ (Nat.lt_succ_self _)]; simp [go_sem])
  have c1 : w4.cell? ⟨w.heap.size, 1, none⟩ = some (.slice A ws.length c) := (hb4.cell (p := ⟨w.heap.size, 1, none⟩) hz3).trans (by rw [p1 _ _ hz2, q1 _ _ (Nat.lt_succ_self _)]; simp [go_sem])
  have hw4 := upw hw3 hb4
  have hd4 := upi hd3 hb4
  have hb0 : Below w.heap.size w w4 := ((Below.refl _ _).alloc (Nat.le_refl _) _).trans ((hb1.mono (by simp)).trans ((hb3.mono (by omega)).trans (hb4.mono (by omega))))
  have hz4 : w.heap.size < w4.heap.size := Nat.lt_of_lt_of_le hz3 hb4.size
  clear q1 q2 q3 p1 p2 p3 hb1 hb3 hb4 hw1 hd1 hw2 hd2 hw3 hd3 hA' hz2 hz3 HC HF HE hw hd
  go_loopw [7, 8, 9, 10] (fun i _ _ _ wr => ∃ j : Nat, j ≤ ws.length ∧ i = .int .i64 ((j : Int) - 1) ∧ Hid (secK rooms ws fl j = secK rooms ws fl ws.length) ∧ Below w4.heap.size w4 wr) (fun i _ _ _ _ => (intOf i + 1).toNat)
  case atStart => exact ⟨ws.length, Nat.le_refl _, by rw [HLE.out], Lib.hid rfl, Below.refl _ _⟩
  case round =>
    obtain ⟨j, hj, rfl, HK, hbw⟩ := hrel
    have d0 := (hbw.cell (p := ⟨w.heap.size, 0, none⟩) hz4).trans c0
    have d1 := (hbw.cell (p := ⟨w.heap.size, 1, none⟩) hz4).trans c1
    have hsw := hbw.size
    have hsz : w.heap.size < wr.heap.size := Nat.lt_of_lt_of_le hz4 hsw
    have hww := upw hw4 hbw
    have hdd := upi hd4 hbw
    rcases j with _ | i
    · have HSV := Lib.hid (show S = ([], 12) by rw [← HS.out]; unfold sndS; rw [← HK.out]; rfl)
      clear HS HK
      go_wp2
      go_ret2
      rw [HSV.out]
      exact retList_none (hb0.trans (hbw.mono (by omega)))
    · have hx : ws[i]? = some (ws[i]'(by omega)) := List.getElem?_eq_getElem (by omega)
      have hy : fl[i]? = some (fl[i]'(by have := HLE.out; omega))  := List.getElem?_eq_getElem (by have := HLE.out; omega)
      generalize ws[i]'(by omega) = x at hx
      generalize fl[i]'(by have := HLE.out; omega) = f at hy
      obtain ⟨b, off, rfl, hbz, h1, h2, h3, h4⟩ := hww i x hx
      obtain ⟨b2, o2, rfl, hb2, h5⟩ := hdd i f hy
      have hcast : (((i + 1 : Nat) : Int) - 1) = (i : Int) := by omega
      rw [hcast]
      have hi0 : (0 : Int) ≤ (i : Int) := by omega
      have hil : (i : Int) < (fl.length : Int) := by have := HLE.out; omega
      have hiw : (i : Int) < (ws.length : Int) := by omega
      clear hcast c0 c1
      go_wp2_with fail
      obtain ⟨w5, rfl⟩ : ∃ w5, w5 = wr := ⟨_, rfl⟩
      obtain ⟨W0, hW0⟩ : ∃ W0, W0 = w5.alloc (.cells #[.int .i64 rooms, .slice (some ⟨b, off, none⟩) ws.length c] 30) := ⟨_, rfl⟩
      have hbW : Below w5.heap.size w5 W0 := by rw [hW0]; exact (Below.refl _ _).alloc (Nat.le_refl _) _
      have hzW : w5.heap.size < W0.heap.size := by rw [hW0]; simp
      have o0 : W0.cell? ⟨w5.heap.size, 0, none⟩ = some (.int .i64 rooms) := by rw [hW0]; simp [go_sem]
      have o1 : W0.cell? ⟨w5.heap.size, 1, none⟩ = some (.slice (some ⟨b, off, none⟩) ws.length c) := by rw [hW0]; simp [go_sem]
      have p0 : W0.frozen? ⟨w5.heap.size, 0, none⟩ = false := by rw [hW0]; simp [go_sem]
      have p1 : W0.frozen? ⟨w5.heap.size, 1, none⟩ = false := by rw [hW0]; simp [go_sem]
      have hwW := upw hww hbW
      rw [← hW0]
      clear hW0
      go_loopw [9] (fun v wk => ∃ (k : Nat) (A' : Option Addr) (c' : Nat), k ≤ i ∧ v = .int .i64 k ∧ Below w5.heap.size w5 wk ∧ w5.heap.size < wk.heap.size ∧ wk.cell? ⟨w5.heap.size, 0, none⟩ = some (.int .i64 rooms) ∧ wk.cell? ⟨w5.heap.size, 1, none⟩ = some (.slice A' ws.length c') ∧
        wk.frozen? ⟨w5.heap.size, 0, none⟩ = false ∧ wk.frozen? ⟨w5.heap.size, 1, none⟩ = false ∧ WaysAt wk wk.heap.size A' (keptS ws (fl.take k))) (fun v _ => i - (intOf v).toNat)
      case atStart => exact ⟨0, _, c, Nat.zero_le _, rfl, hbW, hzW, o0, o1, p0, p1, by rw [List.take_zero, keptS_nil]; exact hwW⟩
      case round =>
        obtain ⟨k, Ak, ck, hki, rfl, hbk, hzk, n0, n1, n2, n3, hwk⟩ := hrel
        clear o0 o1 p0 p1
        have hdk := upi hdd hbk
        by_cases hlt : k < i
        · have hxk : ws[k]? = some (ws[k]'(by omega)) := List.getElem?_eq_getElem (by omega)
          have hfk : fl[k]? = some (fl[k]'(by have := HLE.out; omega))  := List.getElem?_eq_getElem (by have := HLE.out; omega)
          generalize ws[k]'(by omega) = xk at hxk
          generalize fl[k]'(by have := HLE.out; omega) = fk at hfk
          have hkl : k < fl.length := by have := HLE.out; omega
          have hkk : (keptS ws (fl.take k))[k]? = some xk := by rw [keptS_get_ge _ _ _ (by rw [List.length_take]; omega)]; exact hxk
          have HWK := Lib.hid (fun W hW => withK_any (R := rooms) (n := fk) (k := k) (A := Ak) (c := ck) (ws := keptS ws (fl.take k)) (x := xk) (w := W) ws.length (keptS_length _ _).symm (by rw [keptS_length]; exact hlen) hkk hW)
          have hset : (keptS ws (fl.take k)).set k (fixW xk fk) = keptS ws (fl.take (k + 1)) := by
            have := keptS_snoc ws (fl.take k) fk xk (by rw [List.length_take, Nat.min_eq_left (by omega)]; exact hxk)
            rw [List.length_take, Nat.min_eq_left (by omega)] at this
            rw [← this, take_snoc hfk]
          rw [hset] at HWK
          obtain ⟨_, _, hpp, hbb, hcc⟩ := hdk k fk hfk
          cases hpp
          have hk0 : (0 : Int) ≤ (k : Int) := by omega
          have hkj : (k : Int) < (fl.length : Int) := by omega
          have hkii : (k : Int) < (i : Int) := by omega
          have HWWK := Lib.hid hwk
          clear hkk hset hxk hfk hwk
          go_wp2_with fail
          go_region_with ((go_at_call 66; refine (HWK.out _ (by first | exact HWWK.out | exact upw HWWK.out (below_drewN' (Below.refl _ _) _))).mono ?_; rintro e w2 ⟨ad2, c2, rfl, hA2, hbb2, hl2, hu2⟩; have m0 := (hbb2.cell (p := ⟨w5.heap.size, 0, none⟩) hzk).trans n0; have m1 := (hbb2.cell (p := ⟨w5.heap.size, 1, none⟩) hzk).trans n1; have m2 := (hbb2.frozen (p := ⟨w5.heap.size, 0, none⟩) hzk).trans n2; have m3 := (hbb2.frozen (p := ⟨w5.heap.size, 1, none⟩) hzk).trans n3))
          all_goals
            have hne2 : ad2.block ≠ w5.heap.size := by have : wr.heap.size ≤ ad2.block := hl2; omega
            have hbn : Below w5.heap.size w5 w2 := hbk.drew.trans (hbb2.mono hbk.size)
            have hsn : w5.heap.size < w2.heap.size := by have : wr.heap.size ≤ w2.heap.size := hbb2.size; omega
            clear HWWK
            try go_wp2_with fail
            go_roundw
            case rel => exact ⟨k + 1, some ad2, c2, hlt, by go_num, (hbn.setCell (p := ⟨w5.heap.size, 0, none⟩) (Nat.le_refl _) _).setCell (p := ⟨w5.heap.size, 1, none⟩) (Nat.le_refl _) _, by simpa using hsn, by simp [go_sem, m0], by simp [go_sem, m1], by simp [go_sem, m2], by simp [go_sem, m3],
              (ways_setCell (ways_setCell hA2 (p := ⟨w5.heap.size, 0, none⟩) hne2 _) (p := ⟨w5.heap.size, 1, none⟩) hne2 _).mono (by simp)⟩
            case measure => simp [intOf]; omega
        · have hki' : k = i := by omega
          subst hki'
          obtain ⟨w6, rfl⟩ : ∃ w6, w6 = wr := ⟨_, rfl⟩
          have hil' := lt_of_get hx
          have hifl := lt_of_get hy
          have hkx : (keptS ws (fl.take k))[k]? = some x := by rw [keptS_get_ge _ _ _ (by rw [List.length_take]; omega)]; exact hx
          have hvk : ValB rooms (keptS ws (fl.take k)) := hv.kept fun q y g hy' hg => by
            rw [List.getElem?_take] at hg
            split at hg
            · exact HR.out q y g hy' hg
            · cases hg
          obtain ⟨r1, r2⟩ := HR.out k x f hx hy
          obtain ⟨_, _, hx3, hx4, hx5⟩ := hv.way x (mem_of_get hx)
          have HWK := Lib.hid (fun n W hW => withK_any (R := rooms) (n := n) (k := k) (A := Ak) (c := ck) (ws := keptS ws (fl.take k)) (x := x) (w := W) ws.length (keptS_length _ _).symm (by rw [keptS_length]; exact hlen) hkx hW)
          have hvn := fun n (h : 0 ≤ n ∧ n ≤ 99) => hvk.fix hkx h.1 h.2
          have HCN := Lib.hid (fun n (h : 0 ≤ n ∧ n ≤ 99) A2 c2 W hW => canL_any (rooms := rooms) (A := A2) (c := c2) (ws := (keptS ws (fl.take k)).set k (fixW x n)) (w := W) ws.length (by rw [List.length_set, keptS_length]) (hvn n h) hW)
          have HFN := Lib.hid (fun n (h : 0 ≤ n ∧ n ≤ 99) ha A2 c2 W hW => firstRL_any (rooms := rooms) (A := A2) (c := c2) (ws := (keptS ws (fl.take k)).set k (fixW x n)) (w := W) ws.length (by rw [List.length_set, keptS_length]) (hvn n h) ((agrS_iff (hvn n h).inW).1 ha) hW)
          have hmv := fun h => moreW_val hv HR.out hx hy h
          have HMA := Lib.hid (fun n (h1 : f + 1 ≤ n) (h2 : n ≤ x.hi) => more_agr (fl := fl) (f := f) (n := n) (hmv (by omega)) hx h1 h2)
          have HMF := Lib.hid (fun h ha => more_first (rooms := rooms) (fl := fl) (f := f) (hmv h) ha hx (Nat.le_of_lt hifl))
          have HSP := Lib.hid (fun (h : f < x.hi) (ha : agrS rooms (moreW ws fl k x f) = true) => span_in (rooms := rooms) (moreW_get (fl := fl) (f := f) hx) ((agrS_iff (hmv h).inW).1 ha) (hmv h).okW)
          have HSK : Hid (secK rooms ws fl (k + 1) = if f < x.hi ∧ agrS rooms (moreW ws fl k x f) = true then some (firstS rooms (moreW ws fl k x f)) else secK rooms ws fl k) := Lib.hid (by rw [secK, hx, hy])
          generalize secK rooms ws fl (k + 1) = S1 at HK HSK
          have HWW6 := Lib.hid hwk
          have HBK := Lib.hid hbk
          have d0' := (hbk.cell (p := ⟨w.heap.size, 0, none⟩) hsz).trans d0
          have d1' := (hbk.cell (p := ⟨w.heap.size, 1, none⟩) hsz).trans d1
          have h4' := (hbk.cell (p := ⟨b, _, none⟩) hbz).trans h4
          have h5' := (hbk.cell (p := ⟨b2, _, none⟩) hb2).trans h5
          have hz6 : w.heap.size < w6.heap.size := by omega
          have hbz6 : b < w6.heap.size := by omega
          have hb26 : b2 < w6.heap.size := by omega
          clear hbk hwk hvk hkx hvn hmv h1 h2 h3 h4 h5 hdk hww hdd d0 d1 hil' hifl
          generalize moreW ws fl k x f = mw at *
          generalize keptS ws (fl.take k) = kw at *
          generalize spanS rooms mw { x with lo := f + 1 } = P at *
          obtain ⟨P1, P2⟩ := P
          dsimp only at *
          have HX := Lib.hid hx
          have HY := Lib.hid hy
          clear hx hy hw4 hd4
          by_cases hB : f < x.hi ∧ agrS rooms mw = true
          · have HSV := Lib.hid (show S = (firstS rooms mw, 0) by rw [← HS.out]; unfold sndS; rw [← HK.out, HSK.out, if_pos hB])
            obtain ⟨s1, s2, s3⟩ := HSP.out hB.1 hB.2
            try dsimp only at s1 s2 s3
            have HA := Lib.hid (fun n (h1 : f + 1 ≤ n) (h2 : n ≤ P1) => show agrS rooms (kw.set k (fixW x n)) = decide (n = P1) by rw [HMA.out n h1 (by omega), hB.2, Bool.true_and]; exact decide_eq_decide.2 (by omega))
            have HMF2 := Lib.hid (HMF.out hB.1 hB.2)
            clear hB HSP HMA HMF HSK HK HS
            go_wp2_with fail
            go_loopw [10] (fun v wi => ∃ n : Int, v = .int .i64 n ∧ f + 1 ≤ n ∧ n ≤ P1 ∧ Below w6.heap.size w6 wi) (fun v _ => (P1 - intOf v).toNat)
            case atStart => exact ⟨f + 1, by go_num, Int.le_refl _, s1, Below.refl _ _⟩
            case round =>
              obtain ⟨n, rfl, hn1, hn2, hbi⟩ := hrel
              have v0 := (hbi.cell (p := ⟨w.heap.size, 0, none⟩) hz6).trans d0'
              have v1 := (hbi.cell (p := ⟨w.heap.size, 1, none⟩) hz6).trans d1'
              have v2 := (hbi.cell (p := ⟨b, _, none⟩) hbz6).trans h4'
              have v3 := (hbi.cell (p := ⟨w5.heap.size, 0, none⟩) hzk).trans n0
              have v4 := (hbi.cell (p := ⟨w5.heap.size, 1, none⟩) hzk).trans n1
              have hsi := hbi.size
              have HWi := Lib.hid (upw HWW6.out hbi)
              have H66 := Lib.hid (fun W hW => HWK.out n W hW)
              have H55 := Lib.hid (fun A2 c2 W hW => HCN.out n (by omega) A2 c2 W hW)
              have H59 := Lib.hid (fun ha A2 c2 W hW => HFN.out n (by omega) ha A2 c2 W hW)
              have ha := HA.out n hn1 hn2
              by_cases hnp : n < P1
              · rw [decide_eq_false (by omega)] at ha
                rw [ha] at H55
                clear ha H59
                go_wp2_with (first
                  | (go_at_call 66; refine (H66.out _ HWi.out).mono ?_; rintro e w7 ⟨ad2, c2, rfl, hA2, hbb2, _, _⟩)
                  | (go_at_call 55; refine (H55.out _ _ _ hA2).mono ?_; rintro e w8 ⟨rfl, hbb3⟩))
                go_roundw
                case rel => exact ⟨n + 1, by go_num, by omega, by omega, hbi.trans ((hbb2.mono hsi).trans (hbb3.mono (by have := hbb2.size; omega)))⟩
                case measure => simp [intOf]; omega
              · have hne : n = P1 := by omega
                subst hne
                rw [decide_eq_true rfl] at ha
                rw [ha] at H55
                have H59b := Lib.hid (fun A2 c2 W hW => H59.out ha A2 c2 W hW)
                rw [HMF2.out] at H59b
                clear ha H59
                go_wp2_with (first
                  | (go_at_call 55; refine (H55.out _ _ _ hA2).mono ?_; rintro e w8 ⟨rfl, hbb3⟩; have hbx := hbi.trans ((hbb2.mono hsi).trans (hbb3.mono (by have := hbb2.size; omega))); have hsx := hbx.size; have t0 := (hbx.cell (p := ⟨w5.heap.size, 0, none⟩) hzk).trans n0; have t1 := (hbx.cell (p := ⟨w5.heap.size, 1, none⟩) hzk).trans n1; have HWx := Lib.hid (upw HWW6.out hbx); have mk := True.intro)
                  | (go_at_call 66; (fail_if_success (have := mk)); refine (H66.out _ HWi.out).mono ?_; rintro e w7 ⟨ad2, c2, rfl, hA2, hbb2, _, _⟩)
                  | (go_at_call 66; refine (H66.out _ HWx.out).mono ?_; rintro e w9 ⟨ad5, c5, rfl, hA5, hbb5, hl5, hu5⟩)
                  | (go_at_call 59; refine (H59b.out _ _ _ hA5).mono ?_; rintro e w10 ⟨A7, c7, rfl, hA7, hbb7⟩))
                go_ret2
                rw [HSV.out]
                exact ⟨A7, c7, rfl, hA7, hb0.trans ((hbw.trans ((HBK.out.trans ((hbx.trans ((hbb5.mono hsx).trans (hbb7.mono (by have := hbb5.size; omega)))).mono (by omega))).mono hsw)).mono (by omega))⟩
          · have HSV := Lib.hid (show secK rooms ws fl k = secK rooms ws fl ws.length by rw [← HK.out, HSK.out, if_neg hB])
            have HA := Lib.hid (fun n (h1 : f + 1 ≤ n) (h2 : n ≤ x.hi) => (HMA.out n h1 h2).trans (show (agrS rooms mw && decide (P1 ≤ n ∧ n ≤ P2)) = false by
              cases hq : agrS rooms mw
              · rfl
              · exact absurd ⟨by omega, hq⟩ hB))
            clear hB HSP HMA HMF HSK HK
            go_wp2_with fail
            go_loopw [10] (fun v wi => ∃ n : Int, v = .int .i64 n ∧ f + 1 ≤ n ∧ n ≤ x.hi + 1 ∧ Below w6.heap.size w6 wi) (fun v _ => (x.hi + 1 - intOf v).toNat)
            case atStart => exact ⟨f + 1, by go_num, Int.le_refl _, by omega, Below.refl _ _⟩
            case round =>
              obtain ⟨n, rfl, hn1, hn2, hbi⟩ := hrel
              by_cases hnp : n ≤ x.hi
              · have v0 := (hbi.cell (p := ⟨w.heap.size, 0, none⟩) hz6).trans d0'
                have v1 := (hbi.cell (p := ⟨w.heap.size, 1, none⟩) hz6).trans d1'
                have v2 := (hbi.cell (p := ⟨b, _, none⟩) hbz6).trans h4'
                have v3 := (hbi.cell (p := ⟨w5.heap.size, 0, none⟩) hzk).trans n0
                have v4 := (hbi.cell (p := ⟨w5.heap.size, 1, none⟩) hzk).trans n1
                have hsi := hbi.size
                have HWi := Lib.hid (upw HWW6.out hbi)
                have H66 := Lib.hid (fun W hW => HWK.out n W hW)
                have H55 := Lib.hid (fun A2 c2 W hW => HCN.out n (by omega) A2 c2 W hW)
                have H59 := Lib.hid (fun ha A2 c2 W hW => HFN.out n (by omega) ha A2 c2 W hW)
                have ha := HA.out n hn1 hnp
                rw [ha] at H55
                clear ha H59
                go_wp2_with (first
                  | (go_at_call 66; refine (H66.out _ HWi.out).mono ?_; rintro e w7 ⟨ad2, c2, rfl, hA2, hbb2, _, _⟩)
                  | (go_at_call 55; refine (H55.out _ _ _ hA2).mono ?_; rintro e w8 ⟨rfl, hbb3⟩))
                go_roundw
                case rel => exact ⟨n + 1, by go_num, by omega, by omega, hbi.trans ((hbb2.mono hsi).trans (hbb3.mono (by have := hbb2.size; omega)))⟩
                case measure => simp [intOf]; omega
              · have v0 := (hbi.cell (p := ⟨w.heap.size, 0, none⟩) hz6).trans d0'
                have v1 := (hbi.cell (p := ⟨w.heap.size, 1, none⟩) hz6).trans d1'
                have v2 := (hbi.cell (p := ⟨b, _, none⟩) hbz6).trans h4'
                have hsi := hbi.size
                go_wp2_with fail
                go_roundw
                case rel => exact ⟨k, by omega, by first | rfl | go_num, HSV, hbw.trans ((HBK.out.trans (hbi.mono (by omega))).mono hsw)⟩
                case measure => first | (simp [intOf]; done) | (simp [intOf]; omega)

/-- THE REFERENCE's Other. -/
theorem otherR_any (R : Int) (A D : Option Addr) (c d : Nat) (ws : List Wy) (fl : List Int) (w : World) (hw : WaysAt w w.heap.size A ws) (hd : IntsAt w w.heap.size D fl) :
    Calls Tryd.prog 28 #[.agg #[.int .i64 R, .slice A ws.length c], .slice D fl.length d] w (RetList w (othS R ws fl).1 (othS R ws fl).2) := by
  by_cases h0 : verS R ws fl = 0
  · obtain ⟨rooms, rfl, _, hv, hl, hr, hfl⟩ := verS_ok h0
    have ha := agr_of_flow hv.inW hfl
    by_cases he : firstS rooms ws = fl
    · have h := otherR_same rooms A D c d ws fl w hw hd h0 hv ha hl hr he
      have e : othS rooms ws fl = sndS rooms ws fl := by
        unfold othS
        rw [if_pos h0, show ((rooms : Int).toNat) = rooms from rfl, if_pos he]
        rfl
      rw [e]; exact h
    · have e : othS rooms ws fl = (firstS rooms ws, 0) := by
        unfold othS
        rw [if_pos h0, show ((rooms : Int).toNat) = rooms from rfl, if_neg he]
      rw [e]; exact otherR_diff rooms A D c d ws fl w hw hd h0 hv ha hl he
  · have e : othS R ws fl = ([], verS R ws fl) := by unfold othS; rw [if_neg h0]
    rw [e]; exact otherR_err R A D c d ws fl w hw hd h0
end Go.Proofs.YtcebihijnedekaaDoor
