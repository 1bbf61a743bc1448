/-
  Amounts of colours: errors, and the program's errors. The reference: how many different backs have given amounts of colours: errors.
-/
import Derived.Test.YtbcbaaapogejiaaDoorRefL
import Derived.Test.YtbcbaaapogejiaaDoorRefO
import Derived.Test.YtbcbaaapogejiaaDoorExpD
namespace Go.Proofs.YtbcbaaapogejiaaDoor
open Go.RowKit

def sumI (l : List Int) : Int := l.foldl (· + ·) 0
theorem sumI_snoc (l : List Int) (x : Int) : sumI (l ++ [x]) = sumI l + x := by unfold sumI; rw [List.foldl_append]; rfl
/-- The error of amounts. -/
def wE (K n : Nat) (xs : List Int) : Int := if xs.length = K then (if ∀ x ∈ xs, 0 ≤ x ∧ x ≤ (n : Int) then (if sumI xs = n then 0 else 17) else 1) else 5
theorem wE_len {K n : Nat} {xs : List Int} (h : xs.length ≠ K) : wE K n xs = 5 := if_neg h
theorem wE_bad {K n : Nat} {xs : List Int} (h : xs.length = K) {x : Int} (hx : x ∈ xs) (hb : ¬ (0 ≤ x ∧ x ≤ (n : Int))) : wE K n xs = 1 := by
  unfold wE
  rw [if_pos h, if_neg (fun hh => hb (hh x hx))]
theorem wE_in {K n : Nat} {xs : List Int} (h : xs.length = K) (hx : ∀ x ∈ xs, 0 ≤ x ∧ x ≤ (n : Int)) : wE K n xs = if sumI xs = n then 0 else 17 := by
  unfold wE
  rw [if_pos h, if_pos hx]
theorem foldl_sumI : ∀ (ys : List Nat) (a : Nat), (intsN ys).foldl (· + ·) (a : Int) = ((ys.foldl (· + ·) a : Nat) : Int)
  | [], _ => rfl
  | y :: ys, a => by
    show (intsN ys).foldl (· + ·) ((a : Int) + (y : Int)) = _
    rw [show (a : Int) + (y : Int) = ((a + y : Nat) : Int) by simp, foldl_sumI ys (a + y)]
    rfl
theorem foldl_sumN : ∀ (ys : List Nat) (a : Nat), ys.foldl (· + ·) a = a + sumN ys
  | [], a => rfl
  | y :: ys, a => by rw [List.foldl_cons, foldl_sumN ys (a + y), sumN_cons]; omega
theorem ok_of_wE {K n : Nat} {xs : List Int} (h : wE K n xs = 0) : ∃ ys : List Nat, xs = intsN ys ∧ ys.length = K ∧ (∀ y ∈ ys, y ≤ n) ∧ sumN ys = n := by
  unfold wE at h
  split at h
  · next h1 =>
    split at h
    · next h2 =>
      split at h
      · next h3 =>
        refine ⟨xs.map Int.toNat, ?_, by simpa using h1, ?_, ?_⟩
        · unfold intsN
          rw [List.map_map]
          conv => lhs; rw [← List.map_id xs]
          exact List.map_congr_left fun x hx => by have := h2 x hx; simp; omega
        · intro y hy
          obtain ⟨x, hx, rfl⟩ := List.mem_map.1 hy
          have := h2 x hx
          omega
        · have e : xs = intsN (xs.map Int.toNat) := by
            unfold intsN
            rw [List.map_map]
            conv => lhs; rw [← List.map_id xs]
            exact List.map_congr_left fun x hx => by have := h2 x hx; simp; omega
          have h4 : ((xs.map Int.toNat).foldl (· + ·) 0 : Nat) = n := by
            unfold sumI at h3
            rw [e] at h3
            have := foldl_sumI (xs.map Int.toNat) 0
            have h5 : (((xs.map Int.toNat).foldl (· + ·) 0 : Nat) : Int) = (n : Int) := by rw [← this]; exact h3
            omega
          rw [foldl_sumN] at h4
          omega
      · omega
    · omega
  · omega

set_option maxRecDepth 100000 in
set_option maxHeartbeats 4000000 in
theorem withF_bad (p : Pr) (hp : p.Ok) (D TA : Option Addr) (d tc : Nat) (xs : List Int) (w : World) (hm : MovW w) (hT : IntsAt w w.heap.size TA (intsN p.T)) (hD : IntsAt w w.heap.size D xs) (hw : wE p.K p.n xs ≠ 0) :
    Calls Tryd.prog 39 #[.agg #[.int .i64 p.R, .int .i64 p.C, .int .i64 p.K, .slice TA p.T.length tc], .slice D xs.length d] w (RetNE w 0 (wE p.K p.n xs)) := by
  have hb1 := below_new w (.cells #[.int .i64 p.R, .int .i64 p.C, .int .i64 p.K, .slice TA p.T.length tc] 24)
  have hbx := hb1.trans ((below_new (w.alloc (.cells #[.int .i64 p.R, .int .i64 p.C, .int .i64 p.K, .slice TA p.T.length tc] 24)) (.cells #[.slice D xs.length d] 22)).mono hb1.size)
  have HP := Lib.hid (plate_none p hp TA tc _ (hm.below hbx) (hT.up hbx))
  have hk4 := hp.k4
  have hn16 := hp.n16.2
  have HCe := Lib.hid (fun FA fc W => cells_any p.R p.C p.K (.slice TA p.T.length tc) (.slice FA p.T.length fc) W (by have := hp.r4; omega) (by have := hp.c4; omega))
  rw [show p.R * p.C = p.n from rfl] at HCe
  by_cases hl : xs.length = p.K
  rotate_left
  · rw [wE_len hl]
    have hne : ((xs.length : Int) != (p.K : Int)) = true := by simpa using (by omega : ¬ (xs.length : Int) = p.K)
    clear hm hT hD hp hl hw
    go_enter Tryd.func39, Tryd.ntmps39
    go_wp2_with (go_at_call 74; refine (HP.out).mono ?_; rintro e w1 ⟨FA, fc, rfl, hF, hb2⟩; have hb3 := hbx.trans (hb2.mono hbx.size); obtain ⟨q1, q2, q3⟩ := bcell hb2; simp only [World.size_alloc] at q1 q2 q3; have hz9 : w.heap.size + 1 < w1.heap.size := (by omega); have hz8 : ¬ w.heap.size + 1 = w1.heap.size := (by omega); have hz7 : w.heap.size + 1 < w.heap.size + 1 + 1 := (by omega))
    go_ret2
    exact ⟨rfl, hb3.alloc hb3.size _⟩
  obtain ⟨v, hv⟩ : ∃ v, v = wE p.K p.n xs := ⟨_, rfl⟩
  rw [← hv] at hw ⊢
  have HV := Lib.hid hv
  have HD := Lib.hid hD
  have HL := Lib.hid hl
  have hne : ((xs.length : Int) != (p.K : Int)) = false := bne_eq_false_iff_eq.2 (by omega)
  have hxl' : xs.length ≤ 4 := by omega
  generalize p.n = n at *
  clear hm hT hD hp hv hk4 hl
  go_enter Tryd.func39, Tryd.ntmps39
  go_upto_region 4 with (first
    | (go_at_call 74; refine (HP.out).mono ?_; rintro e w1 ⟨FA, fc, rfl, hF, hb2⟩; have hb3 := hbx.trans (hb2.mono hbx.size); have hb4 := hb3.trans ((below_new w1 (.cells #[.int .i64 p.R, .int .i64 p.C, .int .i64 p.K, .slice TA p.T.length tc, .slice FA p.T.length fc] 115)).mono hb3.size); have hg3 := gcells6 w1 (.int .i64 p.R) (.int .i64 p.C) (.int .i64 p.K) (.slice TA p.T.length tc) (.slice FA p.T.length fc); have hgs : w1.heap.size < (w1.alloc (.cells #[.int .i64 p.R, .int .i64 p.C, .int .i64 p.K, .slice TA p.T.length tc, .slice FA p.T.length fc] 115)).heap.size := (by simp); have c0 := (hb2.cell (p := ⟨w.heap.size + 1, 0, none⟩) (by simp)).trans (by rw [cell_of_row _ _ _ _ _ _ (heap_at _ _ _ (by simp))]; rfl : ((w.alloc (.cells #[.int .i64 p.R, .int .i64 p.C, .int .i64 p.K, .slice TA p.T.length tc] 24)).alloc (.cells #[.slice D xs.length d] 22)).cell? ⟨w.heap.size + 1, 0, none⟩ = some (.slice D xs.length d)))
    | fail)
  have hc3 := (bcell (below_new w1 (.cells #[.int .i64 p.R, .int .i64 p.C, .int .i64 p.K, .slice TA p.T.length tc, .slice FA p.T.length fc] 115))).1 (w.heap.size + 1) 0 (by have := hb2.size; simp at this; omega)
  rw [c0] at hc3
  clear c0
  generalize hw3 : w1.alloc (.cells #[.int .i64 p.R, .int .i64 p.C, .int .i64 p.K, .slice TA p.T.length tc, .slice FA p.T.length fc] 115) = w3 at *
  clear hw3
  have hs3 : w.heap.size + 1 < w3.heap.size := by have := hb2.size; simp at this; omega
  have HG := Lib.hid (fun (W : World) (hW : Below w3.heap.size w3 W) => show (W.cell? ⟨w1.heap.size, 0, none⟩ = some (.int .i64 p.R) ∧ W.cell? ⟨w1.heap.size, 1, none⟩ = some (.int .i64 p.C) ∧ W.cell? ⟨w1.heap.size, 2, none⟩ = some (.int .i64 p.K) ∧ W.cell? ⟨w1.heap.size, 3, none⟩ = some (.slice TA p.T.length tc) ∧ W.cell? ⟨w1.heap.size, 4, none⟩ = some (.slice FA p.T.length fc)) ∧ W.cell? ⟨w.heap.size + 1, 0, none⟩ = some (.slice D xs.length d) from
    ⟨⟨(hW.cell (p := ⟨w1.heap.size, 0, none⟩) hgs).trans hg3.1, (hW.cell (p := ⟨w1.heap.size, 1, none⟩) hgs).trans hg3.2.1, (hW.cell (p := ⟨w1.heap.size, 2, none⟩) hgs).trans hg3.2.2.1, (hW.cell (p := ⟨w1.heap.size, 3, none⟩) hgs).trans hg3.2.2.2.1, (hW.cell (p := ⟨w1.heap.size, 4, none⟩) hgs).trans hg3.2.2.2.2⟩, (hW.cell (p := ⟨w.heap.size + 1, 0, none⟩) hs3).trans hc3⟩)
  obtain ⟨⟨p0, p1, p2, p3, p4⟩, p5⟩ := HG.out w3 (Below.refl _ _)
  clear hg3 hc3 hF
  go_wp2
  clear p0 p1 p2 p3 p4 p5
  go_loopw [8, 27] (fun s i wr => ∃ (k : Nat) (S : Int), k ≤ xs.length ∧ i = .int .i64 k ∧ s = .int .i64 S ∧ (0 ≤ S ∧ S ≤ k * 16) ∧ Hid (S = sumI (xs.take k) ∧ ∀ x ∈ xs.take k, 0 ≤ x ∧ x ≤ (n : Int)) ∧ Below w3.heap.size w3 wr) (fun _ i _ => xs.length - (intOf i).toNat)
  case atStart => exact ⟨0, 0, Nat.zero_le _, rfl, rfl, ⟨by omega, by omega⟩, Lib.hid ⟨rfl, by simp⟩, Below.refl _ _⟩
  case round =>
    obtain ⟨k, S, hk, rfl, rfl, ⟨hS0, hS1⟩, HS, hbr⟩ := hrel
    have hbwr := hb4.trans (hbr.mono hb4.size)
    obtain ⟨⟨p0, p1, p2, p3, p4⟩, p5⟩ := HG.out wr hbr
    have HF := Lib.hid hbwr
    by_cases hlt : k < xs.length
    · have hx : xs[k]? = some xs[k] := List.getElem?_eq_getElem hlt
      have HMx := Lib.hid (mem_of_get hx)
      obtain ⟨db, dq, rfl, hdb, d1⟩ := (HD.out.up hbwr) k _ hx
      have HTk := Lib.hid (take_snoc hx)
      clear hx
      generalize xs[k] = x at *
      have hki : (k : Int) < (xs.length : Int) := by omega
      have hk0 : (0 : Int) ≤ (k : Int) := by omega
      by_cases hx0 : x < 0
      · have HE := Lib.hid (show v = 1 by rw [HV.out]; exact wE_bad HL.out HMx.out (by omega))
        go_wp2_with (go_at_call 88; refine (HCe.out _ _ _).mono ?_; rintro e w7 ⟨rfl, hb7⟩)
        go_ret2
        exact ⟨by rw [HE.out]; rfl, HF.out⟩
      · by_cases hxg : x > (n : Int)
        · have HE := Lib.hid (show v = 1 by rw [HV.out]; exact wE_bad HL.out HMx.out (by omega))
          have hx0' : 0 ≤ x := by omega
          go_wp2_with (go_at_call 88; refine (HCe.out _ _ _).mono ?_; rintro e w7 ⟨rfl, hb7⟩)
          go_ret2
          exact ⟨by rw [HE.out]; rfl, HF.out.trans (hb7.mono HF.out.size)⟩
        · have HN := Lib.hid (show S + x = sumI (xs.take (k + 1)) ∧ ∀ y ∈ xs.take (k + 1), 0 ≤ y ∧ y ≤ (n : Int) from ⟨by rw [HTk.out, sumI_snoc, HS.out.1], by
            rw [HTk.out]
            intro y hy
            rcases List.mem_append.1 hy with h | h
            · exact HS.out.2 y h
            · rw [List.mem_singleton.1 h]; omega⟩)
          have hx0' : 0 ≤ x := by omega
          have es : IntKind.i64.wrap (S + x) = S + x := IntWalk.i64_in _ (by omega)
          go_wp2_with (go_at_call 88; refine (HCe.out _ _ _).mono ?_; rintro e w7 ⟨rfl, hb7⟩)
          go_roundw
          case rel => exact ⟨k + 1, S + x, by omega, by go_num, rfl, ⟨by omega, by omega⟩, HN, hbr.trans (hb7.mono hbr.size)⟩
          case measure => simp [intOf]; omega
    · have e1 := HS.out
      rw [List.take_of_length_le (by omega)] at e1
      have e2 := HV.out
      rw [wE_in HL.out e1.2, ← e1.1] at e2
      have hSn : ¬ S = (n : Int) := fun h => by rw [if_pos h] at e2; exact hw e2
      rw [if_neg hSn] at e2
      have hnS : (S != (n : Int)) = true := by simpa using hSn
      have HE := Lib.hid e2
      have hki : ¬ (k : Int) < (xs.length : Int) := by omega
      clear e1 e2 hSn
      go_wp2_with (go_at_call 88; refine (HCe.out _ _ _).mono ?_; rintro e w7 ⟨rfl, hb7⟩)
      go_ret2
      exact ⟨by rw [HE.out]; rfl, HF.out.trans (hb7.mono HF.out.size)⟩

set_option maxRecDepth 100000 in
set_option maxHeartbeats 2000000 in
theorem withR_err (R C K : Int) (A X : Option Addr) (c xc : Nat) (T xs : List Int) (w : World) (hA : IntsAt w w.heap.size A T) (hn : T.length < 1000) (h : chkE R C K T ≠ 0) :
    Calls Tryd.prog 40 #[.agg #[.int .i64 R, .int .i64 C, .int .i64 K, .slice A T.length c], .slice X xs.length xc] w (RetNE w 0 (chkE R C K T)) := by
  have hb1 := below_new w (.cells #[.int .i64 R, .int .i64 C, .int .i64 K, .slice A T.length c] 32)
  have hc1 := own_cells4 w (.int .i64 R) (.int .i64 C) (.int .i64 K) (.slice A T.length c) 32
  have hz1 : w.heap.size < (w.alloc (.cells #[.int .i64 R, .int .i64 C, .int .i64 K, .slice A T.length c] 32)).heap.size := by simp
  have HP := Lib.hid (refCheck_any R C K A c T _ (hA.up hb1) hn)
  have hne : (chkE R C K T != 0) = true := by simpa using h
  have heq : (chkE R C K T == 0) = false := by simpa using h
  generalize chkE R C K T = E at *
  clear hA h
  go_enter Tryd.func40, Tryd.ntmps40
  go_upto_region 4 with (go_at_call 22; refine (HP.out).mono ?_; rintro e w1 ⟨rfl, hb2⟩; have hb3 := hb1.trans (hb2.mono hb1.size); have p0 := (hb2.cell (p := ⟨w.heap.size, 0, none⟩) hz1).trans hc1.1; have p1 := (hb2.cell (p := ⟨w.heap.size, 1, none⟩) hz1).trans hc1.2.1)
  clear hc1
  go_quiet (fail)
  generalize IntKind.i64.wrap (R * C) = M
  go_wp2
  go_loopw [6, 9] (fun u i wr => u = .int .i64 E ∧ i = .int .i64 0 ∧ Below w1.heap.size w1 wr) (fun _ _ _ => 0)
  case atStart => exact ⟨rfl, rfl, below_drewN (Below.refl _ _) _⟩
  case round =>
    obtain ⟨rfl, rfl, hbr⟩ := hrel
    have HF := Lib.hid (hb3.trans (hbr.mono hb3.size))
    clear hb1 hb2 hb3 p0 p1
    by_cases hl : (0 : Int) < (xs.length : Int)
    · go_wp2
      go_ret2
      exact ⟨rfl, HF.out⟩
    · go_wp2
      go_ret2
      exact ⟨rfl, HF.out⟩

set_option maxRecDepth 100000 in
set_option maxHeartbeats 2000000 in
theorem refWith_bad (p : Pr) (hp : p.Ok) (A X : Option Addr) (c xc : Nat) (xs : List Int) (w : World) (hT : IntsAt w w.heap.size A (intsN p.T)) (hX : IntsAt w w.heap.size X xs) (hn : xs.length < 1000) (hwE : wE p.K p.n xs ≠ 0) :
    Calls Tryd.prog 40 #[.agg #[.int .i64 p.R, .int .i64 p.C, .int .i64 p.K, .slice A p.T.length c], .slice X xs.length xc] w (RetNE w 0 (wE p.K p.n xs)) := by
  have hb1 := below_new w (.cells #[.int .i64 p.R, .int .i64 p.C, .int .i64 p.K, .slice A p.T.length c] 32)
  have hc1 := own_cells4 w (.int .i64 p.R) (.int .i64 p.C) (.int .i64 p.K) (.slice A p.T.length c) 32
  have hz1 : w.heap.size < (w.alloc (.cells #[.int .i64 p.R, .int .i64 p.C, .int .i64 p.K, .slice A p.T.length c] 32)).heap.size := by simp
  have HCk := Lib.hid (refChk_ok p hp A c _ (hT.up hb1))
  have hn16 := hp.n16
  have hk4 := hp.k4
  have hr4 := hp.r4
  have hc4 := hp.c4
  have hmul : (p.R : Int) * (p.C : Int) = (p.n : Int) := by unfold Pr.n; simp
  have hw : IntKind.i64.wrap ((p.R : Int) * (p.C : Int)) = (p.n : Int) := by rw [hmul]; exact IntWalk.i64_in _ (by omega)
  have HX := Lib.hid hX
  by_cases hl : xs.length = p.K
  rotate_left
  · rw [wE_len hl]
    have hne : ((xs.length : Int) != (p.K : Int)) = true := by simpa using (by omega : ¬ (xs.length : Int) = p.K)
    clear hwE hl hT hX hp
    go_enter Tryd.func40, Tryd.ntmps40
    go_upto_region 4 with (go_at_call 22; refine (HCk.out).mono ?_; rintro e w2 ⟨rfl, hb2⟩; obtain ⟨q1, q2, q3⟩ := bcell hb2; simp only [World.size_alloc] at q1 q2 q3; have hz2 : w.heap.size < w2.heap.size := (by omega); have hbw2 := hb1.trans (hb2.mono hb1.size))
    have p0 := (hb2.cell (p := ⟨w.heap.size, 0, none⟩) hz1).trans hc1.1
    have p1 := (hb2.cell (p := ⟨w.heap.size, 1, none⟩) hz1).trans hc1.2.1
    clear hc1 q1 q2 q3 hne
    go_quiet (fail)
    clear hw hmul p0 p1
    go_wp2
    go_loopw [6, 9] (fun u i wr => u = .int .i64 5 ∧ i = .int .i64 0 ∧ Below w2.heap.size w2 wr) (fun _ _ _ => 0)
    case atStart => exact ⟨rfl, rfl, below_drewN (Below.refl _ _) _⟩
    case round =>
      obtain ⟨rfl, rfl, hbr⟩ := hrel
      have HF := Lib.hid (hbw2.trans (hbr.mono hbw2.size))
      clear hb1 hb2 hbw2
      by_cases hl : (0 : Int) < (xs.length : Int)
      · go_wp2
        go_ret2
        exact ⟨rfl, HF.out⟩
      · go_wp2
        go_ret2
        exact ⟨rfl, HF.out⟩
  obtain ⟨v, hv⟩ : ∃ v, v = wE p.K p.n xs := ⟨_, rfl⟩
  rw [← hv] at hwE ⊢
  have HV := Lib.hid hv
  have HL := Lib.hid hl
  have hne : ((xs.length : Int) != (p.K : Int)) = false := bne_eq_false_iff_eq.2 (by omega)
  have hxl' : xs.length ≤ 4 := by omega
  generalize p.n = n at *
  clear hT hX hp hv hk4 hl
  go_enter Tryd.func40, Tryd.ntmps40
  go_upto_region 4 with (go_at_call 22; refine (HCk.out).mono ?_; rintro e w2 ⟨rfl, hb2⟩; obtain ⟨q1, q2, q3⟩ := bcell hb2; simp only [World.size_alloc] at q1 q2 q3; have hz2 : w.heap.size < w2.heap.size := (by omega); have hbw2 := hb1.trans (hb2.mono hb1.size))
  have p0 := (hb2.cell (p := ⟨w.heap.size, 0, none⟩) hz1).trans hc1.1
  have p1 := (hb2.cell (p := ⟨w.heap.size, 1, none⟩) hz1).trans hc1.2.1
  clear hc1 q1 q2 q3 hne
  go_quiet (fail)
  clear hw hmul p0 p1
  go_wp2
  go_loopw [6, 7, 9] (fun u s i wr => ∃ (k : Nat) (U S : Int), k ≤ xs.length ∧ i = .int .i64 k ∧ s = .int .i64 S ∧ u = .int .i64 U ∧ Hid ((U = 0 ∧ (0 ≤ S ∧ S ≤ k * 16) ∧ S = sumI (xs.take k) ∧ ∀ x ∈ xs.take k, 0 ≤ x ∧ x ≤ (n : Int)) ∨ (U = 1 ∧ v = 1)) ∧ Below w2.heap.size w2 wr) (fun _ _ i _ => xs.length - (intOf i).toNat)
  case atStart => exact ⟨0, 0, 0, Nat.zero_le _, rfl, rfl, rfl, Lib.hid (Or.inl ⟨rfl, ⟨by omega, by omega⟩, rfl, by simp⟩), below_drewN (Below.refl _ _) _⟩
  case round =>
    obtain ⟨k, U, S, hk, rfl, rfl, rfl, HS, hbr⟩ := hrel
    have HF := Lib.hid (hbw2.trans (hbr.mono hbw2.size))
    rcases HS.out with ⟨rfl, ⟨hS0, hS1⟩, hSs, hall⟩ | ⟨rfl, hv1⟩
    · have HAl := Lib.hid hall
      have HSs := Lib.hid hSs
      clear hall hSs HS
      by_cases hlt : k < xs.length
      · have hx : xs[k]? = some xs[k] := List.getElem?_eq_getElem hlt
        have HMx := Lib.hid (mem_of_get hx)
        obtain ⟨db, dq, rfl, hdb, d1⟩ := (HX.out.up HF.out) k _ hx
        have HTk := Lib.hid (take_snoc hx)
        clear hx
        generalize xs[k] = x at *
        have hki : (k : Int) < (xs.length : Int) := by omega
        have hk0 : (0 : Int) ≤ (k : Int) := by omega
        by_cases hin : 0 ≤ x ∧ x ≤ (n : Int)
        · have HI := Lib.hid (fun W => refIn_yes hin W)
          have HN := Lib.hid (show ((0 ≤ S + x ∧ S + x ≤ ((k + 1 : Nat) : Int) * 16) ∧ S + x = sumI (xs.take (k + 1)) ∧ ∀ y ∈ xs.take (k + 1), 0 ≤ y ∧ y ≤ (n : Int)) from ⟨⟨by omega, by omega⟩, by rw [HTk.out, sumI_snoc, HSs.out], by
            rw [HTk.out]
            intro y hy
            rcases List.mem_append.1 hy with h | h
            · exact HAl.out y h
            · rw [List.mem_singleton.1 h]; exact hin⟩)
          have es : IntKind.i64.wrap (S + x) = S + x := IntWalk.i64_in _ (by omega)
          clear hin
          go_wp2_with (go_at_call 69; refine (HI.out _).mono ?_; rintro e w3 ⟨rfl, rfl⟩)
          go_roundw
          case rel => exact ⟨k + 1, 0, _, by omega, by go_num, rfl, rfl, Lib.hid (Or.inl ⟨rfl, HN.out⟩), hbr⟩
          case measure => simp [intOf]; omega
        · have HI := Lib.hid (fun W => refIn_no hin W)
          have hv1 : v = 1 := by rw [HV.out]; exact wE_bad HL.out HMx.out hin
          obtain ⟨S', hS'⟩ : ∃ S', IntKind.i64.wrap (S + x) = S' := ⟨_, rfl⟩
          have HN := Lib.hid hv1
          clear hin hv1
          go_wp2_with (go_at_call 69; refine (HI.out _).mono ?_; rintro e w3 ⟨rfl, rfl⟩)
          go_roundw
          case rel => exact ⟨k + 1, 1, S', by omega, by go_num, by first | rfl | rw [← hS'], rfl, Lib.hid (Or.inr ⟨rfl, HN.out⟩), hbr⟩
          case measure => simp [intOf]; omega
      · have e1 := HAl.out
        rw [List.take_of_length_le (by omega)] at e1
        have e2 := HSs.out
        rw [List.take_of_length_le (by omega)] at e2
        have e3 := HV.out
        rw [wE_in HL.out e1, ← e2] at e3
        have hSn : ¬ S = (n : Int) := fun h => by rw [if_pos h] at e3; exact hwE e3
        rw [if_neg hSn] at e3
        have hnS : (S != (n : Int)) = true := by simpa using hSn
        have HE := Lib.hid e3
        have hki : ¬ (k : Int) < (xs.length : Int) := by omega
        clear e1 e2 e3 hSn
        go_wp2
        go_ret2
        exact ⟨by rw [HE.out]; rfl, HF.out⟩
    · have HE := Lib.hid hv1
      clear hv1 HS
      by_cases hlt : (k : Int) < (xs.length : Int)
      · go_wp2
        go_ret2
        exact ⟨by rw [HE.out]; rfl, HF.out⟩
      · go_wp2
        go_ret2
        exact ⟨by rw [HE.out]; rfl, HF.out⟩
end Go.Proofs.YtbcbaaapogejiaaDoor
