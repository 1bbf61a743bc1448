/-
  Whether a line goes through no card; fillings are found right; the rounds of a filling by its cards and by its blocks.
-/
import Derived.Test.YtlollcabnfncpaaDoorCuts
import Derived.Test.YtlollcabnfncpaaDoorSolA
import Derived.Test.YtlollcabnfncpaaDoorFilB
import Derived.Test.YtlollcabnfncpaaDoorDivE
import Derived.Test.YtlollcabnfncpaaDoorLenA
import Derived.Test.YtlollcabnfncpaaDoorFilA
import Derived.Test.YtlollcabnfncpaaDoorChg
import Derived.Deep.RegionHeld3
import Derived.Deep.DeepCutAuto
namespace Go.Proofs.YtlollcabnfncpaaDoor
open Go.RowKit

/-- A cut goes through a card. -/
def thrB (s : Sh) (ac : Bool) (at' : Int) (x : Cd) : Bool := if ac = true then decide (x.row + 1 ≤ at' ∧ at' ≤ x.row + (hiS s x.t : Nat) - 1) else decide (x.col + 1 ≤ at' ∧ at' ≤ x.col + (wiS s x.t : Nat) - 1)
/-- A cut goes through no card. -/
def thrA (s : Sh) (ac : Bool) (at' : Int) (l : List Cd) : Bool := l.all fun x => !thrB s ac at' x
theorem thrA_snoc (s : Sh) (ac : Bool) (at' : Int) (l : List Cd) (x : Cd) : thrA s ac at' (l ++ [x]) = (thrA s ac at' l && !thrB s ac at' x) := by simp [thrA]

/-- The spans of cards, by rows or by columns, and the cuts between them. -/
def spnB (s : Sh) (ac : Bool) (l : List Cd) : List (Int × Int) := if ac = true then rowsB (l.map (blk s)) else colsB (l.map (blk s))
def cutB (s : Sh) (ac : Bool) (l : List Cd) : List Int := gapN 0 ((if ac = true then s.r else s.c) - 1) (spnB s ac l)
theorem thr_free (s : Sh) (ac : Bool) (at' : Int) (l : List Cd) : thrA s ac at' l = free' (spnB s ac l) at' := by
  unfold thrA free' spnB rowsB colsB thrB
  rcases ac with _ | _
  · simp only [Bool.false_eq_true, if_false, List.map_map, List.all_map]
    congr 1
    funext x
    show (!decide (x.col + 1 ≤ at' ∧ at' ≤ x.col + (wiS s x.t : Nat) - 1)) = !(decide (x.col < at') && decide (at' < x.col + (wiS s x.t : Nat)))
    rw [Bool.eq_iff_iff]
    simp only [Bool.not_eq_true', decide_eq_false_iff_not, Bool.and_eq_false_imp, decide_eq_true_eq]
    omega
  · simp only [if_true, List.map_map, List.all_map]
    congr 1
    funext x
    show (!decide (x.row + 1 ≤ at' ∧ at' ≤ x.row + (hiS s x.t : Nat) - 1)) = !(decide (x.row < at') && decide (at' < x.row + (hiS s x.t : Nat)))
    rw [Bool.eq_iff_iff]
    simp only [Bool.not_eq_true', decide_eq_false_iff_not, Bool.and_eq_false_imp, decide_eq_true_eq]
    omega
theorem cutB_rows {s : Sh} (hs : s.Ok) (l : List Cd) : cutB s true l = cutsR s l := by
  have := hs.r1
  unfold cutB cutsR gapL spnB
  rw [if_pos rfl, if_pos rfl, show ((s.r : Int) - 0 - 1).toNat = s.r - 1 by omega]
theorem cutB_cols {s : Sh} (hs : s.Ok) (l : List Cd) : cutB s false l = cutsC s l := by
  have := hs.c1
  unfold cutB cutsC gapL spnB
  simp only [Bool.false_eq_true, if_false]
  rw [show ((s.c : Int) - 0 - 1).toNat = s.c - 1 by omega]

theorem solid_cuts {s : Sh} (hs : s.Ok) (l : List Cd) : solidP s l = ((cutB s true l).length == 0 && (cutB s false l).length == 0) := by
  rw [cutB_rows hs, cutB_cols hs]; rfl

set_option maxRecDepth 100000 in
set_option maxHeartbeats 4000000 in
theorem goes_true (s : Sh) (A : Option Addr) (c : Nat) (l : List Cd) (at' : Int) (w : World) (hs : s.Ok) (hA : CardsAt w w.heap.size A l) (hf : ∀ x ∈ l, fitP s x) (hn : l.length < 1000000) :
    Calls Tryd.prog 54 #[.agg #[.int .i64 s.r, .int .i64 s.c, .int .i64 s.l, .int .i64 s.w], .slice A l.length c, .bool true, .int .i64 at'] w fun e w' => e = .returned (.bool (thrA s true at' l)) ∧ Below w.heap.size w w' := by
  obtain ⟨W0, hW0⟩ : ∃ W0, W0 = w.alloc (.cells #[.int .i64 s.r, .int .i64 s.c, .int .i64 s.l, .int .i64 s.w] 23) := ⟨_, rfl⟩
  have HB := Lib.hid (show Below w.heap.size w W0 from hW0 ▸ below_new w _)
  have hz0 : w.heap.size + 1 = W0.heap.size := by rw [hW0]; simp
  have HA := Lib.hid (hA.below HB.out (Nat.le_refl _))
  have HK := Lib.hid (fun (W : World) (h : Below W0.heap.size W0 W) => show W.cell? ⟨w.heap.size, 0, none⟩ = some (.int .i64 s.r) ∧ W.cell? ⟨w.heap.size, 1, none⟩ = some (.int .i64 s.c) ∧ W.cell? ⟨w.heap.size, 2, none⟩ = some (.int .i64 s.l) ∧ W.cell? ⟨w.heap.size, 3, none⟩ = some (.int .i64 s.w) from
    ⟨(h.cell (p := ⟨w.heap.size, 0, none⟩) (by simp; omega)).trans (by rw [hW0]; simp [go_sem]), (h.cell (p := ⟨w.heap.size, 1, none⟩) (by simp; omega)).trans (by rw [hW0]; simp [go_sem]), (h.cell (p := ⟨w.heap.size, 2, none⟩) (by simp; omega)).trans (by rw [hW0]; simp [go_sem]), (h.cell (p := ⟨w.heap.size, 3, none⟩) (by simp; omega)).trans (by rw [hW0]; simp [go_sem])⟩)
  have HF := Lib.hid hf
  generalize hV : thrA s true at' l = V
  have HV := Lib.hid hV
  have hr6 := hs.r6
  have hc6 := hs.c6
  clear hA hf hV
  go_enter Tryd.func54, Tryd.ntmps54
  go_wp2
  rw [← hW0]
  have HZ := Lib.hid hz0
  clear hW0 hz0
  go_loopw [15] (fun i wr => ∃ k : Nat, k ≤ l.length ∧ i = .int .i64 k ∧ Hid (thrA s true at' (l.take k) = true) ∧ Below W0.heap.size W0 wr) (fun i _ => l.length - (intOf i).toNat)
  case atStart => exact ⟨0, Nat.zero_le _, rfl, Lib.hid (by simp [thrA]), Below.refl _ _⟩
  case round =>
    obtain ⟨k, hk, rfl, HC, hbr⟩ := hrel
    by_cases hlt : k < l.length
    · have hx : l[k]? = some l[k] := List.getElem?_eq_getElem hlt
      generalize l[k] = x at hx
      have hzr := hbr.size
      have hzw := HZ.out
      have hfx := HF.out x (mem_of_get hx)
      obtain ⟨f1, f2, f3, f4⟩ := hfx
      obtain ⟨b, off, rfl, hb, d0, d1, d2⟩ := HA.out k x hx
      replace d0 := (hbr.cell (p := ⟨b, _, none⟩) (by simp; omega)).trans d0
      replace d1 := (hbr.cell (p := ⟨b, _, none⟩) (by simp; omega)).trans d1
      replace d2 := (hbr.cell (p := ⟨b, _, none⟩) (by simp; omega)).trans d2
      have hwz : w.heap.size < wr.heap.size := by omega
      have hts := take_snoc hx
      have HT := Lib.hid (show thrA s true at' (l.take (k + 1)) = (thrA s true at' (l.take k) && !thrB s true at' x) by rw [hts, thrA_snoc])
      have HX := Lib.hid (show thrB s true at' x = true → V = false from fun h => by
        rw [← HV.out]
        refine List.all_eq_false.2 ⟨x, mem_of_get hx, ?_⟩
        rw [h]; decide)
      have HS := Lib.hid (fun W => lsize_any s x.t W)
      have h3 := hiS_le hs x.t
      have h4 := wiS_le hs x.t
      have hv : thrB s true at' x = decide (x.row + 1 ≤ at' ∧ at' ≤ x.row + (hiS s x.t : Nat) - 1) := rfl
      generalize thrB s true at' x = v at hv HT HX
      generalize hiS s x.t = ha at *
      generalize wiS s x.t = wa at *
      have HR := Lib.hid (HB.out.trans (hbr.mono (by omega)))
      obtain ⟨r0, r1, r2, r3⟩ := HK.out _ hbr
      have hki : (k : Int) < (l.length : Int) := by omega
      have hk0 : (0 : Int) ≤ (k : Int) := by omega
      have hwf : IntKind.i64.wrap (x.row + (ha : Int)) = x.row + (ha : Int) := IntWalk.i64_in _ (by omega)
      clear hx hzw hts
      by_cases hc1 : x.row < at'
      · by_cases hc2 : at' < x.row + (ha : Int)
        · have hvt : v = true := by rw [hv]; exact decide_eq_true (by omega)
          have HVT := Lib.hid (HX.out hvt)
          clear hv hvt HT HX
          go_wp2_with (go_at_call 95; refine (HS.out _).mono ?_; rintro e w1 ⟨rfl, hb1⟩; have q0 : w1.cell? ⟨wr.heap.size, 0, none⟩ = some (.int .i64 x.row) := (hb1.cell (p := ⟨wr.heap.size, 0, none⟩) (by simp)).trans (by simp [go_sem]); have q1 : w1.cell? ⟨wr.heap.size, 1, none⟩ = some (.int .i64 x.col) := (hb1.cell (p := ⟨wr.heap.size, 1, none⟩) (by simp)).trans (by simp [go_sem]))
          go_ret
          exact ⟨ret_bool HVT.out.symm, HR.out.trans (Below.mono (below_via hb1) (by omega))⟩
        · have hvf : v = false := by rw [hv]; exact decide_eq_false (by omega)
          have HC2 := Lib.hid (show thrA s true at' (l.take (k + 1)) = true by rw [HT.out, HC.out, hvf]; rfl)
          clear hv hvf HT HX
          go_wp2_with (go_at_call 95; refine (HS.out _).mono ?_; rintro e w1 ⟨rfl, hb1⟩; have q0 : w1.cell? ⟨wr.heap.size, 0, none⟩ = some (.int .i64 x.row) := (hb1.cell (p := ⟨wr.heap.size, 0, none⟩) (by simp)).trans (by simp [go_sem]); have q1 : w1.cell? ⟨wr.heap.size, 1, none⟩ = some (.int .i64 x.col) := (hb1.cell (p := ⟨wr.heap.size, 1, none⟩) (by simp)).trans (by simp [go_sem]))
          go_roundw
          case rel => exact ⟨k + 1, by omega, by go_num, HC2, hbr.trans (Below.mono (below_via hb1) (by omega))⟩
          case measure => simp [intOf]; omega
      · have hvf : v = false := by rw [hv]; exact decide_eq_false (by omega)
        have HC2 := Lib.hid (show thrA s true at' (l.take (k + 1)) = true by rw [HT.out, HC.out, hvf]; rfl)
        clear hv hvf HT HX
        go_wp2_with (go_at_call 95; refine (HS.out _).mono ?_; rintro e w1 ⟨rfl, hb1⟩; have q0 : w1.cell? ⟨wr.heap.size, 0, none⟩ = some (.int .i64 x.row) := (hb1.cell (p := ⟨wr.heap.size, 0, none⟩) (by simp)).trans (by simp [go_sem]); have q1 : w1.cell? ⟨wr.heap.size, 1, none⟩ = some (.int .i64 x.col) := (hb1.cell (p := ⟨wr.heap.size, 1, none⟩) (by simp)).trans (by simp [go_sem]))
        go_roundw
        case rel => exact ⟨k + 1, by omega, by go_num, HC2, hbr.trans (Below.mono (below_via hb1) (by omega))⟩
        case measure => simp [intOf]; omega
    · have e : l.take k = l := List.take_of_length_le (by omega)
      have HE := Lib.hid (show true = V by have h := HC.out; rw [e] at h; rw [← HV.out]; exact h.symm)
      have HR := Lib.hid (HB.out.trans (hbr.mono (by have := HZ.out; omega)))
      clear e
      go_wp2
      go_ret
      exact ⟨ret_bool HE.out, HR.out⟩

set_option maxRecDepth 100000 in
set_option maxHeartbeats 4000000 in
theorem goes_false (s : Sh) (A : Option Addr) (c : Nat) (l : List Cd) (at' : Int) (w : World) (hs : s.Ok) (hA : CardsAt w w.heap.size A l) (hf : ∀ x ∈ l, fitP s x) (hn : l.length < 1000000) :
    Calls Tryd.prog 54 #[.agg #[.int .i64 s.r, .int .i64 s.c, .int .i64 s.l, .int .i64 s.w], .slice A l.length c, .bool false, .int .i64 at'] w fun e w' => e = .returned (.bool (thrA s false at' l)) ∧ Below w.heap.size w w' := by
  obtain ⟨W0, hW0⟩ : ∃ W0, W0 = w.alloc (.cells #[.int .i64 s.r, .int .i64 s.c, .int .i64 s.l, .int .i64 s.w] 23) := ⟨_, rfl⟩
  have HB := Lib.hid (show Below w.heap.size w W0 from hW0 ▸ below_new w _)
  have hz0 : w.heap.size + 1 = W0.heap.size := by rw [hW0]; simp
  have HA := Lib.hid (hA.below HB.out (Nat.le_refl _))
  have HK := Lib.hid (fun (W : World) (h : Below W0.heap.size W0 W) => show W.cell? ⟨w.heap.size, 0, none⟩ = some (.int .i64 s.r) ∧ W.cell? ⟨w.heap.size, 1, none⟩ = some (.int .i64 s.c) ∧ W.cell? ⟨w.heap.size, 2, none⟩ = some (.int .i64 s.l) ∧ W.cell? ⟨w.heap.size, 3, none⟩ = some (.int .i64 s.w) from
    ⟨(h.cell (p := ⟨w.heap.size, 0, none⟩) (by simp; omega)).trans (by rw [hW0]; simp [go_sem]), (h.cell (p := ⟨w.heap.size, 1, none⟩) (by simp; omega)).trans (by rw [hW0]; simp [go_sem]), (h.cell (p := ⟨w.heap.size, 2, none⟩) (by simp; omega)).trans (by rw [hW0]; simp [go_sem]), (h.cell (p := ⟨w.heap.size, 3, none⟩) (by simp; omega)).trans (by rw [hW0]; simp [go_sem])⟩)
  have HF := Lib.hid hf
  generalize hV : thrA s false at' l = V
  have HV := Lib.hid hV
  have hr6 := hs.r6
  have hc6 := hs.c6
  clear hA hf hV
  go_enter Tryd.func54, Tryd.ntmps54
  go_wp2
  rw [← hW0]
  have HZ := Lib.hid hz0
  clear hW0 hz0
  go_loopw [15] (fun i wr => ∃ k : Nat, k ≤ l.length ∧ i = .int .i64 k ∧ Hid (thrA s false at' (l.take k) = true) ∧ Below W0.heap.size W0 wr) (fun i _ => l.length - (intOf i).toNat)
  case atStart => exact ⟨0, Nat.zero_le _, rfl, Lib.hid (by simp [thrA]), Below.refl _ _⟩
  case round =>
    obtain ⟨k, hk, rfl, HC, hbr⟩ := hrel
    by_cases hlt : k < l.length
    · have hx : l[k]? = some l[k] := List.getElem?_eq_getElem hlt
      generalize l[k] = x at hx
      have hzr := hbr.size
      have hzw := HZ.out
      have hfx := HF.out x (mem_of_get hx)
      obtain ⟨f1, f2, f3, f4⟩ := hfx
      obtain ⟨b, off, rfl, hb, d0, d1, d2⟩ := HA.out k x hx
      replace d0 := (hbr.cell (p := ⟨b, _, none⟩) (by simp; omega)).trans d0
      replace d1 := (hbr.cell (p := ⟨b, _, none⟩) (by simp; omega)).trans d1
      replace d2 := (hbr.cell (p := ⟨b, _, none⟩) (by simp; omega)).trans d2
      have hwz : w.heap.size < wr.heap.size := by omega
      have hts := take_snoc hx
      have HT := Lib.hid (show thrA s false at' (l.take (k + 1)) = (thrA s false at' (l.take k) && !thrB s false at' x) by rw [hts, thrA_snoc])
      have HX := Lib.hid (show thrB s false at' x = true → V = false from fun h => by
        rw [← HV.out]
        refine List.all_eq_false.2 ⟨x, mem_of_get hx, ?_⟩
        rw [h]; decide)
      have HS := Lib.hid (fun W => lsize_any s x.t W)
      have h3 := hiS_le hs x.t
      have h4 := wiS_le hs x.t
      have hv : thrB s false at' x = decide (x.col + 1 ≤ at' ∧ at' ≤ x.col + (wiS s x.t : Nat) - 1) := rfl
      generalize thrB s false at' x = v at hv HT HX
      generalize hiS s x.t = ha at *
      generalize wiS s x.t = wa at *
      have HR := Lib.hid (HB.out.trans (hbr.mono (by omega)))
      obtain ⟨r0, r1, r2, r3⟩ := HK.out _ hbr
      have hki : (k : Int) < (l.length : Int) := by omega
      have hk0 : (0 : Int) ≤ (k : Int) := by omega
      have hwf : IntKind.i64.wrap (x.col + (wa : Int)) = x.col + (wa : Int) := IntWalk.i64_in _ (by omega)
      clear hx hzw hts
      by_cases hc1 : x.col < at'
      · by_cases hc2 : at' < x.col + (wa : Int)
        · have hvt : v = true := by rw [hv]; exact decide_eq_true (by omega)
          have HVT := Lib.hid (HX.out hvt)
          clear hv hvt HT HX
          go_wp2_with (go_at_call 95; refine (HS.out _).mono ?_; rintro e w1 ⟨rfl, hb1⟩; have q0 : w1.cell? ⟨wr.heap.size, 0, none⟩ = some (.int .i64 x.row) := (hb1.cell (p := ⟨wr.heap.size, 0, none⟩) (by simp)).trans (by simp [go_sem]); have q1 : w1.cell? ⟨wr.heap.size, 1, none⟩ = some (.int .i64 x.col) := (hb1.cell (p := ⟨wr.heap.size, 1, none⟩) (by simp)).trans (by simp [go_sem]))
          go_ret
          exact ⟨ret_bool HVT.out.symm, HR.out.trans (Below.mono (below_via hb1) (by omega))⟩
        · have hvf : v = false := by rw [hv]; exact decide_eq_false (by omega)
          have HC2 := Lib.hid (show thrA s false at' (l.take (k + 1)) = true by rw [HT.out, HC.out, hvf]; rfl)
          clear hv hvf HT HX
          go_wp2_with (go_at_call 95; refine (HS.out _).mono ?_; rintro e w1 ⟨rfl, hb1⟩; have q0 : w1.cell? ⟨wr.heap.size, 0, none⟩ = some (.int .i64 x.row) := (hb1.cell (p := ⟨wr.heap.size, 0, none⟩) (by simp)).trans (by simp [go_sem]); have q1 : w1.cell? ⟨wr.heap.size, 1, none⟩ = some (.int .i64 x.col) := (hb1.cell (p := ⟨wr.heap.size, 1, none⟩) (by simp)).trans (by simp [go_sem]))
          go_roundw
          case rel => exact ⟨k + 1, by omega, by go_num, HC2, hbr.trans (Below.mono (below_via hb1) (by omega))⟩
          case measure => simp [intOf]; omega
      · have hvf : v = false := by rw [hv]; exact decide_eq_false (by omega)
        have HC2 := Lib.hid (show thrA s false at' (l.take (k + 1)) = true by rw [HT.out, HC.out, hvf]; rfl)
        clear hv hvf HT HX
        go_wp2_with (go_at_call 95; refine (HS.out _).mono ?_; rintro e w1 ⟨rfl, hb1⟩; have q0 : w1.cell? ⟨wr.heap.size, 0, none⟩ = some (.int .i64 x.row) := (hb1.cell (p := ⟨wr.heap.size, 0, none⟩) (by simp)).trans (by simp [go_sem]); have q1 : w1.cell? ⟨wr.heap.size, 1, none⟩ = some (.int .i64 x.col) := (hb1.cell (p := ⟨wr.heap.size, 1, none⟩) (by simp)).trans (by simp [go_sem]))
        go_roundw
        case rel => exact ⟨k + 1, by omega, by go_num, HC2, hbr.trans (Below.mono (below_via hb1) (by omega))⟩
        case measure => simp [intOf]; omega
    · have e : l.take k = l := List.take_of_length_le (by omega)
      have HE := Lib.hid (show true = V by have h := HC.out; rw [e] at h; rw [← HV.out]; exact h.symm)
      have HR := Lib.hid (HB.out.trans (hbr.mono (by have := HZ.out; omega)))
      clear e
      go_wp2
      go_ret
      exact ⟨ret_bool HE.out, HR.out⟩

theorem goes_any (s : Sh) (A : Option Addr) (c : Nat) (l : List Cd) (ac : Bool) (at' : Int) (w : World) (hs : s.Ok) (hA : CardsAt w w.heap.size A l) (hf : ∀ x ∈ l, fitP s x) (hn : l.length < 1000000) :
    Calls Tryd.prog 54 #[.agg #[.int .i64 s.r, .int .i64 s.c, .int .i64 s.l, .int .i64 s.w], .slice A l.length c, .bool ac, .int .i64 at'] w fun e w' => e = .returned (.bool (thrA s ac at' l)) ∧ Below w.heap.size w w' := by
  rcases ac with _ | _
  · exact goes_false s A c l at' w hs hA hf hn
  · exact goes_true s A c l at' w hs hA hf hn

theorem sqI_nxt {s : Sh} {cov : Nat} {x : Cd} (h : x ∈ nxt s cov) : sqI s x = (ctzU 64 cov : Nat) := by
  obtain ⟨e1, e2⟩ := mem_tryL (mem_nxt h).1
  unfold sqI
  rw [e1, e2]
  have h1 := Nat.div_add_mod (ctzU 64 cov) s.c
  rw [Nat.mul_comm] at h1
  have h2 : ((ctzU 64 cov / s.c * s.c + ctzU 64 cov % s.c : Nat) : Int) = (ctzU 64 cov : Nat) := by rw [h1]
  rw [Int.natCast_add, Int.natCast_mul] at h2
  exact h2
theorem turned_nxt {s : Sh} {cov : Nat} {x : Cd} (h : x ∈ nxt s cov) : ¬ (x.t = true ∧ s.l = s.w) := by
  rintro ⟨h1, h2⟩
  have h3 := (mem_nxt h).1
  unfold tryL at h3
  dsimp only at h3
  rw [if_pos h2] at h3
  rw [List.mem_singleton.1 h3] at h1
  cases h1
theorem fils_ver {s : Sh} (hs : s.Ok) : ∀ (n cov : Nat) (pre l : List Cd) (last : Int), (∀ i : Nat, (i : Int) ≤ last → cov.testBit i = true) → l ∈ fils s n cov pre → ∃ m, l = pre ++ m ∧ verM s m cov last = 0
  | 0, _, _, _, _, _, h => by simp [fils] at h
  | n + 1, cov, pre, l, last, hb, h => by
    rw [fils] at h
    split at h
    · rename_i e
      simp at h; subst h
      exact ⟨[], by simp, by rw [verM, if_pos e]⟩
    · obtain ⟨x, hx, hl⟩ := List.mem_flatMap.1 h
      have hq := sqI_nxt hx
      have hbit := nxt_bit hs hx
      obtain ⟨_, hf, h0⟩ := mem_nxt hx
      have hc : cov.testBit (ctzU 64 cov) = false := by
        have := congrArg (fun n => Nat.testBit n (ctzU 64 cov)) h0
        simp only [Nat.testBit_and, Nat.zero_testBit, hbit, Bool.and_true] at this
        exact this
      obtain ⟨m, e, hm⟩ := fils_ver hs n (cov ||| und s x) (pre ++ [x]) l (sqI s x) (fun i hi => by
        rw [Nat.testBit_or]
        by_cases hi2 : i = ctzU 64 cov
        · rw [hi2, hbit, Bool.or_true]
        · rw [ctzU_below 64 cov i (by omega), Bool.true_or]) hl
      refine ⟨x :: m, by rw [e]; simp, ?_⟩
      rw [verM_cons_ok (turned_nxt hx) hf ?_ h0]
      · exact hm
      · intro hle
        have := hb (ctzU 64 cov) (by omega)
        rw [hc] at this; cases this
theorem filC_ver {s : Sh} (hs : s.Ok) {l : List Cd} (h : l ∈ filC s 0 []) : verS s l = 0 := by
  obtain ⟨m, e, hm⟩ := fils_ver hs 37 0 [] l (-1) (fun i hi => by omega) h
  rw [List.nil_append] at e
  subst e
  exact hm
theorem strF_ok {s : Sh} (hs : s.Ok) {l : List Cd} (h : verS s l = 0) : strF s.r s.c s.l s.w l = (divS s l).st ∧ verF s.r s.c s.l s.w l = 0 := by
  have h2 : verF s.r s.c s.l s.w l = 0 := by
    unfold verF
    rw [if_pos (chkS_ok hs)]
    exact h
  refine ⟨?_, h2⟩
  unfold strF
  rw [if_pos h2]
  rfl

/-- A line ahead of a row, or of a column, goes through no card. -/
def lineB (s : Sh) (l : List Cd) (at' : Nat) : Bool := (decide (at' < s.r) && thrA s true at' l) || (decide (at' < s.c) && thrA s false at' l)
theorem gap_nil (n : Nat) (sp : List (Int × Int)) : (gapN 0 n sp).length = 0 ↔ ∀ k : Nat, k < n → free' sp (1 + (k : Int)) = false := by
  induction n with
  | zero => simp [gapN]
  | succ n ih =>
    have e := gapN_free 0 n sp
    rw [show (0 : Int) + 1 + (n : Nat) = 1 + (n : Int) by omega] at e
    rw [e, List.length_append]
    constructor
    · intro h k hk
      by_cases hkn : k = n
      · subst hkn
        rcases hf : free' sp (1 + (k : Int)) with _ | _
        · rfl
        · rw [if_pos hf] at h; simp at h
      · exact ih.1 (by omega) k (by omega)
    · intro h
      rw [ih.2 fun k hk => h k (by omega), if_neg (by rw [h n (by omega)]; decide)]
      rfl
theorem solid_line {s : Sh} (hs : s.Ok) (l : List Cd) : solidP s l = true ↔ ∀ k : Nat, k < 5 → lineB s l (k + 1) = false := by
  have hr := hs.r6
  have hc := hs.c6
  have e : ∀ k : Nat, ((k + 1 : Nat) : Int) = 1 + (k : Int) := fun k => by omega
  rw [solid_cuts hs]
  unfold cutB
  simp only [Bool.and_eq_true, beq_iff_eq, gap_nil, if_true, Bool.false_eq_true, if_false]
  constructor
  · rintro ⟨h1, h2⟩ k hk
    unfold lineB
    rw [thr_free, thr_free, e, Bool.or_eq_false_iff]
    constructor
    · by_cases h : k + 1 < s.r
      · rw [h1 k (by omega), Bool.and_false]
      · rw [decide_eq_false h, Bool.false_and]
    · by_cases h : k + 1 < s.c
      · rw [h2 k (by omega), Bool.and_false]
      · rw [decide_eq_false h, Bool.false_and]
  · intro h
    constructor
    · intro k hk
      have := h k (by omega)
      unfold lineB at this
      rw [thr_free, thr_free, e, Bool.or_eq_false_iff, decide_eq_true (by omega), Bool.true_and] at this
      exact this.1
    · intro k hk
      have := h k (by omega)
      unfold lineB at this
      rw [thr_free, thr_free, e, Bool.or_eq_false_iff, decide_eq_true (p := k + 1 < s.c) (by omega), Bool.true_and] at this
      exact this.2
theorem hold_all {s : Sh} {l : List Cd} (hf : ∀ x ∈ l, fitP s x) : (l.map (blk s)).filter (holdsB (areaB s)) = l.map (blk s) := by
  rw [List.filter_eq_self]
  intro x hx
  obtain ⟨y, hy, rfl⟩ := List.mem_map.1 hx
  obtain ⟨h1, h2, h3, h4⟩ := hf y hy
  unfold holdsB areaB blk
  exact decide_eq_true (by dsimp only; omega)
/-- A filling without a cut is straight just if it is one card. -/
theorem divS_solid {s : Sh} (hs : s.Ok) {l : List Cd} (hf : ∀ x ∈ l, fitP s x) (h : solidP s l = true) : (divS s l).st = decide (l.length = 1) := by
  unfold divS
  rw [divC_eq _ (areaB_ok hs), hold_all hf, List.length_map]
  by_cases h1 : l.length = 1
  · rw [if_pos h1, decide_eq_true h1]
  · rw [if_neg h1, decide_eq_false h1]
    have : halvesB (areaB s) (l.map (blk s)) = [] := by
      unfold solidP at h
      simp only [Bool.and_eq_true, beq_iff_eq] at h
      have h1 := List.eq_nil_of_length_eq_zero h.1
      have h2 := List.eq_nil_of_length_eq_zero h.2
      unfold halvesB areaB
      dsimp only
      rw [h1, h2]; rfl
    rw [this]; rfl

/-- A card lies ahead of a row, or of a column. -/
def befB (ac : Bool) (at' : Int) (x : Cd) : Bool := if ac = true then decide (x.row < at') else decide (x.col < at')
def ahead (ac : Bool) (at' : Int) (l : List Cd) : List Cd := l.filter (befB ac at')
def behind (ac : Bool) (at' : Int) (l : List Cd) : List Cd := l.filter fun x => !befB ac at' x
/-- One cut is tried. -/
def stepD (s : Sh) (f : List Cd → Int) (l : List Cd) (best : Int) (ac : Bool) (at' : Int) : Int :=
  if ahead ac at' l = [] ∨ behind ac at' l = [] ∨ thrA s ac at' l = false then best
  else if 0 ≤ f (ahead ac at' l) ∧ 0 ≤ f (behind ac at' l) ∧ (best < 0 ∨ 1 + max (f (ahead ac at' l)) (f (behind ac at' l)) < best) then 1 + max (f (ahead ac at' l)) (f (behind ac at' l)) else best
/-- The first cuts of one kind are tried. -/
def manyD (s : Sh) (f : List Cd → Int) (l : List Cd) (best : Int) (ac : Bool) : Nat → Int
  | 0 => best
  | k + 1 => stepD s f l (manyD s f l best ac k) ac (1 + (k : Int))
def depS (s : Sh) : Nat → List Cd → Int
  | 0, _ => 0
  | n + 1, l => if l.length < 2 then 0 else manyD s (depS s n) l (manyD s (depS s n) l (-1) false 5) true 5

theorem cut_len (ac : Bool) (at' : Int) : ∀ l : List Cd, (ahead ac at' l).length + (behind ac at' l).length = l.length
  | [] => rfl
  | x :: l => by
    have ih := cut_len ac at' l
    unfold ahead behind at ih ⊢
    rw [List.filter_cons, List.filter_cons, List.length_cons]
    rcases befB ac at' x with _ | _
    · simp only [Bool.false_eq_true, if_false, Bool.not_false, if_true, List.length_cons]; omega
    · simp only [Bool.not_true, Bool.false_eq_true, if_false, if_true, List.length_cons]; omega
theorem len_pos {α : Type} {l : List α} (h : ¬ l = []) : 1 ≤ l.length := by
  rcases l with _ | ⟨x, l⟩
  · exact absurd rfl h
  · rw [List.length_cons]; omega

/-- The smallest one of some numbers, and -1 if there is none. -/
def MinOf (v : Int) (P : Int → Prop) : Prop := (v = -1 ∧ ∀ k, ¬ P k) ∨ (0 ≤ v ∧ P v ∧ ∀ k, P k → v ≤ k)
theorem MinOf.same {v u : Int} {P : Int → Prop} (h : MinOf v P) (k : MinOf u P) : v = u := by
  rcases h with ⟨rfl, h⟩ | ⟨h1, h2, h3⟩
  · rcases k with ⟨rfl, _⟩ | ⟨_, k2, _⟩
    · rfl
    · exact absurd k2 (h u)
  · rcases k with ⟨_, k⟩ | ⟨_, k2, k3⟩
    · exact absurd h2 (k v)
    · have := h3 u k2; have := k3 v h2; omega
theorem MinOf.congr {v : Int} {P Q : Int → Prop} (h : MinOf v P) (hq : ∀ k, P k ↔ Q k) : MinOf v Q := by
  have : P = Q := funext fun k => propext (hq k)
  rw [← this]; exact h
/-- What one cut leads to. -/
def CutP (s : Sh) (f : List Cd → Int) (l : List Cd) (ac : Bool) (at' : Int) (k : Int) : Prop :=
  ¬ ahead ac at' l = [] ∧ ¬ behind ac at' l = [] ∧ thrA s ac at' l = true ∧ 0 ≤ f (ahead ac at' l) ∧ 0 ≤ f (behind ac at' l) ∧ k = 1 + max (f (ahead ac at' l)) (f (behind ac at' l))
theorem step_min {s : Sh} {f : List Cd → Int} {l : List Cd} {best : Int} {P : Int → Prop} (h : MinOf best P) (ac : Bool) (at' : Int) : MinOf (stepD s f l best ac at') (fun k => P k ∨ CutP s f l ac at' k) := by
  unfold stepD
  by_cases h1 : ahead ac at' l = [] ∨ behind ac at' l = [] ∨ thrA s ac at' l = false
  · rw [if_pos h1]
    refine h.congr fun k => ⟨.inl, fun e => e.elim id fun ⟨a, b, c, _⟩ => ?_⟩
    rcases h1 with e | e | e
    · exact absurd e a
    · exact absurd e b
    · rw [e] at c; cases c
  · rw [if_neg h1]
    have h2 : ¬ ahead ac at' l = [] ∧ ¬ behind ac at' l = [] ∧ thrA s ac at' l = true := ⟨fun e => h1 (.inl e), fun e => h1 (.inr (.inl e)), by
      rcases ht : thrA s ac at' l with _ | _
      · exact absurd (.inr (.inr ht)) h1
      · rfl⟩
    generalize hx : f (ahead ac at' l) = x
    generalize hy : f (behind ac at' l) = y
    by_cases h3 : 0 ≤ x ∧ 0 ≤ y
    · have hc : CutP s f l ac at' (1 + max x y) := ⟨h2.1, h2.2.1, h2.2.2, by rw [hx]; exact h3.1, by rw [hy]; exact h3.2, by rw [hx, hy]⟩
      have hu : ∀ k, CutP s f l ac at' k → k = 1 + max x y := fun k hk => by
        have := hk.2.2.2.2.2
        rw [hx, hy] at this
        exact this
      by_cases h4 : best < 0 ∨ 1 + max x y < best
      · rw [if_pos ⟨h3.1, h3.2, h4⟩]
        refine .inr ⟨by omega, .inr hc, fun k hk => ?_⟩
        rcases hk with hk | hk
        · rcases h with ⟨_, h⟩ | ⟨h5, _, h6⟩
          · exact absurd hk (h k)
          · have := h6 k hk; omega
        · rw [hu k hk]; omega
      · rw [if_neg fun e => h4 e.2.2]
        rcases h with ⟨h, _⟩ | ⟨h5, h7, h6⟩
        · exact absurd (Or.inl (by omega)) h4
        · refine .inr ⟨h5, .inl h7, fun k hk => ?_⟩
          rcases hk with hk | hk
          · exact h6 k hk
          · rw [hu k hk]; omega
    · rw [if_neg fun e => h3 ⟨e.1, e.2.1⟩]
      refine h.congr fun k => ⟨.inl, fun e => e.elim id fun hk => ?_⟩
      have h5 := hk.2.2.2.1
      have h6 := hk.2.2.2.2.1
      rw [hx] at h5
      rw [hy] at h6
      exact absurd ⟨h5, h6⟩ h3
theorem many_min {s : Sh} {f : List Cd → Int} {l : List Cd} {best : Int} {P : Int → Prop} (h : MinOf best P) (ac : Bool) : ∀ n : Nat, MinOf (manyD s f l best ac n) (fun k => P k ∨ ∃ j : Nat, j < n ∧ CutP s f l ac (1 + (j : Int)) k)
  | 0 => h.congr fun k => ⟨.inl, fun e => e.elim id fun ⟨j, hj, _⟩ => absurd hj (Nat.not_lt_zero j)⟩
  | n + 1 => by
    refine (step_min (many_min h ac n) ac (1 + (n : Int))).congr fun k => ⟨?_, ?_⟩
    · rintro ((e | ⟨j, hj, e⟩) | e)
      · exact .inl e
      · exact .inr ⟨j, by omega, e⟩
      · exact .inr ⟨n, by omega, e⟩
    · rintro (e | ⟨j, hj, e⟩)
      · exact .inl (.inl e)
      · by_cases hjn : j = n
        · subst hjn; exact .inr e
        · exact .inl (.inr ⟨j, by omega, e⟩)
theorem dep_min (s : Sh) (n : Nat) {l : List Cd} (h : ¬ l.length < 2) : MinOf (depS s (n + 1) l) (fun k => ∃ ac, ∃ j : Nat, j < 5 ∧ CutP s (depS s n) l ac (1 + (j : Int)) k) := by
  rw [depS, if_neg h]
  have h0 : MinOf (-1) (fun _ : Int => False) := .inl ⟨rfl, fun _ h => h⟩
  refine (many_min (many_min h0 false 5) true 5).congr fun k => ⟨?_, ?_⟩
  · rintro ((e | ⟨j, hj, e⟩) | ⟨j, hj, e⟩)
    · exact e.elim
    · exact ⟨false, j, hj, e⟩
    · exact ⟨true, j, hj, e⟩
  · rintro ⟨ac, j, hj, e⟩
    cases ac
    · exact .inl (.inr ⟨j, hj, e⟩)
    · exact .inr ⟨j, hj, e⟩

/-- So many rounds leave at most so many cards. -/
theorem dep_len (s : Sh) : ∀ (n : Nat) (l : List Cd), l.length ≤ n → 0 ≤ depS s n l → l.length ≤ 2 ^ (depS s n l).toNat
  | 0, l, h, _ => by
    have : l.length = 0 := by omega
    rw [this]; exact Nat.zero_le _
  | n + 1, l, h, hv => by
    by_cases h2 : l.length < 2
    · rw [depS, if_pos h2]
      show l.length ≤ 1
      omega
    · rcases dep_min s n h2 with ⟨e, _⟩ | ⟨_, ⟨ac, j, hj, a, b, _, c, d, e⟩, _⟩
      · omega
      · have hl := cut_len ac (1 + (j : Int)) l
        have ha := len_pos a
        have hb := len_pos b
        have k1 := dep_len s n _ (by omega) c
        have k2 := dep_len s n _ (by omega) d
        rw [e]
        generalize depS s n (ahead ac (1 + (j : Int)) l) = x at *
        generalize depS s n (behind ac (1 + (j : Int)) l) = y at *
        have e2 : (1 + max x y).toNat = (max x y).toNat + 1 := by omega
        rw [e2, Nat.pow_succ]
        have g1 : 2 ^ x.toNat ≤ 2 ^ (max x y).toNat := Nat.pow_le_pow_right (by decide) (by omega)
        have g2 : 2 ^ y.toNat ≤ 2 ^ (max x y).toNat := Nat.pow_le_pow_right (by decide) (by omega)
        omega

/-- A block that is filled with cards. -/
structure Part (s : Sh) (p : Bl) (x : List Cd) : Prop where
  ok : p.Ok
  rows : p.a < p.b
  cols : p.c < p.d
  holds : ∀ y ∈ x, p.a ≤ y.row ∧ y.row + (hiS s y.t : Nat) ≤ p.b ∧ p.c ≤ y.col ∧ y.col + (wiS s y.t : Nat) ≤ p.d
  covers : ∀ r c : Int, p.a ≤ r → r < p.b → p.c ≤ c → c < p.d → ∃ y ∈ x, y.row ≤ r ∧ r < y.row + (hiS s y.t : Nat) ∧ y.col ≤ c ∧ c < y.col + (wiS s y.t : Nat)

theorem Part.ne {s : Sh} {p : Bl} {x : List Cd} (h : Part s p x) : 1 ≤ x.length := by
  obtain ⟨y, hy, _⟩ := h.covers p.a p.c (Int.le_refl _) h.rows (Int.le_refl _) h.cols
  exact List.length_pos_of_mem hy
theorem mem_ahead {ac : Bool} {at' : Int} {l : List Cd} {y : Cd} : y ∈ ahead ac at' l ↔ y ∈ l ∧ befB ac at' y = true := List.mem_filter
theorem mem_behind {ac : Bool} {at' : Int} {l : List Cd} {y : Cd} : y ∈ behind ac at' l ↔ y ∈ l ∧ befB ac at' y = false := by
  unfold behind
  rw [List.mem_filter, Bool.not_eq_true']
theorem ne_of_mem {α : Type} {l : List α} {y : α} (h : y ∈ l) : ¬ l = [] := by rintro rfl; cases h
theorem thr_row {s : Sh} {at' : Int} {x : List Cd} (h : thrA s true at' x = true) {y : Cd} (hy : y ∈ x) : ¬ (y.row < at' ∧ at' < y.row + (hiS s y.t : Nat)) := by
  have := List.all_eq_true.1 h y hy
  unfold thrB at this
  simp only [if_true, Bool.not_eq_true', decide_eq_false_iff_not] at this
  omega
theorem thr_col {s : Sh} {at' : Int} {x : List Cd} (h : thrA s false at' x = true) {y : Cd} (hy : y ∈ x) : ¬ (y.col < at' ∧ at' < y.col + (wiS s y.t : Nat)) := by
  have := List.all_eq_true.1 h y hy
  unfold thrB at this
  simp only [Bool.false_eq_true, if_false, Bool.not_eq_true', decide_eq_false_iff_not] at this
  omega
/-- A cut that leaves something on both sides goes through the block, and the other way round. -/
theorem Part.row_in {s : Sh} {p : Bl} {x : List Cd} (hs : s.Ok) (h : Part s p x) {at' : Int} (ht : thrA s true at' x = true) : (¬ ahead true at' x = [] ∧ ¬ behind true at' x = []) ↔ p.a < at' ∧ at' < p.b := by
  constructor
  · rintro ⟨h1, h2⟩
    obtain ⟨y, hy⟩ := List.exists_mem_of_ne_nil _ h1
    obtain ⟨z, hz⟩ := List.exists_mem_of_ne_nil _ h2
    rw [mem_ahead] at hy
    rw [mem_behind] at hz
    have k1 := h.holds y hy.1
    have k2 := h.holds z hz.1
    have k3 : y.row < at' := by simpa [befB] using hy.2
    have k4 : ¬ z.row < at' := by simpa [befB] using hz.2
    have := (hiS_le hs z.t).1
    omega
  · rintro ⟨h1, h2⟩
    obtain ⟨y, hy, y1, y2, y3, y4⟩ := h.covers p.a p.c (Int.le_refl _) h.rows (Int.le_refl _) h.cols
    obtain ⟨z, hz, z1, z2, z3, z4⟩ := h.covers (p.b - 1) p.c (by omega) (by omega) (Int.le_refl _) h.cols
    have := thr_row ht hz
    exact ⟨ne_of_mem (mem_ahead.2 ⟨hy, by simp [befB]; omega⟩), ne_of_mem (mem_behind.2 ⟨hz, by simp [befB]; omega⟩)⟩
theorem Part.col_in {s : Sh} {p : Bl} {x : List Cd} (hs : s.Ok) (h : Part s p x) {at' : Int} (ht : thrA s false at' x = true) : (¬ ahead false at' x = [] ∧ ¬ behind false at' x = []) ↔ p.c < at' ∧ at' < p.d := by
  constructor
  · rintro ⟨h1, h2⟩
    obtain ⟨y, hy⟩ := List.exists_mem_of_ne_nil _ h1
    obtain ⟨z, hz⟩ := List.exists_mem_of_ne_nil _ h2
    rw [mem_ahead] at hy
    rw [mem_behind] at hz
    have k1 := h.holds y hy.1
    have k2 := h.holds z hz.1
    have k3 : y.col < at' := by simpa [befB] using hy.2
    have k4 : ¬ z.col < at' := by simpa [befB] using hz.2
    have := (wiS_le hs z.t).1
    omega
  · rintro ⟨h1, h2⟩
    obtain ⟨y, hy, y1, y2, y3, y4⟩ := h.covers p.a p.c (Int.le_refl _) h.rows (Int.le_refl _) h.cols
    obtain ⟨z, hz, z1, z2, z3, z4⟩ := h.covers p.a (p.d - 1) (Int.le_refl _) h.rows (by omega) (by omega)
    have := thr_col ht hz
    exact ⟨ne_of_mem (mem_ahead.2 ⟨hy, by simp [befB]; omega⟩), ne_of_mem (mem_behind.2 ⟨hz, by simp [befB]; omega⟩)⟩
theorem Part.row_cut {s : Sh} {p : Bl} {x : List Cd} (h : Part s p x) {at' : Int} (ht : thrA s true at' x = true) (h1 : p.a < at') (h2 : at' < p.b) : Part s (cutR p at').1 (ahead true at' x) ∧ Part s (cutR p at').2 (behind true at' x) := by
  obtain ⟨o1, o2, o3, o4⟩ := h.ok
  refine ⟨⟨⟨o1, by unfold cutR; dsimp only; omega, o3, o4⟩, h1, h.cols, fun y hy => ?_, fun r c r1 r2 c1 c2 => ?_⟩, ⟨by unfold cutR; dsimp only; omega, o2, o3, o4⟩, h2, h.cols, fun y hy => ?_, fun r c r1 r2 c1 c2 => ?_⟩
  · rw [mem_ahead] at hy
    have k1 := h.holds y hy.1
    have k2 := thr_row ht hy.1
    have k3 : y.row < at' := by simpa [befB] using hy.2
    unfold cutR
    dsimp only
    omega
  · unfold cutR at r1 r2 c1 c2
    dsimp only at r1 r2 c1 c2
    obtain ⟨y, hy, y1, y2⟩ := h.covers r c r1 (by omega) c1 c2
    exact ⟨y, mem_ahead.2 ⟨hy, by simp [befB]; omega⟩, y1, y2⟩
  · rw [mem_behind] at hy
    have k1 := h.holds y hy.1
    have k3 : ¬ y.row < at' := by simpa [befB] using hy.2
    unfold cutR
    dsimp only
    omega
  · unfold cutR at r1 r2 c1 c2
    dsimp only at r1 r2 c1 c2
    obtain ⟨y, hy, y1, y2⟩ := h.covers r c (by omega) r2 c1 c2
    have k2 := thr_row ht hy
    exact ⟨y, mem_behind.2 ⟨hy, by simp [befB]; omega⟩, y1, y2⟩
theorem Part.col_cut {s : Sh} {p : Bl} {x : List Cd} (h : Part s p x) {at' : Int} (ht : thrA s false at' x = true) (h1 : p.c < at') (h2 : at' < p.d) : Part s (cutC p at').1 (ahead false at' x) ∧ Part s (cutC p at').2 (behind false at' x) := by
  obtain ⟨o1, o2, o3, o4⟩ := h.ok
  refine ⟨⟨⟨o1, o2, o3, by unfold cutC; dsimp only; omega⟩, h.rows, h1, fun y hy => ?_, fun r c r1 r2 c1 c2 => ?_⟩, ⟨o1, o2, by unfold cutC; dsimp only; omega, o4⟩, h.rows, h2, fun y hy => ?_, fun r c r1 r2 c1 c2 => ?_⟩
  · rw [mem_ahead] at hy
    have k1 := h.holds y hy.1
    have k2 := thr_col ht hy.1
    have k3 : y.col < at' := by simpa [befB] using hy.2
    unfold cutC
    dsimp only
    omega
  · unfold cutC at r1 r2 c1 c2
    dsimp only at r1 r2 c1 c2
    obtain ⟨y, hy, y1, y2, y3⟩ := h.covers r c r1 r2 c1 (by omega)
    exact ⟨y, mem_ahead.2 ⟨hy, by simp [befB]; omega⟩, y1, y2, y3⟩
  · rw [mem_behind] at hy
    have k1 := h.holds y hy.1
    have k3 : ¬ y.col < at' := by simpa [befB] using hy.2
    unfold cutC
    dsimp only
    omega
  · unfold cutC at r1 r2 c1 c2
    dsimp only at r1 r2 c1 c2
    obtain ⟨y, hy, y1, y2, y3⟩ := h.covers r c r1 r2 (by omega) c2
    have k2 := thr_col ht hy
    exact ⟨y, mem_behind.2 ⟨hy, by simp [befB]; omega⟩, y1, y2, y3⟩

/-- The cards of a part are those that its block holds. -/
theorem hold_half {s : Sh} {l : List Bl} {p q : Bl} {x : List Cd} {f : Cd → Bool} (h : l.filter (holdsB p) = x.map (blk s)) (hq : ∀ b, holdsB q b = true → holdsB p b = true) (hf : ∀ y ∈ x, holdsB q (blk s y) = f y) : l.filter (holdsB q) = (x.filter f).map (blk s) := by
  have h1 : l.filter (holdsB q) = (l.filter (holdsB p)).filter (holdsB q) := by
    rw [List.filter_filter]
    refine List.filter_congr fun b _ => ?_
    rcases hb : holdsB q b with _ | _
    · rfl
    · rw [hq b hb]; rfl
  rw [h1, h, List.filter_map]
  congr 1
  exact List.filter_congr fun y hy => hf y hy
/-- What a division comes to. -/
def valD (d : Dv) : Int := if d.st = true then (d.n : Int) else -1
theorem bet_min : ∀ (L : List (Dv × Dv)) (d : Dv) (P : Int → Prop), MinOf (valD d) P → MinOf (valD (L.foldl Dv.bet d)) (fun k => P k ∨ ∃ x ∈ L, x.1.st = true ∧ x.2.st = true ∧ k = 1 + max (x.1.n : Int) (x.2.n : Int))
  | [], d, P, h => h.congr fun k => ⟨.inl, fun e => e.elim id fun ⟨x, hx, _⟩ => absurd hx List.not_mem_nil⟩
  | x :: L, d, P, h => by
    rw [List.foldl_cons]
    have h1 : MinOf (valD (d.bet x)) (fun k => P k ∨ (x.1.st = true ∧ x.2.st = true ∧ k = 1 + max (x.1.n : Int) (x.2.n : Int))) := by
      unfold Dv.bet
      by_cases hx : x.1.st = true ∧ x.2.st = true
      · by_cases hb : d.st = false ∨ max x.1.n x.2.n + 1 < d.n
        · rw [if_pos ⟨hx.1, hx.2, hb⟩]
          have hv : valD ⟨true, max x.1.n x.2.n + 1⟩ = 1 + max (x.1.n : Int) (x.2.n : Int) := by
            unfold valD
            rw [if_pos rfl]
            dsimp only
            omega
          rw [hv]
          refine .inr ⟨by omega, .inr ⟨hx.1, hx.2, rfl⟩, fun k hk => ?_⟩
          rcases hk with hk | ⟨_, _, hk⟩
          · rcases h with ⟨_, h⟩ | ⟨h5, h7, h6⟩
            · exact absurd hk (h k)
            · have h8 := h6 k hk
              unfold valD at h8 h5
              rcases hd : d.st with _ | _
              · rw [hd] at h5; simp at h5
              · rw [hd, if_pos rfl] at h8
                rcases hb with hb | hb
                · rw [hd] at hb; cases hb
                · omega
          · omega
        · rw [if_neg fun e => hb e.2.2]
          have hd : d.st = true := by
            rcases hd : d.st with _ | _
            · exact absurd (.inl hd) hb
            · rfl
          have hv : valD d = d.n := by unfold valD; rw [if_pos hd]
          rcases h with ⟨h, _⟩ | ⟨h5, h7, h6⟩
          · rw [hv] at h; omega
          · refine .inr ⟨h5, .inl h7, fun k hk => ?_⟩
            rcases hk with hk | ⟨_, _, hk⟩
            · exact h6 k hk
            · rw [hv, hk]
              have : ¬ max x.1.n x.2.n + 1 < d.n := fun e => hb (.inr e)
              omega
      · rw [if_neg fun e => hx ⟨e.1, e.2.1⟩]
        exact h.congr fun k => ⟨.inl, fun e => e.elim id fun e => absurd ⟨e.1, e.2.1⟩ hx⟩
    refine (bet_min L _ _ h1).congr fun k => ⟨?_, ?_⟩
    · rintro ((e | e) | ⟨y, hy, e⟩)
      · exact .inl e
      · exact .inr ⟨x, by simp, e⟩
      · exact .inr ⟨y, by simp [hy], e⟩
    · rintro (e | ⟨y, hy, e⟩)
      · exact .inl (.inl e)
      · rcases List.mem_cons.1 hy with rfl | hy
        · exact .inl (.inr e)
        · exact .inr ⟨y, hy, e⟩
theorem val_st {d : Dv} : 0 ≤ valD d ↔ d.st = true := by
  unfold valD
  rcases d.st with _ | _
  · simp
  · simp
theorem val_n {d : Dv} (h : d.st = true) : valD d = d.n := by unfold valD; rw [if_pos h]
theorem mem_gapL {f t : Int} {sp : List (Int × Int)} {at' : Int} : at' ∈ gapL f t sp ↔ f < at' ∧ at' < t ∧ free' sp at' = true := by
  unfold gapL gapN free'
  rw [List.mem_filter, List.mem_map]
  constructor
  · rintro ⟨⟨k, hk, rfl⟩, h⟩
    rw [List.mem_range] at hk
    exact ⟨by omega, by omega, h⟩
  · rintro ⟨h1, h2, h⟩
    exact ⟨⟨(at' - f - 1).toNat, List.mem_range.2 (by omega), by omega⟩, h⟩

/-- The rounds by cards are those by blocks. -/
theorem dep_div {s : Sh} (hs : s.Ok) (all : List Bl) : ∀ (n : Nat) (p : Bl) (x : List Cd), x.length ≤ n → Part s p x → all.filter (holdsB p) = x.map (blk s) → depS s n x = valD (divC all p)
  | 0, p, x, hn, h, _ => by
    have := h.ne
    omega
  | n + 1, p, x, hn, h, ha => by
    have h1 := h.ne
    rw [divC_eq all h.ok, ha, List.length_map]
    by_cases h2 : x.length = 1
    · rw [depS, if_pos (by omega), if_pos h2]; rfl
    · rw [if_neg h2]
      have hm := dep_min s n (l := x) (by omega)
      have h0 : MinOf (valD ⟨false, 0⟩) (fun _ : Int => False) := .inl ⟨rfl, fun _ h => h⟩
      refine hm.same ((bet_min _ _ _ h0).congr fun k => ?_)
      have hrow : ∀ at', thrA s true at' x = true → p.a < at' → at' < p.b → depS s n (ahead true at' x) = valD (divC all (cutR p at').1) ∧ depS s n (behind true at' x) = valD (divC all (cutR p at').2) := fun at' ht b1 b2 => by
        obtain ⟨c1, c2⟩ := h.row_cut ht b1 b2
        have hl := cut_len true at' x
        have k1 := c1.ne
        have k2 := c2.ne
        refine ⟨dep_div hs all n _ _ (by omega) c1 (hold_half ha (fun b hb => ?_) fun y hy => ?_), dep_div hs all n _ _ (by omega) c2 (hold_half ha (fun b hb => ?_) fun y hy => ?_)⟩
        · unfold holdsB cutR at hb
          unfold holdsB
          rw [decide_eq_true_eq] at hb ⊢
          dsimp only at hb
          omega
        · have g1 := h.holds y hy
          have g2 := thr_row ht hy
          have g3 := (hiS_le hs y.t).1
          unfold holdsB cutR blk befB
          dsimp only
          rw [if_pos rfl]
          exact decide_eq_decide.2 (by omega)
        · unfold holdsB cutR at hb
          unfold holdsB
          rw [decide_eq_true_eq] at hb ⊢
          dsimp only at hb
          omega
        · have g1 := h.holds y hy
          have g2 := thr_row ht hy
          have g3 := (hiS_le hs y.t).1
          unfold holdsB cutR blk befB
          dsimp only
          rw [if_pos rfl, ← decide_not]
          exact decide_eq_decide.2 (by omega)
      have hcol : ∀ at', thrA s false at' x = true → p.c < at' → at' < p.d → depS s n (ahead false at' x) = valD (divC all (cutC p at').1) ∧ depS s n (behind false at' x) = valD (divC all (cutC p at').2) := fun at' ht b1 b2 => by
        obtain ⟨c1, c2⟩ := h.col_cut ht b1 b2
        have hl := cut_len false at' x
        have k1 := c1.ne
        have k2 := c2.ne
        refine ⟨dep_div hs all n _ _ (by omega) c1 (hold_half ha (fun b hb => ?_) fun y hy => ?_), dep_div hs all n _ _ (by omega) c2 (hold_half ha (fun b hb => ?_) fun y hy => ?_)⟩
        · unfold holdsB cutC at hb
          unfold holdsB
          rw [decide_eq_true_eq] at hb ⊢
          dsimp only at hb
          omega
        · have g1 := h.holds y hy
          have g2 := thr_col ht hy
          have g3 := (wiS_le hs y.t).1
          unfold holdsB cutC blk befB
          dsimp only
          rw [if_neg (by decide)]
          exact decide_eq_decide.2 (by omega)
        · unfold holdsB cutC at hb
          unfold holdsB
          rw [decide_eq_true_eq] at hb ⊢
          dsimp only at hb
          omega
        · have g1 := h.holds y hy
          have g2 := thr_col ht hy
          have g3 := (wiS_le hs y.t).1
          unfold holdsB cutC blk befB
          dsimp only
          rw [if_neg (by decide), ← decide_not]
          exact decide_eq_decide.2 (by omega)
      obtain ⟨⟨o1, o2⟩, ⟨o3, o4⟩, ⟨o5, o6⟩, o7, o8⟩ := h.ok
      constructor
      · rintro (e | ⟨d, hd, e1, e2, rfl⟩)
        · exact e.elim
        · obtain ⟨q, hq, rfl⟩ := List.mem_map.1 hd
          dsimp only at e1 e2 ⊢
          unfold halvesB at hq
          rcases List.mem_append.1 hq with hq | hq
          · obtain ⟨at', hat, rfl⟩ := List.mem_map.1 hq
            obtain ⟨b1, b2, b3⟩ := mem_gapL.1 hat
            have ht : thrA s true at' x = true := by rw [thr_free]; exact b3
            obtain ⟨f1, f2⟩ := hrow at' ht b1 b2
            obtain ⟨m1, m2⟩ := (h.row_in hs ht).2 ⟨b1, b2⟩
            refine ⟨true, (at' - 1).toNat, by omega, ?_⟩
            rw [show 1 + ((at' - 1).toNat : Int) = at' by omega]
            exact ⟨m1, m2, ht, by rw [f1]; exact val_st.2 e1, by rw [f2]; exact val_st.2 e2, by rw [f1, f2, val_n e1, val_n e2]⟩
          · obtain ⟨at', hat, rfl⟩ := List.mem_map.1 hq
            obtain ⟨b1, b2, b3⟩ := mem_gapL.1 hat
            have ht : thrA s false at' x = true := by rw [thr_free]; exact b3
            obtain ⟨f1, f2⟩ := hcol at' ht b1 b2
            obtain ⟨m1, m2⟩ := (h.col_in hs ht).2 ⟨b1, b2⟩
            refine ⟨false, (at' - 1).toNat, by omega, ?_⟩
            rw [show 1 + ((at' - 1).toNat : Int) = at' by omega]
            exact ⟨m1, m2, ht, by rw [f1]; exact val_st.2 e1, by rw [f2]; exact val_st.2 e2, by rw [f1, f2, val_n e1, val_n e2]⟩
      · rintro ⟨ac, j, hj, m1, m2, ht, e1, e2, rfl⟩
        refine .inr ?_
        generalize 1 + (j : Int) = at' at *
        cases ac
        · obtain ⟨b1, b2⟩ := (h.col_in hs ht).1 ⟨m1, m2⟩
          obtain ⟨f1, f2⟩ := hcol at' ht b1 b2
          rw [f1] at e1
          rw [f2] at e2
          refine ⟨(divC all (cutC p at').1, divC all (cutC p at').2), List.mem_map.2 ⟨cutC p at', List.mem_append.2 (.inr (List.mem_map.2 ⟨at', mem_gapL.2 ⟨b1, b2, ?_⟩, rfl⟩)), rfl⟩, val_st.1 e1, val_st.1 e2, ?_⟩
          · have := thr_free s false at' x
            rw [ht] at this
            exact this.symm
          · rw [f1, f2, val_n (val_st.1 e1), val_n (val_st.1 e2)]
        · obtain ⟨b1, b2⟩ := (h.row_in hs ht).1 ⟨m1, m2⟩
          obtain ⟨f1, f2⟩ := hrow at' ht b1 b2
          rw [f1] at e1
          rw [f2] at e2
          refine ⟨(divC all (cutR p at').1, divC all (cutR p at').2), List.mem_map.2 ⟨cutR p at', List.mem_append.2 (.inl (List.mem_map.2 ⟨at', mem_gapL.2 ⟨b1, b2, ?_⟩, rfl⟩)), rfl⟩, val_st.1 e1, val_st.1 e2, ?_⟩
          · have := thr_free s true at' x
            rw [ht] at this
            exact this.symm
          · rw [f1, f2, val_n (val_st.1 e1), val_n (val_st.1 e2)]

/-- A filling that is found right covers the sheet. -/
theorem ver_cov {s : Sh} : ∀ (l : List Cd) (cov : Nat) (last : Int), verM s l cov last = 0 → ∀ i, i < s.r * s.c → cov.testBit i = true ∨ ∃ y ∈ l, (und s y).testBit i = true
  | [], cov, last, h, i, hi => by
    rw [verM] at h
    split at h
    · rename_i e
      rw [e, whl_bit]
      exact .inl (decide_eq_true hi)
    · cases h
  | x :: l, cov, last, h, i, hi => by
    rw [verM] at h
    split at h
    · cases h
    · split at h
      · cases h
      · split at h
        · cases h
        · split at h
          · cases h
          · rcases ver_cov l _ _ h i hi with e | ⟨y, hy, e⟩
            · rw [Nat.testBit_or, Bool.or_eq_true] at e
              rcases e with e | e
              · exact .inl e
              · exact .inr ⟨x, by simp, e⟩
            · exact .inr ⟨y, by simp [hy], e⟩
theorem part_all {s : Sh} (hs : s.Ok) {l : List Cd} (h : verS s l = 0) : Part s (areaB s) l := by
  have hf := verM_fits l 0 (-1) h
  have hr := hs.r1
  have hc := hs.c1
  refine ⟨areaB_ok hs, by unfold areaB; dsimp only; omega, by unfold areaB; dsimp only; omega, fun y hy => ?_, fun r c r1 r2 c1 c2 => ?_⟩
  · obtain ⟨h1, h2, h3, h4⟩ := hf y hy
    unfold areaB
    dsimp only
    omega
  · unfold areaB at r1 r2 c1 c2
    dsimp only at r1 r2 c1 c2
    obtain ⟨a, rfl⟩ : ∃ a : Nat, r = a := ⟨r.toNat, by omega⟩
    obtain ⟨b, rfl⟩ : ∃ b : Nat, c = b := ⟨c.toNat, by omega⟩
    rcases ver_cov l 0 (-1) h (a * s.c + b) (sq_lt (by omega) (by omega)) with e | ⟨y, hy, e⟩
    · rw [Nat.zero_testBit] at e; cases e
    · obtain ⟨p, q, hp, hq, e⟩ := (und_bit _).1 e
      obtain ⟨h1, h2, h3, h4⟩ := hf y hy
      obtain ⟨e1, e2⟩ := sqN_inj (C := s.c) (by omega) (by omega) e
      exact ⟨y, hy, by omega, by omega, by omega, by omega⟩
/-- The rounds of a filling. -/
theorem dep_all {s : Sh} (hs : s.Ok) {l : List Cd} (h : verS s l = 0) {n : Nat} (hn : l.length ≤ n) : depS s n l = valD (divS s l) :=
  dep_div hs _ n _ l hn (part_all hs h) (hold_all (verM_fits l 0 (-1) h))

/-- A filling can be cut by straight cuts. -/
def strB (s : Sh) : Nat → List Cd → Bool
  | 0, _ => false
  | n + 1, l => decide (l.length < 2) || [false, true].any fun ac => [0, 1, 2, 3, 4].any fun (j : Nat) =>
      !(ahead ac (1 + (j : Int)) l).isEmpty && (!(behind ac (1 + (j : Int)) l).isEmpty && (thrA s ac (1 + (j : Int)) l && (strB s n (ahead ac (1 + (j : Int)) l) && strB s n (behind ac (1 + (j : Int)) l))))
theorem str_dep (s : Sh) : ∀ (n : Nat) (l : List Cd), strB s n l = true → 0 ≤ depS s n l
  | 0, l, h => by rw [depS]; exact Int.le_refl _
  | n + 1, l, h => by
    by_cases h2 : l.length < 2
    · rw [depS, if_pos h2]; exact Int.le_refl _
    · rw [strB, decide_eq_false h2, Bool.false_or, List.any_eq_true] at h
      obtain ⟨ac, _, h⟩ := h
      rw [List.any_eq_true] at h
      obtain ⟨j, hj, h⟩ := h
      simp only [Bool.and_eq_true, Bool.not_eq_true', List.isEmpty_eq_false_iff] at h
      obtain ⟨a, b, c, d, e⟩ := h
      have hj5 : j < 5 := by
        simp only [List.mem_cons, List.not_mem_nil, or_false] at hj
        omega
      have k1 := str_dep s n _ d
      have k2 := str_dep s n _ e
      rcases dep_min s n h2 with ⟨_, hn⟩ | ⟨h0, _⟩
      · exact absurd ⟨ac, j, hj5, a, b, c, k1, k2, rfl⟩ (hn (1 + max (depS s n (ahead ac (1 + (j : Int)) l)) (depS s n (behind ac (1 + (j : Int)) l))))
      · exact h0

def sixS : List Nat := [1, 2, 3, 4, 5, 6]
theorem mem_sixS {n : Nat} : n ∈ sixS ↔ 1 ≤ n ∧ n ≤ 6 := by
  unfold sixS
  simp only [List.mem_cons, List.not_mem_nil, or_false]
  omega
def someB (r c l w : Nat) : Bool := decide (30 < r * c) || ((fils ⟨r, c, l, w⟩ 37 0 []).isEmpty || (fils ⟨r, c, l, w⟩ 37 0 []).any (strB ⟨r, c, l, w⟩ 41))
theorem some_1 : (sixS.all fun c => sixS.all fun l => sixS.all fun w => someB 1 c l w) = true := by decide +kernel
theorem some_2 : (sixS.all fun c => sixS.all fun l => sixS.all fun w => someB 2 c l w) = true := by decide +kernel
theorem some_3 : (sixS.all fun c => sixS.all fun l => sixS.all fun w => someB 3 c l w) = true := by decide +kernel
theorem some_4 : (sixS.all fun c => sixS.all fun l => sixS.all fun w => someB 4 c l w) = true := by decide +kernel
theorem some_5 : (sixS.all fun c => sixS.all fun l => sixS.all fun w => someB 5 c l w) = true := by decide +kernel
theorem some_6 : (sixS.all fun c => sixS.all fun l => sixS.all fun w => someB 6 c l w) = true := by decide +kernel
theorem some_all : (sixS.all fun r => sixS.all fun c => sixS.all fun l => sixS.all fun w => someB r c l w) = true := by
  show ((sixS.all fun c => sixS.all fun l => sixS.all fun w => someB 1 c l w) && ((sixS.all fun c => sixS.all fun l => sixS.all fun w => someB 2 c l w) && ((sixS.all fun c => sixS.all fun l => sixS.all fun w => someB 3 c l w) && ((sixS.all fun c => sixS.all fun l => sixS.all fun w => someB 4 c l w) && ((sixS.all fun c => sixS.all fun l => sixS.all fun w => someB 5 c l w) && ((sixS.all fun c => sixS.all fun l => sixS.all fun w => someB 6 c l w) && true)))))) = true
  rw [some_1, some_2, some_3, some_4, some_5, some_6]; rfl
theorem some_str {s : Sh} (hs : s.Ok) (ha : s.r * s.c ≤ 30) (hne : filC s 0 [] ≠ []) : ∃ l ∈ filC s 0 [], 0 ≤ depS s 41 l := by
  obtain ⟨r, c, l, w⟩ := s
  obtain ⟨h1, h2, h3, h4, h5, h6, h7, h8⟩ := hs
  have h := List.all_eq_true.1 (List.all_eq_true.1 (List.all_eq_true.1 (List.all_eq_true.1 some_all r (mem_sixS.2 ⟨h1, h2⟩)) c (mem_sixS.2 ⟨h3, h4⟩)) l (mem_sixS.2 ⟨h5, h6⟩)) w (mem_sixS.2 ⟨h7, h8⟩)
  dsimp only at ha
  unfold someB at h
  rw [decide_eq_false (by omega), Bool.false_or, Bool.or_eq_true, List.any_eq_true] at h
  rcases h with h | ⟨x, hx, h⟩
  · exact absurd (List.isEmpty_iff.1 h) hne
  · exact ⟨x, hx, str_dep _ 41 x h⟩


theorem dep_le (s : Sh) : ∀ (n : Nat) (l : List Cd), -1 ≤ depS s n l ∧ depS s n l ≤ n
  | 0, l => by rw [depS]; omega
  | n + 1, l => by
    by_cases h2 : l.length < 2
    · rw [depS, if_pos h2]; omega
    · rcases dep_min s n h2 with ⟨e, _⟩ | ⟨h0, ⟨ac, j, hj, a, b, _, c, d, e⟩, _⟩
      · omega
      · have k1 := dep_le s n (ahead ac (1 + (j : Int)) l)
        have k2 := dep_le s n (behind ac (1 + (j : Int)) l)
        omega

/-- Two rows of cards of the call's own, apart from each other. -/
structure TwoC (W0 : World) (w : World) (v u : Value) (l m : List Cd) : Prop where
  own1 : w.ownsRow W0.heap.size 69 3 v l.length (ccells l)
  own2 : w.ownsRow W0.heap.size 69 3 u m.length (ccells m)
  apart : ∀ g, v.ownBlock = some g → u.ownBlock ≠ some g
  below : Below W0.heap.size W0 w
theorem TwoC.swap {W0 w : World} {v u : Value} {l m : List Cd} (h : TwoC W0 w v u l m) : TwoC W0 w u v m l := ⟨h.own2, h.own1, fun g h1 h2 => h.apart g h2 h1, h.below⟩
theorem TwoC.alloc {W0 w : World} {v u : Value} {l m : List Cd} (h : TwoC W0 w v u l m) (o : Obj) : TwoC W0 (w.alloc o) v u l m := ⟨h.own1.alloc _, h.own2.alloc _, h.apart, h.below.alloc h.below.size _⟩
theorem TwoC.push {W0 w w' : World} {v u : Value} {l m : List Cd} {x : Cd} {A : Option Addr} {c : Nat} (h : TwoC W0 w v u l m) (ho : w'.ownsRow W0.heap.size 69 3 (.slice A (l.length + 1) c) (l.length + 1) (ccells (l ++ [x]))) (hg : w.grownBy w' v.ownBlock) (hat : (Value.slice A (l.length + 1) c).ownBlock = v.ownBlock ∨ (Value.slice A (l.length + 1) c).ownBlock = some w.heap.size) :
    TwoC W0 w' (.slice A (l.length + 1) c) u (l ++ [x]) m := by
  refine ⟨by rw [List.length_append]; exact ho, (Chg.of_grown hg).own h.own2 (fun i hi e => h.apart i e.symm hi), ?_, h.below.grown hg h.below.size (fun g' hg' => (h.own1.lt g' hg').1)⟩
  intro i hi hu
  rcases hat with h1 | h1
  · exact h.apart _ (h1.symm.trans hi) hu
  · rw [h1] at hi
    have := (h.own2.lt i hu).2
    have := Option.some.inj hi
    omega

/-- What is tried so far. -/
def outD (s : Sh) (f : List Cd → Int) (l : List Cd) : Nat → Int
  | 0 => -1
  | 1 => manyD s f l (-1) false 5
  | _ => manyD s f l (manyD s f l (-1) false 5) true 5
theorem ahead_snoc (ac : Bool) (at' : Int) (l : List Cd) (x : Cd) : ahead ac at' (l ++ [x]) = ahead ac at' l ++ if befB ac at' x = true then [x] else [] := by
  unfold ahead
  rw [List.filter_append]
  congr 1
  exact filter_one _ _
theorem behind_snoc (ac : Bool) (at' : Int) (l : List Cd) (x : Cd) : behind ac at' (l ++ [x]) = behind ac at' l ++ if befB ac at' x = true then [] else [x] := by
  unfold behind
  rw [List.filter_append]
  congr 1
  rw [filter_one]
  rcases befB ac at' x with _ | _ <;> rfl
theorem many_bd (s : Sh) (n : Nat) (l : List Cd) (ac : Bool) {best : Int} (hb : -1 ≤ best ∧ best ≤ n + 1) : ∀ k : Nat, -1 ≤ manyD s (depS s n) l best ac k ∧ manyD s (depS s n) l best ac k ≤ n + 1
  | 0 => hb
  | k + 1 => by
    have ih := many_bd s n l ac hb k
    rw [manyD]
    unfold stepD
    split
    · exact ih
    · split
      · have k1 := dep_le s n (ahead ac (1 + (k : Int)) l)
        have k2 := dep_le s n (behind ac (1 + (k : Int)) l)
        omega
      · exact ih

theorem depth_small (s : Sh) (A : Option Addr) (c : Nat) (l : List Cd) (w : World) (hl : l.length < 2) :
    Calls Tryd.prog 53 #[.agg #[.int .i64 s.r, .int .i64 s.c, .int .i64 s.l, .int .i64 s.w], .slice A l.length c] w fun e w' => e = .returned (.int .i64 0) ∧ Below w.heap.size w w' := by
  have hl' : (l.length : Int) < 2 := by omega
  go_enter Tryd.func53, Tryd.ntmps53
  go_wp2
  go_ret
  exact ⟨rfl, below_new w _⟩

set_option maxRecDepth 100000 in
set_option maxHeartbeats 8000000 in
theorem depth_more (s : Sh) (hs : s.Ok) (n : Nat) (hn36 : n ≤ 40) (A : Option Addr) (c : Nat) (l : List Cd) (w : World) (hA : CardsAt w w.heap.size A l) (hf : ∀ x ∈ l, fitP s x) (hl : ¬ l.length < 2) (hln : l.length ≤ n + 1)
    (ih : ∀ (B : Option Addr) (d : Nat) (m : List Cd) (W : World), CardsAt W W.heap.size B m → (∀ x ∈ m, fitP s x) → m.length ≤ n → Calls Tryd.prog 53 #[.agg #[.int .i64 s.r, .int .i64 s.c, .int .i64 s.l, .int .i64 s.w], .slice B m.length d] W fun e w' => e = .returned (.int .i64 (depS s n m)) ∧ Below W.heap.size W w') :
    Calls Tryd.prog 53 #[.agg #[.int .i64 s.r, .int .i64 s.c, .int .i64 s.l, .int .i64 s.w], .slice A l.length c] w fun e w' => e = .returned (.int .i64 (depS s (n + 1) l)) ∧ Below w.heap.size w w' := by
  obtain ⟨W0, hW0⟩ : ∃ W0, W0 = (w.alloc (.cells #[.int .i64 s.r, .int .i64 s.c, .int .i64 s.l, .int .i64 s.w] 23)).alloc (.cells #[.bool false, .bool true] 4) := ⟨_, rfl⟩
  have HB := Lib.hid (show Below w.heap.size w W0 from hW0 ▸ (below_new w _).alloc (by simp) _)
  have hz0 : w.heap.size + 2 = W0.heap.size := by rw [hW0]; simp
  have HA := Lib.hid ((hA.below HB.out (Nat.le_refl _)).mono (show w.heap.size ≤ W0.heap.size by omega))
  have HK := Lib.hid (fun (W : World) (h : Below W0.heap.size W0 W) => show W.cell? ⟨w.heap.size, 0, none⟩ = some (.int .i64 s.r) ∧ W.cell? ⟨w.heap.size, 1, none⟩ = some (.int .i64 s.c) ∧ W.cell? ⟨w.heap.size, 2, none⟩ = some (.int .i64 s.l) ∧ W.cell? ⟨w.heap.size, 3, none⟩ = some (.int .i64 s.w) ∧ W.cell? ⟨w.heap.size + 1, 0, none⟩ = some (.bool false) ∧ W.cell? ⟨w.heap.size + 1, 1, none⟩ = some (.bool true) from
    ⟨(h.cell (p := ⟨w.heap.size, 0, none⟩) (by simp; omega)).trans (by rw [hW0]; simp [go_sem]), (h.cell (p := ⟨w.heap.size, 1, none⟩) (by simp; omega)).trans (by rw [hW0]; simp [go_sem]), (h.cell (p := ⟨w.heap.size, 2, none⟩) (by simp; omega)).trans (by rw [hW0]; simp [go_sem]), (h.cell (p := ⟨w.heap.size, 3, none⟩) (by simp; omega)).trans (by rw [hW0]; simp [go_sem]), (h.cell (p := ⟨w.heap.size + 1, 0, none⟩) (by simp; omega)).trans (by rw [hW0]; simp [go_sem]), (h.cell (p := ⟨w.heap.size + 1, 1, none⟩) (by simp; omega)).trans (by rw [hW0]; simp [go_sem])⟩)
  have HD : Hid (depS s (n + 1) l = outD s (depS s n) l 2) := Lib.hid (by rw [depS, if_neg hl]; rfl)
  have HG := Lib.hid (fun (ac : Bool) (at' : Int) (W : World) (h : Below W0.heap.size W0 W) => goes_any s A c l ac at' W hs (HA.out.up h) hf (by omega))
  have HX := Lib.hid (fun (ac : Bool) (at' : Int) (h1 : ¬ behind ac at' l = []) (B : Option Addr) (d : Nat) (W : World) (h : CardsAt W W.heap.size B (ahead ac at' l)) => ih B d (ahead ac at' l) W h (fun x hx => hf x (mem_ahead.1 hx).1) (by have := cut_len ac at' l; have := len_pos h1; omega))
  have HY := Lib.hid (fun (ac : Bool) (at' : Int) (h1 : ¬ ahead ac at' l = []) (B : Option Addr) (d : Nat) (W : World) (h : CardsAt W W.heap.size B (behind ac at' l)) => ih B d (behind ac at' l) W h (fun x hx => hf x (mem_behind.1 hx).1) (by have := cut_len ac at' l; have := len_pos h1; omega))
  have HLE := Lib.hid (fun m => dep_le s n m)
  have HBD := Lib.hid (fun (ac : Bool) (best : Int) (hb : -1 ≤ best ∧ best ≤ n + 1) (k : Nat) => many_bd s n l ac hb k)
  have HF := Lib.hid hf
  have hl2 : ¬ (l.length : Int) < 2 := by omega
  have hlb : l.length ≤ 41 := by omega
  have HLN := Lib.hid hln
  have hb00 : Below W0.heap.size W0 W0 := Below.refl _ _
  rw [HD.out]
  clear hA hf ih HD hln
  generalize depS s n = f at *
  go_enter Tryd.func53, Tryd.ntmps53
  go_wp2
  rw [← hW0]
  have HZ := Lib.hid hz0
  clear hW0 hz0 hl
  go_loopw [5, 20] (fun b i wr => ∃ k : Nat, k ≤ 2 ∧ i = .int .i64 k ∧ b = .int .i64 (outD s f l k) ∧ Below W0.heap.size W0 wr) (fun _ i _ => 2 - (intOf i).toNat)
  case atStart => exact ⟨0, by omega, rfl, rfl, hb00⟩
  case round =>
    obtain ⟨k, hk, rfl, rfl, hbr⟩ := hrel
    by_cases hlt : k < 2
    · obtain ⟨_, _, _, _, b0, b1⟩ := HK.out _ hbr
      rcases (show k = 0 ∨ k = 1 by omega) with rfl | rfl
      · clear hlt hk
        obtain ⟨best0, hbest0⟩ : ∃ b, b = outD s f l 0 := ⟨_, rfl⟩
        have HB0 := Lib.hid hbest0
        have hbb : -1 ≤ best0 ∧ best0 ≤ n + 1 := by
          rw [hbest0]; show (-1 : Int) ≤ -1 ∧ (-1 : Int) ≤ n + 1; omega
        have HMB := Lib.hid (HBD.out false best0 hbb)
        rw [← hbest0]
        clear hbest0 hbb
        rw [show ((0 : Nat) : Int) = 0 from rfl]
        go_wp2
        go_loopw [5, 8] (fun b i wr => ∃ j : Nat, j ≤ 5 ∧ i = .int .i64 (1 + (j : Int)) ∧ b = .int .i64 (manyD s f l best0 false j) ∧ Below W0.heap.size W0 wr) (fun _ i _ => 8 - (intOf i).toNat)
        case atStart => exact ⟨0, by omega, by simp, rfl, hbr⟩
        case round =>
          obtain ⟨j, hj, rfl, rfl, hbq⟩ := hrel
          by_cases hjt : j < 5
          · have hjt' : 1 + (j : Int) < 6 := by omega
            have hat1 : (1 : Int) ≤ 1 + (j : Int) := by omega
            have HST := Lib.hid (show manyD s f l best0 false (j + 1) = stepD s f l (manyD s f l best0 false j) false (1 + (j : Int)) from rfl)
            have hmb := HMB.out j
            generalize manyD s f l best0 false j = best at *
            have hzq := hbq.size
            have HZQ := Lib.hid hzq
            have HBQ := Lib.hid hbq
            go_wp2
            go_loopw [9, 10, 30] (fun v u i wr => ∃ m : Nat, m ≤ l.length ∧ i = .int .i64 m ∧ TwoC W0 wr v u (ahead false (1 + (j : Int)) (l.take m)) (behind false (1 + (j : Int)) (l.take m))) (fun _ _ i _ => l.length - (intOf i).toNat)
            case atStart => exact ⟨0, Nat.zero_le _, rfl, ⟨World.ownsRow_nil _ _ _ _, World.ownsRow_nil _ _ _ _, by simp [Value.ownBlock], hbq⟩⟩
            case round =>
              obtain ⟨m, hm, rfl, T0⟩ := hrel
              have hbc := T0.below
              have hzc := hbc.size
              by_cases hmt : m < l.length
              · have hx : l[m]? = some l[m] := List.getElem?_eq_getElem hmt
                generalize l[m] = x at hx
                have hts := take_snoc hx
                have hah := ahead_snoc false (1 + (j : Int)) (l.take m) x
                have hbh := behind_snoc false (1 + (j : Int)) (l.take m) x
                rw [← hts] at hah hbh
                have hl1 : (ahead false (1 + (j : Int)) (l.take m)).length < 1000000 := by have := cut_len false (1 + (j : Int)) (l.take m); have := List.length_take_le m l; have := HLN.out; omega
                have hl2' : (behind false (1 + (j : Int)) (l.take m)).length < 1000000 := by have := cut_len false (1 + (j : Int)) (l.take m); have := List.length_take_le m l; have := HLN.out; omega
                obtain ⟨bx, off, rfl, hb, d0, d1, d2⟩ := HA.out m x hx
                replace d0 := (hbc.cell (p := ⟨bx, _, none⟩) (by simp; omega)).trans d0
                replace d1 := (hbc.cell (p := ⟨bx, _, none⟩) (by simp; omega)).trans d1
                replace d2 := (hbc.cell (p := ⟨bx, _, none⟩) (by simp; omega)).trans d2
                have hki : (m : Int) < (l.length : Int) := by omega
                have hk0 : (0 : Int) ≤ (m : Int) := by omega
                have hbz : bx < wr.heap.size := by omega
                have T1 := (T0.alloc (.cells #[.int .i64 x.row, .int .i64 x.col, .bool x.t] 69)).alloc (.cells #[.int .i64 x.row, .int .i64 x.col, .bool x.t] 69)
                have TN := Lib.hid (T0.alloc (.cells #[.int .i64 x.row, .int .i64 x.col, .bool x.t] 69))
                have hv : befB false (1 + (j : Int)) x = decide (x.col < 1 + (j : Int)) := rfl
                have HAH := Lib.hid hah
                have HBH := Lib.hid hbh
                clear hah hbh hts hx hb hzq hat1
                by_cases hc : x.col < 1 + (j : Int)
                · have HAH2 := Lib.hid (HAH.out.trans (by rw [hv, decide_eq_true hc, if_pos rfl]))
                  have HBH2 := Lib.hid (HBH.out.trans (by rw [hv, decide_eq_true hc, if_pos rfl]))
                  clear hv HAH HBH
                  generalize ahead false (1 + (j : Int)) (l.take m) = la at *
                  generalize behind false (1 + (j : Int)) (l.take m) = lb at *
                  go_wp2_with (at_builtin; refine wpList_append_card _ rfl _ _ rfl W0.heap.size _ (wr.heap.size + 1) _ la x rfl T1.own1 rfl (heap_at _ _ _ (by first | rfl | simp)) hl1 (by simp; omega) ?_; intro A5 c5 w6 hown6 hgr6 hat6; have T6 := T1.push hown6 hgr6 hat6)
                  go_roundw
                  case rel => exact ⟨m + 1, by omega, by go_num, by rw [HAH2.out, HBH2.out, List.append_nil]; exact T6⟩
                  case measure => simp [intOf]; omega
                · have HAH2 := Lib.hid (HAH.out.trans (by rw [hv, decide_eq_false hc, if_neg (by decide)]))
                  have HBH2 := Lib.hid (HBH.out.trans (by rw [hv, decide_eq_false hc, if_neg (by decide)]))
                  clear hv HAH HBH
                  generalize ahead false (1 + (j : Int)) (l.take m) = la at *
                  generalize behind false (1 + (j : Int)) (l.take m) = lb at *
                  go_wp2_with (at_builtin; refine wpList_append_card _ rfl _ _ rfl W0.heap.size _ (wr.heap.size + 1) _ lb x rfl T1.swap.own1 rfl (heap_at _ _ _ (by first | rfl | simp)) hl2' (by simp; omega) ?_; intro A5 c5 w6 hown6 hgr6 hat6; have T6 := (T1.swap.push hown6 hgr6 hat6).swap)
                  go_roundw
                  case rel => exact ⟨m + 1, by omega, by go_num, by rw [HAH2.out, HBH2.out, List.append_nil]; exact T6⟩
                  case measure => simp [intOf]; omega
              · have e : l.take m = l := List.take_of_length_le (by omega)
                rw [e] at T0
                obtain ⟨A6, c6, hv6, hA6, _⟩ := own_cards T0.own1
                obtain ⟨A7, c7, hv7, hA7, _⟩ := own_cards T0.own2
                subst hv6 hv7
                have hmt' : ¬ (m : Int) < (l.length : Int) := by omega
                obtain ⟨q0, q1, q2, q3, _, _⟩ := HK.out _ hbc
                have HGG := Lib.hid (HG.out false (1 + (j : Int)))
                have HXX := Lib.hid (HX.out false (1 + (j : Int)))
                have HYY := Lib.hid (HY.out false (1 + (j : Int)))
                have HSS := Lib.hid HST.out
                unfold stepD at HSS
                generalize thrA s false (1 + (j : Int)) l = tv at *
                generalize ahead false (1 + (j : Int)) l = X at *
                generalize behind false (1 + (j : Int)) l = Y at *
                clear T0 e HST
                by_cases hX : X = []
                · have hx0 : ((X.length : Int) == 0) = true := by rw [hX]; rfl
                  have hX' := Lib.hid hX
                  clear hX
                  go_wp2
                  have HE := Lib.hid (show best = manyD s f l best0 false (j + 1) from (by rw [HSS.out, if_pos (Or.inl hX'.out)]))
                  go_roundw
                  case rel => exact ⟨j + 1, by omega, by go_num, by rw [HE.out], hbc⟩
                  case measure => simp [intOf]; omega
                have hx0 : ((X.length : Int) == 0) = false := beq_eq_false_iff_ne.2 (by have := len_pos hX; omega)
                by_cases hY : Y = []
                · have hy0 : ((Y.length : Int) == 0) = true := by rw [hY]; rfl
                  have hY' := Lib.hid hY
                  clear hY
                  go_wp2
                  have HE := Lib.hid (show best = manyD s f l best0 false (j + 1) from (by rw [HSS.out, if_pos (Or.inr (Or.inl hY'.out))]))
                  go_roundw
                  case rel => exact ⟨j + 1, by omega, by go_num, by rw [HE.out], hbc⟩
                  case measure => simp [intOf]; omega
                have hy0 : ((Y.length : Int) == 0) = false := beq_eq_false_iff_ne.2 (by have := len_pos hY; omega)
                rcases tv with _ | _
                · go_wp2_with (go_at_call 54; refine (HGG.out _ hbc).mono ?_; rintro e w5 ⟨rfl, hb5⟩; have hbc5 := hbc.trans (hb5.mono hzc))
                  have HE := Lib.hid (show best = manyD s f l best0 false (j + 1) from (by rw [HSS.out]; simp))
                  go_roundw
                  case rel => exact ⟨j + 1, by omega, by go_num, by rw [HE.out], hbc5⟩
                  case measure => simp [intOf]; omega
                have HS3 := Lib.hid (show manyD s f l best0 false (j + 1) = (if 0 ≤ f X ∧ 0 ≤ f Y ∧ (best < 0 ∨ 1 + max (f X) (f Y) < best) then 1 + max (f X) (f Y) else best) from (by rw [HSS.out]; simp [hX, hY]))
                have HX5 := Lib.hid (HXX.out hY)
                have HY5 := Lib.hid (HYY.out hX)
                have hxe := HLE.out X
                have hye := HLE.out Y
                generalize f X = fx at *
                generalize f Y = fy at *
                clear HSS HXX HYY
                have HVX := Lib.hid (fun (w5 : World) (hb5 : Below wr.heap.size wr w5) (W : World) (Q : Ending → World → Prop) (h : Below w5.heap.size w5 W) (hQ : ∀ w', Below w5.heap.size w5 w' → Q (.returned (.int .i64 fx)) w') => (HX5.out A6 c6 W ((hA6.up hb5).up h)).mono fun e w' ⟨he, hb⟩ => he ▸ hQ w' (h.trans (hb.mono h.size)))
                have HVY := Lib.hid (fun (w5 : World) (hb5 : Below wr.heap.size wr w5) (W : World) (Q : Ending → World → Prop) (h : Below w5.heap.size w5 W) (hQ : ∀ w', Below w5.heap.size w5 w' → Q (.returned (.int .i64 fy)) w') => (HY5.out A7 c7 W ((hA7.up hb5).up h)).mono fun e w' ⟨he, hb⟩ => he ▸ hQ w' (h.trans (hb.mono h.size)))
                go_upto_region 19 with (go_at_call 54; refine (HGG.out _ hbc).mono ?_; rintro e w5 ⟨rfl, hb5⟩)
                have HV1 := Lib.hid (HVX.out w5 hb5)
                have HV2 := Lib.hid (HVY.out w5 hb5)
                have hbc5 := hbc.trans (hb5.mono hzc)
                have HC5 := Lib.hid hbc5
                have HK5 := Lib.hid (fun (W : World) (h : Below w5.heap.size w5 W) => HK.out W (HC5.out.trans (h.mono HC5.out.size)))
                have hbd : Below w5.heap.size w5 w5.drew := (Below.refl _ _).drew
                clear HVX HVY hA6 hA7 hb5 hbc hbq hbr hbc5 q0 q1 q2 q3
                go_region_held3 (fun W => W.cell? ⟨w.heap.size, 0, none⟩ = some (.int .i64 s.r) ∧ W.cell? ⟨w.heap.size, 1, none⟩ = some (.int .i64 s.c) ∧ W.cell? ⟨w.heap.size, 2, none⟩ = some (.int .i64 s.l) ∧ W.cell? ⟨w.heap.size, 3, none⟩ = some (.int .i64 s.w) ∧ W.cell? ⟨w.heap.size + 1, 0, none⟩ = some (.bool false) ∧ W.cell? ⟨w.heap.size + 1, 1, none⟩ = some (.bool true))
                  (exact HK5.out _ (by assumption))
                  (first
                    | (go_at_call 53; with_reducible refine HV1.out _ _ (by assumption) ?_; intro w6 hb6)
                    | (go_at_call 53; with_reducible refine HV2.out _ _ (by assumption) ?_; intro w7 hb7))
                all_goals
                  change Exit.then _ _ Exit.normal _ _
                  have HB8 := Lib.hid (show Below w5.heap.size w5 w7 by assumption)
                  have hbw := HC5.out.trans (HB8.out.mono HC5.out.size)
                  clear hbd
                  by_cases hfx : 0 ≤ fx
                  rotate_left
                  · have HNE := Lib.hid (show best = manyD s f l best0 false (j + 1) from (by rw [HS3.out, if_neg (fun e => hfx e.1)]))
                    go_wp2
                    go_roundw
                    case rel => exact ⟨j + 1, by omega, by go_num, by first | rw [HNE.out] | rw [HMX.out, HNE.out], hbw⟩
                    case measure => simp [intOf]; omega
                  by_cases hfy : 0 ≤ fy
                  rotate_left
                  · have HNE := Lib.hid (show best = manyD s f l best0 false (j + 1) from (by rw [HS3.out, if_neg (fun e => hfy e.2.1)]))
                    go_wp2
                    go_roundw
                    case rel => exact ⟨j + 1, by omega, by go_num, by first | rw [HNE.out] | rw [HMX.out, HNE.out], hbw⟩
                    case measure => simp [intOf]; omega
                  obtain ⟨mx, hmx⟩ : ∃ m, max fx fy = m := ⟨_, rfl⟩
                  have HMX := Lib.hid (show (if fx < fy then fy else fx) = mx by rw [← hmx]; split <;> omega)
                  have hmb2 : 0 ≤ mx ∧ mx ≤ 40 := by omega
                  have hw1 : IntKind.i64.wrap (1 + mx) = 1 + mx := IntWalk.i64_in _ (by omega)
                  have HS4 := Lib.hid (show manyD s f l best0 false (j + 1) = if best < 0 ∨ 1 + mx < best then 1 + mx else best from (by rw [HS3.out, hmx]; simp [hfx, hfy]))
                  clear HS3
                  by_cases hb1 : best < 0
                  · have HNE := Lib.hid (show 1 + mx = manyD s f l best0 false (j + 1) from (by rw [HS4.out, if_pos (Or.inl hb1)]))
                    go_wp2
                    go_roundw
                    case rel => exact ⟨j + 1, by omega, by go_num, by first | rw [HNE.out] | rw [HMX.out, HNE.out], hbw⟩
                    case measure => simp [intOf]; omega
                  · by_cases hb2 : 1 + mx < best
                    · have HNE := Lib.hid (show 1 + mx = manyD s f l best0 false (j + 1) from (by rw [HS4.out, if_pos (Or.inr hb2)]))
                      go_wp2
                      go_roundw
                      case rel => exact ⟨j + 1, by omega, by go_num, by first | rw [HNE.out] | rw [HMX.out, HNE.out], hbw⟩
                      case measure => simp [intOf]; omega
                    · have HNE := Lib.hid (show best = manyD s f l best0 false (j + 1) from (by rw [HS4.out, if_neg (fun e => e.elim hb1 hb2)]))
                      go_wp2
                      go_roundw
                      case rel => exact ⟨j + 1, by omega, by go_num, by first | rw [HNE.out] | rw [HMX.out, HNE.out], hbw⟩
                      case measure => simp [intOf]; omega
          · have hjt' : ¬ 1 + (j : Int) < 6 := by omega
            obtain rfl : j = 5 := by omega
            have HO := Lib.hid (show manyD s f l best0 false 5 = outD s f l 1 by rw [HB0.out]; rfl)
            go_wp2
            go_roundw
            case rel => exact ⟨1, by omega, by first | rfl | go_num, by rw [HO.out], hbq⟩
            case measure => simp [intOf]
      · clear hlt hk
        obtain ⟨best0, hbest0⟩ : ∃ b, b = outD s f l 1 := ⟨_, rfl⟩
        have HB0 := Lib.hid hbest0
        have hbb : -1 ≤ best0 ∧ best0 ≤ n + 1 := by
          rw [hbest0]; exact HBD.out false (-1) (by omega) 5
        have HMB := Lib.hid (HBD.out true best0 hbb)
        rw [← hbest0]
        clear hbest0 hbb
        rw [show ((1 : Nat) : Int) = 1 from rfl]
        go_wp2
        go_loopw [5, 8] (fun b i wr => ∃ j : Nat, j ≤ 5 ∧ i = .int .i64 (1 + (j : Int)) ∧ b = .int .i64 (manyD s f l best0 true j) ∧ Below W0.heap.size W0 wr) (fun _ i _ => 8 - (intOf i).toNat)
        case atStart => exact ⟨0, by omega, by simp, rfl, hbr⟩
        case round =>
          obtain ⟨j, hj, rfl, rfl, hbq⟩ := hrel
          by_cases hjt : j < 5
          · have hjt' : 1 + (j : Int) < 6 := by omega
            have hat1 : (1 : Int) ≤ 1 + (j : Int) := by omega
            have HST := Lib.hid (show manyD s f l best0 true (j + 1) = stepD s f l (manyD s f l best0 true j) true (1 + (j : Int)) from rfl)
            have hmb := HMB.out j
            generalize manyD s f l best0 true j = best at *
            have hzq := hbq.size
            have HZQ := Lib.hid hzq
            have HBQ := Lib.hid hbq
            go_wp2
            go_loopw [9, 10, 30] (fun v u i wr => ∃ m : Nat, m ≤ l.length ∧ i = .int .i64 m ∧ TwoC W0 wr v u (ahead true (1 + (j : Int)) (l.take m)) (behind true (1 + (j : Int)) (l.take m))) (fun _ _ i _ => l.length - (intOf i).toNat)
            case atStart => exact ⟨0, Nat.zero_le _, rfl, ⟨World.ownsRow_nil _ _ _ _, World.ownsRow_nil _ _ _ _, by simp [Value.ownBlock], hbq⟩⟩
            case round =>
              obtain ⟨m, hm, rfl, T0⟩ := hrel
              have hbc := T0.below
              have hzc := hbc.size
              by_cases hmt : m < l.length
              · have hx : l[m]? = some l[m] := List.getElem?_eq_getElem hmt
                generalize l[m] = x at hx
                have hts := take_snoc hx
                have hah := ahead_snoc true (1 + (j : Int)) (l.take m) x
                have hbh := behind_snoc true (1 + (j : Int)) (l.take m) x
                rw [← hts] at hah hbh
                have hl1 : (ahead true (1 + (j : Int)) (l.take m)).length < 1000000 := by have := cut_len true (1 + (j : Int)) (l.take m); have := List.length_take_le m l; have := HLN.out; omega
                have hl2' : (behind true (1 + (j : Int)) (l.take m)).length < 1000000 := by have := cut_len true (1 + (j : Int)) (l.take m); have := List.length_take_le m l; have := HLN.out; omega
                obtain ⟨bx, off, rfl, hb, d0, d1, d2⟩ := HA.out m x hx
                replace d0 := (hbc.cell (p := ⟨bx, _, none⟩) (by simp; omega)).trans d0
                replace d1 := (hbc.cell (p := ⟨bx, _, none⟩) (by simp; omega)).trans d1
                replace d2 := (hbc.cell (p := ⟨bx, _, none⟩) (by simp; omega)).trans d2
                have hki : (m : Int) < (l.length : Int) := by omega
                have hk0 : (0 : Int) ≤ (m : Int) := by omega
                have hbz : bx < wr.heap.size := by omega
                have T1 := (T0.alloc (.cells #[.int .i64 x.row, .int .i64 x.col, .bool x.t] 69)).alloc (.cells #[.int .i64 x.row, .int .i64 x.col, .bool x.t] 69)
                have TN := Lib.hid (T0.alloc (.cells #[.int .i64 x.row, .int .i64 x.col, .bool x.t] 69))
                have hv : befB true (1 + (j : Int)) x = decide (x.row < 1 + (j : Int)) := rfl
                have HAH := Lib.hid hah
                have HBH := Lib.hid hbh
                clear hah hbh hts hx hb hzq hat1
                by_cases hc : x.row < 1 + (j : Int)
                · have HAH2 := Lib.hid (HAH.out.trans (by rw [hv, decide_eq_true hc, if_pos rfl]))
                  have HBH2 := Lib.hid (HBH.out.trans (by rw [hv, decide_eq_true hc, if_pos rfl]))
                  clear hv HAH HBH
                  generalize ahead true (1 + (j : Int)) (l.take m) = la at *
                  generalize behind true (1 + (j : Int)) (l.take m) = lb at *
                  go_wp2_with (at_builtin; refine wpList_append_card _ rfl _ _ rfl W0.heap.size _ (wr.heap.size + 1) _ la x rfl T1.own1 rfl (heap_at _ _ _ (by first | rfl | simp)) hl1 (by simp; omega) ?_; intro A5 c5 w6 hown6 hgr6 hat6; have T6 := T1.push hown6 hgr6 hat6)
                  go_roundw
                  case rel => exact ⟨m + 1, by omega, by go_num, by rw [HAH2.out, HBH2.out, List.append_nil]; exact T6⟩
                  case measure => simp [intOf]; omega
                · have HAH2 := Lib.hid (HAH.out.trans (by rw [hv, decide_eq_false hc, if_neg (by decide)]))
                  have HBH2 := Lib.hid (HBH.out.trans (by rw [hv, decide_eq_false hc, if_neg (by decide)]))
                  clear hv HAH HBH
                  generalize ahead true (1 + (j : Int)) (l.take m) = la at *
                  generalize behind true (1 + (j : Int)) (l.take m) = lb at *
                  go_wp2_with (at_builtin; refine wpList_append_card _ rfl _ _ rfl W0.heap.size _ (wr.heap.size + 1) _ lb x rfl T1.swap.own1 rfl (heap_at _ _ _ (by first | rfl | simp)) hl2' (by simp; omega) ?_; intro A5 c5 w6 hown6 hgr6 hat6; have T6 := (T1.swap.push hown6 hgr6 hat6).swap)
                  go_roundw
                  case rel => exact ⟨m + 1, by omega, by go_num, by rw [HAH2.out, HBH2.out, List.append_nil]; exact T6⟩
                  case measure => simp [intOf]; omega
              · have e : l.take m = l := List.take_of_length_le (by omega)
                rw [e] at T0
                obtain ⟨A6, c6, hv6, hA6, _⟩ := own_cards T0.own1
                obtain ⟨A7, c7, hv7, hA7, _⟩ := own_cards T0.own2
                subst hv6 hv7
                have hmt' : ¬ (m : Int) < (l.length : Int) := by omega
                obtain ⟨q0, q1, q2, q3, _, _⟩ := HK.out _ hbc
                have HGG := Lib.hid (HG.out true (1 + (j : Int)))
                have HXX := Lib.hid (HX.out true (1 + (j : Int)))
                have HYY := Lib.hid (HY.out true (1 + (j : Int)))
                have HSS := Lib.hid HST.out
                unfold stepD at HSS
                generalize thrA s true (1 + (j : Int)) l = tv at *
                generalize ahead true (1 + (j : Int)) l = X at *
                generalize behind true (1 + (j : Int)) l = Y at *
                clear T0 e HST
                by_cases hX : X = []
                · have hx0 : ((X.length : Int) == 0) = true := by rw [hX]; rfl
                  have hX' := Lib.hid hX
                  clear hX
                  go_wp2
                  have HE := Lib.hid (show best = manyD s f l best0 true (j + 1) from (by rw [HSS.out, if_pos (Or.inl hX'.out)]))
                  go_roundw
                  case rel => exact ⟨j + 1, by omega, by go_num, by rw [HE.out], hbc⟩
                  case measure => simp [intOf]; omega
                have hx0 : ((X.length : Int) == 0) = false := beq_eq_false_iff_ne.2 (by have := len_pos hX; omega)
                by_cases hY : Y = []
                · have hy0 : ((Y.length : Int) == 0) = true := by rw [hY]; rfl
                  have hY' := Lib.hid hY
                  clear hY
                  go_wp2
                  have HE := Lib.hid (show best = manyD s f l best0 true (j + 1) from (by rw [HSS.out, if_pos (Or.inr (Or.inl hY'.out))]))
                  go_roundw
                  case rel => exact ⟨j + 1, by omega, by go_num, by rw [HE.out], hbc⟩
                  case measure => simp [intOf]; omega
                have hy0 : ((Y.length : Int) == 0) = false := beq_eq_false_iff_ne.2 (by have := len_pos hY; omega)
                rcases tv with _ | _
                · go_wp2_with (go_at_call 54; refine (HGG.out _ hbc).mono ?_; rintro e w5 ⟨rfl, hb5⟩; have hbc5 := hbc.trans (hb5.mono hzc))
                  have HE := Lib.hid (show best = manyD s f l best0 true (j + 1) from (by rw [HSS.out]; simp))
                  go_roundw
                  case rel => exact ⟨j + 1, by omega, by go_num, by rw [HE.out], hbc5⟩
                  case measure => simp [intOf]; omega
                have HS3 := Lib.hid (show manyD s f l best0 true (j + 1) = (if 0 ≤ f X ∧ 0 ≤ f Y ∧ (best < 0 ∨ 1 + max (f X) (f Y) < best) then 1 + max (f X) (f Y) else best) from (by rw [HSS.out]; simp [hX, hY]))
                have HX5 := Lib.hid (HXX.out hY)
                have HY5 := Lib.hid (HYY.out hX)
                have hxe := HLE.out X
                have hye := HLE.out Y
                generalize f X = fx at *
                generalize f Y = fy at *
                clear HSS HXX HYY
                have HVX := Lib.hid (fun (w5 : World) (hb5 : Below wr.heap.size wr w5) (W : World) (Q : Ending → World → Prop) (h : Below w5.heap.size w5 W) (hQ : ∀ w', Below w5.heap.size w5 w' → Q (.returned (.int .i64 fx)) w') => (HX5.out A6 c6 W ((hA6.up hb5).up h)).mono fun e w' ⟨he, hb⟩ => he ▸ hQ w' (h.trans (hb.mono h.size)))
                have HVY := Lib.hid (fun (w5 : World) (hb5 : Below wr.heap.size wr w5) (W : World) (Q : Ending → World → Prop) (h : Below w5.heap.size w5 W) (hQ : ∀ w', Below w5.heap.size w5 w' → Q (.returned (.int .i64 fy)) w') => (HY5.out A7 c7 W ((hA7.up hb5).up h)).mono fun e w' ⟨he, hb⟩ => he ▸ hQ w' (h.trans (hb.mono h.size)))
                go_upto_region 19 with (go_at_call 54; refine (HGG.out _ hbc).mono ?_; rintro e w5 ⟨rfl, hb5⟩)
                have HV1 := Lib.hid (HVX.out w5 hb5)
                have HV2 := Lib.hid (HVY.out w5 hb5)
                have hbc5 := hbc.trans (hb5.mono hzc)
                have HC5 := Lib.hid hbc5
                have HK5 := Lib.hid (fun (W : World) (h : Below w5.heap.size w5 W) => HK.out W (HC5.out.trans (h.mono HC5.out.size)))
                have hbd : Below w5.heap.size w5 w5.drew := (Below.refl _ _).drew
                clear HVX HVY hA6 hA7 hb5 hbc hbq hbr hbc5 q0 q1 q2 q3
                go_region_held3 (fun W => W.cell? ⟨w.heap.size, 0, none⟩ = some (.int .i64 s.r) ∧ W.cell? ⟨w.heap.size, 1, none⟩ = some (.int .i64 s.c) ∧ W.cell? ⟨w.heap.size, 2, none⟩ = some (.int .i64 s.l) ∧ W.cell? ⟨w.heap.size, 3, none⟩ = some (.int .i64 s.w) ∧ W.cell? ⟨w.heap.size + 1, 0, none⟩ = some (.bool false) ∧ W.cell? ⟨w.heap.size + 1, 1, none⟩ = some (.bool true))
                  (exact HK5.out _ (by assumption))
                  (first
                    | (go_at_call 53; with_reducible refine HV1.out _ _ (by assumption) ?_; intro w6 hb6)
                    | (go_at_call 53; with_reducible refine HV2.out _ _ (by assumption) ?_; intro w7 hb7))
                all_goals
                  change Exit.then _ _ Exit.normal _ _
                  have HB8 := Lib.hid (show Below w5.heap.size w5 w7 by assumption)
                  have hbw := HC5.out.trans (HB8.out.mono HC5.out.size)
                  clear hbd
                  by_cases hfx : 0 ≤ fx
                  rotate_left
                  · have HNE := Lib.hid (show best = manyD s f l best0 true (j + 1) from (by rw [HS3.out, if_neg (fun e => hfx e.1)]))
                    go_wp2
                    go_roundw
                    case rel => exact ⟨j + 1, by omega, by go_num, by first | rw [HNE.out] | rw [HMX.out, HNE.out], hbw⟩
                    case measure => simp [intOf]; omega
                  by_cases hfy : 0 ≤ fy
                  rotate_left
                  · have HNE := Lib.hid (show best = manyD s f l best0 true (j + 1) from (by rw [HS3.out, if_neg (fun e => hfy e.2.1)]))
                    go_wp2
                    go_roundw
                    case rel => exact ⟨j + 1, by omega, by go_num, by first | rw [HNE.out] | rw [HMX.out, HNE.out], hbw⟩
                    case measure => simp [intOf]; omega
                  obtain ⟨mx, hmx⟩ : ∃ m, max fx fy = m := ⟨_, rfl⟩
                  have HMX := Lib.hid (show (if fx < fy then fy else fx) = mx by rw [← hmx]; split <;> omega)
                  have hmb2 : 0 ≤ mx ∧ mx ≤ 40 := by omega
                  have hw1 : IntKind.i64.wrap (1 + mx) = 1 + mx := IntWalk.i64_in _ (by omega)
                  have HS4 := Lib.hid (show manyD s f l best0 true (j + 1) = if best < 0 ∨ 1 + mx < best then 1 + mx else best from (by rw [HS3.out, hmx]; simp [hfx, hfy]))
                  clear HS3
                  by_cases hb1 : best < 0
                  · have HNE := Lib.hid (show 1 + mx = manyD s f l best0 true (j + 1) from (by rw [HS4.out, if_pos (Or.inl hb1)]))
                    go_wp2
                    go_roundw
                    case rel => exact ⟨j + 1, by omega, by go_num, by first | rw [HNE.out] | rw [HMX.out, HNE.out], hbw⟩
                    case measure => simp [intOf]; omega
                  · by_cases hb2 : 1 + mx < best
                    · have HNE := Lib.hid (show 1 + mx = manyD s f l best0 true (j + 1) from (by rw [HS4.out, if_pos (Or.inr hb2)]))
                      go_wp2
                      go_roundw
                      case rel => exact ⟨j + 1, by omega, by go_num, by first | rw [HNE.out] | rw [HMX.out, HNE.out], hbw⟩
                      case measure => simp [intOf]; omega
                    · have HNE := Lib.hid (show best = manyD s f l best0 true (j + 1) from (by rw [HS4.out, if_neg (fun e => e.elim hb1 hb2)]))
                      go_wp2
                      go_roundw
                      case rel => exact ⟨j + 1, by omega, by go_num, by first | rw [HNE.out] | rw [HMX.out, HNE.out], hbw⟩
                      case measure => simp [intOf]; omega
          · have hjt' : ¬ 1 + (j : Int) < 6 := by omega
            obtain rfl : j = 5 := by omega
            have HO := Lib.hid (show manyD s f l best0 true 5 = outD s f l 2 by rw [HB0.out]; rfl)
            go_wp2
            go_roundw
            case rel => exact ⟨2, by omega, by first | rfl | go_num, by rw [HO.out], hbq⟩
            case measure => simp [intOf]
    · obtain rfl : k = 2 := by omega
      have HR := Lib.hid (HB.out.trans (hbr.mono (by have := HZ.out; omega)))
      go_wp2
      refine bodyPost_ret (v := .int .i64 (outD s f l 2)) (by simp [results, Tryd.results53, go_sem]) rfl ⟨rfl, HR.out⟩

/-- The rounds of a part of a filling, and -1 if it is not straight. -/
theorem depth_any (s : Sh) (hs : s.Ok) : ∀ (n : Nat), n ≤ 41 → ∀ (A : Option Addr) (c : Nat) (l : List Cd) (w : World), CardsAt w w.heap.size A l → (∀ x ∈ l, fitP s x) → l.length ≤ n →
    Calls Tryd.prog 53 #[.agg #[.int .i64 s.r, .int .i64 s.c, .int .i64 s.l, .int .i64 s.w], .slice A l.length c] w fun e w' => e = .returned (.int .i64 (depS s n l)) ∧ Below w.heap.size w w'
  | 0, _, A, c, l, w, _, _, hl => by
    have h := depth_small s A c l w (by omega)
    rw [depS]
    exact h
  | n + 1, hn, A, c, l, w, hA, hf, hl => by
    by_cases h2 : l.length < 2
    · have h := depth_small s A c l w h2
      rw [depS, if_pos h2]
      exact h
    · exact depth_more s hs n (by omega) A c l w hA hf h2 hl fun B d m W h1 h2 h3 => depth_any s hs n (by omega) B d m W h1 h2 h3
end Go.Proofs.YtlollcabnfncpaaDoor
