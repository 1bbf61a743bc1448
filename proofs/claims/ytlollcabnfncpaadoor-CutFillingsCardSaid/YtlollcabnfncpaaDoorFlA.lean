/-
  Whether a line goes through no card, of the statements and of the reference; cuts; fillings are found right; the rounds of a filling by its cards and by its blocks.
-/
import Derived.Test.YtlollcabnfncpaaDoorCuts
import Derived.Test.YtlollcabnfncpaaDoorSolA
import Derived.Test.YtlollcabnfncpaaDoorFilB
import Derived.Test.YtlollcabnfncpaaDoorDivE
import Derived.Test.YtlollcabnfncpaaDoorLenA
import Derived.Test.YtlollcabnfncpaaDoorFilA
import Derived.Test.YtlollcabnfncpaaDoorRefA
import Derived.Laws.MakeOwn
import Derived.Deep.RegionHeld3
import Derived.BigQuiet
import Derived.Deep.DeepCutAuto
namespace Go.Proofs.YtlollcabnfncpaaDoor
open Go.RowKit

set_option maxHeartbeats 400000 in
theorem is_same {n lo hi : Int} {b : Bool} (h : b = decide (lo ≤ n ∧ n ≤ hi)) {W : World} : Calls Tryd.prog 67 #[.int .i64 n, .int .i64 lo, .int .i64 hi] W fun e w' => e = .returned (.bool b) ∧ w' = W := by
  subst h
  by_cases h1 : lo ≤ n
  · by_cases h2 : n ≤ hi
    · rw [decide_eq_true ⟨h1, h2⟩]
      go_enter Tryd.func67, Tryd.ntmps67
      go_wp2
      go_ret
      exact ⟨by first | rfl | exact ret_bool (decide_eq_true h2), rfl⟩
    · rw [decide_eq_false (fun h => h2 h.2)]
      go_enter Tryd.func67, Tryd.ntmps67
      go_wp2
      go_ret
      exact ⟨by first | rfl | exact ret_bool (decide_eq_false h2), rfl⟩
  · rw [decide_eq_false (fun h => h1 h.1)]
    go_enter Tryd.func67, Tryd.ntmps67
    go_wp2
    go_ret
    exact ⟨rfl, rfl⟩


/-- A cut goes through a card. -/
def thrB (s : Sh) (ac : Bool) (at' : Int) (x : Cd) : Bool := if ac = true then decide (x.row + 1 ≤ at' ∧ at' ≤ x.row + (hiS s x.t : Nat) - 1) else decide (x.col + 1 ≤ at' ∧ at' ≤ x.col + (wiS s x.t : Nat) - 1)
/-- A cut goes through no card. -/
def thrA (s : Sh) (ac : Bool) (at' : Int) (l : List Cd) : Bool := l.all fun x => !thrB s ac at' x
theorem thrA_snoc (s : Sh) (ac : Bool) (at' : Int) (l : List Cd) (x : Cd) : thrA s ac at' (l ++ [x]) = (thrA s ac at' l && !thrB s ac at' x) := by simp [thrA]

/-- The spans of cards, by rows or by columns, and the cuts between them. -/
def spnB (s : Sh) (ac : Bool) (l : List Cd) : List (Int × Int) := if ac = true then rowsB (l.map (blk s)) else colsB (l.map (blk s))
def cutB (s : Sh) (ac : Bool) (l : List Cd) : List Int := gapN 0 ((if ac = true then s.r else s.c) - 1) (spnB s ac l)
theorem thr_free (s : Sh) (ac : Bool) (at' : Int) (l : List Cd) : thrA s ac at' l = free' (spnB s ac l) at' := by
  unfold thrA free' spnB rowsB colsB thrB
  rcases ac with _ | _
  · simp only [Bool.false_eq_true, if_false, List.map_map, List.all_map]
    congr 1
    funext x
    show (!decide (x.col + 1 ≤ at' ∧ at' ≤ x.col + (wiS s x.t : Nat) - 1)) = !(decide (x.col < at') && decide (at' < x.col + (wiS s x.t : Nat)))
    rw [Bool.eq_iff_iff]
    simp only [Bool.not_eq_true', decide_eq_false_iff_not, Bool.and_eq_false_imp, decide_eq_true_eq]
    omega
  · simp only [if_true, List.map_map, List.all_map]
    congr 1
    funext x
    show (!decide (x.row + 1 ≤ at' ∧ at' ≤ x.row + (hiS s x.t : Nat) - 1)) = !(decide (x.row < at') && decide (at' < x.row + (hiS s x.t : Nat)))
    rw [Bool.eq_iff_iff]
    simp only [Bool.not_eq_true', decide_eq_false_iff_not, Bool.and_eq_false_imp, decide_eq_true_eq]
    omega
theorem cutB_rows {s : Sh} (hs : s.Ok) (l : List Cd) : cutB s true l = cutsR s l := by
  have := hs.r1
  unfold cutB cutsR gapL spnB
  rw [if_pos rfl, if_pos rfl, show ((s.r : Int) - 0 - 1).toNat = s.r - 1 by omega]
theorem cutB_cols {s : Sh} (hs : s.Ok) (l : List Cd) : cutB s false l = cutsC s l := by
  have := hs.c1
  unfold cutB cutsC gapL spnB
  simp only [Bool.false_eq_true, if_false]
  rw [show ((s.c : Int) - 0 - 1).toNat = s.c - 1 by omega]

theorem solid_cuts {s : Sh} (hs : s.Ok) (l : List Cd) : solidP s l = ((cutB s true l).length == 0 && (cutB s false l).length == 0) := by
  rw [cutB_rows hs, cutB_cols hs]; rfl

set_option maxRecDepth 100000 in
set_option maxHeartbeats 4000000 in
theorem goes_true (s : Sh) (A : Option Addr) (c : Nat) (l : List Cd) (at' : Int) (w : World) (hs : s.Ok) (hA : CardsAt w w.heap.size A l) (hf : ∀ x ∈ l, fitP s x) (hn : l.length < 1000000) :
    Calls Tryd.prog 54 #[.agg #[.int .i64 s.r, .int .i64 s.c, .int .i64 s.l, .int .i64 s.w], .slice A l.length c, .bool true, .int .i64 at'] w fun e w' => e = .returned (.bool (thrA s true at' l)) ∧ Below w.heap.size w w' := by
  obtain ⟨W0, hW0⟩ : ∃ W0, W0 = w.alloc (.cells #[.int .i64 s.r, .int .i64 s.c, .int .i64 s.l, .int .i64 s.w] 23) := ⟨_, rfl⟩
  have HB := Lib.hid (show Below w.heap.size w W0 from hW0 ▸ below_new w _)
  have hz0 : w.heap.size + 1 = W0.heap.size := by rw [hW0]; simp
  have HA := Lib.hid (hA.below HB.out (Nat.le_refl _))
  have HK := Lib.hid (fun (W : World) (h : Below W0.heap.size W0 W) => show W.cell? ⟨w.heap.size, 0, none⟩ = some (.int .i64 s.r) ∧ W.cell? ⟨w.heap.size, 1, none⟩ = some (.int .i64 s.c) ∧ W.cell? ⟨w.heap.size, 2, none⟩ = some (.int .i64 s.l) ∧ W.cell? ⟨w.heap.size, 3, none⟩ = some (.int .i64 s.w) from
    ⟨(h.cell (p := ⟨w.heap.size, 0, none⟩) (by simp; omega)).trans (by rw [hW0]; simp [go_sem]), (h.cell (p := ⟨w.heap.size, 1, none⟩) (by simp; omega)).trans (by rw [hW0]; simp [go_sem]), (h.cell (p := ⟨w.heap.size, 2, none⟩) (by simp; omega)).trans (by rw [hW0]; simp [go_sem]), (h.cell (p := ⟨w.heap.size, 3, none⟩) (by simp; omega)).trans (by rw [hW0]; simp [go_sem])⟩)
  have HF := Lib.hid hf
  generalize hV : thrA s true at' l = V
  have HV := Lib.hid hV
  have hr6 := hs.r6
  have hc6 := hs.c6
  clear hA hf hV
  go_enter Tryd.func54, Tryd.ntmps54
  go_wp2
  rw [← hW0]
  have HZ := Lib.hid hz0
  clear hW0 hz0
  go_loopw [15] (fun i wr => ∃ k : Nat, k ≤ l.length ∧ i = .int .i64 k ∧ Hid (thrA s true at' (l.take k) = true) ∧ Below W0.heap.size W0 wr) (fun i _ => l.length - (intOf i).toNat)
  case atStart => exact ⟨0, Nat.zero_le _, rfl, Lib.hid (by simp [thrA]), Below.refl _ _⟩
  case round =>
    obtain ⟨k, hk, rfl, HC, hbr⟩ := hrel
    by_cases hlt : k < l.length
    · have hx : l[k]? = some l[k] := List.getElem?_eq_getElem hlt
      generalize l[k] = x at hx
      have hzr := hbr.size
      have hzw := HZ.out
      have hfx := HF.out x (mem_of_get hx)
      obtain ⟨f1, f2, f3, f4⟩ := hfx
      obtain ⟨b, off, rfl, hb, d0, d1, d2⟩ := HA.out k x hx
      replace d0 := (hbr.cell (p := ⟨b, _, none⟩) (by simp; omega)).trans d0
      replace d1 := (hbr.cell (p := ⟨b, _, none⟩) (by simp; omega)).trans d1
      replace d2 := (hbr.cell (p := ⟨b, _, none⟩) (by simp; omega)).trans d2
      have hwz : w.heap.size < wr.heap.size := by omega
      have hts := take_snoc hx
      have HT := Lib.hid (show thrA s true at' (l.take (k + 1)) = (thrA s true at' (l.take k) && !thrB s true at' x) by rw [hts, thrA_snoc])
      have HX := Lib.hid (show thrB s true at' x = true → V = false from fun h => by
        rw [← HV.out]
        refine List.all_eq_false.2 ⟨x, mem_of_get hx, ?_⟩
        rw [h]; decide)
      have HS := Lib.hid (fun W => lsize_any s x.t W)
      have h3 := hiS_le hs x.t
      have h4 := wiS_le hs x.t
      have hv : thrB s true at' x = decide (x.row + 1 ≤ at' ∧ at' ≤ x.row + (hiS s x.t : Nat) - 1) := rfl
      generalize thrB s true at' x = v at hv HT HX
      generalize hiS s x.t = ha at *
      generalize wiS s x.t = wa at *
      have HR := Lib.hid (HB.out.trans (hbr.mono (by omega)))
      obtain ⟨r0, r1, r2, r3⟩ := HK.out _ hbr
      have hki : (k : Int) < (l.length : Int) := by omega
      have hk0 : (0 : Int) ≤ (k : Int) := by omega
      have hwf : IntKind.i64.wrap (x.row + (ha : Int)) = x.row + (ha : Int) := IntWalk.i64_in _ (by omega)
      clear hx hzw hts
      by_cases hc1 : x.row < at'
      · by_cases hc2 : at' < x.row + (ha : Int)
        · have hvt : v = true := by rw [hv]; exact decide_eq_true (by omega)
          have HVT := Lib.hid (HX.out hvt)
          clear hv hvt HT HX
          go_wp2_with (go_at_call 95; refine (HS.out _).mono ?_; rintro e w1 ⟨rfl, hb1⟩; have q0 : w1.cell? ⟨wr.heap.size, 0, none⟩ = some (.int .i64 x.row) := (hb1.cell (p := ⟨wr.heap.size, 0, none⟩) (by simp)).trans (by simp [go_sem]); have q1 : w1.cell? ⟨wr.heap.size, 1, none⟩ = some (.int .i64 x.col) := (hb1.cell (p := ⟨wr.heap.size, 1, none⟩) (by simp)).trans (by simp [go_sem]))
          go_ret
          exact ⟨ret_bool HVT.out.symm, HR.out.trans (Below.mono (below_via hb1) (by omega))⟩
        · have hvf : v = false := by rw [hv]; exact decide_eq_false (by omega)
          have HC2 := Lib.hid (show thrA s true at' (l.take (k + 1)) = true by rw [HT.out, HC.out, hvf]; rfl)
          clear hv hvf HT HX
          go_wp2_with (go_at_call 95; refine (HS.out _).mono ?_; rintro e w1 ⟨rfl, hb1⟩; have q0 : w1.cell? ⟨wr.heap.size, 0, none⟩ = some (.int .i64 x.row) := (hb1.cell (p := ⟨wr.heap.size, 0, none⟩) (by simp)).trans (by simp [go_sem]); have q1 : w1.cell? ⟨wr.heap.size, 1, none⟩ = some (.int .i64 x.col) := (hb1.cell (p := ⟨wr.heap.size, 1, none⟩) (by simp)).trans (by simp [go_sem]))
          go_roundw
          case rel => exact ⟨k + 1, by omega, by go_num, HC2, hbr.trans (Below.mono (below_via hb1) (by omega))⟩
          case measure => simp [intOf]; omega
      · have hvf : v = false := by rw [hv]; exact decide_eq_false (by omega)
        have HC2 := Lib.hid (show thrA s true at' (l.take (k + 1)) = true by rw [HT.out, HC.out, hvf]; rfl)
        clear hv hvf HT HX
        go_wp2_with (go_at_call 95; refine (HS.out _).mono ?_; rintro e w1 ⟨rfl, hb1⟩; have q0 : w1.cell? ⟨wr.heap.size, 0, none⟩ = some (.int .i64 x.row) := (hb1.cell (p := ⟨wr.heap.size, 0, none⟩) (by simp)).trans (by simp [go_sem]); have q1 : w1.cell? ⟨wr.heap.size, 1, none⟩ = some (.int .i64 x.col) := (hb1.cell (p := ⟨wr.heap.size, 1, none⟩) (by simp)).trans (by simp [go_sem]))
        go_roundw
        case rel => exact ⟨k + 1, by omega, by go_num, HC2, hbr.trans (Below.mono (below_via hb1) (by omega))⟩
        case measure => simp [intOf]; omega
    · have e : l.take k = l := List.take_of_length_le (by omega)
      have HE := Lib.hid (show true = V by have h := HC.out; rw [e] at h; rw [← HV.out]; exact h.symm)
      have HR := Lib.hid (HB.out.trans (hbr.mono (by have := HZ.out; omega)))
      clear e
      go_wp2
      go_ret
      exact ⟨ret_bool HE.out, HR.out⟩

set_option maxRecDepth 100000 in
set_option maxHeartbeats 4000000 in
theorem goes_false (s : Sh) (A : Option Addr) (c : Nat) (l : List Cd) (at' : Int) (w : World) (hs : s.Ok) (hA : CardsAt w w.heap.size A l) (hf : ∀ x ∈ l, fitP s x) (hn : l.length < 1000000) :
    Calls Tryd.prog 54 #[.agg #[.int .i64 s.r, .int .i64 s.c, .int .i64 s.l, .int .i64 s.w], .slice A l.length c, .bool false, .int .i64 at'] w fun e w' => e = .returned (.bool (thrA s false at' l)) ∧ Below w.heap.size w w' := by
  obtain ⟨W0, hW0⟩ : ∃ W0, W0 = w.alloc (.cells #[.int .i64 s.r, .int .i64 s.c, .int .i64 s.l, .int .i64 s.w] 23) := ⟨_, rfl⟩
  have HB := Lib.hid (show Below w.heap.size w W0 from hW0 ▸ below_new w _)
  have hz0 : w.heap.size + 1 = W0.heap.size := by rw [hW0]; simp
  have HA := Lib.hid (hA.below HB.out (Nat.le_refl _))
  have HK := Lib.hid (fun (W : World) (h : Below W0.heap.size W0 W) => show W.cell? ⟨w.heap.size, 0, none⟩ = some (.int .i64 s.r) ∧ W.cell? ⟨w.heap.size, 1, none⟩ = some (.int .i64 s.c) ∧ W.cell? ⟨w.heap.size, 2, none⟩ = some (.int .i64 s.l) ∧ W.cell? ⟨w.heap.size, 3, none⟩ = some (.int .i64 s.w) from
    ⟨(h.cell (p := ⟨w.heap.size, 0, none⟩) (by simp; omega)).trans (by rw [hW0]; simp [go_sem]), (h.cell (p := ⟨w.heap.size, 1, none⟩) (by simp; omega)).trans (by rw [hW0]; simp [go_sem]), (h.cell (p := ⟨w.heap.size, 2, none⟩) (by simp; omega)).trans (by rw [hW0]; simp [go_sem]), (h.cell (p := ⟨w.heap.size, 3, none⟩) (by simp; omega)).trans (by rw [hW0]; simp [go_sem])⟩)
  have HF := Lib.hid hf
  generalize hV : thrA s false at' l = V
  have HV := Lib.hid hV
  have hr6 := hs.r6
  have hc6 := hs.c6
  clear hA hf hV
  go_enter Tryd.func54, Tryd.ntmps54
  go_wp2
  rw [← hW0]
  have HZ := Lib.hid hz0
  clear hW0 hz0
  go_loopw [15] (fun i wr => ∃ k : Nat, k ≤ l.length ∧ i = .int .i64 k ∧ Hid (thrA s false at' (l.take k) = true) ∧ Below W0.heap.size W0 wr) (fun i _ => l.length - (intOf i).toNat)
  case atStart => exact ⟨0, Nat.zero_le _, rfl, Lib.hid (by simp [thrA]), Below.refl _ _⟩
  case round =>
    obtain ⟨k, hk, rfl, HC, hbr⟩ := hrel
    by_cases hlt : k < l.length
    · have hx : l[k]? = some l[k] := List.getElem?_eq_getElem hlt
      generalize l[k] = x at hx
      have hzr := hbr.size
      have hzw := HZ.out
      have hfx := HF.out x (mem_of_get hx)
      obtain ⟨f1, f2, f3, f4⟩ := hfx
      obtain ⟨b, off, rfl, hb, d0, d1, d2⟩ := HA.out k x hx
      replace d0 := (hbr.cell (p := ⟨b, _, none⟩) (by simp; omega)).trans d0
      replace d1 := (hbr.cell (p := ⟨b, _, none⟩) (by simp; omega)).trans d1
      replace d2 := (hbr.cell (p := ⟨b, _, none⟩) (by simp; omega)).trans d2
      have hwz : w.heap.size < wr.heap.size := by omega
      have hts := take_snoc hx
      have HT := Lib.hid (show thrA s false at' (l.take (k + 1)) = (thrA s false at' (l.take k) && !thrB s false at' x) by rw [hts, thrA_snoc])
      have HX := Lib.hid (show thrB s false at' x = true → V = false from fun h => by
        rw [← HV.out]
        refine List.all_eq_false.2 ⟨x, mem_of_get hx, ?_⟩
        rw [h]; decide)
      have HS := Lib.hid (fun W => lsize_any s x.t W)
      have h3 := hiS_le hs x.t
      have h4 := wiS_le hs x.t
      have hv : thrB s false at' x = decide (x.col + 1 ≤ at' ∧ at' ≤ x.col + (wiS s x.t : Nat) - 1) := rfl
      generalize thrB s false at' x = v at hv HT HX
      generalize hiS s x.t = ha at *
      generalize wiS s x.t = wa at *
      have HR := Lib.hid (HB.out.trans (hbr.mono (by omega)))
      obtain ⟨r0, r1, r2, r3⟩ := HK.out _ hbr
      have hki : (k : Int) < (l.length : Int) := by omega
      have hk0 : (0 : Int) ≤ (k : Int) := by omega
      have hwf : IntKind.i64.wrap (x.col + (wa : Int)) = x.col + (wa : Int) := IntWalk.i64_in _ (by omega)
      clear hx hzw hts
      by_cases hc1 : x.col < at'
      · by_cases hc2 : at' < x.col + (wa : Int)
        · have hvt : v = true := by rw [hv]; exact decide_eq_true (by omega)
          have HVT := Lib.hid (HX.out hvt)
          clear hv hvt HT HX
          go_wp2_with (go_at_call 95; refine (HS.out _).mono ?_; rintro e w1 ⟨rfl, hb1⟩; have q0 : w1.cell? ⟨wr.heap.size, 0, none⟩ = some (.int .i64 x.row) := (hb1.cell (p := ⟨wr.heap.size, 0, none⟩) (by simp)).trans (by simp [go_sem]); have q1 : w1.cell? ⟨wr.heap.size, 1, none⟩ = some (.int .i64 x.col) := (hb1.cell (p := ⟨wr.heap.size, 1, none⟩) (by simp)).trans (by simp [go_sem]))
          go_ret
          exact ⟨ret_bool HVT.out.symm, HR.out.trans (Below.mono (below_via hb1) (by omega))⟩
        · have hvf : v = false := by rw [hv]; exact decide_eq_false (by omega)
          have HC2 := Lib.hid (show thrA s false at' (l.take (k + 1)) = true by rw [HT.out, HC.out, hvf]; rfl)
          clear hv hvf HT HX
          go_wp2_with (go_at_call 95; refine (HS.out _).mono ?_; rintro e w1 ⟨rfl, hb1⟩; have q0 : w1.cell? ⟨wr.heap.size, 0, none⟩ = some (.int .i64 x.row) := (hb1.cell (p := ⟨wr.heap.size, 0, none⟩) (by simp)).trans (by simp [go_sem]); have q1 : w1.cell? ⟨wr.heap.size, 1, none⟩ = some (.int .i64 x.col) := (hb1.cell (p := ⟨wr.heap.size, 1, none⟩) (by simp)).trans (by simp [go_sem]))
          go_roundw
          case rel => exact ⟨k + 1, by omega, by go_num, HC2, hbr.trans (Below.mono (below_via hb1) (by omega))⟩
          case measure => simp [intOf]; omega
      · have hvf : v = false := by rw [hv]; exact decide_eq_false (by omega)
        have HC2 := Lib.hid (show thrA s false at' (l.take (k + 1)) = true by rw [HT.out, HC.out, hvf]; rfl)
        clear hv hvf HT HX
        go_wp2_with (go_at_call 95; refine (HS.out _).mono ?_; rintro e w1 ⟨rfl, hb1⟩; have q0 : w1.cell? ⟨wr.heap.size, 0, none⟩ = some (.int .i64 x.row) := (hb1.cell (p := ⟨wr.heap.size, 0, none⟩) (by simp)).trans (by simp [go_sem]); have q1 : w1.cell? ⟨wr.heap.size, 1, none⟩ = some (.int .i64 x.col) := (hb1.cell (p := ⟨wr.heap.size, 1, none⟩) (by simp)).trans (by simp [go_sem]))
        go_roundw
        case rel => exact ⟨k + 1, by omega, by go_num, HC2, hbr.trans (Below.mono (below_via hb1) (by omega))⟩
        case measure => simp [intOf]; omega
    · have e : l.take k = l := List.take_of_length_le (by omega)
      have HE := Lib.hid (show true = V by have h := HC.out; rw [e] at h; rw [← HV.out]; exact h.symm)
      have HR := Lib.hid (HB.out.trans (hbr.mono (by have := HZ.out; omega)))
      clear e
      go_wp2
      go_ret
      exact ⟨ret_bool HE.out, HR.out⟩

theorem goes_any (s : Sh) (A : Option Addr) (c : Nat) (l : List Cd) (ac : Bool) (at' : Int) (w : World) (hs : s.Ok) (hA : CardsAt w w.heap.size A l) (hf : ∀ x ∈ l, fitP s x) (hn : l.length < 1000000) :
    Calls Tryd.prog 54 #[.agg #[.int .i64 s.r, .int .i64 s.c, .int .i64 s.l, .int .i64 s.w], .slice A l.length c, .bool ac, .int .i64 at'] w fun e w' => e = .returned (.bool (thrA s ac at' l)) ∧ Below w.heap.size w w' := by
  rcases ac with _ | _
  · exact goes_false s A c l at' w hs hA hf hn
  · exact goes_true s A c l at' w hs hA hf hn
set_option maxRecDepth 100000 in
set_option maxHeartbeats 4000000 in
theorem through_true (s : Sh) (A : Option Addr) (c : Nat) (l : List Cd) (at' : Int) (w : World) (hs : s.Ok) (hA : RcdsAt w w.heap.size A l) (hf : ∀ x ∈ l, fitP s x) (hn : l.length < 1000000) :
    Calls Tryd.prog 114 #[.agg #[.int .i64 s.r, .int .i64 s.c, .int .i64 s.l, .int .i64 s.w], .slice A l.length c, .bool true, .int .i64 at'] w fun e w' => e = .returned (.bool (thrA s true at' l)) ∧ Below w.heap.size w w' := by
  obtain ⟨W0, hW0⟩ : ∃ W0, W0 = w.alloc (.cells #[.int .i64 s.r, .int .i64 s.c, .int .i64 s.l, .int .i64 s.w] 24) := ⟨_, rfl⟩
  have HB := Lib.hid (show Below w.heap.size w W0 from hW0 ▸ below_new w _)
  have hz0 : w.heap.size + 1 = W0.heap.size := by rw [hW0]; simp
  have HA := Lib.hid (hA.below HB.out (Nat.le_refl _))
  have HK := Lib.hid (fun (W : World) (h : Below W0.heap.size W0 W) => show W.cell? ⟨w.heap.size, 0, none⟩ = some (.int .i64 s.r) ∧ W.cell? ⟨w.heap.size, 1, none⟩ = some (.int .i64 s.c) ∧ W.cell? ⟨w.heap.size, 2, none⟩ = some (.int .i64 s.l) ∧ W.cell? ⟨w.heap.size, 3, none⟩ = some (.int .i64 s.w) from
    ⟨(h.cell (p := ⟨w.heap.size, 0, none⟩) (by simp; omega)).trans (by rw [hW0]; simp [go_sem]), (h.cell (p := ⟨w.heap.size, 1, none⟩) (by simp; omega)).trans (by rw [hW0]; simp [go_sem]), (h.cell (p := ⟨w.heap.size, 2, none⟩) (by simp; omega)).trans (by rw [hW0]; simp [go_sem]), (h.cell (p := ⟨w.heap.size, 3, none⟩) (by simp; omega)).trans (by rw [hW0]; simp [go_sem])⟩)
  have HF := Lib.hid hf
  generalize hV : thrA s true at' l = V
  have HV := Lib.hid hV
  have hr6 := hs.r6
  have hc6 := hs.c6
  clear hA hf hV
  go_enter Tryd.func114, Tryd.ntmps114
  go_wp2
  rw [← hW0]
  have HZ := Lib.hid hz0
  clear hW0 hz0
  go_loopw [9] (fun i wr => ∃ k : Nat, k ≤ l.length ∧ i = .int .i64 k ∧ Hid (thrA s true at' (l.take k) = true) ∧ Below W0.heap.size W0 wr) (fun i _ => l.length - (intOf i).toNat)
  case atStart => exact ⟨0, Nat.zero_le _, rfl, Lib.hid (by simp [thrA]), Below.refl _ _⟩
  case round =>
    obtain ⟨k, hk, rfl, HC, hbr⟩ := hrel
    by_cases hlt : k < l.length
    · have hx : l[k]? = some l[k] := List.getElem?_eq_getElem hlt
      generalize l[k] = x at hx
      have hzr := hbr.size
      have hzw := HZ.out
      have hfx := HF.out x (mem_of_get hx)
      obtain ⟨f1, f2, f3, f4⟩ := hfx
      obtain ⟨b, off, rfl, hb, d0, d1, d2⟩ := HA.out k x hx
      replace d0 := (hbr.cell (p := ⟨b, _, none⟩) (by simp; omega)).trans d0
      replace d1 := (hbr.cell (p := ⟨b, _, none⟩) (by simp; omega)).trans d1
      replace d2 := (hbr.cell (p := ⟨b, _, none⟩) (by simp; omega)).trans d2
      have hbz : b < wr.heap.size := by omega
      have hwz : w.heap.size < wr.heap.size := by omega
      have hts := take_snoc hx
      have HT := Lib.hid (show thrA s true at' (l.take (k + 1)) = (thrA s true at' (l.take k) && !thrB s true at' x) by rw [hts, thrA_snoc])
      have HX := Lib.hid (show thrB s true at' x = true → V = false from fun h => by
        rw [← HV.out]
        refine List.all_eq_false.2 ⟨x, mem_of_get hx, ?_⟩
        rw [h]; decide)
      have HS := fun W (Q : Ending → World → Prop) (h : Below wr.heap.size wr W) (hQ : ∀ w', Below wr.heap.size wr w' → Q (.returned (.tuple #[.int .i64 (hiS s x.t : Nat), .int .i64 (wiS s x.t : Nat)])) w') => (rsize_any s x W).mono fun e w' ⟨he, hb'⟩ => by rw [he]; exact hQ w' (h.trans (hb'.mono h.size))
      have h3 := hiS_le hs x.t
      have h4 := wiS_le hs x.t
      have hv : thrB s true at' x = decide (x.row + 1 ≤ at' ∧ at' ≤ x.row + (hiS s x.t : Nat) - 1) := rfl
      generalize thrB s true at' x = v at hv HT HX
      generalize hiS s x.t = ha at *
      generalize wiS s x.t = wa at *
      have HSS := Lib.hid HS
      have HI := Lib.hid (fun (W : World) => is_same (W := W) (n := at') (lo := x.row + 1) (hi := x.row + (ha : Nat) - 1) hv)
      have HR := Lib.hid (HB.out.trans (hbr.mono (by omega)))
      obtain ⟨r0, r1, r2, r3⟩ := HK.out _ hbr
      have HKK := Lib.hid (fun (W : World) (h : Below wr.heap.size wr W) => show W.cell? ⟨w.heap.size, 0, none⟩ = some (.int .i64 s.r) ∧ W.cell? ⟨w.heap.size, 1, none⟩ = some (.int .i64 s.c) ∧ W.cell? ⟨w.heap.size, 2, none⟩ = some (.int .i64 s.l) ∧ W.cell? ⟨w.heap.size, 3, none⟩ = some (.int .i64 s.w) ∧ W.cell? ⟨b, off + k * 3, none⟩ = some (.int .i64 x.row) ∧ W.cell? ⟨b, off + k * 3 + 1, none⟩ = some (.int .i64 x.col) ∧ W.cell? ⟨b, off + k * 3 + 2, none⟩ = some (.bool x.t) from
        ⟨(h.cell (p := ⟨w.heap.size, 0, none⟩) hwz).trans r0, (h.cell (p := ⟨w.heap.size, 1, none⟩) hwz).trans r1, (h.cell (p := ⟨w.heap.size, 2, none⟩) hwz).trans r2, (h.cell (p := ⟨w.heap.size, 3, none⟩) hwz).trans r3, (h.cell (p := ⟨b, _, none⟩) hbz).trans d0, (h.cell (p := ⟨b, _, none⟩) hbz).trans d1, (h.cell (p := ⟨b, _, none⟩) hbz).trans d2⟩)
      have hbd := (Below.refl wr.heap.size wr).drew
      have hki : (k : Int) < (l.length : Int) := by omega
      have hk0 : (0 : Int) ≤ (k : Int) := by omega
      clear hx hv r0 r1 r2 r3 d0 d1 d2 hzw HS hts
      go_wp2
      go_region_held3 (fun W => W.cell? ⟨w.heap.size, 0, none⟩ = some (.int .i64 s.r) ∧ W.cell? ⟨w.heap.size, 1, none⟩ = some (.int .i64 s.c) ∧ W.cell? ⟨w.heap.size, 2, none⟩ = some (.int .i64 s.l) ∧ W.cell? ⟨w.heap.size, 3, none⟩ = some (.int .i64 s.w) ∧ W.cell? ⟨b, off + k * 3, none⟩ = some (.int .i64 x.row) ∧ W.cell? ⟨b, off + k * 3 + 1, none⟩ = some (.int .i64 x.col) ∧ W.cell? ⟨b, off + k * 3 + 2, none⟩ = some (.bool x.t))
        (exact HKK.out _ (by assumption))
        (first | (go_at_call 84; with_reducible refine HSS.out _ _ (by assumption) ?_; intro w6 hb6))
      all_goals
        change Exit.then _ _ Exit.normal _ _
        have HZ6 := Lib.hid hb6
        obtain ⟨_, _, _, _, r0, r1, r2⟩ := HKK.out _ hb6
        clear hbd hb6
        have hw1 : IntKind.i64.wrap (x.row + 1) = x.row + 1 := IntWalk.i64_in _ (by omega)
        have hw2 : IntKind.i64.wrap (x.row + (ha : Int)) = x.row + (ha : Int) := IntWalk.i64_in _ (by omega)
        have hw3 : IntKind.i64.wrap (x.row + (ha : Int) - 1) = x.row + (ha : Int) - 1 := IntWalk.i64_in _ (by omega)
        rcases v with _ | _
        · have HC2 := Lib.hid (show thrA s true at' (l.take (k + 1)) = true by rw [HT.out, HC.out]; rfl)
          go_wp2
          go_quiet ((go_at_call 67; exact Calls.quiet_of_same (HI.out _)))
          clear hw1 hw2 hw3
          go_wp2_with fail
          go_roundw
          case rel => exact ⟨k + 1, by omega, by go_num, HC2, hbr.trans (Below.mono (below_drewN HZ6.out _) (by omega))⟩
          case measure => simp [intOf]; omega
        · have HVT := Lib.hid (HX.out rfl)
          go_wp2
          go_quiet ((go_at_call 67; exact Calls.quiet_of_same (HI.out _)))
          clear hw1 hw2 hw3
          go_wp2_with fail
          go_ret
          exact ⟨ret_bool HVT.out.symm, HR.out.trans (Below.mono (below_drewN HZ6.out _) (by omega))⟩
    · have e : l.take k = l := List.take_of_length_le (by omega)
      have HE := Lib.hid (show true = V by have h := HC.out; rw [e] at h; rw [← HV.out]; exact h.symm)
      have HR := Lib.hid (HB.out.trans (hbr.mono (by have := HZ.out; omega)))
      clear e
      go_wp2
      go_ret
      exact ⟨ret_bool HE.out, HR.out⟩

set_option maxRecDepth 100000 in
set_option maxHeartbeats 4000000 in
theorem through_false (s : Sh) (A : Option Addr) (c : Nat) (l : List Cd) (at' : Int) (w : World) (hs : s.Ok) (hA : RcdsAt w w.heap.size A l) (hf : ∀ x ∈ l, fitP s x) (hn : l.length < 1000000) :
    Calls Tryd.prog 114 #[.agg #[.int .i64 s.r, .int .i64 s.c, .int .i64 s.l, .int .i64 s.w], .slice A l.length c, .bool false, .int .i64 at'] w fun e w' => e = .returned (.bool (thrA s false at' l)) ∧ Below w.heap.size w w' := by
  obtain ⟨W0, hW0⟩ : ∃ W0, W0 = w.alloc (.cells #[.int .i64 s.r, .int .i64 s.c, .int .i64 s.l, .int .i64 s.w] 24) := ⟨_, rfl⟩
  have HB := Lib.hid (show Below w.heap.size w W0 from hW0 ▸ below_new w _)
  have hz0 : w.heap.size + 1 = W0.heap.size := by rw [hW0]; simp
  have HA := Lib.hid (hA.below HB.out (Nat.le_refl _))
  have HK := Lib.hid (fun (W : World) (h : Below W0.heap.size W0 W) => show W.cell? ⟨w.heap.size, 0, none⟩ = some (.int .i64 s.r) ∧ W.cell? ⟨w.heap.size, 1, none⟩ = some (.int .i64 s.c) ∧ W.cell? ⟨w.heap.size, 2, none⟩ = some (.int .i64 s.l) ∧ W.cell? ⟨w.heap.size, 3, none⟩ = some (.int .i64 s.w) from
    ⟨(h.cell (p := ⟨w.heap.size, 0, none⟩) (by simp; omega)).trans (by rw [hW0]; simp [go_sem]), (h.cell (p := ⟨w.heap.size, 1, none⟩) (by simp; omega)).trans (by rw [hW0]; simp [go_sem]), (h.cell (p := ⟨w.heap.size, 2, none⟩) (by simp; omega)).trans (by rw [hW0]; simp [go_sem]), (h.cell (p := ⟨w.heap.size, 3, none⟩) (by simp; omega)).trans (by rw [hW0]; simp [go_sem])⟩)
  have HF := Lib.hid hf
  generalize hV : thrA s false at' l = V
  have HV := Lib.hid hV
  have hr6 := hs.r6
  have hc6 := hs.c6
  clear hA hf hV
  go_enter Tryd.func114, Tryd.ntmps114
  go_wp2
  rw [← hW0]
  have HZ := Lib.hid hz0
  clear hW0 hz0
  go_loopw [9] (fun i wr => ∃ k : Nat, k ≤ l.length ∧ i = .int .i64 k ∧ Hid (thrA s false at' (l.take k) = true) ∧ Below W0.heap.size W0 wr) (fun i _ => l.length - (intOf i).toNat)
  case atStart => exact ⟨0, Nat.zero_le _, rfl, Lib.hid (by simp [thrA]), Below.refl _ _⟩
  case round =>
    obtain ⟨k, hk, rfl, HC, hbr⟩ := hrel
    by_cases hlt : k < l.length
    · have hx : l[k]? = some l[k] := List.getElem?_eq_getElem hlt
      generalize l[k] = x at hx
      have hzr := hbr.size
      have hzw := HZ.out
      have hfx := HF.out x (mem_of_get hx)
      obtain ⟨f1, f2, f3, f4⟩ := hfx
      obtain ⟨b, off, rfl, hb, d0, d1, d2⟩ := HA.out k x hx
      replace d0 := (hbr.cell (p := ⟨b, _, none⟩) (by simp; omega)).trans d0
      replace d1 := (hbr.cell (p := ⟨b, _, none⟩) (by simp; omega)).trans d1
      replace d2 := (hbr.cell (p := ⟨b, _, none⟩) (by simp; omega)).trans d2
      have hbz : b < wr.heap.size := by omega
      have hwz : w.heap.size < wr.heap.size := by omega
      have hts := take_snoc hx
      have HT := Lib.hid (show thrA s false at' (l.take (k + 1)) = (thrA s false at' (l.take k) && !thrB s false at' x) by rw [hts, thrA_snoc])
      have HX := Lib.hid (show thrB s false at' x = true → V = false from fun h => by
        rw [← HV.out]
        refine List.all_eq_false.2 ⟨x, mem_of_get hx, ?_⟩
        rw [h]; decide)
      have HS := fun W (Q : Ending → World → Prop) (h : Below wr.heap.size wr W) (hQ : ∀ w', Below wr.heap.size wr w' → Q (.returned (.tuple #[.int .i64 (hiS s x.t : Nat), .int .i64 (wiS s x.t : Nat)])) w') => (rsize_any s x W).mono fun e w' ⟨he, hb'⟩ => by rw [he]; exact hQ w' (h.trans (hb'.mono h.size))
      have h3 := hiS_le hs x.t
      have h4 := wiS_le hs x.t
      have hv : thrB s false at' x = decide (x.col + 1 ≤ at' ∧ at' ≤ x.col + (wiS s x.t : Nat) - 1) := rfl
      generalize thrB s false at' x = v at hv HT HX
      generalize hiS s x.t = ha at *
      generalize wiS s x.t = wa at *
      have HSS := Lib.hid HS
      have HI := Lib.hid (fun (W : World) => is_same (W := W) (n := at') (lo := x.col + 1) (hi := x.col + (wa : Nat) - 1) hv)
      have HR := Lib.hid (HB.out.trans (hbr.mono (by omega)))
      obtain ⟨r0, r1, r2, r3⟩ := HK.out _ hbr
      have HKK := Lib.hid (fun (W : World) (h : Below wr.heap.size wr W) => show W.cell? ⟨w.heap.size, 0, none⟩ = some (.int .i64 s.r) ∧ W.cell? ⟨w.heap.size, 1, none⟩ = some (.int .i64 s.c) ∧ W.cell? ⟨w.heap.size, 2, none⟩ = some (.int .i64 s.l) ∧ W.cell? ⟨w.heap.size, 3, none⟩ = some (.int .i64 s.w) ∧ W.cell? ⟨b, off + k * 3, none⟩ = some (.int .i64 x.row) ∧ W.cell? ⟨b, off + k * 3 + 1, none⟩ = some (.int .i64 x.col) ∧ W.cell? ⟨b, off + k * 3 + 2, none⟩ = some (.bool x.t) from
        ⟨(h.cell (p := ⟨w.heap.size, 0, none⟩) hwz).trans r0, (h.cell (p := ⟨w.heap.size, 1, none⟩) hwz).trans r1, (h.cell (p := ⟨w.heap.size, 2, none⟩) hwz).trans r2, (h.cell (p := ⟨w.heap.size, 3, none⟩) hwz).trans r3, (h.cell (p := ⟨b, _, none⟩) hbz).trans d0, (h.cell (p := ⟨b, _, none⟩) hbz).trans d1, (h.cell (p := ⟨b, _, none⟩) hbz).trans d2⟩)
      have hbd := (Below.refl wr.heap.size wr).drew
      have hki : (k : Int) < (l.length : Int) := by omega
      have hk0 : (0 : Int) ≤ (k : Int) := by omega
      clear hx hv r0 r1 r2 r3 d0 d1 d2 hzw HS hts
      go_wp2
      go_region_held3 (fun W => W.cell? ⟨w.heap.size, 0, none⟩ = some (.int .i64 s.r) ∧ W.cell? ⟨w.heap.size, 1, none⟩ = some (.int .i64 s.c) ∧ W.cell? ⟨w.heap.size, 2, none⟩ = some (.int .i64 s.l) ∧ W.cell? ⟨w.heap.size, 3, none⟩ = some (.int .i64 s.w) ∧ W.cell? ⟨b, off + k * 3, none⟩ = some (.int .i64 x.row) ∧ W.cell? ⟨b, off + k * 3 + 1, none⟩ = some (.int .i64 x.col) ∧ W.cell? ⟨b, off + k * 3 + 2, none⟩ = some (.bool x.t))
        (exact HKK.out _ (by assumption))
        (first | (go_at_call 84; with_reducible refine HSS.out _ _ (by assumption) ?_; intro w6 hb6))
      all_goals
        change Exit.then _ _ Exit.normal _ _
        have HZ6 := Lib.hid hb6
        obtain ⟨_, _, _, _, r0, r1, r2⟩ := HKK.out _ hb6
        clear hbd hb6
        have hw1 : IntKind.i64.wrap (x.col + 1) = x.col + 1 := IntWalk.i64_in _ (by omega)
        have hw2 : IntKind.i64.wrap (x.col + (wa : Int)) = x.col + (wa : Int) := IntWalk.i64_in _ (by omega)
        have hw3 : IntKind.i64.wrap (x.col + (wa : Int) - 1) = x.col + (wa : Int) - 1 := IntWalk.i64_in _ (by omega)
        rcases v with _ | _
        · have HC2 := Lib.hid (show thrA s false at' (l.take (k + 1)) = true by rw [HT.out, HC.out]; rfl)
          go_wp2
          go_quiet ((go_at_call 67; exact Calls.quiet_of_same (HI.out _)))
          clear hw1 hw2 hw3
          go_wp2_with fail
          go_roundw
          case rel => exact ⟨k + 1, by omega, by go_num, HC2, hbr.trans (Below.mono (below_drewN HZ6.out _) (by omega))⟩
          case measure => simp [intOf]; omega
        · have HVT := Lib.hid (HX.out rfl)
          go_wp2
          go_quiet ((go_at_call 67; exact Calls.quiet_of_same (HI.out _)))
          clear hw1 hw2 hw3
          go_wp2_with fail
          go_ret
          exact ⟨ret_bool HVT.out.symm, HR.out.trans (Below.mono (below_drewN HZ6.out _) (by omega))⟩
    · have e : l.take k = l := List.take_of_length_le (by omega)
      have HE := Lib.hid (show true = V by have h := HC.out; rw [e] at h; rw [← HV.out]; exact h.symm)
      have HR := Lib.hid (HB.out.trans (hbr.mono (by have := HZ.out; omega)))
      clear e
      go_wp2
      go_ret
      exact ⟨ret_bool HE.out, HR.out⟩

theorem through_any (s : Sh) (A : Option Addr) (c : Nat) (l : List Cd) (ac : Bool) (at' : Int) (w : World) (hs : s.Ok) (hA : RcdsAt w w.heap.size A l) (hf : ∀ x ∈ l, fitP s x) (hn : l.length < 1000000) :
    Calls Tryd.prog 114 #[.agg #[.int .i64 s.r, .int .i64 s.c, .int .i64 s.l, .int .i64 s.w], .slice A l.length c, .bool ac, .int .i64 at'] w fun e w' => e = .returned (.bool (thrA s ac at' l)) ∧ Below w.heap.size w w' := by
  rcases ac with _ | _
  · exact through_false s A c l at' w hs hA hf hn
  · exact through_true s A c l at' w hs hA hf hn

set_option maxRecDepth 100000 in
set_option maxHeartbeats 4000000 in
theorem rcuts_any (s : Sh) (A : Option Addr) (c : Nat) (l : List Cd) (ac : Bool) (w : World) (hs : s.Ok) (hA : RcdsAt w w.heap.size A l) (hf : ∀ x ∈ l, fitP s x) (hn : l.length < 1000000) :
    Calls Tryd.prog 76 #[.agg #[.int .i64 s.r, .int .i64 s.c, .int .i64 s.l, .int .i64 s.w], .slice A l.length c, .bool ac] w (RetInts w (cutB s ac l)) := by
  obtain ⟨W0, hW0⟩ : ∃ W0, W0 = w.alloc (.cells #[.int .i64 s.r, .int .i64 s.c, .int .i64 s.l, .int .i64 s.w] 24) := ⟨_, rfl⟩
  have HB := Lib.hid (show Below w.heap.size w W0 from hW0 ▸ below_new w _)
  have hz0 : w.heap.size + 1 = W0.heap.size := by rw [hW0]; simp
  have hA0 := (hA.below HB.out (Nat.le_refl _)).mono (show w.heap.size ≤ W0.heap.size by omega)
  have HT := Lib.hid (fun (at' : Int) (W : World) (h : Below W0.heap.size W0 W) => through_any s A c l ac at' W hs (hA0.up h) hf hn)
  have HK := Lib.hid (fun (W : World) (h : Below W0.heap.size W0 W) => show W.cell? ⟨w.heap.size, 0, none⟩ = some (.int .i64 s.r) ∧ W.cell? ⟨w.heap.size, 1, none⟩ = some (.int .i64 s.c) ∧ W.cell? ⟨w.heap.size, 2, none⟩ = some (.int .i64 s.l) ∧ W.cell? ⟨w.heap.size, 3, none⟩ = some (.int .i64 s.w) from
    ⟨(h.cell (p := ⟨w.heap.size, 0, none⟩) (by simp; omega)).trans (by rw [hW0]; simp [go_sem]), (h.cell (p := ⟨w.heap.size, 1, none⟩) (by simp; omega)).trans (by rw [hW0]; simp [go_sem]), (h.cell (p := ⟨w.heap.size, 2, none⟩) (by simp; omega)).trans (by rw [hW0]; simp [go_sem]), (h.cell (p := ⟨w.heap.size, 3, none⟩) (by simp; omega)).trans (by rw [hW0]; simp [go_sem])⟩)
  have HTF := Lib.hid (fun at' => thr_free s ac at' l)
  unfold cutB
  obtain ⟨n, hn1⟩ : ∃ n : Nat, n = (if ac = true then s.r else s.c) := ⟨_, rfl⟩
  have hn6 : 1 ≤ n ∧ n ≤ 6 := by
    have := hs.r1; have := hs.r6; have := hs.c1; have := hs.c6
    rw [hn1]; split <;> omega
  rw [← hn1]
  generalize spnB s ac l = sp at *
  have HN := Lib.hid hn1
  have hb00 : Below W0.heap.size W0 W0 := Below.refl _ _
  clear hA hA0 hf hn1
  rcases ac with _ | _
  all_goals
    have hnc := HN.out
    simp only [Bool.false_eq_true, if_false, if_true] at hnc
    have HC := Lib.hid hnc
    clear HN
    go_enter Tryd.func76, Tryd.ntmps76
    go_wp2
    rw [← hW0]
    obtain ⟨k0, k1, k2, k3⟩ := HK.out W0 hb00
    have HZ := Lib.hid hz0
    clear hW0 hz0 hnc
    go_wp2
    rw [← HC.out]
    go_loopw [8, 9] (fun v i wr => ∃ k : Nat, k + 1 ≤ n ∧ i = .int .i64 (1 + (k : Nat)) ∧ wr.ownsRow W0.heap.size 3 1 v (gapN 0 k sp).length ((gapN 0 k sp).map (Value.int .i64)) ∧ Below W0.heap.size W0 wr) (fun _ i _ => 8 - (intOf i).toNat)
    case atStart => exact ⟨0, by omega, by simp, by exact World.ownsRow_nil _ _ _ _, Below.refl _ _⟩
    case round =>
      obtain ⟨k, hk, rfl, hown, hbr⟩ := hrel
      obtain ⟨r0, r1, r2, r3⟩ := HK.out _ hbr
      have hzr := hbr.size
      have hlen := gapN_len 0 k sp
      by_cases hlt : k + 1 < n
      · have hlt' : 1 + (k : Int) < (n : Int) := by omega
        have hg := gapN_free 0 k sp
        have hat : (0 : Int) + 1 + (k : Nat) = 1 + (k : Int) := by omega
        rw [hat] at hg
        have HG := Lib.hid hg
        generalize gapN 0 k sp = L at hown hlen HG
        have HTT := Lib.hid (fun W (h : Below W0.heap.size W0 W) => HT.out (1 + (k : Int)) W h)
        have hq := HTF.out (1 + (k : Int))
        clear hg hat
        rw [hq] at HTT
        clear hq
        rcases hfr : free' sp (1 + (k : Int)) with _ | _
        · rw [hfr] at HTT
          rw [hfr] at HG
          clear hfr
          go_wp2_with ((with_reducible refine (HTT.out _ hbr).mono ?_); rintro e w5 ⟨rfl, hb5⟩)
          go_roundw
          case rel => exact ⟨k + 1, by omega, by go_num, by rw [HG.out]; simpa using own_below hown hb5, hbr.trans (hb5.mono hzr)⟩
          case measure => simp [intOf]; omega
        · rw [hfr] at HTT
          rw [hfr] at HG
          clear hfr
          go_wp2_with (first
            | (go_at_call 114; (with_reducible refine (HTT.out _ hbr).mono ?_); rintro e w5 ⟨rfl, hb5⟩; have hown5 := own_below hown hb5; have hb6 := hbr.trans (hb5.mono hzr))
            | (at_builtin; refine wpList_append_int _ rfl _ _ rfl W0.heap.size _ w5.heap.size _ _ (1 + (k : Int)) rfl (hown5.alloc _) rfl (heap_at _ _ _ rfl) (by omega) (by have := hb6.size; simp; omega) ?_; intro A5 c5 w6 hown6 hgr6 _))
          go_roundw
          case rel =>
            refine ⟨k + 1, by omega, by go_num, ?_, ?_⟩
            · rw [HG.out, if_pos trivial, List.length_append]; exact hown6
            · exact (hb6.alloc hb6.size _).grown hgr6 (by have := hb6.size; simp; omega) (fun g hg => (hown5.lt g hg).1)
          case measure => simp [intOf]; omega
      · have hkn : k = n - 1 := by omega
        have hlt' : ¬ (1 + (k : Int) < (n : Int)) := by omega
        obtain ⟨A', c', rfl, hA', _⟩ := own_ints hown
        have HR := Lib.hid (show RetInts w (gapN 0 (n - 1) sp) (.returned (.slice A' (gapN 0 k sp).length c')) wr from hkn ▸ ⟨A', c', rfl, hA', HB.out.trans (hbr.mono (by have := HZ.out; omega))⟩)
        clear hA' hown hkn hlen
        go_wp2
        go_ret
        exact HR.out


theorem sqI_nxt {s : Sh} {cov : Nat} {x : Cd} (h : x ∈ nxt s cov) : sqI s x = (ctzU 64 cov : Nat) := by
  obtain ⟨e1, e2⟩ := mem_tryL (mem_nxt h).1
  unfold sqI
  rw [e1, e2]
  have h1 := Nat.div_add_mod (ctzU 64 cov) s.c
  rw [Nat.mul_comm] at h1
  have h2 : ((ctzU 64 cov / s.c * s.c + ctzU 64 cov % s.c : Nat) : Int) = (ctzU 64 cov : Nat) := by rw [h1]
  rw [Int.natCast_add, Int.natCast_mul] at h2
  exact h2
theorem turned_nxt {s : Sh} {cov : Nat} {x : Cd} (h : x ∈ nxt s cov) : ¬ (x.t = true ∧ s.l = s.w) := by
  rintro ⟨h1, h2⟩
  have h3 := (mem_nxt h).1
  unfold tryL at h3
  dsimp only at h3
  rw [if_pos h2] at h3
  rw [List.mem_singleton.1 h3] at h1
  cases h1
theorem fils_ver {s : Sh} (hs : s.Ok) : ∀ (n cov : Nat) (pre l : List Cd) (last : Int), (∀ i : Nat, (i : Int) ≤ last → cov.testBit i = true) → l ∈ fils s n cov pre → ∃ m, l = pre ++ m ∧ verM s m cov last = 0
  | 0, _, _, _, _, _, h => by simp [fils] at h
  | n + 1, cov, pre, l, last, hb, h => by
    rw [fils] at h
    split at h
    · rename_i e
      simp at h; subst h
      exact ⟨[], by simp, by rw [verM, if_pos e]⟩
    · obtain ⟨x, hx, hl⟩ := List.mem_flatMap.1 h
      have hq := sqI_nxt hx
      have hbit := nxt_bit hs hx
      obtain ⟨_, hf, h0⟩ := mem_nxt hx
      have hc : cov.testBit (ctzU 64 cov) = false := by
        have := congrArg (fun n => Nat.testBit n (ctzU 64 cov)) h0
        simp only [Nat.testBit_and, Nat.zero_testBit, hbit, Bool.and_true] at this
        exact this
      obtain ⟨m, e, hm⟩ := fils_ver hs n (cov ||| und s x) (pre ++ [x]) l (sqI s x) (fun i hi => by
        rw [Nat.testBit_or]
        by_cases hi2 : i = ctzU 64 cov
        · rw [hi2, hbit, Bool.or_true]
        · rw [ctzU_below 64 cov i (by omega), Bool.true_or]) hl
      refine ⟨x :: m, by rw [e]; simp, ?_⟩
      rw [verM_cons_ok (turned_nxt hx) hf ?_ h0]
      · exact hm
      · intro hle
        have := hb (ctzU 64 cov) (by omega)
        rw [hc] at this; cases this
theorem filC_ver {s : Sh} (hs : s.Ok) {l : List Cd} (h : l ∈ filC s 0 []) : verS s l = 0 := by
  obtain ⟨m, e, hm⟩ := fils_ver hs 37 0 [] l (-1) (fun i hi => by omega) h
  rw [List.nil_append] at e
  subst e
  exact hm
theorem strF_ok {s : Sh} (hs : s.Ok) {l : List Cd} (h : verS s l = 0) : strF s.r s.c s.l s.w l = (divS s l).st ∧ verF s.r s.c s.l s.w l = 0 := by
  have h2 : verF s.r s.c s.l s.w l = 0 := by
    unfold verF
    rw [if_pos (chkS_ok hs)]
    exact h
  refine ⟨?_, h2⟩
  unfold strF
  rw [if_pos h2]
  rfl

/-- A line ahead of a row, or of a column, goes through no card. -/
def lineB (s : Sh) (l : List Cd) (at' : Nat) : Bool := (decide (at' < s.r) && thrA s true at' l) || (decide (at' < s.c) && thrA s false at' l)
theorem gap_nil (n : Nat) (sp : List (Int × Int)) : (gapN 0 n sp).length = 0 ↔ ∀ k : Nat, k < n → free' sp (1 + (k : Int)) = false := by
  induction n with
  | zero => simp [gapN]
  | succ n ih =>
    have e := gapN_free 0 n sp
    rw [show (0 : Int) + 1 + (n : Nat) = 1 + (n : Int) by omega] at e
    rw [e, List.length_append]
    constructor
    · intro h k hk
      by_cases hkn : k = n
      · subst hkn
        rcases hf : free' sp (1 + (k : Int)) with _ | _
        · rfl
        · rw [if_pos hf] at h; simp at h
      · exact ih.1 (by omega) k (by omega)
    · intro h
      rw [ih.2 fun k hk => h k (by omega), if_neg (by rw [h n (by omega)]; decide)]
      rfl
theorem solid_line {s : Sh} (hs : s.Ok) (l : List Cd) : solidP s l = true ↔ ∀ k : Nat, k < 5 → lineB s l (k + 1) = false := by
  have hr := hs.r6
  have hc := hs.c6
  have e : ∀ k : Nat, ((k + 1 : Nat) : Int) = 1 + (k : Int) := fun k => by omega
  rw [solid_cuts hs]
  unfold cutB
  simp only [Bool.and_eq_true, beq_iff_eq, gap_nil, if_true, Bool.false_eq_true, if_false]
  constructor
  · rintro ⟨h1, h2⟩ k hk
    unfold lineB
    rw [thr_free, thr_free, e, Bool.or_eq_false_iff]
    constructor
    · by_cases h : k + 1 < s.r
      · rw [h1 k (by omega), Bool.and_false]
      · rw [decide_eq_false h, Bool.false_and]
    · by_cases h : k + 1 < s.c
      · rw [h2 k (by omega), Bool.and_false]
      · rw [decide_eq_false h, Bool.false_and]
  · intro h
    constructor
    · intro k hk
      have := h k (by omega)
      unfold lineB at this
      rw [thr_free, thr_free, e, Bool.or_eq_false_iff, decide_eq_true (by omega), Bool.true_and] at this
      exact this.1
    · intro k hk
      have := h k (by omega)
      unfold lineB at this
      rw [thr_free, thr_free, e, Bool.or_eq_false_iff, decide_eq_true (p := k + 1 < s.c) (by omega), Bool.true_and] at this
      exact this.2
theorem hold_all {s : Sh} {l : List Cd} (hf : ∀ x ∈ l, fitP s x) : (l.map (blk s)).filter (holdsB (areaB s)) = l.map (blk s) := by
  rw [List.filter_eq_self]
  intro x hx
  obtain ⟨y, hy, rfl⟩ := List.mem_map.1 hx
  obtain ⟨h1, h2, h3, h4⟩ := hf y hy
  unfold holdsB areaB blk
  exact decide_eq_true (by dsimp only; omega)
/-- A filling without a cut is straight just if it is one card. -/
theorem divS_solid {s : Sh} (hs : s.Ok) {l : List Cd} (hf : ∀ x ∈ l, fitP s x) (h : solidP s l = true) : (divS s l).st = decide (l.length = 1) := by
  unfold divS
  rw [divC_eq _ (areaB_ok hs), hold_all hf, List.length_map]
  by_cases h1 : l.length = 1
  · rw [if_pos h1, decide_eq_true h1]
  · rw [if_neg h1, decide_eq_false h1]
    have : halvesB (areaB s) (l.map (blk s)) = [] := by
      unfold solidP at h
      simp only [Bool.and_eq_true, beq_iff_eq] at h
      have h1 := List.eq_nil_of_length_eq_zero h.1
      have h2 := List.eq_nil_of_length_eq_zero h.2
      unfold halvesB areaB
      dsimp only
      rw [h1, h2]; rfl
    rw [this]; rfl

/-- A card lies ahead of a row, or of a column. -/
def befB (ac : Bool) (at' : Int) (x : Cd) : Bool := if ac = true then decide (x.row < at') else decide (x.col < at')
def ahead (ac : Bool) (at' : Int) (l : List Cd) : List Cd := l.filter (befB ac at')
def behind (ac : Bool) (at' : Int) (l : List Cd) : List Cd := l.filter fun x => !befB ac at' x
/-- One cut is tried. -/
def stepD (s : Sh) (f : List Cd → Int) (l : List Cd) (best : Int) (ac : Bool) (at' : Int) : Int :=
  if ahead ac at' l = [] ∨ behind ac at' l = [] ∨ thrA s ac at' l = false then best
  else if 0 ≤ f (ahead ac at' l) ∧ 0 ≤ f (behind ac at' l) ∧ (best < 0 ∨ 1 + max (f (ahead ac at' l)) (f (behind ac at' l)) < best) then 1 + max (f (ahead ac at' l)) (f (behind ac at' l)) else best
/-- The first cuts of one kind are tried. -/
def manyD (s : Sh) (f : List Cd → Int) (l : List Cd) (best : Int) (ac : Bool) : Nat → Int
  | 0 => best
  | k + 1 => stepD s f l (manyD s f l best ac k) ac (1 + (k : Int))
def depS (s : Sh) : Nat → List Cd → Int
  | 0, _ => 0
  | n + 1, l => if l.length < 2 then 0 else manyD s (depS s n) l (manyD s (depS s n) l (-1) false 5) true 5

theorem cut_len (ac : Bool) (at' : Int) : ∀ l : List Cd, (ahead ac at' l).length + (behind ac at' l).length = l.length
  | [] => rfl
  | x :: l => by
    have ih := cut_len ac at' l
    unfold ahead behind at ih ⊢
    rw [List.filter_cons, List.filter_cons, List.length_cons]
    rcases befB ac at' x with _ | _
    · simp only [Bool.false_eq_true, if_false, Bool.not_false, if_true, List.length_cons]; omega
    · simp only [Bool.not_true, Bool.false_eq_true, if_false, if_true, List.length_cons]; omega
theorem len_pos {α : Type} {l : List α} (h : ¬ l = []) : 1 ≤ l.length := by
  rcases l with _ | ⟨x, l⟩
  · exact absurd rfl h
  · rw [List.length_cons]; omega

/-- The smallest one of some numbers, and -1 if there is none. -/
def MinOf (v : Int) (P : Int → Prop) : Prop := (v = -1 ∧ ∀ k, ¬ P k) ∨ (0 ≤ v ∧ P v ∧ ∀ k, P k → v ≤ k)
theorem MinOf.same {v u : Int} {P : Int → Prop} (h : MinOf v P) (k : MinOf u P) : v = u := by
  rcases h with ⟨rfl, h⟩ | ⟨h1, h2, h3⟩
  · rcases k with ⟨rfl, _⟩ | ⟨_, k2, _⟩
    · rfl
    · exact absurd k2 (h u)
  · rcases k with ⟨_, k⟩ | ⟨_, k2, k3⟩
    · exact absurd h2 (k v)
    · have := h3 u k2; have := k3 v h2; omega
theorem MinOf.congr {v : Int} {P Q : Int → Prop} (h : MinOf v P) (hq : ∀ k, P k ↔ Q k) : MinOf v Q := by
  have : P = Q := funext fun k => propext (hq k)
  rw [← this]; exact h
/-- What one cut leads to. -/
def CutP (s : Sh) (f : List Cd → Int) (l : List Cd) (ac : Bool) (at' : Int) (k : Int) : Prop :=
  ¬ ahead ac at' l = [] ∧ ¬ behind ac at' l = [] ∧ thrA s ac at' l = true ∧ 0 ≤ f (ahead ac at' l) ∧ 0 ≤ f (behind ac at' l) ∧ k = 1 + max (f (ahead ac at' l)) (f (behind ac at' l))
theorem step_min {s : Sh} {f : List Cd → Int} {l : List Cd} {best : Int} {P : Int → Prop} (h : MinOf best P) (ac : Bool) (at' : Int) : MinOf (stepD s f l best ac at') (fun k => P k ∨ CutP s f l ac at' k) := by
  unfold stepD
  by_cases h1 : ahead ac at' l = [] ∨ behind ac at' l = [] ∨ thrA s ac at' l = false
  · rw [if_pos h1]
    refine h.congr fun k => ⟨.inl, fun e => e.elim id fun ⟨a, b, c, _⟩ => ?_⟩
    rcases h1 with e | e | e
    · exact absurd e a
    · exact absurd e b
    · rw [e] at c; cases c
  · rw [if_neg h1]
    have h2 : ¬ ahead ac at' l = [] ∧ ¬ behind ac at' l = [] ∧ thrA s ac at' l = true := ⟨fun e => h1 (.inl e), fun e => h1 (.inr (.inl e)), by
      rcases ht : thrA s ac at' l with _ | _
      · exact absurd (.inr (.inr ht)) h1
      · rfl⟩
    generalize hx : f (ahead ac at' l) = x
    generalize hy : f (behind ac at' l) = y
    by_cases h3 : 0 ≤ x ∧ 0 ≤ y
    · have hc : CutP s f l ac at' (1 + max x y) := ⟨h2.1, h2.2.1, h2.2.2, by rw [hx]; exact h3.1, by rw [hy]; exact h3.2, by rw [hx, hy]⟩
      have hu : ∀ k, CutP s f l ac at' k → k = 1 + max x y := fun k hk => by
        have := hk.2.2.2.2.2
        rw [hx, hy] at this
        exact this
      by_cases h4 : best < 0 ∨ 1 + max x y < best
      · rw [if_pos ⟨h3.1, h3.2, h4⟩]
        refine .inr ⟨by omega, .inr hc, fun k hk => ?_⟩
        rcases hk with hk | hk
        · rcases h with ⟨_, h⟩ | ⟨h5, _, h6⟩
          · exact absurd hk (h k)
          · have := h6 k hk; omega
        · rw [hu k hk]; omega
      · rw [if_neg fun e => h4 e.2.2]
        rcases h with ⟨h, _⟩ | ⟨h5, h7, h6⟩
        · exact absurd (Or.inl (by omega)) h4
        · refine .inr ⟨h5, .inl h7, fun k hk => ?_⟩
          rcases hk with hk | hk
          · exact h6 k hk
          · rw [hu k hk]; omega
    · rw [if_neg fun e => h3 ⟨e.1, e.2.1⟩]
      refine h.congr fun k => ⟨.inl, fun e => e.elim id fun hk => ?_⟩
      have h5 := hk.2.2.2.1
      have h6 := hk.2.2.2.2.1
      rw [hx] at h5
      rw [hy] at h6
      exact absurd ⟨h5, h6⟩ h3
theorem many_min {s : Sh} {f : List Cd → Int} {l : List Cd} {best : Int} {P : Int → Prop} (h : MinOf best P) (ac : Bool) : ∀ n : Nat, MinOf (manyD s f l best ac n) (fun k => P k ∨ ∃ j : Nat, j < n ∧ CutP s f l ac (1 + (j : Int)) k)
  | 0 => h.congr fun k => ⟨.inl, fun e => e.elim id fun ⟨j, hj, _⟩ => absurd hj (Nat.not_lt_zero j)⟩
  | n + 1 => by
    refine (step_min (many_min h ac n) ac (1 + (n : Int))).congr fun k => ⟨?_, ?_⟩
    · rintro ((e | ⟨j, hj, e⟩) | e)
      · exact .inl e
      · exact .inr ⟨j, by omega, e⟩
      · exact .inr ⟨n, by omega, e⟩
    · rintro (e | ⟨j, hj, e⟩)
      · exact .inl (.inl e)
      · by_cases hjn : j = n
        · subst hjn; exact .inr e
        · exact .inl (.inr ⟨j, by omega, e⟩)
theorem dep_min (s : Sh) (n : Nat) {l : List Cd} (h : ¬ l.length < 2) : MinOf (depS s (n + 1) l) (fun k => ∃ ac, ∃ j : Nat, j < 5 ∧ CutP s (depS s n) l ac (1 + (j : Int)) k) := by
  rw [depS, if_neg h]
  have h0 : MinOf (-1) (fun _ : Int => False) := .inl ⟨rfl, fun _ h => h⟩
  refine (many_min (many_min h0 false 5) true 5).congr fun k => ⟨?_, ?_⟩
  · rintro ((e | ⟨j, hj, e⟩) | ⟨j, hj, e⟩)
    · exact e.elim
    · exact ⟨false, j, hj, e⟩
    · exact ⟨true, j, hj, e⟩
  · rintro ⟨ac, j, hj, e⟩
    cases ac
    · exact .inl (.inr ⟨j, hj, e⟩)
    · exact .inr ⟨j, hj, e⟩

/-- So many rounds leave at most so many cards. -/
theorem dep_len (s : Sh) : ∀ (n : Nat) (l : List Cd), l.length ≤ n → 0 ≤ depS s n l → l.length ≤ 2 ^ (depS s n l).toNat
  | 0, l, h, _ => by
    have : l.length = 0 := by omega
    rw [this]; exact Nat.zero_le _
  | n + 1, l, h, hv => by
    by_cases h2 : l.length < 2
    · rw [depS, if_pos h2]
      show l.length ≤ 1
      omega
    · rcases dep_min s n h2 with ⟨e, _⟩ | ⟨_, ⟨ac, j, hj, a, b, _, c, d, e⟩, _⟩
      · omega
      · have hl := cut_len ac (1 + (j : Int)) l
        have ha := len_pos a
        have hb := len_pos b
        have k1 := dep_len s n _ (by omega) c
        have k2 := dep_len s n _ (by omega) d
        rw [e]
        generalize depS s n (ahead ac (1 + (j : Int)) l) = x at *
        generalize depS s n (behind ac (1 + (j : Int)) l) = y at *
        have e2 : (1 + max x y).toNat = (max x y).toNat + 1 := by omega
        rw [e2, Nat.pow_succ]
        have g1 : 2 ^ x.toNat ≤ 2 ^ (max x y).toNat := Nat.pow_le_pow_right (by decide) (by omega)
        have g2 : 2 ^ y.toNat ≤ 2 ^ (max x y).toNat := Nat.pow_le_pow_right (by decide) (by omega)
        omega

/-- A block that is filled with cards. -/
structure Part (s : Sh) (p : Bl) (x : List Cd) : Prop where
  ok : p.Ok
  rows : p.a < p.b
  cols : p.c < p.d
  holds : ∀ y ∈ x, p.a ≤ y.row ∧ y.row + (hiS s y.t : Nat) ≤ p.b ∧ p.c ≤ y.col ∧ y.col + (wiS s y.t : Nat) ≤ p.d
  covers : ∀ r c : Int, p.a ≤ r → r < p.b → p.c ≤ c → c < p.d → ∃ y ∈ x, y.row ≤ r ∧ r < y.row + (hiS s y.t : Nat) ∧ y.col ≤ c ∧ c < y.col + (wiS s y.t : Nat)

theorem Part.ne {s : Sh} {p : Bl} {x : List Cd} (h : Part s p x) : 1 ≤ x.length := by
  obtain ⟨y, hy, _⟩ := h.covers p.a p.c (Int.le_refl _) h.rows (Int.le_refl _) h.cols
  exact List.length_pos_of_mem hy
theorem mem_ahead {ac : Bool} {at' : Int} {l : List Cd} {y : Cd} : y ∈ ahead ac at' l ↔ y ∈ l ∧ befB ac at' y = true := List.mem_filter
theorem mem_behind {ac : Bool} {at' : Int} {l : List Cd} {y : Cd} : y ∈ behind ac at' l ↔ y ∈ l ∧ befB ac at' y = false := by
  unfold behind
  rw [List.mem_filter, Bool.not_eq_true']
theorem ne_of_mem {α : Type} {l : List α} {y : α} (h : y ∈ l) : ¬ l = [] := by rintro rfl; cases h
theorem thr_row {s : Sh} {at' : Int} {x : List Cd} (h : thrA s true at' x = true) {y : Cd} (hy : y ∈ x) : ¬ (y.row < at' ∧ at' < y.row + (hiS s y.t : Nat)) := by
  have := List.all_eq_true.1 h y hy
  unfold thrB at this
  simp only [if_true, Bool.not_eq_true', decide_eq_false_iff_not] at this
  omega
theorem thr_col {s : Sh} {at' : Int} {x : List Cd} (h : thrA s false at' x = true) {y : Cd} (hy : y ∈ x) : ¬ (y.col < at' ∧ at' < y.col + (wiS s y.t : Nat)) := by
  have := List.all_eq_true.1 h y hy
  unfold thrB at this
  simp only [Bool.false_eq_true, if_false, Bool.not_eq_true', decide_eq_false_iff_not] at this
  omega
/-- A cut that leaves something on both sides goes through the block, and the other way round. -/
theorem Part.row_in {s : Sh} {p : Bl} {x : List Cd} (hs : s.Ok) (h : Part s p x) {at' : Int} (ht : thrA s true at' x = true) : (¬ ahead true at' x = [] ∧ ¬ behind true at' x = []) ↔ p.a < at' ∧ at' < p.b := by
  constructor
  · rintro ⟨h1, h2⟩
    obtain ⟨y, hy⟩ := List.exists_mem_of_ne_nil _ h1
    obtain ⟨z, hz⟩ := List.exists_mem_of_ne_nil _ h2
    rw [mem_ahead] at hy
    rw [mem_behind] at hz
    have k1 := h.holds y hy.1
    have k2 := h.holds z hz.1
    have k3 : y.row < at' := by simpa [befB] using hy.2
    have k4 : ¬ z.row < at' := by simpa [befB] using hz.2
    have := (hiS_le hs z.t).1
    omega
  · rintro ⟨h1, h2⟩
    obtain ⟨y, hy, y1, y2, y3, y4⟩ := h.covers p.a p.c (Int.le_refl _) h.rows (Int.le_refl _) h.cols
    obtain ⟨z, hz, z1, z2, z3, z4⟩ := h.covers (p.b - 1) p.c (by omega) (by omega) (Int.le_refl _) h.cols
    have := thr_row ht hz
    exact ⟨ne_of_mem (mem_ahead.2 ⟨hy, by simp [befB]; omega⟩), ne_of_mem (mem_behind.2 ⟨hz, by simp [befB]; omega⟩)⟩
theorem Part.col_in {s : Sh} {p : Bl} {x : List Cd} (hs : s.Ok) (h : Part s p x) {at' : Int} (ht : thrA s false at' x = true) : (¬ ahead false at' x = [] ∧ ¬ behind false at' x = []) ↔ p.c < at' ∧ at' < p.d := by
  constructor
  · rintro ⟨h1, h2⟩
    obtain ⟨y, hy⟩ := List.exists_mem_of_ne_nil _ h1
    obtain ⟨z, hz⟩ := List.exists_mem_of_ne_nil _ h2
    rw [mem_ahead] at hy
    rw [mem_behind] at hz
    have k1 := h.holds y hy.1
    have k2 := h.holds z hz.1
    have k3 : y.col < at' := by simpa [befB] using hy.2
    have k4 : ¬ z.col < at' := by simpa [befB] using hz.2
    have := (wiS_le hs z.t).1
    omega
  · rintro ⟨h1, h2⟩
    obtain ⟨y, hy, y1, y2, y3, y4⟩ := h.covers p.a p.c (Int.le_refl _) h.rows (Int.le_refl _) h.cols
    obtain ⟨z, hz, z1, z2, z3, z4⟩ := h.covers p.a (p.d - 1) (Int.le_refl _) h.rows (by omega) (by omega)
    have := thr_col ht hz
    exact ⟨ne_of_mem (mem_ahead.2 ⟨hy, by simp [befB]; omega⟩), ne_of_mem (mem_behind.2 ⟨hz, by simp [befB]; omega⟩)⟩
theorem Part.row_cut {s : Sh} {p : Bl} {x : List Cd} (h : Part s p x) {at' : Int} (ht : thrA s true at' x = true) (h1 : p.a < at') (h2 : at' < p.b) : Part s (cutR p at').1 (ahead true at' x) ∧ Part s (cutR p at').2 (behind true at' x) := by
  obtain ⟨o1, o2, o3, o4⟩ := h.ok
  refine ⟨⟨⟨o1, by unfold cutR; dsimp only; omega, o3, o4⟩, h1, h.cols, fun y hy => ?_, fun r c r1 r2 c1 c2 => ?_⟩, ⟨by unfold cutR; dsimp only; omega, o2, o3, o4⟩, h2, h.cols, fun y hy => ?_, fun r c r1 r2 c1 c2 => ?_⟩
  · rw [mem_ahead] at hy
    have k1 := h.holds y hy.1
    have k2 := thr_row ht hy.1
    have k3 : y.row < at' := by simpa [befB] using hy.2
    unfold cutR
    dsimp only
    omega
  · unfold cutR at r1 r2 c1 c2
    dsimp only at r1 r2 c1 c2
    obtain ⟨y, hy, y1, y2⟩ := h.covers r c r1 (by omega) c1 c2
    exact ⟨y, mem_ahead.2 ⟨hy, by simp [befB]; omega⟩, y1, y2⟩
  · rw [mem_behind] at hy
    have k1 := h.holds y hy.1
    have k3 : ¬ y.row < at' := by simpa [befB] using hy.2
    unfold cutR
    dsimp only
    omega
  · unfold cutR at r1 r2 c1 c2
    dsimp only at r1 r2 c1 c2
    obtain ⟨y, hy, y1, y2⟩ := h.covers r c (by omega) r2 c1 c2
    have k2 := thr_row ht hy
    exact ⟨y, mem_behind.2 ⟨hy, by simp [befB]; omega⟩, y1, y2⟩
theorem Part.col_cut {s : Sh} {p : Bl} {x : List Cd} (h : Part s p x) {at' : Int} (ht : thrA s false at' x = true) (h1 : p.c < at') (h2 : at' < p.d) : Part s (cutC p at').1 (ahead false at' x) ∧ Part s (cutC p at').2 (behind false at' x) := by
  obtain ⟨o1, o2, o3, o4⟩ := h.ok
  refine ⟨⟨⟨o1, o2, o3, by unfold cutC; dsimp only; omega⟩, h.rows, h1, fun y hy => ?_, fun r c r1 r2 c1 c2 => ?_⟩, ⟨o1, o2, by unfold cutC; dsimp only; omega, o4⟩, h.rows, h2, fun y hy => ?_, fun r c r1 r2 c1 c2 => ?_⟩
  · rw [mem_ahead] at hy
    have k1 := h.holds y hy.1
    have k2 := thr_col ht hy.1
    have k3 : y.col < at' := by simpa [befB] using hy.2
    unfold cutC
    dsimp only
    omega
  · unfold cutC at r1 r2 c1 c2
    dsimp only at r1 r2 c1 c2
    obtain ⟨y, hy, y1, y2, y3⟩ := h.covers r c r1 r2 c1 (by omega)
    exact ⟨y, mem_ahead.2 ⟨hy, by simp [befB]; omega⟩, y1, y2, y3⟩
  · rw [mem_behind] at hy
    have k1 := h.holds y hy.1
    have k3 : ¬ y.col < at' := by simpa [befB] using hy.2
    unfold cutC
    dsimp only
    omega
  · unfold cutC at r1 r2 c1 c2
    dsimp only at r1 r2 c1 c2
    obtain ⟨y, hy, y1, y2, y3⟩ := h.covers r c r1 r2 (by omega) c2
    have k2 := thr_col ht hy
    exact ⟨y, mem_behind.2 ⟨hy, by simp [befB]; omega⟩, y1, y2, y3⟩

/-- The cards of a part are those that its block holds. -/
theorem hold_half {s : Sh} {l : List Bl} {p q : Bl} {x : List Cd} {f : Cd → Bool} (h : l.filter (holdsB p) = x.map (blk s)) (hq : ∀ b, holdsB q b = true → holdsB p b = true) (hf : ∀ y ∈ x, holdsB q (blk s y) = f y) : l.filter (holdsB q) = (x.filter f).map (blk s) := by
  have h1 : l.filter (holdsB q) = (l.filter (holdsB p)).filter (holdsB q) := by
    rw [List.filter_filter]
    refine List.filter_congr fun b _ => ?_
    rcases hb : holdsB q b with _ | _
    · rfl
    · rw [hq b hb]; rfl
  rw [h1, h, List.filter_map]
  congr 1
  exact List.filter_congr fun y hy => hf y hy
/-- What a division comes to. -/
def valD (d : Dv) : Int := if d.st = true then (d.n : Int) else -1
theorem bet_min : ∀ (L : List (Dv × Dv)) (d : Dv) (P : Int → Prop), MinOf (valD d) P → MinOf (valD (L.foldl Dv.bet d)) (fun k => P k ∨ ∃ x ∈ L, x.1.st = true ∧ x.2.st = true ∧ k = 1 + max (x.1.n : Int) (x.2.n : Int))
  | [], d, P, h => h.congr fun k => ⟨.inl, fun e => e.elim id fun ⟨x, hx, _⟩ => absurd hx List.not_mem_nil⟩
  | x :: L, d, P, h => by
    rw [List.foldl_cons]
    have h1 : MinOf (valD (d.bet x)) (fun k => P k ∨ (x.1.st = true ∧ x.2.st = true ∧ k = 1 + max (x.1.n : Int) (x.2.n : Int))) := by
      unfold Dv.bet
      by_cases hx : x.1.st = true ∧ x.2.st = true
      · by_cases hb : d.st = false ∨ max x.1.n x.2.n + 1 < d.n
        · rw [if_pos ⟨hx.1, hx.2, hb⟩]
          have hv : valD ⟨true, max x.1.n x.2.n + 1⟩ = 1 + max (x.1.n : Int) (x.2.n : Int) := by
            unfold valD
            rw [if_pos rfl]
            dsimp only
            omega
          rw [hv]
          refine .inr ⟨by omega, .inr ⟨hx.1, hx.2, rfl⟩, fun k hk => ?_⟩
          rcases hk with hk | ⟨_, _, hk⟩
          · rcases h with ⟨_, h⟩ | ⟨h5, h7, h6⟩
            · exact absurd hk (h k)
            · have h8 := h6 k hk
              unfold valD at h8 h5
              rcases hd : d.st with _ | _
              · rw [hd] at h5; simp at h5
              · rw [hd, if_pos rfl] at h8
                rcases hb with hb | hb
                · rw [hd] at hb; cases hb
                · omega
          · omega
        · rw [if_neg fun e => hb e.2.2]
          have hd : d.st = true := by
            rcases hd : d.st with _ | _
            · exact absurd (.inl hd) hb
            · rfl
          have hv : valD d = d.n := by unfold valD; rw [if_pos hd]
          rcases h with ⟨h, _⟩ | ⟨h5, h7, h6⟩
          · rw [hv] at h; omega
          · refine .inr ⟨h5, .inl h7, fun k hk => ?_⟩
            rcases hk with hk | ⟨_, _, hk⟩
            · exact h6 k hk
            · rw [hv, hk]
              have : ¬ max x.1.n x.2.n + 1 < d.n := fun e => hb (.inr e)
              omega
      · rw [if_neg fun e => hx ⟨e.1, e.2.1⟩]
        exact h.congr fun k => ⟨.inl, fun e => e.elim id fun e => absurd ⟨e.1, e.2.1⟩ hx⟩
    refine (bet_min L _ _ h1).congr fun k => ⟨?_, ?_⟩
    · rintro ((e | e) | ⟨y, hy, e⟩)
      · exact .inl e
      · exact .inr ⟨x, by simp, e⟩
      · exact .inr ⟨y, by simp [hy], e⟩
    · rintro (e | ⟨y, hy, e⟩)
      · exact .inl (.inl e)
      · rcases List.mem_cons.1 hy with rfl | hy
        · exact .inl (.inr e)
        · exact .inr ⟨y, hy, e⟩
theorem val_st {d : Dv} : 0 ≤ valD d ↔ d.st = true := by
  unfold valD
  rcases d.st with _ | _
  · simp
  · simp
theorem val_n {d : Dv} (h : d.st = true) : valD d = d.n := by unfold valD; rw [if_pos h]
theorem mem_gapL {f t : Int} {sp : List (Int × Int)} {at' : Int} : at' ∈ gapL f t sp ↔ f < at' ∧ at' < t ∧ free' sp at' = true := by
  unfold gapL gapN free'
  rw [List.mem_filter, List.mem_map]
  constructor
  · rintro ⟨⟨k, hk, rfl⟩, h⟩
    rw [List.mem_range] at hk
    exact ⟨by omega, by omega, h⟩
  · rintro ⟨h1, h2, h⟩
    exact ⟨⟨(at' - f - 1).toNat, List.mem_range.2 (by omega), by omega⟩, h⟩

/-- The rounds by cards are those by blocks. -/
theorem dep_div {s : Sh} (hs : s.Ok) (all : List Bl) : ∀ (n : Nat) (p : Bl) (x : List Cd), x.length ≤ n → Part s p x → all.filter (holdsB p) = x.map (blk s) → depS s n x = valD (divC all p)
  | 0, p, x, hn, h, _ => by
    have := h.ne
    omega
  | n + 1, p, x, hn, h, ha => by
    have h1 := h.ne
    rw [divC_eq all h.ok, ha, List.length_map]
    by_cases h2 : x.length = 1
    · rw [depS, if_pos (by omega), if_pos h2]; rfl
    · rw [if_neg h2]
      have hm := dep_min s n (l := x) (by omega)
      have h0 : MinOf (valD ⟨false, 0⟩) (fun _ : Int => False) := .inl ⟨rfl, fun _ h => h⟩
      refine hm.same ((bet_min _ _ _ h0).congr fun k => ?_)
      have hrow : ∀ at', thrA s true at' x = true → p.a < at' → at' < p.b → depS s n (ahead true at' x) = valD (divC all (cutR p at').1) ∧ depS s n (behind true at' x) = valD (divC all (cutR p at').2) := fun at' ht b1 b2 => by
        obtain ⟨c1, c2⟩ := h.row_cut ht b1 b2
        have hl := cut_len true at' x
        have k1 := c1.ne
        have k2 := c2.ne
        refine ⟨dep_div hs all n _ _ (by omega) c1 (hold_half ha (fun b hb => ?_) fun y hy => ?_), dep_div hs all n _ _ (by omega) c2 (hold_half ha (fun b hb => ?_) fun y hy => ?_)⟩
        · unfold holdsB cutR at hb
          unfold holdsB
          rw [decide_eq_true_eq] at hb ⊢
          dsimp only at hb
          omega
        · have g1 := h.holds y hy
          have g2 := thr_row ht hy
          have g3 := (hiS_le hs y.t).1
          unfold holdsB cutR blk befB
          dsimp only
          rw [if_pos rfl]
          exact decide_eq_decide.2 (by omega)
        · unfold holdsB cutR at hb
          unfold holdsB
          rw [decide_eq_true_eq] at hb ⊢
          dsimp only at hb
          omega
        · have g1 := h.holds y hy
          have g2 := thr_row ht hy
          have g3 := (hiS_le hs y.t).1
          unfold holdsB cutR blk befB
          dsimp only
          rw [if_pos rfl, ← decide_not]
          exact decide_eq_decide.2 (by omega)
      have hcol : ∀ at', thrA s false at' x = true → p.c < at' → at' < p.d → depS s n (ahead false at' x) = valD (divC all (cutC p at').1) ∧ depS s n (behind false at' x) = valD (divC all (cutC p at').2) := fun at' ht b1 b2 => by
        obtain ⟨c1, c2⟩ := h.col_cut ht b1 b2
        have hl := cut_len false at' x
        have k1 := c1.ne
        have k2 := c2.ne
        refine ⟨dep_div hs all n _ _ (by omega) c1 (hold_half ha (fun b hb => ?_) fun y hy => ?_), dep_div hs all n _ _ (by omega) c2 (hold_half ha (fun b hb => ?_) fun y hy => ?_)⟩
        · unfold holdsB cutC at hb
          unfold holdsB
          rw [decide_eq_true_eq] at hb ⊢
          dsimp only at hb
          omega
        · have g1 := h.holds y hy
          have g2 := thr_col ht hy
          have g3 := (wiS_le hs y.t).1
          unfold holdsB cutC blk befB
          dsimp only
          rw [if_neg (by decide)]
          exact decide_eq_decide.2 (by omega)
        · unfold holdsB cutC at hb
          unfold holdsB
          rw [decide_eq_true_eq] at hb ⊢
          dsimp only at hb
          omega
        · have g1 := h.holds y hy
          have g2 := thr_col ht hy
          have g3 := (wiS_le hs y.t).1
          unfold holdsB cutC blk befB
          dsimp only
          rw [if_neg (by decide), ← decide_not]
          exact decide_eq_decide.2 (by omega)
      obtain ⟨⟨o1, o2⟩, ⟨o3, o4⟩, ⟨o5, o6⟩, o7, o8⟩ := h.ok
      constructor
      · rintro (e | ⟨d, hd, e1, e2, rfl⟩)
        · exact e.elim
        · obtain ⟨q, hq, rfl⟩ := List.mem_map.1 hd
          dsimp only at e1 e2 ⊢
          unfold halvesB at hq
          rcases List.mem_append.1 hq with hq | hq
          · obtain ⟨at', hat, rfl⟩ := List.mem_map.1 hq
            obtain ⟨b1, b2, b3⟩ := mem_gapL.1 hat
            have ht : thrA s true at' x = true := by rw [thr_free]; exact b3
            obtain ⟨f1, f2⟩ := hrow at' ht b1 b2
            obtain ⟨m1, m2⟩ := (h.row_in hs ht).2 ⟨b1, b2⟩
            refine ⟨true, (at' - 1).toNat, by omega, ?_⟩
            rw [show 1 + ((at' - 1).toNat : Int) = at' by omega]
            exact ⟨m1, m2, ht, by rw [f1]; exact val_st.2 e1, by rw [f2]; exact val_st.2 e2, by rw [f1, f2, val_n e1, val_n e2]⟩
          · obtain ⟨at', hat, rfl⟩ := List.mem_map.1 hq
            obtain ⟨b1, b2, b3⟩ := mem_gapL.1 hat
            have ht : thrA s false at' x = true := by rw [thr_free]; exact b3
            obtain ⟨f1, f2⟩ := hcol at' ht b1 b2
            obtain ⟨m1, m2⟩ := (h.col_in hs ht).2 ⟨b1, b2⟩
            refine ⟨false, (at' - 1).toNat, by omega, ?_⟩
            rw [show 1 + ((at' - 1).toNat : Int) = at' by omega]
            exact ⟨m1, m2, ht, by rw [f1]; exact val_st.2 e1, by rw [f2]; exact val_st.2 e2, by rw [f1, f2, val_n e1, val_n e2]⟩
      · rintro ⟨ac, j, hj, m1, m2, ht, e1, e2, rfl⟩
        refine .inr ?_
        generalize 1 + (j : Int) = at' at *
        cases ac
        · obtain ⟨b1, b2⟩ := (h.col_in hs ht).1 ⟨m1, m2⟩
          obtain ⟨f1, f2⟩ := hcol at' ht b1 b2
          rw [f1] at e1
          rw [f2] at e2
          refine ⟨(divC all (cutC p at').1, divC all (cutC p at').2), List.mem_map.2 ⟨cutC p at', List.mem_append.2 (.inr (List.mem_map.2 ⟨at', mem_gapL.2 ⟨b1, b2, ?_⟩, rfl⟩)), rfl⟩, val_st.1 e1, val_st.1 e2, ?_⟩
          · have := thr_free s false at' x
            rw [ht] at this
            exact this.symm
          · rw [f1, f2, val_n (val_st.1 e1), val_n (val_st.1 e2)]
        · obtain ⟨b1, b2⟩ := (h.row_in hs ht).1 ⟨m1, m2⟩
          obtain ⟨f1, f2⟩ := hrow at' ht b1 b2
          rw [f1] at e1
          rw [f2] at e2
          refine ⟨(divC all (cutR p at').1, divC all (cutR p at').2), List.mem_map.2 ⟨cutR p at', List.mem_append.2 (.inl (List.mem_map.2 ⟨at', mem_gapL.2 ⟨b1, b2, ?_⟩, rfl⟩)), rfl⟩, val_st.1 e1, val_st.1 e2, ?_⟩
          · have := thr_free s true at' x
            rw [ht] at this
            exact this.symm
          · rw [f1, f2, val_n (val_st.1 e1), val_n (val_st.1 e2)]

/-- A filling that is found right covers the sheet. -/
theorem ver_cov {s : Sh} : ∀ (l : List Cd) (cov : Nat) (last : Int), verM s l cov last = 0 → ∀ i, i < s.r * s.c → cov.testBit i = true ∨ ∃ y ∈ l, (und s y).testBit i = true
  | [], cov, last, h, i, hi => by
    rw [verM] at h
    split at h
    · rename_i e
      rw [e, whl_bit]
      exact .inl (decide_eq_true hi)
    · cases h
  | x :: l, cov, last, h, i, hi => by
    rw [verM] at h
    split at h
    · cases h
    · split at h
      · cases h
      · split at h
        · cases h
        · split at h
          · cases h
          · rcases ver_cov l _ _ h i hi with e | ⟨y, hy, e⟩
            · rw [Nat.testBit_or, Bool.or_eq_true] at e
              rcases e with e | e
              · exact .inl e
              · exact .inr ⟨x, by simp, e⟩
            · exact .inr ⟨y, by simp [hy], e⟩
theorem part_all {s : Sh} (hs : s.Ok) {l : List Cd} (h : verS s l = 0) : Part s (areaB s) l := by
  have hf := verM_fits l 0 (-1) h
  have hr := hs.r1
  have hc := hs.c1
  refine ⟨areaB_ok hs, by unfold areaB; dsimp only; omega, by unfold areaB; dsimp only; omega, fun y hy => ?_, fun r c r1 r2 c1 c2 => ?_⟩
  · obtain ⟨h1, h2, h3, h4⟩ := hf y hy
    unfold areaB
    dsimp only
    omega
  · unfold areaB at r1 r2 c1 c2
    dsimp only at r1 r2 c1 c2
    obtain ⟨a, rfl⟩ : ∃ a : Nat, r = a := ⟨r.toNat, by omega⟩
    obtain ⟨b, rfl⟩ : ∃ b : Nat, c = b := ⟨c.toNat, by omega⟩
    rcases ver_cov l 0 (-1) h (a * s.c + b) (sq_lt (by omega) (by omega)) with e | ⟨y, hy, e⟩
    · rw [Nat.zero_testBit] at e; cases e
    · obtain ⟨p, q, hp, hq, e⟩ := (und_bit _).1 e
      obtain ⟨h1, h2, h3, h4⟩ := hf y hy
      obtain ⟨e1, e2⟩ := sqN_inj (C := s.c) (by omega) (by omega) e
      exact ⟨y, hy, by omega, by omega, by omega, by omega⟩
/-- The rounds of a filling. -/
theorem dep_all {s : Sh} (hs : s.Ok) {l : List Cd} (h : verS s l = 0) {n : Nat} (hn : l.length ≤ n) : depS s n l = valD (divS s l) :=
  dep_div hs _ n _ l hn (part_all hs h) (hold_all (verM_fits l 0 (-1) h))
end Go.Proofs.YtlollcabnfncpaaDoor
