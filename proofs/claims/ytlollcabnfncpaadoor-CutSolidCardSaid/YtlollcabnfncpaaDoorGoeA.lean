/-
  The statements' fillings: whether a line goes through no card.
-/
import Derived.Test.YtlollcabnfncpaaDoorCuts
import Derived.Test.YtlollcabnfncpaaDoorSolA
import Derived.Test.YtlollcabnfncpaaDoorFilB
namespace Go.Proofs.YtlollcabnfncpaaDoor
open Go.RowKit

/-- A cut goes through a card. -/
def thrB (s : Sh) (ac : Bool) (at' : Int) (x : Cd) : Bool := if ac = true then decide (x.row + 1 ≤ at' ∧ at' ≤ x.row + (hiS s x.t : Nat) - 1) else decide (x.col + 1 ≤ at' ∧ at' ≤ x.col + (wiS s x.t : Nat) - 1)
/-- A cut goes through no card. -/
def thrA (s : Sh) (ac : Bool) (at' : Int) (l : List Cd) : Bool := l.all fun x => !thrB s ac at' x
theorem thrA_snoc (s : Sh) (ac : Bool) (at' : Int) (l : List Cd) (x : Cd) : thrA s ac at' (l ++ [x]) = (thrA s ac at' l && !thrB s ac at' x) := by simp [thrA]

/-- The spans of cards, by rows or by columns, and the cuts between them. -/
def spnB (s : Sh) (ac : Bool) (l : List Cd) : List (Int × Int) := if ac = true then rowsB (l.map (blk s)) else colsB (l.map (blk s))
def cutB (s : Sh) (ac : Bool) (l : List Cd) : List Int := gapN 0 ((if ac = true then s.r else s.c) - 1) (spnB s ac l)
theorem thr_free (s : Sh) (ac : Bool) (at' : Int) (l : List Cd) : thrA s ac at' l = free' (spnB s ac l) at' := by
  unfold thrA free' spnB rowsB colsB thrB
  rcases ac with _ | _
  · simp only [Bool.false_eq_true, if_false, List.map_map, List.all_map]
    congr 1
    funext x
    show (!decide (x.col + 1 ≤ at' ∧ at' ≤ x.col + (wiS s x.t : Nat) - 1)) = !(decide (x.col < at') && decide (at' < x.col + (wiS s x.t : Nat)))
    rw [Bool.eq_iff_iff]
    simp only [Bool.not_eq_true', decide_eq_false_iff_not, Bool.and_eq_false_imp, decide_eq_true_eq]
    omega
  · simp only [if_true, List.map_map, List.all_map]
    congr 1
    funext x
    show (!decide (x.row + 1 ≤ at' ∧ at' ≤ x.row + (hiS s x.t : Nat) - 1)) = !(decide (x.row < at') && decide (at' < x.row + (hiS s x.t : Nat)))
    rw [Bool.eq_iff_iff]
    simp only [Bool.not_eq_true', decide_eq_false_iff_not, Bool.and_eq_false_imp, decide_eq_true_eq]
    omega
theorem cutB_rows {s : Sh} (hs : s.Ok) (l : List Cd) : cutB s true l = cutsR s l := by
  have := hs.r1
  unfold cutB cutsR gapL spnB
  rw [if_pos rfl, if_pos rfl, show ((s.r : Int) - 0 - 1).toNat = s.r - 1 by omega]
theorem cutB_cols {s : Sh} (hs : s.Ok) (l : List Cd) : cutB s false l = cutsC s l := by
  have := hs.c1
  unfold cutB cutsC gapL spnB
  simp only [Bool.false_eq_true, if_false]
  rw [show ((s.c : Int) - 0 - 1).toNat = s.c - 1 by omega]

theorem solid_cuts {s : Sh} (hs : s.Ok) (l : List Cd) : solidP s l = ((cutB s true l).length == 0 && (cutB s false l).length == 0) := by
  rw [cutB_rows hs, cutB_cols hs]; rfl

set_option maxRecDepth 100000 in
set_option maxHeartbeats 4000000 in
theorem goes_true (s : Sh) (A : Option Addr) (c : Nat) (l : List Cd) (at' : Int) (w : World) (hs : s.Ok) (hA : CardsAt w w.heap.size A l) (hf : ∀ x ∈ l, fitP s x) (hn : l.length < 1000000) :
    Calls Tryd.prog 54 #[.agg #[.int .i64 s.r, .int .i64 s.c, .int .i64 s.l, .int .i64 s.w], .slice A l.length c, .bool true, .int .i64 at'] w fun e w' => e = .returned (.bool (thrA s true at' l)) ∧ Below w.heap.size w w' := by
  obtain ⟨W0, hW0⟩ : ∃ W0, W0 = w.alloc (.cells #[.int .i64 s.r, .int .i64 s.c, .int .i64 s.l, .int .i64 s.w] 23) := ⟨_, rfl⟩
  have HB := Lib.hid (show Below w.heap.size w W0 from hW0 ▸ below_new w _)
  have hz0 : w.heap.size + 1 = W0.heap.size := by rw [hW0]; simp
  have HA := Lib.hid (hA.below HB.out (Nat.le_refl _))
  have HK := Lib.hid (fun (W : World) (h : Below W0.heap.size W0 W) => show W.cell? ⟨w.heap.size, 0, none⟩ = some (.int .i64 s.r) ∧ W.cell? ⟨w.heap.size, 1, none⟩ = some (.int .i64 s.c) ∧ W.cell? ⟨w.heap.size, 2, none⟩ = some (.int .i64 s.l) ∧ W.cell? ⟨w.heap.size, 3, none⟩ = some (.int .i64 s.w) from
    ⟨(h.cell (p := ⟨w.heap.size, 0, none⟩) (by simp; omega)).trans (by rw [hW0]; simp [go_sem]), (h.cell (p := ⟨w.heap.size, 1, none⟩) (by simp; omega)).trans (by rw [hW0]; simp [go_sem]), (h.cell (p := ⟨w.heap.size, 2, none⟩) (by simp; omega)).trans (by rw [hW0]; simp [go_sem]), (h.cell (p := ⟨w.heap.size, 3, none⟩) (by simp; omega)).trans (by rw [hW0]; simp [go_sem])⟩)
  have HF := Lib.hid hf
  generalize hV : thrA s true at' l = V
  have HV := Lib.hid hV
  have hr6 := hs.r6
  have hc6 := hs.c6
  clear hA hf hV
  go_enter Tryd.func54, Tryd.ntmps54
  go_wp2
  rw [← hW0]
  have HZ := Lib.hid hz0
  clear hW0 hz0
  go_loopw [15] (fun i wr => ∃ k : Nat, k ≤ l.length ∧ i = .int .i64 k ∧ Hid (thrA s true at' (l.take k) = true) ∧ Below W0.heap.size W0 wr) (fun i _ => l.length - (intOf i).toNat)
  case atStart => exact ⟨0, Nat.zero_le _, rfl, Lib.hid (by simp [thrA]), Below.refl _ _⟩
  case round =>
    obtain ⟨k, hk, rfl, HC, hbr⟩ := hrel
    by_cases hlt : k < l.length
    · have hx : l[k]? = some l[k] := List.getElem?_eq_getElem hlt
      generalize l[k] = x at hx
      have hzr := hbr.size
      have hzw := HZ.out
      have hfx := HF.out x (mem_of_get hx)
      obtain ⟨f1, f2, f3, f4⟩ := hfx
      obtain ⟨b, off, rfl, hb, d0, d1, d2⟩ := HA.out k x hx
      replace d0 := (hbr.cell (p := ⟨b, _, none⟩) (by simp; omega)).trans d0
      replace d1 := (hbr.cell (p := ⟨b, _, none⟩) (by simp; omega)).trans d1
      replace d2 := (hbr.cell (p := ⟨b, _, none⟩) (by simp; omega)).trans d2
      have hwz : w.heap.size < wr.heap.size := by omega
      have hts := take_snoc hx
      have HT := Lib.hid (show thrA s true at' (l.take (k + 1)) = (thrA s true at' (l.take k) && !thrB s true at' x) by rw [hts, thrA_snoc])
      have HX := Lib.hid (show thrB s true at' x = true → V = false from fun h => by
        rw [← HV.out]
        refine List.all_eq_false.2 ⟨x, mem_of_get hx, ?_⟩
        rw [h]; decide)
      have HS := Lib.hid (fun W => lsize_any s x.t W)
      have h3 := hiS_le hs x.t
      have h4 := wiS_le hs x.t
      have hv : thrB s true at' x = decide (x.row + 1 ≤ at' ∧ at' ≤ x.row + (hiS s x.t : Nat) - 1) := rfl
      generalize thrB s true at' x = v at hv HT HX
      generalize hiS s x.t = ha at *
      generalize wiS s x.t = wa at *
      have HR := Lib.hid (HB.out.trans (hbr.mono (by omega)))
      obtain ⟨r0, r1, r2, r3⟩ := HK.out _ hbr
      have hki : (k : Int) < (l.length : Int) := by omega
      have hk0 : (0 : Int) ≤ (k : Int) := by omega
      have hwf : IntKind.i64.wrap (x.row + (ha : Int)) = x.row + (ha : Int) := IntWalk.i64_in _ (by omega)
      clear hx hzw hts
      by_cases hc1 : x.row < at'
      · by_cases hc2 : at' < x.row + (ha : Int)
        · have hvt : v = true := by rw [hv]; exact decide_eq_true (by omega)
          have HVT := Lib.hid (HX.out hvt)
          clear hv hvt HT HX
          go_wp2_with (go_at_call 95; refine (HS.out _).mono ?_; rintro e w1 ⟨rfl, hb1⟩; have q0 : w1.cell? ⟨wr.heap.size, 0, none⟩ = some (.int .i64 x.row) := (hb1.cell (p := ⟨wr.heap.size, 0, none⟩) (by simp)).trans (by simp [go_sem]); have q1 : w1.cell? ⟨wr.heap.size, 1, none⟩ = some (.int .i64 x.col) := (hb1.cell (p := ⟨wr.heap.size, 1, none⟩) (by simp)).trans (by simp [go_sem]))
          go_ret
          exact ⟨ret_bool HVT.out.symm, HR.out.trans (Below.mono (below_via hb1) (by omega))⟩
        · have hvf : v = false := by rw [hv]; exact decide_eq_false (by omega)
          have HC2 := Lib.hid (show thrA s true at' (l.take (k + 1)) = true by rw [HT.out, HC.out, hvf]; rfl)
          clear hv hvf HT HX
          go_wp2_with (go_at_call 95; refine (HS.out _).mono ?_; rintro e w1 ⟨rfl, hb1⟩; have q0 : w1.cell? ⟨wr.heap.size, 0, none⟩ = some (.int .i64 x.row) := (hb1.cell (p := ⟨wr.heap.size, 0, none⟩) (by simp)).trans (by simp [go_sem]); have q1 : w1.cell? ⟨wr.heap.size, 1, none⟩ = some (.int .i64 x.col) := (hb1.cell (p := ⟨wr.heap.size, 1, none⟩) (by simp)).trans (by simp [go_sem]))
          go_roundw
          case rel => exact ⟨k + 1, by omega, by go_num, HC2, hbr.trans (Below.mono (below_via hb1) (by omega))⟩
          case measure => simp [intOf]; omega
      · have hvf : v = false := by rw [hv]; exact decide_eq_false (by omega)
        have HC2 := Lib.hid (show thrA s true at' (l.take (k + 1)) = true by rw [HT.out, HC.out, hvf]; rfl)
        clear hv hvf HT HX
        go_wp2_with (go_at_call 95; refine (HS.out _).mono ?_; rintro e w1 ⟨rfl, hb1⟩; have q0 : w1.cell? ⟨wr.heap.size, 0, none⟩ = some (.int .i64 x.row) := (hb1.cell (p := ⟨wr.heap.size, 0, none⟩) (by simp)).trans (by simp [go_sem]); have q1 : w1.cell? ⟨wr.heap.size, 1, none⟩ = some (.int .i64 x.col) := (hb1.cell (p := ⟨wr.heap.size, 1, none⟩) (by simp)).trans (by simp [go_sem]))
        go_roundw
        case rel => exact ⟨k + 1, by omega, by go_num, HC2, hbr.trans (Below.mono (below_via hb1) (by omega))⟩
        case measure => simp [intOf]; omega
    · have e : l.take k = l := List.take_of_length_le (by omega)
      have HE := Lib.hid (show true = V by have h := HC.out; rw [e] at h; rw [← HV.out]; exact h.symm)
      have HR := Lib.hid (HB.out.trans (hbr.mono (by have := HZ.out; omega)))
      clear e
      go_wp2
      go_ret
      exact ⟨ret_bool HE.out, HR.out⟩

set_option maxRecDepth 100000 in
set_option maxHeartbeats 4000000 in
theorem goes_false (s : Sh) (A : Option Addr) (c : Nat) (l : List Cd) (at' : Int) (w : World) (hs : s.Ok) (hA : CardsAt w w.heap.size A l) (hf : ∀ x ∈ l, fitP s x) (hn : l.length < 1000000) :
    Calls Tryd.prog 54 #[.agg #[.int .i64 s.r, .int .i64 s.c, .int .i64 s.l, .int .i64 s.w], .slice A l.length c, .bool false, .int .i64 at'] w fun e w' => e = .returned (.bool (thrA s false at' l)) ∧ Below w.heap.size w w' := by
  obtain ⟨W0, hW0⟩ : ∃ W0, W0 = w.alloc (.cells #[.int .i64 s.r, .int .i64 s.c, .int .i64 s.l, .int .i64 s.w] 23) := ⟨_, rfl⟩
  have HB := Lib.hid (show Below w.heap.size w W0 from hW0 ▸ below_new w _)
  have hz0 : w.heap.size + 1 = W0.heap.size := by rw [hW0]; simp
  have HA := Lib.hid (hA.below HB.out (Nat.le_refl _))
  have HK := Lib.hid (fun (W : World) (h : Below W0.heap.size W0 W) => show W.cell? ⟨w.heap.size, 0, none⟩ = some (.int .i64 s.r) ∧ W.cell? ⟨w.heap.size, 1, none⟩ = some (.int .i64 s.c) ∧ W.cell? ⟨w.heap.size, 2, none⟩ = some (.int .i64 s.l) ∧ W.cell? ⟨w.heap.size, 3, none⟩ = some (.int .i64 s.w) from
    ⟨(h.cell (p := ⟨w.heap.size, 0, none⟩) (by simp; omega)).trans (by rw [hW0]; simp [go_sem]), (h.cell (p := ⟨w.heap.size, 1, none⟩) (by simp; omega)).trans (by rw [hW0]; simp [go_sem]), (h.cell (p := ⟨w.heap.size, 2, none⟩) (by simp; omega)).trans (by rw [hW0]; simp [go_sem]), (h.cell (p := ⟨w.heap.size, 3, none⟩) (by simp; omega)).trans (by rw [hW0]; simp [go_sem])⟩)
  have HF := Lib.hid hf
  generalize hV : thrA s false at' l = V
  have HV := Lib.hid hV
  have hr6 := hs.r6
  have hc6 := hs.c6
  clear hA hf hV
  go_enter Tryd.func54, Tryd.ntmps54
  go_wp2
  rw [← hW0]
  have HZ := Lib.hid hz0
  clear hW0 hz0
  go_loopw [15] (fun i wr => ∃ k : Nat, k ≤ l.length ∧ i = .int .i64 k ∧ Hid (thrA s false at' (l.take k) = true) ∧ Below W0.heap.size W0 wr) (fun i _ => l.length - (intOf i).toNat)
  case atStart => exact ⟨0, Nat.zero_le _, rfl, Lib.hid (by simp [thrA]), Below.refl _ _⟩
  case round =>
    obtain ⟨k, hk, rfl, HC, hbr⟩ := hrel
    by_cases hlt : k < l.length
    · have hx : l[k]? = some l[k] := List.getElem?_eq_getElem hlt
      generalize l[k] = x at hx
      have hzr := hbr.size
      have hzw := HZ.out
      have hfx := HF.out x (mem_of_get hx)
      obtain ⟨f1, f2, f3, f4⟩ := hfx
      obtain ⟨b, off, rfl, hb, d0, d1, d2⟩ := HA.out k x hx
      replace d0 := (hbr.cell (p := ⟨b, _, none⟩) (by simp; omega)).trans d0
      replace d1 := (hbr.cell (p := ⟨b, _, none⟩) (by simp; omega)).trans d1
      replace d2 := (hbr.cell (p := ⟨b, _, none⟩) (by simp; omega)).trans d2
      have hwz : w.heap.size < wr.heap.size := by omega
      have hts := take_snoc hx
      have HT := Lib.hid (show thrA s false at' (l.take (k + 1)) = (thrA s false at' (l.take k) && !thrB s false at' x) by rw [hts, thrA_snoc])
      have HX := Lib.hid (show thrB s false at' x = true → V = false from fun h => by
        rw [← HV.out]
        refine List.all_eq_false.2 ⟨x, mem_of_get hx, ?_⟩
        rw [h]; decide)
      have HS := Lib.hid (fun W => lsize_any s x.t W)
      have h3 := hiS_le hs x.t
      have h4 := wiS_le hs x.t
      have hv : thrB s false at' x = decide (x.col + 1 ≤ at' ∧ at' ≤ x.col + (wiS s x.t : Nat) - 1) := rfl
      generalize thrB s false at' x = v at hv HT HX
      generalize hiS s x.t = ha at *
      generalize wiS s x.t = wa at *
      have HR := Lib.hid (HB.out.trans (hbr.mono (by omega)))
      obtain ⟨r0, r1, r2, r3⟩ := HK.out _ hbr
      have hki : (k : Int) < (l.length : Int) := by omega
      have hk0 : (0 : Int) ≤ (k : Int) := by omega
      have hwf : IntKind.i64.wrap (x.col + (wa : Int)) = x.col + (wa : Int) := IntWalk.i64_in _ (by omega)
      clear hx hzw hts
      by_cases hc1 : x.col < at'
      · by_cases hc2 : at' < x.col + (wa : Int)
        · have hvt : v = true := by rw [hv]; exact decide_eq_true (by omega)
          have HVT := Lib.hid (HX.out hvt)
          clear hv hvt HT HX
          go_wp2_with (go_at_call 95; refine (HS.out _).mono ?_; rintro e w1 ⟨rfl, hb1⟩; have q0 : w1.cell? ⟨wr.heap.size, 0, none⟩ = some (.int .i64 x.row) := (hb1.cell (p := ⟨wr.heap.size, 0, none⟩) (by simp)).trans (by simp [go_sem]); have q1 : w1.cell? ⟨wr.heap.size, 1, none⟩ = some (.int .i64 x.col) := (hb1.cell (p := ⟨wr.heap.size, 1, none⟩) (by simp)).trans (by simp [go_sem]))
          go_ret
          exact ⟨ret_bool HVT.out.symm, HR.out.trans (Below.mono (below_via hb1) (by omega))⟩
        · have hvf : v = false := by rw [hv]; exact decide_eq_false (by omega)
          have HC2 := Lib.hid (show thrA s false at' (l.take (k + 1)) = true by rw [HT.out, HC.out, hvf]; rfl)
          clear hv hvf HT HX
          go_wp2_with (go_at_call 95; refine (HS.out _).mono ?_; rintro e w1 ⟨rfl, hb1⟩; have q0 : w1.cell? ⟨wr.heap.size, 0, none⟩ = some (.int .i64 x.row) := (hb1.cell (p := ⟨wr.heap.size, 0, none⟩) (by simp)).trans (by simp [go_sem]); have q1 : w1.cell? ⟨wr.heap.size, 1, none⟩ = some (.int .i64 x.col) := (hb1.cell (p := ⟨wr.heap.size, 1, none⟩) (by simp)).trans (by simp [go_sem]))
          go_roundw
          case rel => exact ⟨k + 1, by omega, by go_num, HC2, hbr.trans (Below.mono (below_via hb1) (by omega))⟩
          case measure => simp [intOf]; omega
      · have hvf : v = false := by rw [hv]; exact decide_eq_false (by omega)
        have HC2 := Lib.hid (show thrA s false at' (l.take (k + 1)) = true by rw [HT.out, HC.out, hvf]; rfl)
        clear hv hvf HT HX
        go_wp2_with (go_at_call 95; refine (HS.out _).mono ?_; rintro e w1 ⟨rfl, hb1⟩; have q0 : w1.cell? ⟨wr.heap.size, 0, none⟩ = some (.int .i64 x.row) := (hb1.cell (p := ⟨wr.heap.size, 0, none⟩) (by simp)).trans (by simp [go_sem]); have q1 : w1.cell? ⟨wr.heap.size, 1, none⟩ = some (.int .i64 x.col) := (hb1.cell (p := ⟨wr.heap.size, 1, none⟩) (by simp)).trans (by simp [go_sem]))
        go_roundw
        case rel => exact ⟨k + 1, by omega, by go_num, HC2, hbr.trans (Below.mono (below_via hb1) (by omega))⟩
        case measure => simp [intOf]; omega
    · have e : l.take k = l := List.take_of_length_le (by omega)
      have HE := Lib.hid (show true = V by have h := HC.out; rw [e] at h; rw [← HV.out]; exact h.symm)
      have HR := Lib.hid (HB.out.trans (hbr.mono (by have := HZ.out; omega)))
      clear e
      go_wp2
      go_ret
      exact ⟨ret_bool HE.out, HR.out⟩

theorem goes_any (s : Sh) (A : Option Addr) (c : Nat) (l : List Cd) (ac : Bool) (at' : Int) (w : World) (hs : s.Ok) (hA : CardsAt w w.heap.size A l) (hf : ∀ x ∈ l, fitP s x) (hn : l.length < 1000000) :
    Calls Tryd.prog 54 #[.agg #[.int .i64 s.r, .int .i64 s.c, .int .i64 s.l, .int .i64 s.w], .slice A l.length c, .bool ac, .int .i64 at'] w fun e w' => e = .returned (.bool (thrA s ac at' l)) ∧ Below w.heap.size w w' := by
  rcases ac with _ | _
  · exact goes_false s A c l at' w hs hA hf hn
  · exact goes_true s A c l at' w hs hA hf hn
end Go.Proofs.YtlollcabnfncpaaDoor
