/-
  The reference: whether a cut goes through no card. The reference: all cuts of a filling. The reference: the first filling without a cut.
-/
import Derived.Test.YtlollcabnfncpaaDoorRefI
import Derived.Test.YtlollcabnfncpaaDoorCuts
import Derived.Laws.MakeOwn
import Derived.Test.YtlollcabnfncpaaDoorRefH
import Derived.Test.YtlollcabnfncpaaDoorSolA
namespace Go.Proofs.YtlollcabnfncpaaDoor
open Go.RowKit

set_option maxHeartbeats 400000 in
theorem is_same {n lo hi : Int} {b : Bool} (h : b = decide (lo ≤ n ∧ n ≤ hi)) {W : World} : Calls Tryd.prog 67 #[.int .i64 n, .int .i64 lo, .int .i64 hi] W fun e w' => e = .returned (.bool b) ∧ w' = W := by
  subst h
  by_cases h1 : lo ≤ n
  · by_cases h2 : n ≤ hi
    · rw [decide_eq_true ⟨h1, h2⟩]
      go_enter Tryd.func67, Tryd.ntmps67
      go_wp2
      go_ret
      exact ⟨by first | rfl | exact ret_bool (decide_eq_true h2), rfl⟩
    · rw [decide_eq_false (fun h => h2 h.2)]
      go_enter Tryd.func67, Tryd.ntmps67
      go_wp2
      go_ret
      exact ⟨by first | rfl | exact ret_bool (decide_eq_false h2), rfl⟩
  · rw [decide_eq_false (fun h => h1 h.1)]
    go_enter Tryd.func67, Tryd.ntmps67
    go_wp2
    go_ret
    exact ⟨rfl, rfl⟩

/-- A cut goes through a card. -/
def thrB (s : Sh) (ac : Bool) (at' : Int) (x : Cd) : Bool := if ac = true then decide (x.row + 1 ≤ at' ∧ at' ≤ x.row + (hiS s x.t : Nat) - 1) else decide (x.col + 1 ≤ at' ∧ at' ≤ x.col + (wiS s x.t : Nat) - 1)
/-- A cut goes through no card. -/
def thrA (s : Sh) (ac : Bool) (at' : Int) (l : List Cd) : Bool := l.all fun x => !thrB s ac at' x
theorem thrA_snoc (s : Sh) (ac : Bool) (at' : Int) (l : List Cd) (x : Cd) : thrA s ac at' (l ++ [x]) = (thrA s ac at' l && !thrB s ac at' x) := by simp [thrA]

set_option maxRecDepth 100000 in
set_option maxHeartbeats 4000000 in
theorem through_true (s : Sh) (A : Option Addr) (c : Nat) (l : List Cd) (at' : Int) (w : World) (hs : s.Ok) (hA : RcdsAt w w.heap.size A l) (hf : ∀ x ∈ l, fitP s x) (hn : l.length < 1000000) :
    Calls Tryd.prog 114 #[.agg #[.int .i64 s.r, .int .i64 s.c, .int .i64 s.l, .int .i64 s.w], .slice A l.length c, .bool true, .int .i64 at'] w fun e w' => e = .returned (.bool (thrA s true at' l)) ∧ Below w.heap.size w w' := by
  obtain ⟨W0, hW0⟩ : ∃ W0, W0 = w.alloc (.cells #[.int .i64 s.r, .int .i64 s.c, .int .i64 s.l, .int .i64 s.w] 24) := ⟨_, rfl⟩
  have HB := Lib.hid (show Below w.heap.size w W0 from hW0 ▸ below_new w _)
  have hz0 : w.heap.size + 1 = W0.heap.size := by rw [hW0]; simp
  have HA := Lib.hid (hA.below HB.out (Nat.le_refl _))
  have HK := Lib.hid (fun (W : World) (h : Below W0.heap.size W0 W) => show W.cell? ⟨w.heap.size, 0, none⟩ = some (.int .i64 s.r) ∧ W.cell? ⟨w.heap.size, 1, none⟩ = some (.int .i64 s.c) ∧ W.cell? ⟨w.heap.size, 2, none⟩ = some (.int .i64 s.l) ∧ W.cell? ⟨w.heap.size, 3, none⟩ = some (.int .i64 s.w) from
    ⟨(h.cell (p := ⟨w.heap.size, 0, none⟩) (by simp; omega)).trans (by rw [hW0]; simp [go_sem]), (h.cell (p := ⟨w.heap.size, 1, none⟩) (by simp; omega)).trans (by rw [hW0]; simp [go_sem]), (h.cell (p := ⟨w.heap.size, 2, none⟩) (by simp; omega)).trans (by rw [hW0]; simp [go_sem]), (h.cell (p := ⟨w.heap.size, 3, none⟩) (by simp; omega)).trans (by rw [hW0]; simp [go_sem])⟩)
  have HF := Lib.hid hf
  generalize hV : thrA s true at' l = V
  have HV := Lib.hid hV
  have hr6 := hs.r6
  have hc6 := hs.c6
  clear hA hf hV
  go_enter Tryd.func114, Tryd.ntmps114
  go_wp2
  rw [← hW0]
  have HZ := Lib.hid hz0
  clear hW0 hz0
  go_loopw [9] (fun i wr => ∃ k : Nat, k ≤ l.length ∧ i = .int .i64 k ∧ Hid (thrA s true at' (l.take k) = true) ∧ Below W0.heap.size W0 wr) (fun i _ => l.length - (intOf i).toNat)
  case atStart => exact ⟨0, Nat.zero_le _, rfl, Lib.hid (by simp [thrA]), Below.refl _ _⟩
  case round =>
    obtain ⟨k, hk, rfl, HC, hbr⟩ := hrel
    by_cases hlt : k < l.length
    · have hx : l[k]? = some l[k] := List.getElem?_eq_getElem hlt
      generalize l[k] = x at hx
      have hzr := hbr.size
      have hzw := HZ.out
      have hfx := HF.out x (mem_of_get hx)
      obtain ⟨f1, f2, f3, f4⟩ := hfx
      obtain ⟨b, off, rfl, hb, d0, d1, d2⟩ := HA.out k x hx
      replace d0 := (hbr.cell (p := ⟨b, _, none⟩) (by simp; omega)).trans d0
      replace d1 := (hbr.cell (p := ⟨b, _, none⟩) (by simp; omega)).trans d1
      replace d2 := (hbr.cell (p := ⟨b, _, none⟩) (by simp; omega)).trans d2
      have hbz : b < wr.heap.size := by omega
      have hwz : w.heap.size < wr.heap.size := by omega
      have hts := take_snoc hx
      have HT := Lib.hid (show thrA s true at' (l.take (k + 1)) = (thrA s true at' (l.take k) && !thrB s true at' x) by rw [hts, thrA_snoc])
      have HX := Lib.hid (show thrB s true at' x = true → V = false from fun h => by
        rw [← HV.out]
        refine List.all_eq_false.2 ⟨x, mem_of_get hx, ?_⟩
        rw [h]; decide)
      have HS := fun W (Q : Ending → World → Prop) (h : Below wr.heap.size wr W) (hQ : ∀ w', Below wr.heap.size wr w' → Q (.returned (.tuple #[.int .i64 (hiS s x.t : Nat), .int .i64 (wiS s x.t : Nat)])) w') => (rsize_any s x W).mono fun e w' ⟨he, hb'⟩ => by rw [he]; exact hQ w' (h.trans (hb'.mono h.size))
      have h3 := hiS_le hs x.t
      have h4 := wiS_le hs x.t
      have hv : thrB s true at' x = decide (x.row + 1 ≤ at' ∧ at' ≤ x.row + (hiS s x.t : Nat) - 1) := rfl
      generalize thrB s true at' x = v at hv HT HX
      generalize hiS s x.t = ha at *
      generalize wiS s x.t = wa at *
      have HSS := Lib.hid HS
      have HI := Lib.hid (fun (W : World) => is_same (W := W) (n := at') (lo := x.row + 1) (hi := x.row + (ha : Nat) - 1) hv)
      have HR := Lib.hid (HB.out.trans (hbr.mono (by omega)))
      obtain ⟨r0, r1, r2, r3⟩ := HK.out _ hbr
      have HKK := Lib.hid (fun (W : World) (h : Below wr.heap.size wr W) => show W.cell? ⟨w.heap.size, 0, none⟩ = some (.int .i64 s.r) ∧ W.cell? ⟨w.heap.size, 1, none⟩ = some (.int .i64 s.c) ∧ W.cell? ⟨w.heap.size, 2, none⟩ = some (.int .i64 s.l) ∧ W.cell? ⟨w.heap.size, 3, none⟩ = some (.int .i64 s.w) ∧ W.cell? ⟨b, off + k * 3, none⟩ = some (.int .i64 x.row) ∧ W.cell? ⟨b, off + k * 3 + 1, none⟩ = some (.int .i64 x.col) ∧ W.cell? ⟨b, off + k * 3 + 2, none⟩ = some (.bool x.t) from
        ⟨(h.cell (p := ⟨w.heap.size, 0, none⟩) hwz).trans r0, (h.cell (p := ⟨w.heap.size, 1, none⟩) hwz).trans r1, (h.cell (p := ⟨w.heap.size, 2, none⟩) hwz).trans r2, (h.cell (p := ⟨w.heap.size, 3, none⟩) hwz).trans r3, (h.cell (p := ⟨b, _, none⟩) hbz).trans d0, (h.cell (p := ⟨b, _, none⟩) hbz).trans d1, (h.cell (p := ⟨b, _, none⟩) hbz).trans d2⟩)
      have hbd := (Below.refl wr.heap.size wr).drew
      have hki : (k : Int) < (l.length : Int) := by omega
      have hk0 : (0 : Int) ≤ (k : Int) := by omega
      clear hx hv r0 r1 r2 r3 d0 d1 d2 hzw HS hts
      go_wp2
      go_region_held3 (fun W => W.cell? ⟨w.heap.size, 0, none⟩ = some (.int .i64 s.r) ∧ W.cell? ⟨w.heap.size, 1, none⟩ = some (.int .i64 s.c) ∧ W.cell? ⟨w.heap.size, 2, none⟩ = some (.int .i64 s.l) ∧ W.cell? ⟨w.heap.size, 3, none⟩ = some (.int .i64 s.w) ∧ W.cell? ⟨b, off + k * 3, none⟩ = some (.int .i64 x.row) ∧ W.cell? ⟨b, off + k * 3 + 1, none⟩ = some (.int .i64 x.col) ∧ W.cell? ⟨b, off + k * 3 + 2, none⟩ = some (.bool x.t))
        (exact HKK.out _ (by assumption))
        (first | (go_at_call 84; with_reducible refine HSS.out _ _ (by assumption) ?_; intro w6 hb6))
      all_goals
        change Exit.then _ _ Exit.normal _ _
        have HZ6 := Lib.hid hb6
        obtain ⟨_, _, _, _, r0, r1, r2⟩ := HKK.out _ hb6
        clear hbd hb6
        have hw1 : IntKind.i64.wrap (x.row + 1) = x.row + 1 := IntWalk.i64_in _ (by omega)
        have hw2 : IntKind.i64.wrap (x.row + (ha : Int)) = x.row + (ha : Int) := IntWalk.i64_in _ (by omega)
        have hw3 : IntKind.i64.wrap (x.row + (ha : Int) - 1) = x.row + (ha : Int) - 1 := IntWalk.i64_in _ (by omega)
        rcases v with _ | _
        · have HC2 := Lib.hid (show thrA s true at' (l.take (k + 1)) = true by rw [HT.out, HC.out]; rfl)
          go_wp2
          go_quiet ((go_at_call 67; exact Calls.quiet_of_same (HI.out _)))
          clear hw1 hw2 hw3
          go_wp2_with fail
          go_roundw
          case rel => exact ⟨k + 1, by omega, by go_num, HC2, hbr.trans (Below.mono (below_drewN HZ6.out _) (by omega))⟩
          case measure => simp [intOf]; omega
        · have HVT := Lib.hid (HX.out rfl)
          go_wp2
          go_quiet ((go_at_call 67; exact Calls.quiet_of_same (HI.out _)))
          clear hw1 hw2 hw3
          go_wp2_with fail
          go_ret
          exact ⟨ret_bool HVT.out.symm, HR.out.trans (Below.mono (below_drewN HZ6.out _) (by omega))⟩
    · have e : l.take k = l := List.take_of_length_le (by omega)
      have HE := Lib.hid (show true = V by have h := HC.out; rw [e] at h; rw [← HV.out]; exact h.symm)
      have HR := Lib.hid (HB.out.trans (hbr.mono (by have := HZ.out; omega)))
      clear e
      go_wp2
      go_ret
      exact ⟨ret_bool HE.out, HR.out⟩

set_option maxRecDepth 100000 in
set_option maxHeartbeats 4000000 in
theorem through_false (s : Sh) (A : Option Addr) (c : Nat) (l : List Cd) (at' : Int) (w : World) (hs : s.Ok) (hA : RcdsAt w w.heap.size A l) (hf : ∀ x ∈ l, fitP s x) (hn : l.length < 1000000) :
    Calls Tryd.prog 114 #[.agg #[.int .i64 s.r, .int .i64 s.c, .int .i64 s.l, .int .i64 s.w], .slice A l.length c, .bool false, .int .i64 at'] w fun e w' => e = .returned (.bool (thrA s false at' l)) ∧ Below w.heap.size w w' := by
  obtain ⟨W0, hW0⟩ : ∃ W0, W0 = w.alloc (.cells #[.int .i64 s.r, .int .i64 s.c, .int .i64 s.l, .int .i64 s.w] 24) := ⟨_, rfl⟩
  have HB := Lib.hid (show Below w.heap.size w W0 from hW0 ▸ below_new w _)
  have hz0 : w.heap.size + 1 = W0.heap.size := by rw [hW0]; simp
  have HA := Lib.hid (hA.below HB.out (Nat.le_refl _))
  have HK := Lib.hid (fun (W : World) (h : Below W0.heap.size W0 W) => show W.cell? ⟨w.heap.size, 0, none⟩ = some (.int .i64 s.r) ∧ W.cell? ⟨w.heap.size, 1, none⟩ = some (.int .i64 s.c) ∧ W.cell? ⟨w.heap.size, 2, none⟩ = some (.int .i64 s.l) ∧ W.cell? ⟨w.heap.size, 3, none⟩ = some (.int .i64 s.w) from
    ⟨(h.cell (p := ⟨w.heap.size, 0, none⟩) (by simp; omega)).trans (by rw [hW0]; simp [go_sem]), (h.cell (p := ⟨w.heap.size, 1, none⟩) (by simp; omega)).trans (by rw [hW0]; simp [go_sem]), (h.cell (p := ⟨w.heap.size, 2, none⟩) (by simp; omega)).trans (by rw [hW0]; simp [go_sem]), (h.cell (p := ⟨w.heap.size, 3, none⟩) (by simp; omega)).trans (by rw [hW0]; simp [go_sem])⟩)
  have HF := Lib.hid hf
  generalize hV : thrA s false at' l = V
  have HV := Lib.hid hV
  have hr6 := hs.r6
  have hc6 := hs.c6
  clear hA hf hV
  go_enter Tryd.func114, Tryd.ntmps114
  go_wp2
  rw [← hW0]
  have HZ := Lib.hid hz0
  clear hW0 hz0
  go_loopw [9] (fun i wr => ∃ k : Nat, k ≤ l.length ∧ i = .int .i64 k ∧ Hid (thrA s false at' (l.take k) = true) ∧ Below W0.heap.size W0 wr) (fun i _ => l.length - (intOf i).toNat)
  case atStart => exact ⟨0, Nat.zero_le _, rfl, Lib.hid (by simp [thrA]), Below.refl _ _⟩
  case round =>
    obtain ⟨k, hk, rfl, HC, hbr⟩ := hrel
    by_cases hlt : k < l.length
    · have hx : l[k]? = some l[k] := List.getElem?_eq_getElem hlt
      generalize l[k] = x at hx
      have hzr := hbr.size
      have hzw := HZ.out
      have hfx := HF.out x (mem_of_get hx)
      obtain ⟨f1, f2, f3, f4⟩ := hfx
      obtain ⟨b, off, rfl, hb, d0, d1, d2⟩ := HA.out k x hx
      replace d0 := (hbr.cell (p := ⟨b, _, none⟩) (by simp; omega)).trans d0
      replace d1 := (hbr.cell (p := ⟨b, _, none⟩) (by simp; omega)).trans d1
      replace d2 := (hbr.cell (p := ⟨b, _, none⟩) (by simp; omega)).trans d2
      have hbz : b < wr.heap.size := by omega
      have hwz : w.heap.size < wr.heap.size := by omega
      have hts := take_snoc hx
      have HT := Lib.hid (show thrA s false at' (l.take (k + 1)) = (thrA s false at' (l.take k) && !thrB s false at' x) by rw [hts, thrA_snoc])
      have HX := Lib.hid (show thrB s false at' x = true → V = false from fun h => by
        rw [← HV.out]
        refine List.all_eq_false.2 ⟨x, mem_of_get hx, ?_⟩
        rw [h]; decide)
      have HS := fun W (Q : Ending → World → Prop) (h : Below wr.heap.size wr W) (hQ : ∀ w', Below wr.heap.size wr w' → Q (.returned (.tuple #[.int .i64 (hiS s x.t : Nat), .int .i64 (wiS s x.t : Nat)])) w') => (rsize_any s x W).mono fun e w' ⟨he, hb'⟩ => by rw [he]; exact hQ w' (h.trans (hb'.mono h.size))
      have h3 := hiS_le hs x.t
      have h4 := wiS_le hs x.t
      have hv : thrB s false at' x = decide (x.col + 1 ≤ at' ∧ at' ≤ x.col + (wiS s x.t : Nat) - 1) := rfl
      generalize thrB s false at' x = v at hv HT HX
      generalize hiS s x.t = ha at *
      generalize wiS s x.t = wa at *
      have HSS := Lib.hid HS
      have HI := Lib.hid (fun (W : World) => is_same (W := W) (n := at') (lo := x.col + 1) (hi := x.col + (wa : Nat) - 1) hv)
      have HR := Lib.hid (HB.out.trans (hbr.mono (by omega)))
      obtain ⟨r0, r1, r2, r3⟩ := HK.out _ hbr
      have HKK := Lib.hid (fun (W : World) (h : Below wr.heap.size wr W) => show W.cell? ⟨w.heap.size, 0, none⟩ = some (.int .i64 s.r) ∧ W.cell? ⟨w.heap.size, 1, none⟩ = some (.int .i64 s.c) ∧ W.cell? ⟨w.heap.size, 2, none⟩ = some (.int .i64 s.l) ∧ W.cell? ⟨w.heap.size, 3, none⟩ = some (.int .i64 s.w) ∧ W.cell? ⟨b, off + k * 3, none⟩ = some (.int .i64 x.row) ∧ W.cell? ⟨b, off + k * 3 + 1, none⟩ = some (.int .i64 x.col) ∧ W.cell? ⟨b, off + k * 3 + 2, none⟩ = some (.bool x.t) from
        ⟨(h.cell (p := ⟨w.heap.size, 0, none⟩) hwz).trans r0, (h.cell (p := ⟨w.heap.size, 1, none⟩) hwz).trans r1, (h.cell (p := ⟨w.heap.size, 2, none⟩) hwz).trans r2, (h.cell (p := ⟨w.heap.size, 3, none⟩) hwz).trans r3, (h.cell (p := ⟨b, _, none⟩) hbz).trans d0, (h.cell (p := ⟨b, _, none⟩) hbz).trans d1, (h.cell (p := ⟨b, _, none⟩) hbz).trans d2⟩)
      have hbd := (Below.refl wr.heap.size wr).drew
      have hki : (k : Int) < (l.length : Int) := by omega
      have hk0 : (0 : Int) ≤ (k : Int) := by omega
      clear hx hv r0 r1 r2 r3 d0 d1 d2 hzw HS hts
      go_wp2
      go_region_held3 (fun W => W.cell? ⟨w.heap.size, 0, none⟩ = some (.int .i64 s.r) ∧ W.cell? ⟨w.heap.size, 1, none⟩ = some (.int .i64 s.c) ∧ W.cell? ⟨w.heap.size, 2, none⟩ = some (.int .i64 s.l) ∧ W.cell? ⟨w.heap.size, 3, none⟩ = some (.int .i64 s.w) ∧ W.cell? ⟨b, off + k * 3, none⟩ = some (.int .i64 x.row) ∧ W.cell? ⟨b, off + k * 3 + 1, none⟩ = some (.int .i64 x.col) ∧ W.cell? ⟨b, off + k * 3 + 2, none⟩ = some (.bool x.t))
        (exact HKK.out _ (by assumption))
        (first | (go_at_call 84; with_reducible refine HSS.out _ _ (by assumption) ?_; intro w6 hb6))
      all_goals
        change Exit.then _ _ Exit.normal _ _
        have HZ6 := Lib.hid hb6
        obtain ⟨_, _, _, _, r0, r1, r2⟩ := HKK.out _ hb6
        clear hbd hb6
        have hw1 : IntKind.i64.wrap (x.col + 1) = x.col + 1 := IntWalk.i64_in _ (by omega)
        have hw2 : IntKind.i64.wrap (x.col + (wa : Int)) = x.col + (wa : Int) := IntWalk.i64_in _ (by omega)
        have hw3 : IntKind.i64.wrap (x.col + (wa : Int) - 1) = x.col + (wa : Int) - 1 := IntWalk.i64_in _ (by omega)
        rcases v with _ | _
        · have HC2 := Lib.hid (show thrA s false at' (l.take (k + 1)) = true by rw [HT.out, HC.out]; rfl)
          go_wp2
          go_quiet ((go_at_call 67; exact Calls.quiet_of_same (HI.out _)))
          clear hw1 hw2 hw3
          go_wp2_with fail
          go_roundw
          case rel => exact ⟨k + 1, by omega, by go_num, HC2, hbr.trans (Below.mono (below_drewN HZ6.out _) (by omega))⟩
          case measure => simp [intOf]; omega
        · have HVT := Lib.hid (HX.out rfl)
          go_wp2
          go_quiet ((go_at_call 67; exact Calls.quiet_of_same (HI.out _)))
          clear hw1 hw2 hw3
          go_wp2_with fail
          go_ret
          exact ⟨ret_bool HVT.out.symm, HR.out.trans (Below.mono (below_drewN HZ6.out _) (by omega))⟩
    · have e : l.take k = l := List.take_of_length_le (by omega)
      have HE := Lib.hid (show true = V by have h := HC.out; rw [e] at h; rw [← HV.out]; exact h.symm)
      have HR := Lib.hid (HB.out.trans (hbr.mono (by have := HZ.out; omega)))
      clear e
      go_wp2
      go_ret
      exact ⟨ret_bool HE.out, HR.out⟩

theorem through_any (s : Sh) (A : Option Addr) (c : Nat) (l : List Cd) (ac : Bool) (at' : Int) (w : World) (hs : s.Ok) (hA : RcdsAt w w.heap.size A l) (hf : ∀ x ∈ l, fitP s x) (hn : l.length < 1000000) :
    Calls Tryd.prog 114 #[.agg #[.int .i64 s.r, .int .i64 s.c, .int .i64 s.l, .int .i64 s.w], .slice A l.length c, .bool ac, .int .i64 at'] w fun e w' => e = .returned (.bool (thrA s ac at' l)) ∧ Below w.heap.size w w' := by
  rcases ac with _ | _
  · exact through_false s A c l at' w hs hA hf hn
  · exact through_true s A c l at' w hs hA hf hn

/-- The spans of cards, by rows or by columns, and the cuts between them. -/
def spnB (s : Sh) (ac : Bool) (l : List Cd) : List (Int × Int) := if ac = true then rowsB (l.map (blk s)) else colsB (l.map (blk s))
def cutB (s : Sh) (ac : Bool) (l : List Cd) : List Int := gapN 0 ((if ac = true then s.r else s.c) - 1) (spnB s ac l)
theorem thr_free (s : Sh) (ac : Bool) (at' : Int) (l : List Cd) : thrA s ac at' l = free' (spnB s ac l) at' := by
  unfold thrA free' spnB rowsB colsB thrB
  rcases ac with _ | _
  · simp only [Bool.false_eq_true, if_false, List.map_map, List.all_map]
    congr 1
    funext x
    show (!decide (x.col + 1 ≤ at' ∧ at' ≤ x.col + (wiS s x.t : Nat) - 1)) = !(decide (x.col < at') && decide (at' < x.col + (wiS s x.t : Nat)))
    rw [Bool.eq_iff_iff]
    simp only [Bool.not_eq_true', decide_eq_false_iff_not, Bool.and_eq_false_imp, decide_eq_true_eq]
    omega
  · simp only [if_true, List.map_map, List.all_map]
    congr 1
    funext x
    show (!decide (x.row + 1 ≤ at' ∧ at' ≤ x.row + (hiS s x.t : Nat) - 1)) = !(decide (x.row < at') && decide (at' < x.row + (hiS s x.t : Nat)))
    rw [Bool.eq_iff_iff]
    simp only [Bool.not_eq_true', decide_eq_false_iff_not, Bool.and_eq_false_imp, decide_eq_true_eq]
    omega
theorem cutB_rows {s : Sh} (hs : s.Ok) (l : List Cd) : cutB s true l = cutsR s l := by
  have := hs.r1
  unfold cutB cutsR gapL spnB
  rw [if_pos rfl, if_pos rfl, show ((s.r : Int) - 0 - 1).toNat = s.r - 1 by omega]
theorem cutB_cols {s : Sh} (hs : s.Ok) (l : List Cd) : cutB s false l = cutsC s l := by
  have := hs.c1
  unfold cutB cutsC gapL spnB
  simp only [Bool.false_eq_true, if_false]
  rw [show ((s.c : Int) - 0 - 1).toNat = s.c - 1 by omega]

set_option maxRecDepth 100000 in
set_option maxHeartbeats 4000000 in
theorem rcuts_any (s : Sh) (A : Option Addr) (c : Nat) (l : List Cd) (ac : Bool) (w : World) (hs : s.Ok) (hA : RcdsAt w w.heap.size A l) (hf : ∀ x ∈ l, fitP s x) (hn : l.length < 1000000) :
    Calls Tryd.prog 76 #[.agg #[.int .i64 s.r, .int .i64 s.c, .int .i64 s.l, .int .i64 s.w], .slice A l.length c, .bool ac] w (RetInts w (cutB s ac l)) := by
  obtain ⟨W0, hW0⟩ : ∃ W0, W0 = w.alloc (.cells #[.int .i64 s.r, .int .i64 s.c, .int .i64 s.l, .int .i64 s.w] 24) := ⟨_, rfl⟩
  have HB := Lib.hid (show Below w.heap.size w W0 from hW0 ▸ below_new w _)
  have hz0 : w.heap.size + 1 = W0.heap.size := by rw [hW0]; simp
  have hA0 := (hA.below HB.out (Nat.le_refl _)).mono (show w.heap.size ≤ W0.heap.size by omega)
  have HT := Lib.hid (fun (at' : Int) (W : World) (h : Below W0.heap.size W0 W) => through_any s A c l ac at' W hs (hA0.up h) hf hn)
  have HK := Lib.hid (fun (W : World) (h : Below W0.heap.size W0 W) => show W.cell? ⟨w.heap.size, 0, none⟩ = some (.int .i64 s.r) ∧ W.cell? ⟨w.heap.size, 1, none⟩ = some (.int .i64 s.c) ∧ W.cell? ⟨w.heap.size, 2, none⟩ = some (.int .i64 s.l) ∧ W.cell? ⟨w.heap.size, 3, none⟩ = some (.int .i64 s.w) from
    ⟨(h.cell (p := ⟨w.heap.size, 0, none⟩) (by simp; omega)).trans (by rw [hW0]; simp [go_sem]), (h.cell (p := ⟨w.heap.size, 1, none⟩) (by simp; omega)).trans (by rw [hW0]; simp [go_sem]), (h.cell (p := ⟨w.heap.size, 2, none⟩) (by simp; omega)).trans (by rw [hW0]; simp [go_sem]), (h.cell (p := ⟨w.heap.size, 3, none⟩) (by simp; omega)).trans (by rw [hW0]; simp [go_sem])⟩)
  have HTF := Lib.hid (fun at' => thr_free s ac at' l)
  unfold cutB
  obtain ⟨n, hn1⟩ : ∃ n : Nat, n = (if ac = true then s.r else s.c) := ⟨_, rfl⟩
  have hn6 : 1 ≤ n ∧ n ≤ 6 := by
    have := hs.r1; have := hs.r6; have := hs.c1; have := hs.c6
    rw [hn1]; split <;> omega
  rw [← hn1]
  generalize spnB s ac l = sp at *
  have HN := Lib.hid hn1
  have hb00 : Below W0.heap.size W0 W0 := Below.refl _ _
  clear hA hA0 hf hn1
  rcases ac with _ | _
  all_goals
    have hnc := HN.out
    simp only [Bool.false_eq_true, if_false, if_true] at hnc
    have HC := Lib.hid hnc
    clear HN
    go_enter Tryd.func76, Tryd.ntmps76
    go_wp2
    rw [← hW0]
    obtain ⟨k0, k1, k2, k3⟩ := HK.out W0 hb00
    have HZ := Lib.hid hz0
    clear hW0 hz0 hnc
    go_wp2
    rw [← HC.out]
    go_loopw [8, 9] (fun v i wr => ∃ k : Nat, k + 1 ≤ n ∧ i = .int .i64 (1 + (k : Nat)) ∧ wr.ownsRow W0.heap.size 3 1 v (gapN 0 k sp).length ((gapN 0 k sp).map (Value.int .i64)) ∧ Below W0.heap.size W0 wr) (fun _ i _ => 8 - (intOf i).toNat)
    case atStart => exact ⟨0, by omega, by simp, by exact World.ownsRow_nil _ _ _ _, Below.refl _ _⟩
    case round =>
      obtain ⟨k, hk, rfl, hown, hbr⟩ := hrel
      obtain ⟨r0, r1, r2, r3⟩ := HK.out _ hbr
      have hzr := hbr.size
      have hlen := gapN_len 0 k sp
      by_cases hlt : k + 1 < n
      · have hlt' : 1 + (k : Int) < (n : Int) := by omega
        have hg := gapN_free 0 k sp
        have hat : (0 : Int) + 1 + (k : Nat) = 1 + (k : Int) := by omega
        rw [hat] at hg
        have HG := Lib.hid hg
        generalize gapN 0 k sp = L at hown hlen HG
        have HTT := Lib.hid (fun W (h : Below W0.heap.size W0 W) => HT.out (1 + (k : Int)) W h)
        have hq := HTF.out (1 + (k : Int))
        clear hg hat
        rw [hq] at HTT
        clear hq
        rcases hfr : free' sp (1 + (k : Int)) with _ | _
        · rw [hfr] at HTT
          rw [hfr] at HG
          clear hfr
          go_wp2_with ((with_reducible refine (HTT.out _ hbr).mono ?_); rintro e w5 ⟨rfl, hb5⟩)
          go_roundw
          case rel => exact ⟨k + 1, by omega, by go_num, by rw [HG.out]; simpa using own_below hown hb5, hbr.trans (hb5.mono hzr)⟩
          case measure => simp [intOf]; omega
        · rw [hfr] at HTT
          rw [hfr] at HG
          clear hfr
          go_wp2_with (first
            | (go_at_call 114; (with_reducible refine (HTT.out _ hbr).mono ?_); rintro e w5 ⟨rfl, hb5⟩; have hown5 := own_below hown hb5; have hb6 := hbr.trans (hb5.mono hzr))
            | (at_builtin; refine wpList_append_int _ rfl _ _ rfl W0.heap.size _ w5.heap.size _ _ (1 + (k : Int)) rfl (hown5.alloc _) rfl (heap_at _ _ _ rfl) (by omega) (by have := hb6.size; simp; omega) ?_; intro A5 c5 w6 hown6 hgr6 _))
          go_roundw
          case rel =>
            refine ⟨k + 1, by omega, by go_num, ?_, ?_⟩
            · rw [HG.out, if_pos trivial, List.length_append]; exact hown6
            · exact (hb6.alloc hb6.size _).grown hgr6 (by have := hb6.size; simp; omega) (fun g hg => (hown5.lt g hg).1)
          case measure => simp [intOf]; omega
      · have hkn : k = n - 1 := by omega
        have hlt' : ¬ (1 + (k : Int) < (n : Int)) := by omega
        obtain ⟨A', c', rfl, hA', _⟩ := own_ints hown
        have HR := Lib.hid (show RetInts w (gapN 0 (n - 1) sp) (.returned (.slice A' (gapN 0 k sp).length c')) wr from hkn ▸ ⟨A', c', rfl, hA', HB.out.trans (hbr.mono (by have := HZ.out; omega))⟩)
        clear hA' hown hkn hlen
        go_wp2
        go_ret
        exact HR.out

theorem solid_cuts {s : Sh} (hs : s.Ok) (l : List Cd) : solidP s l = ((cutB s true l).length == 0 && (cutB s false l).length == 0) := by
  rw [cutB_rows hs, cutB_cols hs]; rfl

/-- No filling of the first ones is wanted. -/
def NoneIn (q : List Cd → Bool) (L : List (List Cd)) : Prop := ∀ x ∈ L, q x = false
theorem NoneIn.snoc {q : List Cd → Bool} {L : List (List Cd)} {k : Nat} {y : List Cd} (h : NoneIn q (L.take k)) (hy : L[k]? = some y) (hq : q y = false) : NoneIn q (L.take (k + 1)) := by
  intro x hx
  rw [take_snoc hy] at hx
  rcases List.mem_append.1 hx with hx | hx
  · exact h x hx
  · rw [List.mem_singleton.1 hx]; exact hq
theorem find_at {q : List Cd → Bool} : ∀ {L : List (List Cd)} {k : Nat} {y : List Cd}, NoneIn q (L.take k) → L[k]? = some y → q y = true → L.find? q = some y
  | [], k, y, _, hy, _ => by simp at hy
  | x :: L, 0, y, _, hy, hq => by
    have e : x = y := by simpa using hy
    subst e
    rw [List.find?_cons, hq]
  | x :: L, k + 1, y, h, hy, hq => by
    have hx : q x = false := h x (by simp)
    rw [List.find?_cons, hx]
    exact find_at (k := k) (fun z hz => h z (by simp [hz])) (by simpa using hy) hq
theorem find_none {q : List Cd → Bool} {L : List (List Cd)} (h : NoneIn q L) : L.find? q = none := by
  rw [List.find?_eq_none]
  intro x hx
  rw [h x hx]; decide

set_option maxRecDepth 100000 in
set_option maxHeartbeats 4000000 in
theorem rsolid_any (r c l v : Int) (w : World) :
    Calls Tryd.prog 38 #[.agg #[.int .i64 r, .int .i64 c, .int .i64 l, .int .i64 v]] w (RetRFirst (solS r c l v) (errS r c l v (solS r c l v)) w) := by
  have HC := Lib.hid (rcheck_q r c l v w)
  have hb0 := below_new w (.cells #[.int .i64 r, .int .i64 c, .int .i64 l, .int .i64 v] 24)
  by_cases h0 : chkS r c l v = 0
  · obtain ⟨s, hs, rfl, rfl, rfl, rfl⟩ := ok_of_chk h0
    have HF := fun w1 => fils_q s hs 1048576 1048576 rfl (by decide) (by decide) w1
    rw [all_taken hs] at HF
    have HV := Lib.hid (fun (W : World) (o : Nat) (u : Value) (h : Below (w.alloc (.cells #[.int .i64 s.r, .int .i64 s.c, .int .i64 s.l, .int .i64 s.w] 24)).heap.size (w.alloc (.cells #[.int .i64 s.r, .int .i64 s.c, .int .i64 s.l, .int .i64 s.w] 24)) W) (e : (w.alloc (.cells #[.int .i64 s.r, .int .i64 s.c, .int .i64 s.l, .int .i64 s.w] 24)).cell? ⟨w.heap.size, o, none⟩ = some u) => show W.cell? ⟨w.heap.size, o, none⟩ = some u from (h.cell (p := ⟨w.heap.size, o, none⟩) (by simp)).trans e)
    have HC2 := rcheck_q s.r s.c s.l s.w (w.alloc (.cells #[.int .i64 s.r, .int .i64 s.c, .int .i64 s.l, .int .i64 s.w] 24))
    rw [h0] at HC2
    have hsol : solS s.r s.c s.l s.w = (filC s 0 []).find? (solidP s) := by
      unfold solS
      rw [if_pos h0]
      rfl
    have hlen : ∀ x ∈ filC s 0 [], x.length ≤ 36 := fun x hx => filC_len hs hx
    have hfit : ∀ x ∈ filC s 0 [], ∀ y ∈ x, fitP s y := fun x hx => filC_fit hx
    have hsm := filC_small hs 0 []
    unfold errS
    rw [if_pos h0, hsol]
    generalize filC s 0 [] = L at *
    have hq := fun x => solid_cuts hs x
    generalize solidP s = q at *
    generalize hfo : L.find? q = fo
    generalize hze : (if fo.isSome = true then (0 : Int) else 12) = z
    have HFO := Lib.hid hfo
    have HZE := Lib.hid hze
    clear hfo hze
    have HQ := Lib.hid hq
    have HC2 := Lib.hid HC2
    have HF := Lib.hid HF
    have HL := Lib.hid hlen
    have HI := Lib.hid hfit
    clear h0 HC hsol hlen hfit hq
    go_enter Tryd.func38, Tryd.ntmps38
    go_wp2_with (first
      | (go_at_call 21; with_reducible refine HC2.out _ _ (Below.refl _ _) ?_; intro w1 hb1
         have s0 := HV.out w1 0 _ hb1 (by simp [go_sem]; rfl)
         have s1 := HV.out w1 1 _ hb1 (by simp [go_sem]; rfl)
         have s2 := HV.out w1 2 _ hb1 (by simp [go_sem]; rfl)
         have s3 := HV.out w1 3 _ hb1 (by simp [go_sem]; rfl)
         have HS1 := Lib.hid hb1.size)
      | (go_at_call 64; with_reducible refine HF.out _ _ _ (Below.refl _ _) ?_; intro A9 c9 vals9 w9 hv9 hS9 hc9; have hb9 := (below_via hb1).trans (hc9.mono (below_via hb1).size)))
    have HG := Lib.hid (fil_at hv9 hS9)
    have HB := Lib.hid hb9
    have HK := Lib.hid (fun (W : World) (h : Below w9.heap.size w9 W) => show W.cell? ⟨w.heap.size, 0, none⟩ = some (.int .i64 s.r) ∧ W.cell? ⟨w.heap.size, 1, none⟩ = some (.int .i64 s.c) ∧ W.cell? ⟨w.heap.size, 2, none⟩ = some (.int .i64 s.l) ∧ W.cell? ⟨w.heap.size, 3, none⟩ = some (.int .i64 s.w) from by
      have hz1 := hc9.size
      have hz2 := HS1.out
      simp only [World.size_alloc] at hz2
      have hz3 : w.heap.size < w9.heap.size := by omega
      have hz4 : w.heap.size < w1.heap.size := by omega
      exact ⟨(h.cell (p := ⟨w.heap.size, 0, none⟩) hz3).trans ((hc9.cell (p := ⟨w.heap.size, 0, none⟩) hz4).trans s0), (h.cell (p := ⟨w.heap.size, 1, none⟩) hz3).trans ((hc9.cell (p := ⟨w.heap.size, 1, none⟩) hz4).trans s1), (h.cell (p := ⟨w.heap.size, 2, none⟩) hz3).trans ((hc9.cell (p := ⟨w.heap.size, 2, none⟩) hz4).trans s2), (h.cell (p := ⟨w.heap.size, 3, none⟩) hz3).trans ((hc9.cell (p := ⟨w.heap.size, 3, none⟩) hz4).trans s3)⟩)
    have HSZ := Lib.hid (show w.heap.size ≤ w9.heap.size from hb9.size)
    clear hv9 hS9 s0 s1 s2 s3 hb1 hb9 HC2 HF HV hb0 hc9
    obtain ⟨W9, rfl⟩ : ∃ W9 : World, W9 = w9 := ⟨_, rfl⟩
    go_loopw [6] (fun i wr => ∃ k : Nat, k ≤ L.length ∧ i = .int .i64 k ∧ Hid (NoneIn q (L.take k)) ∧ Below W9.heap.size W9 wr) (fun i _ => L.length - (intOf i).toNat)
    case atStart => exact ⟨0, Nat.zero_le _, rfl, Lib.hid (fun x hx => by simp at hx), Below.refl _ _⟩
    case round =>
      obtain ⟨k, hk, rfl, HN, hbr⟩ := hrel
      have hzr := hbr.size
      by_cases hlt : k < L.length
      · have hx : L[k]? = some L[k] := List.getElem?_eq_getElem hlt
        generalize L[k] = y at hx
        obtain ⟨b, off, A5, c5, rfl, hb, hc5, hR5⟩ := HG.out k y hx
        replace hc5 := (hbr.cell (p := ⟨b, off + k, none⟩) hb).trans hc5
        replace hR5 := hR5.up hbr
        have hyl := HL.out y (mem_of_get hx)
        have hyf := HI.out y (mem_of_get hx)
        have hbz : b < wr.heap.size := by omega
        obtain ⟨r0, r1, r2, r3⟩ := HK.out _ hbr
        have hwz : w.heap.size < wr.heap.size := by
          rcases Nat.lt_or_ge w.heap.size wr.heap.size with h | h
          · exact h
          · have hn : wr.heap[w.heap.size]? = none := Array.getElem?_eq_none h
            simp [World.cell?, hn] at r0
        have H6 := Lib.hid (fun W (Q : Ending → World → Prop) (h : Below wr.heap.size wr W) (hQ : ∀ B d w', Below wr.heap.size wr w' → Q (.returned (.slice B (cutB s true y).length d)) w') =>
          (rcuts_any s A5 c5 y true W hs (hR5.up h) hyf (by omega)).mono fun e w' ⟨B, d, he, _, hb⟩ => by rw [he]; exact hQ B d w' (h.trans (hb.mono h.size)))
        have H7 := Lib.hid (fun W (Q : Ending → World → Prop) (h : Below wr.heap.size wr W) (hQ : ∀ B d w', Below wr.heap.size wr w' → Q (.returned (.slice B (cutB s false y).length d)) w') =>
          (rcuts_any s A5 c5 y false W hs (hR5.up h) hyf (by omega)).mono fun e w' ⟨B, d, he, _, hb⟩ => by rw [he]; exact hQ B d w' (h.trans (hb.mono h.size)))
        have HQY := Lib.hid (HQ.out y)
        have HX := Lib.hid hx
        have HRR := Lib.hid hR5
        have HKK := Lib.hid (fun (W : World) (h : Below wr.heap.size wr W) => show W.cell? ⟨w.heap.size, 0, none⟩ = some (.int .i64 s.r) ∧ W.cell? ⟨w.heap.size, 1, none⟩ = some (.int .i64 s.c) ∧ W.cell? ⟨w.heap.size, 2, none⟩ = some (.int .i64 s.l) ∧ W.cell? ⟨w.heap.size, 3, none⟩ = some (.int .i64 s.w) ∧ W.cell? ⟨b, off + k, none⟩ = some (.slice A5 y.length c5) from
          ⟨(h.cell (p := ⟨w.heap.size, 0, none⟩) hwz).trans r0, (h.cell (p := ⟨w.heap.size, 1, none⟩) hwz).trans r1, (h.cell (p := ⟨w.heap.size, 2, none⟩) hwz).trans r2, (h.cell (p := ⟨w.heap.size, 3, none⟩) hwz).trans r3, (h.cell (p := ⟨b, _, none⟩) hbz).trans hc5⟩)
        have hbd := (Below.refl wr.heap.size wr).drew
        have hki : (k : Int) < (L.length : Int) := by omega
        have hk0 : (0 : Int) ≤ (k : Int) := by omega
        clear hx r0 r1 r2 r3 hc5 hR5
        generalize (cutB s true y).length = ga at *
        generalize (cutB s false y).length = gb at *
        by_cases hga : ga = 0
        · have hg0 : ((ga : Int) == 0) = true := beq_iff_eq.2 (by omega)
          have HGA := Lib.hid hga
          clear hga
          by_cases hgb : gb = 0
          · have HV := Lib.hid (show fo = some y from HFO.out.symm.trans (find_at HN.out HX.out (HQY.out.trans (by rw [HGA.out, hgb]; rfl))))
            have hg1 : ((gb : Int) == 0) = true := beq_iff_eq.2 (by omega)
            clear hgb
            have HVV := Lib.hid (show z = 0 by rw [← HZE.out, HV.out]; rfl)
            have HR := Lib.hid (HB.out.trans (hbr.mono HSZ.out))
            go_wp2
            go_region_held3 (fun W => W.cell? ⟨w.heap.size, 0, none⟩ = some (.int .i64 s.r) ∧ W.cell? ⟨w.heap.size, 1, none⟩ = some (.int .i64 s.c) ∧ W.cell? ⟨w.heap.size, 2, none⟩ = some (.int .i64 s.l) ∧ W.cell? ⟨w.heap.size, 3, none⟩ = some (.int .i64 s.w) ∧ W.cell? ⟨b, off + k, none⟩ = some (.slice A5 y.length c5))
            (exact HKK.out _ (by assumption))
            (first
              | (go_at_call 76; with_reducible refine H6.out _ _ (by assumption) ?_; intro B6 d6 w6 hb6)
              | (go_at_call 76; with_reducible refine H7.out _ _ (by assumption) ?_; intro B7 d7 w7 hb7))
            all_goals
              have HB7 := Lib.hid (show Below wr.heap.size wr w7 by assumption)
              obtain ⟨_, _, _, _, q5⟩ := HKK.out _ HB7.out
              go_wp2_with fail
              go_ret2
              rw [HV.out, HVV.out]
              exact ⟨A5, c5, rfl, HRR.out.up HB7.out, HR.out.trans (HB7.out.mono (by omega))⟩
          · have HN2 := Lib.hid (HN.out.snoc HX.out (HQY.out.trans (by rw [beq_eq_false_iff_ne.2 hgb, Bool.and_false])))
            have hg1 : ((gb : Int) == 0) = false := beq_eq_false_iff_ne.2 (by omega)
            clear hgb
            go_wp2
            go_region_held3 (fun W => W.cell? ⟨w.heap.size, 0, none⟩ = some (.int .i64 s.r) ∧ W.cell? ⟨w.heap.size, 1, none⟩ = some (.int .i64 s.c) ∧ W.cell? ⟨w.heap.size, 2, none⟩ = some (.int .i64 s.l) ∧ W.cell? ⟨w.heap.size, 3, none⟩ = some (.int .i64 s.w) ∧ W.cell? ⟨b, off + k, none⟩ = some (.slice A5 y.length c5))
            (exact HKK.out _ (by assumption))
            (first
              | (go_at_call 76; with_reducible refine H6.out _ _ (by assumption) ?_; intro B6 d6 w6 hb6)
              | (go_at_call 76; with_reducible refine H7.out _ _ (by assumption) ?_; intro B7 d7 w7 hb7))
            all_goals
              go_wp2_with fail
              go_roundw
              case rel => exact ⟨k + 1, by omega, by go_num, HN2, hbr.trans (Below.mono (by assumption) (by omega))⟩
              case measure => simp [intOf]; omega
        · have HN2 := Lib.hid (HN.out.snoc HX.out (HQY.out.trans (by rw [beq_eq_false_iff_ne.2 hga, Bool.false_and])))
          have hg0 : ((ga : Int) == 0) = false := beq_eq_false_iff_ne.2 (by omega)
          clear hga
          go_wp2
          refine wp_region_held_drew (S := fun W => W.cell? ⟨w.heap.size, 0, none⟩ = some (.int .i64 s.r) ∧ W.cell? ⟨w.heap.size, 1, none⟩ = some (.int .i64 s.c) ∧ W.cell? ⟨w.heap.size, 2, none⟩ = some (.int .i64 s.l) ∧ W.cell? ⟨w.heap.size, 3, none⟩ = some (.int .i64 s.w) ∧ W.cell? ⟨b, off + k, none⟩ = some (.slice A5 y.length c5)) (by kernel_rfl) (HKK.out _ hbd) (fun hHeld => ?_)
          refine wpAnyH_take (i := 0) (v := ?_) rfl (by kernel_rfl) (by kernel_rfl) (by kernel_rfl) (fun _ _ _ h => h) (Or.inl ⟨by rfl, ?_⟩) (by assumption) ?_
          rotate_left
          · intro w hSw; obtain ⟨x0, x1, x2, x3, x4⟩ := hSw; go_simp; try with_reducible rfl
          try simp only [Act.put, List.getElem_toArray, List.getElem_cons_zero, List.setIfInBounds_toArray, List.set_cons_zero, List.set_cons_succ]
          refine wpAnyH_take (i := 1) (v := ?_) rfl (by kernel_rfl) (by kernel_rfl) (by kernel_rfl) (fun _ _ _ h => h) (Or.inl ⟨by rfl, ?_⟩) (by assumption) ?_
          rotate_left
          · intro w hSw; obtain ⟨x0, x1, x2, x3, x4⟩ := hSw; go_simp; try with_reducible rfl
          try simp only [Act.put, List.getElem_toArray, List.getElem_cons_zero, List.getElem_cons_succ, List.setIfInBounds_toArray, List.set_cons_zero, List.set_cons_succ]
          refine wpAnyH_take (i := 2) (v := ?_) rfl (by kernel_rfl) (by kernel_rfl) (by kernel_rfl) (fun _ _ _ h => h) (Or.inl ⟨by rfl, ?_⟩) (by assumption) ?_
          rotate_left
          · intro w hSw; obtain ⟨x0, x1, x2, x3, x4⟩ := hSw; go_simp; try with_reducible rfl
          try simp only [Act.put, List.getElem_toArray, List.getElem_cons_zero, List.getElem_cons_succ, List.setIfInBounds_toArray, List.set_cons_zero, List.set_cons_succ]
          refine wpAnyH_take (i := 3) (v := ?_) rfl (by kernel_rfl) (by kernel_rfl) (by kernel_rfl) (fun _ _ _ h => h) (Or.inl ⟨by rfl, ?_⟩) (by assumption) ?_
          rotate_left
          · intro w hSw; obtain ⟨x0, x1, x2, x3, x4⟩ := hSw; go_simp; try with_reducible rfl
          try simp only [Act.put, List.getElem_toArray, List.getElem_cons_zero, List.getElem_cons_succ, List.setIfInBounds_toArray, List.set_cons_zero, List.set_cons_succ]
          refine wpAnyH_take (i := 4) (v := ?_) rfl (by kernel_rfl) (by kernel_rfl) (by kernel_rfl) (fun _ _ _ h => h) (Or.inl ⟨by rfl, ?_⟩) (by assumption) ?_
          rotate_left
          · intro w hSw; obtain ⟨x0, x1, x2, x3, x4⟩ := hSw; go_simp; try with_reducible rfl
          try simp only [Act.put, List.getElem_toArray, List.getElem_cons_zero, List.getElem_cons_succ, List.setIfInBounds_toArray, List.set_cons_zero, List.set_cons_succ]
          refine wpAnyH_ready (rs := [5]) (by kernel_rfl) (by simp) ?_
          refine AllReadyH.cons rfl (fun K hK => ?_) AllReadyH.nil
          go_simp
          with_reducible refine H6.out _ _ (by assumption) ?_
          intro B6 d6 w6 hb6
          refine hK.out _ _ (HKK.out _ hb6) (fun _ => ?_)
          clear hK K
          try simp only [Act.put, List.getElem_toArray, List.getElem_cons_zero, List.getElem_cons_succ, List.setIfInBounds_toArray, List.set_cons_zero, List.set_cons_succ]
          refine wpAnyH_take (i := 6) (v := ?_) rfl (by kernel_rfl) (by kernel_rfl) (by kernel_rfl) (fun _ _ _ h => h) (Or.inl ⟨by rfl, ?_⟩) (by assumption) ?_
          rotate_left
          · intro w hSw; obtain ⟨x0, x1, x2, x3, x4⟩ := hSw; go_simp; try with_reducible rfl
          try simp only [Act.put, List.getElem_toArray, List.getElem_cons_zero, List.getElem_cons_succ, List.setIfInBounds_toArray, List.set_cons_zero, List.set_cons_succ]
          refine wpAnyH_take (i := 7) (v := ?_) rfl (by kernel_rfl) (by kernel_rfl) (by kernel_rfl) (fun _ _ _ h => h) (Or.inl ⟨by rfl, ?_⟩) (by assumption) ?_
          rotate_left
          · intro w hSw; obtain ⟨x0, x1, x2, x3, x4⟩ := hSw; go_simp; try with_reducible rfl
          try simp only [Act.put, List.getElem_toArray, List.getElem_cons_zero, List.getElem_cons_succ, List.setIfInBounds_toArray, List.set_cons_zero, List.set_cons_succ]
          refine wpAnyH_take (i := 8) (v := ?_) rfl (by kernel_rfl) (by kernel_rfl) (by kernel_rfl) (fun _ _ _ h => h) (Or.inl ⟨by rfl, ?_⟩) (by assumption) ?_
          rotate_left
          · intro w hSw; obtain ⟨x0, x1, x2, x3, x4⟩ := hSw; go_simp; try with_reducible rfl
          try simp only [Act.put, List.getElem_toArray, List.getElem_cons_zero, List.getElem_cons_succ, List.setIfInBounds_toArray, List.set_cons_zero, List.set_cons_succ]
          refine wpAnyH_take (i := 9) (v := undef) rfl (by kernel_rfl) (by kernel_rfl) (by kernel_rfl) (fun _ _ _ h => h) (Or.inr ⟨by rfl, rfl⟩) (by assumption) ?_
          try simp only [Act.put, List.getElem_toArray, List.getElem_cons_zero, List.getElem_cons_succ, List.setIfInBounds_toArray, List.set_cons_zero, List.set_cons_succ]
          refine wpAnyH_take (i := 10) (v := undef) rfl (by kernel_rfl) (by kernel_rfl) (by kernel_rfl) (fun _ _ _ h => h) (Or.inr ⟨by rfl, rfl⟩) (by assumption) ?_
          try simp only [Act.put, List.getElem_toArray, List.getElem_cons_zero, List.getElem_cons_succ, List.setIfInBounds_toArray, List.set_cons_zero, List.set_cons_succ]
          refine wpAnyH_take (i := 11) (v := undef) rfl (by kernel_rfl) (by kernel_rfl) (by kernel_rfl) (fun _ _ _ h => h) (Or.inr ⟨by rfl, rfl⟩) (by assumption) ?_
          try simp only [Act.put, List.getElem_toArray, List.getElem_cons_zero, List.getElem_cons_succ, List.setIfInBounds_toArray, List.set_cons_zero, List.set_cons_succ]
          refine wpAnyH_take (i := 12) (v := undef) rfl (by kernel_rfl) (by kernel_rfl) (by kernel_rfl) (fun _ _ _ h => h) (Or.inr ⟨by rfl, rfl⟩) (by assumption) ?_
          try simp only [Act.put, List.getElem_toArray, List.getElem_cons_zero, List.getElem_cons_succ, List.setIfInBounds_toArray, List.set_cons_zero, List.set_cons_succ]
          refine wpAnyH_take (i := 13) (v := undef) rfl (by kernel_rfl) (by kernel_rfl) (by kernel_rfl) (fun _ _ _ h => h) (Or.inr ⟨by rfl, rfl⟩) (by assumption) ?_
          try simp only [Act.put, List.getElem_toArray, List.getElem_cons_zero, List.getElem_cons_succ, List.setIfInBounds_toArray, List.set_cons_zero, List.set_cons_succ]
          refine wpAnyH_take (i := 14) (v := undef) rfl (by kernel_rfl) (by kernel_rfl) (by kernel_rfl) (fun _ _ _ h => h) (Or.inr ⟨by rfl, rfl⟩) (by assumption) ?_
          try simp only [Act.put, List.getElem_toArray, List.getElem_cons_zero, List.getElem_cons_succ, List.setIfInBounds_toArray, List.set_cons_zero, List.set_cons_succ]
          refine wpAnyH_take (i := 15) (v := undef) rfl (by kernel_rfl) (by kernel_rfl) (by kernel_rfl) (fun _ _ _ h => h) (Or.inr ⟨by rfl, rfl⟩) (by assumption) ?_
          try simp only [Act.put, List.getElem_toArray, List.getElem_cons_zero, List.getElem_cons_succ, List.setIfInBounds_toArray, List.set_cons_zero, List.set_cons_succ]
          refine wpAnyH_take (i := 16) (v := undef) rfl (by kernel_rfl) (by kernel_rfl) (by kernel_rfl) (fun _ _ _ h => h) (Or.inr ⟨by rfl, rfl⟩) (by assumption) ?_
          try simp only [Act.put, List.getElem_toArray, List.getElem_cons_zero, List.getElem_cons_succ, List.setIfInBounds_toArray, List.set_cons_zero, List.set_cons_succ]
          refine wpAnyH_take (i := 17) (v := ?_) rfl (by kernel_rfl) (by kernel_rfl) (by kernel_rfl) (fun _ _ _ h => h) (Or.inl ⟨by rfl, ?_⟩) (by assumption) ?_
          rotate_left
          · intro w hSw; obtain ⟨x0, x1, x2, x3, x4⟩ := hSw; go_simp; try with_reducible rfl
          try simp only [Act.put, List.getElem_toArray, List.getElem_cons_zero, List.getElem_cons_succ, List.setIfInBounds_toArray, List.set_cons_zero, List.set_cons_succ]
          refine wpAnyH_done (by kernel_rfl) ?_ _
          go_wp2_with fail
          go_roundw
          case rel => exact ⟨k + 1, by omega, by go_num, HN2, hbr.trans (hb6.mono (by omega))⟩
          case measure => simp [intOf]; omega
      · have hkk : L.take k = L := List.take_of_length_le (by omega)
        have HE := Lib.hid (show fo = none by have h := HN.out; rw [hkk] at h; rw [← HFO.out]; exact find_none h)
        have HEE := Lib.hid (show z = 12 by rw [← HZE.out, HE.out]; rfl)
        have HR := Lib.hid (HB.out.trans (hbr.mono HSZ.out))
        clear hkk
        go_wp2
        go_ret2
        rw [HEE.out, HE.out]
        exact ⟨none, 0, rfl, RcdsAt.nil _ _ _, HR.out⟩
  · have e1 : solS r c l v = none := by unfold solS; rw [if_neg h0]
    rw [e1]
    unfold errS
    rw [if_neg h0]
    rw [chkS_one h0] at HC
    clear h0 e1
    go_enter Tryd.func38, Tryd.ntmps38
    go_wp2_with (go_at_call 21; with_reducible refine HC.out _ _ (by assumption) ?_; intro w1 hb1)
    go_ret2
    exact ⟨none, 0, rfl, RcdsAt.nil _ _ _, hb1⟩
end Go.Proofs.YtlollcabnfncpaaDoor
