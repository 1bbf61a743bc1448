/-
  The reference: backs are checked; errors are handed back.
-/
import Derived.Test.YtbcbaaapogejiaaDoorRefC
import Derived.Test.YtbcbaaapogejiaaDoorPlaC
namespace Go.Proofs.YtbcbaaapogejiaaDoor
open Go.RowKit

/-- The error of a press, and of a back. -/
def valE (R C K : Int) (T b : List Int) : Int := if chkE R C K T = 0 then chkB (R * C).toNat K b else chkE R C K T
theorem valE_bad {R C K : Int} {T b : List Int} (h : chkE R C K T ≠ 0) : valE R C K T b = chkE R C K T := if_neg h
theorem valE_ok {R C K : Int} {T b : List Int} (h : chkE R C K T = 0) : valE R C K T b = chkB (R * C).toNat K b := if_pos h

set_option maxRecDepth 100000 in
set_option maxHeartbeats 8000000 in
theorem refValid_any (R C K : Int) (A X : Option Addr) (c xc : Nat) (T b : List Int) (w : World) (hA : IntsAt w w.heap.size A T) (hX : IntsAt w w.heap.size X b) (hn : T.length < 1000) (hbn : b.length < 1000) :
    Calls Tryd.prog 77 #[.agg #[.int .i64 R, .int .i64 C, .int .i64 K, .slice A T.length c], .slice X b.length xc] w fun e w' => e = .returned (.int .i64 (valE R C K T b)) ∧ Below w.heap.size w w' := by
  have hb1 := below_new w (.cells #[.int .i64 R, .int .i64 C, .int .i64 K, .slice A T.length c] 32)
  have hc1 := own_cells4 w (.int .i64 R) (.int .i64 C) (.int .i64 K) (.slice A T.length c) 32
  have hz1 : w.heap.size < (w.alloc (.cells #[.int .i64 R, .int .i64 C, .int .i64 K, .slice A T.length c] 32)).heap.size := by simp
  have HC := Lib.hid (refCheck_any R C K A c T _ (hA.up hb1) hn)
  by_cases h : chkE R C K T = 0
  rotate_left
  · rw [valE_bad h]
    have hne : (chkE R C K T == 0) = false := by simpa using h
    generalize chkE R C K T = v at *
    clear h hA hX hc1
    go_enter Tryd.func77, Tryd.ntmps77
    go_wp2_with (go_at_call 22; refine (HC.out).mono ?_; rintro e w2 ⟨rfl, hb2⟩)
    go_loopw [5, 6] (fun E i wr => E = .int .i64 v ∧ i = .int .i64 0 ∧ wr = w2) (fun _ _ _ => 0)
    case atStart => exact ⟨rfl, rfl, rfl⟩
    case round =>
      obtain ⟨rfl, rfl, rfl⟩ := hrel
      have HF := Lib.hid (hb1.trans (hb2.mono hb1.size))
      clear hb1 hb2
      by_cases hl : (0 : Int) < (b.length : Int)
      · go_wp2
        go_ret
        exact ⟨rfl, HF.out⟩
      · go_wp2
        go_ret
        exact ⟨rfl, HF.out⟩
  rw [valE_ok h]
  rw [h] at HC
  obtain ⟨p, hp, rfl, rfl, rfl, rfl⟩ := ok_of_chk h
  clear h
  rw [show ((p.R : Int) * (p.C : Int)).toNat = p.n by unfold Pr.n; rw [← Int.natCast_mul]; rfl]
  have hn16 := hp.n16
  have hk1 := hp.k1
  have hk4 := hp.k4
  have hr4 := hp.r4
  have hc4 := hp.c4
  have hmul : (p.R : Int) * (p.C : Int) = (p.n : Int) := by unfold Pr.n; simp
  have hw : IntKind.i64.wrap ((p.R : Int) * (p.C : Int)) = (p.n : Int) := by rw [hmul]; exact IntWalk.i64_in _ (by omega)
  have HX := Lib.hid hX
  have hw2 : (p.R : Int) * (p.C : Int) = (p.n : Int) := hmul
  clear hX hA hmul
  by_cases hl : b.length = p.n
  rotate_left
  · rw [show chkB p.n p.K b = 5 from if_neg hl]
    have hne : ((b.length : Int) != (p.n : Int)) = true := by simpa using (by omega : ¬ (b.length : Int) = p.n)
    clear hl
    go_enter Tryd.func77, Tryd.ntmps77
    go_wp2_with (go_at_call 22; refine (HC.out).mono ?_; rintro e w2 ⟨rfl, hb2⟩; obtain ⟨q1, q2, q3⟩ := bcell hb2; simp only [World.size_alloc] at q1 q2 q3)
    clear hw hw2 hne
    go_loopw [5, 6] (fun E i wr => E = .int .i64 5 ∧ i = .int .i64 0 ∧ wr = w2) (fun _ _ _ => 0)
    case atStart => exact ⟨rfl, rfl, rfl⟩
    case round =>
      obtain ⟨rfl, rfl, rfl⟩ := hrel
      have HF := Lib.hid (hb1.trans (hb2.mono hb1.size))
      clear hb1 hb2 hc1 q1 q2 q3
      by_cases hl : (0 : Int) < (b.length : Int)
      · go_wp2
        go_ret
        exact ⟨rfl, HF.out⟩
      · go_wp2
        go_ret
        exact ⟨rfl, HF.out⟩
  obtain ⟨v, hv⟩ : ∃ v, v = chkB p.n p.K b := ⟨_, rfl⟩
  rw [← hv]
  rw [show chkB p.n p.K b = if ∀ x ∈ b, 0 ≤ x ∧ x < p.K then 0 else 1 from if_pos hl] at hv
  have HV := Lib.hid hv
  have hne : ((b.length : Int) != (p.n : Int)) = false := by simpa using (by omega : (b.length : Int) = p.n)
  clear hl hv
  go_enter Tryd.func77, Tryd.ntmps77
  go_wp2_with (go_at_call 22; refine (HC.out).mono ?_; rintro e w2 ⟨rfl, hb2⟩; obtain ⟨q1, q2, q3⟩ := bcell hb2; simp only [World.size_alloc] at q1 q2 q3)
  clear hw hw2 hne
  have hbw : Below w.heap.size w w2 := hb1.trans (hb2.mono hb1.size)
  have hwz : w.heap.size < w2.heap.size := Nat.lt_of_lt_of_le hz1 hb2.size
  have p2 : w2.cell? ⟨w.heap.size, 2, none⟩ = some (.int .i64 p.K) := (hb2.cell (p := ⟨w.heap.size, 2, none⟩) hz1).trans hc1.2.2.1
  have HX2 := Lib.hid (HX.out.up hbw)
  clear hc1 q1 q2 q3
  go_loopw [5, 6] (fun E i wr => ∃ (k : Nat) (u : Int), k ≤ b.length ∧ i = .int .i64 k ∧ E = .int .i64 u ∧ Hid ((u = 0 ∧ ∀ x ∈ b.take k, 0 ≤ x ∧ x < p.K) ∨ (u = 1 ∧ v = 1)) ∧ Below w2.heap.size w2 wr) (fun _ i _ => b.length - (intOf i).toNat)
  case atStart => exact ⟨0, 0, Nat.zero_le _, rfl, rfl, Lib.hid (Or.inl ⟨rfl, by simp⟩), Below.refl _ _⟩
  case round =>
    obtain ⟨k, u, hk, rfl, rfl, HS, hbr⟩ := hrel
    have HF := Lib.hid (hbw.trans (hbr.mono hbw.size))
    replace p2 := (hbr.cell (p := ⟨w.heap.size, 2, none⟩) hwz).trans p2
    rcases HS.out with ⟨rfl, hall⟩ | ⟨rfl, hv1⟩
    · have HAl := Lib.hid hall
      clear hall HS
      by_cases hlt : k < b.length
      · have hx : b[k]? = some b[k] := List.getElem?_eq_getElem hlt
        have HMx := Lib.hid (mem_of_get hx)
        have HTK := Lib.hid (take_snoc hx)
        obtain ⟨xb, xo, rfl, hxb, d⟩ := (HX2.out.up hbr) k _ hx
        clear hx
        generalize b[k] = x at *
        have hki : (k : Int) < (b.length : Int) := by omega
        have hk0 : (0 : Int) ≤ (k : Int) := by omega
        have e1 : IntKind.i64.wrap ((p.K : Int) - 1) = (p.K : Int) - 1 := IntWalk.i64_in _ (by omega)
        by_cases hin : 0 ≤ x ∧ x ≤ (p.K : Int) - 1
        · have HI := Lib.hid (fun W => refIn_yes hin W)
          have HN := Lib.hid (show ((0 : Int) = 0 ∧ ∀ y ∈ b.take (k + 1), 0 ≤ y ∧ y < p.K) ∨ ((0 : Int) = 1 ∧ v = 1) from Or.inl ⟨rfl, by
            rw [HTK.out]
            intro y hy
            rcases List.mem_append.1 hy with h | h
            · exact HAl.out y h
            · rw [List.mem_singleton.1 h]; omega⟩)
          clear hin
          go_upto_region 7 with (fail)
          go_quiet (first | (go_at_call 69; refine (HI.out _).mono ?_; rintro e w3 ⟨rfl, rfl⟩; exact ⟨rfl, _, rfl⟩))
          clear e1
          go_wp2
          go_roundw
          case rel => exact ⟨k + 1, 0, by omega, by go_num, rfl, HN, below_drewN hbr _⟩
          case measure => simp [intOf]; omega
        · have HI := Lib.hid (fun W => refIn_no hin W)
          have HN := Lib.hid (show ((1 : Int) = 0 ∧ ∀ y ∈ b.take (k + 1), 0 ≤ y ∧ y < p.K) ∨ ((1 : Int) = 1 ∧ v = 1) from Or.inr ⟨rfl, by
            rw [HV.out, if_neg]
            intro h
            have := h x HMx.out
            omega⟩)
          clear hin
          go_upto_region 7 with (fail)
          go_quiet (first | (go_at_call 69; refine (HI.out _).mono ?_; rintro e w3 ⟨rfl, rfl⟩; exact ⟨rfl, _, rfl⟩))
          clear e1
          go_wp2
          go_roundw
          case rel => exact ⟨k + 1, 1, by omega, by go_num, rfl, HN, below_drewN hbr _⟩
          case measure => simp [intOf]; omega
      · have HE := Lib.hid (show v = 0 by
          have := HAl.out
          rw [List.take_of_length_le (by omega)] at this
          rw [HV.out, if_pos this])
        have hki : ¬ (k : Int) < (b.length : Int) := by omega
        go_wp2
        go_ret
        exact ⟨by rw [HE.out]; rfl, HF.out⟩
    · have HE := Lib.hid hv1
      clear hv1 HS
      by_cases hlt : (k : Int) < (b.length : Int)
      · go_wp2
        go_ret
        exact ⟨by rw [HE.out]; rfl, HF.out⟩
      · go_wp2
        go_ret
        exact ⟨by rw [HE.out]; rfl, HF.out⟩
end Go.Proofs.YtbcbaaapogejiaaDoor
