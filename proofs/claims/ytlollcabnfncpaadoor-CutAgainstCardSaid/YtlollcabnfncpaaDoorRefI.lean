/-
  The reference: how many cards stand upright, at least and at most.
-/
import Derived.Test.YtlollcabnfncpaaDoorRefG
import Derived.Test.YtlollcabnfncpaaDoorMemF
import Derived.Test.YtlollcabnfncpaaDoorMathU
import Derived.Test.YtlollcabnfncpaaDoorLenA
namespace Go.Proofs.YtlollcabnfncpaaDoor
open Go.RowKit

set_option maxRecDepth 100000 in
set_option maxHeartbeats 1000000 in
theorem up_any (A : Option Addr) (c : Nat) (l : List Cd) (w : World) (hA : RcdsAt w w.heap.size A l) (hn : l.length < 1000000) :
    Calls Tryd.prog 72 #[.slice A l.length c] w fun e w' => e = .returned (.int .i64 (upN l : Nat)) ∧ w' = w := by
  go_enter Tryd.func72, Tryd.ntmps72
  go_wp2
  go_loop [3, 4] (fun n i => ∃ k : Nat, k ≤ l.length ∧ i = .int .i64 k ∧ n = .int .i64 (upN (l.take k) : Nat)) (fun _ i => l.length - (intOf i).toNat)
  case atStart => exact ⟨0, Nat.zero_le _, rfl, rfl⟩
  case round =>
    obtain ⟨k, hk, rfl, rfl⟩ := hrel
    have hu := upN_le (l.take k)
    have hul : (l.take k).length ≤ k := List.length_take_le _ _
    by_cases hlt : k < l.length
    · have hx : l[k]? = some l[k] := List.getElem?_eq_getElem hlt
      generalize l[k] = x at hx
      have HT := Lib.hid (show upN (l.take (k + 1)) = upN (l.take k) + if x.t = true then 0 else 1 by rw [take_snoc hx, upN_snoc])
      obtain ⟨b, off, rfl, hb, d0, d1, d2⟩ := hA k x hx
      obtain ⟨xr, xc, xt⟩ := x
      clear hx d0 d1
      rcases xt with _ | _
      · go_wp2
        go_round
        case rel => exact ⟨k + 1, by omega, by go_num, by rw [HT.out]; go_num⟩
        case measure => simp [intOf]; omega
      · go_wp2
        go_round
        case rel => exact ⟨k + 1, by omega, by go_num, by rw [HT.out]; go_num⟩
        case measure => simp [intOf]; omega
    · have HE := Lib.hid (show (upN (l.take k) : Int) = (upN l : Nat) by rw [List.take_of_length_le (by omega)])
      go_wp2
      go_ret
      exact ⟨ret_eq HE.out, rfl⟩

theorem min_if (a b : Int) : min a b = if b < a then b else a := by split <;> omega
theorem max_if (a b : Int) : max a b = if a < b then b else a := by split <;> omega
theorem cell_plain {w : World} {a : Addr} {v : Value} (h : w.cell? a = some v) : a.spot = none := by
  unfold World.cell? at h
  split at h
  · split at h
    · cases h
    · rename_i hs; simpa using hs
  · cases h

/-- One filling of a list of fillings in memory. -/
theorem fil_at {W : World} {A : Option Addr} {vals : List Value} {ls : List (List Cd)} (hv : ∀ j u, vals[j]? = some u → ∃ ad, A = some ad ∧ ad.block < W.heap.size ∧ W.cell? (ad.add j) = some u) (hS : Sls W (fun _ => True) vals ls) (k : Nat) (y : List Cd) (hk : ls[k]? = some y) :
    ∃ b off A5 c5, A = some ⟨b, off, none⟩ ∧ b < W.heap.size ∧ W.cell? ⟨b, off + k, none⟩ = some (.slice A5 y.length c5) ∧ RcdsAt W W.heap.size A5 y := by
  obtain ⟨A5, c5, h1, h2, _⟩ := hS.get hk
  obtain ⟨ad, rfl, h3, h4⟩ := hv k _ h1
  have h0 : ls[0]? = some (ls[0]'(by have := lt_of_get hk; omega)) := List.getElem?_eq_getElem _
  obtain ⟨A6, c6, k1, _⟩ := hS.get h0
  obtain ⟨ad', e', _, k4⟩ := hv 0 _ k1
  injection e' with e'
  subst e'
  have hsp : ad.spot = none := cell_plain k4
  obtain ⟨b, off, sp⟩ := ad
  dsimp only at hsp
  subst hsp
  rw [adr_add] at h4
  exact ⟨b, off, A5, c5, rfl, h3, h4, h2⟩

set_option maxRecDepth 100000 in
set_option maxHeartbeats 2000000 in
theorem rupright_any (r c l v : Int) (w : World) :
    Calls Tryd.prog 26 #[.agg #[.int .i64 r, .int .i64 c, .int .i64 l, .int .i64 v]] w fun e w' => e = .returned (.tuple #[.int .i64 (upS r c l v).lo, .int .i64 (upS r c l v).hi, .int .i64 (upE r c l v)]) ∧ Below w.heap.size w w' := by
  have HC := Lib.hid (rcheck_q r c l v w)
  have hb0 := below_new w (.cells #[.int .i64 r, .int .i64 c, .int .i64 l, .int .i64 v] 24)
  by_cases h0 : chkS r c l v = 0
  · obtain ⟨s, hs, rfl, rfl, rfl, rfl⟩ := ok_of_chk h0
    have HF := fils_q s hs 1048576 1048576 rfl (by decide) (by decide) w
    rw [all_taken hs] at HF
    have HV := Lib.hid (fun (W : World) (o : Nat) (u : Value) (h : Below (w.alloc (.cells #[.int .i64 s.r, .int .i64 s.c, .int .i64 s.l, .int .i64 s.w] 24)).heap.size (w.alloc (.cells #[.int .i64 s.r, .int .i64 s.c, .int .i64 s.l, .int .i64 s.w] 24)) W) (e : (w.alloc (.cells #[.int .i64 s.r, .int .i64 s.c, .int .i64 s.l, .int .i64 s.w] 24)).cell? ⟨w.heap.size, o, none⟩ = some u) => show W.cell? ⟨w.heap.size, o, none⟩ = some u from (h.cell (p := ⟨w.heap.size, o, none⟩) (by simp)).trans e)
    have HC2 := rcheck_q s.r s.c s.l s.w (w.alloc (.cells #[.int .i64 s.r, .int .i64 s.c, .int .i64 s.l, .int .i64 s.w] 24))
    rw [h0] at HC2
    have hS : upS s.r s.c s.l s.w = if (enC s 0).fd = true then enC s 0 else ⟨0, 0, false⟩ := by unfold upS; rw [if_pos h0]; rfl
    have hE : upE s.r s.c s.l s.w = if (enC s 0).fd = true then 0 else 12 := by unfold upE; rw [if_pos h0]; rfl
    have hlen : ∀ x ∈ filC s 0 [], x.length ≤ 36 := fun x hx => filC_len hs hx
    rw [hS, hE]
    clear h0 HC hS hE
    have HC2 := Lib.hid HC2
    rcases hfl : filC s 0 [] with _ | ⟨x, xs⟩
    · rw [ends_none s hfl]
      rw [hfl] at HF
      have HF := Lib.hid HF
      clear hfl hlen
      go_enter Tryd.func26, Tryd.ntmps26
      go_wp2_with (first
        | (go_at_call 21; with_reducible refine HC2.out _ _ (Below.refl _ _) ?_; intro w1 hb1
           have s0 := HV.out w1 0 _ hb1 (by simp [go_sem]; rfl)
           have s1 := HV.out w1 1 _ hb1 (by simp [go_sem]; rfl)
           have s2 := HV.out w1 2 _ hb1 (by simp [go_sem]; rfl)
           have s3 := HV.out w1 3 _ hb1 (by simp [go_sem]; rfl))
        | (go_at_call 64; with_reducible refine HF.out _ _ (below_via hb1) ?_; intro A9 c9 vals9 w9 _ _ hb9))
      go_ret3
      exact ⟨rfl, hb9⟩
    · obtain ⟨e1, e2, e3⟩ := ends_eq s hfl
      have hsm := filC_small hs 0 []
      rw [e1, if_pos rfl, if_pos rfl, ← e2, ← e3]
      rw [hfl] at HF hlen hsm
      clear hfl e1 e2 e3
      have hx0 : (x :: xs)[0]? = some x := rfl
      have hpos : 0 < (x :: xs).length := by simp
      generalize x :: xs = L at *
      have HX := Lib.hid hx0
      have HF := Lib.hid HF
      have HL := Lib.hid hlen
      have hl0 : (0 : Int) < (L.length : Int) := by omega
      have hlz : ((L.length : Int) == 0) = false := beq_eq_false_iff_ne.2 (by omega)
      clear hx0 hlen
      go_enter Tryd.func26, Tryd.ntmps26
      go_wp2_with (first
        | (go_at_call 21; with_reducible refine HC2.out _ _ (Below.refl _ _) ?_; intro w1 hb1
           have s0 := HV.out w1 0 _ hb1 (by simp [go_sem]; rfl)
           have s1 := HV.out w1 1 _ hb1 (by simp [go_sem]; rfl)
           have s2 := HV.out w1 2 _ hb1 (by simp [go_sem]; rfl)
           have s3 := HV.out w1 3 _ hb1 (by simp [go_sem]; rfl))
        | (go_at_call 64; with_reducible refine HF.out _ _ (below_via hb1) ?_; intro A9 c9 vals9 w9 hv9 hS9 hb9))
      have HG := Lib.hid (fil_at hv9 hS9)
      obtain ⟨b, off, A5, c5, rfl, hb, hc0, hR⟩ := HG.out 0 x HX.out
      rw [Nat.add_zero] at hc0
      have hxl := HL.out x (mem_of_get HX.out)
      clear hlz hv9 hS9 s0 s1 s2 s3 hb1
      go_quiet ((go_at_call 72; exact Calls.quiet_of_same (up_any _ _ _ _ hR (by omega))))
      go_wp2
      have HB := Lib.hid hb9
      have hd0 : Below w9.heap.size w9 (w9.drewN nq) := below_drewN (Below.refl _ _) nq
      clear hc0 hR hb hb9 hxl
      go_loopw [7, 8, 9] (fun v u i wr => ∃ k : Nat, k ≤ L.length ∧ i = .int .i64 k ∧ v = .int .i64 (mnU (upN x : Nat) (L.take k)) ∧ u = .int .i64 (mxU (upN x : Nat) (L.take k)) ∧ Below w9.heap.size w9 wr) (fun _ _ i _ => L.length - (intOf i).toNat)
      case atStart => exact ⟨0, Nat.zero_le _, rfl, rfl, rfl, hd0⟩
      case round =>
        obtain ⟨k, hk, rfl, rfl, rfl, hbr⟩ := hrel
        by_cases hlt : k < L.length
        · have hx : L[k]? = some L[k] := List.getElem?_eq_getElem hlt
          generalize L[k] = y at hx
          obtain ⟨b2, off2, A6, c6, e6, hb6, hc6, hR6⟩ := HG.out k y hx
          injection e6 with e6
          injection e6 with e7 e8
          subst e7 e8
          replace hc6 := (hbr.cell (p := ⟨b, off + k, none⟩) hb6).trans hc6
          replace hR6 := hR6.up hbr
          have hyl := HL.out y (mem_of_get hx)
          have HN := Lib.hid (show mnU (upN x : Nat) (L.take (k + 1)) = min (mnU (upN x : Nat) (L.take k)) (upN y : Nat) by rw [take_snoc hx, mnU_snoc])
          have HM := Lib.hid (show mxU (upN x : Nat) (L.take (k + 1)) = max (mxU (upN x : Nat) (L.take k)) (upN y : Nat) by rw [take_snoc hx, mxU_snoc])
          generalize mnU (upN x : Nat) (L.take k) = vl at *
          generalize mxU (upN x : Nat) (L.take k) = vm at *
          have hki : (k : Int) < (L.length : Int) := by omega
          have hk0 : (0 : Int) ≤ (k : Int) := by omega
          clear hx
          go_wp2
          go_quiet ((go_at_call 72; exact Calls.quiet_of_same (up_any _ _ _ _ hR6 (by omega))))
          go_wp2
          go_roundw
          case rel => exact ⟨k + 1, by omega, by go_num, by rw [HN.out, min_if], by rw [HM.out, max_if], below_drewN hbr _⟩
          case measure => simp [intOf]; omega
        · have hkk : L.take k = L := List.take_of_length_le (by omega)
          have HE := Lib.hid hkk
          have HR := Lib.hid (HB.out.trans (hbr.mono HB.out.size))
          clear hkk
          go_wp2
          go_ret3
          exact ⟨by rw [HE.out]; rfl, HR.out⟩
  · have e1 : upS r c l v = ⟨0, 0, false⟩ := by unfold upS; rw [if_neg h0]
    have e2 : upE r c l v = 1 := by unfold upE; rw [if_neg h0]
    rw [e1, e2]
    rw [chkS_one h0] at HC
    clear h0 e1 e2
    go_enter Tryd.func26, Tryd.ntmps26
    go_wp2_with (go_at_call 21; with_reducible refine HC.out _ _ (by assumption) ?_; intro w1 hb1)
    go_ret3
    exact ⟨rfl, hb1⟩
end Go.Proofs.YtlollcabnfncpaaDoor
