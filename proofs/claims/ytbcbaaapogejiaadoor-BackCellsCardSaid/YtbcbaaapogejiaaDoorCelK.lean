/-
  Cells that are checked: by the reference.
-/
import Derived.Test.YtbcbaaapogejiaaDoorCelJ
namespace Go.Proofs.YtbcbaaapogejiaaDoor
open Go.RowKit

theorem ints_toNat {cs : List Int} (h : ∀ x ∈ cs, 0 ≤ x) : intsN (cs.map Int.toNat) = cs := by
  unfold intsN
  rw [List.map_map]
  conv => rhs; rw [← List.map_id cs]
  refine List.map_congr_left fun x hx => ?_
  have := h x hx
  simp; omega

set_option maxRecDepth 100000 in
theorem showsR_err (R C K : Int) (A X : Option Addr) (c xc : Nat) (T x : List Int) (Y : Option Addr) (yn yc : Nat) (w : World) (hA : IntsAt w w.heap.size A T) (hX : IntsAt w w.heap.size X x) (hn : T.length < 1000) (hx : x.length < 1000) (h : valE R C K T x ≠ 0) :
    Calls Tryd.prog 46 #[.agg #[.int .i64 R, .int .i64 C, .int .i64 K, .slice A T.length c], .slice X x.length xc, .slice Y yn yc] w (fun e w' => e = .returned (.int .i64 (valE R C K T x)) ∧ Below w.heap.size w w') := by
  have hb1 := below_new w (.cells #[.int .i64 R, .int .i64 C, .int .i64 K, .slice A T.length c] 32)
  have HP := Lib.hid (refValid_any R C K A X c xc T x _ (hA.up hb1) (hX.up hb1) hn hx)
  have hne : (valE R C K T x != 0) = true := by simpa using h
  have heq : (valE R C K T x == 0) = false := by simpa using h
  generalize valE R C K T x = E at *
  clear hA hX h
  go_enter Tryd.func46, Tryd.ntmps46
  go_wp2_with (go_at_call 77; refine (HP.out).mono ?_; rintro e w1 ⟨rfl, hb2⟩; have hb3 := hb1.trans (hb2.mono hb1.size))
  go_loopw [7, 8] (fun f i wr => f = .int .i64 E ∧ i = .int .i64 0 ∧ wr = w1) (fun _ _ _ => 0)
  case atStart => exact ⟨rfl, rfl, rfl⟩
  case round =>
    obtain ⟨rfl, rfl, rfl⟩ := hrel
    by_cases hy : (0 : Int) < (yn : Int)
    · have hy2 : 0 < yn := by omega
      go_wp2
      go_ret
      exact ⟨rfl, hb3⟩
    · have hy2 : ¬ 0 < yn := by omega
      go_wp2
      go_ret
      exact ⟨rfl, hb3⟩

set_option maxRecDepth 100000 in
set_option maxHeartbeats 2000000 in
theorem refShows_ok (p : Pr) (hp : p.Ok) (A X Y : Option Addr) (c xc yc : Nat) (b cs : List Int) (w : World) (hT : IntsAt w w.heap.size A (intsN p.T)) (hX : IntsAt w w.heap.size X b) (hY : IntsAt w w.heap.size Y cs) (hb : BackOk p b) (hcl : cs.length < 1000) :
    Calls Tryd.prog 46 #[.agg #[.int .i64 p.R, .int .i64 p.C, .int .i64 p.K, .slice A p.T.length c], .slice X b.length xc, .slice Y cs.length yc] w fun e w' => e = .returned (.int .i64 (showE p b cs)) ∧ Below w.heap.size w w' := by
  have hb1 := below_new w (.cells #[.int .i64 p.R, .int .i64 p.C, .int .i64 p.K, .slice A p.T.length c] 32)
  have hc1 := own_cells4 w (.int .i64 p.R) (.int .i64 p.C) (.int .i64 p.K) (.slice A p.T.length c) 32
  have hz1 : w.heap.size < (w.alloc (.cells #[.int .i64 p.R, .int .i64 p.C, .int .i64 p.K, .slice A p.T.length c] 32)).heap.size := by simp
  have HVl := Lib.hid (refVal_ok p hp A X c xc b _ (hT.up hb1) (hX.up hb1) hb)
  have hn16 := hp.n16.2
  have hn1 := hp.n16.1
  have hbl := Lib.hid hb.1
  have HSh := Lib.hid (fun W (hW : Below w.heap.size w W) (h0 : scE p.n (-1) cs = 0) => show Calls Tryd.prog 99 #[.agg #[.int .i64 p.R, .int .i64 p.C, .int .i64 p.K, .slice A p.T.length c], .slice X b.length xc, .slice Y cs.length yc] W fun e w' => e = .returned (.bool (showsB p b (cs.map Int.toNat))) ∧ Below W.heap.size W w' from by
    have hin := scE_in h0
    have h := refShows0_ok p hp A X Y c xc yc b (cs.map Int.toNat) W (hT.up hW) (hX.up hW) (by rw [ints_toNat fun x hx => (hin x hx).1]; exact hY.up hW) hb (fun x hx => by obtain ⟨y, hy, rfl⟩ := List.mem_map.1 hx; have := hin y hy; omega) (by rw [List.length_map]; exact hcl)
    rw [List.length_map] at h
    exact h)
  have HYY := Lib.hid hY
  obtain ⟨v, hv⟩ : ∃ v, v = showE p b cs := ⟨_, rfl⟩
  rw [← hv]
  obtain ⟨S, hS⟩ : ∃ S, S = scE p.n (-1) cs := ⟨_, rfl⟩
  obtain ⟨z, hz⟩ : ∃ z, z = showsB p b (cs.map Int.toNat) := ⟨_, rfl⟩
  unfold showE at hv
  rw [← hS, ← hz] at hv
  rw [← hS, ← hz] at HSh
  have HV := Lib.hid hv
  have HS := Lib.hid hS
  generalize p.n = n at *
  clear hp hb hX hT hY hv hS hz
  go_enter Tryd.func46, Tryd.ntmps46
  go_upto_region 2 with (go_at_call 77; ((with_reducible refine (HVl.out).mono ?_); rintro e w4 ⟨rfl, hb2⟩))
  have hbw : Below w.heap.size w w4 := hb1.trans (hb2.mono hb1.size)
  have hz4 : w.heap.size < w4.heap.size := Nat.lt_of_lt_of_le hz1 hb2.size
  have HH := Lib.hid (fun (W : World) (h : Below w4.heap.size w4 W) => show W.cell? ⟨w.heap.size, 0, none⟩ = some (.int .i64 p.R) ∧ W.cell? ⟨w.heap.size, 1, none⟩ = some (.int .i64 p.C) ∧ W.cell? ⟨w.heap.size, 2, none⟩ = some (.int .i64 p.K) ∧ W.cell? ⟨w.heap.size, 3, none⟩ = some (.slice A p.T.length c) from
    ⟨(h.cell (p := ⟨w.heap.size, 0, none⟩) hz4).trans ((hb2.cell (p := ⟨w.heap.size, 0, none⟩) hz1).trans hc1.1), (h.cell (p := ⟨w.heap.size, 1, none⟩) hz4).trans ((hb2.cell (p := ⟨w.heap.size, 1, none⟩) hz1).trans hc1.2.1), (h.cell (p := ⟨w.heap.size, 2, none⟩) hz4).trans ((hb2.cell (p := ⟨w.heap.size, 2, none⟩) hz1).trans hc1.2.2.1), (h.cell (p := ⟨w.heap.size, 3, none⟩) hz4).trans ((hb2.cell (p := ⟨w.heap.size, 3, none⟩) hz1).trans hc1.2.2.2)⟩)
  clear hc1 hb2 hb1 HVl
  have e0 : IntKind.i64.wrap ((b.length : Int) - 1) = (n : Int) - 1 := (IntWalk.i64_in _ (by have := hbl.out; omega)).trans (by have := hbl.out; omega)
  go_wp2
  go_loopw [7, 8] (fun f i wr => ∃ (k : Nat) (g last : Int), k ≤ cs.length ∧ i = .int .i64 k ∧ f = .int .i64 g ∧ Hid (g = 0 → S = scE n last (cs.drop k)) ∧ Hid (g ≠ 0 → S = g) ∧ Hid (k = 0 ∧ last = -1 ∨ 0 < k ∧ cs[k - 1]? = some last) ∧ Below w4.heap.size w4 wr) (fun _ i _ => cs.length - (intOf i).toNat)
  case atStart => exact ⟨0, 0, -1, Nat.zero_le _, rfl, rfl, Lib.hid fun _ => HS.out, Lib.hid (fun h => (h rfl).elim), Lib.hid (.inl ⟨rfl, rfl⟩), Below.refl _ _⟩
  case round =>
    obtain ⟨k, g, last, hk, rfl, rfl, HG, HG2, HLa, hbr⟩ := hrel
    have HF := Lib.hid (hbw.trans (hbr.mono hbw.size))
    obtain ⟨p0, p1, p2, p3⟩ := HH.out _ hbr
    by_cases hg : g = 0
    · subst hg
      have e1 := HG.out rfl
      by_cases hlt : k < cs.length
      · have hx : cs[k]? = some cs[k] := List.getElem?_eq_getElem hlt
        obtain ⟨cb, co, rfl, hcb, d1⟩ := (HYY.out.up HF.out) k _ hx
        have HNl := Lib.hid (show cs[k + 1 - 1]? = some cs[k] from hx)
        rw [drop_cons hx, scE] at e1
        clear hx
        have hki : (k : Int) < (cs.length : Int) := by omega
        have hYw := Lib.hid (HYY.out.up HF.out)
        generalize cs[k] = y at *
        by_cases hin : 0 ≤ y ∧ y < (n : Nat)
        · have X69 := Lib.hid (refIn_yes (n := y) (lo := 0) (hi := (n : Int) - 1) (by omega))
          rw [if_neg (by simp only [Classical.not_not]; exact hin)] at e1
          rcases HLa.out with ⟨hk0, hl⟩ | ⟨hk0, hl⟩
          · rw [if_neg (by omega)] at e1
            have HE := Lib.hid e1
            have hkz : ¬ (0 : Int) < (k : Int) := by omega
            have hkd : decide ((0 : Int) < (k : Int)) = false := decide_eq_false hkz
            have hkn : decide (0 < k) = false := decide_eq_false (by omega)
            clear e1 hl hk0
            go_upto_region 7 with (go_at_call 69; refine (X69.out _).mono ?_; rintro e w6 ⟨rfl, rfl⟩)
            go_quiet (fail)
            go_wp2
            go_roundw
            case rel => exact ⟨k + 1, 0, y, by omega, by go_num, rfl, Lib.hid (fun _ => HE.out), Lib.hid (fun h => (h rfl).elim), Lib.hid (.inr ⟨by omega, HNl.out⟩), below_drewN hbr _⟩
            case measure => simp [intOf]; omega
          · have hkz : (0 : Int) < (k : Int) := by omega
            have hkd : decide ((0 : Int) < (k : Int)) = true := decide_eq_true hkz
            have hkn : decide (0 < k) = true := decide_eq_true hk0
            have ek : IntKind.i64.wrap ((k : Int) - 1) = ((k - 1 : Nat) : Int) := (IntWalk.i64_in _ (by omega)).trans (by omega)
            have hk1 : ((k - 1 : Nat) : Int) < (cs.length : Int) := by omega
            obtain ⟨cb2, co2, ecb, _, d2⟩ := hYw.out (k - 1) _ hl
            injection ecb with ecb
            injection ecb with ecb1 ecb2
            subst ecb1 ecb2
            by_cases hle : y ≤ last
            · rw [if_pos hle] at e1
              have HE := Lib.hid e1
              clear e1 hl
              go_upto_region 7 with (go_at_call 69; refine (X69.out _).mono ?_; rintro e w6 ⟨rfl, rfl⟩)
              go_quiet (fail)
              go_wp2
              go_roundw
              case rel => exact ⟨k + 1, 7, y, by omega, by go_num, rfl, Lib.hid (fun h => absurd h (by decide)), Lib.hid (fun _ => HE.out), Lib.hid (.inr ⟨by omega, HNl.out⟩), below_drewN hbr _⟩
              case measure => simp [intOf]; omega
            · rw [if_neg hle] at e1
              have HE := Lib.hid e1
              clear e1 hl
              go_upto_region 7 with (go_at_call 69; refine (X69.out _).mono ?_; rintro e w6 ⟨rfl, rfl⟩)
              go_quiet (fail)
              go_wp2
              go_roundw
              case rel => exact ⟨k + 1, 0, y, by omega, by go_num, rfl, Lib.hid (fun _ => HE.out), Lib.hid (fun h => (h rfl).elim), Lib.hid (.inr ⟨by omega, HNl.out⟩), below_drewN hbr _⟩
              case measure => simp [intOf]; omega
        · rw [if_pos hin] at e1
          have HE := Lib.hid e1
          have X69 := Lib.hid (refIn_no (n := y) (lo := 0) (hi := (n : Int) - 1) (by omega))
          clear e1
          go_wp2_with (go_at_call 69; refine (X69.out _).mono ?_; rintro e w6 ⟨rfl, rfl⟩)
          go_roundw
          case rel => exact ⟨k + 1, 2, y, by omega, by go_num, rfl, Lib.hid (fun h => absurd h (by decide)), Lib.hid (fun _ => HE.out), Lib.hid (.inr ⟨by omega, HNl.out⟩), hbr⟩
          case measure => simp [intOf]; omega
      · have hki : ¬ (k : Int) < (cs.length : Int) := by omega
        have HE := Lib.hid (show S = 0 by rw [e1, List.drop_of_length_le (by omega)]; rfl)
        have HX := Lib.hid (HSh.out wr HF.out HE.out)
        have HVz := Lib.hid (show v = if z = true then 0 else 14 by rw [HV.out, if_pos HE.out])
        clear e1
        cases z
        · go_wp2_with (go_at_call 99; refine (HX.out).mono ?_; rintro e w6 ⟨rfl, hb6⟩)
          go_ret
          exact ⟨by rw [HVz.out]; rfl, HF.out.trans (hb6.mono HF.out.size)⟩
        · go_wp2_with (go_at_call 99; refine (HX.out).mono ?_; rintro e w6 ⟨rfl, hb6⟩)
          go_ret
          exact ⟨by rw [HVz.out]; rfl, HF.out.trans (hb6.mono HF.out.size)⟩
    · have hg0 : (g == 0) = false := by simpa using hg
      have HE := Lib.hid (show v = g by rw [HV.out, if_neg (by rw [HG2.out hg]; exact hg), HG2.out hg])
      by_cases hlt : k < cs.length
      · have hki : (k : Int) < (cs.length : Int) := by omega
        go_wp2
        go_ret
        exact ⟨by rw [HE.out]; rfl, HF.out⟩
      · have hki : ¬ (k : Int) < (cs.length : Int) := by omega
        go_wp2
        go_ret
        exact ⟨by rw [HE.out]; rfl, HF.out⟩
end Go.Proofs.YtbcbaaapogejiaaDoor
