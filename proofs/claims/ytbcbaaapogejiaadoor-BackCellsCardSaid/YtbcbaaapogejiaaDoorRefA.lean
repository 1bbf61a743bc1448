/-
  The reference: where colours come from, backs that are turned, lists.
-/
import Derived.Test.YtbcbaaapogejiaaDoorPlaB
import Derived.Test.YtbcbaaapogejiaaDoorTurB
namespace Go.Proofs.YtbcbaaapogejiaaDoor
open Go.RowKit

theorem refIn_any (n lo hi : Int) (w : World) : Calls Tryd.prog 69 #[.int .i64 n, .int .i64 lo, .int .i64 hi] w fun e w' => e = .returned (.bool (decide (lo ≤ n ∧ n ≤ hi))) ∧ w' = w := by
  by_cases h1 : lo ≤ n
  · by_cases h2 : n ≤ hi
    · rw [decide_eq_true ⟨h1, h2⟩]
      go_enter Tryd.func69, Tryd.ntmps69
      go_wp2
      go_ret
      exact ⟨by first | rfl | exact ret_bool (decide_eq_true (by omega)), rfl⟩
    · rw [decide_eq_false (fun h => h2 h.2)]
      go_enter Tryd.func69, Tryd.ntmps69
      go_wp2
      go_ret
      exact ⟨by first | rfl | exact ret_bool (decide_eq_false (by omega)), rfl⟩
  · rw [decide_eq_false (fun h => h1 h.1)]
    go_enter Tryd.func69, Tryd.ntmps69
    go_wp2
    go_ret
    exact ⟨by first | rfl | exact ret_bool (decide_eq_false (by omega)), rfl⟩

set_option maxHeartbeats 2000000 in
theorem refFrom_any (R C t row col : Nat) (w : World) (ht : t < 8) (hR : R < 1000) (hC : C < 1000) (hr : row < 1000) (hc : col < 1000) :
    Calls Tryd.prog 139 #[.int .i64 R, .int .i64 C, .int .i64 t, .int .i64 row, .int .i64 col] w fun e w' => e = .returned (.tuple #[.int .i64 (srow R (mv t) row col), .int .i64 (scol C (mv t) row col)]) ∧ w' = w := by
  rcases t with _ | _ | _ | _ | _ | _ | _ | _ | t
  iterate 8
    · go_enter Tryd.func139, Tryd.ntmps139
      go_wp2
      go_ret2
      exact ⟨rfl, rfl⟩
  · omega

theorem refHas_any (A : Option Addr) (c : Nat) (L : List Int) (y : Int) (w : World) (B : Nat) (hA : IntsAt w B A L) (hn : L.length < 1000000) :
    Calls Tryd.prog 73 #[.slice A L.length c, .int .i64 y] w fun e w' => e = .returned (.bool (decide (y ∈ L))) ∧ w' = w := by
  have HA := Lib.hid hA
  obtain ⟨v, hv⟩ : ∃ v, v = decide (y ∈ L) := ⟨_, rfl⟩
  rw [← hv]
  have HV := Lib.hid hv
  clear hA hv
  go_enter Tryd.func73, Tryd.ntmps73
  go_wp2
  go_loopw [5] (fun i wr => ∃ j : Nat, j ≤ L.length ∧ i = .int .i64 j ∧ Hid (∀ x ∈ L.take j, x ≠ y) ∧ wr = w) (fun i _ => L.length - (intOf i).toNat)
  case atStart => exact ⟨0, Nat.zero_le _, rfl, Lib.hid (by simp), rfl⟩
  case round =>
    obtain ⟨j, hj, rfl, HJ, rfl⟩ := hrel
    by_cases hjl : j < L.length
    · have hx : L[j]? = some L[j] := List.getElem?_eq_getElem hjl
      have htk := take_snoc hx
      have hmx := mem_of_get hx
      generalize L[j] = x at *
      obtain ⟨b, off, rfl, hb, d⟩ := HA.out j x hx
      have hki : (j : Int) < (L.length : Int) := by omega
      have hk0 : (0 : Int) ≤ (j : Int) := by omega
      by_cases hxy : x = y
      · have HE := Lib.hid (show v = true by rw [HV.out, ← hxy]; exact decide_eq_true hmx)
        have hq : (x == y) = true := beq_iff_eq.2 hxy
        clear hx hxy htk hmx
        go_wp2
        go_ret
        exact ⟨by rw [HE.out]; rfl, rfl⟩
      · have HN := Lib.hid (show ∀ z ∈ L.take (j + 1), z ≠ y by
          rw [htk]
          intro z hz
          rcases List.mem_append.1 hz with h | h
          · exact HJ.out z h
          · rw [List.mem_singleton.1 h]; exact hxy)
        have hq : (x == y) = false := beq_eq_false_iff_ne.2 hxy
        clear hx hxy htk hmx
        go_wp2
        go_roundw
        case rel => exact ⟨j + 1, by omega, by go_num, HN, trivial⟩
        case measure => simp [intOf]; omega
    · have HE := Lib.hid (show v = false by
        rw [HV.out]
        refine decide_eq_false fun h => ?_
        have := HJ.out
        rw [List.take_of_length_le (by omega)] at this
        exact this y h rfl)
      have hki : ¬ (j : Int) < (L.length : Int) := by omega
      go_wp2
      go_ret
      exact ⟨by rw [HE.out]; rfl, rfl⟩

theorem refSame_any (A D : Option Addr) (c d : Nat) (l m : List Int) (w : World) (hl : l.length < 1000000) (hlm : m.length = l.length) (B : Nat) (hA : IntsAt w B A l) (hD : IntsAt w B D m) :
    Calls Tryd.prog 71 #[.slice A l.length c, .slice D l.length d] w fun e w' => e = .returned (.bool (decide (l = m))) ∧ ∃ q, w' = w.drewN q := by
  have HLM := Lib.hid hlm
  have HA := Lib.hid hA
  have HD := Lib.hid hD
  clear hlm hA hD
  go_enter Tryd.func71, Tryd.ntmps71
  go_wp2
  go_loopw [5] (fun i wr => ∃ k : Nat, k ≤ l.length ∧ i = .int .i64 k ∧ Hid (l.take k = m.take k) ∧ ∃ q, wr = w.drewN q) (fun i _ => l.length - (intOf i).toNat)
  case atStart => exact ⟨0, Nat.zero_le _, rfl, Lib.hid rfl, 0, rfl⟩
  case round =>
    obtain ⟨k, hk, rfl, HK, q, rfl⟩ := hrel
    by_cases hlt : k < l.length
    · have hlt2 : k < m.length := by have := HLM.out; omega
      have hx : l[k]? = some l[k] := List.getElem?_eq_getElem hlt
      have hy : m[k]? = some m[k] := List.getElem?_eq_getElem hlt2
      have ht1 : l.take (k + 1) = l.take k ++ [l[k]] := List.take_succ_eq_append_getElem hlt
      have ht2 : m.take (k + 1) = m.take k ++ [m[k]] := List.take_succ_eq_append_getElem hlt2
      generalize l[k] = x at hx ht1
      generalize m[k] = y at hy ht2
      obtain ⟨b1, o1, rfl, hb1, g1⟩ := HA.out k x hx
      obtain ⟨b2, o2, rfl, hb2, k1⟩ := HD.out k y hy
      have hki : (k : Int) < (l.length : Int) := by omega
      have hk0 : (0 : Int) ≤ (k : Int) := by omega
      by_cases hxy : x = y
      · have HT := Lib.hid (show l.take (k + 1) = m.take (k + 1) by rw [ht1, ht2, HK.out, hxy])
        have hne : (x != y) = false := by simp [hxy]
        clear hx hy ht1 ht2 hxy hlt2
        go_wp2
        go_quiet (fail)
        go_wp2
        go_roundw
        case rel => exact ⟨k + 1, by omega, by go_num, HT, _, by first | rfl | exact World.drewN_drewN _ _ _⟩
        case measure => simp [intOf]; omega
      · have HT := Lib.hid (take_ne hx hy hxy)
        have hne : (x != y) = true := by simp [hxy]
        clear hx hy ht1 ht2 hxy hlt2
        go_wp2
        go_quiet (fail)
        go_wp2
        go_ret
        exact ⟨by rw [decide_eq_false HT.out]; rfl, _, by first | rfl | exact World.drewN_drewN _ _ _⟩
    · have e : l.take k = l := List.take_of_length_le (by omega)
      have e2 : m.take k = m := List.take_of_length_le (by have := HLM.out; omega)
      have HE := Lib.hid (show l = m by rw [← e, ← e2, HK.out])
      have hki : ¬ (k : Int) < (l.length : Int) := by omega
      clear e e2
      go_wp2
      go_ret
      exact ⟨by rw [decide_eq_true HE.out]; rfl, q, rfl⟩

set_option maxRecDepth 100000 in
set_option maxHeartbeats 1000000 in
theorem refCell_any (R C t i : Nat) (K : Int) (TA : Option Addr) (n tc : Nat) (w : World) (ht : t < 8) (hR : R ≤ 4) (hC : C ≤ 4) (hi : i < R * C) :
    Calls Tryd.prog 120 #[.agg #[.int .i64 R, .int .i64 C, .int .i64 K, .slice TA n tc], .int .i64 t, .int .i64 i] w fun e w' => e = .returned (.int .i64 (cellI R C (mv t) i)) ∧ Below w.heap.size w w' := by
  have hC0 : 0 < C := by rcases C with _ | C <;> simp_all
  have hR0 : 0 < R := by rcases R with _ | R <;> simp_all
  have hrow : i / C < R := Nat.div_lt_of_lt_mul (by rw [Nat.mul_comm]; exact hi)
  have hcol : i % C < C := Nat.mod_lt _ hC0
  have hb1 := srow_b (m := mv t) hR (show i / C < 4 by omega) (show i % C < 4 by omega)
  have hb2 := scol_b (m := mv t) hC (show i / C < 4 by omega) (show i % C < 4 by omega)
  have hb3 := mul_b hb1 hC
  have HF := Lib.hid (fun W => refFrom_any R C t (i / C) (i % C) W ht (by omega) (by omega) (by omega) (by omega))
  obtain ⟨v, hv⟩ : ∃ v, v = cellI R C (mv t) i := ⟨_, rfl⟩
  rw [← hv]
  unfold cellI at hv
  have HV := Lib.hid hv
  clear hv
  have hq : (i : Int).tdiv (C : Int) = ((i / C : Nat) : Int) := rfl
  have hm : (i : Int).tmod (C : Int) = ((i % C : Nat) : Int) := rfl
  have hq2 : (i : Int) / (C : Int) = ((i / C : Nat) : Int) := rfl
  have hm2 : (i : Int) % (C : Int) = ((i % C : Nat) : Int) := rfl
  generalize i / C = q at *
  generalize i % C = m at *
  generalize srow R (mv t) (q : Nat) (m : Nat) = r at *
  generalize scol C (mv t) (q : Nat) (m : Nat) = c at *
  have e1 : IntKind.i64.wrap (r * (C : Int)) = r * C := IntWalk.i64_in _ (by omega)
  have e2 : IntKind.i64.wrap (r * (C : Int) + c) = r * C + c := IntWalk.i64_in _ (by omega)
  have hne : ¬ (C : Int) = 0 := by omega
  have hnb : ((C : Int) == 0) = false := beq_eq_false_iff_ne.2 hne
  go_enter Tryd.func120, Tryd.ntmps120
  go_upto_region 1 with fail
  go_quiet (first | (go_at_call 139; refine (HF.out _).mono ?_; rintro e w1 ⟨rfl, rfl⟩; exact ⟨rfl, _, rfl⟩))
  go_wp2
  go_ret
  exact ⟨by rw [HV.out]; rfl, below_drewN (below_new _ _) _⟩

set_option maxRecDepth 100000 in
set_option maxHeartbeats 2000000 in
theorem refTurned_any (R C t : Nat) (K : Int) (TA : Option Addr) (n tc : Nat) (A : Option Addr) (c : Nat) (b : List Int) (w : World) (ht : t < 8) (hk : kindOk R C t = true) (hR : R ≤ 4) (hC : C ≤ 4) (hA : IntsAt w w.heap.size A b) (hb : b.length = R * C) :
    Calls Tryd.prog 70 #[.agg #[.int .i64 R, .int .i64 C, .int .i64 K, .slice TA n tc], .slice A b.length c, .int .i64 t] w (RetInts w (tdL (srcs R C (mv t)) b)) := by
  have hb1 := below_new w (.cells #[.int .i64 R, .int .i64 C, .int .i64 K, .slice TA n tc] 32)
  have hRC : R * C ≤ 16 := Nat.le_trans (Nat.mul_le_mul hR hC) (by omega)
  have HG : ∀ (j : Nat) (u : Value), [Value.int .i64 R, .int .i64 C, .int .i64 K, .slice TA n tc][j]? = some u → (w.alloc (.cells #[.int .i64 R, .int .i64 C, .int .i64 K, .slice TA n tc] 32)).cell? ⟨w.heap.size, j, none⟩ = some u := by
    intro j u hj
    rw [cell_of_row _ _ _ _ _ _ (heap_new _ _)]
    simpa using hj
  have hs1 : (w.alloc (.cells #[.int .i64 R, .int .i64 C, .int .i64 K, .slice TA n tc] 32)).heap.size = w.heap.size + 1 := by simp
  have HA := Lib.hid hA
  have HL := Lib.hid hb
  have HSL := Lib.hid (srcs_len R C (mv t))
  have HIn := Lib.hid (fun i hi => srcs_in (R := R) (C := C) (t := t) (i := i) (by omega) (by omega) ht hk hi)
  have hbl : b.length ≤ 16 := by omega
  clear hA hb hk
  go_enter Tryd.func70, Tryd.ntmps70
  go_upto_region 1 with fail
  generalize w.alloc (.cells #[.int .i64 R, .int .i64 C, .int .i64 K, .slice TA n tc] 32) = w1 at *
  have HH := Lib.hid (fun (W : World) (hW : Below (w.heap.size + 1) w1 W) => show W.cell? ⟨w.heap.size, 0, none⟩ = some (.int .i64 R) ∧ W.cell? ⟨w.heap.size, 1, none⟩ = some (.int .i64 C) ∧ W.cell? ⟨w.heap.size, 2, none⟩ = some (.int .i64 K) ∧ W.cell? ⟨w.heap.size, 3, none⟩ = some (.slice TA n tc) from
    ⟨(hW.cell (p := ⟨w.heap.size, 0, none⟩) (by simp)).trans (HG 0 _ rfl), (hW.cell (p := ⟨w.heap.size, 1, none⟩) (by simp)).trans (HG 1 _ rfl), (hW.cell (p := ⟨w.heap.size, 2, none⟩) (by simp)).trans (HG 2 _ rfl), (hW.cell (p := ⟨w.heap.size, 3, none⟩) (by simp)).trans (HG 3 _ rfl)⟩)
  clear HG
  go_wp2
  go_loopw [7, 8] (fun v i wr => ∃ k : Nat, k ≤ b.length ∧ i = .int .i64 k ∧ wr.ownsRow (w.heap.size + 1) 3 1 v k ((tdL ((srcs R C (mv t)).take k) b).map (Value.int .i64)) ∧ Below (w.heap.size + 1) w1 wr) (fun _ i _ => b.length - (intOf i).toNat)
  case atStart => exact ⟨0, Nat.zero_le _, rfl, World.ownsRow_nil _ _ _ _, Below.refl _ _⟩
  case round =>
    obtain ⟨k, hk, rfl, hown, hbw⟩ := hrel
    obtain ⟨p0, p1, p2, p3⟩ := HH.out _ hbw
    have hbww := hb1.trans (hbw.mono (by omega))
    have hsz := hbw.size
    have hwz : w.heap.size < wr.heap.size := by omega
    by_cases hlt : k < b.length
    · have hki : (k : Int) < (b.length : Int) := by omega
      have hkRC : k < R * C := by have := HL.out; omega
      have hx : (srcs R C (mv t))[k]? = some (cellI R C (mv t) k) := by
        unfold srcs
        rw [List.getElem?_map, List.getElem?_range hkRC]; rfl
      obtain ⟨i1, i2⟩ := HIn.out _ (mem_of_get hx)
      have htk := take_snoc hx
      have HCe := Lib.hid (fun W => refCell_any R C t k K TA n tc W ht hR hC hkRC)
      generalize cellI R C (mv t) k = y at *
      obtain ⟨u, rfl⟩ : ∃ u : Nat, y = (u : Int) := ⟨y.toNat, by omega⟩
      have hub : u < b.length := by have := HL.out; omega
      have hxu : b[u]? = some b[u] := List.getElem?_eq_getElem hub
      obtain ⟨ab, ao, rfl, hab, d⟩ := (HA.out.up hbww) u _ hxu
      have HT := Lib.hid (show tdL ((srcs R C (mv t)).take (k + 1)) b = tdL ((srcs R C (mv t)).take k) b ++ [b[u]] by
        rw [htk]; simp [tdL, hub])
      have hui : (u : Int) < (b.length : Int) := by omega
      have hu0 : (0 : Int) ≤ (u : Int) := by omega
      clear hx htk hxu i1 i2
      generalize b[u] = z at *
      go_wp2_with (first
        | (go_at_call 120; refine (HCe.out _).mono ?_; rintro e w5 ⟨rfl, hb5⟩; have d5 := (hb5.cell (p := ⟨ab, ao + u, none⟩) hab).trans d; have hs5 := hb5.size; have hown5 := own_below hown hb5)
        | (at_builtin; go_must (refine wpList_append_int _ rfl _ _ rfl (w.heap.size + 1) k w5.heap.size _ _ z rfl (hown5.alloc _) rfl (heap_new _ _) (by omega) (by simp; omega) ?_); intro A4 c4 w4 hown4 hgrow4 _))
      have hbn : Below (w.heap.size + 1) w1 w4 := ((hbw.trans (hb5.mono (by omega))).alloc (by omega) _).grown hgrow4 (by simp; omega) (fun g hg => (hown.lt g hg).1)
      clear p0 p1 p2 p3
      go_wp2
      go_roundw
      case rel => exact ⟨k + 1, by omega, by go_num, by rw [HT.out]; exact hown4, hbn⟩
      case measure => simp [intOf]; omega
    · have e : k = b.length := by omega
      have hall : (srcs R C (mv t)).take k = srcs R C (mv t) := List.take_of_length_le (by rw [HSL.out, e, HL.out]; omega)
      rw [hall] at hown
      have hki : ¬ (k : Int) < (b.length : Int) := by omega
      obtain ⟨A', c', rfl, hA', hll, hge⟩ := own_ints hown
      have hlt' := hown.lt
      have hlen : (tdL (srcs R C (mv t)) b).length = k := hll.symm
      have HLe := Lib.hid hlen
      clear e hall hown hll hlen p0 p1 p2 p3
      go_wp2
      go_ret
      exact ⟨A', c', by first | rfl | rw [HLe.out], hA', hbww, fun ad had => ⟨by have := (hge ad had).1; omega, by subst had; exact (hlt' _ rfl).2⟩⟩

end Go.Proofs.YtbcbaaapogejiaaDoor
