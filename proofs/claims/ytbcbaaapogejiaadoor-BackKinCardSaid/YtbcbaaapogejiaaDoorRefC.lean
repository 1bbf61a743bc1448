/-
  The reference: presses are checked.
-/
import Derived.Test.YtbcbaaapogejiaaDoorRefB
import Derived.Test.YtbcbaaapogejiaaDoorMathC
namespace Go.Proofs.YtbcbaaapogejiaaDoor
open Go.RowKit

theorem mv_x : ∀ t, t < 8 → (mv t).x = (decide (t = 1) || decide (t = 3) || decide (5 < t)) := by decide +kernel

/-- The number ahead of a place; -1 ahead of the first. -/
def lastI (T : List Int) : Nat → Int
  | 0 => -1
  | k + 1 => T.getD k 0
theorem intsN_mem {T : List Nat} {n : Nat} : (n : Int) ∈ intsN T ↔ n ∈ T := by
  unfold intsN
  rw [List.mem_map]
  constructor
  · rintro ⟨u, hu, e⟩
    have : u = n := by omega
    exact this ▸ hu
  · intro h
    exact ⟨n, h, rfl⟩

theorem refHas_yes (A : Option Addr) (c : Nat) (L : List Int) (y : Int) (w : World) (hA : IntsAt w w.heap.size A L) (hn : L.length < 1000000) (h : y ∈ L) :
    Calls Tryd.prog 73 #[.slice A L.length c, .int .i64 y] w fun e w' => e = .returned (.bool true) ∧ w = w' :=
  (refHas_any A c L y w _ hA hn).mono fun e w' ⟨h1, h2⟩ => ⟨by rw [h1, decide_eq_true h], h2.symm⟩
theorem refHas_no (A : Option Addr) (c : Nat) (L : List Int) (y : Int) (w : World) (hA : IntsAt w w.heap.size A L) (hn : L.length < 1000000) (h : ¬ y ∈ L) :
    Calls Tryd.prog 73 #[.slice A L.length c, .int .i64 y] w fun e w' => e = .returned (.bool false) ∧ w = w' :=
  (refHas_any A c L y w _ hA hn).mono fun e w' ⟨h1, h2⟩ => ⟨by rw [h1, decide_eq_false h], h2.symm⟩

set_option maxRecDepth 100000 in
set_option maxHeartbeats 8000000 in
theorem refCheck_any (R C K : Int) (A : Option Addr) (c : Nat) (T : List Int) (w : World) (hA : IntsAt w w.heap.size A T) (hn : T.length < 1000) :
    Calls Tryd.prog 22 #[.agg #[.int .i64 R, .int .i64 C, .int .i64 K, .slice A T.length c]] w fun e w' => e = .returned (.int .i64 (chkE R C K T)) ∧ Below w.heap.size w w' := by
  by_cases h1 : 1 ≤ R ∧ R ≤ 4
  rotate_left
  · rw [show chkE R C K T = 1 from if_neg (by unfold rangeP; omega)]
    have HR := Lib.hid (fun W => refIn_no h1 W)
    clear hA h1
    go_enter Tryd.func22, Tryd.ntmps22
    go_wp2_with (go_at_call 69; ((with_reducible refine (HR.out _).mono ?_); rintro e w1 ⟨rfl, rfl⟩))
    go_ret
    exact ⟨rfl, below_new _ _⟩
  by_cases h2 : 1 ≤ C ∧ C ≤ 4
  rotate_left
  · rw [show chkE R C K T = 1 from if_neg (by unfold rangeP; omega)]
    have HR := Lib.hid (fun W => refIn_yes h1 W)
    have HC := Lib.hid (fun W => refIn_no h2 W)
    clear hA h1 h2
    go_enter Tryd.func22, Tryd.ntmps22
    go_wp2_with (go_at_call 69; first | ((with_reducible refine (HR.out _).mono ?_); rintro e w1 ⟨rfl, rfl⟩) | ((with_reducible refine (HC.out _).mono ?_); rintro e w1 ⟨rfl, rfl⟩))
    go_ret
    exact ⟨rfl, below_new _ _⟩
  by_cases h3 : 1 ≤ K ∧ K ≤ 4
  rotate_left
  · rw [show chkE R C K T = 1 from if_neg (by unfold rangeP; omega)]
    have HR := Lib.hid (fun W => refIn_yes h1 W)
    have HC := Lib.hid (fun W => refIn_yes h2 W)
    have HK := Lib.hid (fun W => refIn_no h3 W)
    clear hA h1 h2 h3
    go_enter Tryd.func22, Tryd.ntmps22
    go_wp2_with (go_at_call 69; first | ((with_reducible refine (HR.out _).mono ?_); rintro e w1 ⟨rfl, rfl⟩) | ((with_reducible refine (HC.out _).mono ?_); rintro e w1 ⟨rfl, rfl⟩) | ((with_reducible refine (HK.out _).mono ?_); rintro e w1 ⟨rfl, rfl⟩))
    go_ret
    exact ⟨rfl, below_new _ _⟩
  have HR := Lib.hid (fun W => refIn_yes h1 W)
  have HC := Lib.hid (fun W => refIn_yes h2 W)
  have HK := Lib.hid (fun W => refIn_yes h3 W)
  have HE : chkE R C K T = if scanE R C (-1) T = 0 then (if closedB (T.map Int.toNat) = true then 0 else 21) else scanE R C (-1) T := if_pos (by unfold rangeP; omega)
  obtain ⟨v, hv⟩ : ∃ v, v = chkE R C K T := ⟨_, rfl⟩
  rw [← hv]
  rw [HE] at hv
  have HV := Lib.hid hv
  clear HE hv h1 h2 h3
  have HA := Lib.hid hA
  clear hA
  have hb1 := below_new w (.cells #[.int .i64 R, .int .i64 C, .int .i64 K, .slice A T.length c] 32)
  have hc1 := own_cells4 w (.int .i64 R) (.int .i64 C) (.int .i64 K) (.slice A T.length c) 32
  have hz1 : w.heap.size < (w.alloc (.cells #[.int .i64 R, .int .i64 C, .int .i64 K, .slice A T.length c] 32)).heap.size := by simp
  go_enter Tryd.func22, Tryd.ntmps22
  go_upto_region 3 with (go_at_call 69; first | ((with_reducible refine (HR.out _).mono ?_); rintro e w1 ⟨rfl, rfl⟩) | ((with_reducible refine (HC.out _).mono ?_); rintro e w1 ⟨rfl, rfl⟩) | ((with_reducible refine (HK.out _).mono ?_); rintro e w1 ⟨rfl, rfl⟩))
  clear HR HC HK
  generalize w.alloc (.cells #[.int .i64 R, .int .i64 C, .int .i64 K, .slice A T.length c] 32) = w1 at *
  have HH := Lib.hid (fun (W : World) (h : Below w1.heap.size w1 W) => show W.cell? ⟨w.heap.size, 0, none⟩ = some (.int .i64 R) ∧ W.cell? ⟨w.heap.size, 1, none⟩ = some (.int .i64 C) ∧ W.cell? ⟨w.heap.size, 2, none⟩ = some (.int .i64 K) ∧ W.cell? ⟨w.heap.size, 3, none⟩ = some (.slice A T.length c) from
    ⟨(h.cell (p := ⟨w.heap.size, 0, none⟩) hz1).trans hc1.1, (h.cell (p := ⟨w.heap.size, 1, none⟩) hz1).trans hc1.2.1, (h.cell (p := ⟨w.heap.size, 2, none⟩) hz1).trans hc1.2.2.1, (h.cell (p := ⟨w.heap.size, 3, none⟩) hz1).trans hc1.2.2.2⟩)
  obtain ⟨p0, p1, p2, p3⟩ := hc1
  go_wp2
  go_loopw [3] (fun i wr => ∃ k : Nat, k ≤ T.length ∧ i = .int .i64 k ∧ Hid (scanE R C (-1) T = scanE R C (lastI T k) (T.drop k)) ∧ wr = w1) (fun i _ => T.length - (intOf i).toNat)
  case atStart => exact ⟨0, Nat.zero_le _, rfl, Lib.hid rfl, rfl⟩
  case round =>
    obtain ⟨k, hk, rfl, HS, rfl⟩ := hrel
    by_cases hlt : k < T.length
    · have hx : T[k]? = some T[k] := List.getElem?_eq_getElem hlt
      have e1 := HS.out
      rw [drop_cons hx, scan_cons] at e1
      have hla : lastI T (k + 1) = T[k] := by show T.getD k 0 = _; rw [List.getD_eq_getElem?_getD, hx]; rfl
      obtain ⟨b, off, hAe, hb, d⟩ := (HA.out.below hb1 (Nat.le_refl _)) k _ hx
      subst hAe
      generalize T[k] = t at *
      have hki : (k : Int) < (T.length : Int) := by omega
      have hk0 : (0 : Int) ≤ (k : Int) := by omega
      clear hx
      by_cases ht : 0 ≤ t ∧ t ≤ 7
      · have HI := Lib.hid (fun W => refIn_yes ht W)
        rw [if_neg (by omega)] at e1
        obtain ⟨u, rfl⟩ : ∃ u : Nat, t = (u : Int) := ⟨t.toNat, by omega⟩
        have hu8 : u < 8 := by omega
        have hmx := mv_x u hu8
        simp only [Int.toNat_natCast] at e1
        have hu0 : (0 : Int) ≤ (u : Int) := by omega
        clear ht
        by_cases hbad : (mv u).x = true ∧ R ≠ C
        · rw [if_pos hbad] at e1
          rw [hmx] at hbad
          obtain ⟨hbx, hRC⟩ := hbad
          have hne : (R != C) = true := by simpa using hRC
          clear hmx hRC
          simp only [Bool.or_eq_true, decide_eq_true_eq] at hbx
          by_cases hu1 : u = 1
          · have hq1 : ((u : Int) == 1) = true := by simp [hu1]
            clear hbx hu1
            have HE := Lib.hid (show v = 8 by rw [HV.out, e1]; rfl)
            clear e1 hla
            go_wp2_with (go_at_call 69; ((with_reducible refine (HI.out _).mono ?_); rintro e w2 ⟨rfl, rfl⟩))
            go_ret
            exact ⟨by rw [HE.out]; rfl, hb1⟩
          · have hq1 : ((u : Int) == 1) = false := by simpa using (by omega : ¬ (u : Int) = 1)
            by_cases hu3 : u = 3
            · have hq3 : ((u : Int) == 3) = true := by simp [hu3]
              clear hbx hu1 hu3
              have HE := Lib.hid (show v = 8 by rw [HV.out, e1]; rfl)
              clear e1 hla
              go_wp2_with (go_at_call 69; ((with_reducible refine (HI.out _).mono ?_); rintro e w2 ⟨rfl, rfl⟩))
              go_ret
              exact ⟨by rw [HE.out]; rfl, hb1⟩
            · have hq3 : ((u : Int) == 3) = false := by simpa using (by omega : ¬ (u : Int) = 3)
              have hq5 : (5 : Int) < (u : Int) := by omega
              clear hbx hu1 hu3
              have HE := Lib.hid (show v = 8 by rw [HV.out, e1]; rfl)
              clear e1 hla
              go_wp2_with (go_at_call 69; ((with_reducible refine (HI.out _).mono ?_); rintro e w2 ⟨rfl, rfl⟩))
              go_ret
              exact ⟨by rw [HE.out]; rfl, hb1⟩
        · rw [if_neg hbad] at e1
          by_cases hRC : R = C
          · have hne : (R != C) = false := by simpa using hRC
            clear hbad hmx hRC
            by_cases hk1 : 0 < (k : Int)
            · obtain ⟨j, rfl⟩ : ∃ j, k = j + 1 := ⟨k - 1, by omega⟩
              have hj : T[j]? = some T[j] := List.getElem?_eq_getElem (by omega)
              have hlj : lastI T (j + 1) = T[j] := by show T.getD j 0 = _; rw [List.getD_eq_getElem?_getD, hj]; rfl
              rw [hlj] at e1
              obtain ⟨b2, off2, hAe2, _, d2⟩ := (HA.out.below hb1 (Nat.le_refl _)) j _ hj
              obtain ⟨rfl, rfl⟩ : b = b2 ∧ off = off2 := by injection hAe2 with h; injection h with h1 h2; exact ⟨h1, h2⟩
              clear hAe2 hj hlj
              generalize T[j] = y at *
              have hjl : (j : Int) < (T.length : Int) := by omega
              by_cases hl : (u : Int) ≤ y
              · rw [if_pos hl] at e1
                have HE := Lib.hid (show v = 7 by rw [HV.out, e1]; rfl)
                clear e1 hla
                go_wp2_with (go_at_call 69; ((with_reducible refine (HI.out _).mono ?_); rintro e w2 ⟨rfl, rfl⟩))
                go_ret
                exact ⟨by rw [HE.out]; rfl, hb1⟩
              · rw [if_neg hl] at e1
                have HN := Lib.hid (show scanE R C (-1) T = scanE R C (lastI T (j + 1 + 1)) (T.drop (j + 1 + 1)) by rw [hla]; exact e1)
                clear e1 hla
                go_wp2_with (go_at_call 69; ((with_reducible refine (HI.out _).mono ?_); rintro e w2 ⟨rfl, rfl⟩))
                go_roundw
                case rel => exact ⟨j + 1 + 1, by omega, by go_num, HN, trivial⟩
                case measure => simp [intOf]; omega
            · have hz : lastI T k = -1 := by rw [show k = 0 by omega]; rfl
              rw [hz, if_neg (by omega)] at e1
              have HN := Lib.hid (show scanE R C (-1) T = scanE R C (lastI T (k + 1)) (T.drop (k + 1)) by rw [hla]; exact e1)
              clear e1 hla hz
              go_wp2_with (go_at_call 69; ((with_reducible refine (HI.out _).mono ?_); rintro e w2 ⟨rfl, rfl⟩))
              go_roundw
              case rel => exact ⟨k + 1, by omega, by go_num, HN, trivial⟩
              case measure => simp [intOf]; omega
          · have hne : (R != C) = true := by simpa using hRC
            have hx0 : (mv u).x = false := by
              rcases hb : (mv u).x with _ | _
              · rfl
              · exact absurd ⟨hb, hRC⟩ hbad
            rw [hx0] at hmx
            have hmx2 := hmx.symm
            simp only [Bool.or_eq_false_iff, decide_eq_false_iff_not] at hmx2
            have hq1 : ((u : Int) == 1) = false := by simpa using (by omega : ¬ (u : Int) = 1)
            have hq3 : ((u : Int) == 3) = false := by simpa using (by omega : ¬ (u : Int) = 3)
            have hq5 : ¬ (5 : Int) < (u : Int) := by omega
            clear hbad hmx hRC hmx2 hx0
            by_cases hk1 : 0 < (k : Int)
            · obtain ⟨j, rfl⟩ : ∃ j, k = j + 1 := ⟨k - 1, by omega⟩
              have hj : T[j]? = some T[j] := List.getElem?_eq_getElem (by omega)
              have hlj : lastI T (j + 1) = T[j] := by show T.getD j 0 = _; rw [List.getD_eq_getElem?_getD, hj]; rfl
              rw [hlj] at e1
              obtain ⟨b2, off2, hAe2, _, d2⟩ := (HA.out.below hb1 (Nat.le_refl _)) j _ hj
              obtain ⟨rfl, rfl⟩ : b = b2 ∧ off = off2 := by injection hAe2 with h; injection h with h1 h2; exact ⟨h1, h2⟩
              clear hAe2 hj hlj
              generalize T[j] = y at *
              have hjl : (j : Int) < (T.length : Int) := by omega
              by_cases hl : (u : Int) ≤ y
              · rw [if_pos hl] at e1
                have HE := Lib.hid (show v = 7 by rw [HV.out, e1]; rfl)
                clear e1 hla
                go_wp2_with (go_at_call 69; ((with_reducible refine (HI.out _).mono ?_); rintro e w2 ⟨rfl, rfl⟩))
                go_ret
                exact ⟨by rw [HE.out]; rfl, hb1⟩
              · rw [if_neg hl] at e1
                have HN := Lib.hid (show scanE R C (-1) T = scanE R C (lastI T (j + 1 + 1)) (T.drop (j + 1 + 1)) by rw [hla]; exact e1)
                clear e1 hla
                go_wp2_with (go_at_call 69; ((with_reducible refine (HI.out _).mono ?_); rintro e w2 ⟨rfl, rfl⟩))
                go_roundw
                case rel => exact ⟨j + 1 + 1, by omega, by go_num, HN, trivial⟩
                case measure => simp [intOf]; omega
            · have hz : lastI T k = -1 := by rw [show k = 0 by omega]; rfl
              rw [hz, if_neg (by omega)] at e1
              have HN := Lib.hid (show scanE R C (-1) T = scanE R C (lastI T (k + 1)) (T.drop (k + 1)) by rw [hla]; exact e1)
              clear e1 hla hz
              go_wp2_with (go_at_call 69; ((with_reducible refine (HI.out _).mono ?_); rintro e w2 ⟨rfl, rfl⟩))
              go_roundw
              case rel => exact ⟨k + 1, by omega, by go_num, HN, trivial⟩
              case measure => simp [intOf]; omega
      · have HI := Lib.hid (fun W => refIn_no ht W)
        rw [if_pos (by omega)] at e1
        have HE := Lib.hid (show v = 2 by rw [HV.out, e1]; rfl)
        clear e1 ht hla
        go_wp2_with (go_at_call 69; ((with_reducible refine (HI.out _).mono ?_); rintro e w2 ⟨rfl, rfl⟩))
        go_ret
        exact ⟨by rw [HE.out]; rfl, hb1⟩
    · have e1 := HS.out
      rw [List.drop_of_length_le (by omega)] at e1
      have hz : scanE R C (-1) T = 0 := e1
      have hall := scan_all hz
      have hv := HV.out
      rw [hz, if_pos rfl] at hv
      obtain ⟨N, hN⟩ : ∃ N, N = T.map Int.toNat := ⟨_, rfl⟩
      have hTN : T = intsN N := by rw [hN]; exact (intsN_toNat hall).symm
      rw [← hN] at hv
      have H8 := Lib.hid (show ∀ n ∈ N, n < 8 by
        intro n hn
        rw [hN] at hn
        obtain ⟨t, ht, rfl⟩ := List.mem_map.1 hn
        have := hall t ht
        omega)
      have HTN := Lib.hid hTN
      have hki : ¬ (k : Int) < (T.length : Int) := by omega
      have HL := Lib.hid (show N.length = T.length by rw [hTN, intsN_len])
      clear e1 hz hall HS hN hTN
      by_cases h0 : (0 : Int) ∈ T
      rotate_left
      · have HX := Lib.hid (refHas_no A c T 0 wr (HA.out.up hb1) (by omega) h0)
        have HE := Lib.hid (show v = 21 by
          rw [hv, if_neg]
          intro hc
          have := (closedB_iff.1 hc).2
          rw [HTN.out] at h0
          exact h0 ((intsN_mem (n := 0)).2 this))
        clear h0 hv
        go_wp2_with (go_at_call 73; ((with_reducible refine (HX.out).mono ?_); rintro e w2 ⟨rfl, rfl⟩))
        go_ret
        exact ⟨by rw [HE.out]; rfl, hb1⟩
      have HX := Lib.hid (refHas_yes A c T 0 wr (HA.out.up hb1) (by omega) h0)
      have HV2 := Lib.hid hv
      have HO := Lib.hid (show 0 ∈ N by rw [HTN.out] at h0; exact (intsN_mem (n := 0)).1 h0)
      clear h0 hv HV
      go_upto_region 15 with (go_at_call 73; ((with_reducible refine (HX.out).mono ?_); rintro e w2 ⟨rfl, rfl⟩))
      clear HX hki
      obtain ⟨w1, rfl⟩ : ∃ w1 : World, w1 = wr := ⟨_, rfl⟩
      clear p0 p1 p2 p3
      go_wp2
      go_loopw [5] (fun i wr => ∃ k : Nat, k ≤ T.length ∧ i = .int .i64 k ∧ Hid (∀ a ∈ N.take k, ∀ b ∈ N, prodN a b ∈ N) ∧ Below w1.heap.size w1 wr) (fun i _ => T.length - (intOf i).toNat)
      case atStart => exact ⟨0, Nat.zero_le _, rfl, Lib.hid (by simp), Below.refl _ _⟩
      case round =>
        obtain ⟨i, hi, rfl, HI, hbi⟩ := hrel
        obtain ⟨p0, p1, p2, p3⟩ := HH.out _ hbi
        by_cases hlt2 : i < T.length
        · have hlN : i < N.length := by have := HL.out; omega
          have hx : N[i]? = some N[i] := List.getElem?_eq_getElem hlN
          have hxT : T[i]? = some (N[i] : Int) := by rw [HTN.out]; exact intsN_get hx
          have ha8 := H8.out _ (mem_of_get hx)
          have HTA := Lib.hid (take_snoc hx)
          have HMA := Lib.hid (mem_of_get hx)
          obtain ⟨b, off, hAe, hb, d⟩ := (HA.out.up (hb1.trans (hbi.mono hb1.size))) i _ hxT
          subst hAe
          have HTI := Lib.hid hxT
          clear hx hxT
          generalize N[i] = a at *
          have hki2 : (i : Int) < (T.length : Int) := by omega
          have hki0 : (0 : Int) ≤ (i : Int) := by omega
          go_wp2
          go_loopw [6] (fun i wr => ∃ k : Nat, k ≤ T.length ∧ i = .int .i64 k ∧ Hid (∀ b ∈ N.take k, prodN a b ∈ N) ∧ Below w1.heap.size w1 wr) (fun i _ => T.length - (intOf i).toNat)
          case atStart => exact ⟨0, Nat.zero_le _, rfl, Lib.hid (by simp), hbi⟩
          case round =>
            clear hbi d p0 p1 p2 p3 hb
            obtain ⟨j, hj, rfl, HJ, hbj⟩ := hrel
            obtain ⟨p0, p1, p2, p3⟩ := HH.out _ hbj
            have hbT := hb1.trans (hbj.mono hb1.size)
            by_cases hlt3 : j < T.length
            · have hlN : j < N.length := by have := HL.out; omega
              have hx : N[j]? = some N[j] := List.getElem?_eq_getElem hlN
              have hxT : T[j]? = some (N[j] : Int) := by rw [HTN.out]; exact intsN_get hx
              have hb8 := H8.out _ (mem_of_get hx)
              have HTB := Lib.hid (take_snoc hx)
              have HMB := Lib.hid (mem_of_get hx)
              obtain ⟨b', off', hAe, hb, dj⟩ := (HA.out.up hbT) j _ hxT
              obtain ⟨rfl, rfl⟩ : b = b' ∧ off = off' := by injection hAe with h; injection h with h1 h2; exact ⟨h1, h2⟩
              obtain ⟨b', off', hAe, _, di⟩ := (HA.out.up hbT) i (a : Int) HTI.out
              obtain ⟨rfl, rfl⟩ : b = b' ∧ off = off' := by injection hAe with h; injection h with h1 h2; exact ⟨h1, h2⟩
              clear hx hAe hxT
              generalize N[j] = b2 at *
              have hkj2 : (j : Int) < (T.length : Int) := by omega
              have hkj0 : (0 : Int) ≤ (j : Int) := by omega
              have hwz : w.heap.size < wr.heap.size := Nat.lt_of_lt_of_le hz1 hbj.size
              have HKK := Lib.hid (fun (W : World) (h : Below wr.heap.size wr W) => show Below wr.heap.size wr W ∧ W.cell? ⟨w.heap.size, 3, none⟩ = some (.slice (some ⟨b, off, none⟩) T.length c) ∧ W.cell? ⟨b, off + i, none⟩ = some (.int .i64 a) ∧ W.cell? ⟨b, off + j, none⟩ = some (.int .i64 b2) from
                ⟨h, (h.cell (p := ⟨w.heap.size, 3, none⟩) hwz).trans p3, (h.cell (p := ⟨b, _, none⟩) hb).trans di, (h.cell (p := ⟨b, _, none⟩) hb).trans dj⟩)
              have HX := Lib.hid (fun W (Q : Ending → World → Prop) (h : Below wr.heap.size wr W) (hQ : ∀ w', Below wr.heap.size wr w' → Q (.returned (.tuple #[.int .i64 (prodN a b2 : Nat), .int .i64 0])) w') => (refProduct_in a b2 W ha8 hb8).mono fun e w' ⟨he, hb'⟩ => he ▸ hQ w' (h.trans (hb'.mono h.size)))
              have HTT := Lib.hid (fun W (h : Below wr.heap.size wr W) => (HA.out.up hbT).up h)
              have hbd := (Below.refl wr.heap.size wr).drew
              by_cases hin : prodN a b2 ∈ N
              · have HM := Lib.hid (show ((prodN a b2 : Nat) : Int) ∈ T by rw [HTN.out]; exact intsN_mem.2 hin)
                have HN2 := Lib.hid (show ∀ b ∈ N.take (j + 1), prodN a b ∈ N by
                  rw [HTB.out]
                  intro b hb
                  rcases List.mem_append.1 hb with h | h
                  · exact HJ.out b h
                  · rw [List.mem_singleton.1 h]; exact hin)
                generalize prodN a b2 = t at *
                clear hin di dj
                go_upto_region 21 with (fail)
                clear p0 p1 p2 p3
                go_region_held3 (fun W => Below wr.heap.size wr W ∧ W.cell? ⟨w.heap.size, 3, none⟩ = some (.slice (some ⟨b, off, none⟩) T.length c) ∧ W.cell? ⟨b, off + i, none⟩ = some (.int .i64 a) ∧ W.cell? ⟨b, off + j, none⟩ = some (.int .i64 b2))
                  (exact HKK.out _ (by assumption))
                  (first | (go_at_call 20; with_reducible refine HX.out _ _ (by assumption) ?_; intro w6 hb6))
                all_goals
                  have HTw := Lib.hid (HTT.out w6 hb6)
                  obtain ⟨_, c3, _, _⟩ := HKK.out w6 hb6
                  go_wp2_with (go_at_call 73; ((with_reducible refine (refHas_yes (some ⟨b, off, none⟩) c T t w6 HTw.out (by omega) HM.out).mono ?_); rintro e w7 ⟨rfl, rfl⟩))
                  go_roundw
                  case rel => exact ⟨j + 1, by omega, by go_num, HN2, hbj.trans (Below.mono hb6 hbj.size)⟩
                  case measure => simp [intOf]; omega
              · have HM := Lib.hid (show ¬ ((prodN a b2 : Nat) : Int) ∈ T by rw [HTN.out]; exact fun h => hin (intsN_mem.1 h))
                have HE := Lib.hid (show v = 21 by
                  rw [HV2.out, closedB_no HMA.out HMB.out hin]; rfl)
                generalize prodN a b2 = t at *
                clear hin di dj
                go_upto_region 21 with (fail)
                clear p0 p1 p2 p3
                go_region_held3 (fun W => Below wr.heap.size wr W ∧ W.cell? ⟨w.heap.size, 3, none⟩ = some (.slice (some ⟨b, off, none⟩) T.length c) ∧ W.cell? ⟨b, off + i, none⟩ = some (.int .i64 a) ∧ W.cell? ⟨b, off + j, none⟩ = some (.int .i64 b2))
                  (exact HKK.out _ (by assumption))
                  (first | (go_at_call 20; with_reducible refine HX.out _ _ (by assumption) ?_; intro w6 hb6))
                all_goals
                  have HTw := Lib.hid (HTT.out w6 hb6)
                  obtain ⟨_, c3, _, _⟩ := HKK.out w6 hb6
                  go_wp2_with (go_at_call 73; ((with_reducible refine (refHas_no (some ⟨b, off, none⟩) c T t w6 HTw.out (by omega) HM.out).mono ?_); rintro e w7 ⟨rfl, rfl⟩))
                  go_ret
                  exact ⟨by rw [HE.out]; rfl, hbT.trans (Below.mono hb6 hbT.size)⟩
            · have HN2 := Lib.hid (show ∀ a ∈ N.take (i + 1), ∀ b ∈ N, prodN a b ∈ N by
                rw [HTA.out]
                intro x hx
                rcases List.mem_append.1 hx with h | h
                · exact HI.out x h
                · rw [List.mem_singleton.1 h]
                  have := HJ.out
                  rw [List.take_of_length_le (by have := HL.out; omega)] at this
                  exact this)
              have hkj2 : ¬ (j : Int) < (T.length : Int) := by omega
              go_wp2
              go_roundw
              case rel => exact ⟨i + 1, by omega, by go_num, HN2, hbj⟩
              case measure => simp [intOf]; omega
        · have HE := Lib.hid (show v = 0 by
            have := HI.out
            rw [List.take_of_length_le (by have := HL.out; omega)] at this
            rw [HV2.out, if_pos (closedB_iff.2 ⟨this, HO.out⟩)])
          have hki2 : ¬ (i : Int) < (T.length : Int) := by omega
          have HF := Lib.hid (hb1.trans (hbi.mono hb1.size))
          go_wp2
          go_ret
          exact ⟨by rw [HE.out]; rfl, HF.out⟩
end Go.Proofs.YtbcbaaapogejiaaDoor
