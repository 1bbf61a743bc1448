/-
  Which presses are as they must be.
-/
import Derived.Test.YtbcbaaapogejiaaDoorTurB
namespace Go.Proofs.YtbcbaaapogejiaaDoor
open Go.RowKit

def scanE (R C : Int) (last : Int) : List Int → Int
  | [] => 0
  | t :: l => if ¬ (0 ≤ t ∧ t < 8) then 2 else if (mv t.toNat).x = true ∧ R ≠ C then 8 else if t ≤ last then 7 else scanE R C t l
def rangeP (R C K : Int) : Prop := 1 ≤ R ∧ R ≤ 4 ∧ 1 ≤ C ∧ C ≤ 4 ∧ 1 ≤ K ∧ K ≤ 4
instance (R C K : Int) : Decidable (rangeP R C K) := by unfold rangeP; infer_instance
def chkE (R C K : Int) (T : List Int) : Int := if rangeP R C K then (if scanE R C (-1) T = 0 then (if closedB (T.map Int.toNat) = true then 0 else 21) else scanE R C (-1) T) else 1

theorem scan_cons (R C last t : Int) (l : List Int) : scanE R C last (t :: l) = if ¬ (0 ≤ t ∧ t < 8) then 2 else if (mv t.toNat).x = true ∧ R ≠ C then 8 else if t ≤ last then 7 else scanE R C t l := rfl
theorem scan_all {R C : Int} : ∀ {l : List Int} {last : Int}, scanE R C last l = 0 → ∀ t ∈ l, 0 ≤ t ∧ t < 8
  | [], _, _, t, h => by simp at h
  | u :: l, last, h, t, ht => by
    unfold scanE at h
    split at h
    · omega
    · next h1 =>
      split at h
      · omega
      · split at h
        · omega
        · rcases List.mem_cons.1 ht with e | ht
          · subst e; omega
          · exact scan_all h t ht
theorem intsN_toNat {T : List Int} (h : ∀ t ∈ T, 0 ≤ t ∧ t < 8) : intsN (T.map Int.toNat) = T := by
  unfold intsN
  rw [List.map_map]
  conv => rhs; rw [← List.map_id T]
  refine List.map_congr_left fun t ht => ?_
  have := h t ht
  simp; omega

set_option maxRecDepth 100000 in
set_option maxHeartbeats 8000000 in
theorem check_any (R C K : Int) (A : Option Addr) (c : Nat) (T : List Int) (w : World) (hm : MovW w) (hA : IntsAt w w.heap.size A T) (hn : T.length < 1000) :
    Calls Tryd.prog 21 #[.agg #[.int .i64 R, .int .i64 C, .int .i64 K, .slice A T.length c]] w fun e w' => e = .returned (.int .i64 (chkE R C K T)) ∧ Below w.heap.size w w' := by
  by_cases h0 : 1 ≤ R
  rotate_left
  · rw [show chkE R C K T = 1 from if_neg (by unfold rangeP; omega)]
    clear hA hm
    go_enter Tryd.func21, Tryd.ntmps21
    go_wp2
    go_ret
    exact ⟨rfl, (Below.refl _ _).alloc (Nat.le_refl _) _⟩
  by_cases h1 : R ≤ 4
  rotate_left
  · rw [show chkE R C K T = 1 from if_neg (by unfold rangeP; omega)]
    clear hA hm
    go_enter Tryd.func21, Tryd.ntmps21
    go_wp2
    go_ret
    exact ⟨rfl, (Below.refl _ _).alloc (Nat.le_refl _) _⟩
  by_cases h2 : 1 ≤ C
  rotate_left
  · rw [show chkE R C K T = 1 from if_neg (by unfold rangeP; omega)]
    clear hA hm
    go_enter Tryd.func21, Tryd.ntmps21
    go_wp2
    go_ret
    exact ⟨rfl, (Below.refl _ _).alloc (Nat.le_refl _) _⟩
  by_cases h3 : C ≤ 4
  rotate_left
  · rw [show chkE R C K T = 1 from if_neg (by unfold rangeP; omega)]
    clear hA hm
    go_enter Tryd.func21, Tryd.ntmps21
    go_wp2
    go_ret
    exact ⟨rfl, (Below.refl _ _).alloc (Nat.le_refl _) _⟩
  by_cases h4 : 1 ≤ K
  rotate_left
  · rw [show chkE R C K T = 1 from if_neg (by unfold rangeP; omega)]
    clear hA hm
    go_enter Tryd.func21, Tryd.ntmps21
    go_wp2
    go_ret
    exact ⟨rfl, (Below.refl _ _).alloc (Nat.le_refl _) _⟩
  by_cases h5 : K ≤ 4
  rotate_left
  · rw [show chkE R C K T = 1 from if_neg (by unfold rangeP; omega)]
    clear hA hm
    go_enter Tryd.func21, Tryd.ntmps21
    go_wp2
    go_ret
    exact ⟨rfl, (Below.refl _ _).alloc (Nat.le_refl _) _⟩
  have HE : chkE R C K T = if scanE R C (-1) T = 0 then (if closedB (T.map Int.toNat) = true then 0 else 21) else scanE R C (-1) T := if_pos (by unfold rangeP; omega)
  obtain ⟨v, hv⟩ : ∃ v, v = chkE R C K T := ⟨_, rfl⟩
  rw [← hv]
  rw [HE] at hv
  have HV := Lib.hid hv
  clear HE hv
  have HA := Lib.hid hA
  have HM := Lib.hid hm
  have hw0 := hm.1
  clear hA hm
  have hb1 := below_new w (.cells #[.int .i64 R, .int .i64 C, .int .i64 K, .slice A T.length c] 24)
  have hs1 : w.heap.size + 1 ≤ (w.alloc (.cells #[.int .i64 R, .int .i64 C, .int .i64 K, .slice A T.length c] 24)).heap.size := by simp
  go_enter Tryd.func21, Tryd.ntmps21
  go_wp2
  go_loopw [3, 37] (fun v i wr => ∃ (k : Nat) (last : Int), k ≤ T.length ∧ i = .int .i64 k ∧ v = .int .i64 last ∧ Hid (scanE R C (-1) T = scanE R C last (T.drop k)) ∧ wr = w.alloc (.cells #[.int .i64 R, .int .i64 C, .int .i64 K, .slice A T.length c] 24)) (fun _ i _ => T.length - (intOf i).toNat)
  case atStart => exact ⟨0, -1, Nat.zero_le _, rfl, rfl, Lib.hid rfl, rfl⟩
  case round =>
    obtain ⟨k, last, hk, rfl, rfl, HK, rfl⟩ := hrel
    by_cases hlt : k < T.length
    · have hx : T[k]? = some T[k] := List.getElem?_eq_getElem hlt
      obtain ⟨b, off, rfl, hb, d⟩ := (HA.out.below hb1 (Nat.le_refl _)) k _ hx
      have e1 := HK.out
      rw [drop_cons hx, scan_cons] at e1
      clear hx
      generalize T[k] = t at *
      have hki : (k : Int) < (T.length : Int) := by omega
      have HT := Lib.hid (fun W => isTurn_any t W)
      by_cases ht : 0 ≤ t ∧ t < 8
      · rw [if_neg (by omega)] at e1
        rw [decide_eq_true ht] at HT
        obtain ⟨u, rfl⟩ : ∃ u : Nat, t = (u : Int) := ⟨t.toNat, by omega⟩
        have hu8 : u < 8 := by omega
        have hm0 := ((HM.out.below hb1).2 u hu8).1
        simp only [Int.toNat_natCast] at e1
        have hti : (u : Int) < 8 := ht.2
        have hti0 : (0 : Int) ≤ (u : Int) := ht.1
        clear ht
        by_cases hxm : (mv u).x = true
        · rw [hxm] at hm0
          by_cases hRC : R = C
          · subst hRC
            rw [if_neg (fun h => h.2 rfl)] at e1
            clear hxm
            by_cases hl : (u : Int) ≤ last
            · rw [if_pos hl] at e1
              have HE := Lib.hid (show v = _ from (by rw [HV.out, e1]; try exact if_neg (by decide)))
              clear e1
              go_wp2_with (go_at_call 67; refine (HT.out _).mono ?_; rintro e w1 ⟨rfl, rfl⟩)
              go_ret
              exact ⟨by rw [HE.out]; rfl, hb1⟩
            · rw [if_neg hl] at e1
              have HE := Lib.hid e1
              clear e1
              go_wp2_with (go_at_call 67; refine (HT.out _).mono ?_; rintro e w1 ⟨rfl, rfl⟩)
              go_roundw
              case rel => exact ⟨k + 1, u, by omega, by go_num, rfl, HE, trivial⟩
              case measure => simp [intOf]; omega
          · rw [if_pos ⟨hxm, hRC⟩] at e1
            have hne : (R != C) = true := by simpa using hRC
            clear hxm hRC
            have HE := Lib.hid (show v = _ from (by rw [HV.out, e1]; try exact if_neg (by decide)))
            clear e1
            go_wp2_with (go_at_call 67; refine (HT.out _).mono ?_; rintro e w1 ⟨rfl, rfl⟩)
            go_ret
            exact ⟨by rw [HE.out]; rfl, hb1⟩
        · rw [Bool.not_eq_true] at hxm
          rw [hxm] at hm0
          rw [if_neg (fun h => by rw [hxm] at h; cases h.1)] at e1
          clear hxm
          by_cases hl : (u : Int) ≤ last
          · rw [if_pos hl] at e1
            have HE := Lib.hid (show v = _ from (by rw [HV.out, e1]; try exact if_neg (by decide)))
            clear e1
            go_wp2_with (go_at_call 67; refine (HT.out _).mono ?_; rintro e w1 ⟨rfl, rfl⟩)
            go_ret
            exact ⟨by rw [HE.out]; rfl, hb1⟩
          · rw [if_neg hl] at e1
            have HE := Lib.hid e1
            clear e1
            go_wp2_with (go_at_call 67; refine (HT.out _).mono ?_; rintro e w1 ⟨rfl, rfl⟩)
            go_roundw
            case rel => exact ⟨k + 1, u, by omega, by go_num, rfl, HE, trivial⟩
            case measure => simp [intOf]; omega
      · rw [if_pos ht] at e1
        rw [decide_eq_false ht] at HT
        have HE := Lib.hid (show v = _ from (by rw [HV.out, e1]; try exact if_neg (by decide)))
        clear e1 ht
        go_wp2_with (go_at_call 67; refine (HT.out _).mono ?_; rintro e w1 ⟨rfl, rfl⟩)
        go_ret
        exact ⟨by rw [HE.out]; rfl, hb1⟩
    · have e1 := HK.out
      rw [List.drop_of_length_le (by omega)] at e1
      have hz : scanE R C (-1) T = 0 := e1
      have hall := scan_all hz
      have HC := Lib.hid (fun (h : IntsAt (w.alloc (.cells #[.int .i64 R, .int .i64 C, .int .i64 K, .slice A T.length c] 24)) (w.alloc (.cells #[.int .i64 R, .int .i64 C, .int .i64 K, .slice A T.length c] 24)).heap.size A (intsN (T.map Int.toNat))) => closed_any A c (T.map Int.toNat) (w.alloc (.cells #[.int .i64 R, .int .i64 C, .int .i64 K, .slice A T.length c] 24)) (HM.out.below hb1) h (by
        intro t ht
        obtain ⟨u, hu, rfl⟩ := List.mem_map.1 ht
        have := hall u hu
        omega) (by simpa using hn))
      rw [intsN_toNat hall, List.length_map] at HC
      replace HC := Lib.hid (HC.out (HA.out.up hb1))
      have hv := HV.out
      rw [hz, if_pos rfl] at hv
      have hki : ¬ (k : Int) < (T.length : Int) := by omega
      clear e1 hz hall HK
      by_cases hcl : closedB (T.map Int.toNat) = true
      · rw [hcl] at HC hv
        rw [if_pos rfl] at hv
        have HE := Lib.hid hv
        clear hcl hv
        go_wp2_with (go_at_call 72; refine (HC.out).mono ?_; rintro e w1 ⟨rfl, hb2⟩)
        go_ret
        exact ⟨by rw [HE.out]; rfl, hb1.trans (hb2.mono hb1.size)⟩
      · rw [Bool.not_eq_true] at hcl
        rw [hcl] at HC hv
        rw [if_neg (by decide)] at hv
        have HE := Lib.hid hv
        clear hcl hv
        go_wp2_with (go_at_call 72; refine (HC.out).mono ?_; rintro e w1 ⟨rfl, hb2⟩)
        go_ret
        exact ⟨by rw [HE.out]; rfl, hb1.trans (hb2.mono hb1.size)⟩
end Go.Proofs.YtbcbaaapogejiaaDoor
