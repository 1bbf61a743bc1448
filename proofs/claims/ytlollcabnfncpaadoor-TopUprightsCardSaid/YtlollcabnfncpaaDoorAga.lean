/-
  Why a sheet cannot be filled: the walks of Colours, made, Min, Max and Against.
-/
import Derived.Test.YtlollcabnfncpaaDoorCol
namespace Go.Proofs.YtlollcabnfncpaaDoor
open Go.RowKit

def colF (r c l v k : Int) : List Int := if chkS r c l v = 0 ∧ 1 ≤ k ∧ k ≤ 6 then colA k.toNat c.toNat r.toNat else []
def colE (r c l v k : Int) : Int := if chkS r c l v = 0 ∧ 1 ≤ k ∧ k ≤ 6 then 0 else 1

set_option maxRecDepth 100000 in
set_option maxHeartbeats 1000000 in
theorem coloursF_any (r c l v k : Int) (w : World) :
    Calls Tryd.prog 39 #[.agg #[.int .i64 r, .int .i64 c, .int .i64 l, .int .i64 v], .int .i64 k] w (RetIntsE w (colF r c l v k) (colE r c l v k)) := by
  have HC := Lib.hid (fun W => check_any r c l v W)
  by_cases h0 : chkS r c l v = 0
  · by_cases hk : 1 ≤ k ∧ k ≤ 6
    · have e1 : colF r c l v k = colA k.toNat c.toNat r.toNat := by unfold colF; rw [if_pos ⟨h0, hk⟩]
      have e2 : colE r c l v k = 0 := by unfold colE; rw [if_pos ⟨h0, hk⟩]
      rw [e1, e2]
      rw [h0] at HC
      obtain ⟨s, hs, rfl, rfl, rfl, rfl⟩ := ok_of_chk h0
      obtain ⟨k, rfl⟩ : ∃ n : Nat, k = n := ⟨k.toNat, by omega⟩
      have HK := Lib.hid (fun W => colours_any s k W hs (by omega) (by omega))
      simp only [Int.toNat_natCast]
      have hk1 : ¬ ((k : Int) < 1) := by omega
      have hk6 : ¬ ((6 : Int) < k) := by omega
      clear h0 e1 e2 hk
      generalize colA k s.c s.r = L at *
      go_enter Tryd.func39, Tryd.ntmps39
      go_wp2_with (first
        | (go_at_call 20; refine (HC.out _).mono ?_; rintro e w1 ⟨rfl, hb1⟩; obtain ⟨q1, q2, q3⟩ := bcell hb1; simp only [World.size_alloc] at q1 q2 q3; have hbb := below_via hb1)
        | (go_at_call 89; refine (HK.out _).mono ?_; rintro e w2 ⟨A, c, rfl, hA, hb2⟩))
      go_ret2
      exact ⟨A, c, rfl, hA, below_then hbb hb2⟩
    · have e1 : colF r c l v k = [] := by unfold colF; rw [if_neg (fun h => hk h.2)]
      have e2 : colE r c l v k = 1 := by unfold colE; rw [if_neg (fun h => hk h.2)]
      rw [e1, e2]
      rw [h0] at HC
      clear h0 e1 e2
      by_cases hk1 : k < 1
      · go_enter Tryd.func39, Tryd.ntmps39
        go_wp2_with (go_at_call 20; refine (HC.out _).mono ?_; rintro e w1 ⟨rfl, hb1⟩)
        go_ret2
        exact ⟨none, 0, rfl, IntsAt.nil _ _ _, below_via hb1⟩
      · have hk6 : (6 : Int) < k := by omega
        go_enter Tryd.func39, Tryd.ntmps39
        go_wp2_with (go_at_call 20; refine (HC.out _).mono ?_; rintro e w1 ⟨rfl, hb1⟩)
        go_ret2
        exact ⟨none, 0, rfl, IntsAt.nil _ _ _, below_via hb1⟩
  · have e1 : colF r c l v k = [] := by unfold colF; rw [if_neg (fun h => h0 h.1)]
    have e2 : colE r c l v k = 1 := by unfold colE; rw [if_neg (fun h => h0 h.1)]
    have e3 := (chkS_01 r c l v).resolve_left h0
    rw [e1, e2]
    rw [e3] at HC
    clear h0 e1 e2 e3
    go_enter Tryd.func39, Tryd.ntmps39
    go_wp2_with (go_at_call 20; refine (HC.out _).mono ?_; rintro e w1 ⟨rfl, hb1⟩)
    go_ret2
    exact ⟨none, 0, rfl, IntsAt.nil _ _ _, below_via hb1⟩

theorem madeN_true {side l v n : Nat} (hl : 1 ≤ l) (h : n * l ≤ side) (h2 : (side - n * l) % v = 0) : madeN side l v = true := by
  unfold madeN
  refine List.any_eq_true.2 ⟨n, List.mem_range.2 ?_, by simp [h, h2]⟩
  have := Nat.mul_le_mul_left n hl
  omega
theorem madeN_false {side l v n : Nat} (h : side < n * l) (h2 : ∀ m, m < n → (side - m * l) % v ≠ 0) : madeN side l v = false := by
  unfold madeN
  refine List.any_eq_false.2 fun m _ => ?_
  by_cases hm : m * l ≤ side
  · have hmn : m < n := Nat.lt_of_not_le fun hge => by have := Nat.mul_le_mul_right l hge; omega
    simp [hm, h2 m hmn]
  · simp [hm]

set_option maxRecDepth 100000 in
set_option maxHeartbeats 1000000 in
theorem made_any (s : Sh) (side : Nat) (w : World) (hs : s.Ok) (h6 : side ≤ 6) :
    Calls Tryd.prog 91 #[.agg #[.int .i64 s.r, .int .i64 s.c, .int .i64 s.l, .int .i64 s.w], .int .i64 side] w fun e w' => e = .returned (.bool (madeN side s.l s.w)) ∧ Below w.heap.size w w' := by
  have hl1 := hs.l1
  have hl6 := hs.l6
  have hw1 := hs.w1
  have hb0 := below_new w (.cells #[.int .i64 s.r, .int .i64 s.c, .int .i64 s.l, .int .i64 s.w] 23)
  have hwz : ((s.w : Int) == 0) = false := by simp; omega
  have hwn : ¬ s.w = 0 := by omega
  generalize hV : madeN side s.l s.w = V
  have HV := Lib.hid hV
  clear hV
  go_enter Tryd.func91, Tryd.ntmps91
  go_wp2
  go_loopw [5] (fun v wr => ∃ n : Nat, n * s.l ≤ 12 ∧ v = .int .i64 ((n * s.l : Nat) : Int) ∧ Hid (∀ m, m < n → (side - m * s.l) % s.w ≠ 0) ∧ wr = w.alloc (.cells #[.int .i64 s.r, .int .i64 s.c, .int .i64 s.l, .int .i64 s.w] 23)) (fun v _ => 13 - (intOf v).toNat)
  case atStart => exact ⟨0, by omega, by simp, Lib.hid (fun m hm => absurd hm (Nat.not_lt_zero _)), rfl⟩
  case round =>
    obtain ⟨n, hn, rfl, HM, rfl⟩ := hrel
    have hnx : (n + 1) * s.l = n * s.l + s.l := Nat.succ_mul n s.l
    have HNX := Lib.hid hnx
    by_cases hle : n * s.l ≤ side
    · have hmod : ((side : Int) - ((n * s.l : Nat) : Int)).tmod (s.w : Int) = (((side - n * s.l) % s.w : Nat) : Int) := by
        rw [show ((side : Int) - ((n * s.l : Nat) : Int)) = ((side - n * s.l : Nat) : Int) by omega]; rfl
      by_cases hz : (side - n * s.l) % s.w = 0
      · have HT := Lib.hid (HV.out.symm.trans (madeN_true hl1 hle hz))
        rw [hz] at hmod
        clear hz hnx
        generalize n * s.l = x at *
        have hw1 : IntKind.i64.wrap ((side : Int) - (x : Int)) = (side : Int) - (x : Int) := IntWalk.i64_in _ (by omega)
        have hle' : ((x : Int) ≤ (side : Int)) := by omega
        go_wp2
        go_ret
        exact ⟨ret_bool HT.out.symm, hb0⟩
      · have HM2 := Lib.hid (show ∀ m, m < n + 1 → (side - m * s.l) % s.w ≠ 0 from fun m hm => by
          by_cases e : m = n
          · rw [e]; exact hz
          · exact HM.out m (by omega))
        have hzb : ((((side - n * s.l) % s.w : Nat) : Int) == 0) = false := by simp; omega
        clear hz hnx
        generalize (side - n * s.l) % s.w = y at *
        generalize n * s.l = x at *
        have hw1 : IntKind.i64.wrap ((side : Int) - (x : Int)) = (side : Int) - (x : Int) := IntWalk.i64_in _ (by omega)
        have hle' : ((x : Int) ≤ (side : Int)) := by omega
        go_wp2
        go_roundw
        case rel => exact ⟨n + 1, by rw [HNX.out]; omega, by rw [HNX.out]; go_num, HM2, trivial⟩
        case measure => simp [intOf]; omega
    · have HT := Lib.hid (HV.out.symm.trans (madeN_false (by omega) HM.out))
      clear hnx
      generalize n * s.l = x at *
      have hle' : ¬ ((x : Int) ≤ (side : Int)) := by omega
      go_wp2
      go_ret
      exact ⟨ret_bool HT.out.symm, hb0⟩

def minI : List Int → Int
  | [] => 0
  | x :: l => l.foldl min x
theorem minI_snoc {l : List Int} (h : l ≠ []) (y : Int) : minI (l ++ [y]) = min (minI l) y := by
  match l, h with
  | x :: l, _ => simp [minI, List.foldl_append]

set_option maxRecDepth 100000 in
set_option maxHeartbeats 1000000 in
theorem min_any (A : Option Addr) (c : Nat) (L : List Int) (w : World) (hA : IntsAt w w.heap.size A L) (h1 : 1 ≤ L.length) (h2 : L.length < 1000000) :
    Calls Tryd.prog 50 #[.slice A L.length c] w fun e w' => e = .returned (.int .i64 (minI L)) ∧ Below w.heap.size w w' := by
  have hx0 : L[0]? = some (L[0]'(by omega)) := List.getElem?_eq_getElem _
  generalize hy : L[0]'(by omega) = x0 at hx0
  have hst : minI (L.take 1) = x0 := by
    match L, h1, hx0 with
    | x :: l, _, h => simp at h; simp [minI, h]
  have HST := Lib.hid hst
  obtain ⟨b0, off0, hA0, hb0, c0⟩ := hA 0 x0 hx0
  have HA := Lib.hid hA
  have hnl : ¬ ((L.length : Int) < 1) := by omega
  rw [Nat.add_zero] at c0
  subst hA0
  clear hst hx0 hy hA
  go_enter Tryd.func50, Tryd.ntmps50
  go_wp2
  go_loopw [3, 4] (fun v i wr => ∃ k : Nat, 1 ≤ k ∧ k ≤ L.length ∧ i = .int .i64 k ∧ v = .int .i64 (minI (L.take k)) ∧ Below w.heap.size w wr) (fun _ i _ => L.length - (intOf i).toNat)
  case atStart => exact ⟨1, by omega, by omega, rfl, by rw [HST.out], Below.refl _ _⟩
  case round =>
    obtain ⟨k, hk1, hk, rfl, rfl, hbr⟩ := hrel
    by_cases hlt : k < L.length
    · have hx : L[k]? = some L[k] := List.getElem?_eq_getElem hlt
      generalize L[k] = y at hx
      obtain ⟨b, off, hAe, hb, d0⟩ := HA.out k y hx
      have hAe' := Option.some.inj hAe
      injection hAe' with e1 e2
      subst e1 e2
      replace d0 := (hbr.cell (p := ⟨b0, _, none⟩) (by simp; omega)).trans d0
      have hbz : b0 < wr.heap.size := by have := hbr.size; omega
      have hne : L.take k ≠ [] := by
        intro h
        have := congrArg List.length h
        rw [List.length_take, List.length_nil] at this
        omega
      have HNX := Lib.hid (show minI (L.take (k + 1)) = min (minI (L.take k)) y by rw [take_snoc hx, minI_snoc hne])
      generalize minI (L.take k) = m at *
      clear hx hne hAe
      rcases Int.lt_or_le y m with hcmp | hcmp
      all_goals
        go_wp2
        go_roundw
        case rel => exact ⟨k + 1, by omega, by omega, by go_num, by rw [HNX.out]; congr 1; omega, hbr⟩
        case measure => simp [intOf]; omega
    · have e : L.take k = L := List.take_of_length_le (by omega)
      have HR := Lib.hid (show minI (L.take k) = minI L by rw [e])
      generalize minI (L.take k) = m at *
      clear e
      go_wp2
      go_ret
      exact ⟨ret_eq HR.out, hbr⟩

def maxI : List Int → Int
  | [] => 0
  | x :: l => l.foldl max x
theorem maxI_snoc {l : List Int} (h : l ≠ []) (y : Int) : maxI (l ++ [y]) = max (maxI l) y := by
  match l, h with
  | x :: l, _ => simp [maxI, List.foldl_append]

set_option maxRecDepth 100000 in
set_option maxHeartbeats 1000000 in
theorem max_any (A : Option Addr) (c : Nat) (L : List Int) (w : World) (hA : IntsAt w w.heap.size A L) (h1 : 1 ≤ L.length) (h2 : L.length < 1000000) :
    Calls Tryd.prog 51 #[.slice A L.length c] w fun e w' => e = .returned (.int .i64 (maxI L)) ∧ Below w.heap.size w w' := by
  have hx0 : L[0]? = some (L[0]'(by omega)) := List.getElem?_eq_getElem _
  generalize hy : L[0]'(by omega) = x0 at hx0
  have hst : maxI (L.take 1) = x0 := by
    match L, h1, hx0 with
    | x :: l, _, h => simp at h; simp [maxI, h]
  have HST := Lib.hid hst
  obtain ⟨b0, off0, hA0, hb0, c0⟩ := hA 0 x0 hx0
  have HA := Lib.hid hA
  have hnl : ¬ ((L.length : Int) < 1) := by omega
  rw [Nat.add_zero] at c0
  subst hA0
  clear hst hx0 hy hA
  go_enter Tryd.func51, Tryd.ntmps51
  go_wp2
  go_loopw [3, 4] (fun v i wr => ∃ k : Nat, 1 ≤ k ∧ k ≤ L.length ∧ i = .int .i64 k ∧ v = .int .i64 (maxI (L.take k)) ∧ Below w.heap.size w wr) (fun _ i _ => L.length - (intOf i).toNat)
  case atStart => exact ⟨1, by omega, by omega, rfl, by rw [HST.out], Below.refl _ _⟩
  case round =>
    obtain ⟨k, hk1, hk, rfl, rfl, hbr⟩ := hrel
    by_cases hlt : k < L.length
    · have hx : L[k]? = some L[k] := List.getElem?_eq_getElem hlt
      generalize L[k] = y at hx
      obtain ⟨b, off, hAe, hb, d0⟩ := HA.out k y hx
      have hAe' := Option.some.inj hAe
      injection hAe' with e1 e2
      subst e1 e2
      replace d0 := (hbr.cell (p := ⟨b0, _, none⟩) (by simp; omega)).trans d0
      have hbz : b0 < wr.heap.size := by have := hbr.size; omega
      have hne : L.take k ≠ [] := by
        intro h
        have := congrArg List.length h
        rw [List.length_take, List.length_nil] at this
        omega
      have HNX := Lib.hid (show maxI (L.take (k + 1)) = max (maxI (L.take k)) y by rw [take_snoc hx, maxI_snoc hne])
      generalize maxI (L.take k) = m at *
      clear hx hne hAe
      rcases Int.lt_or_le y m with hcmp | hcmp
      all_goals
        go_wp2
        go_roundw
        case rel => exact ⟨k + 1, by omega, by omega, by go_num, by rw [HNX.out]; congr 1; omega, hbr⟩
        case measure => simp [intOf]; omega
    · have e : L.take k = L := List.take_of_length_le (by omega)
      have HR := Lib.hid (show maxI (L.take k) = maxI L by rw [e])
      generalize maxI (L.take k) = m at *
      clear e
      go_wp2
      go_ret
      exact ⟨ret_eq HR.out, hbr⟩

/-- Why a sheet cannot be filled: the kind, the number, the error. -/
def agaF (r c l v : Int) : Int × Int × Int :=
  if chkS r c l v = 0 then
    if canS r c l v = true then (0, 0, 13)
    else if madeN r.toNat l.toNat v.toNat = false then (1, r, 0)
    else if madeN c.toNat l.toNat v.toNat = false then (1, c, 0)
    else if minI (colA l.toNat c.toNat r.toNat) = maxI (colA l.toNat c.toNat r.toNat) then (2, v, 0) else (2, l, 0)
  else (0, 0, 1)

set_option maxRecDepth 100000 in
set_option maxHeartbeats 4000000 in
theorem against_any (r c l v : Int) (w : World) (ht : TabW w) :
    Calls Tryd.prog 41 #[.agg #[.int .i64 r, .int .i64 c, .int .i64 l, .int .i64 v]] w fun e w' => e = .returned (.tuple #[.int .i64 (agaF r c l v).1, .int .i64 (agaF r c l v).2.1, .int .i64 (agaF r c l v).2.2]) ∧ Below w.heap.size w w' := by
  have HC := Lib.hid (fun W h => can_any r c l v W h)
  have htb := ht.below (below_new w (.cells #[.int .i64 r, .int .i64 c, .int .i64 l, .int .i64 v] 23))
  by_cases h0 : chkS r c l v = 0
  · rw [h0] at HC
    by_cases hcan : canS r c l v = true
    · have e : agaF r c l v = (0, 0, 13) := by unfold agaF; rw [if_pos h0, if_pos hcan]
      rw [hcan] at HC
      rw [e]
      clear h0 hcan e
      go_enter Tryd.func41, Tryd.ntmps41
      go_wp2_with (go_at_call 15; refine (HC.out _ htb).mono ?_; rintro e w1 ⟨rfl, hb1⟩)
      go_ret3
      exact ⟨rfl, below_via hb1⟩
    · have hcf : canS r c l v = false := Bool.eq_false_iff.2 hcan
      rw [hcf] at HC
      have e0 : agaF r c l v = if madeN r.toNat l.toNat v.toNat = false then (1, r, 0) else if madeN c.toNat l.toNat v.toNat = false then (1, c, 0) else if minI (colA l.toNat c.toNat r.toNat) = maxI (colA l.toNat c.toNat r.toNat) then (2, v, 0) else (2, l, 0) := by unfold agaF; rw [if_pos h0, if_neg hcan]
      clear hcan hcf
      obtain ⟨s, hs, rfl, rfl, rfl, rfl⟩ := ok_of_chk h0
      clear h0
      simp only [Int.toNat_natCast] at e0
      have HM1 := Lib.hid (fun W => made_any s s.r W hs hs.r6)
      have HM2 := Lib.hid (fun W => made_any s s.c W hs hs.c6)
      have HCo := Lib.hid (fun W => colours_any s s.l W hs hs.l1 hs.l6)
      have hlen := colA_len s.l s.c s.r
      have hl1 := hs.l1
      have hl6 := hs.l6
      have i0 : ∀ w, (Instr.index 92 (.agg #[.int .i64 s.r, .int .i64 s.c]) (.int .i64 0)).run Tryd.prog w = .ok (.int .i64 s.r) w := fun _ => by kernel_rfl
      have i1 : ∀ w, (Instr.index 92 (.agg #[.int .i64 s.r, .int .i64 s.c]) (.int .i64 1)).run Tryd.prog w = .ok (.int .i64 s.c) w := fun _ => by kernel_rfl
      rcases hm1 : madeN s.r s.l s.w with _ | _
      · rw [hm1] at HM1
        rw [e0, if_pos hm1]
        clear e0 hm1
        go_enter Tryd.func41, Tryd.ntmps41
        go_wp2_with (go_at_call 15; refine (HC.out _ htb).mono ?_; rintro e w1 ⟨rfl, hb1⟩; obtain ⟨q1, q2, q3⟩ := bcell hb1; simp only [World.size_alloc] at q1 q2 q3; have hbb := below_via hb1; have hzw : w.heap.size < w1.heap.size := (by omega); have p0 := (hb1.cell (p := ⟨w.heap.size, 0, none⟩) (by simp)).trans (show _ = some (Value.int .i64 s.r) by simp [go_sem]); have p1 := (hb1.cell (p := ⟨w.heap.size, 1, none⟩) (by simp)).trans (show _ = some (Value.int .i64 s.c) by simp [go_sem]); have p2 := (hb1.cell (p := ⟨w.heap.size, 2, none⟩) (by simp)).trans (show _ = some (Value.int .i64 s.l) by simp [go_sem]); have p3 := (hb1.cell (p := ⟨w.heap.size, 3, none⟩) (by simp)).trans (show _ = some (Value.int .i64 s.w) by simp [go_sem]); clear q1 q2 q3)
        refine wp_loop_rounds 4 ?_
        rw [rounds_succ]
        go_wp2_with (go_at_call 91; refine (HM1.out _).mono ?_; rintro e w2 ⟨rfl, hb2⟩; have hF := below_then hbb hb2)
        go_ret3
        exact ⟨rfl, hF⟩
      · rw [hm1] at HM1
        rw [if_neg (by rw [hm1]; simp)] at e0
        rcases hm2 : madeN s.c s.l s.w with _ | _
        · rw [hm2] at HM2
          rw [e0, if_pos hm2]
          clear e0 hm1 hm2
          go_enter Tryd.func41, Tryd.ntmps41
          go_wp2_with (go_at_call 15; refine (HC.out _ htb).mono ?_; rintro e w1 ⟨rfl, hb1⟩; obtain ⟨q1, q2, q3⟩ := bcell hb1; simp only [World.size_alloc] at q1 q2 q3; have hbb := below_via hb1; have hzw : w.heap.size < w1.heap.size := (by omega); have p0 := (hb1.cell (p := ⟨w.heap.size, 0, none⟩) (by simp)).trans (show _ = some (Value.int .i64 s.r) by simp [go_sem]); have p1 := (hb1.cell (p := ⟨w.heap.size, 1, none⟩) (by simp)).trans (show _ = some (Value.int .i64 s.c) by simp [go_sem]); have p2 := (hb1.cell (p := ⟨w.heap.size, 2, none⟩) (by simp)).trans (show _ = some (Value.int .i64 s.l) by simp [go_sem]); have p3 := (hb1.cell (p := ⟨w.heap.size, 3, none⟩) (by simp)).trans (show _ = some (Value.int .i64 s.w) by simp [go_sem]); clear q1 q2 q3)
          refine wp_loop_rounds 4 ?_
          rw [rounds_succ]
          go_wp2_with (go_at_call 91; refine (HM1.out _).mono ?_; rintro e w2 ⟨rfl, hb2⟩; have hF := below_then hbb hb2; have r0 := (hb2.cell (p := ⟨w.heap.size, 0, none⟩) hzw).trans p0; have r1 := (hb2.cell (p := ⟨w.heap.size, 1, none⟩) hzw).trans p1; have r2 := (hb2.cell (p := ⟨w.heap.size, 2, none⟩) hzw).trans p2; have r3 := (hb2.cell (p := ⟨w.heap.size, 3, none⟩) hzw).trans p3; have hzr : w.heap.size < w2.heap.size := (by have := hb2.size; omega))
          rw [rounds_succ]
          go_wp2_with (go_at_call 91; refine (HM2.out _).mono ?_; rintro e w3 ⟨rfl, hb3⟩; have hG := below_then hF hb3)
          go_ret3
          exact ⟨rfl, hG⟩
        · rw [hm2] at HM2
          rw [if_neg (by rw [hm2]; simp)] at e0
          clear hm1 hm2
          by_cases hab : minI (colA s.l s.c s.r) = maxI (colA s.l s.c s.r)
          · rw [e0, if_pos hab]
            have HMin := Lib.hid (fun A k W h => min_any A k (colA s.l s.c s.r) W h (by omega) (by omega))
            have HMax := Lib.hid (fun A k W h => max_any A k (colA s.l s.c s.r) W h (by omega) (by omega))
            rw [hab] at HMin
            clear e0 hab hlen
            generalize maxI (colA s.l s.c s.r) = b at *
            generalize colA s.l s.c s.r = L at *
            go_enter Tryd.func41, Tryd.ntmps41
            go_wp2_with (go_at_call 15; refine (HC.out _ htb).mono ?_; rintro e w1 ⟨rfl, hb1⟩; obtain ⟨q1, q2, q3⟩ := bcell hb1; simp only [World.size_alloc] at q1 q2 q3; have hbb := below_via hb1; have hzw : w.heap.size < w1.heap.size := (by omega); have p0 := (hb1.cell (p := ⟨w.heap.size, 0, none⟩) (by simp)).trans (show _ = some (Value.int .i64 s.r) by simp [go_sem]); have p1 := (hb1.cell (p := ⟨w.heap.size, 1, none⟩) (by simp)).trans (show _ = some (Value.int .i64 s.c) by simp [go_sem]); have p2 := (hb1.cell (p := ⟨w.heap.size, 2, none⟩) (by simp)).trans (show _ = some (Value.int .i64 s.l) by simp [go_sem]); have p3 := (hb1.cell (p := ⟨w.heap.size, 3, none⟩) (by simp)).trans (show _ = some (Value.int .i64 s.w) by simp [go_sem]); clear q1 q2 q3)
            refine wp_loop_rounds 4 ?_
            rw [rounds_succ]
            go_wp2_with (go_at_call 91; refine (HM1.out _).mono ?_; rintro e w2 ⟨rfl, hb2⟩; have hF := below_then hbb hb2; have r0 := (hb2.cell (p := ⟨w.heap.size, 0, none⟩) hzw).trans p0; have r1 := (hb2.cell (p := ⟨w.heap.size, 1, none⟩) hzw).trans p1; have r2 := (hb2.cell (p := ⟨w.heap.size, 2, none⟩) hzw).trans p2; have r3 := (hb2.cell (p := ⟨w.heap.size, 3, none⟩) hzw).trans p3; have hzr : w.heap.size < w2.heap.size := (by have := hb2.size; omega))
            rw [rounds_succ]
            go_wp2_with (go_at_call 91; refine (HM2.out _).mono ?_; rintro e w3 ⟨rfl, hb3⟩; have hG := below_then hF hb3; have t0 := (hb3.cell (p := ⟨w.heap.size, 0, none⟩) hzr).trans r0; have t1 := (hb3.cell (p := ⟨w.heap.size, 1, none⟩) hzr).trans r1; have t2 := (hb3.cell (p := ⟨w.heap.size, 2, none⟩) hzr).trans r2; have t3 := (hb3.cell (p := ⟨w.heap.size, 3, none⟩) hzr).trans r3; have hzt : w.heap.size < w3.heap.size := (by have := hb3.size; omega))
            rw [rounds_succ]
            go_wp2_with (first
              | (go_at_call 89; refine (HCo.out _).mono ?_; rintro e w4 ⟨A, k, rfl, hA, hb4⟩; have hH := below_then hG hb4; have u0 := (hb4.cell (p := ⟨w.heap.size, 0, none⟩) hzt).trans t0; have u1 := (hb4.cell (p := ⟨w.heap.size, 1, none⟩) hzt).trans t1; have u2 := (hb4.cell (p := ⟨w.heap.size, 2, none⟩) hzt).trans t2; have u3 := (hb4.cell (p := ⟨w.heap.size, 3, none⟩) hzt).trans t3; have hzu : w.heap.size < w4.heap.size := (by have := hb4.size; omega))
              | (go_at_call 50; refine (HMin.out _ _ _ hA).mono ?_; rintro e w5 ⟨rfl, hb5⟩; have hA5 := hA.up hb5; have v0 := (hb5.cell (p := ⟨w.heap.size, 0, none⟩) hzu).trans u0; have v1 := (hb5.cell (p := ⟨w.heap.size, 1, none⟩) hzu).trans u1; have v2 := (hb5.cell (p := ⟨w.heap.size, 2, none⟩) hzu).trans u2; have v3 := (hb5.cell (p := ⟨w.heap.size, 3, none⟩) hzu).trans u3; have hzv : w.heap.size < w5.heap.size := (by have := hb5.size; omega))
              | (go_at_call 51; refine (HMax.out _ _ _ hA5).mono ?_; rintro e w6 ⟨rfl, hb6⟩; have x0 := (hb6.cell (p := ⟨w.heap.size, 0, none⟩) hzv).trans v0; have x1 := (hb6.cell (p := ⟨w.heap.size, 1, none⟩) hzv).trans v1; have x2 := (hb6.cell (p := ⟨w.heap.size, 2, none⟩) hzv).trans v2; have x3 := (hb6.cell (p := ⟨w.heap.size, 3, none⟩) hzv).trans v3))
            go_quiet (fail)
            go_wp2
            go_ret3
            exact ⟨rfl, below_drewN (below_then (below_then hH hb5) hb6) _⟩
          · rw [e0, if_neg hab]
            have HMin := Lib.hid (fun A k W h => min_any A k (colA s.l s.c s.r) W h (by omega) (by omega))
            have HMax := Lib.hid (fun A k W h => max_any A k (colA s.l s.c s.r) W h (by omega) (by omega))
            have hab' : (minI (colA s.l s.c s.r) == maxI (colA s.l s.c s.r)) = false := by simpa using hab
            clear e0 hab hlen
            generalize minI (colA s.l s.c s.r) = a at *
            generalize maxI (colA s.l s.c s.r) = b at *
            generalize colA s.l s.c s.r = L at *
            go_enter Tryd.func41, Tryd.ntmps41
            go_wp2_with (go_at_call 15; refine (HC.out _ htb).mono ?_; rintro e w1 ⟨rfl, hb1⟩; obtain ⟨q1, q2, q3⟩ := bcell hb1; simp only [World.size_alloc] at q1 q2 q3; have hbb := below_via hb1; have hzw : w.heap.size < w1.heap.size := (by omega); have p0 := (hb1.cell (p := ⟨w.heap.size, 0, none⟩) (by simp)).trans (show _ = some (Value.int .i64 s.r) by simp [go_sem]); have p1 := (hb1.cell (p := ⟨w.heap.size, 1, none⟩) (by simp)).trans (show _ = some (Value.int .i64 s.c) by simp [go_sem]); have p2 := (hb1.cell (p := ⟨w.heap.size, 2, none⟩) (by simp)).trans (show _ = some (Value.int .i64 s.l) by simp [go_sem]); have p3 := (hb1.cell (p := ⟨w.heap.size, 3, none⟩) (by simp)).trans (show _ = some (Value.int .i64 s.w) by simp [go_sem]); clear q1 q2 q3)
            refine wp_loop_rounds 4 ?_
            rw [rounds_succ]
            go_wp2_with (go_at_call 91; refine (HM1.out _).mono ?_; rintro e w2 ⟨rfl, hb2⟩; have hF := below_then hbb hb2; have r0 := (hb2.cell (p := ⟨w.heap.size, 0, none⟩) hzw).trans p0; have r1 := (hb2.cell (p := ⟨w.heap.size, 1, none⟩) hzw).trans p1; have r2 := (hb2.cell (p := ⟨w.heap.size, 2, none⟩) hzw).trans p2; have r3 := (hb2.cell (p := ⟨w.heap.size, 3, none⟩) hzw).trans p3; have hzr : w.heap.size < w2.heap.size := (by have := hb2.size; omega))
            rw [rounds_succ]
            go_wp2_with (go_at_call 91; refine (HM2.out _).mono ?_; rintro e w3 ⟨rfl, hb3⟩; have hG := below_then hF hb3; have t0 := (hb3.cell (p := ⟨w.heap.size, 0, none⟩) hzr).trans r0; have t1 := (hb3.cell (p := ⟨w.heap.size, 1, none⟩) hzr).trans r1; have t2 := (hb3.cell (p := ⟨w.heap.size, 2, none⟩) hzr).trans r2; have t3 := (hb3.cell (p := ⟨w.heap.size, 3, none⟩) hzr).trans r3; have hzt : w.heap.size < w3.heap.size := (by have := hb3.size; omega))
            rw [rounds_succ]
            go_wp2_with (first
              | (go_at_call 89; refine (HCo.out _).mono ?_; rintro e w4 ⟨A, k, rfl, hA, hb4⟩; have hH := below_then hG hb4; have u0 := (hb4.cell (p := ⟨w.heap.size, 0, none⟩) hzt).trans t0; have u1 := (hb4.cell (p := ⟨w.heap.size, 1, none⟩) hzt).trans t1; have u2 := (hb4.cell (p := ⟨w.heap.size, 2, none⟩) hzt).trans t2; have u3 := (hb4.cell (p := ⟨w.heap.size, 3, none⟩) hzt).trans t3; have hzu : w.heap.size < w4.heap.size := (by have := hb4.size; omega))
              | (go_at_call 50; refine (HMin.out _ _ _ hA).mono ?_; rintro e w5 ⟨rfl, hb5⟩; have hA5 := hA.up hb5; have v0 := (hb5.cell (p := ⟨w.heap.size, 0, none⟩) hzu).trans u0; have v1 := (hb5.cell (p := ⟨w.heap.size, 1, none⟩) hzu).trans u1; have v2 := (hb5.cell (p := ⟨w.heap.size, 2, none⟩) hzu).trans u2; have v3 := (hb5.cell (p := ⟨w.heap.size, 3, none⟩) hzu).trans u3; have hzv : w.heap.size < w5.heap.size := (by have := hb5.size; omega))
              | (go_at_call 51; refine (HMax.out _ _ _ hA5).mono ?_; rintro e w6 ⟨rfl, hb6⟩; have x0 := (hb6.cell (p := ⟨w.heap.size, 0, none⟩) hzv).trans v0; have x1 := (hb6.cell (p := ⟨w.heap.size, 1, none⟩) hzv).trans v1; have x2 := (hb6.cell (p := ⟨w.heap.size, 2, none⟩) hzv).trans v2; have x3 := (hb6.cell (p := ⟨w.heap.size, 3, none⟩) hzv).trans v3))
            go_quiet (fail)
            go_wp2
            go_ret3
            exact ⟨rfl, below_drewN (below_then (below_then hH hb5) hb6) _⟩
  · have e1 := (chkS_01 r c l v).resolve_left h0
    have e : agaF r c l v = (0, 0, 1) := by unfold agaF; rw [if_neg h0]
    have e2 : canS r c l v = false := by unfold canS cntS; rw [if_neg h0]; rfl
    rw [e]
    rw [e1, e2] at HC
    clear h0 e e1 e2
    go_enter Tryd.func41, Tryd.ntmps41
    go_wp2_with (go_at_call 15; refine (HC.out _ htb).mono ?_; rintro e w1 ⟨rfl, hb1⟩)
    go_ret3
    exact ⟨rfl, below_via hb1⟩
end Go.Proofs.YtlollcabnfncpaaDoor
