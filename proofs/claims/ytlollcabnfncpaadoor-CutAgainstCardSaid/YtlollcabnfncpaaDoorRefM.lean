/-
  The reference: colours, sides that are sums, whether all numbers are the same, why a sheet cannot be filled. The reference: Colours, and why a sheet cannot be filled.
-/
import Derived.Test.YtlollcabnfncpaaDoorRefJ
import Derived.Test.YtlollcabnfncpaaDoorAga
namespace Go.Proofs.YtlollcabnfncpaaDoor
open Go.RowKit

set_option maxRecDepth 100000 in
set_option maxHeartbeats 2000000 in
theorem rcolours_any (s : Sh) (k : Nat) (w : World) (hs : s.Ok) (hk1 : 1 ≤ k) (hk6 : k ≤ 6) :
    Calls Tryd.prog 90 #[.agg #[.int .i64 s.r, .int .i64 s.c, .int .i64 s.l, .int .i64 s.w], .int .i64 k] w (RetInts w (colA k s.c s.r)) := by
  have hr6 := hs.r6
  have hc6 := hs.c6
  obtain ⟨i0, hi, hz0, hz1, hz2⟩ := info_parts info3
  obtain ⟨w1, hmk, hown0, hg0⟩ := run_make_full (P := Tryd.prog) (w.alloc (.cells #[.int .i64 s.r, .int .i64 s.c, .int .i64 s.l, .int .i64 s.w] 24)) (w.heap.size + 1) 47 3 i0 _ 1 Tryd.underlying47 hi hz0 hz1 .i64 .i64 k (by rw [hz2]; omega) (by unfold maxLen; omega) (by simp)
  have hb1 : Below w.heap.size w w1 := (below_new w _).grown hg0 (by simp) (by simp)
  have hz1 : w.heap.size + 1 ≤ w1.heap.size := by have := (Chg.of_grown hg0).size; simpa using this
  have cc := fun (o : Nat) => (Chg.of_grown hg0).cell (p := ⟨w.heap.size, o, none⟩) (by simp) (by simp)
  have p0 : w1.cell? ⟨w.heap.size, 0, none⟩ = some (.int .i64 s.r) := (cc 0).trans (by simp [go_sem])
  have p1 : w1.cell? ⟨w.heap.size, 1, none⟩ = some (.int .i64 s.c) := (cc 1).trans (by simp [go_sem])
  have hrep : (madeCells (Value.int .i64 0).cells (k * 1)).toList = (colA k s.c 0).map (Value.int .i64) := by
    rw [Nat.mul_one, show (Value.int .i64 0).cells = #[.int .i64 0] from rfl, toList_madeCells_one]
    simp [colA]
  rw [hrep] at hown0
  simp only [World.size_alloc] at hown0 hmk
  have H0 := Lib.hid hown0
  have HB := Lib.hid hb1
  have hk0 : ((k : Int) == 0) = false := by simp; omega
  have hknz : ¬ k = 0 := by omega
  clear hown0 hrep cc hi hz0 hg0 hb1
  go_enter Tryd.func90, Tryd.ntmps90
  go_wp2
  clear hmk
  go_loopw [6] (fun i wr => ∃ a : Nat, a ≤ s.r ∧ i = .int .i64 a ∧ wr.ownsRow (w.heap.size + 1) 3 1 (.slice (some ⟨w.heap.size + 1, 0, none⟩) k k) k ((colA k s.c a).map (Value.int .i64)) ∧ Below (w.heap.size + 1) w1 wr) (fun i _ => s.r - (intOf i).toNat)
  case atStart => exact ⟨0, by omega, rfl, H0.out, Below.refl _ _⟩
  case round =>
    obtain ⟨a, ha, rfl, hown, hbr⟩ := hrel
    have r0 := (hbr.cell (p := ⟨w.heap.size, 0, none⟩) (by simp)).trans p0
    have r1 := (hbr.cell (p := ⟨w.heap.size, 1, none⟩) (by simp)).trans p1
    by_cases hlt : a < s.r
    · obtain ⟨wo, rfl⟩ : ∃ wo : World, wo = wr := ⟨_, rfl⟩
      have HO := Lib.hid hown
      clear hown
      go_wp2
      go_loopw [7] (fun i wx => ∃ b : Nat, b ≤ s.c ∧ i = .int .i64 b ∧ wx.ownsRow (w.heap.size + 1) 3 1 (.slice (some ⟨w.heap.size + 1, 0, none⟩) k k) k ((colR k a b (colA k s.c a)).map (Value.int .i64)) ∧ Below (w.heap.size + 1) w1 wx) (fun i _ => s.c - (intOf i).toNat)
      case atStart => exact ⟨0, by omega, rfl, HO.out, hbr⟩
      case round =>
        obtain ⟨b, hb, rfl, hown, hbx⟩ := hrel
        have t0 := (hbx.cell (p := ⟨w.heap.size, 0, none⟩) (by simp)).trans p0
        have t1 := (hbx.cell (p := ⟨w.heap.size, 1, none⟩) (by simp)).trans p1
        by_cases hlt2 : b < s.c
        · have hmod : ((a : Int) + (b : Int)).tmod (k : Int) = (((a + b) % k : Nat) : Int) := by
            rw [show ((a : Int) + (b : Int)) = ((a + b : Nat) : Int) by omega]; rfl
          have hjk : (a + b) % k < k := Nat.mod_lt _ (by omega)
          have hbin := (colA_in k s.c a).colR (by omega) k a b
          have hac : a * s.c ≤ 36 := by have := Nat.mul_le_mul (show a ≤ 6 by omega) hc6; omega
          have hln : (colR k a b (colA k s.c a)).length = k := by rw [colR_len, colA_len]
          have hnx : colR k a (b + 1) (colA k s.c a) = bump (colR k a b (colA k s.c a)) ((a + b) % k) := rfl
          have HNX := Lib.hid hnx
          have HOW := Lib.hid hown
          generalize colR k a b (colA k s.c a) = L at *
          have hw1 : IntKind.i64.wrap ((a : Int) + (b : Int)) = (a : Int) + (b : Int) := IntWalk.i64_in _ (by omega)
          generalize (a + b) % k = j at *
          have hLj : L[j]? = some (L[j]'(by omega)) := List.getElem?_eq_getElem (by omega)
          generalize hy : L[j]'(by omega) = y at hLj
          have hyin := hbin y (List.mem_of_getElem? hLj)
          have hcell := (hown.cellAt j (by omega)).trans (show (L.map (Value.int .i64))[j]? = some (.int .i64 y) by rw [List.getElem?_map, hLj]; rfl)
          have hfz := hown.frozenAt j
          have hst := hown.stored j (.int .i64 (y + 1))
          have HST := Lib.hid hst
          have HY := Lib.hid (show (L.map (Value.int .i64)).set j (.int .i64 (y + 1)) = (bump L j).map (Value.int .i64) by
            rw [← List.map_set, bump, List.getD_eq_getElem?_getD, hLj]; rfl)
          clear hst hown hbin hLj hy hnx
          go_wp2
          go_roundw
          case rel =>
            refine ⟨b + 1, by omega, by go_num, ?_, ?_⟩
            · rw [HNX.out, ← HY.out]; exact HST.out.1
            · exact hbx.setCell (p := ⟨w.heap.size + 1, j, none⟩) (by simp) _
          case measure => simp [intOf]; omega
        · have e : b = s.c := by omega
          have HF := Lib.hid (show (colR k a b (colA k s.c a)).map (Value.int .i64) = (colA k s.c (a + 1)).map (Value.int .i64) by rw [e]; rfl)
          have HOW := Lib.hid hown
          clear hown e
          go_wp2
          go_roundw
          case rel => exact ⟨a + 1, by omega, by go_num, by rw [← HF.out]; exact HOW.out, hbx⟩
          case measure => simp [intOf]; omega
    · have e : a = s.r := by omega
      rw [e] at hown
      obtain ⟨A, c, he, hA, hn⟩ := own_ints hown
      have HR := Lib.hid (show RetInts w (colA k s.c s.r) (.returned (.slice A (colA k s.c s.r).length c)) wr from ⟨A, c, rfl, hA, HB.out.trans (hbr.mono (by omega))⟩)
      rw [← he] at HR
      clear hown hA he e hn
      go_wp2
      go_ret
      exact HR.out

set_option maxRecDepth 100000 in
set_option maxHeartbeats 1000000 in
theorem rmade_any (s : Sh) (side : Nat) (w : World) (hs : s.Ok) (h6 : side ≤ 6) :
    Calls Tryd.prog 92 #[.agg #[.int .i64 s.r, .int .i64 s.c, .int .i64 s.l, .int .i64 s.w], .int .i64 side] w fun e w' => e = .returned (.bool (madeN side s.l s.w)) ∧ Below w.heap.size w w' := by
  have hl1 := hs.l1
  have hl6 := hs.l6
  have hw1 := hs.w1
  have hb0 := below_new w (.cells #[.int .i64 s.r, .int .i64 s.c, .int .i64 s.l, .int .i64 s.w] 24)
  have hwz : ((s.w : Int) == 0) = false := beq_eq_false_iff_ne.2 (by omega)
  have hwn : ¬ s.w = 0 := by omega
  generalize hV : madeN side s.l s.w = V
  have HV := Lib.hid hV
  clear hV
  go_enter Tryd.func92, Tryd.ntmps92
  go_wp2
  go_loopw [5] (fun v wr => ∃ n : Nat, n ≤ 12 ∧ v = .int .i64 (n : Nat) ∧ Hid (∀ m, m < n → (side - m * s.l) % s.w ≠ 0) ∧ wr = w.alloc (.cells #[.int .i64 s.r, .int .i64 s.c, .int .i64 s.l, .int .i64 s.w] 24)) (fun v _ => 13 - (intOf v).toNat)
  case atStart => exact ⟨0, by omega, by simp, Lib.hid (fun m hm => absurd hm (Nat.not_lt_zero _)), rfl⟩
  case round =>
    obtain ⟨n, hn, rfl, HM, rfl⟩ := hrel
    have hnl : n ≤ n * s.l := Nat.le_mul_of_pos_right n hl1
    have hnu : n * s.l ≤ 72 := by have := Nat.mul_le_mul hn hl6; omega
    have hmul : IntKind.i64.wrap ((n : Int) * (s.l : Int)) = ((n * s.l : Nat) : Int) := by
      rw [show ((n : Int) * (s.l : Int)) = ((n * s.l : Nat) : Int) by rw [Int.natCast_mul]]
      exact IntWalk.i64_in _ (by omega)
    by_cases hle : n * s.l ≤ side
    · have hmod : ((side : Int) - ((n * s.l : Nat) : Int)).tmod (s.w : Int) = (((side - n * s.l) % s.w : Nat) : Int) := by
        rw [show ((side : Int) - ((n * s.l : Nat) : Int)) = ((side - n * s.l : Nat) : Int) by omega]; rfl
      by_cases hz : (side - n * s.l) % s.w = 0
      · have HT := Lib.hid (HV.out.symm.trans (madeN_true hl1 hle hz))
        rw [hz] at hmod
        clear hz
        generalize n * s.l = x at *
        have hw1 : IntKind.i64.wrap ((side : Int) - (x : Int)) = (side : Int) - (x : Int) := IntWalk.i64_in _ (by omega)
        have hle' : ((x : Int) ≤ (side : Int)) := by omega
        go_wp2
        go_ret
        exact ⟨ret_bool HT.out.symm, hb0⟩
      · have HM2 := Lib.hid (show ∀ m, m < n + 1 → (side - m * s.l) % s.w ≠ 0 from fun m hm => by
          by_cases e : m = n
          · rw [e]; exact hz
          · exact HM.out m (by omega))
        have hzb : ((((side - n * s.l) % s.w : Nat) : Int) == 0) = false := beq_eq_false_iff_ne.2 (by omega)
        clear hz
        generalize (side - n * s.l) % s.w = y at *
        generalize n * s.l = x at *
        have hw1 : IntKind.i64.wrap ((side : Int) - (x : Int)) = (side : Int) - (x : Int) := IntWalk.i64_in _ (by omega)
        have hle' : ((x : Int) ≤ (side : Int)) := by omega
        go_wp2
        go_roundw
        case rel => exact ⟨n + 1, by omega, by go_num, HM2, trivial⟩
        case measure => simp [intOf]; omega
    · have HT := Lib.hid (HV.out.symm.trans (madeN_false (by omega) HM.out))
      generalize n * s.l = x at *
      have hle' : ¬ ((x : Int) ≤ (side : Int)) := by omega
      go_wp2
      go_ret
      exact ⟨ret_bool HT.out.symm, hb0⟩

/-- All numbers are the same as the first one. -/
def evenB (L : List Int) : Bool := L.all fun x => x == L.headD 0
theorem foldl_min_le : ∀ (l : List Int) (x : Int), l.foldl min x ≤ x ∧ ∀ y ∈ l, l.foldl min x ≤ y
  | [], x => ⟨Int.le_refl _, by simp⟩
  | z :: l, x => by
    obtain ⟨h1, h2⟩ := foldl_min_le l (min x z)
    rw [List.foldl_cons]
    refine ⟨by omega, fun y hy => ?_⟩
    rcases List.mem_cons.1 hy with rfl | hy
    · omega
    · exact h2 y hy
theorem foldl_max_ge : ∀ (l : List Int) (x : Int), x ≤ l.foldl max x ∧ ∀ y ∈ l, y ≤ l.foldl max x
  | [], x => ⟨Int.le_refl _, by simp⟩
  | z :: l, x => by
    obtain ⟨h1, h2⟩ := foldl_max_ge l (max x z)
    rw [List.foldl_cons]
    refine ⟨by omega, fun y hy => ?_⟩
    rcases List.mem_cons.1 hy with rfl | hy
    · omega
    · exact h2 y hy
theorem foldl_same {f : Int → Int → Int} (hf : ∀ a, f a a = a) (x : Int) : ∀ (l : List Int), (∀ y ∈ l, y = x) → l.foldl f x = x
  | [], _ => rfl
  | z :: l, h => by
    rw [List.foldl_cons, h z (by simp), hf]
    exact foldl_same hf x l fun y hy => h y (by simp [hy])
theorem even_iff {L : List Int} (h : 1 ≤ L.length) : evenB L = true ↔ minI L = maxI L := by
  match L, h with
  | x :: l, _ =>
    unfold evenB minI maxI
    simp only [List.headD_cons, List.all_eq_true, beq_iff_eq]
    constructor
    · intro h
      have h' : ∀ y ∈ l, y = x := fun y hy => h y (by simp [hy])
      rw [foldl_same (fun a => Int.min_self a) x l h', foldl_same (fun a => Int.max_self a) x l h']
    · intro h y hy
      obtain ⟨a1, a2⟩ := foldl_min_le l x
      obtain ⟨b1, b2⟩ := foldl_max_ge l x
      rcases List.mem_cons.1 hy with rfl | hy
      · rfl
      · have := a2 y hy
        have := b2 y hy
        omega

set_option maxRecDepth 100000 in
set_option maxHeartbeats 1000000 in
theorem even_any (A : Option Addr) (c : Nat) (L : List Int) (w : World) (hA : IntsAt w w.heap.size A L) (h1 : 1 ≤ L.length) (h2 : L.length < 1000000) :
    Calls Tryd.prog 93 #[.slice A L.length c] w fun e w' => e = .returned (.bool (evenB L)) ∧ Below w.heap.size w w' := by
  have hx0 : L[0]? = some (L[0]'(by omega)) := List.getElem?_eq_getElem _
  generalize hy : L[0]'(by omega) = x0 at hx0
  have hhd : L.headD 0 = x0 := by
    match L, h1 with
    | z :: l, _ => simpa using hx0
  obtain ⟨b0, o0, hA0, hb0, d0⟩ := hA 0 x0 hx0
  rw [Nat.add_zero] at d0
  generalize hV : evenB L = V
  have HV := Lib.hid hV
  have HH := Lib.hid hhd
  have HA := Lib.hid hA
  subst hA0
  clear hV hhd hy hx0 hA
  have hl0 : (0 : Int) < (L.length : Int) := by omega
  go_enter Tryd.func93, Tryd.ntmps93
  go_wp2
  go_loopw [3] (fun i wr => ∃ k : Nat, 1 ≤ k ∧ k ≤ L.length ∧ i = .int .i64 k ∧ Hid (∀ j x, 1 ≤ j → j < k → L[j]? = some x → x = x0) ∧ Below w.heap.size w wr) (fun i _ => L.length - (intOf i).toNat)
  case atStart => exact ⟨1, by omega, h1, rfl, Lib.hid (fun j x h1 h2 => by omega), Below.refl _ _⟩
  case round =>
    obtain ⟨k, hk1, hk, rfl, HM, hbr⟩ := hrel
    by_cases hlt : k < L.length
    · have hx : L[k]? = some L[k] := List.getElem?_eq_getElem hlt
      generalize L[k] = x at hx
      obtain ⟨b2, o2, e2, hb2, d2⟩ := HA.out k x hx
      injection e2 with e2
      injection e2 with e3 e4
      subst e3 e4
      replace d2 := (hbr.cell (p := ⟨b0, _, none⟩) hb0).trans d2
      have e0 := (hbr.cell (p := ⟨b0, o0, none⟩) hb0).trans d0
      have hki : (k : Int) < (L.length : Int) := by omega
      have hk0 : (0 : Int) ≤ (k : Int) := by omega
      by_cases hxx : x = x0
      · have hne : (x != x0) = false := by simpa using hxx
        have HM2 := Lib.hid (show ∀ j y, 1 ≤ j → j < k + 1 → L[j]? = some y → y = x0 from fun j y a1 a2 a3 => by
          by_cases e : j = k
          · subst e; rw [hx] at a3; rw [← Option.some.inj a3, hxx]
          · exact HM.out j y a1 (by omega) a3)
        clear hx hxx
        go_wp2
        go_quiet (fail)
        go_wp2
        go_roundw
        case rel => exact ⟨k + 1, by omega, by omega, by go_num, HM2, below_drewN hbr _⟩
        case measure => simp [intOf]; omega
      · have hne : (x != x0) = true := by simpa using hxx
        have HF := Lib.hid (show V = false by
          rw [← HV.out]
          refine List.all_eq_false.2 ⟨x, mem_of_get hx, ?_⟩
          rw [HH.out]; simpa using hxx)
        clear hx hxx
        go_wp2
        go_quiet (fail)
        go_wp2
        go_ret
        exact ⟨ret_bool HF.out.symm, below_drewN hbr _⟩
    · have HT := Lib.hid (show V = true by
        rw [← HV.out]
        refine List.all_eq_true.2 fun x hx => ?_
        rw [HH.out]
        obtain ⟨j, hj, e⟩ := List.mem_iff_getElem.1 hx
        have hj' : L[j]? = some x := by rw [List.getElem?_eq_getElem hj, e]
        rcases Nat.eq_zero_or_pos j with h0 | h0
        · subst h0
          obtain ⟨b3, o3, e3, _, d3⟩ := HA.out 0 x hj'
          injection e3 with e3
          injection e3 with e4 e5
          subst e4 e5
          rw [Nat.add_zero, d0] at d3
          injection d3 with d3
          injection d3 with _ d3
          simp [d3]
        · simpa using HM.out j x h0 (by omega) hj')
      go_wp2
      go_ret
      exact ⟨ret_bool HT.out.symm, hbr⟩

/-- The sheet of the reference lies where it was put. -/
theorem one_cells {w W : World} {r c l v : Int} (h : Below (w.alloc (.cells #[.int .i64 r, .int .i64 c, .int .i64 l, .int .i64 v] 24)).heap.size (w.alloc (.cells #[.int .i64 r, .int .i64 c, .int .i64 l, .int .i64 v] 24)) W) :
    W.cell? ⟨w.heap.size, 0, none⟩ = some (.int .i64 r) ∧ W.cell? ⟨w.heap.size, 1, none⟩ = some (.int .i64 c) ∧ W.cell? ⟨w.heap.size, 2, none⟩ = some (.int .i64 l) ∧ W.cell? ⟨w.heap.size, 3, none⟩ = some (.int .i64 v) := by
  refine ⟨?_, ?_, ?_, ?_⟩
  all_goals
    refine (h.cell (by simp)).trans ?_
    simp [go_sem]

set_option maxRecDepth 100000 in
set_option maxHeartbeats 2000000 in
theorem rcoloursF_any (r c l v k : Int) (w : World) :
    Calls Tryd.prog 40 #[.agg #[.int .i64 r, .int .i64 c, .int .i64 l, .int .i64 v], .int .i64 k] w (RetIntsE w (colF r c l v k) (colE r c l v k)) := by
  have HC := Lib.hid (fun W => rcheck_any r c l v W)
  have HK := Lib.hid (fun W => @one_cells w W r c l v)
  by_cases h0 : chkS r c l v = 0
  · by_cases hk : 1 ≤ k ∧ k ≤ 6
    · have e1 : colF r c l v k = colA k.toNat c.toNat r.toNat := by unfold colF; rw [if_pos ⟨h0, hk⟩]
      have e2 : colE r c l v k = 0 := by unfold colE; rw [if_pos ⟨h0, hk⟩]
      rw [e1, e2]
      rw [h0] at HC
      obtain ⟨s, hs, rfl, rfl, rfl, rfl⟩ := ok_of_chk h0
      have HI := Lib.hid (fun (W : World) => is_same (W := W) (n := k) (lo := 1) (hi := 6) (decide_eq_true hk).symm)
      obtain ⟨k, rfl⟩ : ∃ n : Nat, k = n := ⟨k.toNat, by omega⟩
      have HK2 := Lib.hid (fun W => rcolours_any s k W hs (by omega) (by omega))
      simp only [Int.toNat_natCast]
      clear h0 e1 e2 hk
      generalize colA k s.c s.r = L at *
      go_enter Tryd.func40, Tryd.ntmps40
      go_wp2_with (first
        | (go_at_call 21; (with_reducible refine (HC.out _).mono ?_); rintro e w1 ⟨rfl, hb1⟩; obtain ⟨s0, s1, s2, s3⟩ := HK.out _ hb1)
        | (go_at_call 67; (with_reducible refine (HI.out _).mono ?_); rintro e w2 ⟨rfl, rfl⟩)
        | (go_at_call 90; (with_reducible refine (HK2.out _).mono ?_); rintro e w2 ⟨A, c, rfl, hA, hb2⟩))
      go_ret2
      exact ⟨A, c, rfl, hA, below_then (below_via hb1) hb2⟩
    · have e1 : colF r c l v k = [] := by unfold colF; rw [if_neg (fun h => hk h.2)]
      have e2 : colE r c l v k = 1 := by unfold colE; rw [if_neg (fun h => hk h.2)]
      rw [e1, e2]
      rw [h0] at HC
      have HI := Lib.hid (fun (W : World) => is_same (W := W) (n := k) (lo := 1) (hi := 6) (decide_eq_false hk).symm)
      clear h0 e1 e2 hk
      go_enter Tryd.func40, Tryd.ntmps40
      go_wp2_with (first
        | (go_at_call 21; (with_reducible refine (HC.out _).mono ?_); rintro e w1 ⟨rfl, hb1⟩)
        | (go_at_call 67; (with_reducible refine (HI.out _).mono ?_); rintro e w2 ⟨rfl, rfl⟩))
      go_ret2
      exact ⟨none, 0, rfl, IntsAt.nil _ _ _, below_via hb1⟩
  · have e1 : colF r c l v k = [] := by unfold colF; rw [if_neg (fun h => h0 h.1)]
    have e2 : colE r c l v k = 1 := by unfold colE; rw [if_neg (fun h => h0 h.1)]
    have e3 := chkS_one h0
    rw [e1, e2]
    rw [e3] at HC
    clear h0 e1 e2 e3
    go_enter Tryd.func40, Tryd.ntmps40
    go_wp2_with (go_at_call 21; (with_reducible refine (HC.out _).mono ?_); rintro e w1 ⟨rfl, hb1⟩)
    go_ret2
    exact ⟨none, 0, rfl, IntsAt.nil _ _ _, below_via hb1⟩

/-- Why a sheet cannot be filled, with the reference's test. -/
theorem aga_even {s : Sh} (hs : s.Ok) (a b : Int × Int × Int) : (if minI (colA s.l s.c s.r) = maxI (colA s.l s.c s.r) then a else b) = if evenB (colA s.l s.c s.r) = true then a else b := by
  have h := even_iff (L := colA s.l s.c s.r) (by rw [colA_len]; exact hs.l1)
  by_cases he : evenB (colA s.l s.c s.r) = true
  · rw [if_pos he, if_pos (h.1 he)]
  · rw [if_neg he, if_neg (fun h' => he (h.2 h'))]

set_option maxRecDepth 100000 in
set_option maxHeartbeats 4000000 in
theorem ragainst_any (r c l v : Int) (w : World) :
    Calls Tryd.prog 42 #[.agg #[.int .i64 r, .int .i64 c, .int .i64 l, .int .i64 v]] w fun e w' => e = .returned (.tuple #[.int .i64 (agaF r c l v).1, .int .i64 (agaF r c l v).2.1, .int .i64 (agaF r c l v).2.2]) ∧ Below w.heap.size w w' := by
  have HC := Lib.hid (fun W => rcan_any r c l v W)
  have HK := Lib.hid (fun W => @one_cells w W r c l v)
  by_cases h0 : chkS r c l v = 0
  · rw [h0] at HC
    by_cases hcan : canS r c l v = true
    · have e : agaF r c l v = (0, 0, 13) := by unfold agaF; rw [if_pos h0, if_pos hcan]
      rw [hcan] at HC
      rw [e]
      clear h0 hcan e
      go_enter Tryd.func42, Tryd.ntmps42
      go_wp2_with (go_at_call 16; (with_reducible refine (HC.out _).mono ?_); rintro e w1 ⟨rfl, hb1⟩)
      go_ret3
      exact ⟨rfl, below_via hb1⟩
    · have hcf : canS r c l v = false := Bool.eq_false_iff.2 hcan
      rw [hcf] at HC
      obtain ⟨s, hs, rfl, rfl, rfl, rfl⟩ := ok_of_chk h0
      have e0 : agaF s.r s.c s.l s.w = if madeN s.r s.l s.w = false then (1, (s.r : Int), 0) else if madeN s.c s.l s.w = false then (1, (s.c : Int), 0) else if evenB (colA s.l s.c s.r) = true then (2, (s.w : Int), 0) else (2, (s.l : Int), 0) := by
        unfold agaF
        rw [if_pos h0, if_neg hcan, ← aga_even hs]
        rfl
      clear hcan hcf h0
      have HM1 := Lib.hid (fun W => rmade_any s s.r W hs hs.r6)
      have HM2 := Lib.hid (fun W => rmade_any s s.c W hs hs.c6)
      have HCo := Lib.hid (fun W => rcolours_any s s.l W hs hs.l1 hs.l6)
      have hlen := colA_len s.l s.c s.r
      have hl1 := hs.l1
      have hl6 := hs.l6
      have HEv := Lib.hid (fun A c W (hA : IntsAt W W.heap.size A (colA s.l s.c s.r)) => even_any A c (colA s.l s.c s.r) W hA (by omega) (by omega))
      generalize colA s.l s.c s.r = L at *
      clear hlen
      rcases hm1 : madeN s.r s.l s.w with _ | _
      · rw [hm1] at HM1
        rw [e0, if_pos hm1]
        clear e0 hm1
        go_enter Tryd.func42, Tryd.ntmps42
        go_wp2_with (first
          | (go_at_call 16; (with_reducible refine (HC.out _).mono ?_); rintro e w1 ⟨rfl, hb1⟩; obtain ⟨s0, s1, s2, s3⟩ := HK.out _ hb1)
          | (go_at_call 92; (with_reducible refine (HM1.out _).mono ?_); rintro e w2 ⟨rfl, hb2⟩; obtain ⟨t0, t1, t2, t3⟩ := HK.out _ (hb1.trans (hb2.mono hb1.size))))
        go_quiet (fail)
        go_wp2
        go_ret3
        exact ⟨rfl, below_drewN (below_then (below_via hb1) hb2) _⟩
      · rw [hm1] at HM1
        rw [e0, if_neg (by rw [hm1]; decide)]
        clear e0 hm1
        rcases hm2 : madeN s.c s.l s.w with _ | _
        · rw [hm2] at HM2
          rw [if_pos rfl]
          clear hm2
          go_enter Tryd.func42, Tryd.ntmps42
          go_wp2_with (first
          | (go_at_call 16; (with_reducible refine (HC.out _).mono ?_); rintro e w1 ⟨rfl, hb1⟩; obtain ⟨s0, s1, s2, s3⟩ := HK.out _ hb1)
          | (go_at_call 92; (with_reducible refine (HM1.out _).mono ?_); rintro e w2 ⟨rfl, hb2⟩; have hb2' := hb1.trans (hb2.mono hb1.size); obtain ⟨t0, t1, t2, t3⟩ := HK.out _ hb2')
          | (go_at_call 92; (with_reducible refine (HM2.out _).mono ?_); rintro e w3 ⟨rfl, hb3⟩; have hb3' := hb2'.trans (hb3.mono hb2'.size); obtain ⟨u0, u1, u2, u3⟩ := HK.out _ hb3'))
          go_quiet (fail)
          go_wp2
          go_ret3
          exact ⟨rfl, below_drewN (below_via hb3') _⟩
        · rw [hm2] at HM2
          rw [if_neg (by decide)]
          clear hm2
          rcases he : evenB L with _ | _
          · rw [he] at HEv
            rw [if_neg (by decide)]
            clear he
            go_enter Tryd.func42, Tryd.ntmps42
            go_wp2_with (first
          | (go_at_call 16; (with_reducible refine (HC.out _).mono ?_); rintro e w1 ⟨rfl, hb1⟩; obtain ⟨s0, s1, s2, s3⟩ := HK.out _ hb1)
          | (go_at_call 92; (with_reducible refine (HM1.out _).mono ?_); rintro e w2 ⟨rfl, hb2⟩; have hb2' := hb1.trans (hb2.mono hb1.size); obtain ⟨t0, t1, t2, t3⟩ := HK.out _ hb2')
          | (go_at_call 92; (with_reducible refine (HM2.out _).mono ?_); rintro e w3 ⟨rfl, hb3⟩; have hb3' := hb2'.trans (hb3.mono hb2'.size); obtain ⟨u0, u1, u2, u3⟩ := HK.out _ hb3')
          | (go_at_call 90; (with_reducible refine (HCo.out _).mono ?_); rintro e w4 ⟨A4, c4, rfl, hA4, hb4⟩; have hb4' := hb3'.trans (hb4.mono hb3'.size))
          | (go_at_call 93; (with_reducible refine (HEv.out _ _ _ hA4).mono ?_); rintro e w5 ⟨rfl, hb5⟩; have hb5' := hb4'.trans (hb5.mono hb4'.size); obtain ⟨v0, v1, v2, v3⟩ := HK.out _ hb5'))
            go_quiet (fail)
            go_wp2
            go_ret3
            exact ⟨rfl, below_drewN (below_via hb5') _⟩
          · rw [he] at HEv
            rw [if_pos rfl]
            clear he
            go_enter Tryd.func42, Tryd.ntmps42
            go_wp2_with (first
          | (go_at_call 16; (with_reducible refine (HC.out _).mono ?_); rintro e w1 ⟨rfl, hb1⟩; obtain ⟨s0, s1, s2, s3⟩ := HK.out _ hb1)
          | (go_at_call 92; (with_reducible refine (HM1.out _).mono ?_); rintro e w2 ⟨rfl, hb2⟩; have hb2' := hb1.trans (hb2.mono hb1.size); obtain ⟨t0, t1, t2, t3⟩ := HK.out _ hb2')
          | (go_at_call 92; (with_reducible refine (HM2.out _).mono ?_); rintro e w3 ⟨rfl, hb3⟩; have hb3' := hb2'.trans (hb3.mono hb2'.size); obtain ⟨u0, u1, u2, u3⟩ := HK.out _ hb3')
          | (go_at_call 90; (with_reducible refine (HCo.out _).mono ?_); rintro e w4 ⟨A4, c4, rfl, hA4, hb4⟩; have hb4' := hb3'.trans (hb4.mono hb3'.size))
          | (go_at_call 93; (with_reducible refine (HEv.out _ _ _ hA4).mono ?_); rintro e w5 ⟨rfl, hb5⟩; have hb5' := hb4'.trans (hb5.mono hb4'.size); obtain ⟨v0, v1, v2, v3⟩ := HK.out _ hb5'))
            go_quiet (fail)
            go_wp2
            go_ret3
            exact ⟨rfl, below_drewN (below_via hb5') _⟩
  · have e1 : agaF r c l v = (0, 0, 1) := by unfold agaF; rw [if_neg h0]
    have e2 : canS r c l v = false := by unfold canS cntS; rw [if_neg h0]; rfl
    rw [e1]
    rw [e2, chkS_one h0] at HC
    clear h0 e1 e2
    go_enter Tryd.func42, Tryd.ntmps42
    go_wp2_with (go_at_call 16; (with_reducible refine (HC.out _).mono ?_); rintro e w1 ⟨rfl, hb1⟩)
    go_ret3
    exact ⟨rfl, below_via hb1⟩
end Go.Proofs.YtlollcabnfncpaaDoor
