/-
  Which turns each cell shows; the fewest cells.
-/
import Derived.Test.YtbcbaaapogejiaaDoorCelC
namespace Go.Proofs.YtbcbaaapogejiaaDoor
open Go.RowKit

/-- What a cell shows: of the first k turns. -/
def shOf (F : List (List Int)) (b : List Int) (cell : Nat) : Nat → Nat
  | 0 => 0
  | k + 1 => if b.getD cell 0 = b.getD ((F.getD k []).getD cell 0).toNat 0 then shOf F b cell k else shOf F b cell k ||| 2 ^ k
theorem shOf_lt (F : List (List Int)) (b : List Int) (cell : Nat) : ∀ k, k ≤ 8 → shOf F b cell k < 2 ^ k
  | 0, _ => by simp [shOf]
  | k + 1, h => by
    have ih := shOf_lt F b cell k (by omega)
    have h2 : 2 ^ k < 2 ^ (k + 1) := Nat.pow_lt_pow_right (by omega) (by omega)
    unfold shOf
    split
    · omega
    · exact Nat.or_lt_two_pow (by omega) h2
def shown (F : List (List Int)) (b : List Int) : List Nat := (List.range b.length).map fun cell => shOf F b cell F.length
theorem shOf_256 (F : List (List Int)) (b : List Int) (cell : Nat) {k : Nat} (h : k ≤ 8) : shOf F b cell k < 256 :=
  Nat.lt_of_lt_of_le (shOf_lt F b cell k h) (Nat.le_trans (Nat.pow_le_pow_right (by omega) h) (by decide))
/-- Within a turn: the first cells are done. -/
def shMid (F : List (List Int)) (b : List Int) (k m : Nat) : List Nat := (List.range b.length).map fun cell => if cell < m then shOf F b cell (k + 1) else shOf F b cell k
theorem shMid_zero (F : List (List Int)) (b : List Int) (k : Nat) : shMid F b k 0 = (List.range b.length).map fun cell => shOf F b cell k := by simp [shMid]
theorem shMid_all (F : List (List Int)) (b : List Int) (k : Nat) : shMid F b k b.length = (List.range b.length).map fun cell => shOf F b cell (k + 1) := by
  unfold shMid
  refine List.map_congr_left fun c hc => ?_
  rw [if_pos (List.mem_range.1 hc)]
theorem shMid_get {F : List (List Int)} {b : List Int} {k m : Nat} (h : m < b.length) : (shMid F b k m)[m]? = some (shOf F b m k) := by
  unfold shMid
  rw [List.getElem?_map, List.getElem?_range h]
  simp
theorem shMid_next {F : List (List Int)} {b : List Int} {k m : Nat} (h : m < b.length) : (shMid F b k m).set m (shOf F b m (k + 1)) = shMid F b k (m + 1) := by
  apply List.ext_getElem?
  intro i
  by_cases e : i = m
  · subst e
    rw [List.getElem?_set_self (by simp [shMid]; exact h)]
    unfold shMid
    rw [List.getElem?_map, List.getElem?_range h]
    simp
  · rw [List.getElem?_set_ne (fun h => e h.symm)]
    unfold shMid
    rw [List.getElem?_map, List.getElem?_map]
    by_cases hi : i < b.length
    · rw [List.getElem?_range hi]
      simp only [Option.map_some]
      by_cases h1 : i < m
      · rw [if_pos h1, if_pos (by omega)]
      · rw [if_neg h1, if_neg (by omega)]
    · rw [List.getElem?_eq_none (by simp; omega)]
      rfl
theorem shMid_same {F : List (List Int)} {b : List Int} {k m : Nat} (h : m < b.length) (e : shOf F b m (k + 1) = shOf F b m k) : shMid F b k (m + 1) = shMid F b k m := by
  rw [← shMid_next h, e]
  apply List.ext_getElem?
  intro i
  by_cases e : i = m
  · subst e
    rw [List.getElem?_set_self (by simp [shMid]; exact h), shMid_get h]
  · rw [List.getElem?_set_ne (fun h => e h.symm)]
def setsV (l : List Nat) : List Value := l.map fun n : Nat => Value.int .u8 n
theorem setsV_len (l : List Nat) : (setsV l).length = l.length := by simp [setsV]
theorem setsV_get {l : List Nat} {k n : Nat} (h : l[k]? = some n) : (setsV l)[k]? = some (.int .u8 n) := by simp [setsV, h]
theorem setsV_set (l : List Nat) (k n : Nat) : (setsV l).set k (.int .u8 n) = setsV (l.set k n) := by simp [setsV]
theorem info140 : (Tryd.prog.info? 140).map (fun i => (i.zero, i.size, i.bytes)) = some (some (.int .u8 0), 1, 1) := by kernel_rfl

theorem setsV_zero (F : List (List Int)) (b : List Int) : List.replicate b.length (Value.int .u8 0) = setsV (shMid F b 0 0) := by
  rw [shMid_zero]
  unfold setsV
  rw [List.map_map]
  apply List.ext_getElem?
  intro i
  by_cases h : i < b.length
  · rw [List.getElem?_replicate, if_pos h, List.getElem?_map, List.getElem?_range h]; rfl
  · rw [List.getElem?_replicate, if_neg h, List.getElem?_map, List.getElem?_eq_none (by simp; omega)]; rfl

def RetSets (w : World) (l : List Nat) (e : Ending) (w' : World) : Prop := ∃ A c, e = .returned (.slice A l.length c) ∧ SetsAt w' w'.heap.size A l ∧ Below w.heap.size w w'

set_option maxRecDepth 100000 in
set_option maxHeartbeats 4000000 in
theorem shown_any (R C K : Int) (TA FA : Option Addr) (tc fc : Nat) (T : List Nat) (F : List (List Int)) (A : Option Addr) (c : Nat) (b : List Int) (w : World) (hF : ListsAt w w.heap.size FA F) (hA : IntsAt w w.heap.size A b)
    (hlen : F.length = T.length) (hin : ∀ s ∈ F, s.length = b.length ∧ ∀ i ∈ s, 0 ≤ i ∧ i < (b.length : Nat)) (hb : b.length ≤ 16) (hn : T.length ≤ 8) :
    Calls Tryd.prog 97 #[.agg #[.int .i64 R, .int .i64 C, .int .i64 K, .slice TA T.length tc, .slice FA T.length fc], .slice A b.length c] w (RetSets w (shown F b)) := by
  obtain ⟨i0, hi, hz0, hz1, hz2⟩ := info_parts info140
  have hb1 := below_new w (.cells #[.int .i64 R, .int .i64 C, .int .i64 K, .slice TA T.length tc, .slice FA T.length fc] 115)
  have h4 : (w.alloc (.cells #[.int .i64 R, .int .i64 C, .int .i64 K, .slice TA T.length tc, .slice FA T.length fc] 115)).cell? ⟨w.heap.size, 4, none⟩ = some (.slice FA T.length fc) := by
    rw [cell_of_row _ _ _ _ _ _ (heap_new _ _)]; rfl
  have hs1 : (w.alloc (.cells #[.int .i64 R, .int .i64 C, .int .i64 K, .slice TA T.length tc, .slice FA T.length fc] 115)).heap.size = w.heap.size + 1 := by simp
  have HF := Lib.hid hF
  have HA := Lib.hid hA
  have HI := Lib.hid hin
  have HLE := Lib.hid hlen
  clear hF hA hin hlen
  go_enter Tryd.func97, Tryd.ntmps97
  go_upto_region 1 with fail
  generalize w.alloc (.cells #[.int .i64 R, .int .i64 C, .int .i64 K, .slice TA T.length tc, .slice FA T.length fc] 115) = w1 at *
  go_wp2_with (at_make; go_must (refine wpList_make_full _ rfl _ _ 136 rfl (w.heap.size + 1) 140 i0 (.int .u8 0) 1 Tryd.underlying136 hi hz0 hz1 .i64 .i64 _ _ b.length rfl rfl rfl rfl (by rw [hz2]; omega) (by unfold maxLen; omega) (by omega) ?_); intro w2 hown0 hgrow0; have hb2 := hb1.grown hgrow0 (by omega) (fun g hg => by cases hg); have hs2 := hgrow0.size; have q4 := (World.cell?_of_block (hgrow0.block w.heap.size (by omega) (by simp))).trans h4; rw [show (madeCells (Value.int .u8 0).cells (b.length * 1)).toList = setsV (shMid F b 0 0) from (by rw [Nat.mul_one, show (Value.int .u8 0).cells = #[Value.int .u8 0] from rfl, toList_madeCells_one]; exact setsV_zero F b)] at hown0; rw [hs1] at hown0; clear hgrow0)
  clear h4
  go_loopw [16] (fun i wr => ∃ k : Nat, k ≤ T.length ∧ i = .int .i64 k ∧ wr.ownsRow (w.heap.size + 1) 140 1 (.slice (some ⟨w.heap.size + 1, 0, none⟩) b.length b.length) b.length (setsV (shMid F b k 0)) ∧ Below (w.heap.size + 1) w2 wr) (fun i _ => T.length - (intOf i).toNat)
  case atStart => exact ⟨0, Nat.zero_le _, rfl, hown0, Below.refl _ _⟩
  case round =>
    clear hown0
    obtain ⟨k, hk, rfl, hown, hbw⟩ := hrel
    have hbww := hb2.trans (hbw.mono (by omega))
    by_cases hlt : k < T.length
    · obtain ⟨s, hy⟩ : ∃ s, F[k]? = some s := ⟨_, List.getElem?_eq_getElem (by have := HLE.out; omega)⟩
      obtain ⟨hsl, hsi⟩ := HI.out _ (mem_of_get hy)
      obtain ⟨fb, fo, D, d, rfl, hfb, f1, f2⟩ := (HF.out.up hbww) k _ hy
      have hsd : F.getD k [] = s := by rw [List.getD_eq_getElem?_getD, hy]; rfl
      have HSL := Lib.hid hsl
      have HSD := Lib.hid hsd
      have HSI := Lib.hid hsi
      have f3 := (HF.out.below hb2 (Nat.le_refl _))
      obtain ⟨fb', fo', D', d', e1, hfb', g1, g2⟩ := f3 k _ hy
      have HD := Lib.hid (show IntsAt w2 w.heap.size D s from by
        injection e1 with e1; injection e1 with e2 e3
        subst e2 e3
        have hc := (hbw.cell (p := ⟨fb, fo + k, none⟩) (by show fb < w.heap.size + 1; omega)).trans g1
        rw [f1] at hc
        injection hc with hc
        injection hc with hc1 hc2 hc3
        subst hc1
        exact g2)
      have hki : (k : Int) < (T.length : Int) := by omega
      have hk8 : k < 8 := by omega
      clear f2 f3 e1 hfb' g1 g2 hsl hsd hsi hy
      go_wp2
      go_loopw [23] (fun i wr => ∃ m : Nat, m ≤ s.length ∧ i = .int .i64 m ∧ wr.ownsRow (w.heap.size + 1) 140 1 (.slice (some ⟨w.heap.size + 1, 0, none⟩) b.length b.length) b.length (setsV (shMid F b k m)) ∧ Below (w.heap.size + 1) w2 wr) (fun i _ => s.length - (intOf i).toNat)
      case atStart => exact ⟨0, Nat.zero_le _, rfl, hown, hbw⟩
      case round =>
        clear hown hbw hbww f1
        obtain ⟨m, hm, rfl, hown, hbw⟩ := hrel
        have hbww := hb2.trans (hbw.mono (by omega))
        by_cases hlt2 : m < s.length
        · have hx : s[m]? = some s[m] := List.getElem?_eq_getElem hlt2
          have hxd : s.getD m 0 = s[m] := by rw [List.getD_eq_getElem?_getD, hx]; rfl
          obtain ⟨i1, i2⟩ := HSI.out _ (mem_of_get hx)
          obtain ⟨db, dq, rfl, hdb, d1⟩ := (HD.out.below hbw (by omega)) m _ hx
          have hmb : m < b.length := by have := HSL.out; omega
          have hstep : shOf F b m (k + 1) = if b.getD m 0 = b.getD (s.getD m 0).toNat 0 then shOf F b m k else shOf F b m k ||| 2 ^ k := by rw [shOf, HSD.out]
          rw [hxd] at hstep
          generalize s[m] = y at *
          obtain ⟨u, rfl⟩ : ∃ u : Nat, y = (u : Int) := ⟨y.toNat, by omega⟩
          rw [Int.toNat_natCast] at hstep
          have hu : u < b.length := by omega
          have hxb : b[m]? = some b[m] := List.getElem?_eq_getElem hmb
          have hxu : b[u]? = some b[u] := List.getElem?_eq_getElem hu
          rw [List.getD_eq_getElem?_getD, hxb, List.getD_eq_getElem?_getD, hxu] at hstep
          simp only [Option.getD_some] at hstep
          obtain ⟨ab, ao, rfl, hab, a1⟩ := (HA.out.up hbww) m _ hxb
          obtain ⟨ab', ao', e1, hab', a2⟩ := (HA.out.up hbww) u _ hxu
          obtain ⟨rfl, rfl⟩ : ab = ab' ∧ ao = ao' := by injection e1 with h; injection h with h1 h2; exact ⟨h1, h2⟩
          have hcl := hown.cellAt m (by omega)
          have hfr := hown.frozenAt m
          rw [setsV_get (shMid_get hmb)] at hcl
          have h256 := shOf_256 F b m (k := k) (by omega)
          have hnx := Lib.hid (fun h => shMid_same (F := F) (k := k) hmb h)
          have hnx2 := Lib.hid (shMid_next (F := F) (k := k) hmb)
          clear hx hxd hxb hxu e1 i1 i2
          generalize b[m] = x1 at *
          generalize b[u] = x2 at *
          generalize shOf F b m k = sh at *
          have hmi : (m : Int) < (s.length : Int) := by omega
          have hmbi : (m : Int) < (b.length : Int) := by omega
          have hubi : (u : Int) < (b.length : Int) := by omega
          have hm0 : (0 : Int) ≤ (m : Int) := by omega
          have hu0 : (0 : Int) ≤ (u : Int) := by omega
          by_cases hq : x1 = x2
          · have HN := Lib.hid (hnx.out (by rw [hstep, if_pos hq]))
            have hne : (x1 != x2) = false := by simpa using hq
            clear hstep hq
            go_wp2
            go_quiet (fail)
            go_wp2
            go_roundw
            case rel => exact ⟨m + 1, by omega, by go_num, by rw [HN.out]; exact hown, below_drewN hbw _⟩
            case measure => simp [intOf]; omega
          · have hne : (x1 != x2) = true := by simpa using hq
            rw [if_neg hq] at hstep
            rw [hstep] at hnx2
            have hp8 : 2 ^ k < 256 := Nat.lt_of_lt_of_le (Nat.pow_lt_pow_right (by omega) hk8) (by decide)
            have hsl8 : IntKind.u8.wrap ((2 : Int) ^ k) = ((2 ^ k : Nat) : Int) := by
              have e : ((2 : Int) ^ k) = ((2 ^ k : Nat) : Int) := by norm_cast
              rw [e, IntKind.wrap_u8']
              generalize 2 ^ k = p at *
              omega
            have hor := u8_or_nat sh (2 ^ k) h256 hp8
            clear hstep hq
            have st1 : ∀ n, ((wr.drewN n).setCell ⟨w.heap.size + 1, m, none⟩ (.int .u8 ((sh ||| 2 ^ k : Nat) : Int))).ownsRow (w.heap.size + 1) 140 1 (.slice (some ⟨w.heap.size + 1, 0, none⟩) b.length b.length) b.length (setsV (shMid F b k (m + 1))) := fun n => by
              have st := (World.ownsRow.stored (w := wr.drewN n) hown m (.int .u8 ((sh ||| 2 ^ k : Nat) : Int))).1
              rw [setsV_set, hnx2.out] at st
              exact st
            clear hor
            have hor := Lib.hid (u8_or_nat sh (2 ^ k) h256 hp8)
            go_wp2
            go_quiet (fail)
            go_upto_region 9 with fail
            go_region
            go_wp2
            go_roundw
            case rel =>
              refine ⟨m + 1, by omega, by go_num, ?_, (below_drewN hbw _).setCell (by simp) _⟩
              have horv : bits BinOp.or .u8 (sh : Int) ((2 : Int) ^ k) = ((sh ||| 2 ^ k : Nat) : Int) := by rw [← hor.out]; norm_cast
              rw [horv]
              exact st1 _
            case measure => simp [intOf]; omega
        · have e : m = b.length := by have := HSL.out; omega
          have hE2 : shMid F b k m = shMid F b (k + 1) 0 := by rw [e, shMid_all, ← shMid_zero]
          rw [hE2] at hown
          have hmi : ¬ (m : Int) < (s.length : Int) := by omega
          clear e hE2
          go_wp2
          go_roundw
          case rel => exact ⟨k + 1, by omega, by go_num, hown, hbw⟩
          case measure => simp [intOf]; omega
    · have e : k = T.length := by omega
      have hE : shMid F b k 0 = shown F b := by rw [shMid_zero, shown, HLE.out, e]
      rw [hE] at hown
      have hsl : (shown F b).length = b.length := by simp [shown]
      have HSn := Lib.hid hsl
      have hki : ¬ (k : Int) < (T.length : Int) := by omega
      have hS : SetsAt wr wr.heap.size (some ⟨w.heap.size + 1, 0, none⟩) (shown F b) := by
        intro j n hj
        have hjl : j < b.length := by have := lt_of_get hj; omega
        refine ⟨w.heap.size + 1, 0, rfl, (hown.lt (w.heap.size + 1) rfl).2, ?_⟩
        rw [Nat.zero_add, hown.cellAt j (by omega)]
        exact setsV_get hj
      clear e hE hown hsl
      go_wp2
      go_ret
      exact ⟨_, b.length, by rw [HSn.out]; rfl, hS, hbww⟩
end Go.Proofs.YtbcbaaapogejiaaDoor
