/-
  A list of cards that is kept in a variable; slices.Equal of cards.
-/
import Derived.Test.YtlollcabnfncpaaDoorLibA
import Derived.Test.YtlollcabnfncpaaDoorChg
import Derived.Test.YtlollcabnfncpaaDoorWkA
namespace Go.Proofs.YtlollcabnfncpaaDoor
open Go.RowKit

/-- A list of cards is kept in a variable; its row is none of some other blocks. -/
def KeptAt (W : World) (g : Nat) (l : List Cd) (B N : Nat → Prop) : Prop := (∃ v base, (W.cell? ⟨g, 0, none⟩ = some v ∧ W.frozen? ⟨g, 0, none⟩ = false) ∧ W.ownsRow base 69 3 v l.length (ccells l) ∧ ∀ i, v.ownBlock = some i → B i ∧ ¬ N i) ∧ B g
theorem KeptAt.chg {W W' : World} {g : Nat} {l : List Cd} {B N Q : Nat → Prop} (h : KeptAt W g l B N) (hc : Chg Q W W') (hq : ∀ i, B i → ¬ N i → ¬ Q i) (hn : ¬ N g) : KeptAt W' g l B N := by
  obtain ⟨⟨v, base, ⟨h1, h2⟩, h3, h4⟩, h5⟩ := h
  have hg := lt_of_cell h1
  exact ⟨⟨v, base, ⟨(hc.cell (p := ⟨g, 0, none⟩) hg (hq g h5 hn)).trans h1, (hc.frozen (p := ⟨g, 0, none⟩) hg (hq g h5 hn)).trans h2⟩, hc.own h3 (fun i hi => hq i (h4 i hi).1 (h4 i hi).2), h4⟩, h5⟩

theorem fields69 : (Tryd.prog.fieldsOf 69).toList.length = 3 := by kernel_rfl
theorem eq69 : Tryd.prog.underlying 69 = some (.struct (Tryd.prog.fieldsOf 69)) := by
  unfold Program.fieldsOf
  rw [Tryd.underlying69]
theorem stood69 : Tryd.prog.stoodInHeld 69 = false := by kernel_rfl
theorem neq69 (x y : Cd) (w : World) : (binOp .neq 69 (.agg #[.int .i64 x.row, .int .i64 x.col, .bool x.t]) (.agg #[.int .i64 y.row, .int .i64 y.col, .bool y.t])).run Tryd.prog w = .ok (.bool (decide (x ≠ y))) w := by
  obtain ⟨a, b, t⟩ := x
  obtain ⟨a', b', t'⟩ := y
  have e : (!(a == a' && (b == b' && t == t'))) = decide (Cd.mk a b t ≠ ⟨a', b', t'⟩) := by
    by_cases h1 : a = a'
    · by_cases h2 : b = b'
      · by_cases h3 : t = t'
        · simp [h1, h2, h3]
        · simp [h1, h2, h3]
      · simp [h2]
    · simp [h1]
  rw [run_neq_struct, run_equalIn_agg w 9999 69 _ _ eq69 stood69, ← e]
  unfold Program.fieldsOf
  rw [Tryd.underlying69]
  simp [Op.eqFields, go_sem, Tryd.underlying3, Tryd.underlying4]
  by_cases h1 : a = a' <;> by_cases h2 : b = b' <;> by_cases h3 : t = t' <;> simp [h1, h2, h3]

set_option maxRecDepth 100000 in
set_option maxHeartbeats 4000000 in
theorem equal_any (A D : Option Addr) (c d : Nat) (l m : List Cd) (w : World) (hl : l.length < 1000000) (hA : CardsAt w w.heap.size A l) (hD : CardsAt w w.heap.size D m) :
    Calls Tryd.prog 49 #[.slice A l.length c, .slice D m.length d] w fun e w' => e = .returned (.bool (decide (l = m))) ∧ Below w.heap.size w w' := by
  by_cases hlm : l.length = m.length
  rotate_left
  · rw [decide_eq_false (fun h => hlm (by rw [h]))]
    have hlm' : ((l.length : Int) != (m.length : Int)) = true := by simpa using (by omega : ¬ (l.length : Int) = m.length)
    clear hlm
    go_enter Tryd.func49, Tryd.ntmps49
    go_wp2
    go_ret
    exact ⟨rfl, Below.refl _ _⟩
  have hlm' : ((l.length : Int) != (m.length : Int)) = false := by simpa using (by omega : (l.length : Int) = m.length)
  have HLM := Lib.hid hlm
  have hneq := neq69
  clear hlm
  go_enter Tryd.func49, Tryd.ntmps49
  go_wp2
  clear hlm'
  go_loopw [13] (fun i wr => ∃ k : Nat, k ≤ l.length ∧ i = .int .i64 k ∧ Hid (l.take k = m.take k) ∧ Below w.heap.size w wr) (fun i _ => l.length - (intOf i).toNat)
  case atStart => exact ⟨0, Nat.zero_le _, rfl, Lib.hid rfl, Below.refl _ _⟩
  case round =>
    obtain ⟨k, hk, rfl, HK, hbw⟩ := hrel
    by_cases hlt : k < l.length
    · have hlt2 : k < m.length := by have := HLM.out; omega
      have hx : l[k]? = some l[k] := List.getElem?_eq_getElem hlt
      have hy : m[k]? = some m[k] := List.getElem?_eq_getElem hlt2
      have ht1 : l.take (k + 1) = l.take k ++ [l[k]] := List.take_succ_eq_append_getElem hlt
      have ht2 : m.take (k + 1) = m.take k ++ [m[k]] := List.take_succ_eq_append_getElem hlt2
      generalize l[k] = x at hx ht1
      generalize m[k] = y at hy ht2
      obtain ⟨b1, o1, rfl, hb1, g1, g2, g3⟩ := (hA.below hbw (Nat.le_refl _)) k x hx
      obtain ⟨b2, o2, rfl, hb2, k1, k2, k3⟩ := (hD.below hbw (Nat.le_refl _)) k y hy
      have hki : (k : Int) < (l.length : Int) := by omega
      have hkj : (k : Int) < (m.length : Int) := by omega
      have hk0 : (0 : Int) ≤ (k : Int) := by omega
      by_cases hxy : x = y
      · have HT := Lib.hid (show l.take (k + 1) = m.take (k + 1) by rw [ht1, ht2, HK.out, hxy])
        have hne : decide (x ≠ y) = false := by simp [hxy]
        clear hx hy ht1 ht2 hxy
        go_wp2
        go_quiet (fail)
        go_wp2
        go_roundw
        case rel => exact ⟨k + 1, by omega, by go_num, HT, below_drewN hbw _⟩
        case measure => simp [intOf]; omega
      · have HT := Lib.hid (take_ne hx hy hxy)
        have hne : decide (x ≠ y) = true := by simp [hxy]
        clear hx hy ht1 ht2 hxy
        go_wp2
        go_quiet (fail)
        go_wp2
        go_ret
        exact ⟨by rw [decide_eq_false HT.out]; rfl, below_drewN hbw _⟩
    · have e : l.take k = l := List.take_of_length_le (by omega)
      have e2 : m.take k = m := List.take_of_length_le (by have := HLM.out; omega)
      have HE := Lib.hid (show l = m by rw [← e, ← e2, HK.out])
      clear e e2
      go_wp2
      go_ret
      exact ⟨by rw [decide_eq_true HE.out]; rfl, hbw⟩

end Go.Proofs.YtlollcabnfncpaaDoor
