/-
  Whether some turns have the turn 0 and all their products.
-/
import Derived.Test.YtbcbaaapogejiaaDoorTurA
namespace Go.Proofs.YtbcbaaapogejiaaDoor
open Go.RowKit

/-- Turns as numbers of the program. -/
def intsN (T : List Nat) : List Int := T.map (fun n : Nat => (n : Int))
theorem intsN_len (T : List Nat) : (intsN T).length = T.length := by simp [intsN]
theorem intsN_get {T : List Nat} {k t : Nat} (h : T[k]? = some t) : (intsN T)[k]? = some (t : Int) := by simp [intsN, h]

def closedB (T : List Nat) : Bool := T.all (fun a => T.all fun b => T.contains (prodN a b)) && T.contains 0
theorem closedB_no {T : List Nat} {a b : Nat} (ha : a ∈ T) (hb : b ∈ T) (h : prodN a b ∉ T) : closedB T = false := by
  unfold closedB
  rw [Bool.and_eq_false_iff]
  left
  rw [List.all_eq_false]
  refine ⟨a, ha, ?_⟩
  simp only [Bool.not_eq_true, List.all_eq_false]
  exact ⟨b, hb, by simpa using h⟩
theorem closedB_yes {T : List Nat} (h : ∀ a ∈ T, ∀ b ∈ T, prodN a b ∈ T) : closedB T = decide (0 ∈ T) := by
  unfold closedB
  rw [show T.all (fun a => T.all fun b => T.contains (prodN a b)) = true by
    rw [List.all_eq_true]
    intro a ha
    rw [List.all_eq_true]
    intro b hb
    simpa using h a ha b hb]
  simp

/-- Eight yes or no in a block. -/
def HasAt (W : World) (g : Nat) (f : Nat → Bool) : Prop := ∀ j, j < 8 → W.cell? ⟨g, j, none⟩ = some (.bool (f j)) ∧ W.frozen? ⟨g, j, none⟩ = false
theorem HasAt.below {W W' : World} {g : Nat} {f : Nat → Bool} {B : Nat} (h : HasAt W g f) (hb : Below B W W') (hg : g < B) : HasAt W' g f := fun j hj =>
  ⟨(hb.cell (p := ⟨g, j, none⟩) hg).trans (h j hj).1, (hb.frozen (p := ⟨g, j, none⟩) hg).trans (h j hj).2⟩
theorem HasAt.congr {W : World} {g : Nat} {f f' : Nat → Bool} (h : HasAt W g f) (e : ∀ j, j < 8 → f j = f' j) : HasAt W g f' := fun j hj => by rw [← e j hj]; exact h j hj
theorem HasAt.set {W : World} {g : Nat} {f : Nat → Bool} (h : HasAt W g f) (t : Nat) : HasAt (W.setCell ⟨g, t, none⟩ (.bool true)) g (fun j => if j = t then true else f j) := by
  intro j hj
  obtain ⟨h1, h2⟩ := h j hj
  refine ⟨?_, ?_⟩
  · by_cases e : j = t
    · subst e
      simp only [if_true]
      exact World.cell?_setCell_same _ _ _ h1
    · simp only [if_neg e]
      rw [World.cell?_setCell_other _ _ _ _ (fun e' => e (by injection e' with _ e'; exact e'.symm))]
      exact h1
  · rw [World.frozen?_setCell]
    exact h2

set_option maxRecDepth 100000 in
set_option maxHeartbeats 8000000 in
theorem closed_any (A : Option Addr) (c : Nat) (T : List Nat) (w : World) (hm : MovW w) (hA : IntsAt w w.heap.size A (intsN T)) (hT : ∀ t ∈ T, t < 8) (hn : T.length < 1000) :
    Calls Tryd.prog 72 #[.slice A T.length c] w fun e w' => e = .returned (.bool (closedB T)) ∧ Below w.heap.size w w' := by
  have HA := Lib.hid hA
  have HM := Lib.hid hm
  have HT := Lib.hid hT
  have h0 := hm.1
  clear hA hm hT
  go_enter Tryd.func72, Tryd.ntmps72
  have HZ : HasAt (w.alloc (.cells #[.bool false, .bool false, .bool false, .bool false, .bool false, .bool false, .bool false, .bool false] 171)) w.heap.size (fun j => decide (j ∈ T.take 0)) := by
    intro j hj
    have hh := cell_of_row (w.alloc (.cells #[.bool false, .bool false, .bool false, .bool false, .bool false, .bool false, .bool false, .bool false] 171)) w.heap.size j _ _ _ (heap_new w _)
    refine ⟨?_, ?_⟩
    · rw [hh]
      rcases j with _ | _ | _ | _ | _ | _ | _ | _ | j
      all_goals first | rfl | omega
    · simp [go_sem]
  have hb1 := below_new w (.cells #[.bool false, .bool false, .bool false, .bool false, .bool false, .bool false, .bool false, .bool false] 171)
  have hs1 : w.heap.size < (w.alloc (.cells #[.bool false, .bool false, .bool false, .bool false, .bool false, .bool false, .bool false, .bool false] 171)).heap.size := by simp
  go_upto_region 2 with fail
  generalize w.alloc (.cells #[.bool false, .bool false, .bool false, .bool false, .bool false, .bool false, .bool false, .bool false] 171) = w1 at *
  go_wp2
  go_loopw [12] (fun i wr => ∃ k : Nat, k ≤ T.length ∧ i = .int .i64 k ∧ HasAt wr w.heap.size (fun j => decide (j ∈ T.take k)) ∧ Below w.heap.size w wr ∧ w.heap.size < wr.heap.size) (fun i _ => T.length - (intOf i).toNat)
  case atStart => exact ⟨0, Nat.zero_le _, rfl, HZ, hb1, hs1⟩
  case round =>
    obtain ⟨k, hk, rfl, hH, hbr, hsr⟩ := hrel
    by_cases hlt : k < T.length
    · have hx : T[k]? = some T[k] := List.getElem?_eq_getElem hlt
      have ht8 := HT.out _ (mem_of_get hx)
      have htk := take_snoc hx
      obtain ⟨b, off, rfl, hb, d⟩ := (HA.out.below hbr (Nat.le_refl _)) k _ (intsN_get hx)
      have hH2 := (hH.set T[k]).congr (f' := fun j => decide (j ∈ T.take (k + 1))) (fun j hj => by
        simp only [htk, List.mem_append, List.mem_singleton]
        by_cases e : j = T[k]
        · simp [e]
        · simp [e])
      obtain ⟨g1, g2⟩ := hH _ ht8
      clear hx htk
      generalize T[k] = t at *
      have hki : (k : Int) < (T.length : Int) := by omega
      have hti : (t : Int) < 8 := by omega
      have hti0 : (0 : Int) ≤ (t : Int) := by omega
      go_wp2
      go_roundw
      case rel => exact ⟨k + 1, by omega, by go_num, hH2, hbr.setCell (Nat.le_refl _) _, by simpa using hsr⟩
      case measure => simp [intOf]; omega
    · have e : k = T.length := by omega
      have hki : ¬ (k : Int) < (T.length : Int) := by omega
      rw [e, List.take_length] at hH
      clear e
      have HH := Lib.hid hH
      have HB := Lib.hid hbr
      clear hH hb1 HZ hs1
      go_wp2
      generalize wr = w2 at *
      go_loopw [21] (fun i wr => ∃ k : Nat, k ≤ T.length ∧ i = .int .i64 k ∧ Hid (∀ a ∈ T.take k, ∀ b ∈ T, prodN a b ∈ T) ∧ Below w2.heap.size w2 wr) (fun i _ => T.length - (intOf i).toNat)
      case atStart => exact ⟨0, Nat.zero_le _, rfl, Lib.hid (by simp), Below.refl _ _⟩
      case round =>
        obtain ⟨i, hi, rfl, HI, hbi⟩ := hrel
        by_cases hlt2 : i < T.length
        · have hx : T[i]? = some T[i] := List.getElem?_eq_getElem hlt2
          have ha8 := HT.out _ (mem_of_get hx)
          have hta := take_snoc hx
          have hma := mem_of_get hx
          obtain ⟨b, off, hAe, hb, d⟩ := (HA.out.below (HB.out.trans (hbi.mono HB.out.size)) (Nat.le_refl _)) i _ (intsN_get hx)
          subst hAe
          clear hx
          generalize T[i] = a at *
          have hki2 : (i : Int) < (T.length : Int) := by omega
          have HTA := Lib.hid hta
          clear hta
          go_wp2
          go_loopw [27] (fun i wr => ∃ k : Nat, k ≤ T.length ∧ i = .int .i64 k ∧ Hid (∀ b ∈ T.take k, prodN a b ∈ T) ∧ Below w2.heap.size w2 wr) (fun i _ => T.length - (intOf i).toNat)
          case atStart => exact ⟨0, Nat.zero_le _, rfl, Lib.hid (by simp), hbi⟩
          case round =>
            clear hbi d
            obtain ⟨j, hj, rfl, HJ, hbj⟩ := hrel
            have HBw := Lib.hid (HB.out.trans (hbj.mono HB.out.size))
            by_cases hlt3 : j < T.length
            · have hx : T[j]? = some T[j] := List.getElem?_eq_getElem hlt3
              have hb8 := HT.out _ (mem_of_get hx)
              have htb := take_snoc hx
              have hmb := mem_of_get hx
              obtain ⟨b', off', hAe, hb', d⟩ := (HA.out.below HBw.out (Nat.le_refl _)) j _ (intsN_get hx)
              obtain ⟨rfl, rfl⟩ : b = b' ∧ off = off' := by injection hAe with h; injection h with h1 h2; exact ⟨h1, h2⟩
              clear hx hAe
              generalize T[j] = b2 at *
              have hkj2 : (j : Int) < (T.length : Int) := by omega
              have HTB := Lib.hid htb
              clear htb
              have HPr := Lib.hid (product_any a b2 wr (HM.out.below HBw.out) ha8 hb8)
              have hp8 := prodN_lt a ha8 b2 hb8
              by_cases hin : prodN a b2 ∈ T
              · have HN := Lib.hid (show ∀ b ∈ T.take (j + 1), prodN a b ∈ T by
                  rw [HTB.out]
                  intro b hb
                  rcases List.mem_append.1 hb with h | h
                  · exact HJ.out b h
                  · rw [List.mem_singleton.1 h]; exact hin)
                have hH3 := Lib.hid (fun (W : World) (hW : Below wr.heap.size wr W) => show W.cell? ⟨w.heap.size, prodN a b2, none⟩ = some (.bool true) from by
                  have h1 := ((HH.out.below hbj hsr).below hW (Nat.lt_of_lt_of_le hsr hbj.size) _ hp8).1
                  rw [h1]; simp [hin])
                clear hin
                generalize prodN a b2 = p at *
                have hpi : (p : Int) < 8 := by omega
                have hpi0 : (0 : Int) ≤ (p : Int) := by omega
                go_wp2_with (go_at_call 68; refine (HPr.out).mono ?_; rintro e w3 ⟨rfl, hb3⟩; have g3 := hH3.out _ hb3)
                go_roundw
                case rel => exact ⟨j + 1, by omega, by go_num, HN, hbj.trans (hb3.mono hbj.size)⟩
                case measure => simp [intOf]; omega
              · have HF := Lib.hid (closedB_no hma hmb hin)
                have hH3 := Lib.hid (fun (W : World) (hW : Below wr.heap.size wr W) => show W.cell? ⟨w.heap.size, prodN a b2, none⟩ = some (.bool false) from by
                  have h1 := ((HH.out.below hbj hsr).below hW (Nat.lt_of_lt_of_le hsr hbj.size) _ hp8).1
                  rw [h1]; simp [hin])
                clear hin
                generalize prodN a b2 = p at *
                have hpi : (p : Int) < 8 := by omega
                have hpi0 : (0 : Int) ≤ (p : Int) := by omega
                go_wp2_with (go_at_call 68; refine (HPr.out).mono ?_; rintro e w3 ⟨rfl, hb3⟩; have g3 := hH3.out _ hb3)
                go_ret
                exact ⟨by rw [HF.out]; rfl, HBw.out.trans (hb3.mono HBw.out.size)⟩
            · have hkj2 : ¬ (j : Int) < (T.length : Int) := by omega
              have HN := Lib.hid (show ∀ a' ∈ T.take (i + 1), ∀ b ∈ T, prodN a' b ∈ T by
                rw [HTA.out]
                intro a' ha' b hb
                rcases List.mem_append.1 ha' with h | h
                · exact HI.out a' h b hb
                · rw [List.mem_singleton.1 h]
                  have := HJ.out b
                  rw [List.take_of_length_le (by omega)] at this
                  exact this hb)
              go_wp2
              go_roundw
              case rel => exact ⟨i + 1, by omega, by go_num, HN, hbj⟩
              case measure => simp [intOf]; omega
        · have hki2 : ¬ (i : Int) < (T.length : Int) := by omega
          have HF := Lib.hid (closedB_yes (T := T) (by
            have := HI.out
            rw [List.take_of_length_le (by omega)] at this
            exact this))
          obtain ⟨g1, g2⟩ := (HH.out.below hbi hsr) 0 (by decide)
          clear HI
          go_wp2
          go_ret
          exact ⟨by rw [HF.out]; rfl, HB.out.trans (hbi.mono HB.out.size)⟩
end Go.Proofs.YtbcbaaapogejiaaDoor
