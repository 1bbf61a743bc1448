/-
  The library's CompactFunc of lists of lists.
-/
import Derived.Test.YtbcbaaapogejiaaDoorLibB
import Derived.Lib.SliceRun
import Derived.Deep.LoopGhost
import Derived.Laws.IdiomCopy
namespace Go.Proofs.YtbcbaaapogejiaaDoor
open Go.RowKit

/-- Neighbours that are equal are left out: behind an element, and of a list. -/
def cmp1 (f : Nat → List Int) : Nat → List Nat → List Nat
  | _, [] => []
  | p, x :: r => if f x = f p then cmp1 f x r else x :: cmp1 f x r
def compF (f : Nat → List Int) : List Nat → List Nat
  | [] => []
  | x :: r => x :: cmp1 f x r

/-- Values that lie in a row of one block, and can be written. -/
def RowAt (W : World) (g : Nat) (vs : List Value) : Prop := ∀ j u, vs[j]? = some u → W.cell? ⟨g, j, none⟩ = some u ∧ W.frozen? ⟨g, j, none⟩ = false
theorem RowAt.set {W : World} {g : Nat} {vs : List Value} (h : RowAt W g vs) (k : Nat) (u : Value) (hk : k < vs.length) : RowAt (W.setCell ⟨g, k, none⟩ u) g (vs.set k u) := by
  intro j x hx
  by_cases e : j = k
  · subst e
    have hx' : u = x := by simpa [hk] using hx
    subst hx'
    obtain ⟨h1, h2⟩ := h j _ (List.getElem?_eq_getElem hk)
    exact ⟨World.cell?_setCell_same _ _ _ h1, by rw [World.frozen?_setCell]; exact h2⟩
  · rw [List.getElem?_set_ne (fun h => e h.symm)] at hx
    obtain ⟨h1, h2⟩ := h j x hx
    exact ⟨(World.cell?_setCell_other _ _ _ _ (fun e' => e (by injection e' with _ e'; exact e'.symm))).trans h1, by rw [World.frozen?_setCell]; exact h2⟩
theorem RowAt.drewN {W : World} {g : Nat} {vs : List Value} (h : RowAt W g vs) (n : Nat) : RowAt (W.drewN n) g vs := h

theorem chg_setCells (g : Nat) : ∀ (vs : List Value) (o : Nat) (w : World), Chg (fun i => i = g) w (w.setCells g o vs)
  | [], _, w => Chg.refl _ w
  | v :: vs, o, w => (Chg.store w ⟨g, o, none⟩ v).trans (chg_setCells g vs (o + 1) _) (fun _ _ h => h)

theorem zero22 : ∀ w, (zeroValue 22).run Tryd.prog w = .ok (.slice none 0 0) w := fun w => by kernel_rfl

set_option maxRecDepth 100000 in
set_option maxHeartbeats 8000000 in
theorem compact_any (enc : Nat → Value) (f : Nat → List Int) (g cap : Nat) (l : List Nat) (w : World) (hE : ∀ x, ∃ A c, enc x = .slice A (f x).length c ∧ IntsAt w w.heap.size A (f x) ∧ (∀ ad, A = some ad → ad.block ≠ g) ∧ (f x).length < 1000000)
    (hR : RowAt w g (l.map enc)) (_hg : g < w.heap.size) (hn : l.length < 1000) (hcap : l.length ≤ cap) (_ : cap ≤ 9223372036854775807) :
    Calls Tryd.prog 125 #[.slice (some ⟨g, 0, none⟩) l.length cap, .func (.func 95) #[] #[]] w fun e w' => e = .returned (.slice (some ⟨g, 0, none⟩) (compF f l).length cap) ∧ (∀ j x, (compF f l)[j]? = some x → w'.cell? ⟨g, j, none⟩ = some (enc x)) ∧ Chg (fun i => i = g) w w' := by
  have HE := Lib.hid hE
  have HR := Lib.hid hR
  have HF := Lib.hid (fun x y W (hc : Chg (fun i => i = g) w W) => show Calls Tryd.prog 95 #[enc x, enc y] W fun e w' => e = .returned (.bool (decide (f x = f y))) ∧ ∃ q, w' = W.drewN q from by
    obtain ⟨A, c, h1, h2, h3, h4⟩ := hE x
    obtain ⟨D, d, k1, k2, k3, k4⟩ := hE y
    rw [h1, k1]
    exact equal_any A D c d (f x) (f y) W h4 W.heap.size (h2.chg hc h3) (k2.chg hc k3))
  clear hE hR
  by_cases h2 : l.length < 2
  · have e : compF f l = l := by
      rcases l with _ | ⟨x, _ | ⟨y, r⟩⟩
      · rfl
      · rfl
      · simp at h2; omega
    rw [e]
    have h2i : (l.length : Int) < 2 := by omega
    clear e
    go_enter Tryd.func125, Tryd.ntmps125
    go_wp2
    go_ret
    exact ⟨rfl, fun j x hx => (HR.out j _ (by simp [hx])).1, Chg.refl _ _⟩
  · have h2i : ¬ (l.length : Int) < 2 := by omega
    have h2j : (2 : Int) ≤ (l.length : Int) := by omega
    go_enter Tryd.func125, Tryd.ntmps125
    go_wp2
    go_loopg [5] l.length (fun gh s5 wr => ∃ k q : Nat, 1 ≤ k ∧ k ≤ l.length ∧ l.length - k ≤ gh ∧ s5 = .int .i64 k ∧ wr = w.drewN q ∧ ∃ p, l[k - 1]? = some p ∧ Hid (compF f l = l.take k ++ cmp1 f p (l.drop k)))
    case atStart => exact ⟨1, 0, Nat.le_refl _, by omega, by omega, rfl, rfl, by
      rcases l with _ | ⟨x, r⟩
      · simp at h2
      · exact ⟨x, rfl, Lib.hid rfl⟩⟩
    case round =>
      obtain ⟨k, q, hk1, hk, hgk, rfl, rfl, p, hp, HC⟩ := hrel
      by_cases hlt : k < l.length
      · have hx : l[k]? = some l[k] := List.getElem?_eq_getElem hlt
        have HX := Lib.hid hx
        have e1 := HC.out
        rw [drop_cons hx] at e1
        obtain ⟨c1, _⟩ := HR.out k _ (by rw [List.getElem?_map, hx]; rfl)
        obtain ⟨c0, _⟩ := HR.out (k - 1) _ (by rw [List.getElem?_map, hp]; rfl)
        have hki : (k : Int) < (l.length : Int) := by omega
        have hk0 : (0 : Int) ≤ (k : Int) := by omega
        have hk1i : (1 : Int) ≤ (k : Int) := by omega
        have ek : IntKind.i64.wrap ((k : Int) - 1) = ((k - 1 : Nat) : Int) := (IntWalk.i64_in _ (by omega)).trans (by omega)
        have hkm0 : (0 : Int) ≤ ((k - 1 : Nat) : Int) := by omega
        have hkm : ((k - 1 : Nat) : Int) < (l.length : Int) := by omega
        generalize l[k] = x at *
        have hcq : Chg (fun i => i = g) w (w.drewN q) := Chg.of_below (below_drewN (Below.refl _ _) q)
        have HQ := Lib.hid (fun W (h : Chg (fun i => i = g) w W) => HF.out x p W h)
        by_cases hdup : f x = f p
        · have e2 : compF f l = l.take k ++ cmp1 f x (l.drop (k + 1)) := e1.trans (by rw [cmp1, if_pos hdup])
          have HC2 := Lib.hid e2
          rw [decide_eq_true hdup] at HQ
          clear e1 e2 hdup hp hx
          go_wp2_with fail
          go_quiet (first | (go_at_call 95; refine (HQ.out _ (Chg.of_below (below_drewN (Below.refl _ _) _))).mono ?_; rintro e w1 ⟨rfl, q1, rfl⟩; exact ⟨rfl, _, by rw [World.drewN_drewN, Nat.add_assoc]⟩))
          go_wp2
          go_loopg [5, 7] l.length (fun gh s5 s7 wr => ∃ (kk k2 : Nat) (dl : List Nat) (p : Nat), s5 = .int .i64 kk ∧ s7 = .int .i64 k2 ∧ 1 ≤ k2 ∧ k + k2 ≤ l.length ∧ l.length - (k + k2) ≤ gh ∧ RowAt wr g (dl.map enc) ∧ dl.length = l.length ∧ Chg (fun i => i = g) w wr ∧ Hid (∀ j, kk ≤ j → dl[j]? = l[j]?) ∧ kk < k + k2 ∧ l[k + k2 - 1]? = some p ∧ Hid (compF f l = dl.take kk ++ cmp1 f p (l.drop (k + k2))))
          case atStart => exact ⟨k, 1, l, x, rfl, rfl, Nat.le_refl _, by omega, by omega, HR.out.drewN _, rfl, Chg.of_below (below_drewN (Below.refl _ _) _), Lib.hid (fun _ _ => rfl), by omega, by rw [Nat.add_sub_cancel]; exact HX.out, HC2⟩
          case round =>
            obtain ⟨kk, k2, dl, p2, rfl, rfl, h1, hle, hg2, hRw, hdl, hcw, HJ, hkk, hp2, HC3⟩ := hrel
            by_cases hlt2 : k + k2 < l.length
            · have hx2 : l[k + k2]? = some l[k + k2] := List.getElem?_eq_getElem hlt2
              have e1 := HC3.out
              rw [drop_cons hx2] at e1
              have HX2 := Lib.hid hx2
              obtain ⟨cm, _⟩ := hRw (k + k2) _ (by rw [List.getElem?_map, HJ.out _ (by omega), hx2]; rfl)
              obtain ⟨cp, _⟩ := hRw (k + k2 - 1) _ (by rw [List.getElem?_map, HJ.out _ (by omega), hp2]; rfl)
              rw [show k + k2 - 1 = k + (k2 - 1) by omega] at cp
              have hkd : kk < (dl.map enc).length := by rw [List.length_map]; omega
              obtain ⟨ck, fk⟩ := hRw kk _ (List.getElem?_eq_getElem hkd)
              generalize (dl.map enc)[kk] = old at ck
              generalize l[k + k2] = u at *
              have HQ2 := Lib.hid (fun W (h : Chg (fun i => i = g) w W) => HF.out u p2 W h)
              have hb1 : (k2 : Int) < ((l.length - k : Nat) : Int) := by omega
              have hb0 : (0 : Int) ≤ (k2 : Int) := by omega
              have hb2 : (1 : Int) ≤ (k2 : Int) := by omega
              have hb3 : IntKind.i64.wrap ((k2 : Int) - 1) = ((k2 - 1 : Nat) : Int) := (IntWalk.i64_in _ (by omega)).trans (by omega)
              have hb4 : (0 : Int) ≤ ((k2 - 1 : Nat) : Int) := by omega
              have hb5 : ((k2 - 1 : Nat) : Int) < ((l.length - k : Nat) : Int) := by omega
              have hkl : (kk : Int) < (l.length : Int) := by omega
              have HR3 := Lib.hid hRw
              clear hx2 hp2
              by_cases hq : f u = f p2
              · have HC4 := Lib.hid (show compF f l = dl.take kk ++ cmp1 f u (l.drop (k + k2 + 1)) from e1.trans (by rw [cmp1, if_pos hq]))
                rw [decide_eq_true hq] at HQ2
                clear e1 hq hRw
                go_wp2_with fail
                go_quiet (first | (go_at_call 95; refine (HQ2.out _ (hcw.then_below (below_drewN (Below.refl _ _) _))).mono ?_; rintro e w1 ⟨rfl, q1', rfl⟩; exact ⟨rfl, _, by rw [World.drewN_drewN]⟩))
                go_wp2
                go_roundg (l.length - (k + (k2 + 1)))
                case measure => omega
                case rel => exact ⟨kk, k2 + 1, dl, u, rfl, by go_num, by omega, by omega, Nat.le_refl _, HR3.out.drewN _, hdl, hcw.then_below (below_drewN (Below.refl _ _) _), HJ, by omega, by rw [show k + (k2 + 1) - 1 = k + k2 by omega]; exact HX2.out, HC4⟩
              · have HC4 := Lib.hid (show compF f l = (dl.set kk u).take (kk + 1) ++ cmp1 f u (l.drop (k + k2 + 1)) from e1.trans (by
                  rw [cmp1, if_neg hq, List.take_succ_eq_append_getElem (by simp; omega)]
                  simp [List.take_set_of_le]))
                rw [decide_eq_false hq] at HQ2
                obtain ⟨UA, uc, hu1, _⟩ := HE.out u
                rw [hu1] at cm HQ2
                have HU := Lib.hid hu1
                clear e1 hq hRw hu1
                go_wp2_with fail
                go_quiet (first | (go_at_call 95; refine (HQ2.out _ (hcw.then_below (below_drewN (Below.refl _ _) _))).mono ?_; rintro e w1 ⟨rfl, q1', rfl⟩; exact ⟨rfl, _, by rw [World.drewN_drewN]⟩))
                go_wp2
                go_roundg (l.length - (k + (k2 + 1)))
                case measure => omega
                case rel =>
                  refine ⟨kk + 1, k2 + 1, dl.set kk u, u, by go_num, by go_num, by omega, by omega, Nat.le_refl _, ?_, by simpa using hdl, ?_, Lib.hid (fun j hj => by rw [List.getElem?_set_ne (by omega)]; exact HJ.out j (by omega)), by omega, by rw [show k + (k2 + 1) - 1 = k + k2 by omega]; exact HX2.out, HC4⟩
                  · rw [List.map_set, HU.out]
                    exact (HR3.out.drewN _).set kk _ hkd
                  · exact (hcw.then_below (below_drewN (Below.refl _ _) _)).trans (Chg.store _ _ _) (fun _ _ h => h)
            · have hend : k + k2 = l.length := by omega
              have e1 := HC3.out
              rw [List.drop_of_length_le (by omega), cmp1, List.append_nil] at e1
              have HL := Lib.hid e1
              have hcl : ∀ ty, (Builtin.clear_ #[43] ty #[.slice (some ⟨g, kk, none⟩) (l.length - kk) (cap - kk)]).run Tryd.prog wr = .ok (.tuple #[]) (wr.setCells g kk (List.replicate (l.length - kk) (.slice none 0 0))) :=
                fun ty => Lib.run_clear_slice wr 43 22 ty _ Tryd.underlying43 zero22 rfl rfl g kk _ _ (by omega) (fun j hj => by
                  have hjd : kk + j < (dl.map enc).length := by rw [List.length_map]; omega
                  rw [(hRw (kk + j) _ (List.getElem?_eq_getElem hjd)).1]; rfl) (fun j hj => by
                  have hjd : kk + j < (dl.map enc).length := by rw [List.length_map]; omega
                  exact (hRw (kk + j) _ (List.getElem?_eq_getElem hjd)).2)
              have HR3 := Lib.hid hRw
              have hb1 : ¬ (k2 : Int) < ((l.length - k : Nat) : Int) := by omega
              have hkl : (kk : Int) ≤ (l.length : Int) := by omega
              clear e1 hp2 hRw
              go_wp2
              go_ret
              have hlen : (compF f l).length = kk := by rw [HL.out, List.length_take]; omega
              refine ⟨by rw [hlen]; rfl, fun j y hy => ?_, hcw.trans (chg_setCells g _ _ _) (fun _ _ h => h)⟩
              have hj : j < kk := by have := lt_of_get hy; omega
              rw [World.cell?_setCells_out g _ _ _ _ (fun _ _ => .inl hj)]
              rw [HL.out, List.getElem?_take_of_lt hj] at hy
              exact (HR3.out j _ (by rw [List.getElem?_map, hy]; rfl)).1
        · have HC2 := Lib.hid (show compF f l = l.take (k + 1) ++ cmp1 f x (l.drop (k + 1)) from e1.trans (by rw [cmp1, if_neg hdup, take_snoc hx, List.append_assoc]; rfl))
          rw [decide_eq_false hdup] at HQ
          clear e1 hdup hp hx
          go_wp2_with fail
          go_quiet (first | (go_at_call 95; refine (HQ.out _ (Chg.of_below (below_drewN (Below.refl _ _) _))).mono ?_; rintro e w1 ⟨rfl, q1, rfl⟩; exact ⟨rfl, _, by rw [World.drewN_drewN, Nat.add_assoc]⟩))
          go_wp2
          go_roundg (l.length - (k + 1))
          case measure => omega
          case rel => exact ⟨k + 1, _, by omega, by omega, Nat.le_refl _, by go_num, rfl, x, by rw [Nat.add_sub_cancel]; exact HX.out, HC2⟩
      · have e : k = l.length := by omega
        subst e
        have e1 := HC.out
        rw [List.drop_of_length_le (Nat.le_refl _), List.take_length, cmp1, List.append_nil] at e1
        have HL := Lib.hid e1
        clear e1 hp
        go_wp2
        go_ret
        exact ⟨by rw [HL.out]; rfl, fun j y hy => by rw [HL.out] at hy; exact (HR.out j _ (by simp [hy])).1, Chg.of_below (below_drewN (Below.refl _ _) q)⟩
end Go.Proofs.YtbcbaaapogejiaaDoor
