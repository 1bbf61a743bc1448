/-
  The walk of the gaps between spans.
-/
import Derived.Test.YtlollcabnfncpaaDoorBlk
namespace Go.Proofs.YtlollcabnfncpaaDoor
open Go.RowKit

/-- No span of a list is divided at a place. -/
def free' (sp : List (Int × Int)) (at' : Int) : Bool := sp.all fun p => !(decide (p.1 < at') && decide (at' < p.2))
theorem free_take {sp : List (Int × Int)} {at' : Int} (h : free' (sp.take sp.length) at' = true) : free' sp at' = true := by rwa [List.take_length] at h
theorem free_snoc {sp : List (Int × Int)} {at' : Int} {k : Nat} {x : Int × Int} (hx : sp[k]? = some x) (h : free' (sp.take k) at' = true) (hn : ¬ (x.1 < at' ∧ at' < x.2)) : free' (sp.take (k + 1)) at' = true := by
  unfold free' at *
  rw [take_snoc hx, List.all_append, h]
  simp
  omega
theorem free_not {sp : List (Int × Int)} {at' : Int} {k : Nat} {x : Int × Int} (hx : sp[k]? = some x) (h : x.1 < at' ∧ at' < x.2) : free' sp at' = false := by
  rcases hf : free' sp at' with _ | _
  · rfl
  · have := List.all_eq_true.1 hf x (mem_of_get hx)
    simp [h.1, h.2] at this
theorem gapN_free (f : Int) (n : Nat) (sp : List (Int × Int)) : gapN f (n + 1) sp = gapN f n sp ++ if free' sp (f + 1 + (n : Nat)) = true then [f + 1 + (n : Nat)] else [] := gapN_succ f n sp

set_option maxRecDepth 100000 in
set_option maxHeartbeats 2000000 in
theorem gaps_any (f t : Int) (A0 : Option Addr) (c0 : Nat) (sp : List (Int × Int)) (w : World) (hf : 0 ≤ f ∧ f ≤ 6) (ht : 0 ≤ t ∧ t ≤ 6) (hA : SpansAt w w.heap.size A0 sp) (hn : sp.length < 1000000) :
    Calls Tryd.prog 112 #[.agg #[.int .i64 f, .int .i64 t], .slice A0 sp.length c0] w (RetInts w (gapL f t sp)) := by
  obtain ⟨hf0, hf6⟩ := hf
  obtain ⟨ht0, ht6⟩ := ht
  unfold gapL
  have HN : (t - f - 1).toNat ≤ 6 := by omega
  have HT := Lib.hid (show (t - f - 1).toNat = (t - f - 1).toNat from rfl)
  generalize hN : (t - f - 1).toNat = N at HN ⊢
  have HNN := Lib.hid hN
  clear hN HT
  go_enter Tryd.func112, Tryd.ntmps112
  go_wp2
  go_step3
  go_wp2
  go_step3
  go_wp2
  obtain ⟨W0, hW0⟩ : ∃ W0, W0 = w.alloc (.cells #[.int .i64 f, .int .i64 t] 115) := ⟨_, rfl⟩
  have hb0 : Below w.heap.size w W0 := by rw [hW0]; exact below_new _ _
  have hz0 : W0.heap.size = w.heap.size + 1 := by rw [hW0]; simp
  have c0' : W0.cell? ⟨w.heap.size, 0, none⟩ = some (.int .i64 f) := by rw [hW0]; simp [go_sem]
  have c1' : W0.cell? ⟨w.heap.size, 1, none⟩ = some (.int .i64 t) := by rw [hW0]; simp [go_sem]
  rw [← hW0]
  have HA := Lib.hid (hA.below hb0 (Nat.le_refl _))
  clear hW0 hA
  go_loopg [5, 6] N (fun g v i wr => ∃ k : Nat, k + g = N ∧ i = .int .i64 (f + 1 + (k : Nat)) ∧ wr.ownsRow W0.heap.size 3 1 v (gapN f k sp).length ((gapN f k sp).map (Value.int .i64)) ∧ Below W0.heap.size W0 wr)
  case atStart => exact ⟨0, by omega, by simp, by exact World.ownsRow_nil _ _ _ _, Below.refl _ _⟩
  case round =>
    obtain ⟨k, hk, rfl, hown, hbr⟩ := hrel
    have d0 := (hbr.cell (p := ⟨w.heap.size, 0, none⟩) (by simp; omega)).trans c0'
    have d1 := (hbr.cell (p := ⟨w.heap.size, 1, none⟩) (by simp; omega)).trans c1'
    have hzr := hbr.size
    have hNN := HNN.out
    have hlen := gapN_len f k sp
    cases gk with
    | zero =>
      have : k = N := by omega
      subst this
      have hlt : ¬ (f + 1 + (k : Int) < t) := by omega
      obtain ⟨A, c, rfl, hA', _⟩ := own_ints hown
      have HR := Lib.hid (show RetInts w (gapN f k sp) (.returned (.slice A (gapN f k sp).length c)) wr from ⟨A, c, rfl, hA', hb0.trans (hbr.mono (by omega))⟩)
      clear hA' hown HNN hNN hlen
      go_wp2
      go_ret
      exact HR.out
    | succ g =>
      have hlt : f + 1 + (k : Int) < t := by omega
      generalize hat : f + 1 + (k : Int) = at' at hlt
      have hat6 : 0 ≤ at' ∧ at' ≤ 6 := by omega
      have HS := Lib.hid (gapN_free f k sp)
      have HAT := Lib.hid hat
      clear hat hNN
      generalize gapN f k sp = L at hown hlen HS
      obtain ⟨wo, rfl⟩ : ∃ wo : World, wo = wr := ⟨_, rfl⟩
      go_wp2
      go_loopg [20] sp.length (fun g2 i wx => ∃ j : Nat, j + g2 = sp.length ∧ i = .int .i64 j ∧ Hid (free' (sp.take j) at' = true) ∧ Below wo.heap.size wo wx)
      case atStart => exact ⟨0, by omega, rfl, Lib.hid (by simp [free']), Below.refl _ _⟩
      case round =>
        obtain ⟨j, hj, rfl, HF, hbx⟩ := hrel
        have hbb := hbr.trans (hbx.mono hzr)
        have hzx := hbx.size
        have hsx : w.heap.size < wr.heap.size := by omega
        cases gk with
        | zero =>
          have : j = sp.length := by omega
          subst this
          have hown2 := own_below hown hbx
          go_wp2_with (at_builtin; refine wpList_append_int _ rfl _ _ rfl W0.heap.size _ wr.heap.size _ _ at' rfl (hown2.alloc _) rfl (heap_at _ _ _ rfl) (by omega) (by simp; omega) ?_; intro A5 c5 w5 hown5 hgr5 _)
          go_roundg g
          case rel =>
            refine ⟨k + 1, by omega, by rw [← HAT.out]; go_num, ?_, ?_⟩
            · rw [HS.out, if_pos (by rw [HAT.out]; exact free_take HF.out), HAT.out, List.length_append]; exact hown5
            · exact (hbb.alloc hbb.size _).grown hgr5 (by simp; omega) (fun g hg => (hown2.lt g hg).1)
          case measure => omega
        | succ g2 =>
          have hx : sp[j]? = some (sp[j]'(by omega)) := List.getElem?_eq_getElem _
          generalize sp[j]'(by omega) = x at hx
          have hjl : j < sp.length := by omega
          have HX := Lib.hid hx
          obtain ⟨b, off, rfl, hb, e0, e1⟩ := HA.out j x hx
          replace e0 := (hbb.cell (p := ⟨b, _, none⟩) (by simp; omega)).trans e0
          replace e1 := (hbb.cell (p := ⟨b, _, none⟩) (by simp; omega)).trans e1
          clear hx
          by_cases h1 : x.1 < at'
          · by_cases h2 : at' < x.2
            · have hown2 := own_below hown hbx
              go_wp2
              go_roundg g
              case rel => 
                refine ⟨k + 1, by omega, by rw [← HAT.out]; go_num, ?_, (hbb.alloc hbb.size _)⟩
                rw [HS.out, HAT.out, free_not HX.out ⟨h1, h2⟩]
                simpa using hown2.alloc _
              case measure => omega
            · go_wp2
              go_roundg g2
              case rel => exact ⟨j + 1, by omega, by go_num, Lib.hid (free_snoc HX.out HF.out (by omega)), hbx.alloc hbx.size _⟩
              case measure => omega
          · go_wp2
            go_roundg g2
            case rel => exact ⟨j + 1, by omega, by go_num, Lib.hid (free_snoc HX.out HF.out (by omega)), hbx.alloc hbx.size _⟩
            case measure => omega
end Go.Proofs.YtlollcabnfncpaaDoor
