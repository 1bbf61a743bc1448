/-
  The walks of the block of a sheet, of the blocks of cards, and of the cuts of a part.
-/
import Derived.Test.YtlollcabnfncpaaDoorBlkA
import Derived.Laws.MakeOwn
namespace Go.Proofs.YtlollcabnfncpaaDoor
open Go.RowKit

set_option maxHeartbeats 1000000 in
theorem area_any (s : Sh) (w : World) :
    Calls Tryd.prog 74 #[.agg #[.int .i64 s.r, .int .i64 s.c, .int .i64 s.l, .int .i64 s.w]] w fun e w' => e = .returned (.agg #[.int .i64 0, .int .i64 s.r, .int .i64 0, .int .i64 s.c]) ∧ Below w.heap.size w w' := by
  go_enter Tryd.func74, Tryd.ntmps74
  go_wp2
  refine bodyPost_ret (v := .agg #[.int .i64 0, .int .i64 s.r, .int .i64 0, .int .i64 s.c]) (by simp [results, Tryd.results74, go_sem]) rfl ⟨rfl, ((Below.refl _ _).alloc (Nat.le_refl _) _).alloc (by simp) _⟩

set_option maxRecDepth 100000 in
set_option maxHeartbeats 2000000 in
theorem places_any (s : Sh) (A : Option Addr) (c : Nat) (l : List Cd) (w : World) (hs : s.Ok) (hA : CardsAt w w.heap.size A l) (hf : ∀ x ∈ l, fitP s x) (hn : l.length < 1000000) :
    Calls Tryd.prog 75 #[.agg #[.int .i64 s.r, .int .i64 s.c, .int .i64 s.l, .int .i64 s.w], .slice A l.length c] w (RetBlks w (l.map (blk s))) := by
  obtain ⟨i0, hi, hz0, hz1, hz2⟩ := info_parts info117
  obtain ⟨w1, hmk, hown0, hg0⟩ := run_make_own (P := Tryd.prog) (w := w.alloc (.cells #[.int .i64 s.r, .int .i64 s.c, .int .i64 s.l, .int .i64 s.w] 23)) (w.heap.size + 1) 119 117 i0 _ 4 Tryd.underlying119 hi hz0 hz1 .i64 .i64 l.length (by rw [hz2]; omega) (by unfold maxLen; omega) (by simp)
  have HF := Lib.hid hf
  clear hf
  go_enter Tryd.func75, Tryd.ntmps75
  go_wp2
  have hb1 : Below w.heap.size w w1 := (below_new w _).grown hg0 (by simp) (by simp)
  have hz1 : w.heap.size + 1 ≤ w1.heap.size := by have := (Chg.of_grown hg0).size; simpa using this
  have cc := fun (o : Nat) => (Chg.of_grown hg0).cell (p := ⟨w.heap.size, o, none⟩) (by simp) (by simp)
  have s0 : w1.cell? ⟨w.heap.size, 0, none⟩ = some (.int .i64 s.r) := (cc 0).trans (by simp [go_sem])
  have s1 : w1.cell? ⟨w.heap.size, 1, none⟩ = some (.int .i64 s.c) := (cc 1).trans (by simp [go_sem])
  have s2 : w1.cell? ⟨w.heap.size, 2, none⟩ = some (.int .i64 s.l) := (cc 2).trans (by simp [go_sem])
  have s3 : w1.cell? ⟨w.heap.size, 3, none⟩ = some (.int .i64 s.w) := (cc 3).trans (by simp [go_sem])
  have HA := Lib.hid (hA.below hb1 (Nat.le_refl _))
  clear hmk hg0 hA cc hi hz0 hz2
  go_loopw [5, 13] (fun v i wr => ∃ k : Nat, k ≤ l.length ∧ i = .int .i64 k ∧ wr.ownsRow (w.heap.size + 1) 117 4 v k (blkcells ((l.take k).map (blk s))) ∧ Below (w.heap.size + 1) w1 wr ∧ w1.heap.size ≤ wr.heap.size) (fun _ i _ => l.length - (intOf i).toNat)
  case atStart => exact ⟨0, by omega, rfl, by simpa [blkcells] using hown0, Below.refl _ _, Nat.le_refl _⟩
  case round =>
    obtain ⟨k, hk, rfl, hown, hbr, hzr⟩ := hrel
    have e0 := (hbr.cell (p := ⟨w.heap.size, 0, none⟩) (by simp)).trans s0
    have e1 := (hbr.cell (p := ⟨w.heap.size, 1, none⟩) (by simp)).trans s1
    have e2 := (hbr.cell (p := ⟨w.heap.size, 2, none⟩) (by simp)).trans s2
    have e3 := (hbr.cell (p := ⟨w.heap.size, 3, none⟩) (by simp)).trans s3
    by_cases hlt : k < l.length
    · have hx : l[k]? = some l[k] := List.getElem?_eq_getElem hlt
      generalize l[k] = x at hx
      have hfx := HF.out x (mem_of_get hx)
      have HP := Lib.hid (fun W => place_any s x W hs hfx)
      have HT := Lib.hid (take_snoc hx)
      obtain ⟨b, off, rfl, hb, d0, d1, d2⟩ := HA.out k x hx
      replace d0 := (hbr.cell (p := ⟨b, _, none⟩) (by simp; omega)).trans d0
      replace d1 := (hbr.cell (p := ⟨b, _, none⟩) (by simp; omega)).trans d1
      replace d2 := (hbr.cell (p := ⟨b, _, none⟩) (by simp; omega)).trans d2
      have hbz : b < wr.heap.size := by omega
      have hwz : w.heap.size < wr.heap.size := by omega
      clear hx hfx
      go_wp2_with (first
        | (go_at_call 113; refine (HP.out _).mono ?_; rintro e w3 ⟨rfl, hb3⟩; have own3 := own_below (hown.alloc _) hb3)
        | (at_builtin; refine wpList_append_blk _ rfl _ _ rfl (w.heap.size + 1) _ w3.heap.size _ _ (blk s x) rfl (own3.alloc _) rfl (heap_at _ _ _ rfl) (by omega) (by have := hb3.size; simp at this; simp; omega) ?_; intro A5 c5 w5 hown5 hgr5 _))
      go_roundw
      case rel =>
        have hz3 := hb3.size
        simp only [World.size_alloc] at hz3
        refine ⟨k + 1, by omega, by go_num, ?_, ?_, ?_⟩
        · rw [HT.out, List.map_append]; exact hown5
        · exact ((hbr.trans (((below_new _ _).trans (hb3.mono (by simp))).mono (by omega))).alloc (by omega) _).grown hgr5 (by simp; omega) (fun g hg => (own3.lt g hg).1)
        · have := (Chg.of_grown hgr5).size; simp at this; omega
      case measure => simp [intOf]; omega
    · have e : (l.take k).map (blk s) = l.map (blk s) := by rw [List.take_of_length_le (by omega)]
      rw [e] at hown
      obtain ⟨A', c', rfl, hA', _⟩ := own_blks hown
      have HR := Lib.hid (show RetBlks w (l.map (blk s)) (.returned (.slice A' (l.map (blk s)).length c')) wr from ⟨A', c', rfl, hA', hb1.trans (hbr.mono (by omega)), fun ad h => by have := own_block_ge hown ad h; omega⟩)
      clear hA' hown e
      go_wp2
      go_ret
      exact HR.out
end Go.Proofs.YtlollcabnfncpaaDoor
