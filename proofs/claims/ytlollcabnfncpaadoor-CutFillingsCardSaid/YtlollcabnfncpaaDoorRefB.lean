/-
  The reference: whether a square is covered, whether a card fits.
-/
import Derived.Test.YtlollcabnfncpaaDoorRefA
namespace Go.Proofs.YtlollcabnfncpaaDoor
open Go.RowKit

/-- Some card covers a square. -/
def covA (s : Sh) (l : List Cd) (row col : Int) : Bool := l.any fun x => covB s x row col
theorem covA_snoc {s : Sh} {l : List Cd} {x : Cd} {row col : Int} : covA s (l ++ [x]) row col = (covA s l row col || covB s x row col) := by simp [covA]

set_option maxRecDepth 100000 in
set_option maxHeartbeats 2000000 in
theorem covered_any (s : Sh) (A : Option Addr) (c : Nat) (l : List Cd) (row col : Int) (w : World) (hs : s.Ok) (hA : RcdsAt w w.heap.size A l) (hf : ∀ x ∈ l, Near x) (hn : l.length < 1000000) :
    Calls Tryd.prog 86 #[.agg #[.int .i64 s.r, .int .i64 s.c, .int .i64 s.l, .int .i64 s.w], .slice A l.length c, .int .i64 row, .int .i64 col] w fun e w' => e = .returned (.bool (covA s l row col)) ∧ Below w.heap.size w w' := by
  obtain ⟨W0, hW0⟩ : ∃ W0, W0 = w.alloc (.cells #[.int .i64 s.r, .int .i64 s.c, .int .i64 s.l, .int .i64 s.w] 24) := ⟨_, rfl⟩
  have HB := Lib.hid (show Below w.heap.size w W0 from hW0 ▸ below_new w _)
  have hz0 : w.heap.size + 1 = W0.heap.size := by rw [hW0]; simp
  have HA := Lib.hid (hA.below HB.out (Nat.le_refl _))
  have HK := Lib.hid (fun (W : World) (h : Below W0.heap.size W0 W) => show W.cell? ⟨w.heap.size, 0, none⟩ = some (.int .i64 s.r) ∧ W.cell? ⟨w.heap.size, 1, none⟩ = some (.int .i64 s.c) ∧ W.cell? ⟨w.heap.size, 2, none⟩ = some (.int .i64 s.l) ∧ W.cell? ⟨w.heap.size, 3, none⟩ = some (.int .i64 s.w) from
    ⟨(h.cell (p := ⟨w.heap.size, 0, none⟩) (by simp; omega)).trans (by rw [hW0]; simp [go_sem]), (h.cell (p := ⟨w.heap.size, 1, none⟩) (by simp; omega)).trans (by rw [hW0]; simp [go_sem]), (h.cell (p := ⟨w.heap.size, 2, none⟩) (by simp; omega)).trans (by rw [hW0]; simp [go_sem]), (h.cell (p := ⟨w.heap.size, 3, none⟩) (by simp; omega)).trans (by rw [hW0]; simp [go_sem])⟩)
  have HF := Lib.hid hf
  generalize hV : covA s l row col = V
  have HV := Lib.hid hV
  clear hA hf hV
  go_enter Tryd.func86, Tryd.ntmps86
  go_wp2
  rw [← hW0]
  have HZ := Lib.hid hz0
  clear hW0 hz0
  go_loopw [9] (fun i wr => ∃ k : Nat, k ≤ l.length ∧ i = .int .i64 k ∧ Hid (covA s (l.take k) row col = false) ∧ Below W0.heap.size W0 wr) (fun i _ => l.length - (intOf i).toNat)
  case atStart => exact ⟨0, Nat.zero_le _, rfl, Lib.hid rfl, Below.refl _ _⟩
  case round =>
    obtain ⟨k, hk, rfl, HC, hbr⟩ := hrel
    by_cases hlt : k < l.length
    · have hx : l[k]? = some l[k] := List.getElem?_eq_getElem hlt
      generalize l[k] = x at hx
      have hzr := hbr.size
      have hzw := HZ.out
      obtain ⟨b, off, rfl, hb, d0, d1, d2⟩ := HA.out k x hx
      replace d0 := (hbr.cell (p := ⟨b, _, none⟩) (by simp; omega)).trans d0
      replace d1 := (hbr.cell (p := ⟨b, _, none⟩) (by simp; omega)).trans d1
      replace d2 := (hbr.cell (p := ⟨b, _, none⟩) (by simp; omega)).trans d2
      have hbz : b < wr.heap.size := by omega
      obtain ⟨v, hv⟩ : ∃ v, v = covB s x row col := ⟨_, rfl⟩
      have HX := Lib.hid (fun W (Q : Ending → World → Prop) (h : Below wr.heap.size wr W) (hQ : ∀ w', Below wr.heap.size wr w' → Q (.returned (.bool v)) w') => (covers_any s x row col W hs (HF.out x (mem_of_get hx))).mono fun e w' ⟨he, hb'⟩ => by rw [he, ← hv]; exact hQ w' (h.trans (hb'.mono h.size)))
      have HT := Lib.hid (show covA s (l.take (k + 1)) row col = v by rw [take_snoc hx, covA_snoc, HC.out, hv]; rfl)
      have HT2 := Lib.hid (fun (h : v = true) => show V = true by rw [← HV.out]; exact List.any_eq_true.2 ⟨x, mem_of_get hx, by rw [← hv, h]⟩)
      have HR := Lib.hid (HB.out.trans (hbr.mono (by have := HZ.out; omega)))
      obtain ⟨r0, r1, r2, r3⟩ := HK.out _ hbr
      have hwz : w.heap.size < wr.heap.size := by have := HZ.out; omega
      have HKK := Lib.hid (fun (W : World) (h : Below wr.heap.size wr W) => show Below wr.heap.size wr W ∧ W.cell? ⟨w.heap.size, 0, none⟩ = some (.int .i64 s.r) ∧ W.cell? ⟨w.heap.size, 1, none⟩ = some (.int .i64 s.c) ∧ W.cell? ⟨w.heap.size, 2, none⟩ = some (.int .i64 s.l) ∧ W.cell? ⟨w.heap.size, 3, none⟩ = some (.int .i64 s.w) ∧ W.cell? ⟨b, off + k * 3, none⟩ = some (.int .i64 x.row) ∧ W.cell? ⟨b, off + k * 3 + 1, none⟩ = some (.int .i64 x.col) ∧ W.cell? ⟨b, off + k * 3 + 2, none⟩ = some (.bool x.t) from
        ⟨h, (h.cell (p := ⟨w.heap.size, 0, none⟩) hwz).trans r0, (h.cell (p := ⟨w.heap.size, 1, none⟩) hwz).trans r1, (h.cell (p := ⟨w.heap.size, 2, none⟩) hwz).trans r2, (h.cell (p := ⟨w.heap.size, 3, none⟩) hwz).trans r3, (h.cell (p := ⟨b, _, none⟩) hbz).trans d0, (h.cell (p := ⟨b, _, none⟩) hbz).trans d1, (h.cell (p := ⟨b, _, none⟩) hbz).trans d2⟩)
      have hbd := (Below.refl wr.heap.size wr).drew
      have hki : (k : Int) < (l.length : Int) := by omega
      have hk0 : (0 : Int) ≤ (k : Int) := by omega
      clear hx hv r0 r1 r2 r3 d0 d1 d2 hzw
      go_wp2
      go_region_held3 (fun W => Below wr.heap.size wr W ∧ W.cell? ⟨w.heap.size, 0, none⟩ = some (.int .i64 s.r) ∧ W.cell? ⟨w.heap.size, 1, none⟩ = some (.int .i64 s.c) ∧ W.cell? ⟨w.heap.size, 2, none⟩ = some (.int .i64 s.l) ∧ W.cell? ⟨w.heap.size, 3, none⟩ = some (.int .i64 s.w) ∧ W.cell? ⟨b, off + k * 3, none⟩ = some (.int .i64 x.row) ∧ W.cell? ⟨b, off + k * 3 + 1, none⟩ = some (.int .i64 x.col) ∧ W.cell? ⟨b, off + k * 3 + 2, none⟩ = some (.bool x.t))
        (exact HKK.out _ (by assumption))
        (first | (go_at_call 123; with_reducible refine HX.out _ _ (by assumption) ?_; intro w6 hb6))
      all_goals
        rcases v with _ | _
        · go_wp2_with fail
          go_roundw
          case rel => exact ⟨k + 1, by omega, by go_num, HT, hbr.trans (Below.mono (by assumption) (by omega))⟩
          case measure => simp [intOf]; omega
        · have HVT := Lib.hid (HT2.out rfl)
          go_wp2_with fail
          go_ret
          exact ⟨ret_bool HVT.out.symm, HR.out.trans (Below.mono (by assumption) (by omega))⟩
    · have e : l.take k = l := List.take_of_length_le (by omega)
      have HE := Lib.hid (show false = V by rw [← HV.out, ← HC.out, e])
      have HR := Lib.hid (HB.out.trans (hbr.mono (by have := HZ.out; omega)))
      clear e
      go_wp2
      go_ret
      exact ⟨ret_bool HE.out, HR.out⟩
end Go.Proofs.YtlollcabnfncpaaDoor
