/-
  Backs are checked, turned.
-/
import Derived.Test.YtbcbaaapogejiaaDoorPlaA
namespace Go.Proofs.YtbcbaaapogejiaaDoor
open Go.RowKit

def chkB (n : Nat) (K : Int) (b : List Int) : Int := if b.length = n then (if ∀ x ∈ b, 0 ≤ x ∧ x < K then 0 else 1) else 5

set_option maxRecDepth 100000 in
set_option maxHeartbeats 8000000 in
theorem backOk_any (R C : Nat) (K : Int) (TA FA : Option Addr) (n tc fn fc : Nat) (A : Option Addr) (c : Nat) (b : List Int) (w : World) (hR : R ≤ 4) (hC : C ≤ 4) (hA : IntsAt w w.heap.size A b) (hn : b.length < 1000) :
    Calls Tryd.prog 121 #[.agg #[.int .i64 R, .int .i64 C, .int .i64 K, .slice TA n tc, .slice FA fn fc], .slice A b.length c] w fun e w' => e = .returned (.int .i64 (chkB (R * C) K b)) ∧ Below w.heap.size w w' := by
  have hRC : R * C ≤ 16 := Nat.le_trans (Nat.mul_le_mul hR hC) (by omega)
  have HC := Lib.hid (fun W => cells_any R C K (.slice TA n tc) (.slice FA fn fc) W (by omega) (by omega))
  have HA := Lib.hid hA
  clear hA
  generalize R * C = N at *
  by_cases hl : b.length = N
  rotate_left
  · rw [show chkB N K b = 5 from if_neg hl]
    have hne : ((b.length : Int) != (N : Int)) = true := by simpa using (by omega : ¬ (b.length : Int) = N)
    clear hl
    go_enter Tryd.func121, Tryd.ntmps121
    go_wp2_with (go_at_call 88; refine (HC.out _).mono ?_; rintro e w0 ⟨rfl, hb0⟩)
    go_ret
    exact ⟨rfl, below_via hb0⟩
  obtain ⟨v, hv⟩ : ∃ v, v = chkB N K b := ⟨_, rfl⟩
  rw [← hv]
  rw [show chkB N K b = if ∀ x ∈ b, 0 ≤ x ∧ x < K then 0 else 1 from if_pos hl] at hv
  have HV := Lib.hid hv
  clear hv
  have hne : ((b.length : Int) != (N : Int)) = false := by simpa using (by omega : (b.length : Int) = N)
  clear hl
  go_enter Tryd.func121, Tryd.ntmps121
  go_wp2_with (go_at_call 88; refine (HC.out _).mono ?_; rintro e w0 ⟨rfl, hb0⟩; have c2 : w0.cell? ⟨w.heap.size, 2, none⟩ = some (.int .i64 K) := (hb0.cell (p := ⟨w.heap.size, 2, none⟩) (by simp)).trans (by simp [go_sem]); have hbw := below_via hb0)
  clear hne
  go_loopw [14] (fun i wr => ∃ k : Nat, k ≤ b.length ∧ i = .int .i64 k ∧ Hid (∀ x ∈ b.take k, 0 ≤ x ∧ x < K) ∧ wr = w0) (fun i _ => b.length - (intOf i).toNat)
  case atStart => exact ⟨0, Nat.zero_le _, rfl, Lib.hid (by simp), rfl⟩
  case round =>
    obtain ⟨k, hk, rfl, HK, rfl⟩ := hrel
    by_cases hlt : k < b.length
    · have hx : b[k]? = some b[k] := List.getElem?_eq_getElem hlt
      have hmx := mem_of_get hx
      have htk := take_snoc hx
      obtain ⟨bb, off, rfl, hb, d⟩ := (HA.out.below hbw (Nat.le_refl _)) k _ hx
      clear hx
      generalize b[k] = x at *
      have HTK := Lib.hid htk
      clear htk
      have hki : (k : Int) < (b.length : Int) := by omega
      have hk0 : (0 : Int) ≤ (k : Int) := by omega
      by_cases h0 : 0 ≤ x
      · by_cases h1 : x < K
        · have HN := Lib.hid (show ∀ y ∈ b.take (k + 1), 0 ≤ y ∧ y < K by
            rw [HTK.out]
            intro y hy
            rcases List.mem_append.1 hy with h | h
            · exact HK.out y h
            · rw [List.mem_singleton.1 h]; exact ⟨h0, h1⟩)
          go_wp2
          go_roundw
          case rel => exact ⟨k + 1, by omega, by go_num, HN, trivial⟩
          case measure => simp [intOf]; omega
        · have HF := Lib.hid (show v = 1 from HV.out.trans <| if_neg fun h => h1 (h x hmx).2)
          go_wp2
          go_ret
          exact ⟨by rw [HF.out]; rfl, hbw⟩
      · have HF := Lib.hid (show v = 1 from HV.out.trans <| if_neg fun h => h0 (h x hmx).1)
        go_wp2
        go_ret
        exact ⟨by rw [HF.out]; rfl, hbw⟩
    · have HF := Lib.hid (show v = 0 from HV.out.trans <| if_pos (by
        have := HK.out
        rw [List.take_of_length_le (by omega)] at this
        exact this))
      have hki : ¬ (k : Int) < (b.length : Int) := by omega
      go_wp2
      go_ret
      exact ⟨by rw [HF.out]; rfl, hbw⟩

set_option maxRecDepth 100000 in
set_option maxHeartbeats 8000000 in
theorem turned_any (R C K : Int) (TA FA : Option Addr) (n tc fc : Nat) (F : List (List Int)) (A : Option Addr) (c : Nat) (b : List Int) (k : Nat) (s : List Int) (w : World) (hF : ListsAt w w.heap.size FA F) (hA : IntsAt w w.heap.size A b)
    (hs : F[k]? = some s) (hin : ∀ i ∈ s, 0 ≤ i ∧ i < b.length) (hb : b.length < 1000) (hn : s.length < 1000) (_hF1 : F.length < 1000) :
    Calls Tryd.prog 76 #[.agg #[.int .i64 R, .int .i64 C, .int .i64 K, .slice TA n tc, .slice FA F.length fc], .slice A b.length c, .int .i64 k] w (RetInts w (tdL s b)) := by
  obtain ⟨i0, hi, hz0, hz1, hz2⟩ := info_parts info3
  obtain ⟨fb, fo, D, dc, rfl, hfb, f1, f2⟩ := hF k s hs
  have hkF : k < F.length := lt_of_get hs
  have hkF' : (k : Int) < (F.length : Int) := by omega
  have HA := Lib.hid hA
  have HS := Lib.hid f2
  have HN := Lib.hid hin
  clear hA hF hin f2 hs
  generalize F.length = fn at *
  go_enter Tryd.func76, Tryd.ntmps76
  go_wp2_with (at_make; go_must (refine wpList_make_own _ rfl _ _ 22 rfl (w.heap.size + 1) 3 i0 (.int .i64 0) 1 Tryd.underlying22 hi hz0 hz1 .i64 .i64 _ b.length rfl rfl rfl (by rw [hz2]; omega) (by unfold maxLen; omega) (by simp) ?_); intro w1 hown0 hgrow0; have hb1 := ((Below.refl _ _).alloc (Nat.le_refl _) _ : Below w.heap.size w (w.alloc _)).grown hgrow0 (by simp) (fun g hg => by cases hg); have c4 : w1.cell? ⟨w.heap.size, 4, none⟩ = some (.slice (some ⟨fb, fo, none⟩) fn fc) := (World.cell?_of_block (hgrow0.block w.heap.size (by simp) (by simp))).trans (by simp [go_sem]); have hs1 : w.heap.size + 1 ≤ w1.heap.size := (by have := hgrow0.size; simpa using this); have f1' := (hb1.cell (p := ⟨fb, fo + k, none⟩) hfb).trans f1; simp only [World.size_alloc] at hown0; clear hgrow0)
  go_loopw [7, 19] (fun v i wr => ∃ j : Nat, j ≤ s.length ∧ i = .int .i64 j ∧ wr.ownsRow (w.heap.size + 1) 3 1 v j ((tdL (s.take j) b).map (Value.int .i64)) ∧ Below (w.heap.size + 1) w1 wr) (fun _ i _ => s.length - (intOf i).toNat)
  case atStart => exact ⟨0, Nat.zero_le _, rfl, hown0, Below.refl _ _⟩
  case round =>
    obtain ⟨j, hj, rfl, hown, hbw⟩ := hrel
    have hbww := hb1.trans (hbw.mono (by omega))
    have hsz := hbw.size
    by_cases hlt : j < s.length
    · have hx : s[j]? = some s[j] := List.getElem?_eq_getElem hlt
      have htk := take_snoc hx
      obtain ⟨g0, g1⟩ := HN.out _ (mem_of_get hx)
      obtain ⟨sb, so, rfl, hsb, d⟩ := (HS.out.below hbww (Nat.le_refl _)) j _ hx
      clear hx
      generalize s[j] = x at *
      obtain ⟨u, rfl⟩ : ∃ u : Nat, x = (u : Int) := ⟨x.toNat, by omega⟩
      have hu : u < b.length := by omega
      have hy : b[u]? = some b[u] := List.getElem?_eq_getElem hu
      obtain ⟨yb, yo, rfl, hyb, e⟩ := (HA.out.below hbww (Nat.le_refl _)) u _ hy
      have HT := Lib.hid (show tdL (s.take (j + 1)) b = tdL (s.take j) b ++ [b[u]] by
        rw [htk]; simp [tdL, hu])
      clear htk hy
      generalize b[u] = y at *
      have hki : (j : Int) < (s.length : Int) := by omega
      have hk0 : (0 : Int) ≤ (j : Int) := by omega
      go_wp2_with (at_builtin; go_must (refine wpList_append_int _ rfl _ _ rfl (w.heap.size + 1) j wr.heap.size _ _ y rfl (hown.alloc _) rfl (heap_new _ _) (by omega) (by simp; omega) ?_); intro A4 c4' w4 hown4 hgrow4 _)
      have hbn : Below (w.heap.size + 1) w1 w4 := (hbw.alloc (by omega) _).grown hgrow4 (by simp; omega) (fun g hg => (hown.lt g hg).1)
      go_wp2
      go_roundw
      case rel => exact ⟨j + 1, by omega, by go_num, by rw [HT.out]; exact hown4, hbn⟩
      case measure => simp [intOf]; omega
    · have e : j = s.length := by omega
      subst e
      rw [List.take_length] at hown
      obtain ⟨A', c', rfl, hA', hll, hge⟩ := own_ints hown
      have hlt' := hown.lt
      have hki : ¬ (s.length : Int) < (s.length : Int) := by omega
      clear hown
      go_wp2
      go_ret
      exact ⟨A', c', rfl, hA', hbww, fun ad had => ⟨by have := (hge ad had).1; omega, by subst had; exact (hlt' _ rfl).2⟩⟩
end Go.Proofs.YtbcbaaapogejiaaDoor
