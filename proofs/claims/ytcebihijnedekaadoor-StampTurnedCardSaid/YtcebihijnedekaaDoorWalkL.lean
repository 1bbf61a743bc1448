/-
  The walk of the first flow.
-/
import Derived.Test.YtcebihijnedekaaDoorWalkH
import Derived.Test.YtcebihijnedekaaDoorWalkK
namespace Go.Proofs.YtcebihijnedekaaDoor
open Go.RowKit

theorem valB_kept {rooms : Nat} : ∀ {ws : List Wy} {fl : List Int}, (∀ x ∈ ws, (0 ≤ x.src ∧ x.src < (rooms : Int)) ∧ (0 ≤ x.dst ∧ x.dst < (rooms : Int)) ∧ 0 ≤ x.lo ∧ x.lo ≤ x.hi ∧ x.hi ≤ 99) →
    (∀ (i : Nat) (x : Wy) (f : Int), ws[i]? = some x → fl[i]? = some f → x.lo ≤ f ∧ f ≤ x.hi) →
    ∀ x ∈ keptS ws fl, (0 ≤ x.src ∧ x.src < (rooms : Int)) ∧ (0 ≤ x.dst ∧ x.dst < (rooms : Int)) ∧ 0 ≤ x.lo ∧ x.lo ≤ x.hi ∧ x.hi ≤ 99
  | [], _, _, _, x, hx => by simp [keptS] at hx
  | y :: ws, [], h, _, x, hx => h x hx
  | y :: ws, f :: fl, h, h2, x, hx => by
    simp only [keptS, List.mem_cons] at hx
    rcases hx with rfl | hx
    · obtain ⟨a, b, c, d, e⟩ := h y (by simp)
      obtain ⟨p, q⟩ := h2 0 y f rfl rfl
      unfold fixW
      dsimp only
      exact ⟨a, b, by omega, Int.le_refl _, by omega⟩
    · exact valB_kept (fun z hz => h z (by simp [hz])) (fun i z g hz hg => h2 (i + 1) z g (by simpa using hz) (by simpa using hg)) x hx

theorem ValB.kept {rooms : Nat} {ws : List Wy} {fl : List Int} (hv : ValB rooms ws) (h : ∀ (i : Nat) (x : Wy) (f : Int), ws[i]? = some x → fl[i]? = some f → x.lo ≤ f ∧ f ≤ x.hi) : ValB rooms (keptS ws fl) :=
  ⟨hv.r6, by rw [keptS_length]; exact hv.len, valB_kept hv.way h⟩

theorem own_below {w w' : World} {base : Nat} {e : TypeId} {size : Nat} {v : Value} {n : Nat} {xs : List Value} (h : w.ownsRow base e size v n xs) (hb : Below w.heap.size w w') : w'.ownsRow base e size v n xs :=
  h.kept (row := none) ⟨hb.os, hb.tape, hb.output, hb.size, fun k hk _ => hb.block k hk⟩ (by
    rcases v.ownBlock with _ | g
    · exact .inl rfl
    · exact .inr (by simp))

set_option maxRecDepth 100000 in
set_option maxHeartbeats 2000000 in
theorem first_any (rooms : Nat) (A : Option Addr) (c : Nat) (ws : List Wy) (w : World) (hv : ValB rooms ws) (ha : Agr ws) (hw : WaysAt w w.heap.size A ws) :
    Calls Tryd.prog 57 #[.agg #[.int .i64 rooms, .slice A ws.length c]] w (RetInts w (firstS rooms ws)) := by
  obtain ⟨i0, hi, hz0, hz1, hz2⟩ := info_parts info3
  have hlen := hv.len
  go_enter Tryd.func57, Tryd.ntmps57
  go_wp2_with (at_make; go_must (refine wpList_make_own _ rfl _ _ 25 rfl (w.heap.size + 1) 3 i0 (.int .i64 0) 1 Tryd.underlying25 hi hz0 hz1 .i64 .i64 _ ws.length rfl rfl rfl (by rw [hz2]; omega) (by unfold maxLen; omega) (by simp) ?_); intro w1 hown0 hgrow0; have hba := fun o => ((Below.refl w.heap.size w).alloc (Nat.le_refl _) o); have hb0 := (hba _).grown hgrow0 (by simp) (fun k hk => by cases hk); have hc0 : w1.cell? ⟨w.heap.size, 0, none⟩ = some (.int .i64 rooms) := (World.cell?_of_block (hgrow0.block w.heap.size (by simp) (by simp))).trans (by simp [go_sem]); have hc1 : w1.cell? ⟨w.heap.size, 1, none⟩ = some (.slice A ws.length c) := (World.cell?_of_block (hgrow0.block w.heap.size (by simp) (by simp))).trans (by simp [go_sem]); have hs1 : w.heap.size + 1 ≤ w1.heap.size := (by have := hgrow0.size; simpa using this); have hw1 := hw.below hb0 (Nat.le_refl _); simp only [World.size_alloc] at hown0; clear hgrow0)
  go_loopw [3, 14] (fun v i wr => ∃ k : Nat, k ≤ ws.length ∧ i = .int .i64 k ∧ wr.ownsRow (w.heap.size + 1) 3 1 v k ((firstK rooms ws k).map (Value.int .i64)) ∧ Below (w.heap.size + 1) w1 wr) (fun _ i _ => ws.length - (intOf i).toNat)
  case atStart => exact ⟨0, Nat.zero_le _, rfl, hown0, Below.refl _ _⟩
  case round =>
    obtain ⟨k, hk, rfl, hown, hbw⟩ := hrel
    have hd0 := (hbw.cell (p := ⟨w.heap.size, 0, none⟩) (by simp)).trans hc0
    have hd1 := (hbw.cell (p := ⟨w.heap.size, 1, none⟩) (by simp)).trans hc1
    have hsz := hbw.size
    have hww := (hw1.below (hbw.mono (by omega)) (Nat.le_refl _)).mono (B' := wr.heap.size) (by omega)
    obtain ⟨f1, f2, f3, f4, f5⟩ := firstK_spec hv.inW hv.okW ha k hk
    obtain ⟨A', c', rfl, hA'⟩ := own_ints hown
    rw [f1] at hown
    try rw [f1]
    by_cases hlt : k < ws.length
    · have hx : ws[k]? = some ws[k] := List.getElem?_eq_getElem hlt
      generalize ws[k] = x at hx
      obtain ⟨b, off, rfl, _, _⟩ := hww k x hx
      have HK := Lib.hid (fun W h1 h2 => kept_any rooms b off c c' A' ws (firstK rooms ws k) W (by omega) hlen (by omega) h1 h2)
      have hxk : (keptS ws (firstK rooms ws k))[k]? = some x := by rw [keptS_get_ge _ _ _ (by omega)]; exact hx
      have HS := Lib.hid (fun W g cap h => span_any rooms k (some ⟨g, 0, none⟩) cap (keptS ws (firstK rooms ws k)) x W (hv.kept f5) hxk h)
      have HF := Lib.hid (show firstK rooms ws (k + 1) = firstK rooms ws k ++ [(spanS rooms (keptS ws (firstK rooms ws k)) x).1] by simp only [firstK, hx])
      rw [f1] at HK
      generalize spanS rooms (keptS ws (firstK rooms ws k)) x = P at HS HF
      obtain ⟨P1, P2⟩ := P
      dsimp only at HS HF
      clear hx hxk f1 f2 f3 f4 f5 hw hw1 hown0
      have hwz : w.heap.size < wr.heap.size := by omega
      go_wp2_with (first
        | (go_at_call 86; refine (HK.out _ hww hA').mono ?_; rintro e w2 ⟨g, cap, rfl, hown2, hb2⟩; obtain ⟨q1, q2, q3⟩ := bcell hb2; have hw2 := own_ways hown2)
        | (go_at_call 76; refine (HS.out _ _ _ hw2).mono ?_; rintro e w3 ⟨rfl, hb3⟩; have hb23 := hb2.trans (hb3.mono hb2.size); have hown3 := own_below hown hb23; have hs3 := hb23.size)
        | (at_builtin; go_must (refine wpList_append_own _ rfl _ _ 25 rfl (w.heap.size + 1) 3 i0 (.int .i64 0) 1 8 Tryd.underlying25 hi hz0 hz1 hz2 rfl (by decide) _ _ _ rfl (hown3.alloc _) ⟨w3.heap.size, 0, none⟩ 1 1 [.int .i64 P1] rfl rfl (cells_one _ _ _ _) (fun u hu => by simp at hu; subst hu; rfl) (by unfold maxLen; omega) (by omega) (by simp; omega) ?_); intro v' w4 hown4 hgrow4 _))
      have hbn : Below (w.heap.size + 1) w1 w4 := ((hbw.trans (hb23.mono (by omega))).alloc (by omega) _).grown hgrow4 (by simp; omega) (fun g hg => (hown.lt g hg).1)
      go_wp2
      go_roundw
      case rel => exact ⟨k + 1, by omega, by go_num, by rw [HF.out, List.map_append]; exact hown4, hbn⟩
      case measure => simp [intOf]; omega
    · have : k = ws.length := by omega
      subst this
      have HF1 := Lib.hid f1
      clear hw hw1 hww hown0 f1 f2 f3 f4 f5
      go_wp2
      go_ret
      exact ⟨A', c', ret_val (by show _ = Value.slice A' (firstK rooms ws ws.length).length c'; rw [HF1.out]; rfl), hA', hb0.trans (hbw.mono (by omega))⟩
end Go.Proofs.YtcebihijnedekaaDoor
