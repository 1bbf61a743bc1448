/-
  All turns that make a back another one.
-/
import Derived.Test.YtbcbaaapogejiaaDoorPlaD
namespace Go.Proofs.YtbcbaaapogejiaaDoor
open Go.RowKit

def mkL (T : List Nat) (F : List (List Int)) (a b : List Int) (k : Nat) : List Int := (((T.zip F).take k).filter fun q => decide (tdL q.2 a = b)).map fun q => (q.1 : Int)
theorem mkL_yes {T : List Nat} {F : List (List Int)} {a b : List Int} {k t : Nat} {s : List Int} (ht : T[k]? = some t) (hs : F[k]? = some s) (h : tdL s a = b) : mkL T F a b (k + 1) = mkL T F a b k ++ [(t : Int)] := by
  unfold mkL
  rw [take_snoc (show (T.zip F)[k]? = some (t, s) by rw [List.getElem?_zip_eq_some]; exact ⟨ht, hs⟩)]
  simp [h]
theorem mkL_no {T : List Nat} {F : List (List Int)} {a b : List Int} {k t : Nat} {s : List Int} (ht : T[k]? = some t) (hs : F[k]? = some s) (h : tdL s a ≠ b) : mkL T F a b (k + 1) = mkL T F a b k := by
  unfold mkL
  rw [take_snoc (show (T.zip F)[k]? = some (t, s) by rw [List.getElem?_zip_eq_some]; exact ⟨ht, hs⟩)]
  simp [h]
theorem mkL_len (T : List Nat) (F : List (List Int)) (a b : List Int) (k : Nat) : (mkL T F a b k).length ≤ k := by
  unfold mkL
  rw [List.length_map]
  exact Nat.le_trans (List.length_filter_le _ _) (by rw [List.length_take]; omega)
theorem mkL_all (p : Pr) (a b : List Int) : mkL p.T p.from a b p.T.length = intsN (p.makes a b) := by
  unfold mkL Pr.makes intsN Pr.from
  have e : p.T.zip (p.T.map fun t => srcs p.R p.C (mv t)) = p.T.map fun t => (t, srcs p.R p.C (mv t)) := by
    generalize p.T = T
    induction T with
    | nil => rfl
    | cons t T ih => simp [ih]
  rw [e, List.take_of_length_le (by simp), List.filter_map, List.map_map]
  rfl

set_option maxRecDepth 100000 in
set_option maxHeartbeats 8000000 in
theorem makes_any (R C K : Int) (TA FA : Option Addr) (tc fc : Nat) (T : List Nat) (F : List (List Int)) (A D : Option Addr) (c d : Nat) (a b : List Int) (w : World) (hT : IntsAt w w.heap.size TA (intsN T)) (hF : ListsAt w w.heap.size FA F) (hA : IntsAt w w.heap.size A a) (hD : IntsAt w w.heap.size D b)
    (hlen : F.length = T.length) (hin : ∀ s ∈ F, s.length < 1000 ∧ ∀ i ∈ s, 0 ≤ i ∧ i < a.length) (ha : a.length < 1000) (_hb : b.length < 1000) (hn : T.length < 1000) :
    Calls Tryd.prog 78 #[.agg #[.int .i64 R, .int .i64 C, .int .i64 K, .slice TA T.length tc, .slice FA T.length fc], .slice A a.length c, .slice D b.length d] w (RetInts w (mkL T F a b T.length)) := by
  have hb1 := below_new w (.cells #[.int .i64 R, .int .i64 C, .int .i64 K, .slice TA T.length tc, .slice FA T.length fc] 115)
  have hs1 : w.heap.size < (w.alloc (.cells #[.int .i64 R, .int .i64 C, .int .i64 K, .slice TA T.length tc, .slice FA T.length fc] 115)).heap.size := by simp
  have HG : ∀ (j : Nat) (u : Value), [Value.int .i64 R, .int .i64 C, .int .i64 K, .slice TA T.length tc, .slice FA T.length fc][j]? = some u → (w.alloc (.cells #[.int .i64 R, .int .i64 C, .int .i64 K, .slice TA T.length tc, .slice FA T.length fc] 115)).cell? ⟨w.heap.size, j, none⟩ = some u := by
    intro j u hj
    rw [cell_of_row _ _ _ _ _ _ (heap_new _ _)]
    simpa using hj
  have HT := Lib.hid hT
  have HF := Lib.hid hF
  have HA := Lib.hid hA
  have HD := Lib.hid hD
  have HI := Lib.hid hin
  have HLE := Lib.hid hlen
  clear hT hF hA hD hin hlen
  go_enter Tryd.func78, Tryd.ntmps78
  go_upto_region 2 with fail
  generalize w.alloc (.cells #[.int .i64 R, .int .i64 C, .int .i64 K, .slice TA T.length tc, .slice FA T.length fc] 115) = w1 at *
  have HH := Lib.hid (fun (W : World) (hW : Below (w.heap.size + 1) w1 W) => show W.cell? ⟨w.heap.size, 0, none⟩ = some (.int .i64 R) ∧ W.cell? ⟨w.heap.size, 1, none⟩ = some (.int .i64 C) ∧ W.cell? ⟨w.heap.size, 2, none⟩ = some (.int .i64 K) ∧ W.cell? ⟨w.heap.size, 3, none⟩ = some (.slice TA T.length tc) ∧ W.cell? ⟨w.heap.size, 4, none⟩ = some (.slice FA T.length fc) from
    ⟨(hW.cell (p := ⟨w.heap.size, 0, none⟩) (by simp)).trans (HG 0 _ rfl), (hW.cell (p := ⟨w.heap.size, 1, none⟩) (by simp)).trans (HG 1 _ rfl), (hW.cell (p := ⟨w.heap.size, 2, none⟩) (by simp)).trans (HG 2 _ rfl), (hW.cell (p := ⟨w.heap.size, 3, none⟩) (by simp)).trans (HG 3 _ rfl), (hW.cell (p := ⟨w.heap.size, 4, none⟩) (by simp)).trans (HG 4 _ rfl)⟩)
  have h3 := HG 3 _ rfl
  clear HG
  go_wp2
  clear h3
  go_loopw [7, 14] (fun v i wr => ∃ k : Nat, k ≤ T.length ∧ i = .int .i64 k ∧ wr.ownsRow (w.heap.size + 1) 3 1 v (mkL T F a b k).length ((mkL T F a b k).map (Value.int .i64)) ∧ Below (w.heap.size + 1) w1 wr) (fun _ i _ => T.length - (intOf i).toNat)
  case atStart => exact ⟨0, Nat.zero_le _, rfl, World.ownsRow_nil _ _ _ _, Below.refl _ _⟩
  case round =>
    obtain ⟨k, hk, rfl, hown, hbw⟩ := hrel
    obtain ⟨p0, p1, p2, p3, p4⟩ := HH.out _ hbw
    have hbww := hb1.trans (hbw.mono (by omega))
    have hsz := hbw.size
    have hwz : w.heap.size < wr.heap.size := by omega
    by_cases hlt : k < T.length
    · have hx : T[k]? = some T[k] := List.getElem?_eq_getElem hlt
      obtain ⟨s, hy⟩ : ∃ s, F[k]? = some s := ⟨_, List.getElem?_eq_getElem (by have := HLE.out; omega)⟩
      obtain ⟨i1, i2⟩ := HI.out _ (mem_of_get hy)
      obtain ⟨tb, tf, rfl, htb, e3⟩ := (HT.out.up hbww) k _ (intsN_get hx)
      have HTu := Lib.hid (turned_any R C K (some ⟨tb, tf, none⟩) FA T.length tc fc F A c a k _ wr (HF.out.up hbww) (HA.out.up hbww) hy i2 ha i1 (by have := HLE.out; omega))
      rw [HLE.out] at HTu
      have HE := Lib.hid (fun W E g l (h1 : Below wr.heap.size wr W) (h2 : IntsAt W W.heap.size E l) (h3 : l.length < 1000000) => equal_any E D g d l b W h3 W.heap.size h2 ((HD.out.up hbww).up h1))
      have hkl := mkL_len T F a b k
      have htl : (tdL s a).length < 1000000 := by rw [tdL_len]; omega
      have hki : (k : Int) < (T.length : Int) := by omega
      by_cases he : tdL s a = b
      · have HK := Lib.hid (mkL_yes hx hy he)
        have hdec := Lib.hid (decide_eq_true he)
        generalize tdL s a = l at *
        generalize T[k] = t at *
        clear hx hy he
        go_wp2_with (first
          | (go_at_call 76; refine (HTu.out).mono ?_; rintro e w2 ⟨E, g, rfl, hE, hb2, _⟩)
          | (go_at_call 95; refine (HE.out _ _ _ _ hb2 hE htl).mono ?_; rintro e w3 ⟨rfl, q, rfl⟩; rw [hdec.out]; have hown3 := own_below hown (below_drewN hb2 q); have hs3 := (below_drewN hb2 q).size)
          | (at_builtin; go_must (refine wpList_append_int _ rfl _ _ rfl (w.heap.size + 1) (mkL T F a b k).length (w2.drewN q).heap.size _ _ t rfl (hown3.alloc _) rfl (heap_new _ _) (by omega) (by simp at hs3 ⊢; omega) ?_); intro A4 c4' w4 hown4 hgrow4 _))
        have hbn : Below (w.heap.size + 1) w1 w4 := ((hbw.trans ((below_drewN hb2 q).mono (by omega))).alloc (by omega) _).grown hgrow4 (by simp at hs3 ⊢; omega) (fun g hg => (hown.lt g hg).1)
        clear p0 p1 p2 p3 p4
        go_wp2
        go_roundw
        case rel => exact ⟨k + 1, by omega, by go_num, by rw [HK.out, List.length_append]; exact hown4, hbn⟩
        case measure => simp [intOf]; omega
      · have HK := Lib.hid (mkL_no hx hy he)
        have hdec := Lib.hid (decide_eq_false he)
        generalize tdL s a = l at *
        generalize T[k] = t at *
        clear hx hy he
        go_wp2_with (first
          | (go_at_call 76; refine (HTu.out).mono ?_; rintro e w2 ⟨E, g, rfl, hE, hb2, _⟩)
          | (go_at_call 95; refine (HE.out _ _ _ _ hb2 hE htl).mono ?_; rintro e w3 ⟨rfl, q, rfl⟩; rw [hdec.out]))
        have hbn : Below (w.heap.size + 1) w1 (w2.drewN q) := hbw.trans ((below_drewN hb2 q).mono (by omega))
        have hown3 := own_below hown (below_drewN hb2 q)
        go_roundw
        case rel => exact ⟨k + 1, by omega, by go_num, by rw [HK.out]; exact hown3, hbn⟩
        case measure => simp [intOf]; omega
    · have e : k = T.length := by omega
      subst e
      obtain ⟨A', c', rfl, hA', hll, hge⟩ := own_ints hown
      have hlt' := hown.lt
      have hki : ¬ (T.length : Int) < (T.length : Int) := by omega
      clear hown
      go_wp2
      go_ret
      exact ⟨A', c', rfl, hA', hbww, fun ad had => ⟨by have := (hge ad had).1; omega, by subst had; exact (hlt' _ rfl).2⟩⟩
end Go.Proofs.YtbcbaaapogejiaaDoor
