/-
  The reference: how many fillings there are, whether there is one, and the first one.
-/
import Derived.Test.YtlollcabnfncpaaDoorRefF
import Derived.Test.YtlollcabnfncpaaDoorSrcC
namespace Go.Proofs.YtlollcabnfncpaaDoor
open Go.RowKit

theorem all_taken {s : Sh} (hs : s.Ok) : (filC s 0 []).take 1048576 = filC s 0 [] := List.take_of_length_le (by have := filC_small hs 0 []; omega)

/-- The fillings that are asked for with a number of the text. -/
theorem fils_q (s : Sh) (hs : s.Ok) (most : Nat) (m : Int) (hm : m = most) (h1 : 1 ≤ most) (h2 : most ≤ 1048576) (w0 W : World) (Q : Ending → World → Prop) (hb : Below w0.heap.size w0 W)
    (hQ : ∀ A c vals w', (∀ j u, vals[j]? = some u → ∃ ad, A = some ad ∧ ad.block < w'.heap.size ∧ w'.cell? (ad.add j) = some u) → Sls w' (fun _ => True) vals ((filC s 0 []).take most) → Below w0.heap.size w0 w' → Q (.returned (.slice A ((filC s 0 []).take most).length c)) w') :
    Calls Tryd.prog 64 #[.agg #[.int .i64 s.r, .int .i64 s.c, .int .i64 s.l, .int .i64 s.w], .slice none 0 0, .int .i64 m] W Q := by
  subst hm
  refine (fils_any s hs most W h1 h2).mono ?_
  rintro e w' ⟨A, c, vals, rfl, g1, g2, g3⟩
  exact hQ A c vals w' g1 (g2.imp fun _ _ => trivial) (hb.trans (g3.mono hb.size))

theorem rcheck_q (r c l v : Int) (w0 W : World) (Q : Ending → World → Prop) (hb : Below w0.heap.size w0 W) (hQ : ∀ w', Below w0.heap.size w0 w' → Q (.returned (.int .i64 (chkS r c l v))) w') :
    Calls Tryd.prog 21 #[.agg #[.int .i64 r, .int .i64 c, .int .i64 l, .int .i64 v]] W Q :=
  (rcheck_any r c l v W).mono fun _ w' ⟨he, hb'⟩ => he ▸ hQ w' (hb.trans (hb'.mono hb.size))

theorem chkS_one {r c l v : Int} (h : ¬ chkS r c l v = 0) : chkS r c l v = 1 := by unfold chkS at h ⊢; split <;> simp_all

set_option maxRecDepth 100000 in
set_option maxHeartbeats 1000000 in
theorem rcount_any (r c l v : Int) (w : World) :
    Calls Tryd.prog 24 #[.agg #[.int .i64 r, .int .i64 c, .int .i64 l, .int .i64 v]] w fun e w' => e = .returned (.tuple #[.int .i64 (cntS r c l v), .int .i64 (chkS r c l v)]) ∧ Below w.heap.size w w' := by
  have HC := Lib.hid (rcheck_q r c l v w)
  have hb0 := below_new w (.cells #[.int .i64 r, .int .i64 c, .int .i64 l, .int .i64 v] 24)
  by_cases h0 : chkS r c l v = 0
  · obtain ⟨s, hs, rfl, rfl, rfl, rfl⟩ := ok_of_chk h0
    have HF := Lib.hid (fils_q s hs 1048576 1048576 rfl (by decide) (by decide) w)
    have HN := Lib.hid (show ((((filC s 0 []).take 1048576).length : Nat) : Int) = cntS s.r s.c s.l s.w by rw [all_taken hs, cntC_len]; unfold cntS; rw [if_pos h0]; rfl)
    have HV := Lib.hid (fun (W : World) (o : Nat) (u : Value) (h : Below (w.alloc (.cells #[.int .i64 s.r, .int .i64 s.c, .int .i64 s.l, .int .i64 s.w] 24)).heap.size (w.alloc (.cells #[.int .i64 s.r, .int .i64 s.c, .int .i64 s.l, .int .i64 s.w] 24)) W) (e : (w.alloc (.cells #[.int .i64 s.r, .int .i64 s.c, .int .i64 s.l, .int .i64 s.w] 24)).cell? ⟨w.heap.size, o, none⟩ = some u) => show W.cell? ⟨w.heap.size, o, none⟩ = some u from (h.cell (p := ⟨w.heap.size, o, none⟩) (by simp)).trans e)
    have HC2 := Lib.hid (rcheck_q s.r s.c s.l s.w (w.alloc (.cells #[.int .i64 s.r, .int .i64 s.c, .int .i64 s.l, .int .i64 s.w] 24)))
    generalize ((filC s 0 []).take 1048576) = fl at *
    rw [h0] at HC2 ⊢
    clear h0 HC
    go_enter Tryd.func24, Tryd.ntmps24
    go_wp2_with (first
      | (go_at_call 21; with_reducible refine HC2.out _ _ (Below.refl _ _) ?_; intro w1 hb1
         have s0 := HV.out w1 0 _ hb1 (by simp [go_sem]; rfl)
         have s1 := HV.out w1 1 _ hb1 (by simp [go_sem]; rfl)
         have s2 := HV.out w1 2 _ hb1 (by simp [go_sem]; rfl)
         have s3 := HV.out w1 3 _ hb1 (by simp [go_sem]; rfl))
      | (go_at_call 64; with_reducible refine HF.out _ _ (below_via hb1) ?_; intro A9 c9 vals9 w9 _ _ hb9))
    go_ret2
    exact ⟨by rw [← HN.out]; rfl, hb9⟩
  · have e1 : cntS r c l v = 0 := by unfold cntS; rw [if_neg h0]
    rw [e1, chkS_one h0]
    rw [chkS_one h0] at HC
    clear h0 e1
    go_enter Tryd.func24, Tryd.ntmps24
    go_wp2_with (go_at_call 21; with_reducible refine HC.out _ _ (by assumption) ?_; intro w1 hb1)
    go_ret2
    exact ⟨rfl, hb1⟩

set_option maxRecDepth 100000 in
set_option maxHeartbeats 1000000 in
theorem rcan_any (r c l v : Int) (w : World) :
    Calls Tryd.prog 16 #[.agg #[.int .i64 r, .int .i64 c, .int .i64 l, .int .i64 v]] w fun e w' => e = .returned (.tuple #[.bool (canS r c l v), .int .i64 (chkS r c l v)]) ∧ Below w.heap.size w w' := by
  have HC := Lib.hid (rcheck_q r c l v w)
  have hb0 := below_new w (.cells #[.int .i64 r, .int .i64 c, .int .i64 l, .int .i64 v] 24)
  by_cases h0 : chkS r c l v = 0
  · obtain ⟨s, hs, rfl, rfl, rfl, rfl⟩ := ok_of_chk h0
    have HF := Lib.hid (fils_q s hs 1 1 rfl (by decide) (by decide) w)
    have HN := Lib.hid (show decide (0 < ((filC s 0 []).take 1).length) = canS s.r s.c s.l s.w by
      have h1 := cntC_len s 0 []
      unfold canS cntS
      rw [if_pos h0, List.length_take]
      have h2 : (⟨(s.r : Int).toNat, (s.c : Int).toNat, (s.l : Int).toNat, (s.w : Int).toNat⟩ : Sh) = s := rfl
      rw [h2, ← h1, Bool.eq_iff_iff, decide_eq_true_eq, decide_eq_true_eq]
      omega)
    have HV := Lib.hid (fun (W : World) (o : Nat) (u : Value) (h : Below (w.alloc (.cells #[.int .i64 s.r, .int .i64 s.c, .int .i64 s.l, .int .i64 s.w] 24)).heap.size (w.alloc (.cells #[.int .i64 s.r, .int .i64 s.c, .int .i64 s.l, .int .i64 s.w] 24)) W) (e : (w.alloc (.cells #[.int .i64 s.r, .int .i64 s.c, .int .i64 s.l, .int .i64 s.w] 24)).cell? ⟨w.heap.size, o, none⟩ = some u) => show W.cell? ⟨w.heap.size, o, none⟩ = some u from (h.cell (p := ⟨w.heap.size, o, none⟩) (by simp)).trans e)
    have HC2 := Lib.hid (rcheck_q s.r s.c s.l s.w (w.alloc (.cells #[.int .i64 s.r, .int .i64 s.c, .int .i64 s.l, .int .i64 s.w] 24)))
    generalize ((filC s 0 []).take 1) = fl at *
    generalize canS s.r s.c s.l s.w = cs at *
    rw [h0] at HC2 ⊢
    clear h0 HC
    go_enter Tryd.func16, Tryd.ntmps16
    go_wp2_with (first
      | (go_at_call 21; with_reducible refine HC2.out _ _ (Below.refl _ _) ?_; intro w1 hb1
         have s0 := HV.out w1 0 _ hb1 (by simp [go_sem]; rfl)
         have s1 := HV.out w1 1 _ hb1 (by simp [go_sem]; rfl)
         have s2 := HV.out w1 2 _ hb1 (by simp [go_sem]; rfl)
         have s3 := HV.out w1 3 _ hb1 (by simp [go_sem]; rfl))
      | (go_at_call 64; with_reducible refine HF.out _ _ (below_via hb1) ?_; intro A9 c9 vals9 w9 _ _ hb9))
    go_ret2
    exact ⟨by rw [← HN.out]; rfl, hb9⟩
  · have e1 : canS r c l v = false := by unfold canS cntS; rw [if_neg h0]; rfl
    rw [e1, chkS_one h0]
    rw [chkS_one h0] at HC
    clear h0 e1
    go_enter Tryd.func16, Tryd.ntmps16
    go_wp2_with (go_at_call 21; with_reducible refine HC.out _ _ (by assumption) ?_; intro w1 hb1)
    go_ret2
    exact ⟨rfl, hb1⟩
end Go.Proofs.YtlollcabnfncpaaDoor
