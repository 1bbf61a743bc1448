/-
  The reference: the first filling.
-/
import Derived.Test.YtlollcabnfncpaaDoorRefG
namespace Go.Proofs.YtlollcabnfncpaaDoor
open Go.RowKit

/-- A filling of the reference, or none, is handed back. -/
def RetRFirst (f : Option (List Cd)) (z : Int) (w : World) (e : Ending) (w' : World) : Prop :=
  ∃ A c, e = .returned (.tuple #[.slice A (f.getD []).length c, .int .i64 z]) ∧ RcdsAt w' w'.heap.size A (f.getD []) ∧ Below w.heap.size w w'

set_option maxRecDepth 100000 in
set_option maxHeartbeats 1000000 in
theorem rfill_any (r c l v : Int) (w : World) :
    Calls Tryd.prog 18 #[.agg #[.int .i64 r, .int .i64 c, .int .i64 l, .int .i64 v]] w (RetRFirst (filS r c l v) (errS r c l v (filS r c l v)) w) := by
  have HC := Lib.hid (rcheck_q r c l v w)
  have hb0 := below_new w (.cells #[.int .i64 r, .int .i64 c, .int .i64 l, .int .i64 v] 24)
  by_cases h0 : chkS r c l v = 0
  · obtain ⟨s, hs, rfl, rfl, rfl, rfl⟩ := ok_of_chk h0
    have HF := fils_q s hs 1 1 rfl (by decide) (by decide) w
    have hfil : filS s.r s.c s.l s.w = ((filC s 0 []).take 1).head? := by
      unfold filS
      rw [if_pos h0]
      have h2 : (⟨(s.r : Int).toNat, (s.c : Int).toNat, (s.l : Int).toNat, (s.w : Int).toNat⟩ : Sh) = s := rfl
      rw [h2]
      show (filC s 0 []).find? (fun _ => true) = _
      rcases filC s 0 [] with _ | ⟨x, xs⟩
      · rfl
      · rfl
    have hl1 : ((filC s 0 []).take 1).length ≤ 1 := by rw [List.length_take]; omega
    have HV := Lib.hid (fun (W : World) (o : Nat) (u : Value) (h : Below (w.alloc (.cells #[.int .i64 s.r, .int .i64 s.c, .int .i64 s.l, .int .i64 s.w] 24)).heap.size (w.alloc (.cells #[.int .i64 s.r, .int .i64 s.c, .int .i64 s.l, .int .i64 s.w] 24)) W) (e : (w.alloc (.cells #[.int .i64 s.r, .int .i64 s.c, .int .i64 s.l, .int .i64 s.w] 24)).cell? ⟨w.heap.size, o, none⟩ = some u) => show W.cell? ⟨w.heap.size, o, none⟩ = some u from (h.cell (p := ⟨w.heap.size, o, none⟩) (by simp)).trans e)
    have HC2 := Lib.hid (rcheck_q s.r s.c s.l s.w (w.alloc (.cells #[.int .i64 s.r, .int .i64 s.c, .int .i64 s.l, .int .i64 s.w] 24)))
    unfold errS
    rw [if_pos h0, hfil]
    generalize ((filC s 0 []).take 1) = fl at *
    rw [h0] at HC2
    clear h0 HC hfil
    rcases fl with _ | ⟨x, xs⟩
    · have HF := Lib.hid HF
      go_enter Tryd.func18, Tryd.ntmps18
      go_wp2_with (first
        | (go_at_call 21; with_reducible refine HC2.out _ _ (Below.refl _ _) ?_; intro w1 hb1
           have s0 := HV.out w1 0 _ hb1 (by simp [go_sem]; rfl)
           have s1 := HV.out w1 1 _ hb1 (by simp [go_sem]; rfl)
           have s2 := HV.out w1 2 _ hb1 (by simp [go_sem]; rfl)
           have s3 := HV.out w1 3 _ hb1 (by simp [go_sem]; rfl))
        | (go_at_call 64; with_reducible refine HF.out _ _ (below_via hb1) ?_; intro A9 c9 vals9 w9 _ _ hb9))
      go_ret2
      exact ⟨none, 0, rfl, RcdsAt.nil _ _ _, hb9⟩
    · have hx : xs = [] := by simpa using hl1
      subst hx
      have HF := Lib.hid HF
      go_enter Tryd.func18, Tryd.ntmps18
      go_wp2_with (first
        | (go_at_call 21; with_reducible refine HC2.out _ _ (Below.refl _ _) ?_; intro w1 hb1
           have s0 := HV.out w1 0 _ hb1 (by simp [go_sem]; rfl)
           have s1 := HV.out w1 1 _ hb1 (by simp [go_sem]; rfl)
           have s2 := HV.out w1 2 _ hb1 (by simp [go_sem]; rfl)
           have s3 := HV.out w1 3 _ hb1 (by simp [go_sem]; rfl))
        | (go_at_call 64; with_reducible refine HF.out _ _ (below_via hb1) ?_; intro A9 c9 vals9 w9 hv9 hS9 hb9
           obtain ⟨A5, c5, hv5, hR5, _⟩ := hS9.get (k := 0) (x := x) rfl
           obtain ⟨ad, rfl, had, hcell⟩ := hv9 0 _ hv5
           obtain ⟨b, off, sp⟩ := ad
           have hcell2 : w9.cell? ⟨b, off, sp⟩ = some (.slice A5 x.length c5) := hcell
           clear hv9 hv5 hcell))
      go_ret2
      exact ⟨A5, c5, rfl, hR5, hb9⟩
  · have e1 : filS r c l v = none := by unfold filS; rw [if_neg h0]
    rw [e1]
    unfold errS
    rw [if_neg h0]
    rw [chkS_one h0] at HC
    clear h0 e1
    go_enter Tryd.func18, Tryd.ntmps18
    go_wp2_with (go_at_call 21; with_reducible refine HC.out _ _ (by assumption) ?_; intro w1 hb1)
    go_ret2
    exact ⟨none, 0, rfl, RcdsAt.nil _ _ _, hb1⟩
end Go.Proofs.YtlollcabnfncpaaDoor
