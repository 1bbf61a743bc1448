/-
  The walk of Verify.
-/
import Derived.Test.YtcebihijnedekaaDoorWalkO
namespace Go.Proofs.YtcebihijnedekaaDoor
open Go.RowKit

theorem rngL_step : ∀ {ws : List Wy} {fl : List Int} {k : Nat} {x : Wy} {f : Int}, ws[k]? = some x → fl[k]? = some f → rngL (ws.take k) (fl.take k) = true → x.lo ≤ f → f ≤ x.hi → rngL (ws.take (k + 1)) (fl.take (k + 1)) = true
  | [], _, _, _, _, h, _, _, _, _ => by simp at h
  | _ :: _, [], _, _, _, _, h, _, _, _ => by simp at h
  | y :: ws, g :: fl, 0, x, f, h, h2, _, h3, h4 => by
    simp at h h2; subst h h2; simp [rngL, h3, h4]
  | y :: ws, g :: fl, k + 1, x, f, h, h2, h5, h3, h4 => by
    simp only [List.take_succ_cons, rngL, Bool.and_eq_true] at h5 ⊢
    exact ⟨h5.1, rngL_step (by simpa using h) (by simpa using h2) h5.2 h3 h4⟩
theorem rngL_get : ∀ {ws : List Wy} {fl : List Int}, rngL ws fl = true → ∀ (k : Nat) (x : Wy) (f : Int), ws[k]? = some x → fl[k]? = some f → x.lo ≤ f ∧ f ≤ x.hi
  | [], _, _, _, _, _, h, _ => by simp at h
  | _ :: _, [], _, _, _, _, _, h => by simp at h
  | y :: ws, g :: fl, h, 0, x, f, h1, h2 => by
    simp at h1 h2; subst h1 h2
    simp only [rngL, Bool.and_eq_true, decide_eq_true_eq] at h; exact h.1
  | y :: ws, g :: fl, h, k + 1, x, f, h1, h2 => by
    simp only [rngL, Bool.and_eq_true] at h
    exact rngL_get h.2 k x f (by simpa using h1) (by simpa using h2)

/-- The error of a list of as many numbers as ways. -/
def verT (ws : List Wy) (fl : List Int) : Int := if rngL ws fl then (if balS ws fl then 0 else 17) else 1

theorem verT_bad {ws : List Wy} {fl : List Int} (h : ¬ rngL ws fl = true) : verT ws fl = 1 := by unfold verT; rw [if_neg h]
theorem verT_good {ws : List Wy} {fl : List Int} (h : rngL ws fl = true) : verT ws fl = if balS ws fl then 0 else 17 := by unfold verT; rw [if_pos h]

/-- The error of a flow. -/
def verS (R : Int) (ws : List Wy) (fl : List Int) : Int :=
  if chk R ws = 0 then (if fl.length = ws.length then verT ws fl else 5) else chk R ws

set_option maxHeartbeats 2000000 in
theorem verify_any (R : Int) (A D : Option Addr) (c d : Nat) (ws : List Wy) (fl : List Int) (w : World) (hw : WaysAt w w.heap.size A ws) (hd : IntsAt w w.heap.size D fl) :
    Calls Tryd.prog 25 #[.agg #[.int .i64 R, .slice A ws.length c], .slice D fl.length d] w fun e w' => e = .returned (.int .i64 (verS R ws fl)) ∧ Below w.heap.size w w' := by
  have HC := Lib.hid (fun W hW => check_any R A c ws W hW)
  have hw1 := fun o => (hw.alloc (Nat.le_refl _) o).mono (B' := (w.alloc o).heap.size) (by simp)
  unfold verS
  by_cases h0 : chk R ws = 0
  rotate_left
  · rw [if_neg h0]
    generalize chk R ws = v at h0 HC ⊢
    go_enter Tryd.func25, Tryd.ntmps25
    go_wp2_with (go_at_call 23; refine (HC.out _ (hw1 _)).mono ?_; rintro e w1 ⟨rfl, hb1⟩; obtain ⟨q1, q2, q3⟩ := bcell hb1; simp only [World.size_alloc] at q1 q2 q3)
    go_ret
    exact ⟨rfl, ((Below.refl _ _).alloc (Nat.le_refl _) _).trans (hb1.mono (by simp))⟩
  obtain ⟨rooms, rfl, _, hv, hne⟩ := chk_ok h0
  rw [if_pos h0]
  rw [h0] at HC
  have hlen := hv.len
  clear h0
  by_cases hl : fl.length = ws.length
  rotate_left
  · rw [if_neg hl]
    have hl' : ((fl.length : Int) != (ws.length : Int)) = true := by simpa using (by omega : ¬ (fl.length : Int) = ws.length)
    go_enter Tryd.func25, Tryd.ntmps25
    go_wp2_with (go_at_call 23; refine (HC.out _ (hw1 _)).mono ?_; rintro e w1 ⟨rfl, hb1⟩; obtain ⟨q1, q2, q3⟩ := bcell hb1; simp only [World.size_alloc] at q1 q2 q3)
    go_ret
    exact ⟨rfl, ((Below.refl _ _).alloc (Nat.le_refl _) _).trans (hb1.mono (by simp))⟩
  rw [if_pos hl]
  have hl' : ((fl.length : Int) != (ws.length : Int)) = false := by simpa using (by omega : (fl.length : Int) = ws.length)
  have HL := Lib.hid hl
  clear hl
  go_enter Tryd.func25, Tryd.ntmps25
  go_wp2_with (go_at_call 23; refine (HC.out _ (hw1 _)).mono ?_; rintro e w1 ⟨rfl, hb1⟩; obtain ⟨q1, q2, q3⟩ := bcell hb1; simp only [World.size_alloc] at q1 q2 q3)
  have hb0 : Below w.heap.size w w1 := ((Below.refl _ _).alloc (Nat.le_refl _) _).trans (hb1.mono (by simp))
  have hc0 : w1.cell? ⟨w.heap.size, 0, none⟩ = some (.int .i64 rooms) := by rw [q1 _ _ (by omega)]; simp [go_sem]
  have hc1 : w1.cell? ⟨w.heap.size, 1, none⟩ = some (.slice A ws.length c) := by rw [q1 _ _ (by omega)]; simp [go_sem]
  have hw0 := hw.below hb0 (Nat.le_refl _)
  have hd0 := hd.below hb0 (Nat.le_refl _)
  clear hl' q1 q2 hb1 hw hd hw1 HC
  go_loopw [22] (fun i wr => ∃ k : Nat, k ≤ ws.length ∧ i = .int .i64 k ∧ Hid (rngL (ws.take k) (fl.take k) = true) ∧ Below w1.heap.size w1 wr) (fun i _ => ws.length - (intOf i).toNat)
  case atStart => exact ⟨0, Nat.zero_le _, rfl, Lib.hid rfl, Below.refl _ _⟩
  case round =>
    obtain ⟨k, hk, rfl, HK, hbw⟩ := hrel
    have hd0' := (hbw.cell (p := ⟨w.heap.size, 0, none⟩) (by simp; omega)).trans hc0
    have hd1' := (hbw.cell (p := ⟨w.heap.size, 1, none⟩) (by simp; omega)).trans hc1
    have hsz : w.heap.size < wr.heap.size := by have := hbw.size; omega
    have hww := hw0.below hbw (by omega)
    have hdd := hd0.below hbw (by omega)
    by_cases hlt : k < ws.length
    · have hx : ws[k]? = some ws[k] := List.getElem?_eq_getElem hlt
      have hlf : k < fl.length := by have := HL.out; omega
      have hy : fl[k]? = some fl[k] := List.getElem?_eq_getElem hlf
      generalize ws[k] = x at hx
      generalize fl[k] = f at hy
      obtain ⟨b1, o1, rfl, hb1, h1, h2, h3, h4⟩ := hww k x hx
      obtain ⟨b2, o2, rfl, hb2, h5⟩ := hdd k f hy
      have hb2' : b2 < wr.heap.size := by omega
      have hki : (k : Int) < (fl.length : Int) := by omega
      have hk0 : (0 : Int) ≤ (k : Int) := by omega
      have HG := Lib.hid (fun h => rngL_get (ws := ws) (fl := fl) h k x f hx hy)
      have HS := Lib.hid (fun a b => rngL_step hx hy HK.out a b)
      clear hx hy hw0 hd0 hww hdd
      rcases Int.lt_or_le f x.lo with a1 | a1
      · go_wp2
        go_quiet (fail)
        go_wp2
        go_ret
        refine ⟨ret_eq ?_, hb0.trans (below_drewN' ((hbw.mono (by omega)).alloc (by omega) _) _)⟩
        rw [verT_bad (fun h => by have := (HG.out h).1; omega)]
      · rcases Int.lt_or_le x.hi f with a2 | a2
        · have a1' : decide (f < x.lo) = false := decide_eq_false (by omega)
          go_wp2
          go_quiet (fail)
          go_wp2
          go_ret
          refine ⟨ret_eq ?_, hb0.trans (below_drewN' ((hbw.mono (by omega)).alloc (by omega) _) _)⟩
          rw [verT_bad (fun h => by have := (HG.out h).2; omega)]
        · have HT := Lib.hid (HS.out a1 a2)
          have a1' : decide (f < x.lo) = false := decide_eq_false (by omega)
          have a2' : decide (x.hi < f) = false := decide_eq_false (by omega)
          go_wp2
          go_quiet (fail)
          go_wp2
          go_roundw
          case rel => exact ⟨k + 1, by omega, by go_num, HT, below_drewN' (hbw.alloc hbw.size _) _⟩
          case measure => simp [intOf]; omega
    · have : k = ws.length := by omega
      subst this
      have hr : rngL ws fl = true := by have h1 := HK.out; have h2 := HL.out; rw [List.take_length, ← h2, List.take_length] at h1; exact h1
      have HB := Lib.hid (fun W h1 h2 => balanced_any rooms A D c d ws fl W hv hne HL.out (fun f hf => by
        obtain ⟨i, hi, rfl⟩ := List.getElem_of_mem hf
        have hiw : i < ws.length := by have := HL.out; omega
        have h3 := rngL_get hr i ws[i] fl[i] (List.getElem?_eq_getElem hiw) (List.getElem?_eq_getElem hi)
        obtain ⟨_, _, h4, h5, h6⟩ := hv.way ws[i] (List.getElem_mem hiw)
        omega) h1 h2)
      have HR := Lib.hid hr
      have hw2 := hww.mono (B' := wr.heap.size) (by omega)
      have hd2 := hdd.mono (B' := wr.heap.size) (by omega)
      generalize hbv : balS ws fl = bv at HB
      have HBV := Lib.hid hbv
      clear hr HK hww hdd hw0 hd0 hbv
      rcases bv with _ | _
      all_goals
        go_wp2_with (go_at_call 62; refine (HB.out _ hw2 hd2).mono ?_; rintro e w3 ⟨rfl, hb3⟩)
        go_ret
        exact ⟨ret_eq (by rw [verT_good HR.out, HBV.out]; rfl), hb0.trans ((hbw.mono (by omega)).trans (hb3.mono (by omega)))⟩
end Go.Proofs.YtcebihijnedekaaDoor
