/-
  The walk of Other.
-/
import Derived.Test.YtcebihijnedekaaDoorWalkR
import Derived.Test.YtcebihijnedekaaDoorWalkS
namespace Go.Proofs.YtcebihijnedekaaDoor
open Go.RowKit

theorem net_none (r : Int) : ∀ (ws : List Wy) (fl : List Int), (∀ x ∈ ws, x.src ≠ r ∧ x.dst ≠ r) → net r ws fl = 0
  | [], _, _ => rfl
  | _ :: _, [], _ => rfl
  | x :: ws, f :: fl, h => by
    obtain ⟨a, b⟩ := h x (by simp)
    simp only [net, if_neg a, if_neg b, net_none r ws fl (fun y hy => h y (by simp [hy]))]
    rfl

theorem balS_iff {rooms : Nat} {ws : List Wy} {fl : List Int} (hv : ValB rooms ws) : balS ws fl = true ↔ ∀ r, net r ws fl = 0 := by
  unfold balS
  rw [decide_eq_true_eq]
  constructor
  · rintro ⟨h0, h1, h2, h3, h4, h5⟩ r
    by_cases hr : 0 ≤ r ∧ r < 6
    · have : r = 0 ∨ r = 1 ∨ r = 2 ∨ r = 3 ∨ r = 4 ∨ r = 5 := by omega
      rcases this with rfl | rfl | rfl | rfl | rfl | rfl <;> assumption
    · refine net_none r ws fl fun x hx => ?_
      have := hv.r6
      obtain ⟨a, b, _⟩ := hv.way x hx
      omega
  · intro h; exact ⟨h 0, h 1, h 2, h 3, h 4, h 5⟩

theorem verS_ok {R : Int} {ws : List Wy} {fl : List Int} (h : verS R ws fl = 0) : ∃ rooms : Nat, R = rooms ∧ chk rooms ws = 0 ∧ ValB rooms ws ∧ fl.length = ws.length ∧
    (∀ (k : Nat) (y : Wy) (g : Int), ws[k]? = some y → fl[k]? = some g → y.lo ≤ g ∧ g ≤ y.hi) ∧ Flow ws fl := by
  unfold verS at h
  by_cases h0 : chk R ws = 0
  · obtain ⟨rooms, rfl, _, hv, _⟩ := chk_ok h0
    rw [if_pos h0] at h
    by_cases h1 : fl.length = ws.length
    · rw [if_pos h1] at h
      by_cases h2 : rngL ws fl = true
      · rw [verT_good h2] at h
        by_cases h3 : balS ws fl = true
        · exact ⟨rooms, rfl, h0, hv, h1, rngL_get h2, ⟨h1, rngL_get h2⟩, (balS_iff hv).1 h3⟩
        · rw [if_neg h3] at h; cases h
      · rw [verT_bad h2] at h; cases h
    · rw [if_neg h1] at h; cases h
  · rw [if_neg h0] at h; exact absurd h h0

/-- Another flow, and the error. -/
def othS (R : Int) (ws : List Wy) (fl : List Int) : List Int × Int :=
  if verS R ws fl = 0 then (if firstS R.toNat ws = fl then (match secK R.toNat ws fl ws.length with | some l => (l, 0) | none => ([], 12)) else (firstS R.toNat ws, 0)) else ([], verS R ws fl)

theorem secK_len {rooms : Nat} {ws : List Wy} {fl l : List Int} : ∀ j, secK rooms ws fl j = some l → True := fun _ _ => trivial

set_option maxHeartbeats 2000000 in
theorem other_any (R : Int) (A D : Option Addr) (c d : Nat) (ws : List Wy) (fl : List Int) (w : World) (hcap : fl.length ≤ d) (hw : WaysAt w w.heap.size A ws) (hd : IntsAt w w.heap.size D fl) (ht : SizesAt w) :
    Calls Tryd.prog 27 #[.agg #[.int .i64 R, .slice A ws.length c], .slice D fl.length d] w (RetList w (othS R ws fl).1 (othS R ws fl).2) := by
  have HC := Lib.hid (fun W hW hD => verify_any R A D c d ws fl W hW hD)
  have hw1 := fun o => (hw.alloc (Nat.le_refl _) o).mono (B' := (w.alloc o).heap.size) (by simp)
  have hd1 := fun o => (hd.alloc (Nat.le_refl _) o).mono (B' := (w.alloc o).heap.size) (by simp)
  have ht1 := fun o => ht.alloc o
  unfold othS
  by_cases h0 : verS R ws fl = 0
  rotate_left
  · rw [if_neg h0]
    generalize verS R ws fl = v at h0 HC ⊢
    go_enter Tryd.func27, Tryd.ntmps27
    go_wp2_with (go_at_call 25; refine (HC.out _ (hw1 _) (hd1 _)).mono ?_; rintro e w1 ⟨rfl, hb1⟩; obtain ⟨q1, q2, q3⟩ := bcell hb1; simp only [World.size_alloc] at q1 q2 q3)
    go_ret2
    exact retList_none (((Below.refl _ _).alloc (Nat.le_refl _) _).trans (hb1.mono (by simp)))
  obtain ⟨rooms, rfl, _, hv, hl, hr, hfl⟩ := verS_ok h0
  have ha := agr_of_flow hv.inW hfl
  have HF := Lib.hid (fun W hW => first_any rooms A c ws W hv ha hW)
  have HS := Lib.hid (fun W hW hD hT => second_any rooms c d A D ws fl W hv hl hcap hr hW hD hT)
  obtain ⟨f1, _⟩ := firstK_spec hv.inW hv.okW ha ws.length (Nat.le_refl _)
  have hfl12 : (firstS rooms ws).length ≤ 1000 := by have := hv.len; show (firstK rooms ws ws.length).length ≤ 1000; omega
  have HE := Lib.hid (fun W A' c' hA' hD => equal_any A' D c' d (firstS rooms ws) fl W hfl12 hA' hD)
  rw [if_pos h0, show ((rooms : Int).toNat) = rooms from rfl]
  rw [h0] at HC
  clear h0 hv hl hr hfl ha f1 hfl12
  generalize firstS rooms ws = L at HF HE ⊢
  by_cases hLf : L = fl
  · rw [if_pos hLf]
    rw [decide_eq_true hLf] at HE
    clear hLf
    generalize secK rooms ws fl ws.length = S at HS ⊢
    go_enter Tryd.func27, Tryd.ntmps27
    go_wp2_with (first
      | (go_at_call 25; refine (HC.out _ (hw1 _) (hd1 _)).mono ?_; rintro e w1 ⟨rfl, hb1⟩; obtain ⟨q1, q2, q3⟩ := bcell hb1; simp only [World.size_alloc] at q1 q2 q3; have hw2 := ((hw1 _).below hb1 (Nat.le_refl _)).mono hb1.size; have hd2 := ((hd1 _).below hb1 (Nat.le_refl _)).mono hb1.size; have ht2 := (ht1 _).below hb1; have hz2 : w.heap.size < w1.heap.size := (by omega))
      | (go_at_call 57; refine (HF.out _ hw2).mono ?_; rintro e w3 ⟨A', c', rfl, hA', hb3⟩; obtain ⟨p1, p2, p3⟩ := bcell hb3; have hw3 := (hw2.below hb3 (Nat.le_refl _)).mono hb3.size; have hd3 := (hd2.below hb3 (Nat.le_refl _)).mono hb3.size; have ht3 := ht2.below hb3; have hz3 : w.heap.size < w3.heap.size := (by omega))
      | (go_at_call 63; refine (HE.out _ _ _ hA' hd3).mono ?_; rintro e w4 ⟨rfl, hb4⟩; obtain ⟨r1, r2, r3⟩ := bcell hb4; have hw4 := (hw3.below hb4 (Nat.le_refl _)).mono hb4.size; have hd4 := (hd3.below hb4 (Nat.le_refl _)).mono hb4.size; have ht4 := ht3.below hb4)
      | (go_at_call 64; refine (HS.out _ hw4 hd4 ht4).mono ?_; rintro e w5 (⟨l, A5, c5, rfl, rfl, hA5, hb5⟩ | ⟨rfl, rfl, hb5⟩)))
    · go_ret2
      exact ⟨A5, c5, rfl, hA5, ((Below.refl _ _).alloc (Nat.le_refl _) _).trans ((hb1.mono (by simp)).trans ((hb3.mono (by omega)).trans ((hb4.mono (by omega)).trans (hb5.mono (by omega)))))⟩
    · go_ret2
      exact retList_none (((Below.refl _ _).alloc (Nat.le_refl _) _).trans ((hb1.mono (by simp)).trans ((hb3.mono (by omega)).trans ((hb4.mono (by omega)).trans (hb5.mono (by omega))))))
  · rw [if_neg hLf]
    rw [decide_eq_false hLf] at HE
    clear hLf HS
    go_enter Tryd.func27, Tryd.ntmps27
    go_wp2_with (first
      | (go_at_call 25; refine (HC.out _ (hw1 _) (hd1 _)).mono ?_; rintro e w1 ⟨rfl, hb1⟩; obtain ⟨q1, q2, q3⟩ := bcell hb1; simp only [World.size_alloc] at q1 q2 q3; have hw2 := ((hw1 _).below hb1 (Nat.le_refl _)).mono hb1.size; have hd2 := ((hd1 _).below hb1 (Nat.le_refl _)).mono hb1.size; have hz2 : w.heap.size < w1.heap.size := (by omega))
      | (go_at_call 57; refine (HF.out _ hw2).mono ?_; rintro e w3 ⟨A', c', rfl, hA', hb3⟩; obtain ⟨p1, p2, p3⟩ := bcell hb3; have hd3 := (hd2.below hb3 (Nat.le_refl _)).mono hb3.size)
      | (go_at_call 63; refine (HE.out _ _ _ hA' hd3).mono ?_; rintro e w4 ⟨rfl, hb4⟩))
    go_ret2
    exact ⟨A', c', rfl, (hA'.below hb4 (Nat.le_refl _)).mono hb4.size, ((Below.refl _ _).alloc (Nat.le_refl _) _).trans ((hb1.mono (by simp)).trans ((hb3.mono (by omega)).trans (hb4.mono (by omega))))⟩
end Go.Proofs.YtcebihijnedekaaDoor
