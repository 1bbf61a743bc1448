/-
  Upright and turned cards as stamps: plain mathematics.
-/
import Derived.Test.YtlollcabnfncpaaDoorStpD
namespace Go.Proofs.YtlollcabnfncpaaDoor.Stp
open Go.RowKit

/-- The book of upright and turned cards. -/
def wsU (a b n : Int) : List Wy := [⟨0, 1, a, b⟩, ⟨0, 1, 0, n⟩, ⟨1, 0, n, n⟩]
def tryU (a b n : Nat) : Bool := decide (spsS 2 (wsU a b n) = ([((a : Int), (b : Int)), ((n : Int) - b, (n : Int) - a), ((n : Int), (n : Int))], 0))
theorem try_all : ((List.range 31).all fun n => (List.range (n + 1)).all fun b => (List.range (b + 1)).all fun a => tryU a b n) = true := by decide +kernel
theorem sps_u {a b n : Nat} (h1 : a ≤ b) (h2 : b ≤ n) (h3 : n ≤ 30) : spsS 2 (wsU a b n) = ([((a : Int), (b : Int)), ((n : Int) - b, (n : Int) - a), ((n : Int), (n : Int))], 0) := by
  have h := List.all_eq_true.1 (List.all_eq_true.1 (List.all_eq_true.1 try_all n (List.mem_range.2 (by omega))) b (List.mem_range.2 (by omega))) a (List.mem_range.2 (by omega))
  exact of_decide_eq_true h
theorem ver_u {a b n u : Nat} (h1 : a ≤ u) (h2 : u ≤ b) (h3 : b ≤ n) (h4 : n ≤ 30) : verS 2 (wsU a b n) [(u : Int), (n : Int) - u, (n : Int)] = 0 := by
  have hc : chk 2 (wsU a b n) = 0 := by
    have h := sps_u (a := a) (b := b) (n := n) (by omega) h3 h4
    unfold spsS at h
    split at h
    · rename_i h5
      unfold chkA at h5
      split at h5
      · assumption
      · rename_i h6; exact absurd h5 h6
    · rename_i h5
      rw [Prod.mk.injEq] at h
      exact absurd h.1 (by simp)
  unfold verS
  have hl : [(u : Int), (n : Int) - u, (n : Int)].length = (wsU a b n).length := rfl
  rw [if_pos hc, if_pos hl]
  unfold verT
  have hr : rngL (wsU a b n) [(u : Int), (n : Int) - u, (n : Int)] = true := by
    unfold wsU
    simp only [rngL, Bool.and_eq_true, decide_eq_true_eq, and_true]
    omega
  have hb : balS (wsU a b n) [(u : Int), (n : Int) - u, (n : Int)] = true := by
    unfold balS wsU
    rw [decide_eq_true_eq]
    simp [net]
    omega
  rw [hr, if_pos rfl, hb, if_pos rfl]
def wsW : List Wy := [⟨0, 1, 5, 9⟩, ⟨1, 2, 0, 7⟩, ⟨2, 0, 4, 6⟩]
theorem frs_w : frsS 3 wsW = ([5, 5, 5], 0) := by decide +kernel
end Go.Proofs.YtlollcabnfncpaaDoor.Stp
