/-
  Backs as numbers: digits, and the next back.
-/
import Derived.Test.YtbcbaaapogejiaaDoorMathE
namespace Go.Proofs.YtbcbaaapogejiaaDoor

/-- The digits of a number, the last one last. -/
def digN (K : Nat) : Nat → Nat → List Nat
  | 0, _ => []
  | n + 1, m => digN K n (m / K) ++ [m % K]
theorem digN_len (K : Nat) : ∀ n m, (digN K n m).length = n
  | 0, _ => rfl
  | n + 1, m => by rw [digN, List.length_append, digN_len K n]; rfl
theorem digN_lt {K : Nat} (hK : 0 < K) : ∀ n m, ∀ x ∈ digN K n m, x < K
  | 0, _, x, h => by simp [digN] at h
  | n + 1, m, x, h => by
    rw [digN, List.mem_append, List.mem_singleton] at h
    rcases h with h | h
    · exact digN_lt hK n _ x h
    · rw [h]; exact Nat.mod_lt _ hK
theorem digN_zero (K : Nat) : ∀ n, digN K n 0 = List.replicate n 0
  | 0 => rfl
  | n + 1 => by rw [digN, Nat.zero_div, Nat.zero_mod, digN_zero K n, ← List.replicate_succ']
theorem digN_shift {K : Nat} (hK : 0 < K) (a x : Nat) : ∀ b, digN K (a + b) (x * K ^ b) = digN K a x ++ List.replicate b 0
  | 0 => by simp
  | b + 1 => by
    rw [← Nat.add_assoc, digN, Nat.pow_succ, ← Nat.mul_assoc, Nat.mul_div_cancel _ hK, Nat.mul_mod_left, digN_shift hK a x b, List.append_assoc, ← List.replicate_succ']
theorem digN_last (K a q : Nat) : (digN K (a + 1) q)[a]? = some (q % K) := by
  rw [digN, List.getElem?_append_right (by rw [digN_len]; omega), digN_len, Nat.sub_self]
  rfl

/-- A back while the places behind i are carried. -/
def carL (K i q b : Nat) : List Nat := digN K i q ++ List.replicate b 0
theorem carL_len (K i q b : Nat) : (carL K i q b).length = i + b := by unfold carL; rw [List.length_append, digN_len, List.length_replicate]
theorem carL_at (K a q b : Nat) : (carL K (a + 1) q b)[a]? = some (q % K) := by
  unfold carL
  rw [List.getElem?_append_left (by rw [digN_len]; omega)]
  exact digN_last K a q
theorem carL_set (K a q b x : Nat) : (carL K (a + 1) q b).set a x = digN K a (q / K) ++ x :: List.replicate b 0 := by
  unfold carL
  rw [List.set_append, if_pos (by rw [digN_len]; omega), digN, List.set_append, if_neg (by rw [digN_len]; omega), digN_len, Nat.sub_self]
  simp
theorem carL_carry (K a q b : Nat) : (carL K (a + 1) q b).set a 0 = carL K a (q / K) (b + 1) := by
  rw [carL_set]; unfold carL; rw [List.replicate_succ]
theorem carry_eq {K q : Nat} (hK : 0 < K) (h : q % K = K - 1) : (q / K + 1) * K = q + 1 := by
  have := Nat.div_add_mod q K
  rw [Nat.mul_comm] at this
  rw [Nat.add_mul, Nat.one_mul]
  omega
theorem carL_next {K a q b : Nat} (hK : 0 < K) (h : q % K ≠ K - 1) : (carL K (a + 1) q b).set a (q % K + 1) = digN K (a + 1 + b) ((q + 1) * K ^ b) := by
  have hlt := Nat.mod_lt q hK
  have h1 := Nat.div_add_mod q K
  have e1 : (q + 1) % K = q % K + 1 := by
    conv => lhs; rw [← h1, Nat.add_assoc, Nat.mul_add_mod]
    exact Nat.mod_eq_of_lt (by omega)
  have e2 : (q + 1) / K = q / K := by
    conv => lhs; rw [← h1, Nat.add_assoc, Nat.mul_add_div hK]
    have e0 : (q % K + 1) / K = 0 := Nat.div_eq_of_lt (by omega)
    rw [e0]; rfl
  rw [carL_set, digN_shift hK, digN, e1, e2, List.append_assoc]
  rfl
theorem digN_car (K n m : Nat) : digN K n m = carL K n m 0 := by unfold carL; simp

/-- All different backs among the first ones. -/
def allK (p : Pr) (k : Nat) : List (List Int) := ((List.range k).map fun m => (digN p.K p.n m).map (fun x : Nat => (x : Int))).filter fun b => minF b (p.imgs b) = b
theorem allK_more (p : Pr) (k : Nat) : allK p (k + 1) = allK p k ++ if minF ((digN p.K p.n k).map fun x : Nat => (x : Int)) (p.imgs ((digN p.K p.n k).map fun x : Nat => (x : Int))) = (digN p.K p.n k).map (fun x : Nat => (x : Int)) then [(digN p.K p.n k).map fun x : Nat => (x : Int)] else [] := by
  unfold allK
  rw [List.range_succ, List.map_append, List.filter_append]
  congr 1
  by_cases h : minF ((digN p.K p.n k).map fun x : Nat => (x : Int)) (p.imgs ((digN p.K p.n k).map fun x : Nat => (x : Int))) = (digN p.K p.n k).map (fun x : Nat => (x : Int)) <;> simp [h]
theorem allK_len (p : Pr) (k : Nat) : (allK p k).length ≤ k := by
  unfold allK
  exact Nat.le_trans (List.length_filter_le _ _) (by simp)
theorem allK_mem {p : Pr} {k : Nat} {x : List Int} (h : x ∈ allK p k) : x.length = p.n := by
  unfold allK at h
  obtain ⟨m, _, rfl⟩ := List.mem_map.1 (List.mem_filter.1 h).1
  rw [List.length_map, digN_len]
end Go.Proofs.YtbcbaaapogejiaaDoor
