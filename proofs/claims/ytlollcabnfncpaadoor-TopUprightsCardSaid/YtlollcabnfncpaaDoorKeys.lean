/-
  Maps whose keys are sets of squares: how many entries they have at most.
-/
import Derived.Test.YtlollcabnfncpaaDoorWalkC
import Derived.Maps.OwnSet
namespace Go.Proofs.YtlollcabnfncpaaDoor
open Go.RowKit Go.Maps

theorem law105 : Keyed Tryd.prog 105 := int_keyed Tryd.underlying105

theorem count_le_one {l : List Nat} (hn : l.Nodup) (N : Nat) : l.countP (fun x => decide ¬(x != N) = true) ≤ 1 := by
  have e : l.countP (fun x => decide ¬(x != N) = true) = l.count N := by
    unfold List.count
    congr 1
    funext x
    rcases h : x == N with _ | _
    · simp at h; simp [h]
    · simp at h; simp [h]
  rw [e]
  exact List.nodup_iff_count.1 hn N
theorem nodup_le : ∀ (N : Nat) (l : List Nat), l.Nodup → (∀ x ∈ l, x < N) → l.length ≤ N
  | 0, l, _, h => by
    match l with
    | [] => exact Nat.le_refl _
    | x :: _ => exact absurd (h x (List.mem_cons_self ..)) (Nat.not_lt_zero _)
  | N + 1, l, hn, h => by
    have h1 := nodup_le N (l.filter fun x => x != N) (hn.sublist List.filter_sublist) (fun x hx => by
      rw [List.mem_filter] at hx
      have := h x hx.1
      have h2 : x ≠ N := by simpa using hx.2
      omega)
    have h3 : l.length = l.countP (fun x => x != N) + l.countP (fun x => decide ¬(x != N) = true) := List.length_eq_countP_add_countP _
    have h4 := count_le_one hn N
    rw [List.countP_eq_length_filter] at h3
    omega

/-- All keys are sets of squares. -/
def KeysN {H : Type} (D : DataW H) : Prop := ∃ E, D = .map E ∧ ∀ q ∈ E, ∃ k : Nat, k < 68719476736 ∧ q.1 = .int .u64 k
theorem KeysN.empty {H : Type} : KeysN (.map [] : DataW H) := ⟨[], rfl, fun _ h => by simp at h⟩
theorem KeysN.put {H : Type} {D : DataW H} (h : KeysN D) {k : Nat} (hk : k < 68719476736) (d : DataW H) : KeysN (D.put (.int .u64 k) d) := by
  obtain ⟨E, rfl, h⟩ := h
  refine ⟨_, rfl, fun q hq => ?_⟩
  rcases List.mem_cons.1 ((WideShapes.insert_perm _ _).mem_iff.1 hq) with rfl | hq
  · exact ⟨k, hk, rfl⟩
  · exact h q (List.mem_filter.1 hq).1

theorem own_few {H : Type} {w : World} {R : Value → Option (DataW H × List MemPlace)} {b n : Nat} {D : DataW H} (h : w.ownsMap Tryd.prog 105 R b n D) (hk : KeysN D) : w.ownsMap Tryd.prog 105 R b 68719476736 D := by
  obtain ⟨E', e1', e2⟩ := h.tidy law105
  obtain ⟨E, e1, hE⟩ := hk
  obtain rfl : E' = E := by rw [e1'] at e1; injection e1
  obtain ⟨es, clock, h1, h2, h3, h4⟩ := h
  refine ⟨es, clock, h1, h2, ?_, h4⟩
  have hlen : E'.length = es.size := by
    rw [h4] at e1
    injection e1 with e1
    rw [← e1, length_sorted]
    simp
  rw [← hlen]
  have hm : (E'.map fun q => match q.1 with | .int _ k => k.toNat | _ => 0).Nodup := by
    rw [List.nodup_iff_pairwise_ne, List.pairwise_map]
    refine List.Pairwise.imp_of_mem ?_ e2
    intro p q hp hq hne e
    obtain ⟨k, _, ek⟩ := hE p hp
    obtain ⟨k', _, ek'⟩ := hE q hq
    rw [ek, ek'] at e
    simp at e
    exact hne (by rw [ek, ek', e])
  have := nodup_le 68719476736 _ hm (fun x hx => by
    obtain ⟨q, hq, rfl⟩ := List.mem_map.1 hx
    obtain ⟨k, hk, ek⟩ := hE q hq
    rw [ek]
    simpa using hk)
  rwa [List.length_map] at this
end Go.Proofs.YtlollcabnfncpaaDoor
