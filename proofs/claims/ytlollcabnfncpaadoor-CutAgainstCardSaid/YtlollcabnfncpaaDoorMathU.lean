/-
  The ends of the numbers of upright cards are those of all fillings: plain mathematics.
-/
import Derived.Test.YtlollcabnfncpaaDoorMathD
namespace Go.Proofs.YtlollcabnfncpaaDoor

/-- How many cards stand upright. -/
def upN (l : List Cd) : Nat := l.countP fun x => !x.t
theorem upN_snoc (l : List Cd) (x : Cd) : upN (l ++ [x]) = upN l + if x.t = true then 0 else 1 := by
  unfold upN
  rw [List.countP_append]
  obtain ⟨a, b, t⟩ := x
  cases t <;> simp
theorem upN_le (l : List Cd) : upN l ≤ l.length := List.countP_le_length

structure EnOf (e : En) (L : List (List Cd)) (u : Nat) : Prop where
  fd : e.fd = true ↔ L ≠ []
  lo : e.fd = true → ∃ l ∈ L, (upN l : Int) = e.lo + u
  hi : e.fd = true → ∃ l ∈ L, (upN l : Int) = e.hi + u
  all : e.fd = true → ∀ l ∈ L, e.lo + u ≤ upN l ∧ (upN l : Int) ≤ e.hi + u

theorem EnOf.none {e : En} (h : e.fd = false) (u : Nat) : EnOf e [] u := ⟨by simp [h], by simp [h], by simp [h], by simp [h]⟩
theorem EnOf.nil {e : En} {L : List (List Cd)} {u : Nat} (h : EnOf e L u) (h0 : e.fd = false) : L = [] := by
  rcases L with _ | ⟨x, l⟩
  · rfl
  · have := h.fd.2 (by simp)
    rw [h0] at this; cases this
theorem EnOf.or {a b : En} {L M : List (List Cd)} {u : Nat} (h : EnOf a L u) (k : EnOf b M u) : EnOf (a.or b) (L ++ M) u := by
  unfold En.or
  by_cases ha : a.fd = false
  · rw [if_pos ha, h.nil ha]; exact k
  · rw [if_neg ha]
    by_cases hb : b.fd = false
    · rw [if_pos hb, k.nil hb, List.append_nil]; exact h
    · rw [if_neg hb]
      have ha' : a.fd = true := by simpa using ha
      have hb' : b.fd = true := by simpa using hb
      have hne := h.fd.1 ha'
      obtain ⟨l1, m1, e1⟩ := h.lo ha'
      obtain ⟨l2, m2, e2⟩ := h.hi ha'
      obtain ⟨l3, m3, e3⟩ := k.lo hb'
      obtain ⟨l4, m4, e4⟩ := k.hi hb'
      refine ⟨by simp [hne], fun _ => ?_, fun _ => ?_, fun _ l hl => ?_⟩
      · dsimp only
        rcases Int.le_total a.lo b.lo with hh | hh
        · exact ⟨l1, List.mem_append_left _ m1, by rw [Int.min_eq_left hh]; exact e1⟩
        · exact ⟨l3, List.mem_append_right _ m3, by rw [Int.min_eq_right hh]; exact e3⟩
      · dsimp only
        rcases Int.le_total a.hi b.hi with hh | hh
        · exact ⟨l4, List.mem_append_right _ m4, by rw [Int.max_eq_right hh]; exact e4⟩
        · exact ⟨l2, List.mem_append_left _ m2, by rw [Int.max_eq_left hh]; exact e2⟩
      · dsimp only
        rcases List.mem_append.1 hl with hl | hl
        · have := h.all ha' l hl; omega
        · have := k.all hb' l hl; omega
theorem EnOf.more {a : En} {L : List (List Cd)} {u : Nat} (h : EnOf a L (u + 1)) : EnOf a.more L u := by
  refine ⟨h.fd, fun h0 => ?_, fun h0 => ?_, fun h0 l hl => ?_⟩
  · obtain ⟨l, hl, e⟩ := h.lo h0
    exact ⟨l, hl, by simp only [En.more]; omega⟩
  · obtain ⟨l, hl, e⟩ := h.hi h0
    exact ⟨l, hl, by simp only [En.more]; omega⟩
  · have := h.all h0 l hl
    simp only [En.more]; omega
theorem EnOf.fold {u : Nat} {f : Cd → En} {g : Cd → List (List Cd)} : ∀ {N : List Cd} {a : En} {L : List (List Cd)}, EnOf a L u → (∀ x ∈ N, EnOf (f x) (g x) u) → EnOf (N.foldl (fun a x => a.or (f x)) a) (L ++ N.flatMap g) u
  | [], a, L, h, _ => by simpa using h
  | x :: N, a, L, h, hN => by
    rw [List.foldl_cons, List.flatMap_cons, ← List.append_assoc]
    exact EnOf.fold (h.or (hN x (by simp))) fun y hy => hN y (by simp [hy])

theorem enOf (s : Sh) : ∀ (n cov : Nat) (pre : List Cd), EnOf (enN s n cov) (fils s n cov pre) (upN pre)
  | 0, _, _ => EnOf.none rfl _
  | n + 1, cov, pre => by
    rw [enN, fils]
    split
    · refine ⟨by simp, fun _ => ⟨pre, by simp, by simp⟩, fun _ => ⟨pre, by simp, by simp⟩, fun _ l hl => ?_⟩
      rw [List.mem_singleton.1 hl]; simp
    · refine EnOf.fold (L := []) (EnOf.none rfl _) fun x _ => ?_
      have h := enOf s n (cov ||| und s x) (pre ++ [x])
      rw [upN_snoc] at h
      split
      · rename_i ht
        rw [if_pos ht] at h
        exact h
      · rename_i ht
        rw [if_neg ht] at h
        exact h.more

/-- The smallest and the greatest number of a row of fillings, beginning with some number. -/
def mnU (x : Int) (L : List (List Cd)) : Int := L.foldl (fun a l => min a (upN l)) x
def mxU (x : Int) (L : List (List Cd)) : Int := L.foldl (fun a l => max a (upN l)) x
theorem mnU_snoc (x : Int) (L : List (List Cd)) (l : List Cd) : mnU x (L ++ [l]) = min (mnU x L) (upN l) := by simp [mnU]
theorem mxU_snoc (x : Int) (L : List (List Cd)) (l : List Cd) : mxU x (L ++ [l]) = max (mxU x L) (upN l) := by simp [mxU]
theorem mnU_spec : ∀ (L : List (List Cd)) (x : Int), mnU x L ≤ x ∧ (∀ l ∈ L, mnU x L ≤ upN l) ∧ (mnU x L = x ∨ ∃ l ∈ L, mnU x L = upN l)
  | [], x => ⟨Int.le_refl _, by simp, .inl rfl⟩
  | l :: L, x => by
    obtain ⟨h1, h2, h3⟩ := mnU_spec L (min x (upN l))
    have e : mnU x (l :: L) = mnU (min x (upN l)) L := rfl
    rw [e]
    refine ⟨by omega, fun m hm => ?_, ?_⟩
    · rcases List.mem_cons.1 hm with rfl | hm
      · omega
      · exact h2 m hm
    · rcases h3 with h3 | ⟨m, hm, h3⟩
      · rcases Int.le_total x (upN l) with hh | hh
        · rw [Int.min_eq_left hh] at h3 ⊢; exact .inl h3
        · rw [Int.min_eq_right hh] at h3 ⊢; exact .inr ⟨l, by simp, h3⟩
      · exact .inr ⟨m, by simp [hm], h3⟩
theorem mxU_spec : ∀ (L : List (List Cd)) (x : Int), x ≤ mxU x L ∧ (∀ l ∈ L, (upN l : Int) ≤ mxU x L) ∧ (mxU x L = x ∨ ∃ l ∈ L, mxU x L = upN l)
  | [], x => ⟨Int.le_refl _, by simp, .inl rfl⟩
  | l :: L, x => by
    obtain ⟨h1, h2, h3⟩ := mxU_spec L (max x (upN l))
    have e : mxU x (l :: L) = mxU (max x (upN l)) L := rfl
    rw [e]
    refine ⟨by omega, fun m hm => ?_, ?_⟩
    · rcases List.mem_cons.1 hm with rfl | hm
      · omega
      · exact h2 m hm
    · rcases h3 with h3 | ⟨m, hm, h3⟩
      · rcases Int.le_total x (upN l) with hh | hh
        · rw [Int.max_eq_right hh] at h3 ⊢; exact .inr ⟨l, by simp, h3⟩
        · rw [Int.max_eq_left hh] at h3 ⊢; exact .inl h3
      · exact .inr ⟨m, by simp [hm], h3⟩

/-- Of all fillings they are the ends that the memo tells. -/
theorem ends_eq (s : Sh) {x : List Cd} {xs : List (List Cd)} (h : filC s 0 [] = x :: xs) : (enC s 0).fd = true ∧ mnU (upN x) (x :: xs) = (enC s 0).lo ∧ mxU (upN x) (x :: xs) = (enC s 0).hi := by
  have hE : EnOf (enC s 0) (filC s 0 []) 0 := enOf s 37 0 []
  rw [h] at hE
  have hf : (enC s 0).fd = true := hE.fd.2 (by simp)
  obtain ⟨l1, m1, e1⟩ := hE.lo hf
  obtain ⟨l2, m2, e2⟩ := hE.hi hf
  have ha := hE.all hf
  obtain ⟨n1, n2, n3⟩ := mnU_spec (x :: xs) (upN x)
  obtain ⟨g1, g2, g3⟩ := mxU_spec (x :: xs) (upN x)
  refine ⟨hf, ?_, ?_⟩
  · have hlo := n2 l1 m1
    have : ∃ l ∈ x :: xs, mnU (upN x) (x :: xs) = upN l := by
      rcases n3 with n3 | n3
      · exact ⟨x, by simp, n3⟩
      · exact n3
    obtain ⟨l, hl, e⟩ := this
    have := ha l hl
    omega
  · have hlo := g2 l2 m2
    have : ∃ l ∈ x :: xs, mxU (upN x) (x :: xs) = upN l := by
      rcases g3 with g3 | g3
      · exact ⟨x, by simp, g3⟩
      · exact g3
    obtain ⟨l, hl, e⟩ := this
    have := ha l hl
    omega
theorem ends_none (s : Sh) (h : filC s 0 [] = []) : (enC s 0).fd = false := by
  have hE : EnOf (enC s 0) (filC s 0 []) 0 := enOf s 37 0 []
  rw [h] at hE
  rcases hb : (enC s 0).fd with _ | _
  · rfl
  · exact absurd rfl (hE.fd.1 hb)
end Go.Proofs.YtlollcabnfncpaaDoor
