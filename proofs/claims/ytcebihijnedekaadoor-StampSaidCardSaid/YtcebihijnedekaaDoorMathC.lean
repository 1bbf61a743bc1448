/-
  The order of lists of rooms: the set with fewest rooms that is found by numbers is the first one in the order of lists.
-/
import Derived.Test.YtcebihijnedekaaDoorMathB
import Derived.Test.YtcebihijnedekaaDoorWalkI
namespace Go.Proofs.YtcebihijnedekaaDoor

/-- Whether a list of as many elements is smaller. -/
def befL : List Int → List Int → Bool
  | x :: a, y :: b => if x = y then befL a b else decide (x < y)
  | _, _ => false
/-- Whether a list has fewer elements than another one, or as many and is smaller. -/
def bef (a b : List Int) : Bool := if a.length = b.length then befL a b else decide (a.length < b.length)

/-- The rooms of a set that are below k, room 0 being the lowest bit. -/
def listRK (s : Nat) : Nat → List Int
  | 0 => []
  | k + 1 => if memR s (k : Int) then listRK s k ++ [(k : Int)] else listRK s k
def listR (s : Nat) : List Int := listRK s 6

theorem listRK_len (s k : Nat) : (listRK s k).length ≤ k := by
  induction k with
  | zero => simp [listRK]
  | succ k ih =>
    unfold listRK
    split
    · rw [List.length_append]; simp; omega
    · omega

/-- The best of the first sets. -/
def bestK (q : Nat → Bool) (z : List Int) : Nat → List Int
  | 0 => z
  | k + 1 => if q k = true ∧ bef (listR k) (bestK q z k) = true then listR k else bestK q z k

/-- The same rooms, counted from the other end. -/
def rv (rooms s : Nat) : Nat := (List.range rooms).foldl (fun a r => if s.testBit r then a + 2 ^ (rooms - 1 - r) else a) 0

def chkRv (rooms : Nat) : Bool := (List.range (2 ^ rooms)).all fun s =>
  decide (rv rooms s < 2 ^ rooms) && (rv rooms (rv rooms s) == s) && ((List.range rooms).all fun r => (rv rooms s).testBit r == s.testBit (rooms - 1 - r)) && (listR s == listS rooms (rv rooms s)) &&
    (s == 2 ^ rooms - 1 || bef (listR s) (listR (2 ^ rooms - 1)))
theorem chkRv_ok : ∀ rooms, rooms ≤ 6 → chkRv rooms = true := by decide +kernel

def chkBef (rooms : Nat) : Bool := (List.range (2 ^ rooms)).all fun s => (List.range (2 ^ rooms)).all fun t =>
  s == t || !(decide (popc s < popc t) || (popc s == popc t && decide (t ≤ s))) || (bef (listS rooms s) (listS rooms t) && !bef (listS rooms t) (listS rooms s))
theorem chkBef_ok : ∀ rooms, rooms ≤ 6 → chkBef rooms = true := by decide +kernel

theorem rv_facts {rooms s : Nat} (hr : rooms ≤ 6) (hs : s < 2 ^ rooms) : rv rooms s < 2 ^ rooms ∧ rv rooms (rv rooms s) = s ∧ (∀ r, r < rooms → (rv rooms s).testBit r = s.testBit (rooms - 1 - r)) ∧ listR s = listS rooms (rv rooms s) ∧
    (s ≠ 2 ^ rooms - 1 → bef (listR s) (listR (2 ^ rooms - 1)) = true) := by
  have h := List.all_eq_true.1 (chkRv_ok rooms hr) s (List.mem_range.2 hs)
  simp only [Bool.and_eq_true, decide_eq_true_eq, beq_iff_eq, Bool.or_eq_true] at h
  obtain ⟨⟨⟨⟨h1, h2⟩, h3⟩, h4⟩, h5⟩ := h
  refine ⟨h1, h2, fun r hr' => ?_, h4, fun hn => h5.resolve_left hn⟩
  have := List.all_eq_true.1 h3 r (List.mem_range.2 hr')
  simpa using this

theorem bef_facts {rooms s t : Nat} (hr : rooms ≤ 6) (hs : s < 2 ^ rooms) (ht : t < 2 ^ rooms) (hne : s ≠ t) (h : popc s < popc t ∨ (popc s = popc t ∧ t ≤ s)) : bef (listS rooms s) (listS rooms t) = true ∧ bef (listS rooms t) (listS rooms s) = false := by
  have h1 := List.all_eq_true.1 (List.all_eq_true.1 (chkBef_ok rooms hr) s (List.mem_range.2 hs)) t (List.mem_range.2 ht)
  simp only [Bool.and_eq_true, beq_iff_eq, Bool.or_eq_true, Bool.not_eq_true'] at h1
  rcases h1 with (h1 | h1) | h1
  · exact absurd h1 hne
  · have : (decide (popc s < popc t) || (popc s == popc t && decide (t ≤ s))) = true := by
      rcases h with h | ⟨h, g⟩
      · simp [h]
      · simp [h, g]
    rw [this] at h1
    cases h1
  · exact h1

theorem memR_rv {rooms p : Nat} (hr : rooms ≤ 6) (hp : p < 2 ^ rooms) (r : Int) (h0 : 0 ≤ r) (h1 : r < rooms) : memR (rv rooms p) r = memP rooms p r := by
  unfold memR memP
  rw [(rv_facts hr hp).2.2.1 r.toNat (by omega)]

/-- The best set by the order of lists is the one that is found by numbers. -/
theorem best_eq {rooms : Nat} {q q' : Nat → Bool} (hr : rooms ≤ 6) (hq : ∀ s, s < 2 ^ rooms → q (rv rooms s) = q' s) (hfull : q (2 ^ rooms - 1) = false) (hf : (fewS q' rooms).2 = true) :
    bestK q (listR (2 ^ rooms - 1)) (2 ^ rooms) = listS rooms (fewS q' rooms).1 := by
  obtain ⟨hp, hqp, hbest⟩ := fewS_best hf
  generalize (fewS q' rooms).1 = p at hp hqp hbest
  obtain ⟨h1, h2, h3, h4, h5⟩ := rv_facts hr hp
  have e1 : listR (rv rooms p) = listS rooms p := by rw [(rv_facts hr h1).2.2.2.1, h2]
  have e2 : q (rv rooms p) = true := by rw [hq p hp]; exact hqp
  have hnf : rv rooms p ≠ 2 ^ rooms - 1 := fun e => by rw [e, hfull] at e2; cases e2
  have key : ∀ s, s < 2 ^ rooms → q s = true → s ≠ rv rooms p → bef (listR (rv rooms p)) (listR s) = true ∧ bef (listR s) (listR (rv rooms p)) = false := by
    intro s hs hqs hne
    obtain ⟨g1, g2, _, g4, _⟩ := rv_facts hr hs
    have hq' : q' (rv rooms s) = true := by rw [← hq _ g1, g2]; exact hqs
    have hne' : p ≠ rv rooms s := fun e => hne (by rw [e, g2])
    have := bef_facts hr hp g1 hne' (hbest _ g1 hq')
    rw [e1, g4]
    exact this
  generalize rv rooms p = m at *
  have inv : ∀ k, k ≤ m → bestK q (listR (2 ^ rooms - 1)) k = listR (2 ^ rooms - 1) ∨ ∃ s, s < k ∧ q s = true ∧ bestK q (listR (2 ^ rooms - 1)) k = listR s := by
    intro k
    induction k with
    | zero => exact fun _ => .inl rfl
    | succ k ih =>
      intro hk
      unfold bestK
      split
      · rename_i hc; exact .inr ⟨k, by omega, hc.1, rfl⟩
      · rcases ih (by omega) with h | ⟨s, a, b, c⟩
        · exact .inl h
        · exact .inr ⟨s, by omega, b, c⟩
  have at1 : bestK q (listR (2 ^ rooms - 1)) (m + 1) = listR m := by
    unfold bestK
    rw [if_pos]
    refine ⟨e2, ?_⟩
    rcases inv m (Nat.le_refl _) with h | ⟨s, a, b, c⟩
    · rw [h]; exact (rv_facts hr h1).2.2.2.2 hnf
    · rw [c]; exact (key s (by omega) b (by omega)).1
  have aft : ∀ d, m + 1 + d ≤ 2 ^ rooms → bestK q (listR (2 ^ rooms - 1)) (m + 1 + d) = listR m := by
    intro d
    induction d with
    | zero => exact fun _ => at1
    | succ d ih =>
      intro hd
      have := ih (by omega)
      show bestK q _ ((m + 1 + d) + 1) = _
      unfold bestK
      rw [this, if_neg]
      rintro ⟨a, b⟩
      have := (key (m + 1 + d) (by omega) a (by omega)).2
      rw [b] at this; cases this
  have := aft (2 ^ rooms - (m + 1)) (by omega)
  rw [show m + 1 + (2 ^ rooms - (m + 1)) = 2 ^ rooms by omega] at this
  rw [this, e1]

/-- The set of a list of rooms in the reference, and the error of the list. -/
def setRR (rooms : Nat) : List Int → Nat → Int → Nat × Int
  | [], s, _ => (s, 0)
  | r :: l, s, last => if r < 0 ∨ (rooms : Int) ≤ r then (0, 2) else if r ≤ last then (0, 7) else setRR rooms l (s ||| 2 ^ r.toNat) r

theorem setRR_eq {rooms : Nat} : ∀ (l : List Int) (s t : Nat) (z : Int), (∀ r : Int, 0 ≤ r → r < rooms → memR s r = memP rooms t r) →
    (setRR rooms l s z).2 = (setS rooms l t z).2 ∧ ((setS rooms l t z).2 = 0 → ∀ r : Int, 0 ≤ r → r < rooms → memR (setRR rooms l s z).1 r = memP rooms (setS rooms l t z).1 r)
  | [], s, t, z, h => ⟨rfl, fun _ => h⟩
  | x :: l, s, t, z, h => by
    unfold setRR setS
    split
    · exact ⟨rfl, fun h => by cases h⟩
    split
    · exact ⟨rfl, fun h => by cases h⟩
    · rename_i h1 h2
      refine setRR_eq l _ _ x fun r h0 h1 => ?_
      have hr := h r h0 h1
      unfold memR memP at hr ⊢
      rw [Nat.testBit_or, Nat.testBit_or, hr, Nat.testBit_two_pow, Nat.testBit_two_pow]
      congr 1
      rw [decide_eq_decide]
      omega
end Go.Proofs.YtcebihijnedekaaDoor
