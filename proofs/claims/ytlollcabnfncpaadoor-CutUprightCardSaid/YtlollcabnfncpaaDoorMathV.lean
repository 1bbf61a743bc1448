/-
  Colours are even just if a side is divided; each card covers all colours equally often; a sheet that sides and colours allow can be filled: all small numbers are tried by the kernel.
-/
import Derived.Test.YtlollcabnfncpaaDoorUtA
namespace Go.Proofs.YtlollcabnfncpaaDoor

/-- A filling is searched, square by square. -/
def canB (s : Sh) : Nat → Nat → Bool
  | 0, _ => false
  | n + 1, cov => cov == whl s || (nxt s cov).any fun x => canB s n (cov ||| und s x)
theorem sum_pos {l : List Nat} : 0 < l.sum ↔ ∃ x ∈ l, 0 < x := by
  induction l with
  | nil => simp
  | cons a l ih =>
    rw [List.sum_cons]
    constructor
    · intro h
      by_cases ha : 0 < a
      · exact ⟨a, by simp, ha⟩
      · obtain ⟨x, hx, h0⟩ := ih.1 (by omega)
        exact ⟨x, by simp [hx], h0⟩
    · rintro ⟨x, hx, h0⟩
      rcases List.mem_cons.1 hx with rfl | hx
      · omega
      · have := ih.2 ⟨x, hx, h0⟩; omega
theorem canB_iff (s : Sh) : ∀ (n cov : Nat), canB s n cov = true ↔ 0 < cnt s n cov
  | 0, _ => by simp [canB, cnt]
  | n + 1, cov => by
    rw [canB, cnt]
    by_cases h : cov = whl s
    · simp [h]
    · rw [if_neg h, beq_eq_false_iff_ne.2 h, Bool.false_or, List.any_eq_true, sum_pos]
      constructor
      · rintro ⟨x, hx, h1⟩
        exact ⟨_, List.mem_map.2 ⟨x, hx, rfl⟩, (canB_iff s n _).1 h1⟩
      · rintro ⟨y, hy, h1⟩
        obtain ⟨x, hx, rfl⟩ := List.mem_map.1 hy
        exact ⟨x, hx, (canB_iff s n _).2 h1⟩

def six : List Nat := [1, 2, 3, 4, 5, 6]
theorem mem_six {n : Nat} : n ∈ six ↔ 1 ≤ n ∧ n ≤ 6 := by
  unfold six
  simp only [List.mem_cons, List.not_mem_nil, or_false]
  omega

/-- A number divides a side of the sheet. -/
def divS' (r c k : Nat) : Bool := r % k == 0 || c % k == 0
theorem even_all : (six.all fun r => six.all fun c => six.all fun k => (minI (colA k c r) == maxI (colA k c r)) == divS' r c k) = true := by decide +kernel
theorem even_div {r c k : Nat} (hr : 1 ≤ r ∧ r ≤ 6) (hc : 1 ≤ c ∧ c ≤ 6) (hk : 1 ≤ k ∧ k ≤ 6) : (minI (colA k c r) == maxI (colA k c r)) = divS' r c k := by
  have h := List.all_eq_true.1 (List.all_eq_true.1 (List.all_eq_true.1 even_all r (mem_six.2 hr)) c (mem_six.2 hc)) k (mem_six.2 hk)
  exact beq_iff_eq.1 h

/-- What sides and colours allow. -/
def wantB (s : Sh) : Bool := madeN s.r s.l s.w && madeN s.c s.l s.w && divS' s.r s.c s.l && divS' s.r s.c s.w
theorem fill_all : (six.all fun r => six.all fun c => six.all fun l => six.all fun w => wantB ⟨r, c, l, w⟩ == canB ⟨r, c, l, w⟩ 37 0) = true := by decide +kernel
theorem fill_want {s : Sh} (hs : s.Ok) : wantB s = canB s 37 0 := by
  obtain ⟨r, c, l, w⟩ := s
  obtain ⟨h1, h2, h3, h4, h5, h6, h7, h8⟩ := hs
  exact beq_iff_eq.1 (List.all_eq_true.1 (List.all_eq_true.1 (List.all_eq_true.1 (List.all_eq_true.1 fill_all r (mem_six.2 ⟨h1, h2⟩)) c (mem_six.2 ⟨h3, h4⟩)) l (mem_six.2 ⟨h5, h6⟩)) w (mem_six.2 ⟨h7, h8⟩))
theorem can_want {s : Sh} (hs : s.Ok) : canS s.r s.c s.l s.w = wantB s := by
  rw [fill_want hs, Bool.eq_iff_iff, canB_iff]
  unfold canS cntS
  rw [if_pos (chkS_ok hs), decide_eq_true_eq]
  show 0 < ((cntC s 0 : Nat) : Int) ↔ 0 < cnt s 37 0
  unfold cntC
  omega

/-- How often a card's squares have each colour, from a corner of some colour on. -/
def cdR (k a : Nat) : Nat → List Int → List Int
  | 0, l => l
  | b + 1, l => bump (cdR k a b l) ((a + b) % k)
def cdA (k at' w : Nat) : Nat → List Int
  | 0 => List.replicate k 0
  | a + 1 => cdR k (at' + a) w (cdA k at' w a)
theorem cdR_eq (k a : Nat) : ∀ (b : Nat) (l : List Int), cdR k a b l = colR k a b l
  | 0, _ => rfl
  | b + 1, l => by rw [cdR, colR, cdR_eq k a b l]
theorem cdA_len (k at' w : Nat) : ∀ a : Nat, (cdA k at' w a).length = k
  | 0 => by simp [cdA]
  | a + 1 => by rw [cdA, cdR_eq, colR_len, cdA_len k at' w a]
theorem cdA_in (k at' c : Nat) : ∀ a : Nat, InN (cdA k at' c a) ((a * c : Nat) : Int)
  | 0 => by
    intro x hx
    rw [cdA, List.mem_replicate] at hx
    omega
  | a + 1 => by
    have := (cdA_in k at' c a).colR (by omega) k (at' + a) c
    rw [cdA, cdR_eq]
    have e : (((a + 1) * c : Nat) : Int) = ((a * c : Nat) : Int) + (c : Nat) := by rw [Nat.succ_mul]; omega
    rw [e]; exact this
theorem card_all : (six.all fun l => six.all fun w => (List.range 12).all fun at' => (minI (cdA l at' w l) == maxI (cdA l at' w l)) && (minI (cdA w at' w l) == maxI (cdA w at' w l))) = true := by decide +kernel
theorem card_even {l w at' : Nat} (hl : 1 ≤ l ∧ l ≤ 6) (hw : 1 ≤ w ∧ w ≤ 6) (ha : at' < 12) : minI (cdA l at' w l) = maxI (cdA l at' w l) ∧ minI (cdA w at' w l) = maxI (cdA w at' w l) := by
  have h := List.all_eq_true.1 (List.all_eq_true.1 (List.all_eq_true.1 card_all l (mem_six.2 hl)) w (mem_six.2 hw)) at' (List.mem_range.2 ha)
  rw [Bool.and_eq_true, beq_iff_eq, beq_iff_eq] at h
  exact h
end Go.Proofs.YtlollcabnfncpaaDoor
