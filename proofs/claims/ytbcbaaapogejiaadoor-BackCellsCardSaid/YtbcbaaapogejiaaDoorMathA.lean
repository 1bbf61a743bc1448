/-
  Turns, the cells that they take colours from, backs that are turned: the plain functions.
-/
namespace Go.Proofs.YtbcbaaapogejiaaDoor

/-- What a turn does. -/
structure Mv where
  x : Bool
  r : Bool
  c : Bool
deriving DecidableEq

def mvs : List Mv := [⟨false, false, false⟩, ⟨true, true, false⟩, ⟨false, true, true⟩, ⟨true, false, true⟩, ⟨false, false, true⟩, ⟨false, true, false⟩, ⟨true, false, false⟩, ⟨true, true, true⟩]
def mv (t : Nat) : Mv := mvs.getD t ⟨false, false, false⟩

def thenM (m n : Mv) : Mv := ⟨m.x != n.x, m.r != (if m.x then n.c else n.r), m.c != (if m.x then n.r else n.c)⟩

/-- The last of the first k turns that does what m does; 0 if none does. -/
def turnOf (m : Mv) : Nat → Nat
  | 0 => 0
  | k + 1 => if mv k = m then k else turnOf m k
def prodN (a b : Nat) : Nat := turnOf (thenM (mv a) (mv b)) 8
theorem prodN_lt : ∀ a, a < 8 → ∀ b, b < 8 → prodN a b < 8 := by decide +kernel

/-- The row and the column of the cell whose colour a cell gets. -/
def srow (R : Int) (m : Mv) (row col : Int) : Int := if m.r then R - 1 - (if m.x then col else row) else (if m.x then col else row)
def scol (C : Int) (m : Mv) (row col : Int) : Int := if m.c then C - 1 - (if m.x then row else col) else (if m.x then row else col)
def cellI (R C : Nat) (m : Mv) (i : Nat) : Int := srow R m (i / C : Nat) (i % C : Nat) * C + scol C m (i / C : Nat) (i % C : Nat)
def srcs (R C : Nat) (m : Mv) : List Int := (List.range (R * C)).map (cellI R C m)
theorem srcs_len (R C : Nat) (m : Mv) : (srcs R C m).length = R * C := by simp [srcs]

/-- A back that is turned, by the cells whose colours the cells get. -/
def tdL (s b : List Int) : List Int := s.map fun i => b.getD i.toNat 0
theorem tdL_len (s b : List Int) : (tdL s b).length = s.length := by simp [tdL]

/-- A press that is as it must be. -/
structure Pr where
  R : Nat
  C : Nat
  K : Nat
  T : List Nat
deriving DecidableEq

def kindOk (R C t : Nat) : Bool := R == C || !(mv t).x
structure Pr.Ok (p : Pr) : Prop where
  r1 : 1 ≤ p.R
  r4 : p.R ≤ 4
  c1 : 1 ≤ p.C
  c4 : p.C ≤ 4
  k1 : 1 ≤ p.K
  k4 : p.K ≤ 4
  t8 : ∀ t ∈ p.T, t < 8
  kind : ∀ t ∈ p.T, kindOk p.R p.C t = true
  asc : p.T.Pairwise (· < ·)
  zero : 0 ∈ p.T
  prod : ∀ a ∈ p.T, ∀ b ∈ p.T, prodN a b ∈ p.T

/-- The cells from which each turn takes colours. -/
def Pr.from (p : Pr) : List (List Int) := p.T.map fun t => srcs p.R p.C (mv t)
def Pr.n (p : Pr) : Nat := p.R * p.C
theorem Pr.Ok.n16 {p : Pr} (h : p.Ok) : 1 ≤ p.n ∧ p.n ≤ 16 := by
  have := h.r1; have := h.r4; have := h.c1; have := h.c4
  unfold Pr.n
  constructor
  · exact Nat.mul_pos (by omega) (by omega)
  · exact Nat.le_trans (Nat.mul_le_mul (h.r4) (h.c4)) (by omega)

theorem asc_len : ∀ (T : List Nat) (a b : Nat), T.Pairwise (· < ·) → (∀ t ∈ T, a ≤ t ∧ t < b) → T.length ≤ b - a
  | [], _, _, _, _ => by simp
  | t :: T, a, b, h, hb => by
    have ht := hb t (by simp)
    have := asc_len T (t + 1) b (List.pairwise_cons.1 h).2 fun u hu => ⟨(List.pairwise_cons.1 h).1 u hu, (hb u (by simp [hu])).2⟩
    simp; omega
theorem Pr.Ok.len {p : Pr} (h : p.Ok) : p.T.length ≤ 8 := by
  have := asc_len p.T 0 8 h.asc fun t ht => ⟨Nat.zero_le _, h.t8 t ht⟩
  simpa using this
theorem Pr.Ok.pos {p : Pr} (h : p.Ok) : 0 < p.T.length := List.length_pos_of_mem h.zero

/-- The cells that a turn takes colours from are cells. -/
theorem cell_in : ∀ R, R < 5 → ∀ C, C < 5 → ∀ t, t < 8 → kindOk R C t = true → (srcs R C (mv t)).all (fun i => decide (0 ≤ i ∧ i < (R * C : Nat))) = true := by decide +kernel
theorem srcs_in {R C t : Nat} (hR : R < 5) (hC : C < 5) (ht : t < 8) (hk : kindOk R C t = true) {i : Int} (hi : i ∈ srcs R C (mv t)) : 0 ≤ i ∧ i < (R * C : Nat) := by
  have := cell_in R hR C hC t ht hk
  rw [List.all_eq_true] at this
  simpa using this i hi
theorem Pr.Ok.cell {p : Pr} (h : p.Ok) {t : Nat} (ht : t ∈ p.T) {i : Int} (hi : i ∈ srcs p.R p.C (mv t)) : 0 ≤ i ∧ i < (p.n : Nat) :=
  srcs_in (by have := h.r4; omega) (by have := h.c4; omega) (h.t8 t ht) (h.kind t ht) hi

/-- The order of lists, as the library's. -/
def cmpL : List Int → List Int → Int
  | [], [] => 0
  | [], _ :: _ => -1
  | _ :: _, [] => 1
  | a :: l, b :: m => if a < b then -1 else if b < a then 1 else cmpL l m

theorem cmpL_self : ∀ l, cmpL l l = 0
  | [] => rfl
  | a :: l => by simp [cmpL, cmpL_self l]
theorem cmpL_zero : ∀ {l m}, cmpL l m = 0 → l = m
  | [], [], _ => rfl
  | [], _ :: _, h => by simp [cmpL] at h
  | _ :: _, [], h => by simp [cmpL] at h
  | a :: l, b :: m, h => by
    unfold cmpL at h
    split at h
    · omega
    · split at h
      · omega
      · rw [cmpL_zero h, show a = b by omega]
theorem cmpL_swap : ∀ l m, cmpL m l = - cmpL l m
  | [], [] => rfl
  | [], _ :: _ => rfl
  | _ :: _, [] => rfl
  | a :: l, b :: m => by
    unfold cmpL
    by_cases h1 : a < b
    · rw [if_neg (by omega : ¬ b < a), if_pos h1, if_pos h1]; rfl
    · by_cases h2 : b < a
      · rw [if_pos h2, if_neg h1, if_pos h2]; try rfl
      · rw [if_neg h2, if_neg h1, if_neg h1, if_neg h2]; exact cmpL_swap l m
theorem cmpL_trans : ∀ {l m n}, cmpL l m < 0 → cmpL m n < 0 → cmpL l n < 0
  | [], [], _, h, _ => by simp [cmpL] at h
  | [], _ :: _, [], _, h => by simp [cmpL] at h
  | [], _ :: _, _ :: _, _, _ => by simp [cmpL]
  | _ :: _, [], _, h, _ => by simp [cmpL] at h
  | _ :: _, _ :: _, [], _, h => by simp [cmpL] at h
  | a :: l, b :: m, c :: n, h1, h2 => by
    unfold cmpL at h1 h2 ⊢
    split at h1
    · split at h2
      · rw [if_pos (by omega)]; omega
      · split at h2
        · omega
        · rw [if_pos (by omega)]; omega
    · split at h1
      · omega
      · split at h2
        · rw [if_pos (by omega)]; omega
        · split at h2
          · omega
          · rw [if_neg (by omega), if_neg (by omega)]; exact cmpL_trans h1 h2
theorem cmpL_range : ∀ l m, -1 ≤ cmpL l m ∧ cmpL l m ≤ 1
  | [], [] => by simp [cmpL]
  | [], _ :: _ => by simp [cmpL]
  | _ :: _, [] => by simp [cmpL]
  | a :: l, b :: m => by
    have := cmpL_range l m
    unfold cmpL
    split
    · omega
    · split <;> omega

/-- Strictly ascending lists of lists. -/
def Asc (L : List (List Int)) : Prop := L.Pairwise fun a b => cmpL a b < 0
theorem asc_eq : ∀ {L M : List (List Int)}, Asc L → Asc M → (∀ x, x ∈ L ↔ x ∈ M) → L = M
  | [], [], _, _, _ => rfl
  | [], b :: M, _, _, h => by simpa using (h b).2 (by simp)
  | a :: L, [], _, _, h => by simpa using (h a).1 (by simp)
  | a :: L, b :: M, h1, h2, h => by
    have ha := List.pairwise_cons.1 h1
    have hb := List.pairwise_cons.1 h2
    have e : a = b := by
      rcases List.mem_cons.1 ((h a).1 (by simp)) with e | h3
      · exact e
      · rcases List.mem_cons.1 ((h b).2 (by simp)) with e | h4
        · exact e.symm
        · have := hb.1 a h3
          have := ha.1 b h4
          rw [cmpL_swap] at this; omega
    subst e
    rw [asc_eq ha.2 hb.2 fun x => ?_]
    constructor
    · intro hx
      rcases List.mem_cons.1 ((h x).1 (List.mem_cons_of_mem _ hx)) with e | h3
      · have := ha.1 x hx
        rw [e, cmpL_self] at this; omega
      · exact h3
    · intro hx
      rcases List.mem_cons.1 ((h x).2 (List.mem_cons_of_mem _ hx)) with e | h3
      · have := hb.1 x hx
        rw [e, cmpL_self] at this; omega
      · exact h3

/-- A list is put into a strictly ascending list of lists. -/
def insU (x : List Int) : List (List Int) → List (List Int)
  | [] => [x]
  | y :: l => if cmpL x y < 0 then x :: y :: l else if x = y then y :: l else y :: insU x l
theorem insU_mem (x : List Int) : ∀ (L : List (List Int)) (z : List Int), z ∈ insU x L ↔ z = x ∨ z ∈ L
  | [], z => by simp [insU]
  | y :: L, z => by
    unfold insU
    split
    · simp
    · split
      · next e => subst e; simp
      · simp only [List.mem_cons, insU_mem x L z]
        constructor
        · rintro (h | h | h)
          · exact .inr (.inl h)
          · exact .inl h
          · exact .inr (.inr h)
        · rintro (h | h | h)
          · exact .inr (.inl h)
          · exact .inl h
          · exact .inr (.inr h)
theorem insU_asc (x : List Int) : ∀ {L : List (List Int)}, Asc L → Asc (insU x L)
  | [], _ => by simp [insU, Asc]
  | y :: L, h => by
    have hy := List.pairwise_cons.1 h
    unfold insU
    split
    · next h1 => exact List.pairwise_cons.2 ⟨fun z hz => by
        rcases List.mem_cons.1 hz with e | hz
        · rw [e]; exact h1
        · exact cmpL_trans h1 (hy.1 z hz), h⟩
    · split
      · exact h
      · next h1 h2 => exact List.pairwise_cons.2 ⟨fun z hz => by
          rcases (insU_mem x L z).1 hz with e | hz
          · rw [e, cmpL_swap]
            have : cmpL x y ≠ 0 := fun h => h2 (cmpL_zero h)
            omega
          · exact hy.1 z hz, insU_asc x hy.2⟩
def kinU : List (List Int) → List (List Int)
  | [] => []
  | x :: L => insU x (kinU L)
theorem kinU_asc : ∀ L, Asc (kinU L)
  | [] => List.Pairwise.nil
  | x :: L => insU_asc x (kinU_asc L)
theorem kinU_mem : ∀ (L : List (List Int)) (z : List Int), z ∈ kinU L ↔ z ∈ L
  | [], z => by simp [kinU]
  | x :: L, z => by rw [kinU, insU_mem, kinU_mem L z, List.mem_cons]

/-- All backs that are alike to one, in ascending order. -/
def Pr.imgs (p : Pr) (b : List Int) : List (List Int) := p.from.map fun s => tdL s b
def Pr.kin (p : Pr) (b : List Int) : List (List Int) := kinU (p.imgs b)
/-- The turns that make a back another one. -/
def Pr.makes (p : Pr) (a b : List Int) : List Nat := p.T.filter fun t => tdL (srcs p.R p.C (mv t)) a = b
end Go.Proofs.YtbcbaaapogejiaaDoor
