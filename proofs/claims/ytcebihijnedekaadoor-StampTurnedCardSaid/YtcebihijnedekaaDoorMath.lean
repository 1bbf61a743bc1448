/-
  Plain mathematics of flows between bounds: books have a flow just if no rooms prove the contrary, and a way has, in some flow, just the numbers of its span. No program stands in it.
-/
namespace Go.Proofs.YtcebihijnedekaaDoor
/-- A way. -/
structure Wy where
  src : Int
  dst : Int
  lo : Int
  hi : Int
deriving DecidableEq

def lv (m : Int → Bool) (w : Wy) : Bool := m w.src && !m w.dst
def en (m : Int → Bool) (w : Wy) : Bool := m w.dst && !m w.src
def xb : Bool → Bool → Int → Int → Int
  | true, false, lo, _ => lo
  | false, true, _, hi => -hi
  | _, _, _, _ => 0
def ex1 (m : Int → Bool) (w : Wy) : Int := xb (m w.src) (m w.dst) w.lo w.hi
def ex (m : Int → Bool) : List Wy → Int
  | [] => 0
  | w :: ws => ex1 m w + ex m ws

theorem ex_append (m : Int → Bool) (a b : List Wy) : ex m (a ++ b) = ex m a + ex m b := by
  induction a with
  | nil => simp [ex]
  | cons w a ih => simp only [List.cons_append, ex, ih]; omega

theorem ex1_sub (m1 m2 : Int → Bool) (w : Wy) (h : w.lo ≤ w.hi) :
    ex1 m1 w + ex1 m2 w ≤ ex1 (fun r => m1 r && m2 r) w + ex1 (fun r => m1 r || m2 r) w := by
  unfold ex1
  dsimp only
  generalize m1 w.src = a, m1 w.dst = b, m2 w.src = c, m2 w.dst = d
  cases a <;> cases b <;> cases c <;> cases d <;> simp [xb] <;> omega

theorem ex1_cross (m1 m2 : Int → Bool) (w : Wy) (h1 : en m1 w = true) (h2 : lv m2 w = true) :
    ex1 m1 w + ex1 m2 w + (w.hi - w.lo) ≤ ex1 (fun r => m1 r && m2 r) w + ex1 (fun r => m1 r || m2 r) w := by
  unfold ex1 lv en at *
  dsimp only at *
  revert h1 h2
  generalize m1 w.src = a, m1 w.dst = b, m2 w.src = c, m2 w.dst = d
  cases a <;> cases b <;> cases c <;> cases d <;> simp [xb] <;> omega

def okW (ws : List Wy) : Prop := ∀ w ∈ ws, w.lo ≤ w.hi

theorem ex_sub (m1 m2 : Int → Bool) (ws : List Wy) (h : okW ws) :
    ex m1 ws + ex m2 ws ≤ ex (fun r => m1 r && m2 r) ws + ex (fun r => m1 r || m2 r) ws := by
  induction ws with
  | nil => simp [ex]
  | cons w ws ih =>
    have := ex1_sub m1 m2 w (h w (by simp))
    have := ih (fun x hx => h x (by simp [hx]))
    simp only [ex]; omega

theorem ex_cross (m1 m2 : Int → Bool) : ∀ (ws : List Wy) (k : Nat) (w : Wy), okW ws → ws[k]? = some w → en m1 w = true → lv m2 w = true →
    ex m1 ws + ex m2 ws + (w.hi - w.lo) ≤ ex (fun r => m1 r && m2 r) ws + ex (fun r => m1 r || m2 r) ws := by
  intro ws
  induction ws with
  | nil => intro k w _ h; simp at h
  | cons x ws ih =>
    intro k w hok hk h1 h2
    cases k with
    | zero =>
      simp at hk; subst hk
      have := ex1_cross m1 m2 x h1 h2
      have := ex_sub m1 m2 ws (fun y hy => hok y (by simp [hy]))
      simp only [ex]; omega
    | succ k =>
      simp at hk
      have := ih k w (fun y hy => hok y (by simp [hy])) hk h1 h2
      have := ex1_sub m1 m2 x (hok x (by simp))
      simp only [ex]; omega

def Agr (ws : List Wy) : Prop := ∀ m, ex m ws ≤ 0

theorem says_le {ws : List Wy} (ha : Agr ws) (hok : okW ws) {k : Nat} {w : Wy} (hk : ws[k]? = some w) {m1 m2 : Int → Bool} (h1 : en m1 w = true) (h2 : lv m2 w = true) :
    w.hi + ex m1 ws ≤ w.lo - ex m2 ws := by
  have := ex_cross m1 m2 ws k w hok hk h1 h2
  have := ha (fun r => m1 r && m2 r)
  have := ha (fun r => m1 r || m2 r)
  omega

theorem ex_set (m : Int → Bool) : ∀ (ws : List Wy) (k : Nat) (w x : Wy), ws[k]? = some w → ex m (ws.set k x) = ex m ws - ex1 m w + ex1 m x := by
  intro ws
  induction ws with
  | nil => intro k w x h; simp at h
  | cons y ws ih =>
    intro k w x h
    cases k with
    | zero => simp at h; subst h; simp only [List.set_cons_zero, ex]; omega
    | succ k => simp at h; have := ih k w x h; simp only [List.set_cons_succ, ex, this]; omega

/-- A way with just one number. -/
def fixW (w : Wy) (n : Int) : Wy := { w with lo := n, hi := n }

theorem getElem?_mem_set {α : Type} {l : List α} {k i : Nat} {x : α} (hk : k < l.length) : (l.set k x)[i]? = if i = k then some x else l[i]? := by
  rw [List.getElem?_set]
  by_cases h : k = i
  · subst h; simp [hk]
  · rw [if_neg h, if_neg (fun e => h e.symm)]

theorem lt_of_get {α : Type} {l : List α} {k : Nat} {w : α} (h : l[k]? = some w) : k < l.length := by
  obtain ⟨h, _⟩ := List.getElem?_eq_some_iff.1 h; exact h

theorem okW_set {ws : List Wy} (h : okW ws) (k : Nat) (w : Wy) (n : Int) : okW (ws.set k (fixW w n)) := by
  intro x hx
  rcases List.mem_or_eq_of_mem_set hx with hx | hx
  · exact h x hx
  · subst hx; exact Int.le_refl _

theorem xb_cases (m : Int → Bool) (w : Wy) : (lv m w = true ∧ en m w = false ∧ ex1 m w = w.lo ∧ ∀ n, ex1 m (fixW w n) = n) ∨
    (lv m w = false ∧ en m w = true ∧ ex1 m w = -w.hi ∧ ∀ n, ex1 m (fixW w n) = -n) ∨ (lv m w = false ∧ en m w = false ∧ ex1 m w = 0 ∧ ∀ n, ex1 m (fixW w n) = 0) := by
  unfold lv en ex1 fixW
  dsimp only
  generalize m w.src = a, m w.dst = b
  cases a <;> cases b <;> simp [xb]

/-- Of books that agree, a way can be fixed at just the numbers that all sets allow. -/
theorem agr_set {ws : List Wy} (ha : Agr ws) {k : Nat} {w : Wy} (hk : ws[k]? = some w) (n : Int) :
    Agr (ws.set k (fixW w n)) ↔ ∀ m, (en m w = true → w.hi + ex m ws ≤ n) ∧ (lv m w = true → n ≤ w.lo - ex m ws) := by
  constructor
  · intro h m
    have h1 := h m
    rw [ex_set m ws k w _ hk] at h1
    rcases xb_cases m w with ⟨a, b, c, d⟩ | ⟨a, b, c, d⟩ | ⟨a, b, c, d⟩ <;> rw [c, d] at h1 <;> simp only [a, b, Bool.false_eq_true, false_implies, true_implies, true_and, and_true] <;> omega
  · intro h m
    have h1 := h m
    have h2 := ha m
    rw [ex_set m ws k w _ hk]
    rcases xb_cases m w with ⟨a, b, c, d⟩ | ⟨a, b, c, d⟩ | ⟨a, b, c, d⟩ <;> rw [c, d] <;> simp only [a, b, Bool.false_eq_true, false_implies, true_implies, true_and, and_true] at h1 <;> omega

/-- Rooms of ways. -/
def inW (rooms : Nat) (ws : List Wy) : Prop := ∀ w ∈ ws, (0 ≤ w.src ∧ w.src < rooms) ∧ (0 ≤ w.dst ∧ w.dst < rooms)

theorem ex_congr {rooms : Nat} {ws : List Wy} (hv : inW rooms ws) {m m' : Int → Bool} (h : ∀ r : Int, 0 ≤ r → r < rooms → m r = m' r) : ex m ws = ex m' ws := by
  induction ws with
  | nil => rfl
  | cons w ws ih =>
    have hw := hv w (by simp)
    simp only [ex, ex1, h _ hw.1.1 hw.1.2, h _ hw.2.1 hw.2.2, ih (fun x hx => hv x (by simp [hx]))]

theorem set_of_mem (m : Nat → Bool) : ∀ rooms : Nat, ∃ set, set < 2 ^ rooms ∧ ∀ r, r < rooms → set.testBit r = m r
  | 0 => ⟨0, by simp, fun r h => absurd h (by omega)⟩
  | n + 1 => by
    obtain ⟨s, hs, h⟩ := set_of_mem m n
    by_cases hm : m n = true
    · refine ⟨2 ^ n + s, by rw [Nat.pow_succ]; omega, fun r hr => ?_⟩
      rcases Nat.lt_or_eq_of_le (Nat.le_of_lt_succ hr) with hlt | rfl
      · rw [Nat.testBit_two_pow_add_gt hlt, h r hlt]
      · rw [Nat.testBit_two_pow_add_eq, Nat.testBit_lt_two_pow hs, hm]; rfl
    · refine ⟨s, by rw [Nat.pow_succ]; omega, fun r hr => ?_⟩
      rcases Nat.lt_or_eq_of_le (Nat.le_of_lt_succ hr) with hlt | rfl
      · exact h r hlt
      · rw [Nat.testBit_lt_two_pow hs]; simpa using hm

/-- The rooms of a set: room 0 has the highest bit. -/
def memP (rooms set : Nat) (r : Int) : Bool := set.testBit (rooms - 1 - r.toNat)

theorem memP_all (rooms : Nat) (m : Int → Bool) : ∃ set, set < 2 ^ rooms ∧ ∀ r : Int, 0 ≤ r → r < rooms → memP rooms set r = m r := by
  obtain ⟨s, hs, h⟩ := set_of_mem (fun r => m ((rooms - 1 - r : Nat) : Int)) rooms
  refine ⟨s, hs, fun r h0 h1 => ?_⟩
  unfold memP
  rw [h _ (by omega)]
  congr 1
  omega

/-- The rooms of a set: room 0 has the lowest bit. -/
def memR (set : Nat) (r : Int) : Bool := set.testBit r.toNat

theorem memR_all (rooms : Nat) (m : Int → Bool) : ∃ set, set < 2 ^ rooms ∧ ∀ r : Int, 0 ≤ r → r < rooms → memR set r = m r := by
  obtain ⟨s, hs, h⟩ := set_of_mem (fun r => m (r : Int)) rooms
  refine ⟨s, hs, fun r h0 h1 => ?_⟩
  unfold memR
  rw [h _ (by omega)]
  congr 1
  omega

theorem agr_iffP {rooms : Nat} {ws : List Wy} (hv : inW rooms ws) : Agr ws ↔ ∀ set, set < 2 ^ rooms → ex (memP rooms set) ws ≤ 0 := by
  constructor
  · exact fun h set _ => h _
  · intro h m
    obtain ⟨set, hs, hm⟩ := memP_all rooms m
    rw [← ex_congr hv hm]
    exact h set hs

theorem agr_iffR {rooms : Nat} {ws : List Wy} (hv : inW rooms ws) : Agr ws ↔ ∀ set, set < 2 ^ rooms → ex (memR set) ws ≤ 0 := by
  constructor
  · exact fun h set _ => h _
  · intro h m
    obtain ⟨set, hs, hm⟩ := memR_all rooms m
    rw [← ex_congr hv hm]
    exact h set hs

/-- The span of a way, as far as the first sets say. -/
def spanK (rooms : Nat) (ws : List Wy) (w : Wy) : Nat → Int × Int
  | 0 => (w.lo, w.hi)
  | k + 1 =>
    let p := spanK rooms ws w k
    if lv (memP rooms k) w then (p.1, min p.2 (w.lo - ex (memP rooms k) ws))
    else if en (memP rooms k) w then (max p.1 (w.hi + ex (memP rooms k) ws), p.2)
    else p

theorem spanK_spec (rooms : Nat) (ws : List Wy) (w : Wy) : ∀ k,
    (w.lo ≤ (spanK rooms ws w k).1 ∧ (∀ s, s < k → en (memP rooms s) w = true → w.hi + ex (memP rooms s) ws ≤ (spanK rooms ws w k).1) ∧
      ((spanK rooms ws w k).1 = w.lo ∨ ∃ s, s < k ∧ en (memP rooms s) w = true ∧ (spanK rooms ws w k).1 = w.hi + ex (memP rooms s) ws)) ∧
    ((spanK rooms ws w k).2 ≤ w.hi ∧ (∀ s, s < k → lv (memP rooms s) w = true → (spanK rooms ws w k).2 ≤ w.lo - ex (memP rooms s) ws) ∧
      ((spanK rooms ws w k).2 = w.hi ∨ ∃ s, s < k ∧ lv (memP rooms s) w = true ∧ (spanK rooms ws w k).2 = w.lo - ex (memP rooms s) ws)) := by
  intro k
  induction k with
  | zero => simp [spanK]
  | succ k ih =>
    obtain ⟨⟨a1, a2, a3⟩, b1, b2, b3⟩ := ih
    simp only [spanK]
    have hx := xb_cases (memP rooms k) w
    generalize hp : spanK rooms ws w k = p at *
    by_cases hl : lv (memP rooms k) w = true
    · rw [if_pos hl]
      have he : en (memP rooms k) w = false := by rcases hx with h | h | h <;> simp_all
      dsimp only
      refine ⟨⟨a1, fun s hs h => ?_, ?_⟩, by omega, fun s hs h => ?_, ?_⟩
      · rcases Nat.lt_or_eq_of_le (Nat.le_of_lt_succ hs) with hlt | rfl
        · exact a2 s hlt h
        · rw [he] at h; cases h
      · rcases a3 with h | ⟨s, hs, h⟩
        · exact .inl h
        · exact .inr ⟨s, by omega, h⟩
      · rcases Nat.lt_or_eq_of_le (Nat.le_of_lt_succ hs) with hlt | rfl
        · have := b2 s hlt h; omega
        · omega
      · rcases Int.le_total p.2 (w.lo - ex (memP rooms k) ws) with h | h
        · rw [Int.min_eq_left h]
          rcases b3 with h | ⟨s, hs, h⟩
          · exact .inl h
          · exact .inr ⟨s, by omega, h⟩
        · rw [Int.min_eq_right h]
          exact .inr ⟨k, by omega, hl, rfl⟩
    · rw [if_neg hl]
      by_cases he : en (memP rooms k) w = true
      · rw [if_pos he]
        dsimp only
        refine ⟨⟨by omega, fun s hs h => ?_, ?_⟩, b1, fun s hs h => ?_, ?_⟩
        · rcases Nat.lt_or_eq_of_le (Nat.le_of_lt_succ hs) with hlt | rfl
          · have := a2 s hlt h; omega
          · omega
        · rcases Int.le_total p.1 (w.hi + ex (memP rooms k) ws) with h | h
          · rw [Int.max_eq_right h]
            exact .inr ⟨k, by omega, he, rfl⟩
          · rw [Int.max_eq_left h]
            rcases a3 with h | ⟨s, hs, h⟩
            · exact .inl h
            · exact .inr ⟨s, by omega, h⟩
        · rcases Nat.lt_or_eq_of_le (Nat.le_of_lt_succ hs) with hlt | rfl
          · exact b2 s hlt h
          · exact absurd h hl
        · rcases b3 with h | ⟨s, hs, h⟩
          · exact .inl h
          · exact .inr ⟨s, by omega, h⟩
      · rw [if_neg he]
        refine ⟨⟨a1, fun s hs h => ?_, ?_⟩, b1, fun s hs h => ?_, ?_⟩
        · rcases Nat.lt_or_eq_of_le (Nat.le_of_lt_succ hs) with hlt | rfl
          · exact a2 s hlt h
          · exact absurd h he
        · rcases a3 with h | ⟨s, hs, h⟩
          · exact .inl h
          · exact .inr ⟨s, by omega, h⟩
        · rcases Nat.lt_or_eq_of_le (Nat.le_of_lt_succ hs) with hlt | rfl
          · exact b2 s hlt h
          · exact absurd h hl
        · rcases b3 with h | ⟨s, hs, h⟩
          · exact .inl h
          · exact .inr ⟨s, by omega, h⟩

/-- The span of a way. -/
def spanS (rooms : Nat) (ws : List Wy) (w : Wy) : Int × Int := spanK rooms ws w (2 ^ rooms)

theorem lv_congr {rooms : Nat} {ws : List Wy} (hv : inW rooms ws) {w : Wy} (hw : w ∈ ws) {m m' : Int → Bool} (h : ∀ r : Int, 0 ≤ r → r < rooms → m r = m' r) : lv m w = lv m' w ∧ en m w = en m' w := by
  obtain ⟨a, b⟩ := hv w hw
  unfold lv en
  rw [h _ a.1 a.2, h _ b.1 b.2]; exact ⟨rfl, rfl⟩

theorem mem_of_get {α : Type} {l : List α} {k : Nat} {w : α} (h : l[k]? = some w) : w ∈ l := List.mem_of_getElem? h

/-- What all sets say of a way is just the span. -/
theorem span_iff {rooms : Nat} {ws : List Wy} (hv : inW rooms ws) {k : Nat} {w : Wy} (hk : ws[k]? = some w) (n : Int) (h1 : w.lo ≤ n) (h2 : n ≤ w.hi) :
    (∀ m, (en m w = true → w.hi + ex m ws ≤ n) ∧ (lv m w = true → n ≤ w.lo - ex m ws)) ↔ (spanS rooms ws w).1 ≤ n ∧ n ≤ (spanS rooms ws w).2 := by
  obtain ⟨⟨a1, a2, a3⟩, b1, b2, b3⟩ := spanK_spec rooms ws w (2 ^ rooms)
  unfold spanS
  constructor
  · intro h
    constructor
    · rcases a3 with e | ⟨s, _, he, e⟩
      · omega
      · have := (h (memP rooms s)).1 he; omega
    · rcases b3 with e | ⟨s, _, he, e⟩
      · omega
      · have := (h (memP rooms s)).2 he; omega
  · intro ⟨hl, hr⟩ m
    obtain ⟨s, hs, hm⟩ := memP_all rooms m
    have c := lv_congr hv (mem_of_get hk) hm
    have d := ex_congr hv hm
    constructor
    · intro he
      have := a2 s hs (by rw [c.2]; exact he)
      rw [d] at this; omega
    · intro he
      have := b2 s hs (by rw [c.1]; exact he)
      rw [d] at this; omega

theorem span_in {rooms : Nat} {ws : List Wy} {k : Nat} {w : Wy} (hk : ws[k]? = some w) (ha : Agr ws) (hok : okW ws) :
    w.lo ≤ (spanS rooms ws w).1 ∧ (spanS rooms ws w).1 ≤ (spanS rooms ws w).2 ∧ (spanS rooms ws w).2 ≤ w.hi := by
  obtain ⟨⟨a1, a2, a3⟩, b1, b2, b3⟩ := spanK_spec rooms ws w (2 ^ rooms)
  unfold spanS
  refine ⟨a1, ?_, b1⟩
  have hw := hok w (mem_of_get hk)
  rcases a3 with e | ⟨s, _, he, e⟩ <;> rcases b3 with f | ⟨t, _, ht, f⟩ <;> rw [e, f]
  · exact hw
  · have := ha (memP rooms t); omega
  · have := ha (memP rooms s); omega
  · exact says_le ha hok hk he ht

/-- Of books that agree, a way can be fixed at just the numbers of its span. -/
theorem agr_fix {rooms : Nat} {ws : List Wy} (hv : inW rooms ws) (ha : Agr ws) {k : Nat} {w : Wy} (hk : ws[k]? = some w) (n : Int) (h1 : w.lo ≤ n) (h2 : n ≤ w.hi) :
    Agr (ws.set k (fixW w n)) ↔ (spanS rooms ws w).1 ≤ n ∧ n ≤ (spanS rooms ws w).2 :=
  (agr_set ha hk n).trans (span_iff hv hk n h1 h2)

theorem inW_set {rooms : Nat} {ws : List Wy} (hv : inW rooms ws) {k : Nat} {w : Wy} (hk : ws[k]? = some w) (n : Int) : inW rooms (ws.set k (fixW w n)) := by
  intro x hx
  rcases List.mem_or_eq_of_mem_set hx with hx | hx
  · exact hv x hx
  · subst hx; exact hv w (mem_of_get hk)

-- flows

def net (r : Int) : List Wy → List Int → Int
  | w :: ws, f :: fl => (if w.dst = r then f else 0) - (if w.src = r then f else 0) + net r ws fl
  | _, _ => 0

def inR (ws : List Wy) (fl : List Int) : Prop := fl.length = ws.length ∧ ∀ (i : Nat) (w : Wy) (f : Int), ws[i]? = some w → fl[i]? = some f → w.lo ≤ f ∧ f ≤ w.hi

def Flow (ws : List Wy) (fl : List Int) : Prop := inR ws fl ∧ ∀ r, net r ws fl = 0

/-- What leaves some rooms, less what enters them. -/
def outS (m : Int → Bool) : List Wy → List Int → Int
  | w :: ws, f :: fl => xb (m w.src) (m w.dst) f f + outS m ws fl
  | _, _ => 0

def netSum : Nat → (Int → Bool) → List Wy → List Int → Int
  | 0, _, _, _ => 0
  | n + 1, m, ws, fl => (if m n then net n ws fl else 0) + netSum n m ws fl

theorem netSum_nil (n : Nat) (m : Int → Bool) (fl : List Int) : netSum n m [] fl = 0 := by
  induction n with
  | zero => rfl
  | succ n ih => simp [netSum, net, ih]
theorem netSum_nil' (n : Nat) (m : Int → Bool) (ws : List Wy) : netSum n m ws [] = 0 := by
  induction n with
  | zero => rfl
  | succ n ih => cases ws <;> simp [netSum, net, ih]

theorem ifc {p q : Prop} [Decidable p] [Decidable q] (h : p ↔ q) (a b : Int) : (if p then a else b) = if q then a else b := by
  by_cases hp : p
  · rw [if_pos hp, if_pos (h.1 hp)]
  · rw [if_neg hp, if_neg (fun x => hp (h.2 x))]

theorem netSum_cons (n : Nat) (m : Int → Bool) (w : Wy) (ws : List Wy) (f : Int) (fl : List Int) :
    netSum n m (w :: ws) (f :: fl) = (if 0 ≤ w.dst ∧ w.dst < n ∧ m w.dst = true then f else 0) - (if 0 ≤ w.src ∧ w.src < n ∧ m w.src = true then f else 0) + netSum n m ws fl := by
  induction n with
  | zero =>
    simp only [netSum]
    rw [if_neg (fun h => by have := h.1; have := h.2.1; omega), if_neg (fun h => by have := h.1; have := h.2.1; omega)]; omega
  | succ n ih =>
    simp only [netSum, net, ih]
    by_cases hm : m n = true
    · simp only [hm, if_true]
      have e1 : (if 0 ≤ w.dst ∧ w.dst < ((n + 1 : Nat) : Int) ∧ m w.dst = true then f else 0) = (if w.dst = n then f else 0) + (if 0 ≤ w.dst ∧ w.dst < (n : Int) ∧ m w.dst = true then f else 0) := by
        by_cases h : w.dst = n
        · rw [if_pos ⟨by omega, by omega, by rw [h]; exact hm⟩, if_pos h, if_neg (fun h3 => by have := h3.2.1; omega)]; omega
        · rw [if_neg h]
          by_cases h2 : 0 ≤ w.dst ∧ w.dst < (n : Int) ∧ m w.dst = true
          · rw [if_pos h2, if_pos ⟨h2.1, by omega, h2.2.2⟩]; omega
          · rw [if_neg h2, if_neg (fun h3 => h2 ⟨h3.1, by omega, h3.2.2⟩)]; omega
      have e2 : (if 0 ≤ w.src ∧ w.src < ((n + 1 : Nat) : Int) ∧ m w.src = true then f else 0) = (if w.src = n then f else 0) + (if 0 ≤ w.src ∧ w.src < (n : Int) ∧ m w.src = true then f else 0) := by
        by_cases h : w.src = n
        · rw [if_pos ⟨by omega, by omega, by rw [h]; exact hm⟩, if_pos h, if_neg (fun h3 => by have := h3.2.1; omega)]; omega
        · rw [if_neg h]
          by_cases h2 : 0 ≤ w.src ∧ w.src < (n : Int) ∧ m w.src = true
          · rw [if_pos h2, if_pos ⟨h2.1, by omega, h2.2.2⟩]; omega
          · rw [if_neg h2, if_neg (fun h3 => h2 ⟨h3.1, by omega, h3.2.2⟩)]; omega
      rw [e1, e2]; omega
    · have hm' : m n = false := by simpa using hm
      simp only [hm', Bool.false_eq_true, if_false]
      have e : ∀ x : Int, (0 ≤ x ∧ x < ((n + 1 : Nat) : Int) ∧ m x = true) ↔ (0 ≤ x ∧ x < (n : Int) ∧ m x = true) := by
        intro x
        constructor
        · rintro ⟨a, b, c⟩
          refine ⟨a, ?_, c⟩
          rcases Int.lt_or_eq_of_le (show x ≤ n by omega) with h | h
          · exact h
          · rw [h] at c; exact absurd c hm
        · rintro ⟨a, b, c⟩; exact ⟨a, by omega, c⟩
      rw [ifc (e w.dst), ifc (e w.src)]; omega

theorem outS_eq {rooms : Nat} (m : Int → Bool) : ∀ (ws : List Wy) (fl : List Int), inW rooms ws → outS m ws fl = - netSum rooms m ws fl := by
  intro ws
  induction ws with
  | nil => intro fl _; rw [netSum_nil]; cases fl <;> rfl
  | cons w ws ih =>
    intro fl hv
    cases fl with
    | nil => rw [netSum_nil']; rfl
    | cons f fl =>
      rw [netSum_cons, outS, ih fl (fun x hx => hv x (by simp [hx]))]
      obtain ⟨a, b⟩ := hv w (by simp)
      have e1 : (if 0 ≤ w.dst ∧ w.dst < (rooms : Int) ∧ m w.dst = true then f else 0) = if m w.dst = true then f else 0 := ifc ⟨fun h => h.2.2, fun h => ⟨b.1, b.2, h⟩⟩ _ _
      have e2 : (if 0 ≤ w.src ∧ w.src < (rooms : Int) ∧ m w.src = true then f else 0) = if m w.src = true then f else 0 := ifc ⟨fun h => h.2.2, fun h => ⟨a.1, a.2, h⟩⟩ _ _
      rw [e1, e2]
      cases m w.src <;> cases m w.dst <;> simp [xb] <;> omega

theorem netSum_zero (n : Nat) (m : Int → Bool) (ws : List Wy) (fl : List Int) (h : ∀ r, net r ws fl = 0) : netSum n m ws fl = 0 := by
  induction n with
  | zero => rfl
  | succ n ih => simp [netSum, h, ih]

theorem inR_cons {w : Wy} {ws : List Wy} {f : Int} {fl : List Int} : inR (w :: ws) (f :: fl) ↔ (w.lo ≤ f ∧ f ≤ w.hi) ∧ inR ws fl := by
  constructor
  · intro ⟨h1, h2⟩
    exact ⟨h2 0 w f rfl rfl, by simpa using h1, fun i x g hx hg => h2 (i + 1) x g (by simpa using hx) (by simpa using hg)⟩
  · intro ⟨h0, h1, h2⟩
    refine ⟨by simpa using h1, fun i x g hx hg => ?_⟩
    cases i with
    | zero => simp at hx hg; subst hx hg; exact h0
    | succ i => exact h2 i x g (by simpa using hx) (by simpa using hg)

theorem ex_le_outS (m : Int → Bool) : ∀ (ws : List Wy) (fl : List Int), inR ws fl → ex m ws ≤ outS m ws fl := by
  intro ws
  induction ws with
  | nil => intro fl _; cases fl <;> simp [ex, outS]
  | cons w ws ih =>
    intro fl h
    cases fl with
    | nil => have := h.1; simp at this
    | cons f fl =>
      obtain ⟨h0, h1⟩ := inR_cons.1 h
      have := ih fl h1
      simp only [ex, ex1, outS]
      cases m w.src <;> cases m w.dst <;> simp [xb] <;> omega

/-- Hoffman: a flow leaves no proof. -/
theorem agr_of_flow {rooms : Nat} {ws : List Wy} (hv : inW rooms ws) {fl : List Int} (h : Flow ws fl) : Agr ws := by
  intro m
  have h1 := ex_le_outS m ws fl h.1
  rw [outS_eq m ws fl hv, netSum_zero _ _ _ _ h.2] at h1
  omega

theorem outS_one (r : Int) : ∀ (ws : List Wy) (fl : List Int), outS (fun x => decide (x = r)) ws fl = - net r ws fl ∧ outS (fun x => !decide (x = r)) ws fl = net r ws fl := by
  intro ws
  induction ws with
  | nil => intro fl; cases fl <;> exact ⟨rfl, rfl⟩
  | cons w ws ih =>
    intro fl
    cases fl with
    | nil => exact ⟨rfl, rfl⟩
    | cons f fl =>
      obtain ⟨a, b⟩ := ih fl
      simp only [outS, net, a, b]
      by_cases h1 : w.src = r <;> by_cases h2 : w.dst = r <;> simp [h1, h2, xb] <;> omega

theorem outS_fixed (m : Int → Bool) : ∀ (ws : List Wy), (∀ w ∈ ws, w.lo = w.hi) → outS m ws (ws.map (·.lo)) = ex m ws := by
  intro ws
  induction ws with
  | nil => intro _; rfl
  | cons w ws ih =>
    intro h
    simp only [List.map_cons, outS, ex, ih (fun x hx => h x (by simp [hx])), ex1, ← h w (by simp)]

theorem flow_of_fixed {ws : List Wy} (ha : Agr ws) (hf : ∀ w ∈ ws, w.lo = w.hi) : Flow ws (ws.map (·.lo)) := by
  refine ⟨⟨by simp, fun i w f hw hg => ?_⟩, fun r => ?_⟩
  · rw [List.getElem?_map, hw] at hg
    simp at hg
    have := hf w (mem_of_get hw)
    omega
  · obtain ⟨a, b⟩ := outS_one r ws (ws.map (·.lo))
    rw [outS_fixed _ ws hf] at a b
    have := ha (fun x => decide (x = r))
    have := ha (fun x => !decide (x = r))
    omega

/-- The first ways have just the given numbers. -/
def keptS : List Wy → List Int → List Wy
  | [], _ => []
  | w :: ws, [] => w :: ws
  | w :: ws, n :: ns => fixW w n :: keptS ws ns

theorem keptS_nil (ws : List Wy) : keptS ws [] = ws := by cases ws <;> rfl
theorem keptS_length : ∀ (ws : List Wy) (ns : List Int), (keptS ws ns).length = ws.length
  | [], _ => rfl
  | _ :: _, [] => rfl
  | _ :: ws, _ :: ns => by simp [keptS, keptS_length ws ns]
theorem keptS_get_ge : ∀ (ws : List Wy) (ns : List Int) (k : Nat), ns.length ≤ k → (keptS ws ns)[k]? = ws[k]?
  | [], _, _, _ => rfl
  | _ :: _, [], _, _ => rfl
  | _ :: ws, _ :: ns, 0, h => by simp at h
  | _ :: ws, _ :: ns, k + 1, h => by simpa [keptS] using keptS_get_ge ws ns k (by simpa using h)
theorem keptS_get_lt : ∀ (ws : List Wy) (ns : List Int) (k : Nat) (n : Int) (w : Wy), ns[k]? = some n → ws[k]? = some w → (keptS ws ns)[k]? = some (fixW w n)
  | [], _, _, _, _, _, h => by simp at h
  | _ :: _, [], _, _, _, h, _ => by simp at h
  | _ :: ws, _ :: ns, 0, n, w, h, g => by simp at h g; subst h g; rfl
  | _ :: ws, _ :: ns, k + 1, n, w, h, g => by simpa [keptS] using keptS_get_lt ws ns k n w (by simpa using h) (by simpa using g)
theorem keptS_snoc : ∀ (ws : List Wy) (ns : List Int) (n : Int) (w : Wy), ws[ns.length]? = some w → keptS ws (ns ++ [n]) = (keptS ws ns).set ns.length (fixW w n)
  | [], _, _, _, h => by simp at h
  | x :: ws, [], n, w, h => by simp at h; subst h; simp [keptS, keptS_nil]
  | x :: ws, y :: ns, n, w, h => by
    simp only [List.cons_append, keptS, List.length_cons, List.set_cons_succ]
    rw [keptS_snoc ws ns n w (by simpa using h)]

/-- The first numbers of the first flow. -/
def firstK (rooms : Nat) (ws : List Wy) : Nat → List Int
  | 0 => []
  | k + 1 =>
    let fl := firstK rooms ws k
    match ws[k]? with
    | some w => fl ++ [(spanS rooms (keptS ws fl) w).1]
    | none => fl

def firstS (rooms : Nat) (ws : List Wy) : List Int := firstK rooms ws ws.length

theorem firstK_spec {rooms : Nat} {ws : List Wy} (hv : inW rooms ws) (hok : okW ws) (ha : Agr ws) : ∀ k, k ≤ ws.length →
    (firstK rooms ws k).length = k ∧ Agr (keptS ws (firstK rooms ws k)) ∧ okW (keptS ws (firstK rooms ws k)) ∧ inW rooms (keptS ws (firstK rooms ws k)) ∧
      ∀ (i : Nat) (w : Wy) (f : Int), ws[i]? = some w → (firstK rooms ws k)[i]? = some f → w.lo ≤ f ∧ f ≤ w.hi := by
  intro k
  induction k with
  | zero => intro _; refine ⟨rfl, ?_, ?_, ?_, ?_⟩ <;> simp only [firstK, keptS_nil] <;> first | assumption | (intro i w f _ h; simp at h)
  | succ k ih =>
    intro hk
    obtain ⟨h1, h2, h3, h4, h5⟩ := ih (by omega)
    have hw : ws[k]? = some (ws[k]'(by omega)) := List.getElem?_eq_getElem (by omega)
    generalize ws[k]'(by omega) = w at hw
    have hw' : (keptS ws (firstK rooms ws k))[k]? = some w := by rw [keptS_get_ge _ _ _ (by omega)]; exact hw
    have hs := span_in (rooms := rooms) hw' h2 h3
    simp only [firstK, hw]
    have hsn := keptS_snoc ws (firstK rooms ws k) (spanS rooms (keptS ws (firstK rooms ws k)) w).1 w (by rw [h1]; exact hw)
    rw [hsn, h1]
    refine ⟨by simp [h1], (agr_fix h4 h2 hw' _ (by omega) (by omega)).2 (by omega), okW_set h3 _ _ _, inW_set h4 hw' _, fun i x f hx hf => ?_⟩
    by_cases hi : i < k
    · rw [List.getElem?_append_left (by omega)] at hf
      exact h5 i x f hx hf
    · rw [List.getElem?_append_right (by omega), h1] at hf
      have : i = k := by
        have := lt_of_get hf
        simp at this; omega
      subst this
      rw [hw] at hx; simp at hx hf; subst hx hf
      omega

theorem keptS_map_lo : ∀ (ws : List Wy) (ns : List Int), ns.length = ws.length → (keptS ws ns).map (·.lo) = ns ∧ (∀ w ∈ keptS ws ns, w.lo = w.hi)
  | [], [], _ => ⟨rfl, fun w h => by simp [keptS] at h⟩
  | [], _ :: _, h => by simp at h
  | _ :: _, [], h => by simp at h
  | w :: ws, n :: ns, h => by
    obtain ⟨a, b⟩ := keptS_map_lo ws ns (by simpa using h)
    refine ⟨by simp [keptS, a, fixW], fun x hx => ?_⟩
    simp only [keptS, List.mem_cons] at hx
    rcases hx with rfl | hx
    · rfl
    · exact b x hx

theorem net_kept (r : Int) : ∀ (ws : List Wy) (ns fl : List Int), net r (keptS ws ns) fl = net r ws fl
  | [], _, _ => rfl
  | _ :: _, [], _ => rfl
  | w :: ws, _ :: ns, [] => rfl
  | w :: ws, _ :: ns, f :: fl => by simp only [keptS, net, fixW, net_kept r ws ns fl]

/-- THE FIRST FLOW IS A FLOW. -/
theorem firstS_flow {rooms : Nat} {ws : List Wy} (hv : inW rooms ws) (hok : okW ws) (ha : Agr ws) : Flow ws (firstS rooms ws) := by
  obtain ⟨h1, h2, _, _, h5⟩ := firstK_spec hv hok ha ws.length (Nat.le_refl _)
  obtain ⟨a, b⟩ := keptS_map_lo ws (firstS rooms ws) h1
  have hf := flow_of_fixed h2 b
  refine ⟨⟨h1, h5⟩, fun r => ?_⟩
  have := hf.2 r
  rw [show List.map (·.lo) (keptS ws (firstK rooms ws ws.length)) = firstS rooms ws from a, net_kept] at this
  exact this

/-- HOFFMAN. -/
theorem hoffman {rooms : Nat} {ws : List Wy} (hv : inW rooms ws) (hok : okW ws) : Agr ws ↔ ∃ fl, Flow ws fl :=
  ⟨fun h => ⟨_, firstS_flow hv hok h⟩, fun ⟨_, h⟩ => agr_of_flow hv h⟩

theorem flow_kept : ∀ (ws : List Wy) (ns fl : List Int), Flow ws fl → (∀ i n, ns[i]? = some n → fl[i]? = some n ∨ fl.length ≤ i) → Flow (keptS ws ns) fl := by
  intro ws ns fl h hp
  refine ⟨⟨by rw [keptS_length]; exact h.1.1, fun i w f hw hf => ?_⟩, fun r => by rw [net_kept]; exact h.2 r⟩
  have hi : i < fl.length := lt_of_get hf
  have hx : ws[i]? = some (ws[i]'(by have := h.1.1; omega)) := List.getElem?_eq_getElem (by have := h.1.1; omega)
  by_cases hn : i < ns.length
  · have hg : ns[i]? = some ns[i] := List.getElem?_eq_getElem hn
    rw [keptS_get_lt ws ns i _ _ hg hx] at hw
    rcases hp i _ hg with e | e
    · rw [hf] at e
      simp at e hw
      subst hw
      simp [fixW, e]
    · omega
  · rw [keptS_get_ge ws ns i (by omega)] at hw
    exact h.1.2 i w f hw hf

/-- In each flow a way has a number from its span. -/
theorem flow_span {rooms : Nat} {ws : List Wy} (hv : inW rooms ws) {fl : List Int} (h : Flow ws fl) {k : Nat} {w : Wy} {f : Int} (hk : ws[k]? = some w) (hf : fl[k]? = some f) :
    (spanS rooms ws w).1 ≤ f ∧ f ≤ (spanS rooms ws w).2 := by
  have hr := h.1.2 k w f hk hf
  refine (agr_fix hv (agr_of_flow hv h) hk f hr.1 hr.2).1 (agr_of_flow (inW_set hv hk f) (fl := fl) ?_)
  refine ⟨⟨by simpa using h.1.1, fun i x g hx hg => ?_⟩, fun r => ?_⟩
  · rw [getElem?_mem_set (lt_of_get hk)] at hx
    by_cases hi : i = k
    · subst hi; rw [if_pos rfl] at hx; rw [hf] at hg; simp at hx hg; subst hx hg; simp [fixW]
    · rw [if_neg hi] at hx; exact h.1.2 i x g hx hg
  · have : ∀ (ws : List Wy) (fl : List Int) (k : Nat) (w : Wy), ws[k]? = some w → net r (ws.set k (fixW w f)) fl = net r ws fl := by
      intro ws
      induction ws with
      | nil => intro fl k w hk; simp at hk
      | cons y ws ih =>
        intro fl k w hk
        cases k with
        | zero => simp at hk; subst hk; cases fl <;> simp [net, fixW]
        | succ k => cases fl <;> simp [net]; exact ih _ k w (by simpa using hk)
    rw [this ws fl k w hk]; exact h.2 r

/-- Each number of a span is that of some flow. -/
theorem span_flow {rooms : Nat} {ws : List Wy} (hv : inW rooms ws) (hok : okW ws) (ha : Agr ws) {k : Nat} {w : Wy} (hk : ws[k]? = some w) {n : Int}
    (h1 : (spanS rooms ws w).1 ≤ n) (h2 : n ≤ (spanS rooms ws w).2) : ∃ fl, Flow ws fl ∧ fl[k]? = some n := by
  have hs := span_in (rooms := rooms) hk ha hok
  have hag := (agr_fix hv ha hk n (by omega) (by omega)).2 ⟨h1, h2⟩
  obtain ⟨fl, hf⟩ := (hoffman (inW_set hv hk n) (okW_set hok k w n)).1 hag
  have hlen : fl.length = ws.length := by simpa using hf.1.1
  have hkl := lt_of_get hk
  have hg : fl[k]? = some fl[k] := List.getElem?_eq_getElem (by omega)
  have hn := hf.1.2 k (fixW w n) fl[k] (by rw [getElem?_mem_set hkl, if_pos rfl]) hg
  have e : fl[k] = n := by simp [fixW] at hn; omega
  refine ⟨fl, ⟨⟨hlen, fun i x g hx hg' => ?_⟩, fun r => ?_⟩, by rw [hg, e]⟩
  · by_cases hi : i = k
    · subst hi; rw [hk] at hx; simp at hx; subst hx
      rw [hg] at hg'; simp at hg'; omega
    · exact hf.1.2 i x g (by rw [getElem?_mem_set hkl, if_neg hi]; exact hx) hg'
  · have : ∀ (ws : List Wy) (fl : List Int) (k : Nat) (w : Wy), ws[k]? = some w → net r (ws.set k (fixW w n)) fl = net r ws fl := by
      intro ws
      induction ws with
      | nil => intro fl k w hk; simp at hk
      | cons y ws ih =>
        intro fl k w hk
        cases k with
        | zero => simp at hk; subst hk; cases fl <;> simp [net, fixW]
        | succ k => cases fl <;> simp [net]; exact ih _ k w (by simpa using hk)
    rw [← this ws fl k w hk]; exact hf.2 r
end Go.Proofs.YtcebihijnedekaaDoor
