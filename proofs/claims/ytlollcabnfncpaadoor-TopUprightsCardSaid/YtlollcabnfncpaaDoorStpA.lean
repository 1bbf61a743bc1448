/-
  Stamps in this seat: Hoffman's condition; books and their errors.
-/
import Derived.Test.YtlollcabnfncpaaDoorProg
import Derived.WalkKit
import Derived.WalkSpells
import Derived.WalkLawsBesides
import Derived.Laws.BitsAllLaws
import Derived.Laws.BitsLemmas
import Derived.Lib.Hide
namespace Go.Proofs.YtlollcabnfncpaaDoor.Stp
open Go.RowKit

/-- A way. -/
structure Wy where
  src : Int
  dst : Int
  lo : Int
  hi : Int
deriving DecidableEq

def lv (m : Int → Bool) (w : Wy) : Bool := m w.src && !m w.dst
def en (m : Int → Bool) (w : Wy) : Bool := m w.dst && !m w.src
def xb : Bool → Bool → Int → Int → Int
  | true, false, lo, _ => lo
  | false, true, _, hi => -hi
  | _, _, _, _ => 0
def ex1 (m : Int → Bool) (w : Wy) : Int := xb (m w.src) (m w.dst) w.lo w.hi
def ex (m : Int → Bool) : List Wy → Int
  | [] => 0
  | w :: ws => ex1 m w + ex m ws

theorem ex_append (m : Int → Bool) (a b : List Wy) : ex m (a ++ b) = ex m a + ex m b := by
  induction a with
  | nil => simp [ex]
  | cons w a ih => simp only [List.cons_append, ex, ih]; omega

theorem ex1_sub (m1 m2 : Int → Bool) (w : Wy) (h : w.lo ≤ w.hi) :
    ex1 m1 w + ex1 m2 w ≤ ex1 (fun r => m1 r && m2 r) w + ex1 (fun r => m1 r || m2 r) w := by
  unfold ex1
  dsimp only
  generalize m1 w.src = a, m1 w.dst = b, m2 w.src = c, m2 w.dst = d
  cases a <;> cases b <;> cases c <;> cases d <;> simp [xb] <;> omega

theorem ex1_cross (m1 m2 : Int → Bool) (w : Wy) (h1 : en m1 w = true) (h2 : lv m2 w = true) :
    ex1 m1 w + ex1 m2 w + (w.hi - w.lo) ≤ ex1 (fun r => m1 r && m2 r) w + ex1 (fun r => m1 r || m2 r) w := by
  unfold ex1 lv en at *
  dsimp only at *
  revert h1 h2
  generalize m1 w.src = a, m1 w.dst = b, m2 w.src = c, m2 w.dst = d
  cases a <;> cases b <;> cases c <;> cases d <;> simp [xb] <;> omega

def okW (ws : List Wy) : Prop := ∀ w ∈ ws, w.lo ≤ w.hi

theorem ex_sub (m1 m2 : Int → Bool) (ws : List Wy) (h : okW ws) :
    ex m1 ws + ex m2 ws ≤ ex (fun r => m1 r && m2 r) ws + ex (fun r => m1 r || m2 r) ws := by
  induction ws with
  | nil => simp [ex]
  | cons w ws ih =>
    have := ex1_sub m1 m2 w (h w (by simp))
    have := ih (fun x hx => h x (by simp [hx]))
    simp only [ex]; omega

theorem ex_cross (m1 m2 : Int → Bool) : ∀ (ws : List Wy) (k : Nat) (w : Wy), okW ws → ws[k]? = some w → en m1 w = true → lv m2 w = true →
    ex m1 ws + ex m2 ws + (w.hi - w.lo) ≤ ex (fun r => m1 r && m2 r) ws + ex (fun r => m1 r || m2 r) ws := by
  intro ws
  induction ws with
  | nil => intro k w _ h; simp at h
  | cons x ws ih =>
    intro k w hok hk h1 h2
    cases k with
    | zero =>
      simp at hk; subst hk
      have := ex1_cross m1 m2 x h1 h2
      have := ex_sub m1 m2 ws (fun y hy => hok y (by simp [hy]))
      simp only [ex]; omega
    | succ k =>
      simp at hk
      have := ih k w (fun y hy => hok y (by simp [hy])) hk h1 h2
      have := ex1_sub m1 m2 x (hok x (by simp))
      simp only [ex]; omega

def Agr (ws : List Wy) : Prop := ∀ m, ex m ws ≤ 0

theorem says_le {ws : List Wy} (ha : Agr ws) (hok : okW ws) {k : Nat} {w : Wy} (hk : ws[k]? = some w) {m1 m2 : Int → Bool} (h1 : en m1 w = true) (h2 : lv m2 w = true) :
    w.hi + ex m1 ws ≤ w.lo - ex m2 ws := by
  have := ex_cross m1 m2 ws k w hok hk h1 h2
  have := ha (fun r => m1 r && m2 r)
  have := ha (fun r => m1 r || m2 r)
  omega

theorem ex_set (m : Int → Bool) : ∀ (ws : List Wy) (k : Nat) (w x : Wy), ws[k]? = some w → ex m (ws.set k x) = ex m ws - ex1 m w + ex1 m x := by
  intro ws
  induction ws with
  | nil => intro k w x h; simp at h
  | cons y ws ih =>
    intro k w x h
    cases k with
    | zero => simp at h; subst h; simp only [List.set_cons_zero, ex]; omega
    | succ k => simp at h; have := ih k w x h; simp only [List.set_cons_succ, ex, this]; omega

/-- A way with just one number. -/
def fixW (w : Wy) (n : Int) : Wy := { w with lo := n, hi := n }

theorem getElem?_mem_set {α : Type} {l : List α} {k i : Nat} {x : α} (hk : k < l.length) : (l.set k x)[i]? = if i = k then some x else l[i]? := by
  rw [List.getElem?_set]
  by_cases h : k = i
  · subst h; simp [hk]
  · rw [if_neg h, if_neg (fun e => h e.symm)]

theorem lt_of_get {α : Type} {l : List α} {k : Nat} {w : α} (h : l[k]? = some w) : k < l.length := by
  obtain ⟨h, _⟩ := List.getElem?_eq_some_iff.1 h; exact h

theorem okW_set {ws : List Wy} (h : okW ws) (k : Nat) (w : Wy) (n : Int) : okW (ws.set k (fixW w n)) := by
  intro x hx
  rcases List.mem_or_eq_of_mem_set hx with hx | hx
  · exact h x hx
  · subst hx; exact Int.le_refl _

theorem xb_cases (m : Int → Bool) (w : Wy) : (lv m w = true ∧ en m w = false ∧ ex1 m w = w.lo ∧ ∀ n, ex1 m (fixW w n) = n) ∨
    (lv m w = false ∧ en m w = true ∧ ex1 m w = -w.hi ∧ ∀ n, ex1 m (fixW w n) = -n) ∨ (lv m w = false ∧ en m w = false ∧ ex1 m w = 0 ∧ ∀ n, ex1 m (fixW w n) = 0) := by
  unfold lv en ex1 fixW
  dsimp only
  generalize m w.src = a, m w.dst = b
  cases a <;> cases b <;> simp [xb]

/-- Of books that agree, a way can be fixed at just the numbers that all sets allow. -/
theorem agr_set {ws : List Wy} (ha : Agr ws) {k : Nat} {w : Wy} (hk : ws[k]? = some w) (n : Int) :
    Agr (ws.set k (fixW w n)) ↔ ∀ m, (en m w = true → w.hi + ex m ws ≤ n) ∧ (lv m w = true → n ≤ w.lo - ex m ws) := by
  constructor
  · intro h m
    have h1 := h m
    rw [ex_set m ws k w _ hk] at h1
    rcases xb_cases m w with ⟨a, b, c, d⟩ | ⟨a, b, c, d⟩ | ⟨a, b, c, d⟩ <;> rw [c, d] at h1 <;> simp only [a, b, Bool.false_eq_true, false_implies, true_implies, true_and, and_true] <;> omega
  · intro h m
    have h1 := h m
    have h2 := ha m
    rw [ex_set m ws k w _ hk]
    rcases xb_cases m w with ⟨a, b, c, d⟩ | ⟨a, b, c, d⟩ | ⟨a, b, c, d⟩ <;> rw [c, d] <;> simp only [a, b, Bool.false_eq_true, false_implies, true_implies, true_and, and_true] at h1 <;> omega

/-- Rooms of ways. -/
def inW (rooms : Nat) (ws : List Wy) : Prop := ∀ w ∈ ws, (0 ≤ w.src ∧ w.src < rooms) ∧ (0 ≤ w.dst ∧ w.dst < rooms)

theorem ex_congr {rooms : Nat} {ws : List Wy} (hv : inW rooms ws) {m m' : Int → Bool} (h : ∀ r : Int, 0 ≤ r → r < rooms → m r = m' r) : ex m ws = ex m' ws := by
  induction ws with
  | nil => rfl
  | cons w ws ih =>
    have hw := hv w (by simp)
    simp only [ex, ex1, h _ hw.1.1 hw.1.2, h _ hw.2.1 hw.2.2, ih (fun x hx => hv x (by simp [hx]))]

theorem set_of_mem (m : Nat → Bool) : ∀ rooms : Nat, ∃ set, set < 2 ^ rooms ∧ ∀ r, r < rooms → set.testBit r = m r
  | 0 => ⟨0, by simp, fun r h => absurd h (by omega)⟩
  | n + 1 => by
    obtain ⟨s, hs, h⟩ := set_of_mem m n
    by_cases hm : m n = true
    · refine ⟨2 ^ n + s, by rw [Nat.pow_succ]; omega, fun r hr => ?_⟩
      rcases Nat.lt_or_eq_of_le (Nat.le_of_lt_succ hr) with hlt | rfl
      · rw [Nat.testBit_two_pow_add_gt hlt, h r hlt]
      · rw [Nat.testBit_two_pow_add_eq, Nat.testBit_lt_two_pow hs, hm]; rfl
    · refine ⟨s, by rw [Nat.pow_succ]; omega, fun r hr => ?_⟩
      rcases Nat.lt_or_eq_of_le (Nat.le_of_lt_succ hr) with hlt | rfl
      · exact h r hlt
      · rw [Nat.testBit_lt_two_pow hs]; simpa using hm

/-- The rooms of a set: room 0 has the highest bit. -/
def memP (rooms set : Nat) (r : Int) : Bool := set.testBit (rooms - 1 - r.toNat)

theorem memP_all (rooms : Nat) (m : Int → Bool) : ∃ set, set < 2 ^ rooms ∧ ∀ r : Int, 0 ≤ r → r < rooms → memP rooms set r = m r := by
  obtain ⟨s, hs, h⟩ := set_of_mem (fun r => m ((rooms - 1 - r : Nat) : Int)) rooms
  refine ⟨s, hs, fun r h0 h1 => ?_⟩
  unfold memP
  rw [h _ (by omega)]
  congr 1
  omega

/-- The rooms of a set: room 0 has the lowest bit. -/
def memR (set : Nat) (r : Int) : Bool := set.testBit r.toNat

theorem memR_all (rooms : Nat) (m : Int → Bool) : ∃ set, set < 2 ^ rooms ∧ ∀ r : Int, 0 ≤ r → r < rooms → memR set r = m r := by
  obtain ⟨s, hs, h⟩ := set_of_mem (fun r => m (r : Int)) rooms
  refine ⟨s, hs, fun r h0 h1 => ?_⟩
  unfold memR
  rw [h _ (by omega)]
  congr 1
  omega

theorem agr_iffP {rooms : Nat} {ws : List Wy} (hv : inW rooms ws) : Agr ws ↔ ∀ set, set < 2 ^ rooms → ex (memP rooms set) ws ≤ 0 := by
  constructor
  · exact fun h set _ => h _
  · intro h m
    obtain ⟨set, hs, hm⟩ := memP_all rooms m
    rw [← ex_congr hv hm]
    exact h set hs

theorem agr_iffR {rooms : Nat} {ws : List Wy} (hv : inW rooms ws) : Agr ws ↔ ∀ set, set < 2 ^ rooms → ex (memR set) ws ≤ 0 := by
  constructor
  · exact fun h set _ => h _
  · intro h m
    obtain ⟨set, hs, hm⟩ := memR_all rooms m
    rw [← ex_congr hv hm]
    exact h set hs

/-- The span of a way, as far as the first sets say. -/
def spanK (rooms : Nat) (ws : List Wy) (w : Wy) : Nat → Int × Int
  | 0 => (w.lo, w.hi)
  | k + 1 =>
    let p := spanK rooms ws w k
    if lv (memP rooms k) w then (p.1, min p.2 (w.lo - ex (memP rooms k) ws))
    else if en (memP rooms k) w then (max p.1 (w.hi + ex (memP rooms k) ws), p.2)
    else p

theorem spanK_spec (rooms : Nat) (ws : List Wy) (w : Wy) : ∀ k,
    (w.lo ≤ (spanK rooms ws w k).1 ∧ (∀ s, s < k → en (memP rooms s) w = true → w.hi + ex (memP rooms s) ws ≤ (spanK rooms ws w k).1) ∧
      ((spanK rooms ws w k).1 = w.lo ∨ ∃ s, s < k ∧ en (memP rooms s) w = true ∧ (spanK rooms ws w k).1 = w.hi + ex (memP rooms s) ws)) ∧
    ((spanK rooms ws w k).2 ≤ w.hi ∧ (∀ s, s < k → lv (memP rooms s) w = true → (spanK rooms ws w k).2 ≤ w.lo - ex (memP rooms s) ws) ∧
      ((spanK rooms ws w k).2 = w.hi ∨ ∃ s, s < k ∧ lv (memP rooms s) w = true ∧ (spanK rooms ws w k).2 = w.lo - ex (memP rooms s) ws)) := by
  intro k
  induction k with
  | zero => simp [spanK]
  | succ k ih =>
    obtain ⟨⟨a1, a2, a3⟩, b1, b2, b3⟩ := ih
    simp only [spanK]
    have hx := xb_cases (memP rooms k) w
    generalize hp : spanK rooms ws w k = p at *
    by_cases hl : lv (memP rooms k) w = true
    · rw [if_pos hl]
      have he : en (memP rooms k) w = false := by rcases hx with h | h | h <;> simp_all
      dsimp only
      refine ⟨⟨a1, fun s hs h => ?_, ?_⟩, by omega, fun s hs h => ?_, ?_⟩
      · rcases Nat.lt_or_eq_of_le (Nat.le_of_lt_succ hs) with hlt | rfl
        · exact a2 s hlt h
        · rw [he] at h; cases h
      · rcases a3 with h | ⟨s, hs, h⟩
        · exact .inl h
        · exact .inr ⟨s, by omega, h⟩
      · rcases Nat.lt_or_eq_of_le (Nat.le_of_lt_succ hs) with hlt | rfl
        · have := b2 s hlt h; omega
        · omega
      · rcases Int.le_total p.2 (w.lo - ex (memP rooms k) ws) with h | h
        · rw [Int.min_eq_left h]
          rcases b3 with h | ⟨s, hs, h⟩
          · exact .inl h
          · exact .inr ⟨s, by omega, h⟩
        · rw [Int.min_eq_right h]
          exact .inr ⟨k, by omega, hl, rfl⟩
    · rw [if_neg hl]
      by_cases he : en (memP rooms k) w = true
      · rw [if_pos he]
        dsimp only
        refine ⟨⟨by omega, fun s hs h => ?_, ?_⟩, b1, fun s hs h => ?_, ?_⟩
        · rcases Nat.lt_or_eq_of_le (Nat.le_of_lt_succ hs) with hlt | rfl
          · have := a2 s hlt h; omega
          · omega
        · rcases Int.le_total p.1 (w.hi + ex (memP rooms k) ws) with h | h
          · rw [Int.max_eq_right h]
            exact .inr ⟨k, by omega, he, rfl⟩
          · rw [Int.max_eq_left h]
            rcases a3 with h | ⟨s, hs, h⟩
            · exact .inl h
            · exact .inr ⟨s, by omega, h⟩
        · rcases Nat.lt_or_eq_of_le (Nat.le_of_lt_succ hs) with hlt | rfl
          · exact b2 s hlt h
          · exact absurd h hl
        · rcases b3 with h | ⟨s, hs, h⟩
          · exact .inl h
          · exact .inr ⟨s, by omega, h⟩
      · rw [if_neg he]
        refine ⟨⟨a1, fun s hs h => ?_, ?_⟩, b1, fun s hs h => ?_, ?_⟩
        · rcases Nat.lt_or_eq_of_le (Nat.le_of_lt_succ hs) with hlt | rfl
          · exact a2 s hlt h
          · exact absurd h he
        · rcases a3 with h | ⟨s, hs, h⟩
          · exact .inl h
          · exact .inr ⟨s, by omega, h⟩
        · rcases Nat.lt_or_eq_of_le (Nat.le_of_lt_succ hs) with hlt | rfl
          · exact b2 s hlt h
          · exact absurd h hl
        · rcases b3 with h | ⟨s, hs, h⟩
          · exact .inl h
          · exact .inr ⟨s, by omega, h⟩

/-- The span of a way. -/
def spanS (rooms : Nat) (ws : List Wy) (w : Wy) : Int × Int := spanK rooms ws w (2 ^ rooms)

theorem lv_congr {rooms : Nat} {ws : List Wy} (hv : inW rooms ws) {w : Wy} (hw : w ∈ ws) {m m' : Int → Bool} (h : ∀ r : Int, 0 ≤ r → r < rooms → m r = m' r) : lv m w = lv m' w ∧ en m w = en m' w := by
  obtain ⟨a, b⟩ := hv w hw
  unfold lv en
  rw [h _ a.1 a.2, h _ b.1 b.2]; exact ⟨rfl, rfl⟩

theorem mem_of_get {α : Type} {l : List α} {k : Nat} {w : α} (h : l[k]? = some w) : w ∈ l := List.mem_of_getElem? h

/-- What all sets say of a way is just the span. -/
theorem span_iff {rooms : Nat} {ws : List Wy} (hv : inW rooms ws) {k : Nat} {w : Wy} (hk : ws[k]? = some w) (n : Int) (h1 : w.lo ≤ n) (h2 : n ≤ w.hi) :
    (∀ m, (en m w = true → w.hi + ex m ws ≤ n) ∧ (lv m w = true → n ≤ w.lo - ex m ws)) ↔ (spanS rooms ws w).1 ≤ n ∧ n ≤ (spanS rooms ws w).2 := by
  obtain ⟨⟨a1, a2, a3⟩, b1, b2, b3⟩ := spanK_spec rooms ws w (2 ^ rooms)
  unfold spanS
  constructor
  · intro h
    constructor
    · rcases a3 with e | ⟨s, _, he, e⟩
      · omega
      · have := (h (memP rooms s)).1 he; omega
    · rcases b3 with e | ⟨s, _, he, e⟩
      · omega
      · have := (h (memP rooms s)).2 he; omega
  · intro ⟨hl, hr⟩ m
    obtain ⟨s, hs, hm⟩ := memP_all rooms m
    have c := lv_congr hv (mem_of_get hk) hm
    have d := ex_congr hv hm
    constructor
    · intro he
      have := a2 s hs (by rw [c.2]; exact he)
      rw [d] at this; omega
    · intro he
      have := b2 s hs (by rw [c.1]; exact he)
      rw [d] at this; omega

theorem span_in {rooms : Nat} {ws : List Wy} {k : Nat} {w : Wy} (hk : ws[k]? = some w) (ha : Agr ws) (hok : okW ws) :
    w.lo ≤ (spanS rooms ws w).1 ∧ (spanS rooms ws w).1 ≤ (spanS rooms ws w).2 ∧ (spanS rooms ws w).2 ≤ w.hi := by
  obtain ⟨⟨a1, a2, a3⟩, b1, b2, b3⟩ := spanK_spec rooms ws w (2 ^ rooms)
  unfold spanS
  refine ⟨a1, ?_, b1⟩
  have hw := hok w (mem_of_get hk)
  rcases a3 with e | ⟨s, _, he, e⟩ <;> rcases b3 with f | ⟨t, _, ht, f⟩ <;> rw [e, f]
  · exact hw
  · have := ha (memP rooms t); omega
  · have := ha (memP rooms s); omega
  · exact says_le ha hok hk he ht

/-- Of books that agree, a way can be fixed at just the numbers of its span. -/
theorem agr_fix {rooms : Nat} {ws : List Wy} (hv : inW rooms ws) (ha : Agr ws) {k : Nat} {w : Wy} (hk : ws[k]? = some w) (n : Int) (h1 : w.lo ≤ n) (h2 : n ≤ w.hi) :
    Agr (ws.set k (fixW w n)) ↔ (spanS rooms ws w).1 ≤ n ∧ n ≤ (spanS rooms ws w).2 :=
  (agr_set ha hk n).trans (span_iff hv hk n h1 h2)

theorem inW_set {rooms : Nat} {ws : List Wy} (hv : inW rooms ws) {k : Nat} {w : Wy} (hk : ws[k]? = some w) (n : Int) : inW rooms (ws.set k (fixW w n)) := by
  intro x hx
  rcases List.mem_or_eq_of_mem_set hx with hx | hx
  · exact hv x hx
  · subst hx; exact hv w (mem_of_get hk)

-- flows

def net (r : Int) : List Wy → List Int → Int
  | w :: ws, f :: fl => (if w.dst = r then f else 0) - (if w.src = r then f else 0) + net r ws fl
  | _, _ => 0

def inR (ws : List Wy) (fl : List Int) : Prop := fl.length = ws.length ∧ ∀ (i : Nat) (w : Wy) (f : Int), ws[i]? = some w → fl[i]? = some f → w.lo ≤ f ∧ f ≤ w.hi

def Flow (ws : List Wy) (fl : List Int) : Prop := inR ws fl ∧ ∀ r, net r ws fl = 0

/-- What leaves some rooms, less what enters them. -/
def outS (m : Int → Bool) : List Wy → List Int → Int
  | w :: ws, f :: fl => xb (m w.src) (m w.dst) f f + outS m ws fl
  | _, _ => 0

def netSum : Nat → (Int → Bool) → List Wy → List Int → Int
  | 0, _, _, _ => 0
  | n + 1, m, ws, fl => (if m n then net n ws fl else 0) + netSum n m ws fl

theorem netSum_nil (n : Nat) (m : Int → Bool) (fl : List Int) : netSum n m [] fl = 0 := by
  induction n with
  | zero => rfl
  | succ n ih => simp [netSum, net, ih]
theorem netSum_nil' (n : Nat) (m : Int → Bool) (ws : List Wy) : netSum n m ws [] = 0 := by
  induction n with
  | zero => rfl
  | succ n ih => cases ws <;> simp [netSum, net, ih]

theorem ifc {p q : Prop} [Decidable p] [Decidable q] (h : p ↔ q) (a b : Int) : (if p then a else b) = if q then a else b := by
  by_cases hp : p
  · rw [if_pos hp, if_pos (h.1 hp)]
  · rw [if_neg hp, if_neg (fun x => hp (h.2 x))]

theorem netSum_cons (n : Nat) (m : Int → Bool) (w : Wy) (ws : List Wy) (f : Int) (fl : List Int) :
    netSum n m (w :: ws) (f :: fl) = (if 0 ≤ w.dst ∧ w.dst < n ∧ m w.dst = true then f else 0) - (if 0 ≤ w.src ∧ w.src < n ∧ m w.src = true then f else 0) + netSum n m ws fl := by
  induction n with
  | zero =>
    simp only [netSum]
    rw [if_neg (fun h => by have := h.1; have := h.2.1; omega), if_neg (fun h => by have := h.1; have := h.2.1; omega)]; omega
  | succ n ih =>
    simp only [netSum, net, ih]
    by_cases hm : m n = true
    · simp only [hm, if_true]
      have e1 : (if 0 ≤ w.dst ∧ w.dst < ((n + 1 : Nat) : Int) ∧ m w.dst = true then f else 0) = (if w.dst = n then f else 0) + (if 0 ≤ w.dst ∧ w.dst < (n : Int) ∧ m w.dst = true then f else 0) := by
        by_cases h : w.dst = n
        · rw [if_pos ⟨by omega, by omega, by rw [h]; exact hm⟩, if_pos h, if_neg (fun h3 => by have := h3.2.1; omega)]; omega
        · rw [if_neg h]
          by_cases h2 : 0 ≤ w.dst ∧ w.dst < (n : Int) ∧ m w.dst = true
          · rw [if_pos h2, if_pos ⟨h2.1, by omega, h2.2.2⟩]; omega
          · rw [if_neg h2, if_neg (fun h3 => h2 ⟨h3.1, by omega, h3.2.2⟩)]; omega
      have e2 : (if 0 ≤ w.src ∧ w.src < ((n + 1 : Nat) : Int) ∧ m w.src = true then f else 0) = (if w.src = n then f else 0) + (if 0 ≤ w.src ∧ w.src < (n : Int) ∧ m w.src = true then f else 0) := by
        by_cases h : w.src = n
        · rw [if_pos ⟨by omega, by omega, by rw [h]; exact hm⟩, if_pos h, if_neg (fun h3 => by have := h3.2.1; omega)]; omega
        · rw [if_neg h]
          by_cases h2 : 0 ≤ w.src ∧ w.src < (n : Int) ∧ m w.src = true
          · rw [if_pos h2, if_pos ⟨h2.1, by omega, h2.2.2⟩]; omega
          · rw [if_neg h2, if_neg (fun h3 => h2 ⟨h3.1, by omega, h3.2.2⟩)]; omega
      rw [e1, e2]; omega
    · have hm' : m n = false := by simpa using hm
      simp only [hm', Bool.false_eq_true, if_false]
      have e : ∀ x : Int, (0 ≤ x ∧ x < ((n + 1 : Nat) : Int) ∧ m x = true) ↔ (0 ≤ x ∧ x < (n : Int) ∧ m x = true) := by
        intro x
        constructor
        · rintro ⟨a, b, c⟩
          refine ⟨a, ?_, c⟩
          rcases Int.lt_or_eq_of_le (show x ≤ n by omega) with h | h
          · exact h
          · rw [h] at c; exact absurd c hm
        · rintro ⟨a, b, c⟩; exact ⟨a, by omega, c⟩
      rw [ifc (e w.dst), ifc (e w.src)]; omega

theorem outS_eq {rooms : Nat} (m : Int → Bool) : ∀ (ws : List Wy) (fl : List Int), inW rooms ws → outS m ws fl = - netSum rooms m ws fl := by
  intro ws
  induction ws with
  | nil => intro fl _; rw [netSum_nil]; cases fl <;> rfl
  | cons w ws ih =>
    intro fl hv
    cases fl with
    | nil => rw [netSum_nil']; rfl
    | cons f fl =>
      rw [netSum_cons, outS, ih fl (fun x hx => hv x (by simp [hx]))]
      obtain ⟨a, b⟩ := hv w (by simp)
      have e1 : (if 0 ≤ w.dst ∧ w.dst < (rooms : Int) ∧ m w.dst = true then f else 0) = if m w.dst = true then f else 0 := ifc ⟨fun h => h.2.2, fun h => ⟨b.1, b.2, h⟩⟩ _ _
      have e2 : (if 0 ≤ w.src ∧ w.src < (rooms : Int) ∧ m w.src = true then f else 0) = if m w.src = true then f else 0 := ifc ⟨fun h => h.2.2, fun h => ⟨a.1, a.2, h⟩⟩ _ _
      rw [e1, e2]
      cases m w.src <;> cases m w.dst <;> simp [xb] <;> omega

theorem netSum_zero (n : Nat) (m : Int → Bool) (ws : List Wy) (fl : List Int) (h : ∀ r, net r ws fl = 0) : netSum n m ws fl = 0 := by
  induction n with
  | zero => rfl
  | succ n ih => simp [netSum, h, ih]

theorem inR_cons {w : Wy} {ws : List Wy} {f : Int} {fl : List Int} : inR (w :: ws) (f :: fl) ↔ (w.lo ≤ f ∧ f ≤ w.hi) ∧ inR ws fl := by
  constructor
  · intro ⟨h1, h2⟩
    exact ⟨h2 0 w f rfl rfl, by simpa using h1, fun i x g hx hg => h2 (i + 1) x g (by simpa using hx) (by simpa using hg)⟩
  · intro ⟨h0, h1, h2⟩
    refine ⟨by simpa using h1, fun i x g hx hg => ?_⟩
    cases i with
    | zero => simp at hx hg; subst hx hg; exact h0
    | succ i => exact h2 i x g (by simpa using hx) (by simpa using hg)

theorem ex_le_outS (m : Int → Bool) : ∀ (ws : List Wy) (fl : List Int), inR ws fl → ex m ws ≤ outS m ws fl := by
  intro ws
  induction ws with
  | nil => intro fl _; cases fl <;> simp [ex, outS]
  | cons w ws ih =>
    intro fl h
    cases fl with
    | nil => have := h.1; simp at this
    | cons f fl =>
      obtain ⟨h0, h1⟩ := inR_cons.1 h
      have := ih fl h1
      simp only [ex, ex1, outS]
      cases m w.src <;> cases m w.dst <;> simp [xb] <;> omega

/-- Hoffman: a flow leaves no proof. -/
theorem agr_of_flow {rooms : Nat} {ws : List Wy} (hv : inW rooms ws) {fl : List Int} (h : Flow ws fl) : Agr ws := by
  intro m
  have h1 := ex_le_outS m ws fl h.1
  rw [outS_eq m ws fl hv, netSum_zero _ _ _ _ h.2] at h1
  omega

theorem outS_one (r : Int) : ∀ (ws : List Wy) (fl : List Int), outS (fun x => decide (x = r)) ws fl = - net r ws fl ∧ outS (fun x => !decide (x = r)) ws fl = net r ws fl := by
  intro ws
  induction ws with
  | nil => intro fl; cases fl <;> exact ⟨rfl, rfl⟩
  | cons w ws ih =>
    intro fl
    cases fl with
    | nil => exact ⟨rfl, rfl⟩
    | cons f fl =>
      obtain ⟨a, b⟩ := ih fl
      simp only [outS, net, a, b]
      by_cases h1 : w.src = r <;> by_cases h2 : w.dst = r <;> simp [h1, h2, xb] <;> omega

theorem outS_fixed (m : Int → Bool) : ∀ (ws : List Wy), (∀ w ∈ ws, w.lo = w.hi) → outS m ws (ws.map (·.lo)) = ex m ws := by
  intro ws
  induction ws with
  | nil => intro _; rfl
  | cons w ws ih =>
    intro h
    simp only [List.map_cons, outS, ex, ih (fun x hx => h x (by simp [hx])), ex1, ← h w (by simp)]

theorem flow_of_fixed {ws : List Wy} (ha : Agr ws) (hf : ∀ w ∈ ws, w.lo = w.hi) : Flow ws (ws.map (·.lo)) := by
  refine ⟨⟨by simp, fun i w f hw hg => ?_⟩, fun r => ?_⟩
  · rw [List.getElem?_map, hw] at hg
    simp at hg
    have := hf w (mem_of_get hw)
    omega
  · obtain ⟨a, b⟩ := outS_one r ws (ws.map (·.lo))
    rw [outS_fixed _ ws hf] at a b
    have := ha (fun x => decide (x = r))
    have := ha (fun x => !decide (x = r))
    omega

/-- The first ways have just the given numbers. -/
def keptS : List Wy → List Int → List Wy
  | [], _ => []
  | w :: ws, [] => w :: ws
  | w :: ws, n :: ns => fixW w n :: keptS ws ns

theorem keptS_nil (ws : List Wy) : keptS ws [] = ws := by cases ws <;> rfl
theorem keptS_length : ∀ (ws : List Wy) (ns : List Int), (keptS ws ns).length = ws.length
  | [], _ => rfl
  | _ :: _, [] => rfl
  | _ :: ws, _ :: ns => by simp [keptS, keptS_length ws ns]
theorem keptS_get_ge : ∀ (ws : List Wy) (ns : List Int) (k : Nat), ns.length ≤ k → (keptS ws ns)[k]? = ws[k]?
  | [], _, _, _ => rfl
  | _ :: _, [], _, _ => rfl
  | _ :: ws, _ :: ns, 0, h => by simp at h
  | _ :: ws, _ :: ns, k + 1, h => by simpa [keptS] using keptS_get_ge ws ns k (by simpa using h)
theorem keptS_get_lt : ∀ (ws : List Wy) (ns : List Int) (k : Nat) (n : Int) (w : Wy), ns[k]? = some n → ws[k]? = some w → (keptS ws ns)[k]? = some (fixW w n)
  | [], _, _, _, _, _, h => by simp at h
  | _ :: _, [], _, _, _, h, _ => by simp at h
  | _ :: ws, _ :: ns, 0, n, w, h, g => by simp at h g; subst h g; rfl
  | _ :: ws, _ :: ns, k + 1, n, w, h, g => by simpa [keptS] using keptS_get_lt ws ns k n w (by simpa using h) (by simpa using g)
theorem keptS_snoc : ∀ (ws : List Wy) (ns : List Int) (n : Int) (w : Wy), ws[ns.length]? = some w → keptS ws (ns ++ [n]) = (keptS ws ns).set ns.length (fixW w n)
  | [], _, _, _, h => by simp at h
  | x :: ws, [], n, w, h => by simp at h; subst h; simp [keptS, keptS_nil]
  | x :: ws, y :: ns, n, w, h => by
    simp only [List.cons_append, keptS, List.length_cons, List.set_cons_succ]
    rw [keptS_snoc ws ns n w (by simpa using h)]

/-- The first numbers of the first flow. -/
def firstK (rooms : Nat) (ws : List Wy) : Nat → List Int
  | 0 => []
  | k + 1 =>
    let fl := firstK rooms ws k
    match ws[k]? with
    | some w => fl ++ [(spanS rooms (keptS ws fl) w).1]
    | none => fl

def firstS (rooms : Nat) (ws : List Wy) : List Int := firstK rooms ws ws.length

theorem firstK_spec {rooms : Nat} {ws : List Wy} (hv : inW rooms ws) (hok : okW ws) (ha : Agr ws) : ∀ k, k ≤ ws.length →
    (firstK rooms ws k).length = k ∧ Agr (keptS ws (firstK rooms ws k)) ∧ okW (keptS ws (firstK rooms ws k)) ∧ inW rooms (keptS ws (firstK rooms ws k)) ∧
      ∀ (i : Nat) (w : Wy) (f : Int), ws[i]? = some w → (firstK rooms ws k)[i]? = some f → w.lo ≤ f ∧ f ≤ w.hi := by
  intro k
  induction k with
  | zero => intro _; refine ⟨rfl, ?_, ?_, ?_, ?_⟩ <;> simp only [firstK, keptS_nil] <;> first | assumption | (intro i w f _ h; simp at h)
  | succ k ih =>
    intro hk
    obtain ⟨h1, h2, h3, h4, h5⟩ := ih (by omega)
    have hw : ws[k]? = some (ws[k]'(by omega)) := List.getElem?_eq_getElem (by omega)
    generalize ws[k]'(by omega) = w at hw
    have hw' : (keptS ws (firstK rooms ws k))[k]? = some w := by rw [keptS_get_ge _ _ _ (by omega)]; exact hw
    have hs := span_in (rooms := rooms) hw' h2 h3
    simp only [firstK, hw]
    have hsn := keptS_snoc ws (firstK rooms ws k) (spanS rooms (keptS ws (firstK rooms ws k)) w).1 w (by rw [h1]; exact hw)
    rw [hsn, h1]
    refine ⟨by simp [h1], (agr_fix h4 h2 hw' _ (by omega) (by omega)).2 (by omega), okW_set h3 _ _ _, inW_set h4 hw' _, fun i x f hx hf => ?_⟩
    by_cases hi : i < k
    · rw [List.getElem?_append_left (by omega)] at hf
      exact h5 i x f hx hf
    · rw [List.getElem?_append_right (by omega), h1] at hf
      have : i = k := by
        have := lt_of_get hf
        simp at this; omega
      subst this
      rw [hw] at hx; simp at hx hf; subst hx hf
      omega

theorem keptS_map_lo : ∀ (ws : List Wy) (ns : List Int), ns.length = ws.length → (keptS ws ns).map (·.lo) = ns ∧ (∀ w ∈ keptS ws ns, w.lo = w.hi)
  | [], [], _ => ⟨rfl, fun w h => by simp [keptS] at h⟩
  | [], _ :: _, h => by simp at h
  | _ :: _, [], h => by simp at h
  | w :: ws, n :: ns, h => by
    obtain ⟨a, b⟩ := keptS_map_lo ws ns (by simpa using h)
    refine ⟨by simp [keptS, a, fixW], fun x hx => ?_⟩
    simp only [keptS, List.mem_cons] at hx
    rcases hx with rfl | hx
    · rfl
    · exact b x hx

theorem net_kept (r : Int) : ∀ (ws : List Wy) (ns fl : List Int), net r (keptS ws ns) fl = net r ws fl
  | [], _, _ => rfl
  | _ :: _, [], _ => rfl
  | w :: ws, _ :: ns, [] => rfl
  | w :: ws, _ :: ns, f :: fl => by simp only [keptS, net, fixW, net_kept r ws ns fl]

/-- THE FIRST FLOW IS A FLOW. -/
theorem firstS_flow {rooms : Nat} {ws : List Wy} (hv : inW rooms ws) (hok : okW ws) (ha : Agr ws) : Flow ws (firstS rooms ws) := by
  obtain ⟨h1, h2, _, _, h5⟩ := firstK_spec hv hok ha ws.length (Nat.le_refl _)
  obtain ⟨a, b⟩ := keptS_map_lo ws (firstS rooms ws) h1
  have hf := flow_of_fixed h2 b
  refine ⟨⟨h1, h5⟩, fun r => ?_⟩
  have := hf.2 r
  rw [show List.map (·.lo) (keptS ws (firstK rooms ws ws.length)) = firstS rooms ws from a, net_kept] at this
  exact this

/-- HOFFMAN. -/
theorem hoffman {rooms : Nat} {ws : List Wy} (hv : inW rooms ws) (hok : okW ws) : Agr ws ↔ ∃ fl, Flow ws fl :=
  ⟨fun h => ⟨_, firstS_flow hv hok h⟩, fun ⟨_, h⟩ => agr_of_flow hv h⟩

theorem flow_kept : ∀ (ws : List Wy) (ns fl : List Int), Flow ws fl → (∀ i n, ns[i]? = some n → fl[i]? = some n ∨ fl.length ≤ i) → Flow (keptS ws ns) fl := by
  intro ws ns fl h hp
  refine ⟨⟨by rw [keptS_length]; exact h.1.1, fun i w f hw hf => ?_⟩, fun r => by rw [net_kept]; exact h.2 r⟩
  have hi : i < fl.length := lt_of_get hf
  have hx : ws[i]? = some (ws[i]'(by have := h.1.1; omega)) := List.getElem?_eq_getElem (by have := h.1.1; omega)
  by_cases hn : i < ns.length
  · have hg : ns[i]? = some ns[i] := List.getElem?_eq_getElem hn
    rw [keptS_get_lt ws ns i _ _ hg hx] at hw
    rcases hp i _ hg with e | e
    · rw [hf] at e
      simp at e hw
      subst hw
      simp [fixW, e]
    · omega
  · rw [keptS_get_ge ws ns i (by omega)] at hw
    exact h.1.2 i w f hw hf

/-- In each flow a way has a number from its span. -/
theorem flow_span {rooms : Nat} {ws : List Wy} (hv : inW rooms ws) {fl : List Int} (h : Flow ws fl) {k : Nat} {w : Wy} {f : Int} (hk : ws[k]? = some w) (hf : fl[k]? = some f) :
    (spanS rooms ws w).1 ≤ f ∧ f ≤ (spanS rooms ws w).2 := by
  have hr := h.1.2 k w f hk hf
  refine (agr_fix hv (agr_of_flow hv h) hk f hr.1 hr.2).1 (agr_of_flow (inW_set hv hk f) (fl := fl) ?_)
  refine ⟨⟨by simpa using h.1.1, fun i x g hx hg => ?_⟩, fun r => ?_⟩
  · rw [getElem?_mem_set (lt_of_get hk)] at hx
    by_cases hi : i = k
    · subst hi; rw [if_pos rfl] at hx; rw [hf] at hg; simp at hx hg; subst hx hg; simp [fixW]
    · rw [if_neg hi] at hx; exact h.1.2 i x g hx hg
  · have : ∀ (ws : List Wy) (fl : List Int) (k : Nat) (w : Wy), ws[k]? = some w → net r (ws.set k (fixW w f)) fl = net r ws fl := by
      intro ws
      induction ws with
      | nil => intro fl k w hk; simp at hk
      | cons y ws ih =>
        intro fl k w hk
        cases k with
        | zero => simp at hk; subst hk; cases fl <;> simp [net, fixW]
        | succ k => cases fl <;> simp [net]; exact ih _ k w (by simpa using hk)
    rw [this ws fl k w hk]; exact h.2 r

/-- Each number of a span is that of some flow. -/
theorem span_flow {rooms : Nat} {ws : List Wy} (hv : inW rooms ws) (hok : okW ws) (ha : Agr ws) {k : Nat} {w : Wy} (hk : ws[k]? = some w) {n : Int}
    (h1 : (spanS rooms ws w).1 ≤ n) (h2 : n ≤ (spanS rooms ws w).2) : ∃ fl, Flow ws fl ∧ fl[k]? = some n := by
  have hs := span_in (rooms := rooms) hk ha hok
  have hag := (agr_fix hv ha hk n (by omega) (by omega)).2 ⟨h1, h2⟩
  obtain ⟨fl, hf⟩ := (hoffman (inW_set hv hk n) (okW_set hok k w n)).1 hag
  have hlen : fl.length = ws.length := by simpa using hf.1.1
  have hkl := lt_of_get hk
  have hg : fl[k]? = some fl[k] := List.getElem?_eq_getElem (by omega)
  have hn := hf.1.2 k (fixW w n) fl[k] (by rw [getElem?_mem_set hkl, if_pos rfl]) hg
  have e : fl[k] = n := by simp [fixW] at hn; omega
  refine ⟨fl, ⟨⟨hlen, fun i x g hx hg' => ?_⟩, fun r => ?_⟩, by rw [hg, e]⟩
  · by_cases hi : i = k
    · subst hi; rw [hk] at hx; simp at hx; subst hx
      rw [hg] at hg'; simp at hg'; omega
    · exact hf.1.2 i x g (by rw [getElem?_mem_set hkl, if_neg hi]; exact hx) hg'
  · have : ∀ (ws : List Wy) (fl : List Int) (k : Nat) (w : Wy), ws[k]? = some w → net r (ws.set k (fixW w n)) fl = net r ws fl := by
      intro ws
      induction ws with
      | nil => intro fl k w hk; simp at hk
      | cons y ws ih =>
        intro fl k w hk
        cases k with
        | zero => simp at hk; subst hk; cases fl <;> simp [net, fixW]
        | succ k => cases fl <;> simp [net]; exact ih _ k w (by simpa using hk)
    rw [← this ws fl k w hk]; exact hf.2 r


theorem ret_eq {k : IntKind} {a b : Int} (h : a = b) : Ending.returned (.int k a) = .returned (.int k b) := by rw [h]

/-- The bit of a room. -/
def bitI (rooms : Nat) (r : Int) : Int := ((2 ^ (rooms - 1 - r.toNat) : Nat) : Int)

theorem bit_val (rooms : Nat) (r : Int) (h0 : 0 ≤ r) (h1 : r < rooms) (h2 : rooms ≤ 6) : wrap64 (2 ^ ((rooms : Int) - 1 - r).toNat) = bitI rooms r := by
  have e : ((rooms : Int) - 1 - r).toNat = rooms - 1 - r.toNat := by omega
  have hk : rooms - 1 - r.toNat ≤ 5 := by omega
  unfold bitI
  rw [e]
  generalize rooms - 1 - r.toNat = k at hk
  match k, hk with
  | 0, _ | 1, _ | 2, _ | 3, _ | 4, _ | 5, _ => decide +kernel

set_option maxHeartbeats 400000 in
theorem bit_any (rooms : Nat) (r : Int) (w : World) (h0 : 0 ≤ r) (h1 : r < rooms) (h2 : rooms ≤ 6) :
    Calls Tryd.prog 137 #[.int .i64 rooms, .int .i64 r] w fun e w' => e = .returned (.int .i64 (bitI rooms r)) ∧ w = w' := by
  go_enter Tryd.func137, Tryd.ntmps137
  go_wp2
  go_ret
  exact ⟨ret_eq (bit_val rooms r h0 h1 h2), rfl⟩

theorem ofInt_i64 (a : Nat) (ha : a < 9223372036854775808) : (BitVec.ofInt 64 (a : Int)).toNat = a := by
  rw [BitVec.ofInt_natCast, BitVec.toNat_ofNat]; exact Nat.mod_eq_of_lt (by omega)
theorem i64_and_nat (a b : Nat) (ha : a < 9223372036854775808) (hb : b < 9223372036854775808) : bits .and .i64 (a : Int) (b : Int) = ((a &&& b : Nat) : Int) := by
  have hx : a &&& b < 2 ^ 63 := Nat.and_lt_two_pow _ (by omega)
  show IntKind.i64.wrap ((BitVec.ofInt 64 (a : Int) &&& BitVec.ofInt 64 (b : Int)).toNat : Int) = _
  rw [BitVec.toNat_and, ofInt_i64 a ha, ofInt_i64 b hb, IntKind.wrap_i64]
  omega

theorem and_two_pow_ne (s k : Nat) : (s &&& 2 ^ k ≠ 0) ↔ s.testBit k = true := by
  constructor
  · intro h
    rcases hb : s.testBit k with _ | _
    · refine absurd (Nat.eq_of_testBit_eq fun i => ?_) h
      rw [Nat.testBit_and, Nat.testBit_two_pow, Nat.zero_testBit]
      by_cases hi : k = i
      · subst hi; rw [hb]; rfl
      · simp [hi]
    · rfl
  · intro h he
    have : (s &&& 2 ^ k).testBit k = true := by rw [Nat.testBit_and, Nat.testBit_two_pow, h]; simp
    rw [he, Nat.zero_testBit] at this
    cases this

theorem bits_mem (rooms s : Nat) (r : Int) (h2 : rooms ≤ 6) (hs : s < 64) : (bits .and .i64 (s : Int) (bitI rooms r) != 0) = memP rooms s r := by
  have hp : 2 ^ (rooms - 1 - r.toNat) < 9223372036854775808 := Nat.lt_of_le_of_lt (Nat.pow_le_pow_right (by decide) (show rooms - 1 - r.toNat ≤ 6 by omega)) (by decide)
  unfold bitI
  rw [i64_and_nat _ _ (by omega) hp]
  have h := and_two_pow_ne s (rooms - 1 - r.toNat)
  unfold memP
  rw [Bool.eq_iff_iff, ← h]
  simp only [bne_iff_ne, ne_eq]
  omega

/-- How a way leads, seen from a set of rooms. -/
def sideV (m : Int → Bool) (x : Wy) : Int := if lv m x then 1 else if en m x then 2 else 0

set_option maxHeartbeats 400000 in
theorem sideOf_any (rooms s : Nat) (x : Wy) (w : World) (h2 : rooms ≤ 6) (hs : s < 64) (ha : 0 ≤ x.src) (hb : x.src < rooms) (hc : 0 ≤ x.dst) (hd : x.dst < rooms) :
    Calls Tryd.prog 132 #[.int .i64 rooms, .int .i64 s, .agg #[.int .i64 x.src, .int .i64 x.dst, .int .i64 x.lo, .int .i64 x.hi]] w fun e w' =>
      e = .returned (.int .i64 (sideV (memP rooms s) x)) ∧ Below w.heap.size w w' := by
  have p1 := bits_mem rooms s x.src h2 hs
  have q1 := bits_mem rooms s x.dst h2 hs
  rcases hm : memP rooms s x.src with _ | _ <;> rcases hn : memP rooms s x.dst with _ | _ <;> rw [hm] at p1 <;> rw [hn] at q1
  all_goals
    have HM := Lib.hid hm
    have HN := Lib.hid hn
    clear hm hn
    go_enter Tryd.func132, Tryd.ntmps132
    go_wp2_with (go_at_call 137; refine (bit_any _ _ _ (by assumption) (by assumption) (by assumption)).mono ?_; rintro e w' ⟨rfl, rfl⟩)
    go_ret
    exact ⟨ret_eq (by unfold sideV lv en; rw [HM.out, HN.out]; rfl), (Below.refl _ _).alloc (Nat.le_refl _) _⟩


/-- Ways that lie in memory below block B. -/
def WaysAt (w : World) (B : Nat) (A : Option Addr) (ws : List Wy) : Prop :=
  ∀ (k : Nat) (x : Wy), ws[k]? = some x → ∃ b off, A = some ⟨b, off, none⟩ ∧ b < B ∧ w.cell? ⟨b, off + k * 4, none⟩ = some (.int .i64 x.src) ∧ w.cell? ⟨b, off + k * 4 + 1, none⟩ = some (.int .i64 x.dst) ∧
    w.cell? ⟨b, off + k * 4 + 2, none⟩ = some (.int .i64 x.lo) ∧ w.cell? ⟨b, off + k * 4 + 3, none⟩ = some (.int .i64 x.hi)

theorem WaysAt.below {w w' : World} {B B' : Nat} {A : Option Addr} {ws : List Wy} (h : WaysAt w B A ws) (hb : Below B' w w') (hB : B ≤ B') : WaysAt w' B A ws := by
  intro k x hx
  obtain ⟨b, off, h1, h2, h3, h4, h5, h6⟩ := h k x hx
  exact ⟨b, off, h1, h2, (hb.cell (p := ⟨b, _, none⟩) (by simp; omega)).trans h3, (hb.cell (p := ⟨b, _, none⟩) (by simp; omega)).trans h4, (hb.cell (p := ⟨b, _, none⟩) (by simp; omega)).trans h5, (hb.cell (p := ⟨b, _, none⟩) (by simp; omega)).trans h6⟩
theorem WaysAt.mono {w : World} {B B' : Nat} {A : Option Addr} {ws : List Wy} (h : WaysAt w B A ws) (hB : B ≤ B') : WaysAt w B' A ws := by
  intro k x hx
  obtain ⟨b, off, h1, h2, h3⟩ := h k x hx
  exact ⟨b, off, h1, by omega, h3⟩

structure ValB (rooms : Nat) (ws : List Wy) : Prop where
  r6 : rooms ≤ 6
  len : ws.length ≤ 12
  way : ∀ x ∈ ws, (0 ≤ x.src ∧ x.src < rooms) ∧ (0 ≤ x.dst ∧ x.dst < rooms) ∧ 0 ≤ x.lo ∧ x.lo ≤ x.hi ∧ x.hi ≤ 99

theorem ex_bound {rooms : Nat} {ws : List Wy} (h : ∀ x ∈ ws, (0 ≤ x.src ∧ x.src < (rooms : Int)) ∧ (0 ≤ x.dst ∧ x.dst < (rooms : Int)) ∧ 0 ≤ x.lo ∧ x.lo ≤ x.hi ∧ x.hi ≤ 99) (m : Int → Bool) :
    -(99 * (ws.length : Int)) ≤ ex m ws ∧ ex m ws ≤ 99 * (ws.length : Int) := by
  induction ws with
  | nil => simp [ex]
  | cons x ws ih =>
    obtain ⟨_, _, h1, h2, h3⟩ := h x (by simp)
    have := ih (fun y hy => h y (by simp [hy]))
    simp only [ex, List.length_cons]
    have : -99 ≤ ex1 m x ∧ ex1 m x ≤ 99 := by
      rcases xb_cases m x with ⟨_, _, e, _⟩ | ⟨_, _, e, _⟩ | ⟨_, _, e, _⟩ <;> rw [e] <;> omega
    omega

theorem ex_take_succ (m : Int → Bool) {ws : List Wy} {k : Nat} {x : Wy} (h : ws[k]? = some x) : ex m (ws.take (k + 1)) = ex m (ws.take k) + ex1 m x := by
  obtain ⟨hk, rfl⟩ := List.getElem?_eq_some_iff.1 h
  rw [List.take_succ_eq_append_getElem hk, ex_append]
  simp [ex]

theorem bcell {W w1 : World} (hb : Below W.heap.size W w1) : (∀ b o, b < W.heap.size → w1.cell? ⟨b, o, none⟩ = W.cell? ⟨b, o, none⟩) ∧ (∀ b o, b < W.heap.size → w1.frozen? ⟨b, o, none⟩ = W.frozen? ⟨b, o, none⟩) ∧ W.heap.size ≤ w1.heap.size :=
  ⟨fun b o h => hb.cell (p := ⟨b, o, none⟩) h, fun b o h => hb.frozen (p := ⟨b, o, none⟩) h, hb.size⟩

set_option maxHeartbeats 400000 in
theorem excess_any (rooms s : Nat) (A : Option Addr) (c : Nat) (ws : List Wy) (w : World) (hv : ValB rooms ws) (hs : s < 64) (hw : WaysAt w w.heap.size A ws) :
    Calls Tryd.prog 133 #[.agg #[.int .i64 rooms, .slice A ws.length c], .int .i64 s] w fun e w' =>
      e = .returned (.int .i64 (ex (memP rooms s) ws)) ∧ Below w.heap.size w w' := by
  have hr6 := hv.r6
  have hlen := hv.len
  go_enter Tryd.func133, Tryd.ntmps133
  go_wp2
  obtain ⟨W0, hW0⟩ : ∃ W0, W0 = w.alloc (.cells #[.int .i64 rooms, .slice A ws.length c] 88) := ⟨_, rfl⟩
  have hz0 : W0.heap.size = w.heap.size + 1 := by rw [hW0]; simp
  have hb0 : Below w.heap.size w W0 := by rw [hW0]; exact (Below.refl _ _).alloc (Nat.le_refl _) _
  have hc0 : W0.cell? ⟨w.heap.size, 0, none⟩ = some (.int .i64 rooms) := by rw [hW0]; simp [go_sem]
  have hc1 : W0.cell? ⟨w.heap.size, 1, none⟩ = some (.slice A ws.length c) := by rw [hW0]; simp [go_sem]
  have hw0 := hw.below hb0 (Nat.le_refl _)
  rw [← hW0]
  clear hW0
  go_loopw [5, 11] (fun v i wr => ∃ k : Nat, k ≤ ws.length ∧ i = .int .i64 k ∧ v = .int .i64 (ex (memP rooms s) (ws.take k)) ∧ Below W0.heap.size W0 wr) (fun _ i _ => ws.length - (intOf i).toNat)
  case atStart => exact ⟨0, Nat.zero_le _, rfl, rfl, Below.refl _ _⟩
  case round =>
    obtain ⟨k, hk, rfl, rfl, hbw⟩ := hrel
    have hd0 := (hbw.cell (p := ⟨w.heap.size, 0, none⟩) (by simp; omega)).trans hc0
    have hd1 := (hbw.cell (p := ⟨w.heap.size, 1, none⟩) (by simp; omega)).trans hc1
    have hww := hw0.below hbw (by omega)
    have hsz : w.heap.size < wr.heap.size := by have := hbw.size; omega
    by_cases hlt : k < ws.length
    · have hx : ws[k]? = some ws[k] := List.getElem?_eq_getElem hlt
      generalize ws[k] = x at hx
      obtain ⟨b, off, rfl, hb, h1, h2, h3, h4⟩ := hww k x hx
      obtain ⟨hx1, hx2, hx3, hx4, hx5⟩ := hv.way x (mem_of_get hx)
      have htk := ex_take_succ (memP rooms s) hx
      have HX := Lib.hid hx
      clear hx hw hw0 hww
      have hbd := ex_bound (ws := ws.take k) (fun y hy => hv.way y (List.mem_of_mem_take hy)) (memP rooms s)
      have hl12 : (ws.take k).length ≤ 12 := by rw [List.length_take]; omega
      obtain ⟨E, hE⟩ : ∃ E, E = ex (memP rooms s) (ws.take k) := ⟨_, rfl⟩
      rw [← hE] at hbd htk ⊢
      have hbd' : -1188 ≤ E ∧ E ≤ 1188 := by omega
      clear hbd hl12
      have HE := Lib.hid hE
      clear hE
      have sv : sideV (memP rooms s) x = 1 ∧ ex1 (memP rooms s) x = x.lo ∨ sideV (memP rooms s) x = 2 ∧ ex1 (memP rooms s) x = - x.hi ∨ sideV (memP rooms s) x = 0 ∧ ex1 (memP rooms s) x = 0 := by
        unfold sideV
        rcases xb_cases (memP rooms s) x with ⟨a1, a2, a3, _⟩ | ⟨a1, a2, a3, _⟩ | ⟨a1, a2, a3, _⟩ <;> simp [a1, a2, a3]
      rcases sv with ⟨sv, se⟩ | ⟨sv, se⟩ | ⟨sv, se⟩
      all_goals
        rw [se] at htk
        have hc90 := fun W => sideOf_any rooms s x W (by assumption) (by assumption) (by omega) (by omega) (by omega) (by omega)
        rw [sv] at hc90
        have HC := Lib.hid hc90
        have HT := Lib.hid htk
        clear hc90 htk se sv
        go_wp2_with (go_at_call 132; refine (HC.out _).mono ?_; rintro e w1 ⟨rfl, hb1⟩; obtain ⟨q1, q2, q3⟩ := bcell hb1; simp only [World.size_alloc] at q1 q2 q3)
        go_roundw
        case rel => exact ⟨k + 1, by omega, by go_num, by rw [HT.out]; try (first | rfl | go_num), (hbw.alloc (by omega) _).trans (hb1.mono (by simp; omega))⟩
        case measure => simp [intOf]; omega
    · have : k = ws.length := by omega
      subst this
      go_wp2
      go_ret
      exact ⟨ret_eq (by rw [List.take_length]), hb0.trans (hbw.mono (by omega))⟩


/-- A list of numbers that lies in memory below block B. -/
def IntsAt (w : World) (B : Nat) (A : Option Addr) (l : List Int) : Prop :=
  ∀ (k : Nat) (x : Int), l[k]? = some x → ∃ b off, A = some ⟨b, off, none⟩ ∧ b < B ∧ w.cell? ⟨b, off + k, none⟩ = some (.int .i64 x)

theorem IntsAt.below {w w' : World} {B B' : Nat} {A : Option Addr} {l : List Int} (h : IntsAt w B A l) (hb : Below B' w w') (hB : B ≤ B') : IntsAt w' B A l := by
  intro k x hx
  obtain ⟨b, off, h1, h2, h3⟩ := h k x hx
  exact ⟨b, off, h1, h2, (hb.cell (p := ⟨b, _, none⟩) (by simp; omega)).trans h3⟩
theorem IntsAt.mono {w : World} {B B' : Nat} {A : Option Addr} {l : List Int} (h : IntsAt w B A l) (hB : B ≤ B') : IntsAt w B' A l := by
  intro k x hx
  obtain ⟨b, off, h1, h2, h3⟩ := h k x hx
  exact ⟨b, off, h1, by omega, h3⟩
theorem IntsAt.nil (w : World) (B : Nat) (A : Option Addr) : IntsAt w B A [] := by intro k x h; simp at h

/-- The error of a way. -/
def chkW (R : Int) (x : Wy) : Int :=
  if x.src < 0 ∨ R ≤ x.src ∨ x.dst < 0 ∨ R ≤ x.dst then 2 else if x.src = x.dst then 13 else if x.lo < 0 ∨ 99 < x.hi ∨ x.hi < x.lo then 1 else 0

/-- The first error of some ways. -/
def chkL (R : Int) : List Wy → Int
  | [] => 0
  | x :: ws => if chkW R x = 0 then chkL R ws else chkW R x

/-- The error of books. -/
def chk (R : Int) (ws : List Wy) : Int := if R < 2 ∨ 6 < R then 1 else if 12 < ws.length then 3 else chkL R ws

theorem chkW_ok {R : Int} {x : Wy} (h : chkW R x = 0) : (0 ≤ x.src ∧ x.src < R) ∧ (0 ≤ x.dst ∧ x.dst < R) ∧ x.src ≠ x.dst ∧ 0 ≤ x.lo ∧ x.lo ≤ x.hi ∧ x.hi ≤ 99 := by
  unfold chkW at h
  split at h
  · cases h
  split at h
  · cases h
  split at h
  · cases h
  omega

theorem chkL_ok {R : Int} : ∀ {ws : List Wy}, chkL R ws = 0 → ∀ x ∈ ws, chkW R x = 0
  | [], _, x, hx => by simp at hx
  | y :: ws, h, x, hx => by
    unfold chkL at h
    by_cases h0 : chkW R y = 0
    · rw [if_pos h0] at h
      rcases List.mem_cons.1 hx with rfl | hx
      · exact h0
      · exact chkL_ok h x hx
    · rw [if_neg h0] at h; exact absurd h h0

theorem chkL_take {R : Int} : ∀ {ws : List Wy} {k : Nat} {x : Wy}, chkL R (ws.take k) = 0 → ws[k]? = some x → chkL R (ws.take (k + 1)) = chkW R x
  | [], _, _, _, h => by simp at h
  | y :: ws, 0, x, _, h => by
    simp at h; subst h
    simp only [List.take_succ_cons, List.take_zero, chkL]
    by_cases h0 : chkW R y = 0
    · rw [if_pos h0, h0]
    · rw [if_neg h0]
  | y :: ws, k + 1, x, h0, h => by
    simp only [List.take_succ_cons, chkL] at h0 ⊢
    by_cases h1 : chkW R y = 0
    · rw [if_pos h1] at h0 ⊢; exact chkL_take h0 (by simpa using h)
    · rw [if_neg h1] at h0; exact absurd h0 h1

theorem chkL_of {R : Int} : ∀ {ws : List Wy} {k : Nat} {x : Wy}, chkL R (ws.take k) = 0 → ws[k]? = some x → chkW R x ≠ 0 → chkL R ws = chkW R x
  | [], _, _, _, h, _ => by simp at h
  | y :: ws, 0, x, _, h, hn => by
    simp at h; subst h
    simp only [chkL]
    rw [if_neg hn]
  | y :: ws, k + 1, x, h0, h, hn => by
    simp only [List.take_succ_cons, chkL] at h0 ⊢
    by_cases h1 : chkW R y = 0
    · rw [if_pos h1] at h0 ⊢; exact chkL_of h0 (by simpa using h) hn
    · rw [if_neg h1] at h0; exact absurd h0 h1

theorem chk_ok {R : Int} {ws : List Wy} (h : chk R ws = 0) : ∃ rooms : Nat, R = rooms ∧ 2 ≤ rooms ∧ ValB rooms ws ∧ ∀ x ∈ ws, x.src ≠ x.dst := by
  unfold chk at h
  split at h
  · cases h
  split at h
  · cases h
  rename_i h1 h2
  refine ⟨R.toNat, by omega, by omega, ⟨by omega, by omega, fun x hx => ?_⟩, fun x hx => ?_⟩
  · have := chkW_ok (chkL_ok h x hx); omega
  · exact (chkW_ok (chkL_ok h x hx)).2.2.1

theorem ValB.inW {rooms : Nat} {ws : List Wy} (h : ValB rooms ws) : inW rooms ws := fun x hx => ⟨(h.way x hx).1, (h.way x hx).2.1⟩
theorem ValB.okW {rooms : Nat} {ws : List Wy} (h : ValB rooms ws) : okW ws := fun x hx => (h.way x hx).2.2.2.1

/-- How many rooms the sets have. -/
def szs : List Nat := [0, 1, 1, 2, 1, 2, 2, 3, 1, 2, 2, 3, 2, 3, 3, 4, 1, 2, 2, 3, 2, 3, 3, 4, 2, 3, 3, 4, 3, 4, 4, 5, 1, 2, 2, 3, 2, 3, 3, 4, 2, 3, 3, 4, 3, 4, 4, 5, 2, 3, 3, 4, 3, 4, 4, 5, 3, 4, 4, 5, 4, 5, 5, 6]
def popc (s : Nat) : Nat := szs.getD s 0

/-- One set more is asked. -/
def stepF (q : Nat → Bool) (s : Nat) (acc : Nat × Bool) : Nat × Bool := if q s = true ∧ (acc.2 = false ∨ popc s < popc acc.1) then (s, true) else acc

/-- The sets below j are asked, from above. -/
def few (q : Nat → Bool) : Nat → Nat × Bool → Nat × Bool
  | 0, acc => acc
  | j + 1, acc => few q j (stepF q j acc)

/-- Of all sets for which q is true, the first one with as few rooms as possible. -/
def fewS (q : Nat → Bool) (rooms : Nat) : Nat × Bool := few q (2 ^ rooms) (0, false)

/-- The table of sizes lies where the program's text lays it. -/
def SizesAt (w : World) : Prop := 1 < w.heap.size ∧ ∀ i, i < 64 → w.cell? ⟨1, i, none⟩ = some (.int .i64 (popc i : Nat))
theorem SizesAt.below {w w' : World} (h : SizesAt w) (hb : Below w.heap.size w w') : SizesAt w' := ⟨Nat.lt_of_lt_of_le h.1 hb.size, fun i hi => (hb.cell (p := ⟨1, i, none⟩) h.1).trans (h.2 i hi)⟩


theorem chkW2 {R : Int} {x : Wy} (h : x.src < 0 ∨ R ≤ x.src ∨ x.dst < 0 ∨ R ≤ x.dst) : chkW R x = 2 := by unfold chkW; rw [if_pos h]
theorem chkW13 {R : Int} {x : Wy} (h : 0 ≤ x.src ∧ x.src < R ∧ 0 ≤ x.dst ∧ x.dst < R) (h2 : x.src = x.dst) : chkW R x = 13 := by unfold chkW; rw [if_neg (by omega), if_pos h2]
theorem chkW1 {R : Int} {x : Wy} (h : 0 ≤ x.src ∧ x.src < R ∧ 0 ≤ x.dst ∧ x.dst < R) (h2 : ¬ x.src = x.dst) (h3 : x.lo < 0 ∨ 99 < x.hi ∨ x.hi < x.lo) : chkW R x = 1 := by unfold chkW; rw [if_neg (by omega), if_neg h2, if_pos h3]
theorem chkW0 {R : Int} {x : Wy} (h : 0 ≤ x.src ∧ x.src < R ∧ 0 ≤ x.dst ∧ x.dst < R) (h2 : ¬ x.src = x.dst) (h3 : 0 ≤ x.lo ∧ x.hi ≤ 99 ∧ x.lo ≤ x.hi) : chkW R x = 0 := by unfold chkW; rw [if_neg (by omega), if_neg h2, if_neg (by omega)]

set_option maxHeartbeats 1000000 in
theorem checkWay_any (R : Int) (x : Wy) (w : World) :
    Calls Tryd.prog 127 #[.int .i64 R, .agg #[.int .i64 x.src, .int .i64 x.dst, .int .i64 x.lo, .int .i64 x.hi]] w fun e w' => e = .returned (.int .i64 (chkW R x)) ∧ Below w.heap.size w w' := by
  rcases Int.lt_or_le x.src 0 with a1 | a1
  · rw [chkW2 (.inl a1)]
    go_enter Tryd.func127, Tryd.ntmps127
    go_wp2
    go_ret
    exact ⟨rfl, (Below.refl _ _).alloc (Nat.le_refl _) _⟩
  rcases Int.lt_or_le x.src R with a2 | a2
  rotate_left
  · rw [chkW2 (.inr (.inl a2))]
    go_enter Tryd.func127, Tryd.ntmps127
    go_wp2
    go_ret
    exact ⟨rfl, (Below.refl _ _).alloc (Nat.le_refl _) _⟩
  rcases Int.lt_or_le x.dst 0 with a3 | a3
  · rw [chkW2 (.inr (.inr (.inl a3)))]
    go_enter Tryd.func127, Tryd.ntmps127
    go_wp2
    go_ret
    exact ⟨rfl, (Below.refl _ _).alloc (Nat.le_refl _) _⟩
  rcases Int.lt_or_le x.dst R with a4 | a4
  rotate_left
  · rw [chkW2 (.inr (.inr (.inr a4)))]
    go_enter Tryd.func127, Tryd.ntmps127
    go_wp2
    go_ret
    exact ⟨rfl, (Below.refl _ _).alloc (Nat.le_refl _) _⟩
  by_cases a5 : x.src = x.dst
  · rw [chkW13 ⟨a1, a2, a3, a4⟩ a5]
    go_enter Tryd.func127, Tryd.ntmps127
    go_wp2
    go_ret
    exact ⟨rfl, (Below.refl _ _).alloc (Nat.le_refl _) _⟩
  rcases Int.lt_or_le x.lo 0 with a6 | a6
  · rw [chkW1 ⟨a1, a2, a3, a4⟩ a5 (.inl a6)]
    go_enter Tryd.func127, Tryd.ntmps127
    go_wp2
    go_ret
    exact ⟨rfl, (Below.refl _ _).alloc (Nat.le_refl _) _⟩
  rcases Int.lt_or_le 99 x.hi with a7 | a7
  · rw [chkW1 ⟨a1, a2, a3, a4⟩ a5 (.inr (.inl a7))]
    go_enter Tryd.func127, Tryd.ntmps127
    go_wp2
    go_ret
    exact ⟨rfl, (Below.refl _ _).alloc (Nat.le_refl _) _⟩
  rcases Int.lt_or_le x.hi x.lo with a8 | a8
  · rw [chkW1 ⟨a1, a2, a3, a4⟩ a5 (.inr (.inr a8))]
    go_enter Tryd.func127, Tryd.ntmps127
    go_wp2
    go_ret
    exact ⟨rfl, (Below.refl _ _).alloc (Nat.le_refl _) _⟩
  · rw [chkW0 ⟨a1, a2, a3, a4⟩ a5 ⟨a6, a7, a8⟩]
    go_enter Tryd.func127, Tryd.ntmps127
    go_wp2
    go_ret
    exact ⟨rfl, (Below.refl _ _).alloc (Nat.le_refl _) _⟩


theorem chk_R {R : Int} {ws : List Wy} (h : R < 2 ∨ 6 < R) : chk R ws = 1 := by unfold chk; rw [if_pos h]
theorem chk_many {R : Int} {ws : List Wy} (h : 2 ≤ R ∧ R ≤ 6) (h2 : 12 < ws.length) : chk R ws = 3 := by unfold chk; rw [if_neg (by omega), if_pos h2]
theorem chk_L {R : Int} {ws : List Wy} (h : 2 ≤ R ∧ R ≤ 6) (h2 : ws.length ≤ 12) : chk R ws = chkL R ws := by unfold chk; rw [if_neg (by omega), if_neg (by omega)]

set_option maxHeartbeats 1000000 in
theorem check_any (R : Int) (A : Option Addr) (c : Nat) (ws : List Wy) (w : World) (hw : WaysAt w w.heap.size A ws) :
    Calls Tryd.prog 102 #[.agg #[.int .i64 R, .slice A ws.length c]] w fun e w' => e = .returned (.int .i64 (chk R ws)) ∧ Below w.heap.size w w' := by
  rcases Int.lt_or_le R 2 with a1 | a1
  · rw [chk_R (.inl a1)]
    go_enter Tryd.func102, Tryd.ntmps102
    go_wp2
    go_ret
    exact ⟨rfl, (Below.refl _ _).alloc (Nat.le_refl _) _⟩
  rcases Int.lt_or_le 6 R with a2 | a2
  · rw [chk_R (.inr a2)]
    go_enter Tryd.func102, Tryd.ntmps102
    go_wp2
    go_ret
    exact ⟨rfl, (Below.refl _ _).alloc (Nat.le_refl _) _⟩
  rcases Nat.lt_or_ge 12 ws.length with a3 | a3
  · rw [chk_many ⟨a1, a2⟩ a3]
    go_enter Tryd.func102, Tryd.ntmps102
    go_wp2
    go_ret
    exact ⟨rfl, (Below.refl _ _).alloc (Nat.le_refl _) _⟩
  rw [chk_L ⟨a1, a2⟩ a3]
  have hlen : ws.length ≤ 12 := a3
  clear a3
  go_enter Tryd.func102, Tryd.ntmps102
  go_wp2
  obtain ⟨W0, hW0⟩ : ∃ W0, W0 = w.alloc (.cells #[.int .i64 R, .slice A ws.length c] 88) := ⟨_, rfl⟩
  have hz0 : W0.heap.size = w.heap.size + 1 := by rw [hW0]; simp
  have hb0 : Below w.heap.size w W0 := by rw [hW0]; exact (Below.refl _ _).alloc (Nat.le_refl _) _
  have hc0 : W0.cell? ⟨w.heap.size, 0, none⟩ = some (.int .i64 R) := by rw [hW0]; simp [go_sem]
  have hc1 : W0.cell? ⟨w.heap.size, 1, none⟩ = some (.slice A ws.length c) := by rw [hW0]; simp [go_sem]
  have hw0 := hw.below hb0 (Nat.le_refl _)
  rw [← hW0]
  clear hW0
  go_loopw [21] (fun i wr => ∃ k : Nat, k ≤ ws.length ∧ i = .int .i64 k ∧ Hid (chkL R (ws.take k) = 0) ∧ Below W0.heap.size W0 wr) (fun i _ => ws.length - (intOf i).toNat)
  case atStart => exact ⟨0, Nat.zero_le _, rfl, Lib.hid rfl, Below.refl _ _⟩
  case round =>
    obtain ⟨k, hk, rfl, HK, hbw⟩ := hrel
    have hd0 := (hbw.cell (p := ⟨w.heap.size, 0, none⟩) (by simp; omega)).trans hc0
    have hd1 := (hbw.cell (p := ⟨w.heap.size, 1, none⟩) (by simp; omega)).trans hc1
    have hww := hw0.below hbw (by omega)
    have hsz : w.heap.size < wr.heap.size := by have := hbw.size; omega
    by_cases hlt : k < ws.length
    · have hx : ws[k]? = some ws[k] := List.getElem?_eq_getElem hlt
      generalize ws[k] = x at hx
      obtain ⟨b, off, rfl, hb, h1, h2, h3, h4⟩ := hww k x hx
      clear hw hw0 hww
      have HC := Lib.hid (fun W => checkWay_any R x W)
      have H1 := Lib.hid (chkL_take HK.out hx)
      have H2 := Lib.hid (chkL_of HK.out hx)
      clear hx
      generalize chkW R x = v at HC H1 H2
      by_cases hv : v = 0
      · subst hv
        go_wp2_with (go_at_call 127; refine (HC.out _).mono ?_; rintro e w1 ⟨rfl, hb1⟩; obtain ⟨q1, q2, q3⟩ := bcell hb1; simp only [World.size_alloc] at q1 q2 q3)
        go_roundw
        case rel => exact ⟨k + 1, by omega, by go_num, H1, (hbw.alloc (by omega) _).trans (hb1.mono (by simp; omega))⟩
        case measure => simp [intOf]; omega
      · go_wp2_with (go_at_call 127; refine (HC.out _).mono ?_; rintro e w1 ⟨rfl, hb1⟩; obtain ⟨q1, q2, q3⟩ := bcell hb1; simp only [World.size_alloc] at q1 q2 q3)
        go_ret
        exact ⟨ret_eq (H2.out hv).symm, hb0.trans (((hbw.mono (by omega)).alloc (by omega) _).trans (hb1.mono (by simp; omega)))⟩
    · have : k = ws.length := by omega
      subst this
      have HK' := Lib.hid (show 0 = chkL R ws by have := HK.out; rw [List.take_length] at this; exact this.symm)
      clear HK
      go_wp2
      go_ret
      exact ⟨ret_eq HK'.out, hb0.trans (hbw.mono (by omega))⟩

end Go.Proofs.YtlollcabnfncpaaDoor.Stp
