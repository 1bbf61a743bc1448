/-
  Blocks, the gaps between them, cuts, and divisions: plain functions.
-/
import Derived.Test.YtlollcabnfncpaaDoorMathB
namespace Go.Proofs.YtlollcabnfncpaaDoor

/-- A block: rows from a to before b, columns from c to before d. -/
structure Bl where
  a : Int
  b : Int
  c : Int
  d : Int
deriving DecidableEq

def blk (s : Sh) (x : Cd) : Bl := ⟨x.row, x.row + (hiS s x.t : Nat), x.col, x.col + (wiS s x.t : Nat)⟩
def areaB (s : Sh) : Bl := ⟨0, s.r, 0, s.c⟩

/-- The places behind f, n of them, that divide no span. -/
def gapN (f : Int) (n : Nat) (sp : List (Int × Int)) : List Int := ((List.range n).map fun k => f + 1 + (k : Nat)).filter fun at' => sp.all fun p => !(decide (p.1 < at') && decide (at' < p.2))
def gapL (f t : Int) (sp : List (Int × Int)) : List Int := gapN f (t - f - 1).toNat sp
theorem filter_one {α : Type} (p : α → Bool) (x : α) : [x].filter p = if p x = true then [x] else [] := by
  rw [List.filter_cons]; rfl
theorem gapN_succ (f : Int) (n : Nat) (sp : List (Int × Int)) : gapN f (n + 1) sp = gapN f n sp ++ if (sp.all fun p => !(decide (p.1 < f + 1 + (n : Nat)) && decide (f + 1 + (n : Nat) < p.2))) = true then [f + 1 + (n : Nat)] else [] := by
  unfold gapN
  rw [List.range_succ, List.map_append, List.filter_append]
  congr 1
  exact filter_one _ _
theorem gapN_len (f : Int) (n : Nat) (sp : List (Int × Int)) : (gapN f n sp).length ≤ n := by
  unfold gapN
  refine Nat.le_trans (List.length_filter_le _ _) ?_
  simp
theorem mem_gapN {f : Int} {n : Nat} {sp : List (Int × Int)} {x : Int} (h : x ∈ gapN f n sp) : f < x ∧ x ≤ f + n ∧ ∀ p ∈ sp, ¬ (p.1 < x ∧ x < p.2) := by
  unfold gapN at h
  obtain ⟨h1, h2⟩ := List.mem_filter.1 h
  obtain ⟨k, hk, rfl⟩ := List.mem_map.1 h1
  rw [List.mem_range] at hk
  refine ⟨by omega, by omega, fun p hp hpp => ?_⟩
  have := List.all_eq_true.1 h2 p hp
  simp [hpp.1, hpp.2] at this

def rowsB (l : List Bl) : List (Int × Int) := l.map fun x => (x.a, x.b)
def colsB (l : List Bl) : List (Int × Int) := l.map fun x => (x.c, x.d)
def solidP (s : Sh) (l : List Cd) : Bool := (gapL 0 s.r (rowsB (l.map (blk s)))).length == 0 && (gapL 0 s.c (colsB (l.map (blk s)))).length == 0

def holdsB (p x : Bl) : Bool := decide (p.a ≤ x.a ∧ x.b ≤ p.b ∧ p.c ≤ x.c ∧ x.d ≤ p.d)
def cutR (p : Bl) (at' : Int) : Bl × Bl := (⟨p.a, at', p.c, p.d⟩, ⟨at', p.b, p.c, p.d⟩)
def cutC (p : Bl) (at' : Int) : Bl × Bl := (⟨p.a, p.b, p.c, at'⟩, ⟨p.a, p.b, at', p.d⟩)
def halvesB (p : Bl) (l : List Bl) : List (Bl × Bl) := (gapL p.a p.b (rowsB l)).map (cutR p) ++ (gapL p.c p.d (colsB l)).map (cutC p)

structure Dv where
  st : Bool
  n : Nat
deriving DecidableEq
def Dv.bet (d : Dv) (x : Dv × Dv) : Dv := if x.1.st = true ∧ x.2.st = true ∧ (d.st = false ∨ max x.1.n x.2.n + 1 < d.n) then ⟨true, max x.1.n x.2.n + 1⟩ else d
def bestD (l : List (Dv × Dv)) : Dv := l.foldl Dv.bet ⟨false, 0⟩
def divB (all : List Bl) : Nat → Bl → Dv
  | 0, _ => ⟨false, 0⟩
  | n + 1, p => if (all.filter (holdsB p)).length = 1 then ⟨true, 0⟩ else bestD ((halvesB p (all.filter (holdsB p))).map fun x => (divB all n x.1, divB all n x.2))

/-- How large a block is. -/
def Bl.m (p : Bl) : Nat := (p.b - p.a).toNat + (p.d - p.c).toNat
theorem halves_m {p : Bl} {l : List Bl} {x : Bl × Bl} (h : x ∈ halvesB p l) : x.1.m < p.m ∧ x.2.m < p.m := by
  unfold halvesB at h
  rcases List.mem_append.1 h with h | h
  · obtain ⟨y, hy, rfl⟩ := List.mem_map.1 h
    obtain ⟨h1, h2, _⟩ := mem_gapN hy
    unfold cutR Bl.m
    dsimp only
    omega
  · obtain ⟨y, hy, rfl⟩ := List.mem_map.1 h
    obtain ⟨h1, h2, _⟩ := mem_gapN hy
    unfold cutC Bl.m
    dsimp only
    omega
theorem map_cong {α β : Type} {f g : α → β} : ∀ {l : List α}, (∀ x ∈ l, f x = g x) → l.map f = l.map g
  | [], _ => rfl
  | x :: l, h => by rw [List.map_cons, List.map_cons, h x (by simp), map_cong fun y hy => h y (by simp [hy])]
theorem divB_fuel (all : List Bl) : ∀ (n m : Nat) (p : Bl), p.m < n → p.m < m → divB all n p = divB all m p
  | 0, _, _, h, _ => absurd h (Nat.not_lt_zero _)
  | _ + 1, 0, _, _, h => absurd h (Nat.not_lt_zero _)
  | n + 1, m + 1, p, h1, h2 => by
    rw [divB, divB]
    split
    · rfl
    · refine congrArg bestD (map_cong fun x hx => ?_)
      obtain ⟨a1, a2⟩ := halves_m hx
      rw [divB_fuel all n m x.1 (by omega) (by omega), divB_fuel all n m x.2 (by omega) (by omega)]

/-- A block within 0 to 6. -/
def Bl.Ok (p : Bl) : Prop := (0 ≤ p.a ∧ p.a ≤ 6) ∧ (0 ≤ p.b ∧ p.b ≤ 6) ∧ (0 ≤ p.c ∧ p.c ≤ 6) ∧ 0 ≤ p.d ∧ p.d ≤ 6
theorem Bl.Ok.m {p : Bl} (h : p.Ok) : p.m ≤ 12 := by
  obtain ⟨h1, h2, h3, h4⟩ := h
  unfold Bl.m
  omega
theorem halves_ok {p : Bl} {l : List Bl} {x : Bl × Bl} (hp : p.Ok) (h : x ∈ halvesB p l) : x.1.Ok ∧ x.2.Ok := by
  obtain ⟨k1, k2, k3, k4⟩ := hp
  unfold halvesB at h
  rcases List.mem_append.1 h with h | h
  · obtain ⟨y, hy, rfl⟩ := List.mem_map.1 h
    obtain ⟨h1, h2, _⟩ := mem_gapN hy
    unfold cutR Bl.Ok
    dsimp only
    omega
  · obtain ⟨y, hy, rfl⟩ := List.mem_map.1 h
    obtain ⟨h1, h2, _⟩ := mem_gapN hy
    unfold cutC Bl.Ok
    dsimp only
    omega
def divC (all : List Bl) (p : Bl) : Dv := divB all 13 p
theorem divC_eq (all : List Bl) {p : Bl} (hp : p.Ok) : divC all p = if (all.filter (holdsB p)).length = 1 then ⟨true, 0⟩ else bestD ((halvesB p (all.filter (holdsB p))).map fun x => (divC all x.1, divC all x.2)) := by
  show divB all (12 + 1) p = _
  rw [divB]
  split
  · rfl
  · refine congrArg bestD (map_cong fun x hx => ?_)
    obtain ⟨a1, a2⟩ := halves_m hx
    have := hp.m
    unfold divC
    rw [divB_fuel all 12 13 x.1 (by omega) (by omega), divB_fuel all 12 13 x.2 (by omega) (by omega)]
theorem bet_le (d : Dv) (x : Dv × Dv) (N : Nat) (hd : d.n ≤ N) (h1 : x.1.n < N) (h2 : x.2.n < N) : (d.bet x).n ≤ N := by
  unfold Dv.bet
  split
  · dsimp only; omega
  · exact hd
theorem foldl_bet_le (N : Nat) : ∀ (l : List (Dv × Dv)) (d : Dv), d.n ≤ N → (∀ x ∈ l, x.1.n < N ∧ x.2.n < N) → (l.foldl Dv.bet d).n ≤ N
  | [], _, h, _ => h
  | x :: l, d, h, hl => foldl_bet_le N l _ (bet_le d x N h (hl x (by simp)).1 (hl x (by simp)).2) fun y hy => hl y (by simp [hy])
theorem divB_le (all : List Bl) : ∀ (n : Nat) (p : Bl), (divB all n p).n ≤ n
  | 0, _ => Nat.le_refl _
  | n + 1, p => by
    rw [divB]
    split
    · exact Nat.zero_le _
    · refine foldl_bet_le (n + 1) _ _ (Nat.zero_le _) fun x hx => ?_
      obtain ⟨y, _, rfl⟩ := List.mem_map.1 hx
      have h1 := divB_le all n y.1
      have h2 := divB_le all n y.2
      exact ⟨by dsimp only; omega, by dsimp only; omega⟩
theorem divC_le (all : List Bl) (p : Bl) : (divC all p).n ≤ 13 := divB_le all 13 p
end Go.Proofs.YtlollcabnfncpaaDoor
