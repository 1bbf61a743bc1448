/-
  Checking a filling; how many cards stand upright; colours; sides: plain functions.
-/
import Derived.Test.YtlollcabnfncpaaDoorMathC
namespace Go.Proofs.YtlollcabnfncpaaDoor

/-- The number of a square. -/
def sqI (s : Sh) (x : Cd) : Int := x.row * s.c + x.col
/-- What is found when cards are laid one by one. -/
def verM (s : Sh) : List Cd → Nat → Int → Int
  | [], cov, _ => if cov = whl s then 0 else 21
  | x :: l, cov, last => if x.t = true ∧ s.l = s.w then 5 else if ¬ fitP s x then 1 else if sqI s x ≤ last then 7 else if cov &&& und s x ≠ 0 then 13 else verM s l (cov ||| und s x) (sqI s x)
def verS (s : Sh) (l : List Cd) : Int := verM s l 0 (-1)
theorem verM_cons_shape {s : Sh} {x : Cd} {l : List Cd} {cov : Nat} {last : Int} (h : x.t = true) (h2 : s.l = s.w) : verM s (x :: l) cov last = 5 := by rw [verM, if_pos ⟨h, h2⟩]
theorem verM_cons_fit {s : Sh} {x : Cd} {l : List Cd} {cov : Nat} {last : Int} (h : ¬ (x.t = true ∧ s.l = s.w)) (h2 : ¬ fitP s x) : verM s (x :: l) cov last = 1 := by rw [verM, if_neg h, if_pos h2]
theorem verM_cons_order {s : Sh} {x : Cd} {l : List Cd} {cov : Nat} {last : Int} (h : ¬ (x.t = true ∧ s.l = s.w)) (h2 : fitP s x) (h3 : sqI s x ≤ last) : verM s (x :: l) cov last = 7 := by rw [verM, if_neg h, if_neg (by simpa using h2), if_pos h3]
theorem verM_cons_clash {s : Sh} {x : Cd} {l : List Cd} {cov : Nat} {last : Int} (h : ¬ (x.t = true ∧ s.l = s.w)) (h2 : fitP s x) (h3 : ¬ sqI s x ≤ last) (h4 : cov &&& und s x ≠ 0) : verM s (x :: l) cov last = 13 := by rw [verM, if_neg h, if_neg (by simpa using h2), if_neg h3, if_pos h4]
theorem verM_cons_ok {s : Sh} {x : Cd} {l : List Cd} {cov : Nat} {last : Int} (h : ¬ (x.t = true ∧ s.l = s.w)) (h2 : fitP s x) (h3 : ¬ sqI s x ≤ last) (h4 : cov &&& und s x = 0) : verM s (x :: l) cov last = verM s l (cov ||| und s x) (sqI s x) := by
  rw [verM, if_neg h, if_neg (by simpa using h2), if_neg h3, if_neg (by simpa using h4)]
/-- Cards that are found right all fit. -/
theorem verM_fits {s : Sh} : ∀ (l : List Cd) (cov : Nat) (last : Int), verM s l cov last = 0 → ∀ x ∈ l, fitP s x
  | [], _, _, _, x, hx => by simp at hx
  | y :: l, cov, last, h, x, hx => by
    rw [verM] at h
    split at h
    · cases h
    · split at h
      · cases h
      · rename_i h2
        split at h
        · cases h
        · split at h
          · cases h
          · rcases List.mem_cons.1 hx with rfl | hx
            · simpa using h2
            · exact verM_fits l _ _ h x hx
theorem sqI_in {s : Sh} (hs : s.Ok) {x : Cd} (h : fitP s x) : 0 ≤ sqI s x ∧ sqI s x ≤ 35 := by
  obtain ⟨h1, h2, h3, h4⟩ := h
  have a1 := (hiS_le hs x.t).1
  have a2 := (wiS_le hs x.t).1
  have h36 := (area_le hs).2
  unfold sqI
  obtain ⟨row, col, t⟩ := x
  dsimp only at *
  obtain ⟨r0, rfl⟩ : ∃ n : Nat, row = n := ⟨row.toNat, by omega⟩
  obtain ⟨c0, rfl⟩ : ∃ n : Nat, col = n := ⟨col.toNat, by omega⟩
  have := sq_lt (R := s.r) (C := s.c) (x := r0) (y := c0) (by omega) (by omega)
  have e : (r0 : Int) * (s.c : Int) + (c0 : Int) = ((r0 * s.c + c0 : Nat) : Int) := by rw [Int.natCast_add, Int.natCast_mul]
  rw [e]
  omega
/-- .. and are no more than there are squares. -/
theorem verM_len {s : Sh} (hs : s.Ok) : ∀ (l : List Cd) (cov : Nat) (last : Int), -1 ≤ last → last ≤ 35 → verM s l cov last = 0 → l.length + (last + 1).toNat ≤ 36
  | [], _, last, h0, h1, _ => by simp; omega
  | y :: l, cov, last, h0, h1, h => by
    rw [verM] at h
    split at h
    · cases h
    · split at h
      · cases h
      · rename_i h2
        have h2' : fitP s y := by simpa using h2
        obtain ⟨k1, k2⟩ := sqI_in hs h2'
        split at h
        · cases h
        · split at h
          · cases h
          · have := verM_len hs l _ _ (by omega) k2 h
            rw [List.length_cons]
            omega

/-- How many cards stand upright, at least and at most, in all the ways to fill what is left. -/
structure En where
  lo : Int
  hi : Int
  fd : Bool
deriving DecidableEq
def En.more (a : En) : En := ⟨a.lo + 1, a.hi + 1, a.fd⟩
def En.or (a b : En) : En := if a.fd = false then b else if b.fd = false then a else ⟨min a.lo b.lo, max a.hi b.hi, true⟩
def enN (s : Sh) : Nat → Nat → En
  | 0, _ => ⟨0, 0, false⟩
  | n + 1, cov => if cov = whl s then ⟨0, 0, true⟩ else (nxt s cov).foldl (fun a x => a.or (if x.t = true then enN s n (cov ||| und s x) else (enN s n (cov ||| und s x)).more)) ⟨0, 0, false⟩
theorem foldl_cong {α β : Type} {f g : β → α → β} : ∀ {l : List α} {b : β}, (∀ b, ∀ x ∈ l, f b x = g b x) → l.foldl f b = l.foldl g b
  | [], _, _ => rfl
  | x :: l, b, h => by rw [List.foldl_cons, List.foldl_cons, h b x (by simp)]; exact foldl_cong fun b y hy => h b y (by simp [hy])
theorem en_fuel {s : Sh} (hs : s.Ok) : ∀ (n m cov : Nat), lft s cov < n → lft s cov < m → enN s n cov = enN s m cov
  | 0, _, _, h, _ => absurd h (Nat.not_lt_zero _)
  | _ + 1, 0, _, _, h => absurd h (Nat.not_lt_zero _)
  | n + 1, m + 1, cov, h1, h2 => by
    rw [enN, enN]
    split
    · rfl
    · refine foldl_cong fun b x hx => ?_
      have := lft_nxt hs hx
      rw [en_fuel hs n m _ (by omega) (by omega)]
def enC (s : Sh) (cov : Nat) : En := enN s 37 cov
theorem enC_eq {s : Sh} (hs : s.Ok) (cov : Nat) : enC s cov = if cov = whl s then ⟨0, 0, true⟩ else (nxt s cov).foldl (fun a x => a.or (if x.t = true then enC s (cov ||| und s x) else (enC s (cov ||| und s x)).more)) ⟨0, 0, false⟩ := by
  show enN s (36 + 1) cov = _
  rw [enN]
  split
  · rfl
  · refine foldl_cong fun b x hx => ?_
    have h1 := lft_nxt hs hx
    have h2 := lft_le hs cov
    unfold enC
    rw [en_fuel hs 36 37 _ (by omega) (by omega)]
def En.In (a : En) (n : Nat) : Prop := (0 ≤ a.lo ∧ a.lo ≤ n) ∧ 0 ≤ a.hi ∧ a.hi ≤ n
theorem En.In.or {a b : En} {n : Nat} (h : a.In n) (k : b.In n) : (a.or b).In n := by
  unfold En.or
  obtain ⟨⟨_, _⟩, _, _⟩ := h
  obtain ⟨⟨_, _⟩, _, _⟩ := k
  split
  · exact ⟨⟨by omega, by omega⟩, by omega, by omega⟩
  · split
    · exact ⟨⟨by omega, by omega⟩, by omega, by omega⟩
    · exact ⟨⟨by simp only; omega, by simp only; omega⟩, by simp only; omega, by simp only; omega⟩
theorem En.In.more {a : En} {n : Nat} (h : a.In n) : a.more.In (n + 1) := by
  obtain ⟨⟨_, _⟩, _, _⟩ := h
  exact ⟨⟨by simp only [En.more]; omega, by simp only [En.more]; omega⟩, by simp only [En.more]; omega, by simp only [En.more]; omega⟩
theorem En.In.up {a : En} {n m : Nat} (h : a.In n) (hm : n ≤ m) : a.In m := by
  obtain ⟨⟨_, _⟩, _, _⟩ := h
  exact ⟨⟨by omega, by omega⟩, by omega, by omega⟩
theorem foldl_in {α : Type} {f : En → α → En} {n : Nat} : ∀ {l : List α} {a : En}, a.In n → (∀ a x, a.In n → x ∈ l → (f a x).In n) → (l.foldl f a).In n
  | [], _, h, _ => h
  | x :: l, a, h, hf => by rw [List.foldl_cons]; exact foldl_in (hf a x h (by simp)) fun a y ha hy => hf a y ha (by simp [hy])
theorem en_in (s : Sh) : ∀ (n cov : Nat), (enN s n cov).In n
  | 0, _ => ⟨⟨by simp [enN], by simp [enN]⟩, by simp [enN], by simp [enN]⟩
  | n + 1, cov => by
    rw [enN]
    split
    · exact ⟨⟨by simp only; omega, by simp only; omega⟩, by simp only; omega, by simp only; omega⟩
    · refine foldl_in ⟨⟨by simp only; omega, by simp only; omega⟩, by simp only; omega, by simp only; omega⟩ fun a x ha _ => ha.or ?_
      split
      · exact (en_in s n _).up (by omega)
      · exact (en_in s n _).more
theorem enC_in (s : Sh) (cov : Nat) : (enC s cov).In 37 := en_in s 37 cov

/-- How many squares have each colour by a number. -/
def colN (r c k : Nat) (i : Nat) : Nat := ((List.range r).flatMap fun a => (List.range c).map fun b => (a + b) % k).countP (· == i)
def colS (r c k : Nat) : List Int := (List.range k).map fun i => (colN r c k i : Int)
/-- Whether a side is a sum of sides of cards. -/
def madeN (side l v : Nat) : Bool := (List.range (side + 1)).any fun n => decide (n * l ≤ side) && (side - n * l) % v == 0
end Go.Proofs.YtlollcabnfncpaaDoor
