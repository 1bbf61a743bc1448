/-
  Books whose rooms and ways are turned, whichever way they lead, have the same spans; a room with one way in and one way out gives both the same span.
-/
import Derived.Test.YtcebihijnedekaaDoorMathK
namespace Go.Proofs.YtcebihijnedekaaDoor

/-- A way, its rooms turned by a of R rooms, and led back or not. -/
def turn (R a : Int) (back : Bool) (x : Wy) : Wy :=
  if back = true then ⟨(x.dst + a) % R, (x.src + a) % R, x.lo, x.hi⟩ else ⟨(x.src + a) % R, (x.dst + a) % R, x.lo, x.hi⟩

theorem net_append (r : Int) : ∀ (A : List Wy) (f : List Int) (B : List Wy) (g : List Int), f.length = A.length → net r (A ++ B) (f ++ g) = net r A f + net r B g
  | [], [], B, g, _ => by simp [net]
  | [], _ :: _, _, _, h => by simp at h
  | _ :: _, [], _, _, h => by simp at h
  | x :: A, y :: f, B, g, h => by
    have ih := net_append r A f B g (by simpa using h)
    simp only [List.cons_append, net, ih]
    omega

theorem mod_inj {R s r a : Int} (hR : R = 3 ∨ R = 4 ∨ R = 5) (hs : 0 ≤ s ∧ s < R) (hr : 0 ≤ r ∧ r < R) : (s + a) % R = (r + a) % R ↔ s = r := by
  rcases hR with rfl | rfl | rfl <;> omega

theorem net_turn {R a r : Int} (hR : R = 3 ∨ R = 4 ∨ R = 5) (back : Bool) (hr : 0 ≤ r ∧ r < R) : ∀ (ws : List Wy) (fl : List Int), (∀ x ∈ ws, (0 ≤ x.src ∧ x.src < R) ∧ (0 ≤ x.dst ∧ x.dst < R)) →
    net ((r + a) % R) (ws.map (turn R a back)) fl = if back = true then - net r ws fl else net r ws fl
  | [], _, _ => by cases back <;> simp [net]
  | _ :: _, [], _ => by cases back <;> simp [net]
  | x :: ws, f :: fl, h => by
    have ih := net_turn (a := a) hR back hr ws fl (fun y hy => h y (List.mem_cons_of_mem _ hy))
    obtain ⟨h1, h2⟩ := h x (List.mem_cons_self ..)
    have e1 := mod_inj (a := a) hR h1 hr
    have e2 := mod_inj (a := a) hR h2 hr
    cases back with
    | true =>
      simp only [List.map_cons, net, turn, if_true, e1, e2] at ih ⊢
      rw [ih]
      omega
    | false =>
      simp only [List.map_cons, net, turn, Bool.false_eq_true, if_false, e1, e2] at ih ⊢
      rw [ih]

/-- All flows stay flows. -/
theorem flow_turn {R a : Int} (hR : R = 3 ∨ R = 4 ∨ R = 5) (back : Bool) {ws : List Wy} (h : ∀ x ∈ ws, (0 ≤ x.src ∧ x.src < R) ∧ (0 ≤ x.dst ∧ x.dst < R)) (fl : List Int) : Flow (ws.map (turn R a back)) fl ↔ Flow ws fl := by
  have hR0 : 0 < R := by omega
  have hin : inR (ws.map (turn R a back)) fl ↔ inR ws fl := by
    have hlo : ∀ x : Wy, (turn R a back x).lo = x.lo ∧ (turn R a back x).hi = x.hi := fun x => by cases back <;> exact ⟨rfl, rfl⟩
    constructor
    · intro ⟨h1, h2⟩
      refine ⟨by simpa using h1, fun i w f hw hf => ?_⟩
      have := h2 i (turn R a back w) f (by rw [List.getElem?_map, hw]; rfl) hf
      rwa [(hlo w).1, (hlo w).2] at this
    · intro ⟨h1, h2⟩
      refine ⟨by simpa using h1, fun i w f hw hf => ?_⟩
      rw [List.getElem?_map] at hw
      cases hx : ws[i]? with
      | none => rw [hx] at hw; cases hw
      | some x =>
        rw [hx] at hw
        cases hw
        rw [(hlo x).1, (hlo x).2]
        exact h2 i x f hx hf
  unfold Flow
  rw [hin]
  refine and_congr_right fun _ => ⟨fun h2 r => ?_, fun h2 r => ?_⟩
  · by_cases hr : 0 ≤ r ∧ r < R
    · have := net_turn (a := a) hR back hr ws fl h
      rw [h2] at this
      cases back <;> simp at this <;> omega
    · exact net_none r ws fl fun x hx => by
        have := h x hx
        omega
  · by_cases hr : 0 ≤ r ∧ r < R
    · have hq : ((r - a) % R + a) % R = r := by rcases hR with rfl | rfl | rfl <;> omega
      have := net_turn (a := a) hR back (r := (r - a) % R) ⟨Int.emod_nonneg _ (by omega), Int.emod_lt_of_pos _ hR0⟩ ws fl h
      rw [hq, h2] at this
      rw [this]
      cases back <;> rfl
    · exact net_none r _ fl fun x hx => by
        obtain ⟨y, _, rfl⟩ := List.mem_map.1 hx
        have m1 := Int.emod_nonneg (y.src + a) (by omega : R ≠ 0)
        have m2 := Int.emod_lt_of_pos (y.src + a) hR0
        have m3 := Int.emod_nonneg (y.dst + a) (by omega : R ≠ 0)
        have m4 := Int.emod_lt_of_pos (y.dst + a) hR0
        cases back <;> simp only [turn, if_true, Bool.false_eq_true, if_false] <;> omega

/-- A list, its last sh elements first. -/
def rotR {α : Type} (sh : Nat) (l : List α) : List α := l.drop (l.length - sh) ++ l.take (l.length - sh)

theorem rotR_len {α : Type} (sh : Nat) (l : List α) : (rotR sh l).length = l.length := by
  unfold rotR; simp

theorem rotR_get {α : Type} (l : List α) (s i : Nat) (hi : i < l.length) : (rotR (s % l.length) l)[(i + s) % l.length]? = l[i]? := by
  have hsh : s % l.length < l.length := Nat.mod_lt _ (by omega)
  have e : (i + s) % l.length = if i + s % l.length < l.length then i + s % l.length else i + s % l.length - l.length := by
    rw [Nat.add_mod, Nat.mod_eq_of_lt hi]
    split
    · rename_i h; exact Nat.mod_eq_of_lt h
    · rename_i h
      rw [Nat.mod_eq_sub_mod (by omega)]
      exact Nat.mod_eq_of_lt (by omega)
  rw [e]
  generalize s % l.length = sh at hsh
  unfold rotR
  have hd : (l.drop (l.length - sh)).length = sh := by simp; omega
  split
  · rename_i h
    rw [List.getElem?_append_right (by omega), hd, List.getElem?_take, if_pos (by omega)]
    try (congr 1; omega)
  · rename_i h
    rw [List.getElem?_append_left (by omega), List.getElem?_drop]
    try (congr 1; omega)

theorem rotR_at {n s j : Nat} (hj : j < n) : ∃ i, i < n ∧ (i + s) % n = j := by
  refine ⟨(j + (n - s % n)) % n, Nat.mod_lt _ (by omega), ?_⟩
  have hsh : s % n < n := Nat.mod_lt _ (by omega)
  have hs := Nat.div_add_mod s n
  rw [Nat.mod_add_mod]
  have e : j + (n - s % n) + s = j + n * (s / n + 1) := by
    rw [Nat.mul_add, Nat.mul_one]
    omega
  rw [e, Nat.add_mul_mod_self_left]
  exact Nat.mod_eq_of_lt hj

theorem rotR_of {α : Type} {l us : List α} {s : Nat} (hl : us.length = l.length) (h : ∀ i x, l[i]? = some x → us[(i + s) % l.length]? = some x) : us = rotR (s % l.length) l := by
  refine List.ext_getElem? fun j => ?_
  by_cases hj : j < l.length
  · obtain ⟨i, hi, rfl⟩ := rotR_at (s := s) hj
    rw [rotR_get l s i hi, h i l[i] (List.getElem?_eq_getElem hi), List.getElem?_eq_getElem hi]
  · rw [List.getElem?_eq_none (by omega), List.getElem?_eq_none (by rw [rotR_len]; omega)]

theorem rotR_inv {α : Type} (sh : Nat) (g : List α) (h : sh ≤ g.length) : ∃ f, rotR sh f = g ∧ f.length = g.length := by
  refine ⟨g.drop sh ++ g.take sh, ?_, by simp; omega⟩
  unfold rotR
  have e1 : (g.drop sh ++ g.take sh).length - sh = (g.drop sh).length := by simp; omega
  rw [e1, List.drop_left, List.take_left, List.take_append_drop]

theorem flow_rot (s : Nat) {A : List Wy} {f : List Int} (hl : f.length = A.length) : Flow (rotR (s % A.length) A) (rotR (s % A.length) f) ↔ Flow A f := by
  have hnet : ∀ r, net r (rotR (s % A.length) A) (rotR (s % A.length) f) = net r A f := by
    intro r
    generalize s % A.length = sh
    have h1 := net_append r (A.take (A.length - sh)) (f.take (A.length - sh)) (A.drop (A.length - sh)) (f.drop (A.length - sh)) (by simp; omega)
    rw [List.take_append_drop, List.take_append_drop] at h1
    unfold rotR
    rw [hl, net_append _ _ _ _ _ (by simp; omega), h1]
    omega
  unfold Flow
  refine and_congr ⟨fun ⟨_, h2⟩ => ⟨hl, fun i w g hw hg => ?_⟩, fun ⟨_, h2⟩ => ⟨by rw [rotR_len, rotR_len, hl], fun j w g hw hg => ?_⟩⟩ (forall_congr' fun r => by rw [hnet r])
  · have hi := lt_of_get hw
    refine h2 ((i + s) % A.length) w g (by rw [rotR_get A s i hi]; exact hw) ?_
    rw [← hl, rotR_get f s i (by omega)]
    exact hg
  · have hj : j < A.length := by have := lt_of_get hw; rwa [rotR_len] at this
    obtain ⟨i, hi, rfl⟩ := rotR_at (s := s) hj
    rw [rotR_get A s i hi] at hw
    rw [← hl, rotR_get f s i (by omega)] at hg
    exact h2 i w g hw hg

/-- Turned books: valid, agreeing just if the others agree, and with the same spans. -/
theorem turn_facts {rooms : Nat} {ws us : List Wy} {a : Int} {s : Nat} {back : Bool} (hr : rooms = 2 ∨ rooms = 3 ∨ rooms = 4) (hv : inW rooms ws) (hok : okW ws) (hl : us.length = ws.length)
    (h : ∀ (i : Nat) (x : Wy), ws[i]? = some x → us[(i + s) % ws.length]? = some (turn ((rooms : Int) + 1) a back x)) :
    inW (rooms + 1) us ∧ okW us ∧ (Agr us ↔ Agr ws) ∧ (Agr ws → ∀ (i : Nat) (x : Wy), ws[i]? = some x → spanS (rooms + 1) us (turn ((rooms : Int) + 1) a back x) = spanS rooms ws x) := by
  have hR : ((rooms : Int) + 1) = 3 ∨ ((rooms : Int) + 1) = 4 ∨ ((rooms : Int) + 1) = 5 := by omega
  have hu : us = rotR (s % ws.length) (ws.map (turn ((rooms : Int) + 1) a back)) := by
    have := rotR_of (l := ws.map (turn ((rooms : Int) + 1) a back)) (us := us) (s := s) (by simpa using hl) (fun i x hx => by
      rw [List.getElem?_map] at hx
      cases hy : ws[i]? with
      | none => rw [hy] at hx; cases hx
      | some y =>
        rw [hy] at hx
        cases hx
        rw [List.length_map]
        exact h i y hy)
    rwa [List.length_map] at this
  have hin : ∀ x ∈ ws, (0 ≤ x.src ∧ x.src < (rooms : Int) + 1) ∧ (0 ≤ x.dst ∧ x.dst < (rooms : Int) + 1) := fun x hx => by have := hv x hx; omega
  have hmem : ∀ y ∈ us, ∃ x ∈ ws, y = turn ((rooms : Int) + 1) a back x := by
    intro y hy
    obtain ⟨j, hj, hjy⟩ := List.mem_iff_getElem.1 hy
    obtain ⟨i, hi, e⟩ := rotR_at (n := ws.length) (s := s) (j := j) (by omega)
    refine ⟨ws[i], List.getElem_mem hi, ?_⟩
    have := h i ws[i] (List.getElem?_eq_getElem hi)
    rw [e, List.getElem?_eq_getElem hj, hjy] at this
    exact Option.some.inj this
  have hvu : inW (rooms + 1) us := by
    intro y hy
    obtain ⟨x, hx, rfl⟩ := hmem y hy
    have m1 := Int.emod_nonneg (x.src + a) (by omega : (rooms : Int) + 1 ≠ 0)
    have m2 := Int.emod_lt_of_pos (x.src + a) (by omega : 0 < (rooms : Int) + 1)
    have m3 := Int.emod_nonneg (x.dst + a) (by omega : (rooms : Int) + 1 ≠ 0)
    have m4 := Int.emod_lt_of_pos (x.dst + a) (by omega : 0 < (rooms : Int) + 1)
    cases back <;> simp only [turn, if_true, Bool.false_eq_true, if_false] <;> omega
  have hou : okW us := by
    intro y hy
    obtain ⟨x, hx, rfl⟩ := hmem y hy
    have := hok x hx
    cases back <;> exact this
  have hfl : ∀ fl, fl.length = ws.length → (Flow us (rotR (s % ws.length) fl) ↔ Flow ws fl) := fun fl hfl => by
    have e := flow_rot s (A := ws.map (turn ((rooms : Int) + 1) a back)) (f := fl) (by simpa using hfl)
    rw [List.length_map, ← hu] at e
    rw [e]
    exact flow_turn hR back hin fl
  have hback : ∀ gl, Flow us gl → ∃ fl, Flow ws fl ∧ rotR (s % ws.length) fl = gl := fun gl hg => by
    have hgl : gl.length = ws.length := by have := hg.1.1; omega
    obtain ⟨fl, e1, e2⟩ : ∃ fl, rotR (s % ws.length) fl = gl ∧ fl.length = gl.length := by
      rcases Nat.eq_zero_or_pos ws.length with h0 | h0
      · obtain rfl : gl = [] := List.eq_nil_of_length_eq_zero (by omega)
        exact ⟨[], by simp [rotR], rfl⟩
      · exact rotR_inv _ gl (by rw [hgl]; exact Nat.le_of_lt (Nat.mod_lt _ h0))
    exact ⟨fl, (hfl fl (by omega)).1 (by rw [e1]; exact hg), e1⟩
  have hagr : Agr us ↔ Agr ws := by
    rw [hoffman hvu hou, hoffman hv hok]
    exact ⟨fun ⟨gl, hg⟩ => (hback gl hg).elim fun fl hf => ⟨fl, hf.1⟩, fun ⟨fl, hf⟩ => ⟨_, (hfl fl hf.1.1).2 hf⟩⟩
  refine ⟨hvu, hou, hagr, fun ha i x hx => ?_⟩
  have hil := lt_of_get hx
  have hy := h i x hx
  have s1 := span_sub hv hok ha hvu hx hy (fun fl f hF hf => ⟨_, (hfl fl hF.1.1).2 hF, by rw [← hF.1.1, rotR_get fl s i (by rw [hF.1.1]; exact hil)]; exact hf⟩)
  have s2 := span_sub hvu hou (hagr.2 ha) hv hy hx (fun gl f hG hg => by
    obtain ⟨fl, hF, rfl⟩ := hback gl hG
    refine ⟨fl, hF, ?_⟩
    rw [← hF.1.1, rotR_get fl s i (by rw [hF.1.1]; exact hil)] at hg
    exact hg)
  exact Prod.ext (by omega) (by omega)

/-- What comes with some ways. -/
def dS (p : Wy → Bool) : List Wy → List Int → Int
  | w :: ws, f :: fl => (if p w = true then f else 0) + dS p ws fl
  | _, _ => 0

theorem net_dS (r : Int) : ∀ (ws : List Wy) (fl : List Int), net r ws fl = dS (fun w => decide (w.dst = r)) ws fl - dS (fun w => decide (w.src = r)) ws fl
  | [], _ => by simp [net, dS]
  | _ :: _, [] => by simp [net, dS]
  | w :: ws, f :: fl => by
    simp only [net, dS, net_dS r ws fl, decide_eq_true_eq]
    omega

theorem dS_none (p : Wy → Bool) : ∀ (ws : List Wy) (fl : List Int), (∀ (j : Nat) (y : Wy), ws[j]? = some y → p y = false) → dS p ws fl = 0
  | [], _, _ => rfl
  | _ :: _, [], _ => rfl
  | w :: ws, f :: fl, h => by
    rw [dS, h 0 w rfl, dS_none p ws fl (fun j y hy => h (j + 1) y (by simpa using hy))]
    rfl

theorem dS_one (p : Wy → Bool) : ∀ (ws : List Wy) (fl : List Int) (i : Nat) (x : Wy) (f : Int), ws[i]? = some x → p x = true → fl[i]? = some f → (∀ (j : Nat) (y : Wy), ws[j]? = some y → j ≠ i → p y = false) → dS p ws fl = f
  | [], _, _, _, _, h, _, _, _ => by simp at h
  | _ :: _, [], _, _, _, _, _, h, _ => by simp at h
  | w :: ws, g :: fl, 0, x, f, hx, hp, hf, h => by
    simp at hx hf
    subst hx
    subst hf
    rw [dS, hp, dS_none p ws fl (fun j y hy => h (j + 1) y (by simpa using hy) (by omega))]
    simp
  | w :: ws, g :: fl, i + 1, x, f, hx, hp, hf, h => by
    rw [dS, h 0 w rfl (by omega), dS_one p ws fl i x f (by simpa using hx) hp (by simpa using hf) (fun j y hy hj => h (j + 1) y (by simpa using hy) (by omega))]
    simp

/-- One way into a room and one out of it: the same span. -/
theorem span_single {rooms : Nat} {ws : List Wy} {r : Int} {i o : Nat} {x y : Wy} (hv : inW rooms ws) (hok : okW ws) (ha : Agr ws) (hx : ws[i]? = some x) (hy : ws[o]? = some y) (hxr : x.dst = r) (hyr : y.src = r)
    (h1 : ∀ j z, ws[j]? = some z → j ≠ i → z.dst ≠ r) (h2 : ∀ j z, ws[j]? = some z → j ≠ o → z.src ≠ r) : spanS rooms ws x = spanS rooms ws y := by
  have key : ∀ fl f g, Flow ws fl → fl[i]? = some f → fl[o]? = some g → f = g := by
    intro fl f g hF hf hg
    have e := hF.2 r
    rw [net_dS, dS_one (fun w => decide (w.dst = r)) ws fl i x f hx (by simp [hxr]) hf (fun j z hz hj => by simp [h1 j z hz hj]), dS_one (fun w => decide (w.src = r)) ws fl o y g hy (by simp [hyr]) hg (fun j z hz hj => by simp [h2 j z hz hj])] at e
    omega
  have get : ∀ (fl : List Int) (k : Nat) (z : Wy), Flow ws fl → ws[k]? = some z → ∃ g, fl[k]? = some g := fun fl k z hF hz => ⟨fl[k]'(by rw [hF.1.1]; exact lt_of_get hz), List.getElem?_eq_getElem _⟩
  have s1 := span_sub hv hok ha hv hx hy (fun fl f hF hf => ⟨fl, hF, by
    obtain ⟨g, hg⟩ := get fl o y hF hy
    rw [hg, key fl f g hF hf hg]⟩)
  have s2 := span_sub hv hok ha hv hy hx (fun fl g hF hg => ⟨fl, hF, by
    obtain ⟨f, hf⟩ := get fl i x hF hx
    rw [hf, key fl f g hF hf hg]⟩)
  exact Prod.ext (by omega) (by omega)

/-- The last way into a room, the last one out of it, and whether there was at most one of each: of the first k ways. -/
def stT (r : Int) (ws : List Wy) : Nat → Int × Int × Bool
  | 0 => (-1, -1, true)
  | k + 1 => match ws[k]? with
    | none => stT r ws k
    | some x => (if x.dst = r then (k : Int) else (stT r ws k).1, if x.src = r then (k : Int) else (stT r ws k).2.1,
        if x.src = r then (if x.dst = r then (stT r ws k).2.2 && decide ((stT r ws k).1 < 0) else (stT r ws k).2.2) && decide ((stT r ws k).2.1 < 0) else (if x.dst = r then (stT r ws k).2.2 && decide ((stT r ws k).1 < 0) else (stT r ws k).2.2))

def LastOf (p : Wy → Bool) (ws : List Wy) (k : Nat) (i : Int) : Prop := (i = -1 ∧ ∀ j y, j < k → ws[j]? = some y → p y = false) ∨ ∃ (m : Nat) (x : Wy), i = m ∧ m < k ∧ ws[m]? = some x ∧ p x = true ∧ ∀ j y, j < k → ws[j]? = some y → j ≠ m → p y = false

theorem stT_bound (r : Int) (ws : List Wy) : ∀ k, (-1 ≤ (stT r ws k).1 ∧ (stT r ws k).1 < k) ∧ (-1 ≤ (stT r ws k).2.1 ∧ (stT r ws k).2.1 < k)
  | 0 => by simp [stT]
  | k + 1 => by
    have ih := stT_bound r ws k
    unfold stT
    split
    · omega
    · dsimp only
      constructor <;> split <;> omega

theorem stT_last (r : Int) (ws : List Wy) : ∀ k, (stT r ws k).2.2 = true → LastOf (fun w => decide (w.dst = r)) ws k (stT r ws k).1 ∧ LastOf (fun w => decide (w.src = r)) ws k (stT r ws k).2.1
  | 0, _ => ⟨.inl ⟨rfl, fun j y hj => by omega⟩, .inl ⟨rfl, fun j y hj => by omega⟩⟩
  | k + 1, h => by
    have ih := stT_last r ws k
    unfold stT at h ⊢
    cases hx : ws[k]? with
    | none =>
      rw [hx] at h
      dsimp only at h ⊢
      obtain ⟨h1, h2⟩ := ih h
      have up : ∀ p i, LastOf p ws k i → LastOf p ws (k + 1) i := by
        intro p i hL
        have hne : ∀ j y, j < k + 1 → ws[j]? = some y → j < k := fun j y hj hy => by
          rcases Nat.lt_or_ge j k with h | h
          · exact h
          · obtain rfl : j = k := by omega
            rw [hx] at hy; cases hy
        rcases hL with ⟨e, h3⟩ | ⟨m, x, e, h3, h4, h5, h6⟩
        · exact .inl ⟨e, fun j y hj hy => h3 j y (hne j y hj hy) hy⟩
        · exact .inr ⟨m, x, e, by omega, h4, h5, fun j y hj hy hm => h6 j y (hne j y hj hy) hy hm⟩
      exact ⟨up _ _ h1, up _ _ h2⟩
    | some x =>
      rw [hx] at h
      dsimp only at h ⊢
      have step : ∀ (p : Wy → Bool) (i : Int), LastOf p ws k i → (p x = true → i < 0) → LastOf p ws (k + 1) (if p x = true then (k : Int) else i) := by
        intro p i hL hi
        by_cases hp : p x = true
        · rw [if_pos hp]
          have := hi hp
          rcases hL with ⟨e, h3⟩ | ⟨m, z, e, _⟩
          · refine .inr ⟨k, x, rfl, by omega, hx, hp, fun j y hj hy hm => h3 j y (by omega) hy⟩
          · omega
        · rw [if_neg hp]
          have hpf : p x = false := by simpa using hp
          rcases hL with ⟨e, h3⟩ | ⟨m, z, e, h3, h4, h5, h6⟩
          · refine .inl ⟨e, fun j y hj hy => ?_⟩
            rcases Nat.lt_or_ge j k with hjk | hjk
            · exact h3 j y hjk hy
            · obtain rfl : j = k := by omega
              rw [hx] at hy; cases hy; exact hpf
          · refine .inr ⟨m, z, e, by omega, h4, h5, fun j y hj hy hm => ?_⟩
            rcases Nat.lt_or_ge j k with hjk | hjk
            · exact h6 j y hjk hy hm
            · obtain rfl : j = k := by omega
              rw [hx] at hy; cases hy; exact hpf
      have hs : (stT r ws k).2.2 = true := by
        revert h
        by_cases a1 : x.src = r <;> by_cases a2 : x.dst = r <;> simp [a1, a2] <;> intro h <;> simp_all
      obtain ⟨h1, h2⟩ := ih hs
      have g1 := step _ _ h1 (fun hp => by
        have hp' : x.dst = r := by simpa using hp
        revert h
        by_cases a1 : x.src = r <;> simp [a1, hp', hs] <;> intro h <;> omega)
      have g2 := step _ _ h2 (fun hp => by
        have hp' : x.src = r := by simpa using hp
        revert h
        by_cases a2 : x.dst = r <;> simp [a2, hp', hs] <;> intros <;> omega)
      simp only [decide_eq_true_eq] at g1 g2
      exact ⟨g1, g2⟩

theorem stT_span {rooms : Nat} {ws : List Wy} {r : Int} (hv : inW rooms ws) (hok : okW ws) (ha : Agr ws) (hs : (stT r ws ws.length).2.2 = true) (h1 : 0 ≤ (stT r ws ws.length).1) (h2 : 0 ≤ (stT r ws ws.length).2.1) :
    ∃ (i o : Nat) (p : Int × Int), (stT r ws ws.length).1 = i ∧ (stT r ws ws.length).2.1 = o ∧ (ws.map (spanS rooms ws))[i]? = some p ∧ (ws.map (spanS rooms ws))[o]? = some p := by
  obtain ⟨g1, g2⟩ := stT_last r ws ws.length hs
  rcases g1 with ⟨e, _⟩ | ⟨i, x, e1, _, hx, hp, hu⟩
  · omega
  rcases g2 with ⟨e, _⟩ | ⟨o, y, e2, _, hy, hq, hw⟩
  · omega
  have := span_single hv hok ha hx hy (by simpa using hp) (by simpa using hq) (fun j z hz hj => by simpa using hu j z (lt_of_get hz) hz hj) (fun j z hz hj => by simpa using hw j z (lt_of_get hz) hz hj)
  exact ⟨i, o, spanS rooms ws x, e1, e2, by rw [List.getElem?_map, hx]; rfl, by rw [List.getElem?_map, hy, this]; rfl⟩
end Go.Proofs.YtcebihijnedekaaDoor
