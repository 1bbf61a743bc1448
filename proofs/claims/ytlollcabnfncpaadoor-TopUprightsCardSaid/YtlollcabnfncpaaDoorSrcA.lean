/-
  The search for a filling that is wanted: what lies in memory while cards are laid.
-/
import Derived.Test.YtlollcabnfncpaaDoorWalkD
namespace Go.Proofs.YtlollcabnfncpaaDoor
open Go.RowKit Go.Maps

/-- The blocks of the variables of the search. -/
structure LP where
  gs : Nat
  gw : Nat
  gl : Nat
  gc : Nat
  gy : Nat
  gz : Nat
  p : Nat
  b : Nat
  g : Nat
  base : Nat

structure LayI (s : Sh) (Z : LP) (fw : Value) (w : World) (D : DataW Unit) (v : Value) (pre : List Cd) : Prop where
  s0 : w.cell? ⟨Z.gs, 0, none⟩ = some (.int .i64 s.r)
  s1 : w.cell? ⟨Z.gs, 1, none⟩ = some (.int .i64 s.c)
  s2 : w.cell? ⟨Z.gs, 2, none⟩ = some (.int .i64 s.l)
  s3 : w.cell? ⟨Z.gs, 3, none⟩ = some (.int .i64 s.w)
  z0 : w.cell? ⟨Z.gz, 0, none⟩ = some (.int .i64 s.r)
  z1 : w.cell? ⟨Z.gz, 1, none⟩ = some (.int .i64 s.c)
  z2 : w.cell? ⟨Z.gz, 2, none⟩ = some (.int .i64 s.l)
  z3 : w.cell? ⟨Z.gz, 3, none⟩ = some (.int .i64 s.w)
  fn : w.cell? ⟨Z.gw, 0, none⟩ = some fw
  lv : w.cell? ⟨Z.gl, 0, none⟩ = some v
  lf : w.frozen? ⟨Z.gl, 0, none⟩ = false
  lo : w.ownsRow Z.base 69 3 v pre.length (ccells pre)
  pc : w.cell? ⟨Z.gc, 0, none⟩ = some (.pointer (some ⟨Z.p, 0, none⟩))
  fy : w.cell? ⟨Z.gy, 0, none⟩ = some (.func (.func 128) #[] #[.pointer (some ⟨Z.gs, 0, none⟩), .pointer (some ⟨Z.gw, 0, none⟩), .pointer (some ⟨Z.gl, 0, none⟩), .pointer (some ⟨Z.gc, 0, none⟩), .pointer (some ⟨Z.gy, 0, none⟩)])
  memo : MemoI s Z.p Z.b Z.g w 68719476736 D
  old : ∀ i ∈ [Z.gs, Z.gw, Z.gc, Z.gy, Z.gz, Z.p, Z.b, Z.g, 0], i < Z.base ∧ i ≠ Z.gl
  lb : Z.gl < Z.base
  bs : Z.base ≤ w.heap.size

theorem MemoI.keep {s : Sh} {p b g m : Nat} {w w' : World} {D : DataW Unit} {P : Nat → Prop} (h : MemoI s p b g w m D) (hc : Chg P w w') (hp : ¬ P p) (hg : ¬ P g) (hb : ¬ P b) (h0 : ¬ P 0) : MemoI s p b g w' m D := by
  have c := fun {i o : Nat} {v : Value} (e : w.cell? ⟨i, o, none⟩ = some v) (hi : ¬ P i) => (hc.cell (p := ⟨i, o, none⟩) (lt_of_cell e) hi).trans e
  refine ⟨c h.fn hp, c h.mp hp, c h.s0 hg, c h.s1 hg, c h.s2 hg, c h.s3 hg, ?_, h.good, ⟨Nat.lt_of_lt_of_le h.tab.1 hc.size, fun j hj => c (h.tab.2 j hj) h0⟩, h.keys⟩
  obtain ⟨es, clock, h1, h2⟩ := h.own
  exact ⟨es, clock, hc.heap h1 hb, h2⟩

/-- The map, the variable and its row alone have changed. -/
theorem LayI.to {s : Sh} {Z : LP} {fw : Value} {w w' : World} {D D' : DataW Unit} {v v' : Value} {pre pre' : List Cd} {P : Nat → Prop} (h : LayI s Z fw w D v pre) (hc : Chg P w w') (hP : ∀ i, P i → i = Z.b ∨ i = Z.gl ∨ Z.base ≤ i)
    (hm : MemoI s Z.p Z.b Z.g w' 68719476736 D') (lv' : w'.cell? ⟨Z.gl, 0, none⟩ = some v') (lf' : w'.frozen? ⟨Z.gl, 0, none⟩ = false) (lo' : w'.ownsRow Z.base 69 3 v' pre'.length (ccells pre')) : LayI s Z fw w' D' v' pre' := by
  have c := fun {i o : Nat} {v : Value} (e : w.cell? ⟨i, o, none⟩ = some v) (hi : i ∈ [Z.gs, Z.gw, Z.gc, Z.gy, Z.gz, Z.p, Z.b, Z.g, 0]) => (hc.cell (p := ⟨i, o, none⟩) (lt_of_cell e) (fun hp => by
    have h1 := h.old i hi
    have h2 := ne_of_map h.memo.own e
    rcases hP i hp with h3 | h3 | h3
    · exact h2 h3
    · exact h1.2 h3
    · omega)).trans e
  exact ⟨c h.s0 (by simp), c h.s1 (by simp), c h.s2 (by simp), c h.s3 (by simp), c h.z0 (by simp), c h.z1 (by simp), c h.z2 (by simp), c h.z3 (by simp), c h.fn (by simp), lv', lf', lo', c h.pc (by simp), c h.fy (by simp), hm, h.old, h.lb, Nat.le_trans h.bs hc.size⟩

theorem own_ne_map {H : Type} {w : World} {P : Program} {k : TypeId} {R : Value → Option (DataW H × List MemPlace)} {b n : Nat} {D : DataW H} (hm : w.ownsMap P k R b n D) {base : Nat} {e : TypeId} {size q : Nat} {v : Value} {xs : List Value} (h : w.ownsRow base e size v q xs) :
    ∀ g, v.ownBlock = some g → g ≠ b := by
  rintro g hg rfl
  obtain ⟨es, clock, hb, _⟩ := hm
  rcases h.2 with ⟨rfl, _⟩ | ⟨g', cap, cur, rfl, _, h3, _⟩
  · cases hg
  · have e : g' = g := Option.some.inj hg
    subst e
    rw [hb] at h3
    cases h3

/-- Behind a question to the memo. -/
theorem LayI.asked {s : Sh} {Z : LP} {fw : Value} {w w' : World} {D D' : DataW Unit} {v : Value} {pre : List Cd} {m : Nat} (h : LayI s Z fw w D v pre) (hm : MemoI s Z.p Z.b Z.g w' m D') (hc : Chg (fun i => i = Z.b) w w') : LayI s Z fw w' D' v pre := by
  have hgl := lt_of_cell h.lv
  have hne := ne_of_map h.memo.own h.lv
  exact h.to hc (fun i e => .inl e) hm.few ((hc.cell (p := ⟨Z.gl, 0, none⟩) hgl hne).trans h.lv) ((hc.frozen (p := ⟨Z.gl, 0, none⟩) hgl hne).trans h.lf) (hc.own h.lo (own_ne_map h.memo.own h.lo))
theorem LayI.below {s : Sh} {Z : LP} {fw : Value} {w w' : World} {D : DataW Unit} {v : Value} {pre : List Cd} (h : LayI s Z fw w D v pre) (hb : Below w.heap.size w w') : LayI s Z fw w' D v pre :=
  h.asked (h.memo.below hb) (Chg.of_below hb)

/-- Behind an append to the list, and a store of the new list. -/
theorem LayI.push {s : Sh} {Z : LP} {fw : Value} {w w' : World} {D : DataW Unit} {v v' : Value} {pre : List Cd} {x : Cd} (h : LayI s Z fw w D v pre) (hg : w.grownBy w' v.ownBlock) (ho : w'.ownsRow Z.base 69 3 v' (pre.length + 1) (ccells (pre ++ [x]))) :
    LayI s Z fw (w'.setCell ⟨Z.gl, 0, none⟩ v') D v' (pre ++ [x]) ∧ Chg (fun i => i = Z.gl ∨ some i = v.ownBlock) w (w'.setCell ⟨Z.gl, 0, none⟩ v') := by
  have hgl := lt_of_cell h.lv
  have hrow : ∀ i, some i = v.ownBlock → Z.base ≤ i := fun i e => (h.lo.lt i e.symm).1
  have hrow' : ∀ i, v'.ownBlock = some i → Z.base ≤ i := fun i e => (ho.lt i e).1
  have hb := h.lb
  have hc : Chg (fun i => i = Z.gl ∨ some i = v.ownBlock) w (w'.setCell ⟨Z.gl, 0, none⟩ v') :=
    ((Chg.of_grown hg).mono (Q := fun i => i = Z.gl ∨ some i = v.ownBlock) (fun i _ e => .inr e)).trans (Chg.store w' ⟨Z.gl, 0, none⟩ v') (fun i _ e => .inl e)
  have hn : ¬ some Z.gl = v.ownBlock := fun e => by have := hrow _ e; omega
  have c1 : w'.cell? ⟨Z.gl, 0, none⟩ = some v := ((Chg.of_grown hg).cell (p := ⟨Z.gl, 0, none⟩) hgl hn).trans h.lv
  have f1 : w'.frozen? ⟨Z.gl, 0, none⟩ = false := ((Chg.of_grown hg).frozen (p := ⟨Z.gl, 0, none⟩) hgl hn).trans h.lf
  have hold := fun i hi => h.old i hi
  have np : ∀ i, i ∈ [Z.gs, Z.gw, Z.gc, Z.gy, Z.gz, Z.p, Z.b, Z.g, 0] → ¬ (i = Z.gl ∨ some i = v.ownBlock) := fun i hi e => by
    have h1 := hold i hi
    rcases e with e | e
    · exact h1.2 e
    · have := hrow i e; omega
  refine ⟨h.to hc (fun i e => ?_) (h.memo.keep hc (np _ (by simp)) (np _ (by simp)) (np _ (by simp)) (np _ (by simp))) ?_ ?_ ?_, hc⟩
  · rcases e with e | e
    · exact .inr (.inl e)
    · exact .inr (.inr (hrow i e))
  · simp [go_sem, c1]
  · simp [go_sem, f1]
  · rw [List.length_append, List.length_singleton]
    exact (Chg.store w' ⟨Z.gl, 0, none⟩ v').own ho (fun i e e2 => by have := hrow' i e; have e3 : i = Z.gl := e2; omega)

theorem own_cut {w : World} {base n c : Nat} {A : Option Addr} {l : List Cd} {x : Cd} (h : w.ownsRow base 69 3 (.slice A (n + 1) c) (n + 1) (ccells (l ++ [x]))) (hn : l.length = n) : w.ownsRow base 69 3 (.slice A n c) n (ccells l) := by
  subst hn
  rcases h.2 with ⟨e, h0⟩ | ⟨g, cap, cur, e, h1, h2, h3, h4, h5, h6⟩
  · exact absurd h0 (by omega)
  · injection e with e1 e2 e3
    subst e1 e3
    refine ⟨by rw [ccells_len], .inr ⟨g, c, cur, rfl, h1, h2, by omega, h4, h5, ?_⟩⟩
    have := congrArg (List.take (l.length * 3)) h6
    rw [List.take_take, ccells_append, List.take_append_of_le_length (by rw [ccells_len]; exact Nat.le_refl _), List.take_of_length_le (l := ccells l) (by rw [ccells_len]; exact Nat.le_refl _)] at this
    rwa [Nat.min_eq_left (by omega)] at this

/-- Behind a cut of the list by its last card. -/
theorem LayI.pop {s : Sh} {Z : LP} {fw : Value} {w : World} {D : DataW Unit} {A : Option Addr} {c : Nat} {pre : List Cd} {x : Cd} (h : LayI s Z fw w D (.slice A (pre.length + 1) c) (pre ++ [x])) :
    LayI s Z fw (w.setCell ⟨Z.gl, 0, none⟩ (.slice A pre.length c)) D (.slice A pre.length c) pre ∧ Chg (fun i => i = Z.gl) w (w.setCell ⟨Z.gl, 0, none⟩ (.slice A pre.length c)) := by
  have hc := Chg.store w ⟨Z.gl, 0, none⟩ (.slice A pre.length c)
  have hb := h.lb
  have ho : w.ownsRow Z.base 69 3 (.slice A (pre.length + 1) c) (pre.length + 1) (ccells (pre ++ [x])) := by have := h.lo; rwa [List.length_append, List.length_singleton] at this
  have hown := own_cut ho rfl
  have np : ∀ i, i ∈ [Z.gs, Z.gw, Z.gc, Z.gy, Z.gz, Z.p, Z.b, Z.g, 0] → ¬ (i = Z.gl) := fun i hi e => (h.old i hi).2 e
  refine ⟨h.to hc (fun i e => .inr (.inl e)) (h.memo.keep hc (np _ (by simp)) (np _ (by simp)) (np _ (by simp)) (np _ (by simp))) ?_ ?_ ?_, hc⟩
  · simp [go_sem, h.lv]
  · simp [go_sem, h.lf]
  · exact hc.own hown (fun i e e2 => by have := (hown.lt i e).1; have e3 : i = Z.gl := e2; omega)

/-- The row is the old one, or a new one. -/
def NewOr (n : Nat) (r r' : Option Nat) : Prop := r' = r ∨ ∃ k, r' = some k ∧ n ≤ k
theorem NewOr.trans {n n' : Nat} {r r' r'' : Option Nat} (h : NewOr n r r') (k : NewOr n' r' r'') (hn : n ≤ n') : NewOr n r r'' := by
  rcases k with e | ⟨k, e, hk⟩
  · rw [e]; exact h
  · exact .inr ⟨k, e, by omega⟩
theorem Chg.row {P : Nat → Prop} {a b c : World} {r r' : Option Nat} (h : Chg (fun i => P i ∨ some i = r) a b) (k : Chg (fun i => P i ∨ some i = r') b c) (hr : NewOr a.heap.size r r') : Chg (fun i => P i ∨ some i = r) a c :=
  h.trans k fun i hi e => by
    rcases e with e | e
    · exact .inl e
    · rcases hr with e2 | ⟨k, e2, hk⟩
      · exact .inr (by rw [e, e2])
      · rw [e2] at e
        have := Option.some.inj e
        omega

/-- What is searched first in a list that is joined of lists. -/
theorem find_flat {α β : Type} (q : β → Bool) (f : α → List β) : ∀ (l : List α) (k : Nat) (x : α) (r : β), l[k]? = some x → (∀ y ∈ l.take k, (f y).find? q = none) → (f x).find? q = some r → (l.flatMap f).find? q = some r
  | [], k, x, r, h, _, _ => by simp at h
  | y :: l, 0, x, r, h, _, hr => by
    simp at h; subst h
    rw [List.flatMap_cons, List.find?_append, hr]; rfl
  | y :: l, k + 1, x, r, h, hn, hr => by
    have h1 := hn y (by simp)
    rw [List.flatMap_cons, List.find?_append, h1]
    exact find_flat q f l k x r (by simpa using h) (fun z hz => hn z (by simp [hz])) hr
theorem find_flat_none {α β : Type} (q : β → Bool) (f : α → List β) : ∀ (l : List α), (∀ y ∈ l, (f y).find? q = none) → (l.flatMap f).find? q = none
  | [], _ => rfl
  | y :: l, h => by
    rw [List.flatMap_cons, List.find?_append, h y (by simp)]
    exact find_flat_none q f l fun z hz => h z (by simp [hz])
end Go.Proofs.YtlollcabnfncpaaDoor
