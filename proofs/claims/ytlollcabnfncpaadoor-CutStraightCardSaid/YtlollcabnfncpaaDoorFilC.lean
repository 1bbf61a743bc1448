/-
  The statements' fillings: what lies in memory while cards are laid.
-/
import Derived.Test.YtlollcabnfncpaaDoorFilB
import Derived.Test.YtlollcabnfncpaaDoorSrcB
namespace Go.Proofs.YtlollcabnfncpaaDoor
open Go.RowKit

/-- A function that is called for each filling, with a state: what it holds in memory, of which blocks. -/
structure EachF (σ : Type) where
  k : Nat
  caps : Array Value
  f : σ → List Cd → σ × Bool
  I : σ → (Nat → Prop) → World → Prop
  enter : ∀ args W, Sem.run Tryd.prog (callFunc k args) W = .ok (.enter k args) W
  lt : ∀ {st B W}, I st B W → ∀ i, B i → i < W.heap.size
  keep : ∀ {st B W W'} {Q : Nat → Prop}, I st B W → Chg Q W W' → (∀ i, B i → ¬ Q i) → I st B W'

/-- The blocks of the variables of the statements' fillings. -/
structure FP where
  gs : Nat
  gu : Nat
  ge : Nat
  gl : Nat
  gf : Nat
  base : Nat

structure FilI {σ : Type} (s : Sh) (Z : FP) (F : EachF σ) (w : World) (st : σ) (B : Nat → Prop) (cov : Nat) (v : Value) (pre : List Cd) : Prop where
  s0 : w.cell? ⟨Z.gs, 0, none⟩ = some (.int .i64 s.r)
  s1 : w.cell? ⟨Z.gs, 1, none⟩ = some (.int .i64 s.c)
  s2 : w.cell? ⟨Z.gs, 2, none⟩ = some (.int .i64 s.l)
  s3 : w.cell? ⟨Z.gs, 3, none⟩ = some (.int .i64 s.w)
  us : GridAt w Z.gu (usB s cov)
  fn : w.cell? ⟨Z.ge, 0, none⟩ = some (.func (.func F.k) #[] F.caps)
  lv : w.cell? ⟨Z.gl, 0, none⟩ = some v
  lf : w.frozen? ⟨Z.gl, 0, none⟩ = false
  lo : w.ownsRow Z.base 69 3 v pre.length (ccells pre)
  fy : w.cell? ⟨Z.gf, 0, none⟩ = some (.func (.func 94) #[] #[.pointer (some ⟨Z.gs, 0, none⟩), .pointer (some ⟨Z.gu, 0, none⟩), .pointer (some ⟨Z.ge, 0, none⟩), .pointer (some ⟨Z.gl, 0, none⟩), .pointer (some ⟨Z.gf, 0, none⟩)])
  st : F.I st B w
  ob : ∀ g, v.ownBlock = some g → ¬ B g
  nb : ∀ i ∈ [Z.gs, Z.gu, Z.ge, Z.gl, Z.gf], ¬ B i ∧ i < Z.base
  d1 : ¬ Z.gs = Z.gu ∧ ¬ Z.ge = Z.gu ∧ ¬ Z.gl = Z.gu ∧ ¬ Z.gf = Z.gu
  d2 : ¬ Z.gs = Z.gl ∧ ¬ Z.ge = Z.gl ∧ ¬ Z.gf = Z.gl
  bs : Z.base ≤ w.heap.size

/-- Only the grid, the variable, its row and new blocks have changed. -/
theorem FilI.to {σ : Type} {s : Sh} {Z : FP} {F : EachF σ} {w w' : World} {st : σ} {B : Nat → Prop} {cov cov' : Nat} {v v' : Value} {pre pre' : List Cd} {P : Nat → Prop} (h : FilI s Z F w st B cov v pre) (hc : Chg P w w') (hP : ∀ i, P i → i = Z.gu ∨ i = Z.gl ∨ some i = v.ownBlock)
    (hu : GridAt w' Z.gu (usB s cov')) (lv' : w'.cell? ⟨Z.gl, 0, none⟩ = some v') (lf' : w'.frozen? ⟨Z.gl, 0, none⟩ = false) (lo' : w'.ownsRow Z.base 69 3 v' pre'.length (ccells pre')) (hob : NewOr w.heap.size v.ownBlock v'.ownBlock) : FilI s Z F w' st B cov' v' pre' := by
  have hrow : ∀ i, some i = v.ownBlock → Z.base ≤ i := fun i e => (h.lo.lt i e.symm).1
  have np : ∀ i ∈ [Z.gs, Z.ge, Z.gf], ¬ P i := fun i hi hp => by
    have h1 : i < Z.base := by
      refine (h.nb i ?_).2
      simp only [List.mem_cons, List.not_mem_nil, or_false] at hi ⊢
      rcases hi with rfl | rfl | rfl <;> simp
    obtain ⟨a1, a2, a3, a4⟩ := h.d1
    obtain ⟨b1, b2, b3⟩ := h.d2
    rcases hP i hp with e | e | e
    · subst e
      simp only [List.mem_cons, List.not_mem_nil, or_false] at hi
      rcases hi with e | e | e
      · exact a1 e.symm
      · exact a2 e.symm
      · exact a4 e.symm
    · subst e
      simp only [List.mem_cons, List.not_mem_nil, or_false] at hi
      rcases hi with e | e | e
      · exact b1 e.symm
      · exact b2 e.symm
      · exact b3 e.symm
    · have := hrow i e; omega
  have c := fun {i o : Nat} {u : Value} (e : w.cell? ⟨i, o, none⟩ = some u) (hi : i ∈ [Z.gs, Z.ge, Z.gf]) => (hc.cell (p := ⟨i, o, none⟩) (lt_of_cell e) (np i hi)).trans e
  refine ⟨c h.s0 (by simp), c h.s1 (by simp), c h.s2 (by simp), c h.s3 (by simp), hu, c h.fn (by simp), lv', lf', lo', c h.fy (by simp), F.keep h.st hc (fun i hb hp => ?_), fun g hg hb => ?_, h.nb, h.d1, h.d2, Nat.le_trans h.bs hc.size⟩
  · rcases hP i hp with e | e | e
    · subst e; exact (h.nb Z.gu (by simp)).1 hb
    · subst e; exact (h.nb Z.gl (by simp)).1 hb
    · exact h.ob i e.symm hb
  · rcases hob with e | ⟨k, e, hk⟩
    · rw [e] at hg; exact h.ob g hg hb
    · rw [e] at hg
      have e2 : k = g := Option.some.inj hg
      have := F.lt h.st g hb
      omega
theorem FilI.below {σ : Type} {s : Sh} {Z : FP} {F : EachF σ} {w w' : World} {st : σ} {B : Nat → Prop} {cov : Nat} {v : Value} {pre : List Cd} (h : FilI s Z F w st B cov v pre) (hb : Below w.heap.size w w') : FilI s Z F w' st B cov v pre := by
  have hc : Chg (fun _ => False) w w' := Chg.of_below hb
  have hgl := lt_of_cell h.lv
  exact h.to hc (fun _ e => e.elim) (h.us.chg hc id) ((hc.cell (p := ⟨Z.gl, 0, none⟩) hgl id).trans h.lv) ((hc.frozen (p := ⟨Z.gl, 0, none⟩) hgl id).trans h.lf) (hc.own h.lo (fun _ _ e => e)) (.inl rfl)
/-- The grid has changed. -/
theorem FilI.grid {σ : Type} {s : Sh} {Z : FP} {F : EachF σ} {w w' : World} {st : σ} {B : Nat → Prop} {cov cov' : Nat} {v : Value} {pre : List Cd} (h : FilI s Z F w st B cov v pre) (hc : Chg (fun i => i = Z.gu) w w') (hu : GridAt w' Z.gu (usB s cov')) : FilI s Z F w' st B cov' v pre := by
  have hgl := lt_of_cell h.lv
  have hr : ∀ g, v.ownBlock = some g → ¬ g = Z.gu := fun g hg e => by have := (h.lo.lt g hg).1; have := (h.nb Z.gu (by simp)).2; omega
  exact h.to hc (fun _ e => .inl e) hu ((hc.cell (p := ⟨Z.gl, 0, none⟩) hgl h.d1.2.2.1).trans h.lv) ((hc.frozen (p := ⟨Z.gl, 0, none⟩) hgl h.d1.2.2.1).trans h.lf) (hc.own h.lo hr) (.inl rfl)
/-- Behind an append to the list, and a store of the new list. -/
theorem FilI.push {σ : Type} {s : Sh} {Z : FP} {F : EachF σ} {w w' : World} {st : σ} {B : Nat → Prop} {cov : Nat} {v v' : Value} {pre : List Cd} {x : Cd} (h : FilI s Z F w st B cov v pre) (hg : w.grownBy w' v.ownBlock) (ho : w'.ownsRow Z.base 69 3 v' (pre.length + 1) (ccells (pre ++ [x]))) (hob : v'.ownBlock = v.ownBlock ∨ v'.ownBlock = some w.heap.size) :
    FilI s Z F (w'.setCell ⟨Z.gl, 0, none⟩ v') st B cov v' (pre ++ [x]) ∧ Chg (fun i => i = Z.gl ∨ some i = v.ownBlock) w (w'.setCell ⟨Z.gl, 0, none⟩ v') := by
  have hgl := lt_of_cell h.lv
  have hrow : ∀ i, some i = v.ownBlock → Z.base ≤ i := fun i e => (h.lo.lt i e.symm).1
  have hrow' : ∀ i, v'.ownBlock = some i → Z.base ≤ i := fun i e => (ho.lt i e).1
  have hb := (h.nb Z.gl (by simp)).2
  have hu := (h.nb Z.gu (by simp)).2
  have hc : Chg (fun i => i = Z.gl ∨ some i = v.ownBlock) w (w'.setCell ⟨Z.gl, 0, none⟩ v') :=
    ((Chg.of_grown hg).mono (Q := fun i => i = Z.gl ∨ some i = v.ownBlock) (fun i _ e => .inr e)).trans (Chg.store w' ⟨Z.gl, 0, none⟩ v') (fun i _ e => .inl e)
  have hn : ¬ some Z.gl = v.ownBlock := fun e => by have := hrow _ e; omega
  have c1 : w'.cell? ⟨Z.gl, 0, none⟩ = some v := ((Chg.of_grown hg).cell (p := ⟨Z.gl, 0, none⟩) hgl hn).trans h.lv
  have f1 : w'.frozen? ⟨Z.gl, 0, none⟩ = false := ((Chg.of_grown hg).frozen (p := ⟨Z.gl, 0, none⟩) hgl hn).trans h.lf
  refine ⟨h.to hc (fun i e => ?_) (h.us.chg hc ?_) ?_ ?_ ?_ ?_, hc⟩
  · rcases e with e | e
    · exact .inr (.inl e)
    · exact .inr (.inr e)
  · rintro (e | e)
    · exact h.d1.2.2.1 e.symm
    · have := hrow _ e; omega
  · simp [go_sem, c1]
  · simp [go_sem, f1]
  · rw [List.length_append, List.length_singleton]
    exact (Chg.store w' ⟨Z.gl, 0, none⟩ v').own ho (fun i e e2 => by have := hrow' i e; have e3 : i = Z.gl := e2; omega)
  · rcases hob with e | e
    · exact .inl e
    · exact .inr ⟨_, e, Nat.le_refl _⟩
/-- Behind a cut of the list by its last card. -/
theorem FilI.pop {σ : Type} {s : Sh} {Z : FP} {F : EachF σ} {w : World} {st : σ} {B : Nat → Prop} {cov : Nat} {A : Option Addr} {c : Nat} {pre : List Cd} {x : Cd} (h : FilI s Z F w st B cov (.slice A (pre.length + 1) c) (pre ++ [x])) :
    FilI s Z F (w.setCell ⟨Z.gl, 0, none⟩ (.slice A pre.length c)) st B cov (.slice A pre.length c) pre ∧ Chg (fun i => i = Z.gl) w (w.setCell ⟨Z.gl, 0, none⟩ (.slice A pre.length c)) := by
  have hc := Chg.store w ⟨Z.gl, 0, none⟩ (.slice A pre.length c)
  have hb := (h.nb Z.gl (by simp)).2
  have ho : w.ownsRow Z.base 69 3 (.slice A (pre.length + 1) c) (pre.length + 1) (ccells (pre ++ [x])) := by have := h.lo; rwa [List.length_append, List.length_singleton] at this
  have hown := own_cut ho rfl
  refine ⟨h.to hc (fun i e => .inr (.inl e)) (h.us.chg hc (fun e => h.d1.2.2.1 e.symm)) ?_ ?_ ?_ ?_, hc⟩
  · simp [go_sem, h.lv]
  · simp [go_sem, h.lf]
  · exact hc.own hown (fun i e e2 => by have := (hown.lt i e).1; have e3 : i = Z.gl := e2; omega)
  · rcases A with _ | A
    · exact .inl rfl
    · exact .inl rfl
/-- Behind a call of the function. -/
theorem FilI.called {σ : Type} {s : Sh} {Z : FP} {F : EachF σ} {w w' : World} {st st' : σ} {B B' : Nat → Prop} {cov : Nat} {v : Value} {pre : List Cd} (h : FilI s Z F w st B cov v pre) (hc : Chg B w w') (hI : F.I st' B' w') (hB : ∀ i, B' i → B i ∨ w.heap.size ≤ i) : FilI s Z F w' st' B' cov v pre := by
  have c := fun {i o : Nat} {u : Value} (e : w.cell? ⟨i, o, none⟩ = some u) (hi : i ∈ [Z.gs, Z.gu, Z.ge, Z.gl, Z.gf]) => (hc.cell (p := ⟨i, o, none⟩) (lt_of_cell e) (h.nb i hi).1).trans e
  refine ⟨c h.s0 (by simp), c h.s1 (by simp), c h.s2 (by simp), c h.s3 (by simp), h.us.chg hc (h.nb Z.gu (by simp)).1, c h.fn (by simp), c h.lv (by simp), (hc.frozen (p := ⟨Z.gl, 0, none⟩) (lt_of_cell h.lv) (h.nb Z.gl (by simp)).1).trans h.lf, hc.own h.lo h.ob, c h.fy (by simp), hI, fun g hg hb => ?_, fun i hi => ⟨fun hb => ?_, (h.nb i hi).2⟩, h.d1, h.d2, Nat.le_trans h.bs hc.size⟩
  · rcases hB g hb with e | e
    · exact h.ob g hg e
    · have := (h.lo.lt g hg).2; omega
  · rcases hB i hb with e | e
    · exact (h.nb i hi).1 e
    · have := (h.nb i hi).2; have := h.bs; omega

/-- What the function is asked for. -/
def EachS {σ : Type} (s : Sh) (F : EachF σ) : Prop := ∀ (st : σ) (B : Nat → Prop) (W : World) (A : Option Addr) (l : List Cd) (c : Nat), F.I st B W → CardsAt W W.heap.size A l → (∀ x ∈ l, fitP s x) → l.length ≤ 36 →
  Calls Tryd.prog F.k (#[.slice A l.length c] ++ F.caps) W fun e W' => e = .returned (.bool (F.f st l).2) ∧ ∃ B', (F.I (F.f st l).1 B' W' ∧ ∀ i, B' i → B i ∨ W.heap.size ≤ i) ∧ Chg B W W'
end Go.Proofs.YtlollcabnfncpaaDoor
