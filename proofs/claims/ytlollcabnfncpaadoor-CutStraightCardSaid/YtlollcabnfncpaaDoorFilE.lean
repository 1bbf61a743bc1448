/-
  The statements' fillings: the walk of a sheet that is not yet whole.
-/
import Derived.Test.YtlollcabnfncpaaDoorFilD
import Derived.Test.YtlollcabnfncpaaDoorApp
namespace Go.Proofs.YtlollcabnfncpaaDoor
open Go.RowKit

/-- The blocks that may change. -/
def Ptch (Z : FP) (B : Nat → Prop) (v : Value) (i : Nat) : Prop := B i ∨ i = Z.gu ∨ i = Z.gl ∨ some i = v.ownBlock
/-- The fillings of the first turns. -/
def prtN (s : Sh) (cov : Nat) (pre : List Cd) : Nat → List (List Cd)
  | 0 => []
  | 1 => prt s cov pre false
  | _ => prt s cov pre false ++ prt s cov pre true
/-- Ahead of a turn. -/
structure FilR {σ : Type} (s : Sh) (Z : FP) (F : EachF σ) (B : Nat → Prop) (cov : Nat) (v : Value) (pre : List Cd) (st : σ) (W0 : World) (j : Nat) (wr : World) (vr : Value) (Br : Nat → Prop) (sr : σ) : Prop where
  inv : FilI s Z F wr sr Br cov vr pre
  own : NewOr W0.heap.size v.ownBlock vr.ownBlock
  chg : Chg (Ptch Z B v) W0 wr
  blk : ∀ i, Br i → B i ∨ W0.heap.size ≤ i
  run : runF F.f st (prtN s cov pre j) = (sr, true)
theorem runF_prtN {σ : Type} {f : σ → List Cd → σ × Bool} {s : Sh} {cov : Nat} {pre : List Cd} {st sr : σ} {j : Nat} (hj : j < 2) (h : runF f st (prtN s cov pre j) = (sr, true)) : runF f st (prtN s cov pre (j + 1)) = runF f sr (prt s cov pre (decide (j = 1))) := by
  rcases j with _ | _ | j
  · have e : st = sr := by have := congrArg Prod.fst h; exact this
    rw [← e]; rfl
  · show runF f st (prt s cov pre false ++ prt s cov pre true) = _
    rw [runF_append, show runF f st (prt s cov pre false) = (sr, true) from h, if_pos rfl]
    rfl
  · omega
theorem FilR.next {σ : Type} {s : Sh} {Z : FP} {F : EachF σ} {B : Nat → Prop} {cov : Nat} {v : Value} {pre : List Cd} {st : σ} {W0 : World} {j : Nat} {wr w' : World} {vr v' : Value} {Br B' : Nat → Prop} {sr s' : σ} (h : FilR s Z F B cov v pre st W0 j wr vr Br sr) (hj : j < 2)
    (hI : FilI s Z F w' s' B' cov v' pre) (hn : NewOr wr.heap.size vr.ownBlock v'.ownBlock) (hc : Chg (Ptch Z Br vr) wr w') (hb : ∀ i, B' i → Br i ∨ wr.heap.size ≤ i) (hr : runF F.f sr (prt s cov pre (decide (j = 1))) = (s', true)) : FilR s Z F B cov v pre st W0 (j + 1) w' v' B' s' := by
  have hsz := h.chg.size
  refine ⟨hI, h.own.trans hn hsz, h.chg.trans hc (fun i hi hq => ?_), fun i hi => ?_, by rw [runF_prtN hj h.run]; exact hr⟩
  · rcases hq with e | e | e | e
    · rcases h.blk i e with e | e
      · exact .inl e
      · omega
    · exact .inr (.inl e)
    · exact .inr (.inr (.inl e))
    · rcases h.own with o | ⟨k, o, hk⟩
      · rw [o] at e; exact .inr (.inr (.inr e))
      · rw [o] at e; have := Option.some.inj e; omega
  · rcases hb i hi with e | e
    · exact h.blk i e
    · exact .inr (by omega)
/-- A turn that lays nothing. -/
theorem FilR.skip {σ : Type} {s : Sh} {Z : FP} {F : EachF σ} {B : Nat → Prop} {cov : Nat} {v : Value} {pre : List Cd} {st : σ} {W0 : World} {j : Nat} {wr w' : World} {vr : Value} {Br : Nat → Prop} {sr : σ} (h : FilR s Z F B cov v pre st W0 j wr vr Br sr) (hj : j < 2) (hb : Below wr.heap.size wr w') (hr : prt s cov pre (decide (j = 1)) = []) : FilR s Z F B cov v pre st W0 (j + 1) w' vr Br sr :=
  h.next hj (h.inv.below hb) (.inl rfl) (Chg.of_below hb) (fun _ e => .inl e) (by rw [hr]; rfl)
/-- Behind the last turn. -/
theorem FilR.done {σ : Type} {s : Sh} {Z : FP} {F : EachF σ} {B : Nat → Prop} {cov : Nat} {v : Value} {pre : List Cd} {st : σ} {w W0 : World} {wr : World} {vr : Value} {Br : Nat → Prop} {sr : σ} (h : FilR s Z F B cov v pre st W0 2 wr vr Br sr) (hb : Below w.heap.size w W0) :
    RetFil s Z F w B cov v pre (runF F.f st (prt s cov pre false ++ prt s cov pre true)) (.returned (.bool true)) wr := by
  have hr : runF F.f st (prt s cov pre false ++ prt s cov pre true) = (sr, true) := h.run
  rw [hr]
  refine ⟨rfl, Br, ⟨h.inv.st, fun i hi => ?_⟩, (Chg.of_below hb).trans h.chg (fun _ _ e => e), fun _ => ⟨vr, h.inv, h.own.low hb.size⟩⟩
  rcases h.blk i hi with e | e
  · exact .inl e
  · exact .inr (Nat.le_trans hb.size e)
/-- No card is laid: a square one has been laid, or it goes over the sheet's rows or columns, or a square is used. -/
theorem prt_nil1 {s : Sh} {cov : Nat} {pre : List Cd} {t : Bool} (h1 : t = true) (h2 : s.l = s.w) : prt s cov pre t = [] := by unfold prt; rw [if_pos (.inl ⟨h1, h2⟩)]
theorem prt_nil2 {s : Sh} {cov q p : Nat} {pre : List Cd} {t : Bool} (hx : crd s cov t = ⟨q, p, t⟩) (h : ¬ (q + hiS s t ≤ s.r ∧ p + wiS s t ≤ s.c)) : prt s cov pre t = [] := by
  have hno : ¬ freeP s cov (crd s cov t) := fun hf => h (by
    have hf := hf.1
    rw [hx] at hf
    obtain ⟨_, h2, _, h4⟩ := hf
    change (q : Int) ≤ (s.r : Int) - hiS s t at h2
    change (p : Int) ≤ (s.c : Int) - wiS s t at h4
    omega)
  exact if_pos (.inr hno)
theorem crd_fit {s : Sh} {q p : Nat} {t : Bool} (h : q + hiS s t ≤ s.r ∧ p + wiS s t ≤ s.c) : fitP s ⟨q, p, t⟩ := by
  refine ⟨by simp, ?_, by simp, ?_⟩
  · show (q : Int) ≤ (s.r : Int) - hiS s t; omega
  · show (p : Int) ≤ (s.c : Int) - wiS s t; omega

theorem prt_nil3 {s : Sh} {cov : Nat} {pre : List Cd} {t : Bool} {x : Cd} (hx : crd s cov t = x) (h : ¬ cov &&& und s x = 0) : prt s cov pre t = [] := if_pos (.inr fun hf => h (hx ▸ hf.2))
theorem prt_more {s : Sh} {cov : Nat} {pre : List Cd} {t : Bool} {x : Cd} (hx : crd s cov t = x) (h1 : ¬ (t = true ∧ s.l = s.w)) (h2 : fitP s x) (h3 : cov &&& und s x = 0) : prt s cov pre t = filC s (cov ||| und s x) (pre ++ [x]) := by
  subst hx
  exact if_neg fun h => by
    rcases h with h | h
    · exact h1 h
    · exact h ⟨h2, h3⟩
/-- What is asked of a call behind a card. -/
theorem prt_call {s : Sh} (hs : s.Ok) {cov a q p n : Nat} {pre : List Cd} {t : Bool} {x : Cd} (hx : crd s cov t = x) (hxe : x = ⟨q, p, t⟩) (h1 : ¬ (t = true ∧ s.l = s.w)) (h2 : fitP s x) (h3 : cov &&& und s x = 0) (hin : InS s cov) (hl : lft s cov < n + 1) (hp : ∀ y ∈ pre, fitP s y) (hlen : pre.length + lft s cov ≤ 36)
    (hat : ∀ i, i < a → cov.testBit i = true) (ha : a = s.c * q + p) : lft s (cov ||| und s x) < n ∧ InS s (cov ||| und s x) ∧ (∀ y ∈ pre ++ [x], fitP s y) ∧ (pre ++ [x]).length + lft s (cov ||| und s x) ≤ 36 ∧ ∀ i, i < a + 1 → (cov ||| und s x).testBit i = true := by
  have hm : x ∈ nxt s cov := hx ▸ crd_nxt h1 (hx ▸ ⟨h2, h3⟩)
  have hlt := lft_nxt hs hm
  refine ⟨by omega, hin.or h2, fun y hy => ?_, by rw [List.length_append, List.length_singleton]; omega, fun i hi => ?_⟩
  · rcases List.mem_append.1 hy with hy | hy
    · exact hp y hy
    · rw [List.mem_singleton] at hy; rw [hy]; exact h2
  · rw [Nat.testBit_or]
    by_cases e : i = a
    · have hb : (und s x).testBit i = true := (und_bit _).2 ⟨0, 0, (hiS_le hs x.t).1, (wiS_le hs x.t).1, by
        rw [hxe, e, ha, Nat.mul_comm]; rfl⟩
      rw [hb, Bool.or_true]
    · rw [hat i (by omega)]; rfl
/-- What no turn ahead has touched is not touched. -/
theorem FilR.off {σ : Type} {s : Sh} {Z : FP} {F : EachF σ} {B : Nat → Prop} {cov : Nat} {v : Value} {pre : List Cd} {st : σ} {W0 : World} {j : Nat} {wr : World} {vr : Value} {Br : Nat → Prop} {sr : σ} (h : FilR s Z F B cov v pre st W0 j wr vr Br sr) {i : Nat} (hi : i < W0.heap.size) (hn : ¬ Ptch Z B v i) : ¬ Ptch Z Br vr i := by
  rintro (e | e | e | e)
  · rcases h.blk i e with e | e
    · exact hn (.inl e)
    · omega
  · exact hn (.inr (.inl e))
  · exact hn (.inr (.inr (.inl e)))
  · rcases h.own with o | ⟨k, o, hk⟩
    · rw [o] at e; exact hn (.inr (.inr (.inr e)))
    · rw [o] at e; have := Option.some.inj e; omega
theorem FilI.off {σ : Type} {s : Sh} {Z : FP} {F : EachF σ} {w : World} {st : σ} {B : Nat → Prop} {cov : Nat} {v : Value} {pre : List Cd} (h : FilI s Z F w st B cov v pre) {i : Nat} (hi : w.heap.size ≤ i) : ¬ Ptch Z B v i := by
  have hbs := h.bs
  rintro (e | e | e | e)
  · have := F.lt h.st i e; omega
  · have := (h.nb Z.gu (by simp)).2; omega
  · have := (h.nb Z.gl (by simp)).2; omega
  · have := (h.lo.lt i e.symm).2; omega
/-- Behind an append to the list, ahead of the store of the new list. -/
theorem FilI.grown {σ : Type} {s : Sh} {Z : FP} {F : EachF σ} {w w' : World} {st : σ} {B : Nat → Prop} {cov : Nat} {v : Value} {pre : List Cd} (h : FilI s Z F w st B cov v pre) (hg : w.grownBy w' v.ownBlock) :
    (w'.cell? ⟨Z.gl, 0, none⟩ = some v ∧ w'.frozen? ⟨Z.gl, 0, none⟩ = false) ∧ w'.cell? ⟨Z.gf, 0, none⟩ = some (.func (.func 94) #[] #[.pointer (some ⟨Z.gs, 0, none⟩), .pointer (some ⟨Z.gu, 0, none⟩), .pointer (some ⟨Z.ge, 0, none⟩), .pointer (some ⟨Z.gl, 0, none⟩), .pointer (some ⟨Z.gf, 0, none⟩)]) ∧ Z.gl < w'.heap.size ∧ Z.gf < w'.heap.size ∧ ¬ Z.gf = Z.gl := by
  have hgl := lt_of_cell h.lv
  have hrow : ∀ i, some i = v.ownBlock → Z.base ≤ i := fun i e => (h.lo.lt i e.symm).1
  have hb := (h.nb Z.gl (by simp)).2
  have hf := (h.nb Z.gf (by simp)).2
  have hn : ¬ some Z.gl = v.ownBlock := fun e => by have := hrow _ e; omega
  have hn2 : ¬ some Z.gf = v.ownBlock := fun e => by have := hrow _ e; omega
  have c := Chg.of_grown hg
  have hs := c.size
  have hbs := h.bs
  exact ⟨⟨(c.cell (p := ⟨Z.gl, 0, none⟩) hgl hn).trans h.lv, (c.frozen (p := ⟨Z.gl, 0, none⟩) hgl hn).trans h.lf⟩, (c.cell (p := ⟨Z.gf, 0, none⟩) (lt_of_cell h.fy) hn2).trans h.fy, by omega, by omega, h.d2.2.2⟩
theorem FilI.slice {σ : Type} {s : Sh} {Z : FP} {F : EachF σ} {w : World} {st : σ} {B : Nat → Prop} {cov : Nat} {v : Value} {pre : List Cd} {x : Cd} (h : FilI s Z F w st B cov v (pre ++ [x])) : ∃ A c, v = .slice A (pre.length + 1) c ∧ pre.length ≤ c := by
  have hl : (pre ++ [x]).length = pre.length + 1 := by rw [List.length_append, List.length_singleton]
  rcases h.lo.2 with ⟨_, h0⟩ | ⟨g, cap, cur, e, _, _, h3, _⟩
  · exact absurd h0 (by omega)
  · exact ⟨_, cap, by rw [e, hl], by omega⟩
/-- What a turn changes. -/
theorem turn_chg {Z : FP} {Br : Nat → Prop} {vr v' : Value} {W2 w3 w5 w5' w6 w7 : World} (b3 : Below W2.heap.size W2 w3) (c5 : Chg (fun i => i = Z.gu) w3 w5) (b5 : Below w5.heap.size w5 w5') (c6 : Chg (fun i => i = Z.gl ∨ some i = vr.ownBlock) w5' w6) (hv : v'.ownBlock = vr.ownBlock ∨ v'.ownBlock = some w5'.heap.size) (c7 : Chg (Ptch Z Br v') w6 w7) :
    Chg (Ptch Z Br vr) W2 w7 := by
  have z3 := b3.size
  have z5 := c5.size
  have z5' := b5.size
  refine ((((Chg.of_below b3).trans c5 (fun _ _ e => .inr (.inl e))).then_below b5).trans c6 (fun i _ e => ?_)).trans c7 (fun i hi e => ?_)
  · rcases e with e | e
    · exact .inr (.inr (.inl e))
    · exact .inr (.inr (.inr e))
  · rcases e with e | e | e | e
    · exact .inl e
    · exact .inr (.inl e)
    · exact .inr (.inr (.inl e))
    · rcases hv with o | o
      · rw [o] at e; exact .inr (.inr (.inr e))
      · rw [o] at e; have := Option.some.inj e; omega

theorem runF_stop {σ : Type} {f : σ → List Cd → σ × Bool} {s : Sh} {cov : Nat} {pre : List Cd} {st sr s' : σ} {j : Nat} (hj : j < 2) (h : runF f st (prtN s cov pre j) = (sr, true)) (h2 : runF f sr (prt s cov pre (decide (j = 1))) = (s', false)) : runF f st (prt s cov pre false ++ prt s cov pre true) = (s', false) := by
  have h3 := (runF_prtN hj h).trans h2
  rcases j with _ | _ | j
  · have h4 : runF f st (prt s cov pre false) = (s', false) := h3
    rw [runF_append, h4]; rfl
  · exact h3
  · omega
/-- A turn says no. -/
theorem FilR.stop {σ : Type} {s : Sh} {Z : FP} {F : EachF σ} {B : Nat → Prop} {cov : Nat} {v : Value} {pre : List Cd} {st : σ} {w W0 : World} {j : Nat} {wr w' : World} {vr : Value} {Br B' : Nat → Prop} {sr s' : σ} (h : FilR s Z F B cov v pre st W0 j wr vr Br sr) (hj : j < 2) (hb : Below w.heap.size w W0)
    (hF : F.I s' B' w') (hB : ∀ i, B' i → Br i ∨ wr.heap.size ≤ i) (hc : Chg (Ptch Z Br vr) wr w') (hr : runF F.f sr (prt s cov pre (decide (j = 1))) = (s', false)) : RetFil s Z F w B cov v pre (runF F.f st (prt s cov pre false ++ prt s cov pre true)) (.returned (.bool false)) w' := by
  have hsz := h.chg.size
  have hsb := hb.size
  rw [runF_stop hj h.run hr]
  refine ⟨rfl, B', ⟨hF, fun i hi => ?_⟩, (Chg.of_below hb).trans (h.chg.trans hc (fun i hi hq => ?_)) (fun _ _ e => e), fun e => Bool.noConfusion e⟩
  · rcases hB i hi with e | e
    · rcases h.blk i e with e | e
      · exact .inl e
      · exact .inr (by omega)
    · exact .inr (by omega)
  · exact Classical.byContradiction fun hn => h.off hi hn hq

/-- Some squares of a grid are free: some rows, and some squares of the next row. -/
def FreeTo (U : Nat → Nat → Bool) (q p wi y x : Nat) : Prop := (∀ y', y' < y → ∀ x', x' < wi → U (q + y') (p + x') = false) ∧ ∀ x', x' < x → U (q + y) (p + x') = false
theorem FreeTo.zero (U : Nat → Nat → Bool) (q p wi : Nat) : FreeTo U q p wi 0 0 := ⟨fun _ h => absurd h (Nat.not_lt_zero _), fun _ h => absurd h (Nat.not_lt_zero _)⟩
theorem FreeTo.row {U : Nat → Nat → Bool} {q p wi y : Nat} {b : Bool} (h : b = true ↔ FreeTo U q p wi y wi) : b = true ↔ FreeTo U q p wi (y + 1) 0 := by
  rw [h]
  refine ⟨fun ⟨h1, h2⟩ => ⟨fun y' hy x' hx => ?_, fun _ h => absurd h (Nat.not_lt_zero _)⟩, fun ⟨h1, _⟩ => ⟨fun y' hy => h1 y' (by omega), h1 y (by omega)⟩⟩
  by_cases e : y' = y
  · rw [e]; exact h2 x' hx
  · exact h1 y' (by omega) x' hx
theorem FreeTo.no {U : Nat → Nat → Bool} {q p wi y x : Nat} (h : false = true ↔ FreeTo U q p wi y x) : false = true ↔ FreeTo U q p wi y (x + 1) :=
  ⟨fun e => Bool.noConfusion e, fun ⟨h1, h2⟩ => h.2 ⟨h1, fun x' hx => h2 x' (by omega)⟩⟩
theorem FreeTo.step {U : Nat → Nat → Bool} {q p wi y x : Nat} (h : true = true ↔ FreeTo U q p wi y x) {u : Bool} (hu : U (q + y) (p + x) = u) : (!u) = true ↔ FreeTo U q p wi y (x + 1) := by
  obtain ⟨h1, h2⟩ := h.1 rfl
  rcases u with _ | _
  · refine ⟨fun _ => ⟨h1, fun x' hx => ?_⟩, fun _ => rfl⟩
    by_cases e : x' = x
    · rw [e]; exact hu
    · exact h2 x' (by omega)
  · refine ⟨fun e => Bool.noConfusion e, fun ⟨_, h4⟩ => ?_⟩
    have := h4 x (by omega)
    rw [hu] at this; cases this
theorem free_end {s : Sh} {cov q p : Nat} {t : Bool} (h : fitP s ⟨q, p, t⟩) : FreeTo (usB s cov) q p (wiS s t) (hiS s t) 0 ↔ cov &&& und s ⟨q, p, t⟩ = 0 :=
  (show FreeTo (usB s cov) q p (wiS s t) (hiS s t) 0 ↔ _ from ⟨fun h => h.1, fun h1 => ⟨h1, fun _ h => absurd h (Nat.not_lt_zero _)⟩⟩).trans (free_us h).symm

set_option maxRecDepth 100000 in
set_option maxHeartbeats 12000000 in
theorem fil_more {σ : Type} (s : Sh) (Z : FP) (F : EachF σ) (n : Nat) (hs : s.Ok) (ih : FilSpecL s Z F n) (cov : Nat) (pre : List Cd) (w : World) (st : σ) (B : Nat → Prop) (v : Value) (at' : Nat) (hwh : cov ≠ whl s) (hl : lft s cov < n + 1) (hin : InS s cov) (hp : ∀ x ∈ pre, fitP s x)
  (hlen : pre.length + lft s cov ≤ 36) (hat : ∀ i, i < at' → cov.testBit i = true) (hatN : at' ≤ s.r * s.c) (hI : FilI s Z F w st B cov v pre) :
  Calls Tryd.prog 94 #[.int .i64 at', .pointer (some ⟨Z.gs, 0, none⟩), .pointer (some ⟨Z.gu, 0, none⟩), .pointer (some ⟨Z.ge, 0, none⟩), .pointer (some ⟨Z.gl, 0, none⟩), .pointer (some ⟨Z.gf, 0, none⟩)] w
    (RetFil s Z F w B cov v pre (runF F.f st (filC s cov pre))) := by
  have hr6 := hs.r6
  have hc6 := hs.c6
  have hc1 := hs.c1
  have hr1 := hs.r1
  have hfl := filC_prt hs cov pre hwh
  rw [hfl]
  obtain ⟨N, hN⟩ : ∃ N : Nat, N = s.r * s.c := ⟨_, rfl⟩
  have hN36 : N ≤ 36 := by rw [hN]; exact (area_le hs).2
  have hmul : IntKind.i64.wrap ((s.r : Int) * (s.c : Int)) = (N : Int) := by
    rw [show ((s.r : Int) * (s.c : Int)) = (N : Int) by rw [hN, Int.natCast_mul]]
    exact IntWalk.i64_in _ (by omega)
  rw [← hN] at hatN
  have hk0 : ((s.c : Int) == 0) = false := beq_eq_false_iff_ne.2 (by omega)
  have hknz : ¬ s.c = 0 := by omega
  have HIN := Lib.hid hin
  have HI := Lib.hid hI
  have HNN := Lib.hid hN
  have HAT := Lib.hid hat
  have HP := Lib.hid hp
  have HIH := Lib.hid ih
  have HWH := Lib.hid hwh
  have hbase := hI.bs
  have HNO : Hid (∀ i, w.heap.size ≤ i → ¬ (B i ∨ i = Z.gu ∨ i = Z.gl ∨ some i = v.ownBlock)) := Lib.hid (by
    intro i hi h
    rcases h with h | h | h | h
    · have := F.lt hI.st i h; omega
    · have := (hI.nb Z.gu (by simp)).2; omega
    · have := (hI.nb Z.gl (by simp)).2; omega
    · have := (hI.lo.lt i h.symm).2; omega)
  clear hI hN hat hp ih hin hwh hfl
  go_enter Tryd.func94, Tryd.ntmps94
  go_wp2
  go_loopw [0] (fun i wr => ∃ a : Nat, i = .int .i64 a ∧ a ≤ N ∧ Hid (∀ i, i < a → cov.testBit i = true) ∧ Below w.heap.size w wr) (fun i _ => N - (intOf i).toNat)
  case atStart => exact ⟨at', rfl, hatN, HAT, Below.refl _ _⟩
  case round =>
    obtain ⟨a, rfl, haN, HA, hbr⟩ := hrel
    have hIr := HI.out.below hbr
    have e0 := hIr.s0
    have e1 := hIr.s1
    have hd1 : (a : Int).tdiv (s.c : Int) = ((a / s.c : Nat) : Int) := rfl
    have hm1 : (a : Int).tmod (s.c : Int) = ((a % s.c : Nat) : Int) := rfl
    have hlt : a < N := by
      refine Nat.lt_of_le_of_ne haN fun e => HWH.out (HIN.out.whole fun i hi => HA.out i (by rw [e, HNN.out]; exact hi))
    have hlta := hlt
    have hac : a % s.c < s.c := Nat.mod_lt _ hc1
    have har : a / s.c < s.r := by
      rw [Nat.div_lt_iff_lt_mul hc1, ← HNN.out]; exact hlt
    have hcell := hIr.us.1 (a / s.c) (a % s.c) (by omega) (by omega)
    have husb : usB s cov (a / s.c) (a % s.c) = cov.testBit a := by
      unfold usB
      rw [decide_eq_true hac, Bool.true_and, Nat.mul_comm, Nat.div_add_mod]
    rw [husb] at hcell
    have HAQ := Lib.hid (show a = s.c * (a / s.c) + a % s.c from (Nat.div_add_mod a s.c).symm)
    have HCR : Hid (cov.testBit a = false → ∀ t, crd s cov t = ⟨((a / s.c : Nat) : Int), ((a % s.c : Nat) : Int), t⟩) := Lib.hid (fun h t => by unfold crd; rw [first_free hs HIN.out HA.out h])
    clear husb
    generalize a / s.c = q at *
    generalize a % s.c = p at *
    have q6 : (q : Int) < 6 := by omega
    have p6 : (p : Int) < 6 := by omega
    have hlt' : (a : Int) < (N : Int) := by omega
    rcases hb : cov.testBit a with _ | _
    · rw [hb] at hcell
      have HX := Lib.hid (HCR.out hb)
      clear hb HCR
      have haE : ((a : Int) == (N : Int)) = false := beq_eq_false_iff_ne.2 (by omega)
      go_wp2
      go_quiet (fail)
      go_wp2_with fail
      have hbq := below_drewN hbr nq
      generalize wr.drewN nq = wq at *
      have e1q := (HI.out.below hbq).s1
      have hszq := hbq.size
      have hgs := lt_of_cell e1q
      have hgs1 : ¬ Z.gs = wq.heap.size := by omega
      have hgs2 : ¬ Z.gs = wq.heap.size + 1 := by omega
      clear e0 e1 hcell hbr hIr haN
      have hwq : IntKind.i64.wrap (q : Int) = q := IntWalk.i64_in _ (by omega)
      go_cut [8, 9] (fun s8 s9 wx => ∃ g8 g9 : Nat, s8 = .pointer (some ⟨g8, 0, none⟩) ∧ s9 = .pointer (some ⟨g9, 0, none⟩) ∧ (w.heap.size ≤ g8 ∧ w.heap.size ≤ g9) ∧ (wx.cell? ⟨g8, 0, none⟩ = some (.int .i64 q) ∧ wx.cell? ⟨g9, 0, none⟩ = some (.int .i64 p)) ∧ Below w.heap.size w wx)
      case first =>
        go_region_with (fail)
        all_goals
          go_wp2_with fail
          go_meet
        all_goals
          first
            | (refine ⟨wq.heap.size, wq.heap.size + 1, rfl, rfl, ⟨by omega, by omega⟩, ⟨by simp [go_sem], by simp [go_sem]⟩, ?_⟩
               exact ((hbq.alloc hszq _).alloc (by simp; omega) _).drew)
            | (refine ⟨wq.heap.size + 1, wq.heap.size, rfl, rfl, ⟨by omega, by omega⟩, ⟨by simp [go_sem], by simp [go_sem]⟩, ?_⟩
               exact ((hbq.alloc hszq _).alloc (by simp; omega) _).drew)
      case rest =>
        obtain ⟨g8, g9, rfl, rfl, ⟨n8, n9⟩, ⟨k8, k9⟩, hbx⟩ := hcut
        clear hgs1 hgs2 hgs e1q hszq hbq
        go_wp2
        obtain ⟨gS, hgS⟩ : ∃ g, g = wc.heap.size := ⟨_, rfl⟩
        obtain ⟨W0, hW0⟩ : ∃ W0, W0 = wc.alloc (.cells #[.bool false, .bool true] 4) := ⟨_, rfl⟩
        have hb0 : Below w.heap.size w W0 := hW0 ▸ hbx.alloc hbx.size _
        have nS : w.heap.size ≤ gS := hgS ▸ hbx.size
        have l8 := lt_of_cell k8
        have l9 := lt_of_cell k9
        have hz0 : W0.heap.size = wc.heap.size + 1 := by rw [hW0]; simp
        have HC8 : Hid (W0.cell? ⟨g8, 0, none⟩ = some (.int .i64 q)) := Lib.hid (by rw [hW0]; exact (((Below.refl _ wc).alloc (Nat.le_refl _) _).cell (p := ⟨g8, 0, none⟩) l8).trans k8)
        have HC9 : Hid (W0.cell? ⟨g9, 0, none⟩ = some (.int .i64 p)) := Lib.hid (by rw [hW0]; exact (((Below.refl _ wc).alloc (Nat.le_refl _) _).cell (p := ⟨g9, 0, none⟩) l9).trans k9)
        have HCS : Hid (∀ j, j < 2 → W0.cell? ⟨gS, j, none⟩ = some (.bool (decide (j = 1)))) := Lib.hid (by
          intro j hj
          rw [hW0, hgS]
          rcases j with _ | _ | j
          · simp [go_sem]
          · simp [go_sem]
          · omega)
        have lS : gS < W0.heap.size := by omega
        rw [← hgS, ← hW0]
        have l8' : g8 < W0.heap.size := by omega
        have l9' : g9 < W0.heap.size := by omega
        clear hW0 hgS hz0 k8 k9 l8 l9 hbx hwq
        clear wc wr wq
        have HR0 : Hid (FilR s Z F B cov v pre st W0 0 W0 v B st) := Lib.hid ⟨HI.out.below hb0, .inl rfl, Chg.refl _ _, fun _ e => .inl e, rfl⟩
        go_loopw [60] (fun i wr => ∃ (j : Nat) (vr : Value) (Br : Nat → Prop) (sr : σ), j ≤ 2 ∧ i = .int .i64 j ∧ Hid (FilR s Z F B cov v pre st W0 j wr vr Br sr)) (fun i _ => 2 - (intOf i).toNat)
        case atStart => exact ⟨0, v, B, st, by omega, rfl, HR0⟩
        case round =>
          obtain ⟨j, vr, Br, sr, hj, rfl, HR⟩ := hrel
          by_cases hlt : j < 2
          · obtain ⟨t, ht⟩ : ∃ t : Bool, decide (j = 1) = t := ⟨_, rfl⟩
            have hI := HR.out.inv
            have hcs := (HR.out.chg.cell (p := ⟨gS, j, none⟩) lS (HNO.out gS nS)).trans (HCS.out j hlt)
            have k8 := (HR.out.chg.cell (p := ⟨g8, 0, none⟩) l8' (HNO.out g8 n8)).trans HC8.out
            have k9 := (HR.out.chg.cell (p := ⟨g9, 0, none⟩) l9' (HNO.out g9 n9)).trans HC9.out
            have e0 := hI.s0
            have e1 := hI.s1
            have e2 := hI.s2
            have e3 := hI.s3
            have HI2 := Lib.hid hI
            have hzw : W0.heap.size ≤ wr.heap.size := HR.out.chg.size
            have HS := Lib.hid (fun W => lsize_any s t W)
            have hh := hiS_le hs t
            have hw := wiS_le hs t
            have hsq : t = true → (hiS s t = wiS s t ↔ s.l = s.w) := fun h => by rw [h]; unfold hiS wiS; simp only [if_true]; exact eq_comm
            have HX' := HX.out t
            have HN1 := Lib.hid (fun h => prt_nil1 (s := s) (cov := cov) (pre := pre) (t := t) h)
            have HN2 := Lib.hid (prt_nil2 (pre := pre) HX')
            have HF := Lib.hid (crd_fit (s := s) (q := q) (p := p) (t := t))
            have HXX := Lib.hid HX'
            obtain ⟨h, hH⟩ : ∃ h, h = hiS s t := ⟨_, rfl⟩
            obtain ⟨wi, hW⟩ : ∃ h, h = wiS s t := ⟨_, rfl⟩
            have HHW := Lib.hid (And.intro hH hW)
            rw [← hH, ← hW] at HS hsq HN2 HF
            rw [← hH] at hh
            rw [← hW] at hw
            rw [ht] at hcs
            have HTT := Lib.hid ht
            clear hI ht HX' hH hW
            have hb8 : g8 < wr.heap.size := by omega
            have hb9 : g9 < wr.heap.size := by omega
            have hbS := lt_of_cell e0
            have hj' : (j : Int) < 2 := by omega
            have hwr : IntKind.i64.wrap ((q : Int) + (h : Int)) = ((q + h : Nat) : Int) := by
              rw [show ((q : Int) + (h : Int)) = ((q + h : Nat) : Int) by omega]; exact IntWalk.i64_in _ (by omega)
            have hwc : IntKind.i64.wrap ((p : Int) + (wi : Int)) = ((p + wi : Nat) : Int) := by
              rw [show ((p : Int) + (wi : Int)) = ((p + wi : Nat) : Int) by omega]; exact IntWalk.i64_in _ (by omega)
            generalize hq2 : q + h = qh at *
            generalize hp2 : p + wi = pw at *
            go_upto_region 10 with (first
              | (go_at_call 95; refine (HS.out _).mono ?_; rintro e w1 ⟨rfl, hb1⟩))
            obtain ⟨g12, hg12⟩ : ∃ g, g = w1.heap.size := ⟨_, rfl⟩
            obtain ⟨g13, hg13⟩ : ∃ g, g = w1.heap.size + 1 := ⟨_, rfl⟩
            obtain ⟨W2, hW2⟩ : ∃ W, W = (w1.alloc (Obj.cells #[Value.int IntKind.i64 ↑h] 3)).alloc (Obj.cells #[Value.int IntKind.i64 ↑wi] 3) := ⟨_, rfl⟩
            have hs1 := hb1.size
            have hb2 : Below wr.heap.size wr W2 := hW2 ▸ (hb1.alloc hs1 _).alloc (by simp; omega) _
            have hz2 : W2.heap.size = w1.heap.size + 2 := by rw [hW2]; simp
            have c12 : W2.cell? ⟨g12, 0, none⟩ = some (.int .i64 h) := by rw [hW2, hg12]; simp [go_sem]
            have c13 : W2.cell? ⟨g13, 0, none⟩ = some (.int .i64 wi) := by rw [hW2, hg13]; simp [go_sem]
            rw [← hg13, ← hg12, ← hW2]
            have h12 : wr.heap.size ≤ g12 ∧ g12 < W2.heap.size := by omega
            have h13 : wr.heap.size ≤ g13 ∧ g13 < W2.heap.size := by omega
            replace k8 := (hb2.cell (p := ⟨g8, 0, none⟩) hb8).trans k8
            replace k9 := (hb2.cell (p := ⟨g9, 0, none⟩) hb9).trans k9
            have hI2 := HI2.out.below hb2
            replace e0 := hI2.s0
            replace e1 := hI2.s1
            replace e2 := hI2.s2
            replace e3 := hI2.s3
            have HI3 := Lib.hid hI2
            clear hI2 hW2 hg12 hg13 hb1 hz2 hs1 hcs HS
            by_cases hsk : (t = true ∧ s.l = s.w) ∨ (s.r : Int) < (qh : Int) ∨ (s.c : Int) < (pw : Int)
            · have hnil : prt s cov pre (decide (j = 1)) = [] := by
                rw [HTT.out]
                rcases hsk with ⟨h1, h2⟩ | h1
                · exact HN1.out h1 h2
                · exact HN2.out (by omega)
              have HNIL := Lib.hid hnil
              clear hnil HN1 HN2 HF
              rcases t with _ | _
              · have hsk' : (s.r : Int) < (qh : Int) ∨ (s.c : Int) < (pw : Int) := hsk.resolve_left (by simp)
                clear hsk hsq
                by_cases hfr : (s.r : Int) < (qh : Int)
                · clear hsk'
                  go_wp2
                  go_roundw
                  case rel => exact ⟨j + 1, vr, Br, sr, by omega, by go_num, Lib.hid (HR.out.skip hlt hb2 HNIL.out)⟩
                  case measure => simp [intOf]; omega
                · have hfc := hsk'.resolve_left hfr
                  clear hsk'
                  go_wp2
                  go_roundw
                  case rel => exact ⟨j + 1, vr, Br, sr, by omega, by go_num, Lib.hid (HR.out.skip hlt hb2 HNIL.out)⟩
                  case measure => simp [intOf]; omega
              · by_cases hsq2 : h = wi
                · subst hsq2
                  clear hsk hsq
                  go_wp2
                  go_roundw
                  case rel => exact ⟨j + 1, vr, Br, sr, by omega, by go_num, Lib.hid (HR.out.skip hlt hb2 HNIL.out)⟩
                  case measure => simp [intOf]; omega
                · have hsk' : (s.r : Int) < (qh : Int) ∨ (s.c : Int) < (pw : Int) := hsk.resolve_left (fun e => hsq2 ((hsq rfl).2 e.2))
                  have hne : ((h : Int) == (wi : Int)) = false := beq_eq_false_iff_ne.2 (by omega)
                  clear hsk hsq hsq2
                  by_cases hfr : (s.r : Int) < (qh : Int)
                  · clear hsk'
                    go_wp2
                    go_roundw
                    case rel => exact ⟨j + 1, vr, Br, sr, by omega, by go_num, Lib.hid (HR.out.skip hlt hb2 HNIL.out)⟩
                    case measure => simp [intOf]; omega
                  · have hfc := hsk'.resolve_left hfr
                    clear hsk'
                    go_wp2
                    go_roundw
                    case rel => exact ⟨j + 1, vr, Br, sr, by omega, by go_num, Lib.hid (HR.out.skip hlt hb2 HNIL.out)⟩
                    case measure => simp [intOf]; omega
            · have hfr : ¬ (s.r : Int) < (qh : Int) := fun e => hsk (.inr (.inl e))
              have hfc : ¬ (s.c : Int) < (pw : Int) := fun e => hsk (.inr (.inr e))
              have hfit := HF.out (by omega)
              have hnt : ¬ (t = true ∧ s.l = s.w) := fun e => hsk (.inl e)
              have HFIT := Lib.hid hfit
              have HNT := Lib.hid hnt
              have hqr6 : q + h ≤ 6 := by omega
              have hpc6 : p + wi ≤ 6 := by omega
              clear hsk HN1 HN2 HF hfit
              have hne : t = true → ((h : Int) == (wi : Int)) = false := fun e => beq_eq_false_iff_ne.2 (fun e2 => hnt ⟨e, (hsq e).1 (by omega)⟩)
              rcases t with _ | _
              rotate_left
              replace hne := hne rfl
              clear hsq hnt
              go_upto_region 11 with fail
              clear hne
              rotate_left
              clear hsq hnt hne
              go_upto_region 11 with fail
              all_goals
                go_wp2
                go_loopw [14, 93] (fun f i w3 => ∃ (y : Nat) (b : Bool), y ≤ h ∧ i = .int .i64 y ∧ f = .bool b ∧ Hid (b = true ↔ FreeTo (usB s cov) q p wi y 0) ∧ Below W2.heap.size W2 w3) (fun _ i _ => h - (intOf i).toNat)
                case atStart => exact ⟨0, true, by omega, rfl, rfl, Lib.hid ⟨fun _ => FreeTo.zero _ _ _ _, fun _ => rfl⟩, Below.refl _ _⟩
                case round =>
                  obtain ⟨y, b, hy, rfl, rfl, HB, hb3⟩ := hrel
                  by_cases hly : y < h
                  · have hly' : (y : Int) < (h : Int) := by omega
                    have c13' := (hb3.cell (p := ⟨g13, 0, none⟩) h13.2).trans c13
                    obtain ⟨qy, hqy⟩ : ∃ z, q + y = z := ⟨_, rfl⟩
                    have hwqy : IntKind.i64.wrap ((q : Int) + (y : Int)) = (qy : Int) := by
                      rw [show ((q : Int) + (y : Int)) = (qy : Int) by omega]; exact IntWalk.i64_in _ (by omega)
                    have qy6 : (qy : Int) < 6 := by omega
                    go_wp2
                    go_loopw [14, 97] (fun f i w4 => ∃ (x : Nat) (b : Bool), x ≤ wi ∧ i = .int .i64 x ∧ f = .bool b ∧ Hid (b = true ↔ FreeTo (usB s cov) q p wi y x) ∧ Below W2.heap.size W2 w4) (fun _ i _ => wi - (intOf i).toNat)
                    case atStart => exact ⟨0, b, by omega, rfl, rfl, HB, hb3⟩
                    case round =>
                      obtain ⟨x, bb, hx, rfl, rfl, HBB, hb4⟩ := hrel
                      by_cases hlx : x < wi
                      · have hlx' : (x : Int) < (wi : Int) := by omega
                        obtain ⟨px, hpx⟩ : ∃ z, p + x = z := ⟨_, rfl⟩
                        have hwpx : IntKind.i64.wrap ((p : Int) + (x : Int)) = (px : Int) := by
                          rw [show ((p : Int) + (x : Int)) = (px : Int) by omega]; exact IntWalk.i64_in _ (by omega)
                        have px6 : (px : Int) < 6 := by omega
                        have k84 := (hb4.cell (p := ⟨g8, 0, none⟩) (lt_of_cell k8)).trans k8
                        have k94 := (hb4.cell (p := ⟨g9, 0, none⟩) (lt_of_cell k9)).trans k9
                        have hcu := (HI3.out.below hb4).us.1 qy px (by omega) (by omega)
                        rcases bb with _ | _
                        · go_wp2
                          go_quiet (fail)
                          go_wp2
                          go_roundw
                          case rel => exact ⟨x + 1, false, by omega, by go_num, rfl, Lib.hid (FreeTo.no HBB.out), below_drewN hb4 _⟩
                          case measure => simp [intOf]; omega
                        · obtain ⟨u, hu⟩ : ∃ u, usB s cov qy px = u := ⟨_, rfl⟩
                          rw [hu] at hcu
                          have HU := Lib.hid (FreeTo.step HBB.out (u := u) (by rw [hqy, hpx]; exact hu))
                          clear hu
                          go_wp2
                          go_quiet (fail)
                          go_wp2
                          go_roundw
                          case rel => exact ⟨x + 1, !u, by omega, by go_num, rfl, HU, below_drewN hb4 _⟩
                          case measure => simp [intOf]; omega
                      · have hx2 : x = wi := by omega
                        subst hx2
                        go_wp2
                        go_roundw
                        case rel => exact ⟨y + 1, bb, by omega, by go_num, rfl, Lib.hid (FreeTo.row HBB.out), hb4⟩
                        case measure => simp [intOf]; omega
                  · have hy2 : y = h := by omega
                    subst hy2
                    have hfe := free_end (cov := cov) HFIT.out
                    rw [← HHW.out.1, ← HHW.out.2] at hfe
                    rcases b with _ | _
                    · have HNIL := Lib.hid (show prt s cov pre (decide (j = 1)) = [] by
                        rw [HTT.out]
                        exact prt_nil3 HXX.out fun e => Bool.noConfusion (HB.out.2 (hfe.2 e)))
                      clear hfe
                      go_wp2
                      go_roundw
                      case rel => exact ⟨j + 1, vr, Br, sr, by omega, by go_num, Lib.hid (HR.out.skip hlt (hb2.trans (hb3.mono hb2.size)) HNIL.out)⟩
                      case measure => simp [intOf]; omega
                    · have h0 := hfe.1 (HB.out.1 rfl)
                      have HPM := Lib.hid (prt_more (pre := pre) HXX.out (by first | exact HNT.out | simpa using HNT.out) HFIT.out h0)
                      have HCA := Lib.hid (prt_call hs HXX.out rfl (by first | exact HNT.out | simpa using HNT.out) HFIT.out h0 HIN.out hl HP.out hlen HA.out HAQ.out)
                      have HSET := Lib.hid (show ∀ r c, setG (usB s cov) q p y wi true r c = usB s (cov ||| und s ⟨(q : Int), (p : Int), _⟩) r c from fun r c => by
                        rw [HHW.out.1, HHW.out.2]; exact usB_set (cov := cov) HFIT.out r c)
                      have HUNS := Lib.hid (show ∀ r c, setG (usB s (cov ||| und s ⟨(q : Int), (p : Int), _⟩)) q p y wi false r c = usB s cov r c from fun r c => by
                        rw [HHW.out.1, HHW.out.2]; exact usB_unset HFIT.out h0 r c)
                      clear hfe h0
                      have HI7 := Lib.hid (fun W v' (h : FilI s Z F W sr Br _ v' (pre ++ [_])) => HIH.out _ _ W sr Br v' (a + 1) HCA.out.1 HCA.out.2.1 HCA.out.2.2.1 HCA.out.2.2.2.1 HCA.out.2.2.2.2 (by rw [← HNN.out]; exact hlta) h)
                      rw [← HPM.out] at HI7
                      obtain ⟨a1, ha1⟩ : ∃ z, a + 1 = z := ⟨_, rfl⟩
                      have hwa : IntKind.i64.wrap ((a : Int) + 1) = (a1 : Int) := by
                        rw [show ((a : Int) + 1) = (a1 : Int) by omega]; exact IntWalk.i64_in _ (by omega)
                      rw [ha1] at HI7
                      clear HCA HPM
                      obtain ⟨r7, hr7⟩ : ∃ r, runF F.f sr (prt s cov pre (decide (j = 1))) = r := ⟨_, rfl⟩
                      have HR7 := Lib.hid hr7
                      rw [HTT.out] at hr7
                      rw [hr7] at HI7
                      clear hr7
                      have o12 := HI2.out.off h12.1
                      have o13 := HI2.out.off h13.1
                      have o8 := HR.out.off l8' (HNO.out g8 n8)
                      have o9 := HR.out.off l9' (HNO.out g9 n9)
                      have hI3 := HI3.out.below hb3
                      have HS1 := Lib.hid (set_any g12 g13 Z.gu g8 g9 true y wi q p (usB s cov) wr ((hb3.cell (p := ⟨g12, 0, none⟩) h12.2).trans c12) ((hb3.cell (p := ⟨g13, 0, none⟩) h13.2).trans c13) ((hb3.cell (p := ⟨g8, 0, none⟩) (lt_of_cell k8)).trans k8) ((hb3.cell (p := ⟨g9, 0, none⟩) (lt_of_cell k9)).trans k9)
                        hI3.us (fun e => o12 (.inr (.inl e))) (fun e => o13 (.inr (.inl e))) (fun e => o8 (.inr (.inl e))) (fun e => o9 (.inr (.inl e))) hqr6 hpc6)
                      have k83 := (hb3.cell (p := ⟨g8, 0, none⟩) (lt_of_cell k8)).trans k8
                      have k93 := (hb3.cell (p := ⟨g9, 0, none⟩) (lt_of_cell k9)).trans k9
                      have hpl : pre.length ≤ 36 := by omega
                      rcases r7 with ⟨s7, _ | _⟩
                      · go_wp2_with (first
                          | (go_at_call 96; refine HS1.out.mono ?_; rintro e w5 ⟨rfl, hG5, hc5⟩; have hI5 := hI3.grid hc5 (hG5.congr HSET.out); have e45 := hI5.lv; have z45 := lt_of_cell e45; have k85 := (hc5.cell (p := ⟨g8, 0, none⟩) (lt_of_cell k83) (fun e => o8 (.inr (.inl e)))).trans k83; have k95 := (hc5.cell (p := ⟨g9, 0, none⟩) (lt_of_cell k93) (fun e => o9 (.inr (.inl e)))).trans k93)
                          | (at_builtin; refine wpList_append_card _ rfl _ _ rfl Z.base pre.length _ vr pre ⟨(q : Int), (p : Int), _⟩ rfl (hI5.below (below_new _ _)).lo rfl (heap_at _ _ _ rfl) (by omega) (by have := hI5.bs; simp; omega) ?_; intro A5 c5 w6 hown6 hgr6 hob6; have HOB := Lib.hid hob6; clear hob6; obtain ⟨hI6, hch6⟩ := (hI5.below (below_new _ _)).push hgr6 hown6 HOB.out; obtain ⟨⟨k3, k4⟩, k5, k6, k7, k10⟩ := (hI5.below (below_new _ _)).grown hgr6)
                          | (go_at_call 94; refine (HI7.out _ _ hI6).mono ?_; rintro e w7 ⟨rfl, B7, ⟨hF7, hB7⟩, hc7, h7⟩))
                        go_ret
                        have hc27 : Chg (Ptch Z Br vr) W2 w7 := turn_chg hb3 hc5 (below_new _ _) hch6 HOB.out hc7
                        have z1 := hch6.size
                        rw [World.size_alloc] at z1
                        have z2 := hc5.size
                        have z3 := hb3.size
                        have z4 := hb2.size
                        refine HR.out.stop hlt hb0 hF7 (fun i hi => ?_) ((Chg.of_below hb2).trans hc27 (fun _ _ e => e)) HR7.out
                        rcases hB7 i hi with e | e
                        · exact .inl e
                        · exact .inr (by omega)
                      · go_upto_region 28 with (first
                          | (go_at_call 96; refine HS1.out.mono ?_; rintro e w5 ⟨rfl, hG5, hc5⟩; have hI5 := hI3.grid hc5 (hG5.congr HSET.out); have e45 := hI5.lv; have z45 := lt_of_cell e45; have k85 := (hc5.cell (p := ⟨g8, 0, none⟩) (lt_of_cell k83) (fun e => o8 (.inr (.inl e)))).trans k83; have k95 := (hc5.cell (p := ⟨g9, 0, none⟩) (lt_of_cell k93) (fun e => o9 (.inr (.inl e)))).trans k93)
                          | (at_builtin; refine wpList_append_card _ rfl _ _ rfl Z.base pre.length _ vr pre ⟨(q : Int), (p : Int), _⟩ rfl (hI5.below (below_new _ _)).lo rfl (heap_at _ _ _ rfl) (by omega) (by have := hI5.bs; simp; omega) ?_; intro A5 c5 w6 hown6 hgr6 hob6; have HOB := Lib.hid hob6; clear hob6; obtain ⟨hI6, hch6⟩ := (hI5.below (below_new _ _)).push hgr6 hown6 HOB.out; obtain ⟨⟨k3, k4⟩, k5, k6, k7, k10⟩ := (hI5.below (below_new _ _)).grown hgr6)
                          | (go_at_call 94; refine (HI7.out _ _ hI6).mono ?_; rintro e w7 ⟨rfl, B7, ⟨hF7, hB7⟩, hc7, h7⟩; obtain ⟨v7, hI7, hn7⟩ := h7 rfl; obtain ⟨A7, c7, rfl, hc7'⟩ := hI7.slice; have hc27 : Chg (Ptch Z Br vr) W2 w7 := turn_chg hb3 hc5 (below_new _ _) hch6 HOB.out hc7; have e57 := hI7.lv; have f57 := hI7.lf; have hz57 := lt_of_cell e57; obtain ⟨hI8, hch8⟩ := FilI.pop (show FilI s Z F w7 s7 B7 _ (.slice A7 (pre.length + 1) c7) (pre ++ [_]) from hI7); have hc28 := hc27.trans hch8 (fun _ _ e => .inr (.inr (.inl e)))))
                        have z1 := hch6.size
                        rw [World.size_alloc] at z1
                        have z2 := hc5.size
                        have z3 := hb3.size
                        have z4 := hb2.size
                        have HS2 := set_any g12 g13 Z.gu g8 g9 false y wi q p _ (w7.setCell ⟨Z.gl, 0, none⟩ (.slice A7 pre.length c7)) ((hc28.cell (p := ⟨g12, 0, none⟩) h12.2 o12).trans c12) ((hc28.cell (p := ⟨g13, 0, none⟩) h13.2 o13).trans c13) ((hc28.cell (p := ⟨g8, 0, none⟩) (lt_of_cell k8) o8).trans k8) ((hc28.cell (p := ⟨g9, 0, none⟩) (lt_of_cell k9) o9).trans k9)
                          hI8.us (fun e => o12 (.inr (.inl e))) (fun e => o13 (.inr (.inl e))) (fun e => o8 (.inr (.inl e))) (fun e => o9 (.inr (.inl e))) hqr6 hpc6
                        go_wp2_with (go_at_call 96; refine HS2.mono ?_; rintro e w9 ⟨rfl, hG9, hc9⟩)
                        go_roundw
                        have hno : NewOr W2.heap.size vr.ownBlock (Value.slice A5 (pre.length + 1) c5).ownBlock := by
                          rcases HOB.out with h | h
                          · exact .inl h
                          · exact .inr ⟨_, h, by rw [World.size_alloc]; omega⟩
                        have hn9 : NewOr W2.heap.size vr.ownBlock (Value.slice A7 pre.length c7).ownBlock := by
                          have h9 := hno.trans hn7 (by omega)
                          rcases A7 with _ | A7 <;> exact h9
                        case rel => exact ⟨j + 1, .slice A7 pre.length c7, B7, s7, by omega, by go_num, Lib.hid (HR.out.next hlt (hI8.grid hc9 (hG9.congr HUNS.out)) (hn9.low z4) ((Chg.of_below hb2).trans (hc28.trans hc9 (fun _ _ e => .inr (.inl e))) (fun _ _ e => e)) (fun i hi => by
                          rcases hB7 i hi with e | e
                          · exact .inl e
                          · exact .inr (by omega)) HR7.out)⟩
                        case measure => simp [intOf]; omega
          · have hj2 : j = 2 := by omega
            subst hj2
            go_wp2
            go_ret
            exact HR.out.done hb0
    · rw [hb] at hcell
      have HA2 := Lib.hid (show ∀ i, i < a + 1 → cov.testBit i = true from fun i hi => by
        by_cases e : i = a
        · rw [e, hb]
        · exact HA.out i (by omega))
      clear hb HCR
      go_wp2
      go_quiet (fail)
      go_wp2
      go_roundw
      case rel => exact ⟨a + 1, by go_num, by omega, HA2, below_drewN hbr _⟩
      case measure => simp [intOf]; omega
end Go.Proofs.YtlollcabnfncpaaDoor
