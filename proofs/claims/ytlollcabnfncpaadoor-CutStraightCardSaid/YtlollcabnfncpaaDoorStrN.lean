/-
  What the function of CutStraight does with each filling.
-/
import Derived.Test.YtlollcabnfncpaaDoorStrM
import Derived.Test.YtlollcabnfncpaaDoorLibA
import Derived.Test.YtlollcabnfncpaaDoorChg
import Derived.Test.YtlollcabnfncpaaDoorWkA
import Derived.Test.YtlollcabnfncpaaDoorFilC
import Derived.BigQuiet
import Derived.Test.YtlollcabnfncpaaDoorFilG
import Derived.Test.YtlollcabnfncpaaDoorBdA
import Derived.Lib.SliceRun
import Derived.Deep.RegionHeld3
namespace Go.Proofs.YtlollcabnfncpaaDoor
open Go.RowKit

/-- A list of cards is kept in a variable; its row is none of some other blocks. -/
def KeptAt (W : World) (g : Nat) (l : List Cd) (B N : Nat → Prop) : Prop := (∃ v base, (W.cell? ⟨g, 0, none⟩ = some v ∧ W.frozen? ⟨g, 0, none⟩ = false) ∧ W.ownsRow base 69 3 v l.length (ccells l) ∧ ∀ i, v.ownBlock = some i → B i ∧ ¬ N i) ∧ B g
theorem KeptAt.chg {W W' : World} {g : Nat} {l : List Cd} {B N Q : Nat → Prop} (h : KeptAt W g l B N) (hc : Chg Q W W') (hq : ∀ i, B i → ¬ N i → ¬ Q i) (hn : ¬ N g) : KeptAt W' g l B N := by
  obtain ⟨⟨v, base, ⟨h1, h2⟩, h3, h4⟩, h5⟩ := h
  have hg := lt_of_cell h1
  exact ⟨⟨v, base, ⟨(hc.cell (p := ⟨g, 0, none⟩) hg (hq g h5 hn)).trans h1, (hc.frozen (p := ⟨g, 0, none⟩) hg (hq g h5 hn)).trans h2⟩, hc.own h3 (fun i hi => hq i (h4 i hi).1 (h4 i hi).2), h4⟩, h5⟩

theorem fields69 : (Tryd.prog.fieldsOf 69).toList.length = 3 := by kernel_rfl
theorem eq69 : Tryd.prog.underlying 69 = some (.struct (Tryd.prog.fieldsOf 69)) := by
  unfold Program.fieldsOf
  rw [Tryd.underlying69]
theorem stood69 : Tryd.prog.stoodInHeld 69 = false := by kernel_rfl
theorem neq69 (x y : Cd) (w : World) : (binOp .neq 69 (.agg #[.int .i64 x.row, .int .i64 x.col, .bool x.t]) (.agg #[.int .i64 y.row, .int .i64 y.col, .bool y.t])).run Tryd.prog w = .ok (.bool (decide (x ≠ y))) w := by
  obtain ⟨a, b, t⟩ := x
  obtain ⟨a', b', t'⟩ := y
  have e : (!(a == a' && (b == b' && t == t'))) = decide (Cd.mk a b t ≠ ⟨a', b', t'⟩) := by
    by_cases h1 : a = a'
    · by_cases h2 : b = b'
      · by_cases h3 : t = t'
        · simp [h1, h2, h3]
        · simp [h1, h2, h3]
      · simp [h2]
    · simp [h1]
  rw [run_neq_struct, run_equalIn_agg w 9999 69 _ _ eq69 stood69, ← e]
  unfold Program.fieldsOf
  rw [Tryd.underlying69]
  simp [Op.eqFields, go_sem, Tryd.underlying3, Tryd.underlying4]
  by_cases h1 : a = a' <;> by_cases h2 : b = b' <;> by_cases h3 : t = t' <;> simp [h1, h2, h3]

set_option maxRecDepth 100000 in
set_option maxHeartbeats 4000000 in
theorem equal_any (A D : Option Addr) (c d : Nat) (l m : List Cd) (w : World) (hl : l.length < 1000000) (hA : CardsAt w w.heap.size A l) (hD : CardsAt w w.heap.size D m) :
    Calls Tryd.prog 49 #[.slice A l.length c, .slice D m.length d] w fun e w' => e = .returned (.bool (decide (l = m))) ∧ Below w.heap.size w w' := by
  by_cases hlm : l.length = m.length
  rotate_left
  · rw [decide_eq_false (fun h => hlm (by rw [h]))]
    have hlm' : ((l.length : Int) != (m.length : Int)) = true := by simpa using (by omega : ¬ (l.length : Int) = m.length)
    clear hlm
    go_enter Tryd.func49, Tryd.ntmps49
    go_wp2
    go_ret
    exact ⟨rfl, Below.refl _ _⟩
  have hlm' : ((l.length : Int) != (m.length : Int)) = false := by simpa using (by omega : (l.length : Int) = m.length)
  have HLM := Lib.hid hlm
  have hneq := neq69
  clear hlm
  go_enter Tryd.func49, Tryd.ntmps49
  go_wp2
  clear hlm'
  go_loopw [13] (fun i wr => ∃ k : Nat, k ≤ l.length ∧ i = .int .i64 k ∧ Hid (l.take k = m.take k) ∧ Below w.heap.size w wr) (fun i _ => l.length - (intOf i).toNat)
  case atStart => exact ⟨0, Nat.zero_le _, rfl, Lib.hid rfl, Below.refl _ _⟩
  case round =>
    obtain ⟨k, hk, rfl, HK, hbw⟩ := hrel
    by_cases hlt : k < l.length
    · have hlt2 : k < m.length := by have := HLM.out; omega
      have hx : l[k]? = some l[k] := List.getElem?_eq_getElem hlt
      have hy : m[k]? = some m[k] := List.getElem?_eq_getElem hlt2
      have ht1 : l.take (k + 1) = l.take k ++ [l[k]] := List.take_succ_eq_append_getElem hlt
      have ht2 : m.take (k + 1) = m.take k ++ [m[k]] := List.take_succ_eq_append_getElem hlt2
      generalize l[k] = x at hx ht1
      generalize m[k] = y at hy ht2
      obtain ⟨b1, o1, rfl, hb1, g1, g2, g3⟩ := (hA.below hbw (Nat.le_refl _)) k x hx
      obtain ⟨b2, o2, rfl, hb2, k1, k2, k3⟩ := (hD.below hbw (Nat.le_refl _)) k y hy
      have hki : (k : Int) < (l.length : Int) := by omega
      have hkj : (k : Int) < (m.length : Int) := by omega
      have hk0 : (0 : Int) ≤ (k : Int) := by omega
      by_cases hxy : x = y
      · have HT := Lib.hid (show l.take (k + 1) = m.take (k + 1) by rw [ht1, ht2, HK.out, hxy])
        have hne : decide (x ≠ y) = false := by simp [hxy]
        clear hx hy ht1 ht2 hxy
        go_wp2
        go_quiet (fail)
        go_wp2
        go_roundw
        case rel => exact ⟨k + 1, by omega, by go_num, HT, below_drewN hbw _⟩
        case measure => simp [intOf]; omega
      · have HT := Lib.hid (take_ne hx hy hxy)
        have hne : decide (x ≠ y) = true := by simp [hxy]
        clear hx hy ht1 ht2 hxy
        go_wp2
        go_quiet (fail)
        go_wp2
        go_ret
        exact ⟨by rw [decide_eq_false HT.out]; rfl, below_drewN hbw _⟩
    · have e : l.take k = l := List.take_of_length_le (by omega)
      have e2 : m.take k = m := List.take_of_length_le (by have := HLM.out; omega)
      have HE := Lib.hid (show l = m by rw [← e, ← e2, HK.out])
      clear e e2
      go_wp2
      go_ret
      exact ⟨by rw [decide_eq_true HE.out]; rfl, hbw⟩


/-- The blocks of the variables of CutStraight. -/
structure SP where
  gq : Nat
  gs : Nat
  gn : Nat
  ga : Nat
  gt : Nat
  gc : Nat
/-- What lies in memory: the fillings so far, which one is wanted, how many there are, whether one was straight, the chosen one. -/
structure StrI (s : Sh) (Z : SP) (q N : Nat) (a : Int) (ch : Option (List Cd)) (st : Bool) (B : Nat → Prop) (W : World) : Prop where
  s0 : W.cell? ⟨Z.gs, 0, none⟩ = some (.int .i64 s.r)
  s1 : W.cell? ⟨Z.gs, 1, none⟩ = some (.int .i64 s.c)
  s2 : W.cell? ⟨Z.gs, 2, none⟩ = some (.int .i64 s.l)
  s3 : W.cell? ⟨Z.gs, 3, none⟩ = some (.int .i64 s.w)
  qv : W.cell? ⟨Z.gq, 0, none⟩ = some (.int .u16 q)
  nv : W.cell? ⟨Z.gn, 0, none⟩ = some (.int .i64 N)
  av : W.cell? ⟨Z.ga, 0, none⟩ = some (.int .i64 a)
  af : W.frozen? ⟨Z.ga, 0, none⟩ = false
  tv : W.cell? ⟨Z.gt, 0, none⟩ = some (.bool st)
  tf : W.frozen? ⟨Z.gt, 0, none⟩ = false
  cv : KeptAt W Z.gc (ch.getD []) B (fun i => i = Z.gq ∨ i = Z.gs ∨ i = Z.gn ∨ i = Z.ga ∨ i = Z.gt)
  cn : ch = none → W.cell? ⟨Z.gc, 0, none⟩ = some (.slice none 0 0)
  ord : Z.gq < Z.gs ∧ Z.gs < Z.gn ∧ Z.gn < Z.ga ∧ Z.ga < Z.gt ∧ Z.gt < Z.gc
  mem : B Z.gq ∧ B Z.gs ∧ B Z.gn ∧ B Z.ga ∧ B Z.gt
  lt : ∀ i, B i → i < W.heap.size

theorem StrI.to {s : Sh} {Z : SP} {q N : Nat} {a : Int} {ch : Option (List Cd)} {st : Bool} {B : Nat → Prop} {W W' : World} {Q : Nat → Prop} (h : StrI s Z q N a ch st B W) (hc : Chg Q W W') (hq : ∀ i, B i → ¬ Q i) : StrI s Z q N a ch st B W' := by
  obtain ⟨m1, m2, m3, m4, m5⟩ := h.mem
  have c := fun {i o : Nat} {u : Value} (hi : B i) (e : W.cell? ⟨i, o, none⟩ = some u) => (hc.cell (p := ⟨i, o, none⟩) (h.lt i hi) (hq i hi)).trans e
  have f := fun {i o : Nat} {u : Bool} (hi : B i) (e : W.frozen? ⟨i, o, none⟩ = u) => (hc.frozen (p := ⟨i, o, none⟩) (h.lt i hi) (hq i hi)).trans e
  exact ⟨c m2 h.s0, c m2 h.s1, c m2 h.s2, c m2 h.s3, c m1 h.qv, c m3 h.nv, c m4 h.av, f m4 h.af, c m5 h.tv, f m5 h.tf, h.cv.chg hc (fun i hi _ => hq i hi) (fun e => by have := h.ord; omega), fun e => c h.cv.2 (h.cn e), h.ord, h.mem, fun i hi => Nat.lt_of_lt_of_le (h.lt i hi) hc.size⟩
theorem StrI.set_a {s : Sh} {Z : SP} {q N : Nat} {a : Int} {ch : Option (List Cd)} {st : Bool} {B : Nat → Prop} {W : World} (x : Int) (h : StrI s Z q N a ch st B W) : StrI s Z q N x ch st B (W.setCell ⟨Z.ga, 0, none⟩ (.int .i64 x)) ∧ Chg B W (W.setCell ⟨Z.ga, 0, none⟩ (.int .i64 x)) := by
  obtain ⟨m1, m2, m3, m4, m5⟩ := h.mem
  obtain ⟨o1, o2, o3, o4, o5⟩ := h.ord
  have hc := Chg.store W ⟨Z.ga, 0, none⟩ (.int .i64 x)
  have c := fun {i o : Nat} {u : Value} (hi : B i) (hn : ¬ i = Z.ga) (e : W.cell? ⟨i, o, none⟩ = some u) => (hc.cell (p := ⟨i, o, none⟩) (h.lt i hi) hn).trans e
  have f := fun {i o : Nat} {u : Bool} (hi : B i) (hn : ¬ i = Z.ga) (e : W.frozen? ⟨i, o, none⟩ = u) => (hc.frozen (p := ⟨i, o, none⟩) (h.lt i hi) hn).trans e
  refine ⟨⟨c m2 (by omega) h.s0, c m2 (by omega) h.s1, c m2 (by omega) h.s2, c m2 (by omega) h.s3, c m1 (by omega) h.qv, c m3 (by omega) h.nv, ?_, ?_, c m5 (by omega) h.tv, f m5 (by omega) h.tf, h.cv.chg hc (fun i _ hn e => hn (.inr (.inr (.inr (.inl e))))) (fun e => by omega), fun e => c h.cv.2 (by omega) (h.cn e), h.ord, h.mem, fun i hi => Nat.lt_of_lt_of_le (h.lt i hi) hc.size⟩, hc.mono fun i _ e => ?_⟩
  · simp [go_sem, h.av]
  · simp [go_sem, h.af]
  · rw [show i = Z.ga from e]; exact m4
theorem StrI.set_t {s : Sh} {Z : SP} {q N : Nat} {a : Int} {ch : Option (List Cd)} {st : Bool} {B : Nat → Prop} {W : World} (x : Bool) (h : StrI s Z q N a ch st B W) : StrI s Z q N a ch x B (W.setCell ⟨Z.gt, 0, none⟩ (.bool x)) ∧ Chg B W (W.setCell ⟨Z.gt, 0, none⟩ (.bool x)) := by
  obtain ⟨m1, m2, m3, m4, m5⟩ := h.mem
  obtain ⟨o1, o2, o3, o4, o5⟩ := h.ord
  have hc := Chg.store W ⟨Z.gt, 0, none⟩ (.bool x)
  have c := fun {i o : Nat} {u : Value} (hi : B i) (hn : ¬ i = Z.gt) (e : W.cell? ⟨i, o, none⟩ = some u) => (hc.cell (p := ⟨i, o, none⟩) (h.lt i hi) hn).trans e
  have f := fun {i o : Nat} {u : Bool} (hi : B i) (hn : ¬ i = Z.gt) (e : W.frozen? ⟨i, o, none⟩ = u) => (hc.frozen (p := ⟨i, o, none⟩) (h.lt i hi) hn).trans e
  refine ⟨⟨c m2 (by omega) h.s0, c m2 (by omega) h.s1, c m2 (by omega) h.s2, c m2 (by omega) h.s3, c m1 (by omega) h.qv, c m3 (by omega) h.nv, c m4 (by omega) h.av, f m4 (by omega) h.af, ?_, ?_, h.cv.chg hc (fun i _ hn e => hn (.inr (.inr (.inr (.inr e))))) (fun e => by omega), fun e => c h.cv.2 (by omega) (h.cn e), h.ord, h.mem, fun i hi => Nat.lt_of_lt_of_le (h.lt i hi) hc.size⟩, hc.mono fun i _ e => ?_⟩
  · simp [go_sem, h.tv]
  · simp [go_sem, h.tf]
  · rw [show i = Z.gt from e]; exact m5
/-- The filling is kept. -/
theorem StrI.set_c {s : Sh} {Z : SP} {q N : Nat} {a : Int} {ch : Option (List Cd)} {st : Bool} {B : Nat → Prop} {W w1 : World} {v : Value} {l : List Cd} (h : StrI s Z q N a ch st B W) (hown : w1.ownsRow W.heap.size 69 3 v l.length (ccells l)) (hb : Below W.heap.size W w1) :
    ∃ B', StrI s Z q N a (some l) st B' (w1.setCell ⟨Z.gc, 0, none⟩ v) ∧ (∀ i, B' i → B i ∨ W.heap.size ≤ i) ∧ Chg B W (w1.setCell ⟨Z.gc, 0, none⟩ v) := by
  obtain ⟨m1, m2, m3, m4, m5⟩ := h.mem
  obtain ⟨o1, o2, o3, o4, o5⟩ := h.ord
  obtain ⟨⟨u, base, ⟨k1, k2⟩, _, _⟩, hB⟩ := h.cv
  have hc := Chg.store w1 ⟨Z.gc, 0, none⟩ v
  have hz := hb.size
  have hz2 := hc.size
  have hch : Chg (fun i => i = Z.gc) W (w1.setCell ⟨Z.gc, 0, none⟩ v) := (Chg.of_below hb).trans hc (fun i _ e => e)
  have hgc := h.lt _ hB
  have q1 := (hb.cell (p := ⟨Z.gc, 0, none⟩) hgc).trans k1
  have q2 := (hb.frozen (p := ⟨Z.gc, 0, none⟩) hgc).trans k2
  have c := fun {i o : Nat} {u : Value} (hi : B i) (hn : ¬ i = Z.gc) (e : W.cell? ⟨i, o, none⟩ = some u) => (hch.cell (p := ⟨i, o, none⟩) (h.lt i hi) hn).trans e
  have f := fun {i o : Nat} {u : Bool} (hi : B i) (hn : ¬ i = Z.gc) (e : W.frozen? ⟨i, o, none⟩ = u) => (hch.frozen (p := ⟨i, o, none⟩) (h.lt i hi) hn).trans e
  have l1 := h.lt _ m1
  have l2 := h.lt _ m2
  have l3 := h.lt _ m3
  have l4 := h.lt _ m4
  have l5 := h.lt _ m5
  refine ⟨fun i => B i ∨ some i = v.ownBlock, ⟨c m2 (by omega) h.s0, c m2 (by omega) h.s1, c m2 (by omega) h.s2, c m2 (by omega) h.s3, c m1 (by omega) h.qv, c m3 (by omega) h.nv, c m4 (by omega) h.av, f m4 (by omega) h.af, c m5 (by omega) h.tv, f m5 (by omega) h.tf, ⟨⟨v, W.heap.size, ⟨?_, ?_⟩, ?_, fun i hi => ⟨.inr hi.symm, ?_⟩⟩, .inl hB⟩, fun e => (by cases e), h.ord, ⟨.inl m1, .inl m2, .inl m3, .inl m4, .inl m5⟩, fun i hi => ?_⟩, fun i hi => ?_, hch.mono fun i _ e => ?_⟩
  · simp [go_sem, q1]
  · simp [go_sem, q2]
  · refine hc.own hown (fun i hi e => ?_)
    have := (hown.lt i hi).1
    have e : i = Z.gc := e
    omega
  · have := (hown.lt i hi).1
    show ¬ (i = Z.gq ∨ i = Z.gs ∨ i = Z.gn ∨ i = Z.ga ∨ i = Z.gt)
    omega
  · rcases hi with e | e
    · have := h.lt i e; omega
    · have := (hown.lt i e.symm).2; omega
  · rcases hi with e | e
    · exact .inl e
    · exact .inr (hown.lt i e.symm).1
  · rw [show i = Z.gc from e]; exact hB
/-- A list of cards is not in a block whose cell is a slice. -/
theorem cards_set {W : World} {A : Option Addr} {l : List Cd} {N g : Nat} {v u : Value} (h : CardsAt W N A l) (hg : W.cell? ⟨g, 0, none⟩ = some u) (hi : ∀ x, u ≠ .int .i64 x) (hb : ∀ x, u ≠ .bool x) : CardsAt (W.setCell ⟨g, 0, none⟩ v) N A l := by
  intro k x hx
  obtain ⟨b, off, h1, h2, d0, d1, d2⟩ := h k x hx
  have key : ∀ (o : Nat) (y : Value), W.cell? ⟨b, o, none⟩ = some y → y ≠ u → (W.setCell ⟨g, 0, none⟩ v).cell? ⟨b, o, none⟩ = some y := fun o y hy hne => by
    rw [World.cell?_setCell_other]
    · exact hy
    · intro e
      injection e with e1 e2
      subst e1 e2
      rw [hg] at hy
      exact hne (Option.some.inj hy).symm
  exact ⟨b, off, h1, h2, key _ _ d0 (fun e => hi _ e.symm), key _ _ d1 (fun e => hi _ e.symm), key _ _ d2 (fun e => hb _ e.symm)⟩

/-- What the function keeps: how many fillings there were, the chosen one, and whether one was straight. -/
def strN (s : Sh) (K : Nat) (st : Int × Option (List Cd) × Bool) (l : List Cd) : (Int × Option (List Cd) × Bool) × Bool :=
  ((wrap64 (st.1 + 1), if st.1 = K then some l else st.2.1, st.2.2 || (decide (st.1 < 40) && decide (0 ≤ depS s 41 l))), decide (wrap64 (st.1 + 1) < 40) || decide (wrap64 (st.1 + 1) ≤ K))
def StrPost (s : Sh) (Z : SP) (q N : Nat) (a : Int) (ch : Option (List Cd)) (st : Bool) (r : Bool) (B : Nat → Prop) (W : World) (e : Ending) (W' : World) : Prop :=
  e = .returned (.bool r) ∧ ∃ B', (StrI s Z q N a ch st B' W' ∧ ∀ i, B' i → B i ∨ W.heap.size ≤ i) ∧ Chg B W W'
theorem StrI.post {s : Sh} {Z : SP} {q N : Nat} {a : Int} {ch : Option (List Cd)} {st : Bool} {B B1 : Nat → Prop} {W W1 W2 : World} (h : StrI s Z q N a ch st B1 W1) (hB : ∀ i, B1 i → B i ∨ W.heap.size ≤ i) (hc : Chg B W W1) (hb : Below W1.heap.size W1 W2) (r : Bool) : StrPost s Z q N a ch st r B W (.returned (.bool r)) W2 :=
  ⟨rfl, B1, ⟨h.to (Chg.of_below (P := fun _ => False) hb) (fun _ _ e => e), hB⟩, hc.then_below hb⟩

set_option maxRecDepth 100000 in
set_option maxHeartbeats 8000000 in
theorem str_each (s : Sh) (hs : s.Ok) (Z : SP) (q N : Nat) (hq : q < 65536) (hN : 1 ≤ N) (hN2 : N < 1000000) (a : Int) (ch : Option (List Cd)) (st : Bool) (B : Nat → Prop) (W : World) (A : Option Addr) (l : List Cd) (c : Nat) (hI : StrI s Z q N a ch st B W) (hA : CardsAt W W.heap.size A l) (hf : ∀ x ∈ l, fitP s x) (hn : l.length ≤ 36) :
    Calls Tryd.prog 52 #[.slice A l.length c, .pointer (some ⟨Z.ga, 0, none⟩), .pointer (some ⟨Z.gq, 0, none⟩), .pointer (some ⟨Z.gn, 0, none⟩), .pointer (some ⟨Z.gc, 0, none⟩), .pointer (some ⟨Z.gt, 0, none⟩), .pointer (some ⟨Z.gs, 0, none⟩)] W
      (StrPost s Z q N (strN s (q % N) (a, ch, st) l).1.1 (strN s (q % N) (a, ch, st) l).1.2.1 (strN s (q % N) (a, ch, st) l).1.2.2 (strN s (q % N) (a, ch, st) l).2 B W) := by
  unfold strN
  dsimp only
  have hK := Nat.mod_lt q (show 0 < N by omega)
  have hm : (q : Int).tmod (N : Int) = ((q % N : Nat) : Int) := rfl
  generalize q % N = K at *
  have hN0 : ((N : Int) == 0) = false := beq_eq_false_iff_ne.2 (by omega)
  have hNnz : ¬ N = 0 := by omega
  have HI := Lib.hid hI
  obtain ⟨s0, s1, s2, s3, qv, nv, av, af, tv, tf, cv, cn, ord, mem, lt⟩ := hI
  obtain ⟨⟨u, base, ⟨k1, k2⟩, k3, k4⟩, hB⟩ := cv
  obtain ⟨A0, c0, rfl, _, _⟩ := own_cards k3
  have hgc := lt _ hB
  clear cn mem lt hB k4 k3
  obtain ⟨o1, o2, o3, o4, o5⟩ := ord
  have HA := Lib.hid hA
  have HC := Lib.hid (fun W' (h : Below W.heap.size W W') => clone_any A c l W' (HA.out.up h) (by omega))
  have HD := Lib.hid (fun (W' : World) (h : CardsAt W' W'.heap.size A l) => depth_any s hs 41 (by omega) A c l W' h hf (by omega))
  generalize hdp : depS s 41 l = dp at *
  clear hdp
  generalize hr1 : wrap64 (a + 1) = a1 at *
  have HR1 := Lib.hid hr1
  generalize hch : (if a = (K : Int) then some l else ch) = ch1
  have HCH := Lib.hid hch
  generalize hst : (st || (decide (a < 40) && decide (0 ≤ dp))) = st1
  have HST := Lib.hid hst
  generalize hrr : (decide (a1 < 40) || decide (a1 ≤ (K : Int))) = r1
  have HRR := Lib.hid hrr
  have hbW : Below W.heap.size W W := Below.refl _ _
  clear hch hst hrr hA hf
  by_cases haK : a = (K : Int)
  · have haK' : (a == (K : Int)) = true := beq_iff_eq.2 haK
    have hch1 : ch1 = some l := by rw [← HCH.out, if_pos haK]
    subst hch1
    clear HCH haK
    go_enter Tryd.func52, Tryd.ntmps52
    go_wp2
    go_quiet (fail)
    change Exit.then _ _ Exit.normal _ _
    have hbq := below_drewN hbW nq
    go_upto_region 3 with (go_at_call 46; refine (HC.out _ hbq).mono ?_; rintro e w1 ⟨v, rfl, hown, hb1⟩; obtain ⟨A5, c5, rfl, _, _⟩ := own_cards hown; have hb01 := hbq.trans (hb1.mono hbq.size); have z1 := (hb01.cell (p := ⟨Z.gc, 0, none⟩) hgc).trans k1; have z2 := (hb01.frozen (p := ⟨Z.gc, 0, none⟩) hgc).trans k2)
    obtain ⟨B1, hI1, hB1, hc1⟩ := HI.out.set_c (v := .slice A5 l.length c5) hown hb01
    have hA1 : CardsAt (w1.setCell ⟨Z.gc, 0, none⟩ (.slice A5 l.length c5)) (w1.setCell ⟨Z.gc, 0, none⟩ (.slice A5 l.length c5)).heap.size A l := by
      have h := cards_set (v := .slice A5 l.length c5) (HA.out.up hb01) z1 (fun x e => by cases e) (fun x e => by cases e)
      simpa using h
    generalize w1.setCell ⟨Z.gc, 0, none⟩ (.slice A5 l.length c5) = W1 at *
    clear s0 s1 s2 s3 qv nv av af tv tf hbq hb1 hown z1 z2 k1 k2
    have HI1 := Lib.hid hI1
    have HB1 := Lib.hid hB1
    have HC1 := Lib.hid hc1
    obtain ⟨s0, s1, s2, s3, qv, nv, av, af, tv, tf, _, _, _, _, _⟩ := hI1
    have hga := lt_of_cell av
    have hgt := lt_of_cell tv
    clear hB1 hc1
    rcases st with _ | _
    · by_cases ha40 : a < 40
      · have HE := Lib.hid (HST.out.symm.trans (by rw [decide_eq_true ha40, Bool.false_or, Bool.true_and]))
        by_cases hdp0 : 0 ≤ dp
        · obtain rfl : st1 = true := HE.out.trans (decide_eq_true hdp0)
          clear HE
          have HII := Lib.hid (fun w2 (hb2 : Below W1.heap.size W1 w2) => HI1.out.to (Chg.of_below (P := fun _ => False) hb2) (fun _ _ e => e))
          go_upto_region 5 with (go_at_call 53; refine (HD.out _ hA1).mono ?_; rintro e w2 ⟨rfl, hb2⟩; obtain ⟨y0, y1, y2, y3, yq, yn, ya, yaf, yt, ytf, _, _, _, _, _⟩ := HII.out w2 hb2)
          obtain ⟨hI2, hc2⟩ := (HII.out w2 hb2).set_t true
          obtain ⟨hI3, hc3⟩ := hI2.set_a a1
          have HP := Lib.hid (fun r W' hb => hI3.post (B := B) (W := W) HB1.out ((HC1.out.then_below hb2).trans (hc2.trans hc3 (fun i _ e => e)) (fun i hi e => (HB1.out i e).elim id (fun h => absurd hi (by omega)))) (W2 := W') hb r)
          obtain ⟨r0, r1', r2, r3, rq, rn, ra, _, rt, _, _, _, _, _, _⟩ := hI3
          generalize (w2.setCell ⟨Z.gt, 0, none⟩ (.bool true)).setCell ⟨Z.ga, 0, none⟩ (.int .i64 a1) = W3 at *
          clear hI2 hc2 hc3 rt
          by_cases h40 : a1 < 40
          · have hd40 : decide (a1 < 40) = true := decide_eq_true h40
            obtain rfl : r1 = true := by rw [← HRR.out, hd40]; rfl
            go_quiet (fail)
            go_wp2
            go_ret
            exact HP.out true _ (below_drewN (Below.refl _ _) _)
          · have hd40 : decide (a1 < 40) = false := decide_eq_false h40
            by_cases hK1 : a1 ≤ (K : Int)
            · have hd1 : decide (a1 ≤ (K : Int)) = true := decide_eq_true hK1
              obtain rfl : r1 = true := by rw [← HRR.out, hd1, Bool.or_true]
              go_quiet (fail)
              go_wp2
              go_ret
              exact HP.out true _ (below_drewN (Below.refl _ _) _)
            · have hd1 : decide (a1 ≤ (K : Int)) = false := decide_eq_false hK1
              obtain rfl : r1 = false := by rw [← HRR.out, hd1, hd40]; rfl
              go_quiet (fail)
              go_wp2
              go_ret
              exact HP.out false _ (below_drewN (Below.refl _ _) _)
        · obtain rfl : st1 = false := HE.out.trans (decide_eq_false hdp0)
          clear HE
          have hdd : decide (0 ≤ dp) = false := decide_eq_false hdp0
          have HII := Lib.hid (fun w2 (hb2 : Below W1.heap.size W1 w2) => HI1.out.to (Chg.of_below (P := fun _ => False) hb2) (fun _ _ e => e))
          go_upto_region 5 with (go_at_call 53; refine (HD.out _ hA1).mono ?_; rintro e w2 ⟨rfl, hb2⟩; obtain ⟨y0, y1, y2, y3, yq, yn, ya, yaf, yt, ytf, _, _, _, _, _⟩ := HII.out w2 hb2)
          try rw [hdd]
          obtain ⟨hI2, hc2⟩ := (HII.out w2 hb2).set_t false
          obtain ⟨hI3, hc3⟩ := hI2.set_a a1
          have HP := Lib.hid (fun r W' hb => hI3.post (B := B) (W := W) HB1.out ((HC1.out.then_below hb2).trans (hc2.trans hc3 (fun i _ e => e)) (fun i hi e => (HB1.out i e).elim id (fun h => absurd hi (by omega)))) (W2 := W') hb r)
          obtain ⟨r0, r1', r2, r3, rq, rn, ra, _, rt, _, _, _, _, _, _⟩ := hI3
          generalize (w2.setCell ⟨Z.gt, 0, none⟩ (.bool false)).setCell ⟨Z.ga, 0, none⟩ (.int .i64 a1) = W3 at *
          clear hI2 hc2 hc3 rt
          by_cases h40 : a1 < 40
          · have hd40 : decide (a1 < 40) = true := decide_eq_true h40
            obtain rfl : r1 = true := by rw [← HRR.out, hd40]; rfl
            go_quiet (fail)
            go_wp2
            go_ret
            exact HP.out true _ (below_drewN (Below.refl _ _) _)
          · have hd40 : decide (a1 < 40) = false := decide_eq_false h40
            by_cases hK1 : a1 ≤ (K : Int)
            · have hd1 : decide (a1 ≤ (K : Int)) = true := decide_eq_true hK1
              obtain rfl : r1 = true := by rw [← HRR.out, hd1, Bool.or_true]
              go_quiet (fail)
              go_wp2
              go_ret
              exact HP.out true _ (below_drewN (Below.refl _ _) _)
            · have hd1 : decide (a1 ≤ (K : Int)) = false := decide_eq_false hK1
              obtain rfl : r1 = false := by rw [← HRR.out, hd1, hd40]; rfl
              go_quiet (fail)
              go_wp2
              go_ret
              exact HP.out false _ (below_drewN (Below.refl _ _) _)
      · obtain rfl : st1 = false := HST.out.symm.trans (by rw [decide_eq_false ha40]; rfl)
        go_upto_region 5 with fail
        obtain ⟨hI2, hc2⟩ := HI1.out.set_t false
        obtain ⟨hI3, hc3⟩ := hI2.set_a a1
        have HP := Lib.hid (fun r W' hb => hI3.post (B := B) (W := W) HB1.out ((HC1.out).trans (hc2.trans hc3 (fun i _ e => e)) (fun i hi e => (HB1.out i e).elim id (fun h => absurd hi (by omega)))) (W2 := W') hb r)
        obtain ⟨r0, r1', r2, r3, rq, rn, ra, _, rt, _, _, _, _, _, _⟩ := hI3
        generalize (W1.setCell ⟨Z.gt, 0, none⟩ (.bool false)).setCell ⟨Z.ga, 0, none⟩ (.int .i64 a1) = W3 at *
        clear hI2 hc2 hc3 rt
        by_cases h40 : a1 < 40
        · have hd40 : decide (a1 < 40) = true := decide_eq_true h40
          obtain rfl : r1 = true := by rw [← HRR.out, hd40]; rfl
          go_quiet (fail)
          go_wp2
          go_ret
          exact HP.out true _ (below_drewN (Below.refl _ _) _)
        · have hd40 : decide (a1 < 40) = false := decide_eq_false h40
          by_cases hK1 : a1 ≤ (K : Int)
          · have hd1 : decide (a1 ≤ (K : Int)) = true := decide_eq_true hK1
            obtain rfl : r1 = true := by rw [← HRR.out, hd1, Bool.or_true]
            go_quiet (fail)
            go_wp2
            go_ret
            exact HP.out true _ (below_drewN (Below.refl _ _) _)
          · have hd1 : decide (a1 ≤ (K : Int)) = false := decide_eq_false hK1
            obtain rfl : r1 = false := by rw [← HRR.out, hd1, hd40]; rfl
            go_quiet (fail)
            go_wp2
            go_ret
            exact HP.out false _ (below_drewN (Below.refl _ _) _)
    · obtain rfl : st1 = true := HST.out.symm.trans (Bool.true_or _)
      go_upto_region 5 with fail
      obtain ⟨hI2, hc2⟩ := HI1.out.set_t true
      obtain ⟨hI3, hc3⟩ := hI2.set_a a1
      have HP := Lib.hid (fun r W' hb => hI3.post (B := B) (W := W) HB1.out ((HC1.out).trans (hc2.trans hc3 (fun i _ e => e)) (fun i hi e => (HB1.out i e).elim id (fun h => absurd hi (by omega)))) (W2 := W') hb r)
      obtain ⟨r0, r1', r2, r3, rq, rn, ra, _, rt, _, _, _, _, _, _⟩ := hI3
      generalize (W1.setCell ⟨Z.gt, 0, none⟩ (.bool true)).setCell ⟨Z.ga, 0, none⟩ (.int .i64 a1) = W3 at *
      clear hI2 hc2 hc3 rt
      by_cases h40 : a1 < 40
      · have hd40 : decide (a1 < 40) = true := decide_eq_true h40
        obtain rfl : r1 = true := by rw [← HRR.out, hd40]; rfl
        go_quiet (fail)
        go_wp2
        go_ret
        exact HP.out true _ (below_drewN (Below.refl _ _) _)
      · have hd40 : decide (a1 < 40) = false := decide_eq_false h40
        by_cases hK1 : a1 ≤ (K : Int)
        · have hd1 : decide (a1 ≤ (K : Int)) = true := decide_eq_true hK1
          obtain rfl : r1 = true := by rw [← HRR.out, hd1, Bool.or_true]
          go_quiet (fail)
          go_wp2
          go_ret
          exact HP.out true _ (below_drewN (Below.refl _ _) _)
        · have hd1 : decide (a1 ≤ (K : Int)) = false := decide_eq_false hK1
          obtain rfl : r1 = false := by rw [← HRR.out, hd1, hd40]; rfl
          go_quiet (fail)
          go_wp2
          go_ret
          exact HP.out false _ (below_drewN (Below.refl _ _) _)
  · have haK' : (a == (K : Int)) = false := beq_eq_false_iff_ne.2 haK
    have hch1 : ch1 = ch := by rw [← HCH.out, if_neg haK]
    subst hch1
    clear HCH haK
    go_enter Tryd.func52, Tryd.ntmps52
    go_wp2
    go_quiet (fail)
    change Exit.then _ _ Exit.normal _ _
    have hbq := below_drewN hbW nq
    have hI1 := HI.out.to (Chg.of_below (P := fun _ => False) hbq) (fun _ _ e => e)
    have hB1 : ∀ i, B i → B i ∨ W.heap.size ≤ i := fun i e => .inl e
    have hc1 : Chg B W (W.drewN nq) := Chg.of_below hbq
    have hA1 := HA.out.up hbq
    go_upto_region 3 with fail
    generalize W.drewN nq = W1 at *
    clear s0 s1 s2 s3 qv nv av af tv tf hbq k1 k2
    have HI1 := Lib.hid hI1
    have HB1 := Lib.hid hB1
    have HC1 := Lib.hid hc1
    obtain ⟨s0, s1, s2, s3, qv, nv, av, af, tv, tf, _, _, _, _, _⟩ := hI1
    have hga := lt_of_cell av
    have hgt := lt_of_cell tv
    clear hB1 hc1
    rcases st with _ | _
    · by_cases ha40 : a < 40
      · have HE := Lib.hid (HST.out.symm.trans (by rw [decide_eq_true ha40, Bool.false_or, Bool.true_and]))
        by_cases hdp0 : 0 ≤ dp
        · obtain rfl : st1 = true := HE.out.trans (decide_eq_true hdp0)
          clear HE
          have HII := Lib.hid (fun w2 (hb2 : Below W1.heap.size W1 w2) => HI1.out.to (Chg.of_below (P := fun _ => False) hb2) (fun _ _ e => e))
          go_upto_region 5 with (go_at_call 53; refine (HD.out _ hA1).mono ?_; rintro e w2 ⟨rfl, hb2⟩; obtain ⟨y0, y1, y2, y3, yq, yn, ya, yaf, yt, ytf, _, _, _, _, _⟩ := HII.out w2 hb2)
          obtain ⟨hI2, hc2⟩ := (HII.out w2 hb2).set_t true
          obtain ⟨hI3, hc3⟩ := hI2.set_a a1
          have HP := Lib.hid (fun r W' hb => hI3.post (B := B) (W := W) HB1.out ((HC1.out.then_below hb2).trans (hc2.trans hc3 (fun i _ e => e)) (fun i hi e => (HB1.out i e).elim id (fun h => absurd hi (by omega)))) (W2 := W') hb r)
          obtain ⟨r0, r1', r2, r3, rq, rn, ra, _, rt, _, _, _, _, _, _⟩ := hI3
          generalize (w2.setCell ⟨Z.gt, 0, none⟩ (.bool true)).setCell ⟨Z.ga, 0, none⟩ (.int .i64 a1) = W3 at *
          clear hI2 hc2 hc3 rt
          by_cases h40 : a1 < 40
          · have hd40 : decide (a1 < 40) = true := decide_eq_true h40
            obtain rfl : r1 = true := by rw [← HRR.out, hd40]; rfl
            go_quiet (fail)
            go_wp2
            go_ret
            exact HP.out true _ (below_drewN (Below.refl _ _) _)
          · have hd40 : decide (a1 < 40) = false := decide_eq_false h40
            by_cases hK1 : a1 ≤ (K : Int)
            · have hd1 : decide (a1 ≤ (K : Int)) = true := decide_eq_true hK1
              obtain rfl : r1 = true := by rw [← HRR.out, hd1, Bool.or_true]
              go_quiet (fail)
              go_wp2
              go_ret
              exact HP.out true _ (below_drewN (Below.refl _ _) _)
            · have hd1 : decide (a1 ≤ (K : Int)) = false := decide_eq_false hK1
              obtain rfl : r1 = false := by rw [← HRR.out, hd1, hd40]; rfl
              go_quiet (fail)
              go_wp2
              go_ret
              exact HP.out false _ (below_drewN (Below.refl _ _) _)
        · obtain rfl : st1 = false := HE.out.trans (decide_eq_false hdp0)
          clear HE
          have hdd : decide (0 ≤ dp) = false := decide_eq_false hdp0
          have HII := Lib.hid (fun w2 (hb2 : Below W1.heap.size W1 w2) => HI1.out.to (Chg.of_below (P := fun _ => False) hb2) (fun _ _ e => e))
          go_upto_region 5 with (go_at_call 53; refine (HD.out _ hA1).mono ?_; rintro e w2 ⟨rfl, hb2⟩; obtain ⟨y0, y1, y2, y3, yq, yn, ya, yaf, yt, ytf, _, _, _, _, _⟩ := HII.out w2 hb2)
          try rw [hdd]
          obtain ⟨hI2, hc2⟩ := (HII.out w2 hb2).set_t false
          obtain ⟨hI3, hc3⟩ := hI2.set_a a1
          have HP := Lib.hid (fun r W' hb => hI3.post (B := B) (W := W) HB1.out ((HC1.out.then_below hb2).trans (hc2.trans hc3 (fun i _ e => e)) (fun i hi e => (HB1.out i e).elim id (fun h => absurd hi (by omega)))) (W2 := W') hb r)
          obtain ⟨r0, r1', r2, r3, rq, rn, ra, _, rt, _, _, _, _, _, _⟩ := hI3
          generalize (w2.setCell ⟨Z.gt, 0, none⟩ (.bool false)).setCell ⟨Z.ga, 0, none⟩ (.int .i64 a1) = W3 at *
          clear hI2 hc2 hc3 rt
          by_cases h40 : a1 < 40
          · have hd40 : decide (a1 < 40) = true := decide_eq_true h40
            obtain rfl : r1 = true := by rw [← HRR.out, hd40]; rfl
            go_quiet (fail)
            go_wp2
            go_ret
            exact HP.out true _ (below_drewN (Below.refl _ _) _)
          · have hd40 : decide (a1 < 40) = false := decide_eq_false h40
            by_cases hK1 : a1 ≤ (K : Int)
            · have hd1 : decide (a1 ≤ (K : Int)) = true := decide_eq_true hK1
              obtain rfl : r1 = true := by rw [← HRR.out, hd1, Bool.or_true]
              go_quiet (fail)
              go_wp2
              go_ret
              exact HP.out true _ (below_drewN (Below.refl _ _) _)
            · have hd1 : decide (a1 ≤ (K : Int)) = false := decide_eq_false hK1
              obtain rfl : r1 = false := by rw [← HRR.out, hd1, hd40]; rfl
              go_quiet (fail)
              go_wp2
              go_ret
              exact HP.out false _ (below_drewN (Below.refl _ _) _)
      · obtain rfl : st1 = false := HST.out.symm.trans (by rw [decide_eq_false ha40]; rfl)
        go_upto_region 5 with fail
        obtain ⟨hI2, hc2⟩ := HI1.out.set_t false
        obtain ⟨hI3, hc3⟩ := hI2.set_a a1
        have HP := Lib.hid (fun r W' hb => hI3.post (B := B) (W := W) HB1.out ((HC1.out).trans (hc2.trans hc3 (fun i _ e => e)) (fun i hi e => (HB1.out i e).elim id (fun h => absurd hi (by omega)))) (W2 := W') hb r)
        obtain ⟨r0, r1', r2, r3, rq, rn, ra, _, rt, _, _, _, _, _, _⟩ := hI3
        generalize (W1.setCell ⟨Z.gt, 0, none⟩ (.bool false)).setCell ⟨Z.ga, 0, none⟩ (.int .i64 a1) = W3 at *
        clear hI2 hc2 hc3 rt
        by_cases h40 : a1 < 40
        · have hd40 : decide (a1 < 40) = true := decide_eq_true h40
          obtain rfl : r1 = true := by rw [← HRR.out, hd40]; rfl
          go_quiet (fail)
          go_wp2
          go_ret
          exact HP.out true _ (below_drewN (Below.refl _ _) _)
        · have hd40 : decide (a1 < 40) = false := decide_eq_false h40
          by_cases hK1 : a1 ≤ (K : Int)
          · have hd1 : decide (a1 ≤ (K : Int)) = true := decide_eq_true hK1
            obtain rfl : r1 = true := by rw [← HRR.out, hd1, Bool.or_true]
            go_quiet (fail)
            go_wp2
            go_ret
            exact HP.out true _ (below_drewN (Below.refl _ _) _)
          · have hd1 : decide (a1 ≤ (K : Int)) = false := decide_eq_false hK1
            obtain rfl : r1 = false := by rw [← HRR.out, hd1, hd40]; rfl
            go_quiet (fail)
            go_wp2
            go_ret
            exact HP.out false _ (below_drewN (Below.refl _ _) _)
    · obtain rfl : st1 = true := HST.out.symm.trans (Bool.true_or _)
      go_upto_region 5 with fail
      obtain ⟨hI2, hc2⟩ := HI1.out.set_t true
      obtain ⟨hI3, hc3⟩ := hI2.set_a a1
      have HP := Lib.hid (fun r W' hb => hI3.post (B := B) (W := W) HB1.out ((HC1.out).trans (hc2.trans hc3 (fun i _ e => e)) (fun i hi e => (HB1.out i e).elim id (fun h => absurd hi (by omega)))) (W2 := W') hb r)
      obtain ⟨r0, r1', r2, r3, rq, rn, ra, _, rt, _, _, _, _, _, _⟩ := hI3
      generalize (W1.setCell ⟨Z.gt, 0, none⟩ (.bool true)).setCell ⟨Z.ga, 0, none⟩ (.int .i64 a1) = W3 at *
      clear hI2 hc2 hc3 rt
      by_cases h40 : a1 < 40
      · have hd40 : decide (a1 < 40) = true := decide_eq_true h40
        obtain rfl : r1 = true := by rw [← HRR.out, hd40]; rfl
        go_quiet (fail)
        go_wp2
        go_ret
        exact HP.out true _ (below_drewN (Below.refl _ _) _)
      · have hd40 : decide (a1 < 40) = false := decide_eq_false h40
        by_cases hK1 : a1 ≤ (K : Int)
        · have hd1 : decide (a1 ≤ (K : Int)) = true := decide_eq_true hK1
          obtain rfl : r1 = true := by rw [← HRR.out, hd1, Bool.or_true]
          go_quiet (fail)
          go_wp2
          go_ret
          exact HP.out true _ (below_drewN (Below.refl _ _) _)
        · have hd1 : decide (a1 ≤ (K : Int)) = false := decide_eq_false hK1
          obtain rfl : r1 = false := by rw [← HRR.out, hd1, hd40]; rfl
          go_quiet (fail)
          go_wp2
          go_ret
          exact HP.out false _ (below_drewN (Below.refl _ _) _)

/-- The function of CutStraight. -/
def strE (s : Sh) (Z : SP) (q N : Nat) : EachF (Int × Option (List Cd) × Bool) where
  k := 52
  caps := #[.pointer (some ⟨Z.ga, 0, none⟩), .pointer (some ⟨Z.gq, 0, none⟩), .pointer (some ⟨Z.gn, 0, none⟩), .pointer (some ⟨Z.gc, 0, none⟩), .pointer (some ⟨Z.gt, 0, none⟩), .pointer (some ⟨Z.gs, 0, none⟩)]
  f := strN s (q % N)
  I st B W := StrI s Z q N st.1 st.2.1 st.2.2 B W
  enter := fun args W => by simp [callFunc, Tryd.f52]
  lt := fun h => h.lt
  keep := fun h hc hq => h.to hc hq
theorem str_eachS (s : Sh) (hs : s.Ok) (Z : SP) (q N : Nat) (hq : q < 65536) (hN : 1 ≤ N) (hN2 : N < 1000000) : EachS s (strE s Z q N) := by
  intro st B W A l c hI hA hf hn
  refine (str_each s hs Z q N hq hN hN2 st.1 st.2.1 st.2.2 B W A l c hI hA hf hn).mono fun e W' h => ?_
  obtain ⟨h1, B', h2, h3⟩ := h
  exact ⟨h1, B', h2, h3⟩

theorem str_run (s : Sh) (K N : Nat) (y : List Cd) : ∀ (L : List (List Cd)) (i : Nat) (ch : Option (List Cd)) (st : Bool), i + L.length = N → N < 1000000 → K < N → (K < i → ch = some y) → (i ≤ K → L[K - i]? = some y) →
    (runF (strN s K) ((i : Int), ch, st) L).1.2.1 = some y ∧ (N ≤ 40 → (runF (strN s K) ((i : Int), ch, st) L).1.2.2 = (st || L.any fun l => decide (0 ≤ depS s 41 l)))
  | [], i, ch, st, h1, _, h3, h4, _ => by
    rw [List.length_nil] at h1
    exact ⟨h4 (by omega), fun _ => by simp [runF]⟩
  | x :: L, i, ch, st, h1, h2, h3, h4, h5 => by
    rw [List.length_cons] at h1
    have e : strN s K ((i : Int), ch, st) x = ((((i + 1 : Nat) : Int), (if i = K then some x else ch), st || (decide (i < 40) && decide (0 ≤ depS s 41 x))), decide (i + 1 < 40) || decide (i + 1 ≤ K)) := by
      unfold strN
      dsimp only
      have hw : wrap64 ((i : Int) + 1) = ((i + 1 : Nat) : Int) := by unfold wrap64; omega
      rw [hw]
      have e1 : ((i : Int) = (K : Int)) ↔ i = K := by omega
      have e2 : ((i : Int) < 40) ↔ i < 40 := by omega
      have e3 : (((i + 1 : Nat) : Int) < 40) ↔ i + 1 < 40 := by omega
      have e4 : (((i + 1 : Nat) : Int) ≤ (K : Int)) ↔ i + 1 ≤ K := by omega
      simp only [e1, e2, e3, e4]
    have hch : (K < i + 1 → (if i = K then some x else ch) = some y) := fun hk => by
      by_cases hik : i = K
      · rw [if_pos hik]
        have h := h5 (by omega)
        rw [hik, Nat.sub_self] at h
        simpa using h
      · rw [if_neg hik]
        exact h4 (by omega)
    rw [runF, e]
    dsimp only
    by_cases hc : i + 1 < 40 ∨ i + 1 ≤ K
    · have hct : (decide (i + 1 < 40) || decide (i + 1 ≤ K)) = true := by
        rw [Bool.or_eq_true, decide_eq_true_eq, decide_eq_true_eq]; exact hc
      rw [if_pos hct]
      have ih := str_run s K N y L (i + 1) (if i = K then some x else ch) (st || (decide (i < 40) && decide (0 ≤ depS s 41 x))) (by omega) h2 h3 hch (fun hk => by
        have h := h5 (by omega)
        rw [show K - i = (K - (i + 1)) + 1 by omega] at h
        simpa using h)
      refine ⟨ih.1, fun hN => ?_⟩
      rw [ih.2 hN, decide_eq_true (show i < 40 by omega), Bool.true_and, List.any_cons, Bool.or_assoc]
    · have hct : (decide (i + 1 < 40) || decide (i + 1 ≤ K)) = false := by
        rw [Bool.or_eq_false_iff, decide_eq_false_iff_not, decide_eq_false_iff_not]
        exact ⟨fun e => hc (.inl e), fun e => hc (.inr e)⟩
      rw [hct, if_neg (by decide)]
      dsimp only
      refine ⟨hch (by omega), fun hN => ?_⟩
      have hL : L = [] := List.eq_nil_of_length_eq_zero (by omega)
      rw [hL, decide_eq_true (show i < 40 by omega), Bool.true_and, List.any_cons, List.any_nil, Bool.or_false]

theorem gap_pre (sp : List (Int × Int)) (j : Nat) : ∀ m : Nat, ∃ r, gapN 0 (j + m) sp = gapN 0 j sp ++ r
  | 0 => ⟨[], by simp⟩
  | m + 1 => by
    obtain ⟨r, hr⟩ := gap_pre sp j m
    exact ⟨_, by rw [show j + (m + 1) = (j + m) + 1 by omega, gapN_free, hr, List.append_assoc]⟩
/-- Where a cut stands in the list of all cuts. -/
theorem gap_at {sp : List (Int × Int)} {j n : Nat} (h : j < n) (hf : free' sp (1 + (j : Int)) = true) : (gapN 0 n sp)[(gapN 0 j sp).length]? = some (1 + (j : Int)) ∧ (gapN 0 (j + 1) sp).length = (gapN 0 j sp).length + 1 := by
  have e := gapN_free 0 j sp
  rw [show (0 : Int) + 1 + (j : Nat) = 1 + (j : Int) by omega, if_pos hf] at e
  obtain ⟨r, hr⟩ := gap_pre sp (j + 1) (n - (j + 1))
  rw [show j + 1 + (n - (j + 1)) = n by omega, e, List.append_assoc] at hr
  refine ⟨?_, by rw [e, List.length_append]; rfl⟩
  rw [hr, List.getElem?_append_right (Nat.le_refl _), Nat.sub_self]
  rfl
theorem gap_no {sp : List (Int × Int)} {j : Nat} (hf : free' sp (1 + (j : Int)) = false) : (gapN 0 (j + 1) sp).length = (gapN 0 j sp).length := by
  have e := gapN_free 0 j sp
  rw [show (0 : Int) + 1 + (j : Nat) = 1 + (j : Int) by omega, if_neg (by rw [hf]; decide), List.append_nil] at e
  rw [e]
/-- How many cuts there are ahead of a line. -/
def cutN (s : Sh) (ac : Bool) (l : List Cd) (j : Nat) : Nat := (gapN 0 (min j ((if ac = true then s.r else s.c) - 1)) (spnB s ac l)).length
theorem cutN_yes {s : Sh} {ac : Bool} {l : List Cd} {j : Nat} (h : j + 1 < if ac = true then s.r else s.c) (ht : thrA s ac (1 + (j : Int)) l = true) : (cutB s ac l)[cutN s ac l j]? = some (1 + (j : Int)) ∧ cutN s ac l (j + 1) = cutN s ac l j + 1 := by
  rw [thr_free] at ht
  unfold cutB cutN
  generalize (if ac = true then s.r else s.c) = n at *
  obtain ⟨h1, h2⟩ := gap_at (sp := spnB s ac l) (j := j) (n := n - 1) (by omega) ht
  rw [show min j (n - 1) = j by omega, show min (j + 1) (n - 1) = j + 1 by omega]
  exact ⟨h1, h2⟩
theorem cutN_no {s : Sh} {ac : Bool} {l : List Cd} {j : Nat} (h : ¬ ((j + 1 < if ac = true then s.r else s.c) ∧ thrA s ac (1 + (j : Int)) l = true)) : cutN s ac l (j + 1) = cutN s ac l j := by
  unfold cutN
  rw [thr_free] at h
  generalize (if ac = true then s.r else s.c) = n at *
  by_cases h1 : j + 1 < n
  · have h2 : free' (spnB s ac l) (1 + (j : Int)) = false := by
      rcases hf : free' (spnB s ac l) (1 + (j : Int)) with _ | _
      · rfl
      · exact absurd ⟨h1, hf⟩ h
    rw [show min j (n - 1) = j by omega, show min (j + 1) (n - 1) = j + 1 by omega]
    exact gap_no h2
  · rw [show min j (n - 1) = n - 1 by omega, show min (j + 1) (n - 1) = n - 1 by omega]
theorem cutN_all {s : Sh} (hs : s.Ok) (ac : Bool) (l : List Cd) : cutN s ac l 5 = (cutB s ac l).length := by
  have h1 := hs.r6
  have h2 := hs.c6
  unfold cutN cutB
  congr 2
  split <;> omega
theorem cutN_zero (s : Sh) (ac : Bool) (l : List Cd) : cutN s ac l 0 = 0 := by
  unfold cutN
  rw [Nat.zero_min]
  rfl
theorem cutN_le (s : Sh) (ac : Bool) (l : List Cd) (j : Nat) : cutN s ac l j ≤ j := by
  unfold cutN
  have := gapN_len 0 (min j ((if ac = true then s.r else s.c) - 1)) (spnB s ac l)
  omega

theorem count_at {s : Sh} (hs : s.Ok) (w : World) (ht : TabW w) : Calls Tryd.prog 23 #[.agg #[.int .i64 s.r, .int .i64 s.c, .int .i64 s.l, .int .i64 s.w]] w fun e w' => e = .returned (.tuple #[.int .i64 (cntC s 0 : Nat), .int .i64 0]) ∧ Below w.heap.size w w' := by
  have h := count_any s.r s.c s.l s.w w ht
  unfold cntS at h
  rw [if_pos (chkS_ok hs), chkS_ok hs] at h
  exact h

theorem rou_ok {s : Sh} (hs : s.Ok) {l : List Cd} (h : verS s l = 0) : rouF s.r s.c s.l s.w l = (if (divS s l).st = true then (((divS s l).n : Nat) : Int) else 0) ∧ rouE s.r s.c s.l s.w l = if (divS s l).st = true then 0 else 12 := by
  have h2 := (strF_ok hs h).2
  constructor
  · unfold rouF
    rw [if_pos h2]
    rfl
  · unfold rouE
    rw [if_pos h2]
    rfl
theorem shl_val {n : Nat} (h : n ≤ 13) : IntKind.i64.wrap (2 ^ min n 64) = ((2 ^ n : Nat) : Int) := by
  have h1 : 2 ^ n ≤ 2 ^ 13 := Nat.pow_le_pow_right (by decide) h
  have h2 : 2 ^ 13 = 8192 := rfl
  rw [show min n 64 = n by omega, show ((2 : Int) ^ n) = ((2 ^ n : Nat) : Int) by rw [Int.natCast_pow]; rfl]
  generalize 2 ^ n = m at *
  exact IntWalk.i64_in _ (by omega)
theorem fil_ne {s : Sh} (hs : s.Ok) {l : List Cd} (h : l ∈ filC s 0 []) : l ≠ [] := by
  rintro rfl
  have h1 := filC_ver hs h
  unfold verS at h1
  rw [verM] at h1
  have h2 : (0 : Nat) ≠ whl s := by
    have h3 := (area_le hs).1
    have h4 : 2 ^ 1 ≤ 2 ^ (s.r * s.c) := Nat.pow_le_pow_right (by decide) h3
    unfold whl
    omega
  rw [if_neg h2] at h1
  cases h1
theorem div_len {s : Sh} (hs : s.Ok) {l : List Cd} (hl : l.length ≤ 36) (h : verS s l = 0) (hst : (divS s l).st = true) : l.length ≤ 2 ^ (divS s l).n := by
  have h1 := dep_all hs h (n := 41) (by omega)
  rw [val_n hst] at h1
  have h2 := dep_len s 41 l (by omega) (by rw [h1]; omega)
  rw [h1] at h2
  exact h2
theorem no_cuts {s : Sh} (hs : s.Ok) {l : List Cd} (hf : ∀ x ∈ l, fitP s x) (h1 : (cutB s true l).length = 0) (h2 : (cutB s false l).length = 0) (hst : (divS s l).st = true) : l.length = 1 := by
  have h3 : solidP s l = true := by rw [solid_cuts hs, h1, h2]; rfl
  have h4 := divS_solid hs hf h3
  rw [hst] at h4
  exact of_decide_eq_true h4.symm
end Go.Proofs.YtlollcabnfncpaaDoor
