/-
  Keys that are blocks; what a memo of divisions is in memory.
-/
import Derived.Test.YtlollcabnfncpaaDoorCuts
import Derived.Test.YtlollcabnfncpaaDoorMemF
import Derived.DeepKeys4
import Derived.ChangeKeys
namespace Go.Proofs.YtlollcabnfncpaaDoor
open Go.RowKit Go.Maps

theorem laidOutT : laidOutB Tryd.prog = true := by kernel_rfl
theorem row117 : (117 : TypeId) < Tryd.prog.types.size := of_decide_eq_true (by kernel_rfl)
theorem law117 : Keyed Tryd.prog 117 := Keyed.of_law (deep_law_laid laidOutT (m := 3) (by omega) row117 (by kernel_rfl) (by rw [Tryd.underlying117]))
theorem cells117 : Tryd.prog.cellsOf 117 = 4 := by kernel_rfl
theorem cells115 : Tryd.prog.cellsOf 115 = 2 := by kernel_rfl
theorem cells3 : Tryd.prog.cellsOf 3 = 1 := by kernel_rfl
theorem size3 : ∃ n, Tryd.prog.types.size = n + 3 := ⟨Tryd.prog.types.size - 3, by have h : (117 : Nat) < Tryd.prog.types.size := row117; omega⟩
theorem keyT117 : Tryd.prog.keyType 117 = true := by kernel_rfl

/-- What a block reads as, as a key. -/
def keyB (p : Bl) : Lit := .string (keyBytes [.int .i64 p.a, .int .i64 p.b, .int .i64 p.c, .int .i64 p.d])

theorem wf_small {a : Int} (h : 0 ≤ a ∧ a ≤ 6) : (Lit.int .i64 a).wf = true := by
  obtain ⟨k, rfl⟩ : ∃ k : Nat, a = k := ⟨a.toNat, by omega⟩
  exact wf_i64 (by omega)

theorem lits3 (n : Nat) {a : Int} (h : (Lit.int .i64 a).wf = true) : Tryd.prog.keyLits (n + 1) 3 [.int .i64 a] = some [.int .i64 a] := by
  unfold Program.keyLits
  rw [Tryd.underlying3]
  simp only [h, and_self, if_true]
theorem lits115 (n : Nat) {a b : Int} (h1 : (Lit.int .i64 a).wf = true) (h2 : (Lit.int .i64 b).wf = true) : Tryd.prog.keyLits (n + 2) 115 [.int .i64 a, .int .i64 b] = some [.int .i64 a, .int .i64 b] := by
  unfold Program.keyLits
  rw [Tryd.underlying115]
  simp only
  rw [if_pos ⟨by rw [cells115]; rfl, by kernel_rfl⟩]
  simp [cells3, lits3 n h1, lits3 n h2]
theorem lits117 (n : Nat) {a b c d : Int} (h1 : (Lit.int .i64 a).wf = true) (h2 : (Lit.int .i64 b).wf = true) (h3 : (Lit.int .i64 c).wf = true) (h4 : (Lit.int .i64 d).wf = true) :
    Tryd.prog.keyLits (n + 3) 117 [.int .i64 a, .int .i64 b, .int .i64 c, .int .i64 d] = some [.int .i64 a, .int .i64 b, .int .i64 c, .int .i64 d] := by
  unfold Program.keyLits
  rw [Tryd.underlying117]
  simp only
  rw [if_pos ⟨by rw [cells117]; rfl, by kernel_rfl⟩]
  simp [cells115, lits115 n h1 h2, lits115 n h3 h4]

theorem key117 (p : Bl) (h : p.Ok) : keyOf Tryd.prog 117 (.agg #[.int .i64 p.a, .int .i64 p.b, .int .i64 p.c, .int .i64 p.d]) = some (keyB p) := by
  obtain ⟨h1, h2, h3, h4⟩ := h
  have hf : (Value.agg #[.int .i64 p.a, .int .i64 p.b, .int .i64 p.c, .int .i64 p.d]).formed Tryd.prog 117 = true := by simp [Value.formed, Tryd.underlying117, cells117]
  obtain ⟨n, hn⟩ := size3
  unfold keyOf
  rw [Tryd.underlying117]
  simp only [keyT117, hf, Bool.and_self, if_true]
  rw [hn]
  show (Tryd.prog.keyLits (n + 1 + 3) 117 [.int .i64 p.a, .int .i64 p.b, .int .i64 p.c, .int .i64 p.d]).map _ = _
  rw [lits117 (n + 1) (wf_small h1) (wf_small h2) (wf_small h3) (wf_small h4)]
  rfl

theorem keyB_inj {p q : Bl} (hp : p.Ok) (hq : q.Ok) (h : keyB p = keyB q) : p = q := by
  obtain ⟨p1, p2, p3, p4⟩ := hp
  obtain ⟨q1, q2, q3, q4⟩ := hq
  have h' := keyBytes_inj (l := [.int .i64 p.a, .int .i64 p.b, .int .i64 p.c, .int .i64 p.d]) (l' := [.int .i64 q.a, .int .i64 q.b, .int .i64 q.c, .int .i64 q.d]) ⟨rfl, rfl, rfl, rfl, trivial⟩
    (fun a ha => by
      simp only [List.mem_cons, List.not_mem_nil, or_false] at ha
      rcases ha with rfl | rfl | rfl | rfl
      · exact wf_small p1
      · exact wf_small p2
      · exact wf_small p3
      · exact wf_small p4)
    (fun a ha => by
      simp only [List.mem_cons, List.not_mem_nil, or_false] at ha
      rcases ha with rfl | rfl | rfl | rfl
      · exact wf_small q1
      · exact wf_small q2
      · exact wf_small q3
      · exact wf_small q4)
    (by simpa [keyB] using h)
  simp only [List.cons.injEq, Lit.int.injEq, true_and, and_true] at h'
  obtain ⟨e1, e2, e3, e4⟩ := h'
  obtain ⟨a, b, c, d⟩ := p
  obtain ⟨a', b', c', d'⟩ := q
  dsimp only at e1 e2 e3 e4
  rw [e1, e2, e3, e4]

def dvV (a : Dv) : Value := .agg #[.bool a.st, .int .i64 a.n]
def dvD (a : Dv) : DataW Unit := .agg [.lit (.bool a.st), .lit (.int .i64 a.n)]
/-- How an element of the map reads. -/
def dvR : Value → Option (DataW Unit × List MemPlace)
  | .agg a => match a.toList with
    | [.bool f, .int .i64 x] => if 0 ≤ x then some (dvD ⟨f, x.toNat⟩, []) else none
    | _ => none
  | _ => none
theorem dvR_mk (a : Dv) : dvR (dvV a) = some (dvD a, []) := by
  simp [dvR, dvV]
theorem dvR_inv {v : Value} {d : DataW Unit} {ps : List MemPlace} (h : dvR v = some (d, ps)) : ∃ a, v = dvV a ∧ d = dvD a := by
  unfold dvR at h
  split at h
  · rename_i a
    split at h
    · rename_i f x hl
      split at h
      · rename_i hx
        have h := Option.some.inj h
        refine ⟨⟨f, x.toNat⟩, ?_, (congrArg Prod.fst h).symm⟩
        unfold dvV
        congr 1
        exact Array.ext' (by rw [hl]; simp; omega)
      · cases h
    · cases h
  · cases h
theorem dvD_inj {a b : Dv} (h : dvD a = dvD b) : a = b := by
  obtain ⟨f, x⟩ := a
  obtain ⟨f', x'⟩ := b
  simp only [dvD, DataW.agg.injEq, List.cons.injEq, DataW.lit.injEq, Lit.int.injEq, Lit.bool.injEq, true_and, and_true] at h
  obtain ⟨h1, h2⟩ := h
  rw [h1, show x = x' by omega]

theorem zero123 (w : World) : (zeroValue 123).run Tryd.prog w = .ok (dvV ⟨false, 0⟩) w := by kernel_rfl

/-- The memo of the divisions: its struct in block p, its map in block b, the slice of blocks that its rule captured in block g. -/
structure MemD (all : List Bl) (B p b g : Nat) (w : World) (m : Nat) (D : DataW Unit) : Prop where
  fn : w.cell? ⟨p, 0, none⟩ = some (.func (.func 116) #[] #[.pointer (some ⟨g, 0, none⟩)])
  mp : w.cell? ⟨p, 1, none⟩ = some (.map (some b))
  sl : ∃ A c, w.cell? ⟨g, 0, none⟩ = some (.slice A all.length c) ∧ BlksAt w B A all
  own : w.ownsMap Tryd.prog 117 dvR b m D
  good : ∀ q : Bl, q.Ok → Maps.has D (keyB q) = true → D.atKey (keyB q) (dvD ⟨false, 0⟩) = dvD (divC all q)
  old : p < B ∧ b < B ∧ g < B
  bs : B ≤ w.heap.size

theorem BlksAt.chg {w w' : World} {P : Nat → Prop} {B : Nat} {A : Option Addr} {l : List Bl} (h : BlksAt w B A l) (hB : B ≤ w.heap.size) (hc : Chg P w w') (hn : ∀ i o v, i < B → w.cell? ⟨i, o, none⟩ = some v → ¬ P i) : BlksAt w' B A l := by
  intro k x hx
  obtain ⟨b, off, h1, h2, h3, h4, h5, h6⟩ := h k x hx
  have c := fun {o v} (e : w.cell? ⟨b, o, none⟩ = some v) => (hc.cell (p := ⟨b, o, none⟩) (Nat.lt_of_lt_of_le h2 hB) (hn b o v h2 e)).trans e
  exact ⟨b, off, h1, h2, c h3, c h4, c h5, c h6⟩

theorem MemD.chg {all : List Bl} {B p b g m m' : Nat} {w w' : World} {D D' : DataW Unit} (h : MemD all B p b g w m D) (hc : Chg (fun i => i = b) w w') (ho : w'.ownsMap Tryd.prog 117 dvR b m' D')
    (hg : ∀ q : Bl, q.Ok → Maps.has D' (keyB q) = true → D'.atKey (keyB q) (dvD ⟨false, 0⟩) = dvD (divC all q)) : MemD all B p b g w' m' D' := by
  have c := fun {i o : Nat} {v : Value} (e : w.cell? ⟨i, o, none⟩ = some v) => (hc.cell (p := ⟨i, o, none⟩) (lt_of_cell e) (ne_of_map h.own e)).trans e
  obtain ⟨A, cap, hs, hA⟩ := h.sl
  exact ⟨c h.fn, c h.mp, ⟨A, cap, c hs, hA.chg h.bs hc fun i o v _ e => ne_of_map h.own e⟩, ho, hg, h.old, Nat.le_trans h.bs hc.size⟩
theorem MemD.below {all : List Bl} {B p b g m : Nat} {w w' : World} {D : DataW Unit} (h : MemD all B p b g w m D) (hb : Below w.heap.size w w') : MemD all B p b g w' m D :=
  h.chg (Chg.of_below hb) (own_map_below h.own hb) h.good
/-- Blocks above B may change. -/
theorem MemD.keep {all : List Bl} {B p b g m : Nat} {w w' : World} {D : DataW Unit} {P : Nat → Prop} (h : MemD all B p b g w m D) (hc : Chg P w w') (hP : ∀ i, P i → B ≤ i) : MemD all B p b g w' m D := by
  have c := fun {i o : Nat} {v : Value} (e : w.cell? ⟨i, o, none⟩ = some v) (hi : i < B) => (hc.cell (p := ⟨i, o, none⟩) (lt_of_cell e) (fun hp => by have := hP i hp; omega)).trans e
  obtain ⟨A, cap, hs, hA⟩ := h.sl
  refine ⟨c h.fn h.old.1, c h.mp h.old.1, ⟨A, cap, c hs h.old.2.2, hA.chg h.bs hc fun i o v hi _ hp => by have := hP i hp; omega⟩, ?_, h.good, h.old, Nat.le_trans h.bs hc.size⟩
  obtain ⟨es, clock, h1, h2⟩ := h.own
  exact ⟨es, clock, hc.heap h1 (fun hp => by have := hP b hp; have := h.old.2.1; omega), h2⟩
theorem MemD.put {all : List Bl} {B p b g m : Nat} {k : Bl} {w w' : World} {D : DataW Unit} (hk : k.Ok) (h : MemD all B p b g w m D) (ho : w'.ownsMap Tryd.prog 117 dvR b (m + 1) (D.put (keyB k) (dvD (divC all k))))
    (hg : w.grownBy w' (some b)) : MemD all B p b g w' (m + 1) (D.put (keyB k) (dvD (divC all k))) := by
  refine h.chg ((Chg.of_grown hg).mono fun i _ e => Option.some.inj e) ho (fun q hq hk' => ?_)
  have hi := h.own.isMap
  by_cases e : q = k
  · subst e
    exact atKey_put_same hi (show WideAt.IsKeyLit (keyB q) from trivial) _ _
  · have hne : keyB q ≠ keyB k := fun h => e (keyB_inj hq hk h)
    rw [has_put_other hne] at hk'
    rw [atKey_put_other hne]
    exact h.good q hq hk'

/-- A division is handed back; the memo may know more. -/
def RetMemD (all : List Bl) (B p b g m N : Nat) (w : World) (v : Dv) (e : Ending) (w' : World) : Prop :=
  e = .returned (.agg #[.bool v.st, .int .i64 (v.n : Nat)]) ∧ ∃ m' D', MemD all B p b g w' m' D' ∧ m' + 1 ≤ m + N ∧ Chg (fun i => i = b) w w'

theorem wpList_lookup_dv {ops : Array Oper} {rest : List Oper} {o : Oper} {a : Act} {Q : Exit → Act → World → Prop} (w : World) (hg : o.guard = none) (m x : Operand) (hop : o.op = Op.lookup 190 m x true) (b n : Nat) (D : DataW Unit)
    (hm : a.eval m = .map (some b)) (hown : w.ownsMap Tryd.prog 117 dvR b n D) (key : Value) (kl : Lit) (hx : a.eval x = key) (hkey : keyOf Tryd.prog 117 key = some kl)
    (hK : ∀ c : Dv, D.atKey kl (dvD ⟨false, 0⟩) = dvD c → wpList Tryd.prog ops Q rest (a.put o.dst (.tuple #[.agg #[.bool c.st, .int .i64 (c.n : Nat)], .bool (Maps.has D kl)])) w) :
    wpList Tryd.prog ops Q (o :: rest) a w :=
  wpList_lookup_own_ok w hg m x 190 hop 117 123 law117 Tryd.underlying190 dvR (zero123 w) (dvD ⟨false, 0⟩) [] (dvR_mk _) b n D hm hown key kl hx hkey fun v ps hv => by
    obtain ⟨c, rfl, hc⟩ := dvR_inv hv
    exact hK c hc
end Go.Proofs.YtlollcabnfncpaaDoor
