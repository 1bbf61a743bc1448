/-
  What a memo of ends is in memory; ends, taken together.
-/
import Derived.Test.YtlollcabnfncpaaDoorSrcA
import Derived.Test.YtlollcabnfncpaaDoorMathD
import Derived.StillTailTactics
import Derived.Laws.EntriesVeiled
namespace Go.Proofs.YtlollcabnfncpaaDoor
open Go.RowKit Go.Maps

def enV (a : En) : Value := .agg #[.int .i64 a.lo, .int .i64 a.hi, .bool a.fd]
def enD (a : En) : DataW Unit := .agg [.lit (.int .i64 a.lo), .lit (.int .i64 a.hi), .lit (.bool a.fd)]
/-- How an element of the map reads. -/
def enR : Value → Option (DataW Unit × List MemPlace)
  | .agg a => match a.toList with
    | [.int .i64 x, .int .i64 y, .bool f] => some (enD ⟨x, y, f⟩, [])
    | _ => none
  | _ => none
theorem enR_mk (a : En) : enR (enV a) = some (enD a, []) := rfl
theorem enR_inv {v : Value} {d : DataW Unit} {ps : List MemPlace} (h : enR v = some (d, ps)) : ∃ a, v = enV a ∧ d = enD a := by
  unfold enR at h
  split at h
  · rename_i a
    split at h
    · rename_i x y f hl
      have h := Option.some.inj h
      refine ⟨⟨x, y, f⟩, ?_, (congrArg Prod.fst h).symm⟩
      unfold enV
      congr 1
      exact Array.ext' (by rw [hl])
    · cases h
  · cases h
theorem enD_inj {a b : En} (h : enD a = enD b) : a = b := by
  obtain ⟨x, y, f⟩ := a
  obtain ⟨x', y', f'⟩ := b
  simp only [enD, DataW.agg.injEq, List.cons.injEq, DataW.lit.injEq, Lit.int.injEq, Lit.bool.injEq, true_and, and_true] at h
  obtain ⟨h1, h2, h3⟩ := h
  rw [h1, h2, h3]

theorem zero107 (w : World) : (zeroValue 107).run Tryd.prog w = .ok (enV ⟨0, 0, false⟩) w := by kernel_rfl

theorem wpList_lookup_en {ops : Array Oper} {rest : List Oper} {o : Oper} {a : Act} {Q : Exit → Act → World → Prop} (w : World) (hg : o.guard = none) (m x : Operand) (hop : o.op = Op.lookup 162 m x true) (b n : Nat) (D : DataW Unit)
    (hm : a.eval m = .map (some b)) (hown : w.ownsMap Tryd.prog 105 enR b n D) (key : Value) (kl : Lit) (hx : a.eval x = key) (hkey : keyOf Tryd.prog 105 key = some kl)
    (hK : ∀ c : En, D.atKey kl (enD ⟨0, 0, false⟩) = enD c → wpList Tryd.prog ops Q rest (a.put o.dst (.tuple #[.agg #[.int .i64 c.lo, .int .i64 c.hi, .bool c.fd], .bool (Maps.has D kl)])) w) :
    wpList Tryd.prog ops Q (o :: rest) a w :=
  wpList_lookup_own_ok w hg m x 162 hop 105 107 law105 Tryd.underlying162 enR (zero107 w) (enD ⟨0, 0, false⟩) [] (enR_mk _) b n D hm hown key kl hx hkey fun v ps hv => by
    obtain ⟨c, rfl, hc⟩ := enR_inv hv
    exact hK c hc

/-- The memo of the ends: its struct in block p, its map in block b, the sheet that its rule captured in block g. -/
structure MemE (s : Sh) (p b g : Nat) (w : World) (m : Nat) (D : DataW Unit) : Prop where
  fn : w.cell? ⟨p, 0, none⟩ = some (.func (.func 109) #[] #[.pointer (some ⟨g, 0, none⟩)])
  mp : w.cell? ⟨p, 1, none⟩ = some (.map (some b))
  s0 : w.cell? ⟨g, 0, none⟩ = some (.int .i64 s.r)
  s1 : w.cell? ⟨g, 1, none⟩ = some (.int .i64 s.c)
  s2 : w.cell? ⟨g, 2, none⟩ = some (.int .i64 s.l)
  s3 : w.cell? ⟨g, 3, none⟩ = some (.int .i64 s.w)
  own : w.ownsMap Tryd.prog 105 enR b m D
  good : ∀ k : Nat, Maps.has D (.int .u64 k) = true → D.atKey (.int .u64 k) (enD ⟨0, 0, false⟩) = enD (enC s k)
  tab : TabW w

theorem MemE.keep {s : Sh} {p b g m : Nat} {w w' : World} {D : DataW Unit} {P : Nat → Prop} (h : MemE s p b g w m D) (hc : Chg P w w') (hp : ¬ P p) (hg : ¬ P g) (hb : ¬ P b) (h0 : ¬ P 0) : MemE s p b g w' m D := by
  have c := fun {i o : Nat} {v : Value} (e : w.cell? ⟨i, o, none⟩ = some v) (hi : ¬ P i) => (hc.cell (p := ⟨i, o, none⟩) (lt_of_cell e) hi).trans e
  refine ⟨c h.fn hp, c h.mp hp, c h.s0 hg, c h.s1 hg, c h.s2 hg, c h.s3 hg, ?_, h.good, ⟨Nat.lt_of_lt_of_le h.tab.1 hc.size, fun j hj => c (h.tab.2 j hj) h0⟩⟩
  obtain ⟨es, clock, h1, h2⟩ := h.own
  exact ⟨es, clock, hc.heap h1 hb, h2⟩
theorem MemE.chg {s : Sh} {p b g m m' : Nat} {w w' : World} {D D' : DataW Unit} (h : MemE s p b g w m D) (hc : Chg (fun i => i = b) w w') (ho : w'.ownsMap Tryd.prog 105 enR b m' D')
    (hg : ∀ k : Nat, Maps.has D' (.int .u64 k) = true → D'.atKey (.int .u64 k) (enD ⟨0, 0, false⟩) = enD (enC s k)) : MemE s p b g w' m' D' := by
  have c := fun {i o : Nat} {v : Value} (e : w.cell? ⟨i, o, none⟩ = some v) => (hc.cell (p := ⟨i, o, none⟩) (lt_of_cell e) (ne_of_map h.own e)).trans e
  exact ⟨c h.fn, c h.mp, c h.s0, c h.s1, c h.s2, c h.s3, ho, hg, ⟨Nat.lt_of_lt_of_le h.tab.1 hc.size, fun j hj => c (h.tab.2 j hj)⟩⟩
theorem MemE.below {s : Sh} {p b g m : Nat} {w w' : World} {D : DataW Unit} (h : MemE s p b g w m D) (hb : Below w.heap.size w w') : MemE s p b g w' m D :=
  h.chg (Chg.of_below hb) (own_map_below h.own hb) h.good
theorem MemE.put {s : Sh} {p b g m k : Nat} {w w' : World} {D : DataW Unit} (h : MemE s p b g w m D) (ho : w'.ownsMap Tryd.prog 105 enR b (m + 1) (D.put (.int .u64 k) (enD (enC s k))))
    (hg : w.grownBy w' (some b)) : MemE s p b g w' (m + 1) (D.put (.int .u64 k) (enD (enC s k))) := by
  refine h.chg ((Chg.of_grown hg).mono fun i _ e => Option.some.inj e) ho (fun k' hk' => ?_)
  have hi := h.own.isMap
  by_cases e : k' = k
  · subst e
    exact atKey_put_same hi (show WideAt.IsKeyLit (Lit.int .u64 (k' : Int)) from trivial) _ _
  · have hne : (Lit.int .u64 (k' : Int)) ≠ .int .u64 (k : Int) := by simp; omega
    rw [has_put_other hne] at hk'
    rw [atKey_put_other hne]
    exact h.good k' hk'

/-- Ends are handed back; the memo may know more. -/
def RetMemE (s : Sh) (p b g m N : Nat) (w : World) (v : En) (e : Ending) (w' : World) : Prop :=
  e = .returned (.agg #[.int .i64 v.lo, .int .i64 v.hi, .bool v.fd]) ∧ ∃ m' D', MemE s p b g w' m' D' ∧ m' + 1 ≤ m + N ∧ Chg (fun i => i = b) w w'

def OfSpecE (s : Sh) (p b g n : Nat) : Prop := ∀ (cov : Nat) (w : World) (m : Nat) (D : DataW Unit), lft s cov < n → InS s cov → MemE s p b g w m D → m + 2 ^ n ≤ 1152921504606846976 →
  Calls Tryd.prog 71 #[.pointer (some ⟨p, 0, none⟩), .int .u64 cov] w (RetMemE s p b g m (2 ^ n) w (enC s cov))

def RuleSpecE (s : Sh) (p b g n : Nat) : Prop := ∀ (cov : Nat) (w : World) (m : Nat) (D : DataW Unit), lft s cov < n + 1 → InS s cov → MemE s p b g w m D → m + 2 * 2 ^ n ≤ 1152921504606846976 →
  Calls Tryd.prog 109 #[.pointer (some ⟨p, 0, none⟩), .int .u64 cov, .pointer (some ⟨g, 0, none⟩)] w (RetMemE s p b g m (2 * 2 ^ n - 1) w (enC s cov))

theorem more_any (a : En) (w : World) (h : a.In 37) :
    Calls Tryd.prog 110 #[.agg #[.int .i64 a.lo, .int .i64 a.hi, .bool a.fd]] w fun e w' => e = .returned (.agg #[.int .i64 a.more.lo, .int .i64 a.more.hi, .bool a.more.fd]) ∧ Below w.heap.size w w' := by
  obtain ⟨⟨h1, h2⟩, h3, h4⟩ := h
  go_enter Tryd.func110, Tryd.ntmps110
  go_wp2
  refine bodyPost_ret (v := .agg #[.int .i64 (a.lo + 1), .int .i64 (a.hi + 1), .bool a.fd]) (by simp [results, Tryd.results110, go_sem]) rfl ⟨rfl, ?_⟩
  exact ((Below.refl _ _).alloc (Nat.le_refl _) _).alloc (by simp) _

theorem or_any (a b : En) (w : World) :
    Calls Tryd.prog 111 #[.agg #[.int .i64 a.lo, .int .i64 a.hi, .bool a.fd], .agg #[.int .i64 b.lo, .int .i64 b.hi, .bool b.fd]] w fun e w' => e = .returned (.agg #[.int .i64 (a.or b).lo, .int .i64 (a.or b).hi, .bool (a.or b).fd]) ∧ Below w.heap.size w w' := by
  obtain ⟨x, y, f⟩ := a
  obtain ⟨x', y', f'⟩ := b
  rcases f with _ | _
  · go_enter Tryd.func111, Tryd.ntmps111
    go_wp2
    refine bodyPost_ret (v := .agg #[.int .i64 x', .int .i64 y', .bool f']) (by simp [results, Tryd.results111, go_sem]) rfl ⟨by simp [En.or], ?_⟩
    exact (((Below.refl _ _).alloc (Nat.le_refl _) _).alloc (by simp) _).alloc (by simp; omega) _
  · rcases f' with _ | _
    · go_enter Tryd.func111, Tryd.ntmps111
      go_wp2
      refine bodyPost_ret (v := .agg #[.int .i64 x, .int .i64 y, .bool true]) (by simp [results, Tryd.results111, go_sem]) rfl ⟨by simp [En.or], ?_⟩
      exact (((Below.refl _ _).alloc (Nat.le_refl _) _).alloc (by simp) _).alloc (by simp; omega) _
    · have e : (En.mk x y true).or ⟨x', y', true⟩ = ⟨min x x', max y y', true⟩ := rfl
      rw [e]
      clear e
      dsimp only
      have hlo : min x x' = x ∧ x ≤ x' ∨ min x x' = x' ∧ x' < x := by omega
      have hhi : max y y' = y ∧ y' ≤ y ∨ max y y' = y' ∧ y < y' := by omega
      generalize hL : min x x' = lo at *
      generalize hH : max y y' = hi at *
      have HL := Lib.hid hL
      have HH := Lib.hid hH
      clear hL hH
      rcases hlo with ⟨rfl, h1⟩ | ⟨rfl, h1⟩ <;> rcases hhi with ⟨rfl, h2⟩ | ⟨rfl, h2⟩
      all_goals
        go_enter Tryd.func111, Tryd.ntmps111
        go_wp2
        all_goals
          first
          | exact absurd h1 (by omega)
          | exact absurd h2 (by omega)
          | (refine bodyPost_ret (v := .agg #[.int .i64 lo, .int .i64 hi, .bool true]) (by simp [results, Tryd.results111, go_sem]) rfl ⟨rfl, ?_⟩
             exact (((Below.refl _ _).alloc (Nat.le_refl _) _).alloc (by simp) _).alloc (by simp; omega) _)
          | trace_state
end Go.Proofs.YtlollcabnfncpaaDoor
