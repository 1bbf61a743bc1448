/-
  Small functions of the statements: sheets, cards, lists that are the same.
-/
import Derived.Test.YtlollcabnfncpaaDoorAga
import Derived.Laws.StructEq
import Derived.Deep.RegionHeld3
import Derived.Deep.QuietTactic
import Derived.BigQuiet
namespace Go.Proofs.YtlollcabnfncpaaDoor
open Go.RowKit

theorem fields99 : (Tryd.prog.fieldsOf 99).toList.length = 3 := by kernel_rfl
theorem eq99 : Tryd.prog.underlying 99 = some (.struct (Tryd.prog.fieldsOf 99)) := by
  unfold Program.fieldsOf
  rw [Tryd.underlying99]
theorem stood99 : Tryd.prog.stoodInHeld 99 = false := by kernel_rfl
theorem neq99 (x y : Cd) (w : World) : (binOp .neq 99 (.agg #[.int .i64 x.row, .int .i64 x.col, .bool x.t]) (.agg #[.int .i64 y.row, .int .i64 y.col, .bool y.t])).run Tryd.prog w = .ok (.bool (decide (x ≠ y))) w := by
  obtain ⟨a, b, t⟩ := x
  obtain ⟨a', b', t'⟩ := y
  have e : (!(a == a' && (b == b' && t == t'))) = decide (Cd.mk a b t ≠ ⟨a', b', t'⟩) := by
    by_cases h1 : a = a'
    · by_cases h2 : b = b'
      · by_cases h3 : t = t'
        · simp [h1, h2, h3]
        · simp [h1, h2, h3]
      · simp [h2]
    · simp [h1]
  rw [run_neq_struct, run_equalIn_agg w 9999 99 _ _ eq99 stood99, ← e]
  unfold Program.fieldsOf
  rw [Tryd.underlying99]
  simp [Op.eqFields, go_sem, Tryd.underlying3, Tryd.underlying4]
  by_cases h1 : a = a' <;> by_cases h2 : b = b' <;> by_cases h3 : t = t' <;> simp [h1, h2, h3]

theorem sheet_any (a b c d : Int) (w : World) :
    Calls Tryd.prog 57 #[.int .i64 a, .int .i64 b, .int .i64 c, .int .i64 d] w fun e w' => e = .returned (.agg #[.int .i64 a, .int .i64 b, .int .i64 c, .int .i64 d]) ∧ Below w.heap.size w w' := by
  go_enter Tryd.func57, Tryd.ntmps57
  go_wp2
  refine bodyPost_ret (v := .agg #[.int .i64 a, .int .i64 b, .int .i64 c, .int .i64 d]) (by simp [results, Tryd.results57, go_sem]) rfl ⟨rfl, ?_⟩
  exact (Below.refl _ _).alloc (Nat.le_refl _) _

/-- Rows of Rcd in memory below block B. -/
def RcdsAt (w : World) (B : Nat) (A : Option Addr) (l : List (Cd)) : Prop :=
  ∀ (k : Nat) (x : Cd), l[k]? = some x → ∃ b off, A = some ⟨b, off, none⟩ ∧ b < B ∧ w.cell? ⟨b, off + k * 3, none⟩ = some (.int .i64 x.row) ∧ w.cell? ⟨b, off + k * 3 + 1, none⟩ = some (.int .i64 x.col) ∧ w.cell? ⟨b, off + k * 3 + 2, none⟩ = some (.bool x.t)
theorem RcdsAt.below {w w' : World} {B B' : Nat} {A : Option Addr} {l : List (Cd)} (h : RcdsAt w B A l) (hb : Below B' w w') (hB : B ≤ B') : RcdsAt w' B A l := by
  intro k x hx
  obtain ⟨b, off, h1, h2, h3, h4, h5⟩ := h k x hx
  exact ⟨b, off, h1, h2, (hb.cell (p := ⟨b, _, none⟩) (by simp; omega)).trans h3, (hb.cell (p := ⟨b, _, none⟩) (by simp; omega)).trans h4, (hb.cell (p := ⟨b, _, none⟩) (by simp; omega)).trans h5⟩
theorem RcdsAt.mono {w : World} {B B' : Nat} {A : Option Addr} {l : List (Cd)} (h : RcdsAt w B A l) (hB : B ≤ B') : RcdsAt w B' A l := by
  intro k x hx
  obtain ⟨b, off, h1, h2, h3⟩ := h k x hx
  exact ⟨b, off, h1, by omega, h3⟩
theorem RcdsAt.nil (w : World) (B : Nat) (A : Option Addr) : RcdsAt w B A [] := by intro k x h; simp at h
theorem RcdsAt.up {w w' : World} {A : Option Addr} {l : List (Cd)} (h : RcdsAt w w.heap.size A l) (hb : Below w.heap.size w w') : RcdsAt w' w'.heap.size A l := (h.below hb (Nat.le_refl _)).mono hb.size
def rcdcells : List (Cd) → List Value
  | [] => []
  | x :: l => .int .i64 x.row :: .int .i64 x.col :: .bool x.t :: rcdcells l
theorem rcdcells_len : ∀ l : List (Cd), (rcdcells l).length = l.length * 3
  | [] => rfl
  | x :: l => by simp [rcdcells, rcdcells_len l]; omega
theorem rcdcells_append : ∀ l m : List (Cd), rcdcells (l ++ m) = rcdcells l ++ rcdcells m
  | [], _ => rfl
  | x :: l, m => by simp [rcdcells, rcdcells_append l m]
theorem rcdcells_get : ∀ (l : List (Cd)) (k : Nat) (x : Cd), l[k]? = some x → (rcdcells l)[k * 3]? = some (.int .i64 x.row) ∧ (rcdcells l)[k * 3 + 1]? = some (.int .i64 x.col) ∧ (rcdcells l)[k * 3 + 2]? = some (.bool x.t)
  | [], k, x, h => by simp at h
  | y :: l, 0, x, h => by simp at h; subst h; simp [rcdcells]
  | y :: l, k + 1, x, h => by
    have := rcdcells_get l k x (by simpa using h)
    have e : (k + 1) * 3 = k * 3 + 3 := by omega
    rw [e]
    simpa [rcdcells] using this
theorem own_rcds {w : World} {base : Nat} {v : Value} {n : Nat} {l : List (Cd)} (h : w.ownsRow base 99 3 v n (rcdcells l)) : ∃ A c, v = .slice A l.length c ∧ RcdsAt w w.heap.size A l ∧ n = l.length := by
  have hn : n = l.length := by have := h.1; rw [rcdcells_len] at this; omega
  subst hn
  rcases h.2 with ⟨rfl, h0⟩ | ⟨g, cap, cur, rfl, h2⟩
  · have : l = [] := by simpa using h0
    subst this
    exact ⟨none, 0, rfl, RcdsAt.nil _ _ _, rfl⟩
  · refine ⟨some ⟨g, 0, none⟩, cap, rfl, fun k x hx => ?_, rfl⟩
    obtain ⟨h3, h4, h5⟩ := rcdcells_get l k x hx
    have c3 := h.cells (g := g) rfl _ _ h3
    have c4 := h.cells (g := g) rfl _ _ h4
    have c5 := h.cells (g := g) rfl _ _ h5
    rw [addr_add] at c3 c4 c5
    exact ⟨g, 0, rfl, (h.lt g rfl).2, by simpa using c3, by simpa using c4, by simpa using c5⟩
theorem info99 : (Tryd.prog.info? 99).map (fun i => (i.zero, i.size, i.bytes)) = some (some (.agg #[.int .i64 0, .int .i64 0, .bool false]), 3, 24) := by kernel_rfl
def RetRcds (w : World) (l : List (Cd)) (e : Ending) (w' : World) : Prop := ∃ A c, e = .returned (.slice A l.length c) ∧ RcdsAt w' w'.heap.size A l ∧ Below w.heap.size w w' ∧ ∀ ad, A = some ad → w.heap.size ≤ ad.block
theorem wpList_append_rcd {ops : Array Oper} {rest : List Oper} {o : Oper} {a : Act} {Q : Exit → Act → World → Prop} (W : World) (hgd : o.guard = none) (s x : Operand)
    (ho : o.op = .call { callee := .builtin .append, args := #[s, x], argTypes := #[32, 32] }) (base k B : Nat) (v : Value) (l : List (Cd)) (y : Cd) (hs : a.eval s = v) (hown : W.ownsRow base 99 3 v k (rcdcells l))
    (hx : a.eval x = .slice (some ⟨B, 0, none⟩) 1 1) (hB : W.heap[B]? = some (.cells #[.int .i64 y.row, .int .i64 y.col, .bool y.t] 99 (0, 0))) (hk : k < 1000000) (hbase : base ≤ W.heap.size)
    (h : ∀ A c w', w'.ownsRow base 99 3 (.slice A (k + 1) c) (k + 1) (rcdcells (l ++ [y])) → W.grownBy w' v.ownBlock → ((Value.slice A (k + 1) c).ownBlock = v.ownBlock ∨ (Value.slice A (k + 1) c).ownBlock = some W.heap.size) → wpList Tryd.prog ops Q rest (a.put o.dst (.slice A (k + 1) c)) w') :
    wpList Tryd.prog ops Q (o :: rest) a W := by
  obtain ⟨i0, hi, hz0, hz1, hz2⟩ := info_parts info99
  refine wpList_append_own_at W hgd s x 32 ho base 99 i0 (.agg #[.int .i64 0, .int .i64 0, .bool false]) 3 24 Tryd.underlying32 hi hz0 hz1 hz2 rfl (by decide) v k (rcdcells l) hs hown ⟨B, 0, none⟩ 1 1 [.int .i64 y.row, .int .i64 y.col, .bool y.t] hx rfl (World.news_of_block hB) ?_ (by unfold maxLen; omega) (by omega) hbase ?_
  · intro u hu
    simp only [List.mem_cons, List.not_mem_nil, or_false] at hu
    rcases hu with rfl | rfl | rfl <;> rfl
  · intro v' w' h1 h2 _ h4
    obtain ⟨A, c, rfl⟩ := own_slice (by omega) h1
    exact h A c w' (by rw [rcdcells_append]; exact h1) h2 h4
theorem step_append_rcd {ops : Array Oper} {o : Oper} {a : Act} {K : Act → World → Prop} {Q : Exit → Act → World → Prop} {E : Prop} (W : World) (hgd : o.guard = none) (s x : Operand)
    (ho : o.op = .call { callee := .builtin .append, args := #[s, x], argTypes := #[32, 32] }) (base k B : Nat) (v : Value) (l : List (Cd)) (y : Cd) (hs : a.eval s = v) (hown : W.ownsRow base 99 3 v k (rcdcells l))
    (hx : a.eval x = .slice (some ⟨B, 0, none⟩) 1 1) (hB : W.heap[B]? = some (.cells #[.int .i64 y.row, .int .i64 y.col, .bool y.t] 99 (0, 0))) (hk : k < 1000000) (hbase : base ≤ W.heap.size)
    (h : ∀ g c w', w'.ownsRow base 99 3 (.slice (some ⟨g, 0, none⟩) (k + 1) c) (k + 1) (rcdcells (l ++ [y])) → W.grownBy w' v.ownBlock → (v.ownBlock = some g ∨ g = W.heap.size) → K (a.put o.dst (.slice (some ⟨g, 0, none⟩) (k + 1) c)) w') :
    if Region.wanted o (yielded ops a.tmps) = true then Oper.wp Tryd.prog o a W K Q else E := by
  obtain ⟨i0, hi, hz0, hz1, hz2⟩ := info_parts info99
  refine step_append_lies W hgd s x 32 ho base 99 i0 (.agg #[.int .i64 0, .int .i64 0, .bool false]) 3 24 Tryd.underlying32 hi hz0 hz1 hz2 rfl (by decide) v k (rcdcells l) hs hown ⟨B, 0, none⟩ 1 1 [.int .i64 y.row, .int .i64 y.col, .bool y.t] hx rfl (World.news_of_block hB) ?_ (by decide) (by unfold maxLen; omega) (by omega) hbase _ rfl ?_
  · intro u hu
    simp only [List.mem_cons, List.not_mem_nil, or_false] at hu
    rcases hu with rfl | rfl | rfl <;> rfl
  · intro g c w' h1 h2 h3 _
    exact h g c w' (by rw [rcdcells_append]; exact h1) h2 h3
theorem own_rcd_at {W : World} {b base : Nat} {y : Cd} (h : W.heap[b]? = some (.cells #[.int .i64 y.row, .int .i64 y.col, .bool y.t] 99 (0, 0))) (hb : base ≤ b) : W.ownsRow base 99 3 (.slice (some ⟨b, 0, none⟩) 1 1) 1 (rcdcells [y]) :=
  ⟨rfl, .inr ⟨b, 1, #[.int .i64 y.row, .int .i64 y.col, .bool y.t], rfl, hb, h, Nat.le_refl _, by decide, rfl, rfl⟩⟩

/-- The cards that a list of numbers tells. -/
def cdsL : List Int → List Cd
  | a :: b :: c :: l => ⟨a, b, c == 1⟩ :: cdsL l
  | _ => []
theorem cdsL_short {l : List Int} (h : l.length < 3) : cdsL l = [] := by
  match l, h with
  | [], _ => rfl
  | [_], _ => rfl
  | [_, _], _ => rfl
theorem cdsL_drop {L : List Int} {m : Nat} {a b c : Int} (h1 : L[m]? = some a) (h2 : L[m + 1]? = some b) (h3 : L[m + 2]? = some c) : cdsL (L.drop m) = ⟨a, b, c == 1⟩ :: cdsL (L.drop (m + 3)) := by
  rw [drop_cons h1, drop_cons h2, drop_cons h3]
  rfl

theorem step_append_card {ops : Array Oper} {o : Oper} {a : Act} {K : Act → World → Prop} {Q : Exit → Act → World → Prop} {E : Prop} (W : World) (hgd : o.guard = none) (s x : Operand)
    (ho : o.op = .call { callee := .builtin .append, args := #[s, x], argTypes := #[29, 29] }) (base k B : Nat) (v : Value) (l : List Cd) (y : Cd) (hs : a.eval s = v) (hown : W.ownsRow base 69 3 v k (ccells l))
    (hx : a.eval x = .slice (some ⟨B, 0, none⟩) 1 1) (hB : W.heap[B]? = some (.cells #[.int .i64 y.row, .int .i64 y.col, .bool y.t] 69 (0, 0))) (hk : k < 1000000) (hbase : base ≤ W.heap.size)
    (h : ∀ g c w', w'.ownsRow base 69 3 (.slice (some ⟨g, 0, none⟩) (k + 1) c) (k + 1) (ccells (l ++ [y])) → W.grownBy w' v.ownBlock → (v.ownBlock = some g ∨ g = W.heap.size) → K (a.put o.dst (.slice (some ⟨g, 0, none⟩) (k + 1) c)) w') :
    if Region.wanted o (yielded ops a.tmps) = true then Oper.wp Tryd.prog o a W K Q else E := by
  obtain ⟨i0, hi, hz0, hz1, hz2⟩ := info_parts info69
  refine step_append_lies W hgd s x 29 ho base 69 i0 (.agg #[.int .i64 0, .int .i64 0, .bool false]) 3 24 Tryd.underlying29 hi hz0 hz1 hz2 rfl (by decide) v k (ccells l) hs hown ⟨B, 0, none⟩ 1 1 [.int .i64 y.row, .int .i64 y.col, .bool y.t] hx rfl (World.news_of_block hB) ?_ (by decide) (by unfold maxLen; omega) (by omega) hbase _ rfl ?_
  · intro u hu
    simp only [List.mem_cons, List.not_mem_nil, or_false] at hu
    rcases hu with rfl | rfl | rfl <;> rfl
  · intro g c w' h1 h2 h3 _
    exact h g c w' (by rw [ccells_append]; exact h1) h2 h3

set_option maxRecDepth 100000 in
set_option maxHeartbeats 2000000 in
theorem cards_any (A : Option Addr) (c : Nat) (L : List Int) (w : World) (hA : IntsAt w w.heap.size A L) (hn : L.length < 1000000) :
    Calls Tryd.prog 59 #[.slice A L.length c] w (RetCards w (cdsL L)) := by
  generalize hC : cdsL L = C
  have HC := Lib.hid hC
  clear hC
  go_enter Tryd.func59, Tryd.ntmps59
  go_wp2
  go_loopw [3, 4] (fun v i wr => ∃ (m k : Nat) (D : List Cd), m ≤ L.length ∧ k ≤ m ∧ i = .int .i64 m ∧ wr.ownsRow w.heap.size 69 3 v k (ccells D) ∧ Hid (D ++ cdsL (L.drop m) = C) ∧ Below w.heap.size w wr) (fun _ i _ => L.length - (intOf i).toNat)
  case atStart => exact ⟨0, 0, [], by omega, by omega, rfl, World.ownsRow_nil _ _ _ _, HC, Below.refl _ _⟩
  case round =>
    obtain ⟨m, k, D, hm, hkm, rfl, hown, HD, hbr⟩ := hrel
    have hzr := hbr.size
    by_cases hlt : m + 2 < L.length
    · have hx : L[m]? = some (L[m]'(by omega)) := List.getElem?_eq_getElem _
      have hy : L[m + 1]? = some (L[m + 1]'(by omega)) := List.getElem?_eq_getElem _
      have hz : L[m + 2]? = some (L[m + 2]'(by omega)) := List.getElem?_eq_getElem _
      generalize L[m]'(by omega) = x at hx
      generalize L[m + 1]'(by omega) = y at hy
      generalize L[m + 2]'(by omega) = z at hz
      have HD2 := Lib.hid (show (D ++ [⟨x, y, z == 1⟩]) ++ cdsL (L.drop (m + 3)) = C by rw [← HD.out, cdsL_drop hx hy hz, List.append_assoc]; rfl)
      obtain ⟨b, off, hAe, hb, d0⟩ := hA m x hx
      obtain ⟨b1, off1, hAe1, hb1, d1⟩ := hA (m + 1) y hy
      obtain ⟨b2, off2, hAe2, hb2, d2⟩ := hA (m + 2) z hz
      rw [hAe] at hAe1 hAe2
      injection hAe1 with e1
      injection hAe2 with e2
      injection e1 with e3 e4
      injection e2 with e5 e6
      subst hAe e3 e4 e5 e6
      have HK := Lib.hid (fun (W : World) (h : Below w.heap.size w W) => show W.cell? ⟨b, off + m, none⟩ = some (.int .i64 x) ∧ W.cell? ⟨b, off + (m + 1), none⟩ = some (.int .i64 y) ∧ W.cell? ⟨b, off + (m + 2), none⟩ = some (.int .i64 z) from
        ⟨(h.cell (p := ⟨b, _, none⟩) hb).trans d0, (h.cell (p := ⟨b, _, none⟩) hb).trans d1, (h.cell (p := ⟨b, _, none⟩) hb).trans d2⟩)
      have hbd := hbr.drew
      have hba := hbd.alloc hzr (.cells #[.int .i64 x, .int .i64 y, .bool (z == 1)] 69)
      clear d0 d1 d2
      have hbz : b < wr.heap.size := by omega
      have hlt' : (m : Int) + 2 < (L.length : Int) := by omega
      have hlt1 : (m : Int) + 1 < (L.length : Int) := by omega
      have hlt0 : (m : Int) < (L.length : Int) := by omega
      have hm0 : (0 : Int) ≤ (m : Int) := by omega
      have hm1 : (0 : Int) ≤ (m : Int) + 1 := by omega
      have hm2 : (0 : Int) ≤ (m : Int) + 2 := by omega
      have ht1 : ((m : Int) + 1).toNat = m + 1 := by omega
      have ht2 : ((m : Int) + 2).toNat = m + 2 := by omega
      have hw1 : IntKind.i64.wrap ((m : Int) + 1) = (m : Int) + 1 := IntWalk.i64_in _ (by omega)
      have hw2 : IntKind.i64.wrap ((m : Int) + 2) = (m : Int) + 2 := IntWalk.i64_in _ (by omega)
      clear hx hy hz
      go_wp2
      go_region_held3 (fun W => W.cell? ⟨b, off + m, none⟩ = some (.int .i64 x) ∧ W.cell? ⟨b, off + (m + 1), none⟩ = some (.int .i64 y) ∧ W.cell? ⟨b, off + (m + 2), none⟩ = some (.int .i64 z))
        (exact HK.out _ (by assumption))
        (first
          | (refine step_append_card _ rfl _ _ rfl w.heap.size k _ _ D ⟨x, y, z == 1⟩ rfl (hown.alloc _) rfl (by first | exact heap_at _ _ _ (by first | rfl | simp) | exact heap_alloc_new wr _) (by omega) (by simp; omega) ?_; intro g5 c5 w5 hown5 hgr5 hat5; have hb5 := hba.grown hgr5 (by simp; omega) (fun g hg => (hown.lt g hg).1)))
      all_goals
        go_wp2
        go_roundw
        case rel => exact ⟨m + 3, k + 1, D ++ [⟨x, y, z == 1⟩], by omega, by omega, by go_num, hown5, HD2, hb5⟩
        case measure => simp [intOf]; omega
    · have hlt' : ¬ ((m : Int) + 2 < (L.length : Int)) := by omega
      have hDC : D = C := by
        have := HD.out
        rw [cdsL_short (by rw [List.length_drop]; omega), List.append_nil] at this
        exact this
      rw [hDC] at hown
      obtain ⟨A', c', rfl, hA', _⟩ := own_cards hown
      have HR := Lib.hid (show RetCards w C (.returned (.slice A' C.length c')) wr from ⟨A', c', rfl, hA', hbr, fun ad h => own_block_ge hown ad h⟩)
      clear hown hA' hDC
      go_wp2
      go_ret
      exact HR.out

set_option maxRecDepth 100000 in
set_option maxHeartbeats 2000000 in
theorem given_any (A : Option Addr) (c : Nat) (L : List Cd) (w : World) (hA : CardsAt w w.heap.size A L) (hn : L.length < 1000000) :
    Calls Tryd.prog 27 #[.slice A L.length c] w (RetRcds w L) := by
  go_enter Tryd.func27, Tryd.ntmps27
  go_wp2
  go_loopw [3, 4] (fun v i wr => ∃ k : Nat, k ≤ L.length ∧ i = .int .i64 k ∧ wr.ownsRow w.heap.size 99 3 v k (rcdcells (L.take k)) ∧ Below w.heap.size w wr) (fun _ i _ => L.length - (intOf i).toNat)
  case atStart => exact ⟨0, by omega, rfl, World.ownsRow_nil _ _ _ _, Below.refl _ _⟩
  case round =>
    obtain ⟨k, hk, rfl, hown, hbr⟩ := hrel
    have hzr := hbr.size
    by_cases hlt : k < L.length
    · have hx : L[k]? = some L[k] := List.getElem?_eq_getElem hlt
      generalize L[k] = x at hx
      have HT := Lib.hid (take_snoc hx)
      obtain ⟨b, off, rfl, hb, d0, d1, d2⟩ := hA k x hx
      replace d0 := (hbr.cell (p := ⟨b, _, none⟩) (by simp; omega)).trans d0
      replace d1 := (hbr.cell (p := ⟨b, _, none⟩) (by simp; omega)).trans d1
      replace d2 := (hbr.cell (p := ⟨b, _, none⟩) (by simp; omega)).trans d2
      have hbz : b < wr.heap.size := by omega
      clear hx
      go_wp2_with (at_builtin; refine wpList_append_rcd _ rfl _ _ rfl w.heap.size k wr.heap.size _ _ x rfl (hown.alloc _) rfl (heap_at _ _ _ rfl) (by omega) (by simp; omega) ?_; intro A5 c5 w5 hown5 hgr5 _)
      go_roundw
      case rel => exact ⟨k + 1, by omega, by go_num, by rw [HT.out]; exact hown5, (hbr.alloc hzr _).grown hgr5 (by simp; omega) (fun g hg => (hown.lt g hg).1)⟩
      case measure => simp [intOf]; omega
    · have e : L.take k = L := List.take_of_length_le (by omega)
      rw [e] at hown
      obtain ⟨A', c', rfl, hA', _⟩ := own_rcds hown
      have HR := Lib.hid (show RetRcds w L (.returned (.slice A' L.length c')) wr from ⟨A', c', rfl, hA', hbr, fun ad h => own_block_ge hown ad h⟩)
      clear hown hA' e
      go_wp2
      go_ret
      exact HR.out

theorem take_ne {α : Type} {l m : List α} {k : Nat} {x y : α} (hx : l[k]? = some x) (hy : m[k]? = some y) (h : x ≠ y) : ¬ l = m := by
  rintro rfl
  rw [hx] at hy
  exact h (Option.some.inj hy)

set_option maxRecDepth 100000 in
set_option maxHeartbeats 2000000 in
theorem same_any (A D : Option Addr) (c d : Nat) (l m : List Int) (w : World) (hl : l.length < 1000000) (hA : IntsAt w w.heap.size A l) (hD : IntsAt w w.heap.size D m) :
    Calls Tryd.prog 34 #[.slice A l.length c, .slice D m.length d] w fun e w' => e = .returned (.bool (decide (l = m))) ∧ Below w.heap.size w w' := by
  by_cases hlm : l.length = m.length
  rotate_left
  · rw [decide_eq_false (fun h => hlm (by rw [h]))]
    have hlm' : ((l.length : Int) != (m.length : Int)) = true := by simpa using (by omega : ¬ (l.length : Int) = m.length)
    clear hlm
    go_enter Tryd.func34, Tryd.ntmps34
    go_wp2
    go_ret
    exact ⟨rfl, Below.refl _ _⟩
  have hlm' : ((l.length : Int) != (m.length : Int)) = false := by simpa using (by omega : (l.length : Int) = m.length)
  have HLM := Lib.hid hlm
  clear hlm
  go_enter Tryd.func34, Tryd.ntmps34
  go_wp2
  clear hlm'
  go_loopw [5] (fun i wr => ∃ k : Nat, k ≤ l.length ∧ i = .int .i64 k ∧ Hid (l.take k = m.take k) ∧ Below w.heap.size w wr) (fun i _ => l.length - (intOf i).toNat)
  case atStart => exact ⟨0, Nat.zero_le _, rfl, Lib.hid rfl, Below.refl _ _⟩
  case round =>
    obtain ⟨k, hk, rfl, HK, hbw⟩ := hrel
    by_cases hlt : k < l.length
    · have hlt2 : k < m.length := by have := HLM.out; omega
      have hx : l[k]? = some l[k] := List.getElem?_eq_getElem hlt
      have hy : m[k]? = some m[k] := List.getElem?_eq_getElem hlt2
      have ht1 : l.take (k + 1) = l.take k ++ [l[k]] := List.take_succ_eq_append_getElem hlt
      have ht2 : m.take (k + 1) = m.take k ++ [m[k]] := List.take_succ_eq_append_getElem hlt2
      generalize l[k] = x at hx ht1
      generalize m[k] = y at hy ht2
      obtain ⟨b1, o1, rfl, hb1, h1⟩ := (hA.below hbw (Nat.le_refl _)) k x hx
      obtain ⟨b2, o2, rfl, hb2, h2⟩ := (hD.below hbw (Nat.le_refl _)) k y hy
      have hki : (k : Int) < (l.length : Int) := by omega
      have hkj : (k : Int) < (m.length : Int) := by omega
      have hk0 : (0 : Int) ≤ (k : Int) := by omega
      by_cases hxy : x = y
      · have HT := Lib.hid (show l.take (k + 1) = m.take (k + 1) by rw [ht1, ht2, HK.out, hxy])
        have hne : (x != y) = false := by simpa using hxy
        clear hx hy ht1 ht2 hxy
        go_wp2
        go_quiet (fail)
        go_wp2
        go_roundw
        case rel => exact ⟨k + 1, by omega, by go_num, HT, below_drewN hbw _⟩
        case measure => simp [intOf]; omega
      · have HT := Lib.hid (take_ne hx hy hxy)
        have hne : (x != y) = true := by simpa using hxy
        clear hx hy ht1 ht2 hxy
        go_wp2
        go_quiet (fail)
        go_wp2
        go_ret
        exact ⟨by rw [decide_eq_false HT.out]; rfl, below_drewN hbw _⟩
    · have e : l.take k = l := List.take_of_length_le (by omega)
      have e2 : m.take k = m := List.take_of_length_le (by have := HLM.out; omega)
      have HE := Lib.hid (show l = m by rw [← e, ← e2, HK.out])
      clear e e2
      go_wp2
      go_ret
      exact ⟨by rw [decide_eq_true HE.out]; rfl, hbw⟩

set_option maxRecDepth 100000 in
set_option maxHeartbeats 2000000 in
theorem alike_any (A D : Option Addr) (c d : Nat) (l m : List Cd) (w : World) (hl : l.length < 1000000) (hA : CardsAt w w.heap.size A l) (hD : RcdsAt w w.heap.size D m) :
    Calls Tryd.prog 19 #[.slice A l.length c, .slice D m.length d] w fun e w' => e = .returned (.bool (decide (l = m))) ∧ Below w.heap.size w w' := by
  by_cases hlm : l.length = m.length
  rotate_left
  · rw [decide_eq_false (fun h => hlm (by rw [h]))]
    have hlm' : ((l.length : Int) != (m.length : Int)) = true := by simpa using (by omega : ¬ (l.length : Int) = m.length)
    clear hlm
    go_enter Tryd.func19, Tryd.ntmps19
    go_wp2
    go_ret
    exact ⟨rfl, Below.refl _ _⟩
  have hlm' : ((l.length : Int) != (m.length : Int)) = false := by simpa using (by omega : (l.length : Int) = m.length)
  have HLM := Lib.hid hlm
  have hneq := neq99
  clear hlm
  go_enter Tryd.func19, Tryd.ntmps19
  go_wp2
  clear hlm'
  go_loopw [5] (fun i wr => ∃ k : Nat, k ≤ l.length ∧ i = .int .i64 k ∧ Hid (l.take k = m.take k) ∧ Below w.heap.size w wr) (fun i _ => l.length - (intOf i).toNat)
  case atStart => exact ⟨0, Nat.zero_le _, rfl, Lib.hid rfl, Below.refl _ _⟩
  case round =>
    obtain ⟨k, hk, rfl, HK, hbw⟩ := hrel
    by_cases hlt : k < l.length
    · have hlt2 : k < m.length := by have := HLM.out; omega
      have hx : l[k]? = some l[k] := List.getElem?_eq_getElem hlt
      have hy : m[k]? = some m[k] := List.getElem?_eq_getElem hlt2
      have ht1 : l.take (k + 1) = l.take k ++ [l[k]] := List.take_succ_eq_append_getElem hlt
      have ht2 : m.take (k + 1) = m.take k ++ [m[k]] := List.take_succ_eq_append_getElem hlt2
      generalize l[k] = x at hx ht1
      generalize m[k] = y at hy ht2
      obtain ⟨b1, o1, rfl, hb1, g1, g2, g3⟩ := (hA.below hbw (Nat.le_refl _)) k x hx
      obtain ⟨b2, o2, rfl, hb2, k1, k2, k3⟩ := (hD.below hbw (Nat.le_refl _)) k y hy
      have hki : (k : Int) < (l.length : Int) := by omega
      have hkj : (k : Int) < (m.length : Int) := by omega
      have hk0 : (0 : Int) ≤ (k : Int) := by omega
      by_cases hxy : x = y
      · have HT := Lib.hid (show l.take (k + 1) = m.take (k + 1) by rw [ht1, ht2, HK.out, hxy])
        have hne : decide (x ≠ y) = false := by simp [hxy]
        clear hx hy ht1 ht2 hxy
        go_wp2
        go_quiet (fail)
        go_wp2
        go_roundw
        case rel => exact ⟨k + 1, by omega, by go_num, HT, below_drewN hbw _⟩
        case measure => simp [intOf]; omega
      · have HT := Lib.hid (take_ne hx hy hxy)
        have hne : decide (x ≠ y) = true := by simp [hxy]
        clear hx hy ht1 ht2 hxy
        go_wp2
        go_quiet (fail)
        go_wp2
        go_ret
        exact ⟨by rw [decide_eq_false HT.out]; rfl, below_drewN hbw _⟩
    · have e : l.take k = l := List.take_of_length_le (by omega)
      have e2 : m.take k = m := List.take_of_length_le (by have := HLM.out; omega)
      have HE := Lib.hid (show l = m by rw [← e, ← e2, HK.out])
      clear e e2
      go_wp2
      go_ret
      exact ⟨by rw [decide_eq_true HE.out]; rfl, hbw⟩
end Go.Proofs.YtlollcabnfncpaaDoor
