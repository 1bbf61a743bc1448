/-
  The library's Clone, Index, Contains.
-/
import Derived.Test.YtlollcabnfncpaaDoorApp
namespace Go.Proofs.YtlollcabnfncpaaDoor
open Go.RowKit

theorem adr_plus (b o j : Nat) : (⟨b, o, none⟩ : Addr).add j = ⟨b, o + j, none⟩ := by unfold Addr.add; split <;> simp_all
theorem cards_news {w : World} {B : Nat} {A : Option Addr} {l : List Cd} (h : CardsAt w B A l) (j : Nat) (u : Value) (hj : (ccells l)[j]? = some u) : ∃ ad, A = some ad ∧ w.cell? (ad.add j) = some u := by
  have hl : j < l.length * 3 := by rw [← ccells_len]; exact lt_of_get hj
  have hx : l[j / 3]? = some (l[j / 3]'(by omega)) := List.getElem?_eq_getElem _
  generalize l[j / 3]'(by omega) = x at hx
  obtain ⟨b, off, rfl, _, h3, h4, h5⟩ := h _ x hx
  obtain ⟨g3, g4, g5⟩ := ccells_get l _ x hx
  refine ⟨_, rfl, ?_⟩
  rw [adr_plus]
  have hm : j = j / 3 * 3 ∨ j = j / 3 * 3 + 1 ∨ j = j / 3 * 3 + 2 := by omega
  generalize j / 3 = q at *
  rcases hm with rfl | rfl | rfl
  · rw [g3] at hj; rw [h3]; exact hj
  · rw [g4] at hj; rw [← Nat.add_assoc, h4]; exact hj
  · rw [g5] at hj; rw [← Nat.add_assoc, h5]; exact hj

theorem own_empty69 (W : World) (base : Nat) (h : base ≤ W.heap.size) : (W.alloc (.cells #[] 69)).ownsRow base 69 3 (.slice (some ⟨W.heap.size, 0, none⟩) 0 0) 0 (ccells []) :=
  ⟨rfl, .inr ⟨W.heap.size, 0, #[], rfl, h, heap_alloc_new W _, Nat.le_refl _, by decide, rfl, rfl⟩⟩

theorem eq_nil (c : Nat) (w : World) : (binOp .eql 29 (.slice none 0 c) (.slice none 0 0)).run Tryd.prog w = .ok (.bool true) w := by kernel_rfl
theorem eq_some (ad : Addr) (n c : Nat) (w : World) : (binOp .eql 29 (.slice (some ad) n c) (.slice none 0 0)).run Tryd.prog w = .ok (.bool false) w := by kernel_rfl

/-- A copy of cards is handed back, in a row of its own. -/
def RetOwn (w : World) (L : List Cd) (e : Ending) (w' : World) : Prop := ∃ v, e = .returned v ∧ w'.ownsRow w.heap.size 69 3 v L.length (ccells L) ∧ Below w.heap.size w w'

set_option maxRecDepth 100000 in
set_option maxHeartbeats 1000000 in
theorem clone_any (A : Option Addr) (c : Nat) (L : List Cd) (w : World) (hA : CardsAt w w.heap.size A L) (hn : L.length < 1000000) :
    Calls Tryd.prog 46 #[.slice A L.length c] w (RetOwn w L) := by
  rcases A with _ | ad
  · have hL : L = [] := by
      rcases L with _ | ⟨x, l⟩
      · rfl
      · obtain ⟨_, _, h, _⟩ := hA 0 x rfl
        cases h
    subst hL
    clear hA hn
    have hq := eq_nil c
    go_enter Tryd.func46, Tryd.ntmps46
    go_wp2
    go_ret
    exact ⟨_, rfl, World.ownsRow_nil _ _ _ _, Below.refl _ _⟩
  · obtain ⟨i0, hi, hz0, hz1, hz2⟩ := info_parts info69
    have HN := Lib.hid (fun j u hj => show w.cell? (ad.add j) = some u from by
      obtain ⟨ad', e, h⟩ := cards_news hA j u hj
      injection e with e; subst e; exact h)
    have HB := Lib.hid (fun (W : World) j u (h : Below w.heap.size w W) (hj : (ccells L)[j]? = some u) => show W.cell? (ad.add j) = some u from by
      obtain ⟨ad', e, h'⟩ := cards_news (hA.below h (Nat.le_refl _)) j u hj
      injection e with e; subst e; exact h')
    clear hA
    have hq := eq_some ad L.length c
    go_enter Tryd.func46, Tryd.ntmps46
    go_wp2_with (at_builtin; refine wpList_append_own_at _ rfl _ _ 29 rfl w.heap.size 69 i0 (.agg #[.int .i64 0, .int .i64 0, .bool false]) 3 24 Tryd.underlying29 hi hz0 hz1 hz2 rfl (by decide) _ 0 (ccells []) rfl (own_empty69 w _ (Nat.le_refl _)) ad L.length c (ccells L) rfl (ccells_len L) (fun j u hj => HB.out _ j u (below_new w _) hj) (ccells_one L) (by unfold maxLen; omega) (by omega) (by simp) ?_; intro v5 w5 hown5 hgr5 _ _)
    have HR := Lib.hid (show RetOwn w L (.returned v5) w5 from ⟨v5, rfl, by simpa [ccells] using hown5, (below_new w _).grown hgr5 (by simp) (fun g hg => ((own_empty69 w _ (Nat.le_refl _)).lt g hg).1)⟩)
    go_ret
    exact HR.out

/-- A place is handed back. -/
def RetAtNat (w : World) (e : Ending) (w' : World) : Prop := ∃ n : Nat, e = .returned (.int .i64 n) ∧ Below w.heap.size w w'

set_option maxRecDepth 100000 in
set_option maxHeartbeats 1000000 in
theorem index_any (A : Option Addr) (c : Nat) (L : List Int) (y : Int) (k : Nat) (w : World) (hA : IntsAt w w.heap.size A L) (hn : L.length < 1000000) (hk : L[k]? = some y) :
    Calls Tryd.prog 97 #[.slice A L.length c, .int .i64 y] w (RetAtNat w) := by
  have hkl := lt_of_get hk
  have HA := Lib.hid hA
  have HKK := Lib.hid hk
  clear hA hk
  go_enter Tryd.func97, Tryd.ntmps97
  go_wp2
  go_loopw [8] (fun i wr => ∃ j : Nat, j ≤ k ∧ i = .int .i64 j ∧ Below w.heap.size w wr) (fun i _ => L.length - (intOf i).toNat)
  case atStart => exact ⟨0, Nat.zero_le _, rfl, Below.refl _ _⟩
  case round =>
    obtain ⟨j, hj, rfl, hbr⟩ := hrel
    have hjl : j < L.length := by omega
    have hx : L[j]? = some L[j] := List.getElem?_eq_getElem hjl
    generalize L[j] = x at hx
    obtain ⟨b, off, rfl, hb, d⟩ := HA.out j x hx
    replace d := (hbr.cell (p := ⟨b, _, none⟩) hb).trans d
    have hki : (j : Int) < (L.length : Int) := by omega
    have hk0 : (0 : Int) ≤ (j : Int) := by omega
    by_cases hxy : y = x
    · have hq : (y == x) = true := beq_iff_eq.2 hxy
      clear hx hxy
      go_wp2
      go_ret
      exact ⟨j, rfl, hbr⟩
    · have hq : (y == x) = false := beq_eq_false_iff_ne.2 hxy
      have hjk : j < k := by
        rcases Nat.lt_or_ge j k with h | h
        · exact h
        · have e : j = k := by omega
          subst e
          rw [HKK.out] at hx
          exact absurd (Option.some.inj hx) hxy
      clear hx hxy
      go_wp2
      go_roundw
      case rel => exact ⟨j + 1, by omega, by go_num, hbr⟩
      case measure => simp [intOf]; omega

set_option maxHeartbeats 1000000 in
theorem contains_any (A : Option Addr) (c : Nat) (L : List Int) (y : Int) (w : World) (hA : IntsAt w w.heap.size A L) (hn : L.length < 1000000) (hy : y ∈ L) :
    Calls Tryd.prog 58 #[.slice A L.length c, .int .i64 y] w fun e w' => e = .returned (.bool true) ∧ Below w.heap.size w w' := by
  obtain ⟨k, hk, e⟩ := List.mem_iff_getElem.1 hy
  have hk' : L[k]? = some y := by rw [List.getElem?_eq_getElem hk, e]
  have HI := Lib.hid (index_any A c L y k w hA hn hk')
  clear hk hk' e hy hA
  go_enter Tryd.func58, Tryd.ntmps58
  go_wp2_with (go_at_call 97; (with_reducible refine HI.out.mono ?_); rintro e w1 ⟨n, rfl, hb1⟩)
  go_ret
  exact ⟨rfl, hb1⟩
end Go.Proofs.YtlollcabnfncpaaDoor
