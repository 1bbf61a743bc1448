/-
  The first list of so many cells that shows all that is missing: walked.
-/
import Derived.Test.YtbcbaaapogejiaaDoorCelB
import Derived.Test.YtbcbaaapogejiaaDoorTurB
namespace Go.Proofs.YtbcbaaapogejiaaDoor
open Go.RowKit

theorem pickN_zero (sh : List Nat) (f k m : Nat) : pickN sh (f + 1) k 0 m = if m = 0 then some [] else none := rfl
theorem pickN_succ (sh : List Nat) (f k n m : Nat) : pickN sh (f + 1) k (n + 1) m = if k < sh.length then (match pickN sh f (k + 1) n (minusN m (sh.getD k 0)) with
      | some r => some (k :: r)
      | none => pickN sh f (k + 1) (n + 1) m) else none := rfl
/-- More than is needed of the measure tells nothing else. -/
theorem pickN_fuel (sh : List Nat) : ∀ (f g k n m : Nat), sh.length + 1 - k ≤ f → sh.length + 1 - k ≤ g → 0 < f → 0 < g → pickN sh f k n m = pickN sh g k n m
  | f + 1, g + 1, k, 0, m, _, _, _, _ => rfl
  | f + 1, g + 1, k, n + 1, m, h1, h2, _, _ => by
    rw [pickN_succ, pickN_succ]
    by_cases hk : k < sh.length
    · rw [if_pos hk, if_pos hk, pickN_fuel sh f g (k + 1) n _ (by omega) (by omega) (by omega) (by omega), pickN_fuel sh f g (k + 1) (n + 1) m (by omega) (by omega) (by omega) (by omega)]
    · rw [if_neg hk, if_neg hk]
theorem pickN_len (sh : List Nat) : ∀ (f k n m : Nat) (r : List Nat), pickN sh f k n m = some r → r.length = n
  | 0, _, _, _, _, h => by simp [pickN] at h
  | f + 1, k, 0, m, r, h => by
    rw [pickN_zero] at h
    split at h
    · injection h with h; rw [← h]; rfl
    · cases h
  | f + 1, k, n + 1, m, r, h => by
    rw [pickN_succ] at h
    split at h
    · split at h
      · next r' hr =>
        injection h with h
        rw [← h, List.length_cons, pickN_len sh f _ _ _ _ hr]
      · exact pickN_len sh f _ _ _ _ h
    · cases h

theorem own_one (W : World) (base : Nat) (y : Int) (h : base ≤ W.heap.size) : (W.alloc (.cells #[.int .i64 y] 3)).ownsRow base 3 1 (.slice (some ⟨W.heap.size, 0, none⟩) 1 1) 1 ([y].map (Value.int .i64)) :=
  ⟨rfl, .inr ⟨W.heap.size, 1, #[.int .i64 y], rfl, h, heap_alloc_new W _, Nat.le_refl _, by decide, rfl, rfl⟩⟩

set_option maxRecDepth 100000 in
theorem wpList_append_ints {ops : Array Oper} {rest : List Oper} {o : Oper} {a : Act} {Q : Exit → Act → World → Prop} (W : World) (hgd : o.guard = none) (s x : Operand)
    (ho : o.op = .call { callee := .builtin .append, args := #[s, x], argTypes := #[22, 22] }) (base k : Nat) (v : Value) (l m : List Int) (hs : a.eval s = v) (hown : W.ownsRow base 3 1 v k (l.map (Value.int .i64)))
    (D : Option Addr) (d : Nat) (hx : a.eval x = .slice D m.length d) (hD : IntsAt W W.heap.size D m) (hk : k + m.length < 1000000) (hbase : base ≤ W.heap.size)
    (h : ∀ v' w', w'.ownsRow base 3 1 v' (k + m.length) ((l ++ m).map (Value.int .i64)) → Below base W w' → wpList Tryd.prog ops Q rest (a.put o.dst v') w') :
    wpList Tryd.prog ops Q (o :: rest) a W := by
  obtain ⟨i0, hi, hz0, hz1, hz2⟩ := info_parts info3
  have hlt := hown.lt
  refine wpList_plain hgd fun K hK => ?_
  have hrun : ∃ v' w', (Builtin.append_ #[22, 22] o.type #[v, .slice D m.length d]).run Tryd.prog W = .ok v' w' ∧ w'.ownsRow base 3 1 v' (k + m.length) ((l ++ m).map (Value.int .i64)) ∧ Below base W w' := by
    rcases D with _ | ad
    · have hm : m = [] := by
        rcases m with _ | ⟨y, _⟩
        · rfl
        · obtain ⟨_, _, h, _⟩ := hD 0 y rfl
          cases h
      subst hm
      exact ⟨v, W, run_append_from_nil W base 22 o.type 3 i0 1 Tryd.underlying22 hi v k _ hown d, by simpa using hown, Below.refl _ _⟩
    · obtain ⟨v', w', h2, h3, h4, _, _⟩ := run_append_own_at (P := Tryd.prog) W base 22 o.type 3 i0 (.int .i64 0) 1 8 Tryd.underlying22 hi hz0 hz1 hz2 rfl (by decide) v k _ hown ad m.length d (m.map (Value.int .i64)) (by simp)
        (fun j u hu => by
          rw [List.getElem?_map, Option.map_eq_some_iff] at hu
          obtain ⟨y, hy, rfl⟩ := hu
          obtain ⟨b, off, e, _, h3⟩ := hD j y hy
          injection e with e
          subst e
          rw [adr_add]; exact h3) (fun u hu => by obtain ⟨y, _, rfl⟩ := List.mem_map.1 hu; rfl) (by unfold maxLen; omega) (by omega) hbase
      exact ⟨v', w', h2, by rw [List.map_append]; exact h3, (Below.refl _ _).grown h4 hbase fun g hg => (hlt g hg).1⟩
  obtain ⟨v', w', hrun, h2, h3⟩ := hrun
  unfold Oper.wp execOp
  simp only [ho, resolve, invoke, builtin, Sem.run_bind, Sem.run_pure, Result.andThen_ok, List.map_toArray, List.map_cons, List.map_nil, hs, hx, hrun]
  exact hK _ _ (h v' w' h2 h3)

set_option maxRecDepth 100000 in
set_option maxHeartbeats 4000000 in
theorem pick_any (sh : List Nat) (hs8 : ∀ x ∈ sh, x < 256) (hsl : sh.length ≤ 16) : ∀ (n k m : Nat) (A : Option Addr) (c : Nat) (w : World), SetsAt w w.heap.size A sh → m < 256 → k ≤ sh.length + 1 → n ≤ 17 →
    Calls Tryd.prog 127 #[.slice A sh.length c, .int .i64 k, .int .i64 n, .int .u8 m] w (RetPick w (pickN sh (sh.length + 2 - k) k n m))
  | 0, k, m, A, c, w, hA, hm, hk, hn => by
    obtain ⟨f, hf⟩ : ∃ f, sh.length + 2 - k = f + 1 := ⟨sh.length + 1 - k, by omega⟩
    rw [hf, pickN_zero]
    by_cases h : m = 0
    · subst h
      rw [if_pos rfl]
      clear hA hf
      go_enter Tryd.func127, Tryd.ntmps127
      go_wp2
      go_ret2
      exact ⟨fun l hl => (by injection hl with hl; subst hl; exact ⟨none, 0, rfl, IntsAt.nil _ _ _⟩), fun h => (by cases h), Below.refl _ _⟩
    · rw [if_neg h]
      have hz : ((m : Int) == 0) = false := beq_eq_false_iff_ne.2 (by omega)
      clear hA hf
      go_enter Tryd.func127, Tryd.ntmps127
      go_wp2
      go_ret2
      exact ⟨fun l hl => (by cases hl), fun _ => rfl, Below.refl _ _⟩
  | n + 1, k, m, A, c, w, hA, hm, hk, hn => by
    have ih := Lib.hid (fun (k' m' : Nat) (W : World) (hW : Below w.heap.size w W) (h1 : m' < 256) (h2 : k' ≤ sh.length + 1) => pick_any sh hs8 hsl n k' m' A c W (hA.up hW) h1 h2 (by omega))
    have HA := Lib.hid hA
    have H8 := Lib.hid hs8
    obtain ⟨R, hR⟩ : ∃ R, R = pickN sh (sh.length + 2 - k) k (n + 1) m := ⟨_, rfl⟩
    rw [← hR]
    have HR := Lib.hid hR
    generalize hN : n + 1 = N
    have hn1 : ((N : Int) == 0) = false := beq_eq_false_iff_ne.2 (by omega)
    have hNn : IntKind.i64.wrap ((N : Int) - 1) = (n : Int) := (IntWalk.i64_in _ (by omega)).trans (by omega)
    have HNN := Lib.hid hN
    have hn17 := Lib.hid hn
    clear hA hR hs8 hN hn
    go_enter Tryd.func127, Tryd.ntmps127
    go_wp2
    go_loopw [10] (fun i wr => ∃ j : Nat, k ≤ j ∧ j ≤ sh.length + 1 ∧ i = .int .i64 j ∧ Hid (R = pickN sh (sh.length + 2 - j) j (n + 1) m) ∧ Below w.heap.size w wr) (fun i _ => sh.length + 1 - (intOf i).toNat)
    case atStart => exact ⟨k, Nat.le_refl _, hk, rfl, HR, Below.refl _ _⟩
    case round =>
      obtain ⟨j, hkj, hj, rfl, HJ, hbw⟩ := hrel
      obtain ⟨f, hf⟩ : ∃ f, sh.length + 2 - j = f + 1 := ⟨sh.length + 1 - j, by omega⟩
      have hf2 : f = sh.length + 2 - (j + 1) := by omega
      have e1 := HJ.out
      rw [hf, pickN_succ] at e1
      by_cases hlt : j < sh.length
      · rw [if_pos hlt, hf2] at e1
        have hx : sh[j]? = some sh[j] := List.getElem?_eq_getElem hlt
        have hxd : sh.getD j 0 = sh[j] := by rw [List.getD_eq_getElem?_getD, hx]; rfl
        rw [hxd] at e1
        have hx8 := H8.out _ (mem_of_get hx)
        obtain ⟨sb, so, rfl, hsb, d⟩ := (HA.out.up hbw) j _ hx
        generalize sh[j] = x at *
        have hor := u8_andNot_nat m x hm hx8
        have hm8 : minusN m x < 256 := minusN_lt hm
        rw [show m &&& (255 - x) = minusN m x from rfl] at hor
        have HI := ih.out (j + 1) (minusN m x) wr hbw hm8 (by omega)
        simp only [Int.natCast_add, Int.natCast_one] at HI
        generalize minusN m x = m' at *
        have hji : (j : Int) < (sh.length : Int) := by omega
        have hj0 : (0 : Int) ≤ (j : Int) := by omega
        rcases hp : pickN sh (sh.length + 2 - (j + 1)) (j + 1) n m' with _ | r
        · rw [hp] at e1 HI
          have HE := Lib.hid (show R = pickN sh (sh.length + 2 - (j + 1)) (j + 1) (n + 1) m from e1)
          have HI2 := Lib.hid HI
          clear e1 hp hx hxd hf hf2 HI
          go_wp2_with (go_at_call 127; refine (HI2.out).mono ?_; rintro e w2 ⟨_, h2, hb2⟩; obtain rfl := h2 rfl)
          go_roundw
          case rel => exact ⟨j + 1, by omega, by omega, by go_num, HE, hbw.trans (hb2.mono hbw.size)⟩
          case measure => simp [intOf]; omega
        · rw [hp] at e1 HI
          have hrl := Lib.hid (pickN_len sh _ _ _ _ _ hp)
          have HE := Lib.hid (show R = some (j :: r) from e1)
          have HI2 := Lib.hid HI
          clear e1 hp hx hxd hf hf2 HI
          go_wp2_with (first
            | (go_at_call 127; refine (HI2.out).mono ?_; rintro e w2 ⟨h1, _, hb2⟩; obtain ⟨D, g, rfl, hD⟩ := h1 r rfl)
            | (at_builtin; go_must (refine wpList_append_ints _ rfl _ _ rfl w.heap.size 1 _ [(j : Int)] (intsN r) rfl (own_one w2 w.heap.size (j : Int) (by have := hbw.size; have := hb2.size; omega)) D g (by rw [intsN_len]; rfl) (hD.up (below_new _ _)) (by rw [intsN_len, hrl.out]; have := HNN.out; have := hn17.out; omega) (by simp; have := hbw.size; have := hb2.size; omega) ?_); intro v4 w4 hown4 hb4))
          obtain ⟨A4, c4, rfl, hA4, _, _⟩ := own_ints (l := [(j : Int)] ++ intsN r) hown4
          go_ret2
          refine ⟨fun l hl => ?_, fun h => ?_, ((hbw.trans (hb2.mono hbw.size)).alloc (by have := hbw.size; have := hb2.size; omega) _).trans hb4⟩
          · rw [HE.out] at hl
            injection hl with hl
            subst hl
            exact ⟨A4, c4, by rw [show (j :: r).length = ([(j : Int)] ++ intsN r).length by simp [intsN]]; rfl, hA4⟩
          · rw [HE.out] at h
            cases h
      · rw [if_neg hlt] at e1
        have HE := Lib.hid e1
        have hji : ¬ (j : Int) < (sh.length : Int) := by omega
        clear e1 hf hf2
        go_wp2
        go_ret2
        refine ⟨fun l hl => ?_, fun _ => rfl, hbw⟩
        rw [HE.out] at hl
        cases hl
end Go.Proofs.YtbcbaaapogejiaaDoor
