/-
  The reference: both parts of a list of cards; the rounds of a part of a filling.
-/
import Derived.Test.YtlollcabnfncpaaDoorFlA
import Derived.Deep.DeepCutAuto
namespace Go.Proofs.YtlollcabnfncpaaDoor
open Go.RowKit

/-- Two rows of the reference's cards of the call's own, apart from each other. -/
structure TwoR (W0 : World) (w : World) (v u : Value) (l m : List Cd) : Prop where
  own1 : w.ownsRow W0.heap.size 99 3 v l.length (rcdcells l)
  own2 : w.ownsRow W0.heap.size 99 3 u m.length (rcdcells m)
  apart : ∀ g, v.ownBlock = some g → u.ownBlock ≠ some g
  below : Below W0.heap.size W0 w
theorem TwoR.swap {W0 w : World} {v u : Value} {l m : List Cd} (h : TwoR W0 w v u l m) : TwoR W0 w u v m l := ⟨h.own2, h.own1, fun g h1 h2 => h.apart g h2 h1, h.below⟩
theorem TwoR.alloc {W0 w : World} {v u : Value} {l m : List Cd} (h : TwoR W0 w v u l m) (o : Obj) : TwoR W0 (w.alloc o) v u l m := ⟨h.own1.alloc _, h.own2.alloc _, h.apart, h.below.alloc h.below.size _⟩
theorem TwoR.push {W0 w w' : World} {v u : Value} {l m : List Cd} {x : Cd} {A : Option Addr} {c : Nat} (h : TwoR W0 w v u l m) (ho : w'.ownsRow W0.heap.size 99 3 (.slice A (l.length + 1) c) (l.length + 1) (rcdcells (l ++ [x]))) (hg : w.grownBy w' v.ownBlock) (hat : (Value.slice A (l.length + 1) c).ownBlock = v.ownBlock ∨ (Value.slice A (l.length + 1) c).ownBlock = some w.heap.size) :
    TwoR W0 w' (.slice A (l.length + 1) c) u (l ++ [x]) m := by
  refine ⟨by rw [List.length_append]; exact ho, (Chg.of_grown hg).own h.own2 (fun i hi e => h.apart i e.symm hi), ?_, h.below.grown hg h.below.size (fun g' hg' => (h.own1.lt g' hg').1)⟩
  intro i hi hu
  rcases hat with h1 | h1
  · exact h.apart _ (h1.symm.trans hi) hu
  · rw [h1] at hi
    have := (h.own2.lt i hu).2
    have := Option.some.inj hi
    omega
theorem ahead_cat (ac : Bool) (at' : Int) (l : List Cd) (x : Cd) : ahead ac at' (l ++ [x]) = ahead ac at' l ++ if befB ac at' x = true then [x] else [] := by
  unfold ahead
  rw [List.filter_append]
  congr 1
  exact filter_one _ _
theorem behind_cat (ac : Bool) (at' : Int) (l : List Cd) (x : Cd) : behind ac at' (l ++ [x]) = behind ac at' l ++ if befB ac at' x = true then [] else [x] := by
  unfold behind
  rw [List.filter_append]
  congr 1
  rw [filter_one]
  rcases befB ac at' x with _ | _ <;> rfl
def RetTwo (w : World) (l m : List Cd) (e : Ending) (w' : World) : Prop := ∃ A1 c1 A2 c2, e = .returned (.tuple #[.slice A1 l.length c1, .slice A2 m.length c2]) ∧ RcdsAt w' w'.heap.size A1 l ∧ RcdsAt w' w'.heap.size A2 m ∧ Below w.heap.size w w'

set_option maxRecDepth 100000 in
set_option maxHeartbeats 4000000 in
theorem rdivided_false (A : Option Addr) (c : Nat) (l : List Cd) (at' : Int) (w : World) (hA : RcdsAt w w.heap.size A l) (hn : l.length < 1000000) :
    Calls Tryd.prog 121 #[.slice A l.length c, .bool false, .int .i64 at'] w (RetTwo w (ahead false at' l) (behind false at' l)) := by
  have HA := Lib.hid hA
  have hb00 : Below w.heap.size w w := Below.refl _ _
  clear hA
  go_enter Tryd.func121, Tryd.ntmps121
  go_wp2
  go_loopw [8, 9, 10] (fun v u i wr => ∃ m : Nat, m ≤ l.length ∧ i = .int .i64 m ∧ TwoR w wr v u (ahead false at' (l.take m)) (behind false at' (l.take m))) (fun _ _ i _ => l.length - (intOf i).toNat)
  case atStart => exact ⟨0, Nat.zero_le _, rfl, ⟨World.ownsRow_nil _ _ _ _, World.ownsRow_nil _ _ _ _, by simp [Value.ownBlock], hb00⟩⟩
  case round =>
    obtain ⟨m, hm, rfl, T0⟩ := hrel
    have hbc := T0.below
    have hzc := hbc.size
    by_cases hmt : m < l.length
    · have hx : l[m]? = some l[m] := List.getElem?_eq_getElem hmt
      generalize l[m] = x at hx
      have hts := take_snoc hx
      have hah := ahead_cat false at' (l.take m) x
      have hbh := behind_cat false at' (l.take m) x
      rw [← hts] at hah hbh
      have hl1 : (ahead false at' (l.take m)).length < 1000000 := by have := cut_len false at' (l.take m); have := List.length_take_le m l; omega
      have hl2 : (behind false at' (l.take m)).length < 1000000 := by have := cut_len false at' (l.take m); have := List.length_take_le m l; omega
      obtain ⟨bx, off, rfl, hb, d0, d1, d2⟩ := HA.out m x hx
      replace d0 := (hbc.cell (p := ⟨bx, _, none⟩) (by simp; omega)).trans d0
      replace d1 := (hbc.cell (p := ⟨bx, _, none⟩) (by simp; omega)).trans d1
      replace d2 := (hbc.cell (p := ⟨bx, _, none⟩) (by simp; omega)).trans d2
      have hki : (m : Int) < (l.length : Int) := by omega
      have hk0 : (0 : Int) ≤ (m : Int) := by omega
      have hbz : bx < wr.heap.size := by omega
      have T1 := T0.alloc (.cells #[.int .i64 x.row, .int .i64 x.col, .bool x.t] 99)
      have hv : befB false at' x = decide (x.col < at') := rfl
      have HAH := Lib.hid hah
      have HBH := Lib.hid hbh
      clear hah hbh hts hx hb
      by_cases hc : x.col < at'
      · have HAH2 := Lib.hid (HAH.out.trans (by rw [hv, decide_eq_true hc, if_pos rfl]))
        have HBH2 := Lib.hid (HBH.out.trans (by rw [hv, decide_eq_true hc, if_pos rfl]))
        clear hv HAH HBH
        generalize ahead false at' (l.take m) = la at *
        generalize behind false at' (l.take m) = lb at *
        go_wp2_with (at_builtin; refine wpList_append_rcd _ rfl _ _ rfl w.heap.size _ wr.heap.size _ la x rfl T1.own1 rfl (heap_at _ _ _ (by first | rfl | simp)) hl1 (by simp; omega) ?_; intro A5 c5 w6 hown6 hgr6 hat6; have T6 := T1.push hown6 hgr6 hat6)
        go_roundw
        case rel => exact ⟨m + 1, by omega, by go_num, by rw [HAH2.out, HBH2.out, List.append_nil]; exact T6⟩
        case measure => simp [intOf]; omega
      · have HAH2 := Lib.hid (HAH.out.trans (by rw [hv, decide_eq_false hc, if_neg (by decide)]))
        have HBH2 := Lib.hid (HBH.out.trans (by rw [hv, decide_eq_false hc, if_neg (by decide)]))
        clear hv HAH HBH
        generalize ahead false at' (l.take m) = la at *
        generalize behind false at' (l.take m) = lb at *
        go_wp2_with (at_builtin; refine wpList_append_rcd _ rfl _ _ rfl w.heap.size _ wr.heap.size _ lb x rfl T1.swap.own1 rfl (heap_at _ _ _ (by first | rfl | simp)) hl2 (by simp; omega) ?_; intro A5 c5 w6 hown6 hgr6 hat6; have T6 := (T1.swap.push hown6 hgr6 hat6).swap)
        go_roundw
        case rel => exact ⟨m + 1, by omega, by go_num, by rw [HAH2.out, HBH2.out, List.append_nil]; exact T6⟩
        case measure => simp [intOf]; omega
    · have e : l.take m = l := List.take_of_length_le (by omega)
      rw [e] at T0
      obtain ⟨A6, c6, hv6, hA6, _⟩ := own_rcds T0.own1
      obtain ⟨A7, c7, hv7, hA7, _⟩ := own_rcds T0.own2
      subst hv6 hv7
      have hmt' : ¬ (m : Int) < (l.length : Int) := by omega
      have HR := Lib.hid (show RetTwo w (ahead false at' l) (behind false at' l) (.returned (.tuple #[.slice A6 (ahead false at' l).length c6, .slice A7 (behind false at' l).length c7])) wr from ⟨A6, c6, A7, c7, rfl, hA6, hA7, hbc⟩)
      clear T0 e hA6 hA7
      go_wp2
      go_ret2
      exact HR.out

set_option maxRecDepth 100000 in
set_option maxHeartbeats 4000000 in
theorem rdivided_true (A : Option Addr) (c : Nat) (l : List Cd) (at' : Int) (w : World) (hA : RcdsAt w w.heap.size A l) (hn : l.length < 1000000) :
    Calls Tryd.prog 121 #[.slice A l.length c, .bool true, .int .i64 at'] w (RetTwo w (ahead true at' l) (behind true at' l)) := by
  have HA := Lib.hid hA
  have hb00 : Below w.heap.size w w := Below.refl _ _
  clear hA
  go_enter Tryd.func121, Tryd.ntmps121
  go_wp2
  go_loopw [8, 9, 10] (fun v u i wr => ∃ m : Nat, m ≤ l.length ∧ i = .int .i64 m ∧ TwoR w wr v u (ahead true at' (l.take m)) (behind true at' (l.take m))) (fun _ _ i _ => l.length - (intOf i).toNat)
  case atStart => exact ⟨0, Nat.zero_le _, rfl, ⟨World.ownsRow_nil _ _ _ _, World.ownsRow_nil _ _ _ _, by simp [Value.ownBlock], hb00⟩⟩
  case round =>
    obtain ⟨m, hm, rfl, T0⟩ := hrel
    have hbc := T0.below
    have hzc := hbc.size
    by_cases hmt : m < l.length
    · have hx : l[m]? = some l[m] := List.getElem?_eq_getElem hmt
      generalize l[m] = x at hx
      have hts := take_snoc hx
      have hah := ahead_cat true at' (l.take m) x
      have hbh := behind_cat true at' (l.take m) x
      rw [← hts] at hah hbh
      have hl1 : (ahead true at' (l.take m)).length < 1000000 := by have := cut_len true at' (l.take m); have := List.length_take_le m l; omega
      have hl2 : (behind true at' (l.take m)).length < 1000000 := by have := cut_len true at' (l.take m); have := List.length_take_le m l; omega
      obtain ⟨bx, off, rfl, hb, d0, d1, d2⟩ := HA.out m x hx
      replace d0 := (hbc.cell (p := ⟨bx, _, none⟩) (by simp; omega)).trans d0
      replace d1 := (hbc.cell (p := ⟨bx, _, none⟩) (by simp; omega)).trans d1
      replace d2 := (hbc.cell (p := ⟨bx, _, none⟩) (by simp; omega)).trans d2
      have hki : (m : Int) < (l.length : Int) := by omega
      have hk0 : (0 : Int) ≤ (m : Int) := by omega
      have hbz : bx < wr.heap.size := by omega
      have T1 := T0.alloc (.cells #[.int .i64 x.row, .int .i64 x.col, .bool x.t] 99)
      have hv : befB true at' x = decide (x.row < at') := rfl
      have HAH := Lib.hid hah
      have HBH := Lib.hid hbh
      clear hah hbh hts hx hb
      by_cases hc : x.row < at'
      · have HAH2 := Lib.hid (HAH.out.trans (by rw [hv, decide_eq_true hc, if_pos rfl]))
        have HBH2 := Lib.hid (HBH.out.trans (by rw [hv, decide_eq_true hc, if_pos rfl]))
        clear hv HAH HBH
        generalize ahead true at' (l.take m) = la at *
        generalize behind true at' (l.take m) = lb at *
        go_wp2_with (at_builtin; refine wpList_append_rcd _ rfl _ _ rfl w.heap.size _ wr.heap.size _ la x rfl T1.own1 rfl (heap_at _ _ _ (by first | rfl | simp)) hl1 (by simp; omega) ?_; intro A5 c5 w6 hown6 hgr6 hat6; have T6 := T1.push hown6 hgr6 hat6)
        go_roundw
        case rel => exact ⟨m + 1, by omega, by go_num, by rw [HAH2.out, HBH2.out, List.append_nil]; exact T6⟩
        case measure => simp [intOf]; omega
      · have HAH2 := Lib.hid (HAH.out.trans (by rw [hv, decide_eq_false hc, if_neg (by decide)]))
        have HBH2 := Lib.hid (HBH.out.trans (by rw [hv, decide_eq_false hc, if_neg (by decide)]))
        clear hv HAH HBH
        generalize ahead true at' (l.take m) = la at *
        generalize behind true at' (l.take m) = lb at *
        go_wp2_with (at_builtin; refine wpList_append_rcd _ rfl _ _ rfl w.heap.size _ wr.heap.size _ lb x rfl T1.swap.own1 rfl (heap_at _ _ _ (by first | rfl | simp)) hl2 (by simp; omega) ?_; intro A5 c5 w6 hown6 hgr6 hat6; have T6 := (T1.swap.push hown6 hgr6 hat6).swap)
        go_roundw
        case rel => exact ⟨m + 1, by omega, by go_num, by rw [HAH2.out, HBH2.out, List.append_nil]; exact T6⟩
        case measure => simp [intOf]; omega
    · have e : l.take m = l := List.take_of_length_le (by omega)
      rw [e] at T0
      obtain ⟨A6, c6, hv6, hA6, _⟩ := own_rcds T0.own1
      obtain ⟨A7, c7, hv7, hA7, _⟩ := own_rcds T0.own2
      subst hv6 hv7
      have hmt' : ¬ (m : Int) < (l.length : Int) := by omega
      have HR := Lib.hid (show RetTwo w (ahead true at' l) (behind true at' l) (.returned (.tuple #[.slice A6 (ahead true at' l).length c6, .slice A7 (behind true at' l).length c7])) wr from ⟨A6, c6, A7, c7, rfl, hA6, hA7, hbc⟩)
      clear T0 e hA6 hA7
      go_wp2
      go_ret2
      exact HR.out

theorem rdivided_any (A : Option Addr) (c : Nat) (l : List Cd) (ac : Bool) (at' : Int) (w : World) (hA : RcdsAt w w.heap.size A l) (hn : l.length < 1000000) :
    Calls Tryd.prog 121 #[.slice A l.length c, .bool ac, .int .i64 at'] w (RetTwo w (ahead ac at' l) (behind ac at' l)) := by
  rcases ac with _ | _
  · exact rdivided_false A c l at' w hA hn
  · exact rdivided_true A c l at' w hA hn

/-- The reference's rounds: the other cuts are tried first. -/
def rndS (s : Sh) : Nat → List Cd → Int
  | 0, _ => 0
  | n + 1, l => if l.length = 1 then 0 else manyD s (rndS s n) l (manyD s (rndS s n) l (-1) true 5) false 5
theorem rnd_min (s : Sh) (n : Nat) {l : List Cd} (h : ¬ l.length = 1) : MinOf (rndS s (n + 1) l) (fun k => ∃ ac, ∃ j : Nat, j < 5 ∧ CutP s (rndS s n) l ac (1 + (j : Int)) k) := by
  rw [rndS, if_neg h]
  have h0 : MinOf (-1) (fun _ : Int => False) := .inl ⟨rfl, fun _ h => h⟩
  refine (many_min (many_min h0 true 5) false 5).congr fun k => ⟨?_, ?_⟩
  · rintro ((e | ⟨j, hj, e⟩) | ⟨j, hj, e⟩)
    · exact e.elim
    · exact ⟨true, j, hj, e⟩
    · exact ⟨false, j, hj, e⟩
  · rintro ⟨ac, j, hj, e⟩
    cases ac
    · exact .inr ⟨j, hj, e⟩
    · exact .inl (.inr ⟨j, hj, e⟩)
theorem rnd_dep (s : Sh) : ∀ (n : Nat) (l : List Cd), 1 ≤ l.length → l.length ≤ n → rndS s n l = depS s n l
  | 0, l, h1, h2 => by omega
  | n + 1, l, h1, h2 => by
    by_cases h : l.length = 1
    · rw [rndS, depS, if_pos h, if_pos (by omega)]
    · refine (rnd_min s n h).same ((dep_min s n (by omega)).congr fun k => ?_)
      have key : ∀ ac (j : Nat), CutP s (depS s n) l ac (1 + (j : Int)) k ↔ CutP s (rndS s n) l ac (1 + (j : Int)) k := fun ac j => by
        have hl := cut_len ac (1 + (j : Int)) l
        unfold CutP
        constructor
        · rintro ⟨a, b, c, d, e, f⟩
          have k1 := len_pos a
          have k2 := len_pos b
          rw [rnd_dep s n _ k1 (by omega), rnd_dep s n _ k2 (by omega)]
          exact ⟨a, b, c, d, e, f⟩
        · rintro ⟨a, b, c, d, e, f⟩
          have k1 := len_pos a
          have k2 := len_pos b
          rw [rnd_dep s n _ k1 (by omega), rnd_dep s n _ k2 (by omega)] at *
          exact ⟨a, b, c, d, e, f⟩
      constructor
      · rintro ⟨ac, j, hj, h⟩; exact ⟨ac, j, hj, (key ac j).1 h⟩
      · rintro ⟨ac, j, hj, h⟩; exact ⟨ac, j, hj, (key ac j).2 h⟩
theorem rnd_le (s : Sh) : ∀ (n : Nat) (l : List Cd), -1 ≤ rndS s n l ∧ rndS s n l ≤ n
  | 0, l => by rw [rndS]; omega
  | n + 1, l => by
    by_cases h2 : l.length = 1
    · rw [rndS, if_pos h2]; omega
    · rcases rnd_min s n h2 with ⟨e, _⟩ | ⟨h0, ⟨ac, j, hj, a, b, _, c, d, e⟩, _⟩
      · omega
      · have k1 := rnd_le s n (ahead ac (1 + (j : Int)) l)
        have k2 := rnd_le s n (behind ac (1 + (j : Int)) l)
        omega
theorem many_rd (s : Sh) (n : Nat) (l : List Cd) (ac : Bool) {best : Int} (hb : -1 ≤ best ∧ best ≤ n + 1) : ∀ k : Nat, -1 ≤ manyD s (rndS s n) l best ac k ∧ manyD s (rndS s n) l best ac k ≤ n + 1
  | 0 => hb
  | k + 1 => by
    have ih := many_rd s n l ac hb k
    rw [manyD]
    unfold stepD
    split
    · exact ih
    · split
      · have k1 := rnd_le s n (ahead ac (1 + (k : Int)) l)
        have k2 := rnd_le s n (behind ac (1 + (k : Int)) l)
        omega
      · exact ih
def outR (s : Sh) (f : List Cd → Int) (l : List Cd) : Nat → Int
  | 0 => -1
  | 1 => manyD s f l (-1) true 5
  | _ => manyD s f l (manyD s f l (-1) true 5) false 5

theorem rounds_one (s : Sh) (A : Option Addr) (c : Nat) (l : List Cd) (w : World) (hl : l.length = 1) :
    Calls Tryd.prog 78 #[.agg #[.int .i64 s.r, .int .i64 s.c, .int .i64 s.l, .int .i64 s.w], .slice A l.length c] w fun e w' => e = .returned (.int .i64 0) ∧ Below w.heap.size w w' := by
  rw [hl]
  go_enter Tryd.func78, Tryd.ntmps78
  go_wp2
  go_ret
  exact ⟨rfl, below_new w _⟩

set_option maxRecDepth 100000 in
set_option maxHeartbeats 8000000 in
theorem rounds_more (s : Sh) (hs : s.Ok) (n : Nat) (hn36 : n ≤ 40) (A : Option Addr) (c : Nat) (l : List Cd) (w : World) (hA : RcdsAt w w.heap.size A l) (hf : ∀ x ∈ l, fitP s x) (hl : ¬ l.length = 1) (hln : l.length ≤ n + 1)
    (ih : ∀ (B : Option Addr) (d : Nat) (m : List Cd) (W : World), RcdsAt W W.heap.size B m → (∀ x ∈ m, fitP s x) → 1 ≤ m.length → m.length ≤ n → Calls Tryd.prog 78 #[.agg #[.int .i64 s.r, .int .i64 s.c, .int .i64 s.l, .int .i64 s.w], .slice B m.length d] W fun e w' => e = .returned (.int .i64 (rndS s n m)) ∧ Below W.heap.size W w') :
    Calls Tryd.prog 78 #[.agg #[.int .i64 s.r, .int .i64 s.c, .int .i64 s.l, .int .i64 s.w], .slice A l.length c] w fun e w' => e = .returned (.int .i64 (rndS s (n + 1) l)) ∧ Below w.heap.size w w' := by
  obtain ⟨W0, hW0⟩ : ∃ W0, W0 = w.alloc (.cells #[.int .i64 s.r, .int .i64 s.c, .int .i64 s.l, .int .i64 s.w] 24) := ⟨_, rfl⟩
  have HB := Lib.hid (show Below w.heap.size w W0 from hW0 ▸ below_new w _)
  have hz0 : w.heap.size + 1 = W0.heap.size := by rw [hW0]; simp
  have HA := Lib.hid ((hA.below HB.out (Nat.le_refl _)).mono (show w.heap.size ≤ W0.heap.size by omega))
  have HK := Lib.hid (fun (W : World) (h : Below W0.heap.size W0 W) => show W.cell? ⟨w.heap.size, 0, none⟩ = some (.int .i64 s.r) ∧ W.cell? ⟨w.heap.size, 1, none⟩ = some (.int .i64 s.c) ∧ W.cell? ⟨w.heap.size, 2, none⟩ = some (.int .i64 s.l) ∧ W.cell? ⟨w.heap.size, 3, none⟩ = some (.int .i64 s.w) from
    ⟨(h.cell (p := ⟨w.heap.size, 0, none⟩) (by simp; omega)).trans (by rw [hW0]; simp [go_sem]), (h.cell (p := ⟨w.heap.size, 1, none⟩) (by simp; omega)).trans (by rw [hW0]; simp [go_sem]), (h.cell (p := ⟨w.heap.size, 2, none⟩) (by simp; omega)).trans (by rw [hW0]; simp [go_sem]), (h.cell (p := ⟨w.heap.size, 3, none⟩) (by simp; omega)).trans (by rw [hW0]; simp [go_sem])⟩)
  have HD : Hid (rndS s (n + 1) l = outR s (rndS s n) l 2) := Lib.hid (by rw [rndS, if_neg hl]; rfl)
  have HG := Lib.hid (fun (ac : Bool) (at' : Int) (W : World) (h : Below W0.heap.size W0 W) => through_any s A c l ac at' W hs (HA.out.up h) hf (by omega))
  have HDV := Lib.hid (fun (ac : Bool) (at' : Int) (W : World) (h : Below W0.heap.size W0 W) => rdivided_any A c l ac at' W (HA.out.up h) (by omega))
  have HX := Lib.hid (fun (ac : Bool) (at' : Int) (h1 : ¬ behind ac at' l = []) (h2 : ¬ ahead ac at' l = []) (B : Option Addr) (d : Nat) (W : World) (h : RcdsAt W W.heap.size B (ahead ac at' l)) => ih B d (ahead ac at' l) W h (fun x hx => hf x (mem_ahead.1 hx).1) (len_pos h2) (by have := cut_len ac at' l; have := len_pos h1; omega))
  have HY := Lib.hid (fun (ac : Bool) (at' : Int) (h1 : ¬ ahead ac at' l = []) (h2 : ¬ behind ac at' l = []) (B : Option Addr) (d : Nat) (W : World) (h : RcdsAt W W.heap.size B (behind ac at' l)) => ih B d (behind ac at' l) W h (fun x hx => hf x (mem_behind.1 hx).1) (len_pos h2) (by have := cut_len ac at' l; have := len_pos h1; omega))
  have HLE := Lib.hid (fun m => rnd_le s n m)
  have HBD := Lib.hid (fun (ac : Bool) (best : Int) (hb : -1 ≤ best ∧ best ≤ n + 1) (k : Nat) => many_rd s n l ac hb k)
  have hl2 : ((l.length : Int) == 1) = false := beq_eq_false_iff_ne.2 (by omega)
  have hlb : l.length ≤ 41 := by omega
  have hb00 : Below W0.heap.size W0 W0 := Below.refl _ _
  rw [HD.out]
  clear hA hf ih HD hln
  generalize rndS s n = f at *
  go_enter Tryd.func78, Tryd.ntmps78
  go_wp2
  rw [← hW0]
  have HZ := Lib.hid hz0
  clear hW0 hz0 hl
  go_loopw [5, 6] (fun b i wr => ∃ k : Nat, k ≤ 2 ∧ i = .int .i64 k ∧ b = .int .i64 (outR s f l k) ∧ Below W0.heap.size W0 wr) (fun _ i _ => 2 - (intOf i).toNat)
  case atStart => exact ⟨0, by omega, rfl, rfl, hb00⟩
  case round =>
    obtain ⟨k, hk, rfl, rfl, hbr⟩ := hrel
    by_cases hlt : k < 2
    · rcases (show k = 0 ∨ k = 1 by omega) with rfl | rfl
      · clear hlt hk
        obtain ⟨best0, hbest0⟩ : ∃ b, b = outR s f l 0 := ⟨_, rfl⟩
        have HB0 := Lib.hid hbest0
        have hbb : -1 ≤ best0 ∧ best0 ≤ n + 1 := by
          rw [hbest0]; show (-1 : Int) ≤ -1 ∧ (-1 : Int) ≤ n + 1; omega
        have HMB := Lib.hid (HBD.out true best0 hbb)
        rw [← hbest0]
        clear hbest0 hbb
        rw [show ((0 : Nat) : Int) = 0 from rfl]
        go_wp2
        go_loopw [5, 7] (fun b i wr => ∃ j : Nat, j ≤ 5 ∧ i = .int .i64 (1 + (j : Int)) ∧ b = .int .i64 (manyD s f l best0 true j) ∧ Below W0.heap.size W0 wr) (fun _ i _ => 8 - (intOf i).toNat)
        case atStart => exact ⟨0, by omega, by simp, rfl, hbr⟩
        case round =>
          obtain ⟨j, hj, rfl, rfl, hbq⟩ := hrel
          by_cases hjt : j < 5
          · have hjt' : 1 + (j : Int) < 6 := by omega
            have HST := Lib.hid (show manyD s f l best0 true (j + 1) = stepD s f l (manyD s f l best0 true j) true (1 + (j : Int)) from rfl)
            have hmb := HMB.out j
            generalize manyD s f l best0 true j = best at *
            have hzq := hbq.size
            obtain ⟨q0, q1, q2, q3⟩ := HK.out _ hbq
            have HGG := Lib.hid (HG.out true (1 + (j : Int)))
            have HDD := Lib.hid (HDV.out true (1 + (j : Int)))
            have HXX := Lib.hid (HX.out true (1 + (j : Int)))
            have HYY := Lib.hid (HY.out true (1 + (j : Int)))
            have HSS := Lib.hid HST.out
            unfold stepD at HSS
            generalize thrA s true (1 + (j : Int)) l = tv at *
            generalize ahead true (1 + (j : Int)) l = X at *
            generalize behind true (1 + (j : Int)) l = Y at *
            unfold RetTwo at HDD
            clear HST
            by_cases hX : X = []
            · have hx0 : ((X.length : Int) == 0) = true := by rw [hX]; rfl
              have hX' := Lib.hid hX
              clear hX
              go_wp2_with (go_at_call 121; refine (HDD.out _ hbq).mono ?_; rintro e w4 ⟨A6, c6, A7, c7, rfl, hA6, hA7, hb4⟩; have hbc := hbq.trans (hb4.mono hzq); have hzc := hbc.size; obtain ⟨r0, r1, r2, r3⟩ := HK.out _ hbc)
              have HE := Lib.hid (show best = manyD s f l best0 true (j + 1) from (by rw [HSS.out, if_pos (Or.inl hX'.out)]))
              go_roundw
              case rel => exact ⟨j + 1, by omega, by go_num, by rw [HE.out], hbc⟩
              case measure => simp [intOf]; omega
            have hx0 : ((X.length : Int) == 0) = false := beq_eq_false_iff_ne.2 (by have := len_pos hX; omega)
            by_cases hY : Y = []
            · have hy0 : ((Y.length : Int) == 0) = true := by rw [hY]; rfl
              have hY' := Lib.hid hY
              clear hY
              go_wp2_with (go_at_call 121; refine (HDD.out _ hbq).mono ?_; rintro e w4 ⟨A6, c6, A7, c7, rfl, hA6, hA7, hb4⟩; have hbc := hbq.trans (hb4.mono hzq); have hzc := hbc.size; obtain ⟨r0, r1, r2, r3⟩ := HK.out _ hbc)
              have HE := Lib.hid (show best = manyD s f l best0 true (j + 1) from (by rw [HSS.out, if_pos (Or.inr (Or.inl hY'.out))]))
              go_roundw
              case rel => exact ⟨j + 1, by omega, by go_num, by rw [HE.out], hbc⟩
              case measure => simp [intOf]; omega
            have hy0 : ((Y.length : Int) == 0) = false := beq_eq_false_iff_ne.2 (by have := len_pos hY; omega)
            rcases tv with _ | _
            · go_wp2_with (first | (go_at_call 121; refine (HDD.out _ hbq).mono ?_; rintro e w4 ⟨A6, c6, A7, c7, rfl, hA6, hA7, hb4⟩; have hbc := hbq.trans (hb4.mono hzq); have hzc := hbc.size; obtain ⟨r0, r1, r2, r3⟩ := HK.out _ hbc) | (go_at_call 114; refine (HGG.out _ hbc).mono ?_; rintro e w5 ⟨rfl, hb5⟩; have hbc5 := hbc.trans (hb5.mono hzc)))
              have HE := Lib.hid (show best = manyD s f l best0 true (j + 1) from (by rw [HSS.out]; simp))
              go_roundw
              case rel => exact ⟨j + 1, by omega, by go_num, by rw [HE.out], hbc5⟩
              case measure => simp [intOf]; omega
            have HS3 := Lib.hid (show manyD s f l best0 true (j + 1) = (if 0 ≤ f X ∧ 0 ≤ f Y ∧ (best < 0 ∨ 1 + max (f X) (f Y) < best) then 1 + max (f X) (f Y) else best) from (by rw [HSS.out]; simp [hX, hY]))
            have HX5 := Lib.hid (HXX.out hY hX)
            have HY5 := Lib.hid (HYY.out hX hY)
            have hxe := HLE.out X
            have hye := HLE.out Y
            generalize f X = fx at *
            generalize f Y = fy at *
            clear HSS HXX HYY
            go_upto_region 12 with (first | (go_at_call 121; refine (HDD.out _ hbq).mono ?_; rintro e w4 ⟨A6, c6, A7, c7, rfl, hA6, hA7, hb4⟩; have hbc := hbq.trans (hb4.mono hzq); have hzc := hbc.size; obtain ⟨r0, r1, r2, r3⟩ := HK.out _ hbc) | (go_at_call 114; refine (HGG.out _ hbc).mono ?_; rintro e w5 ⟨rfl, hb5⟩))
            have HV1 := Lib.hid (fun (W : World) (Q : Ending → World → Prop) (h : Below w5.heap.size w5 W) (hQ : ∀ w', Below w5.heap.size w5 w' → Q (.returned (.int .i64 fx)) w') => (HX5.out A6 c6 W ((hA6.up hb5).up h)).mono fun e w' ⟨he, hb⟩ => he ▸ hQ w' (h.trans (hb.mono h.size)))
            have HV2 := Lib.hid (fun (W : World) (Q : Ending → World → Prop) (h : Below w5.heap.size w5 W) (hQ : ∀ w', Below w5.heap.size w5 w' → Q (.returned (.int .i64 fy)) w') => (HY5.out A7 c7 W ((hA7.up hb5).up h)).mono fun e w' ⟨he, hb⟩ => he ▸ hQ w' (h.trans (hb.mono h.size)))
            have hbc5 := hbc.trans (hb5.mono hzc)
            have HC5 := Lib.hid hbc5
            have HK5 := Lib.hid (fun (W : World) (h : Below w5.heap.size w5 W) => HK.out W (HC5.out.trans (h.mono HC5.out.size)))
            have hbd : Below w5.heap.size w5 w5.drew := (Below.refl _ _).drew
            clear hA6 hA7 hb5 hbc hbq hbr hbc5 q0 q1 q2 q3 r0 r1 r2 r3 hb4
            go_region_held3 (fun W => W.cell? ⟨w.heap.size, 0, none⟩ = some (.int .i64 s.r) ∧ W.cell? ⟨w.heap.size, 1, none⟩ = some (.int .i64 s.c) ∧ W.cell? ⟨w.heap.size, 2, none⟩ = some (.int .i64 s.l) ∧ W.cell? ⟨w.heap.size, 3, none⟩ = some (.int .i64 s.w))
              (exact HK5.out _ (by assumption))
              (first
                | (go_at_call 78; with_reducible refine HV1.out _ _ (by assumption) ?_; intro w6 hb6)
                | (go_at_call 78; with_reducible refine HV2.out _ _ (by assumption) ?_; intro w7 hb7))
            all_goals
              change Exit.then _ _ Exit.normal _ _
              have HB8 := Lib.hid (show Below w5.heap.size w5 w7 by assumption)
              have hbw := HC5.out.trans (HB8.out.mono HC5.out.size)
              clear hbd
              by_cases hfx : 0 ≤ fx
              rotate_left
              · have HNE := Lib.hid (show best = manyD s f l best0 true (j + 1) from (by rw [HS3.out, if_neg (fun e => hfx e.1)]))
                go_wp2
                go_roundw
                case rel => exact ⟨j + 1, by omega, by go_num, by first | rw [HNE.out] | rw [HMX.out, HNE.out], hbw⟩
                case measure => simp [intOf]; omega
              by_cases hfy : 0 ≤ fy
              rotate_left
              · have HNE := Lib.hid (show best = manyD s f l best0 true (j + 1) from (by rw [HS3.out, if_neg (fun e => hfy e.2.1)]))
                go_wp2
                go_roundw
                case rel => exact ⟨j + 1, by omega, by go_num, by first | rw [HNE.out] | rw [HMX.out, HNE.out], hbw⟩
                case measure => simp [intOf]; omega
              obtain ⟨mx, hmx⟩ : ∃ m, max fx fy = m := ⟨_, rfl⟩
              have HMX := Lib.hid (show (if fx < fy then fy else fx) = mx by rw [← hmx]; split <;> omega)
              have hmb2 : 0 ≤ mx ∧ mx ≤ 40 := by omega
              have hw1 : IntKind.i64.wrap (1 + mx) = 1 + mx := IntWalk.i64_in _ (by omega)
              have HS4 := Lib.hid (show manyD s f l best0 true (j + 1) = if best < 0 ∨ 1 + mx < best then 1 + mx else best from (by rw [HS3.out, hmx]; simp [hfx, hfy]))
              clear HS3
              by_cases hb1 : best < 0
              · have HNE := Lib.hid (show 1 + mx = manyD s f l best0 true (j + 1) from (by rw [HS4.out, if_pos (Or.inl hb1)]))
                go_wp2
                go_roundw
                case rel => exact ⟨j + 1, by omega, by go_num, by first | rw [HNE.out] | rw [HMX.out, HNE.out], hbw⟩
                case measure => simp [intOf]; omega
              · by_cases hb2 : 1 + mx < best
                · have HNE := Lib.hid (show 1 + mx = manyD s f l best0 true (j + 1) from (by rw [HS4.out, if_pos (Or.inr hb2)]))
                  go_wp2
                  go_roundw
                  case rel => exact ⟨j + 1, by omega, by go_num, by first | rw [HNE.out] | rw [HMX.out, HNE.out], hbw⟩
                  case measure => simp [intOf]; omega
                · have HNE := Lib.hid (show best = manyD s f l best0 true (j + 1) from (by rw [HS4.out, if_neg (fun e => e.elim hb1 hb2)]))
                  go_wp2
                  go_roundw
                  case rel => exact ⟨j + 1, by omega, by go_num, by first | rw [HNE.out] | rw [HMX.out, HNE.out], hbw⟩
                  case measure => simp [intOf]; omega
          · have hjt' : ¬ 1 + (j : Int) < 6 := by omega
            obtain rfl : j = 5 := by omega
            have HO := Lib.hid (show manyD s f l best0 true 5 = outR s f l 1 by rw [HB0.out]; rfl)
            go_wp2
            go_roundw
            case rel => exact ⟨1, by omega, by first | rfl | go_num, by rw [HO.out], hbq⟩
            case measure => simp [intOf]
      · clear hlt hk
        obtain ⟨best0, hbest0⟩ : ∃ b, b = outR s f l 1 := ⟨_, rfl⟩
        have HB0 := Lib.hid hbest0
        have hbb : -1 ≤ best0 ∧ best0 ≤ n + 1 := by
          rw [hbest0]; exact HBD.out true (-1) (by omega) 5
        have HMB := Lib.hid (HBD.out false best0 hbb)
        rw [← hbest0]
        clear hbest0 hbb
        rw [show ((1 : Nat) : Int) = 1 from rfl]
        go_wp2
        go_loopw [5, 7] (fun b i wr => ∃ j : Nat, j ≤ 5 ∧ i = .int .i64 (1 + (j : Int)) ∧ b = .int .i64 (manyD s f l best0 false j) ∧ Below W0.heap.size W0 wr) (fun _ i _ => 8 - (intOf i).toNat)
        case atStart => exact ⟨0, by omega, by simp, rfl, hbr⟩
        case round =>
          obtain ⟨j, hj, rfl, rfl, hbq⟩ := hrel
          by_cases hjt : j < 5
          · have hjt' : 1 + (j : Int) < 6 := by omega
            have HST := Lib.hid (show manyD s f l best0 false (j + 1) = stepD s f l (manyD s f l best0 false j) false (1 + (j : Int)) from rfl)
            have hmb := HMB.out j
            generalize manyD s f l best0 false j = best at *
            have hzq := hbq.size
            obtain ⟨q0, q1, q2, q3⟩ := HK.out _ hbq
            have HGG := Lib.hid (HG.out false (1 + (j : Int)))
            have HDD := Lib.hid (HDV.out false (1 + (j : Int)))
            have HXX := Lib.hid (HX.out false (1 + (j : Int)))
            have HYY := Lib.hid (HY.out false (1 + (j : Int)))
            have HSS := Lib.hid HST.out
            unfold stepD at HSS
            generalize thrA s false (1 + (j : Int)) l = tv at *
            generalize ahead false (1 + (j : Int)) l = X at *
            generalize behind false (1 + (j : Int)) l = Y at *
            unfold RetTwo at HDD
            clear HST
            by_cases hX : X = []
            · have hx0 : ((X.length : Int) == 0) = true := by rw [hX]; rfl
              have hX' := Lib.hid hX
              clear hX
              go_wp2_with (go_at_call 121; refine (HDD.out _ hbq).mono ?_; rintro e w4 ⟨A6, c6, A7, c7, rfl, hA6, hA7, hb4⟩; have hbc := hbq.trans (hb4.mono hzq); have hzc := hbc.size; obtain ⟨r0, r1, r2, r3⟩ := HK.out _ hbc)
              have HE := Lib.hid (show best = manyD s f l best0 false (j + 1) from (by rw [HSS.out, if_pos (Or.inl hX'.out)]))
              go_roundw
              case rel => exact ⟨j + 1, by omega, by go_num, by rw [HE.out], hbc⟩
              case measure => simp [intOf]; omega
            have hx0 : ((X.length : Int) == 0) = false := beq_eq_false_iff_ne.2 (by have := len_pos hX; omega)
            by_cases hY : Y = []
            · have hy0 : ((Y.length : Int) == 0) = true := by rw [hY]; rfl
              have hY' := Lib.hid hY
              clear hY
              go_wp2_with (go_at_call 121; refine (HDD.out _ hbq).mono ?_; rintro e w4 ⟨A6, c6, A7, c7, rfl, hA6, hA7, hb4⟩; have hbc := hbq.trans (hb4.mono hzq); have hzc := hbc.size; obtain ⟨r0, r1, r2, r3⟩ := HK.out _ hbc)
              have HE := Lib.hid (show best = manyD s f l best0 false (j + 1) from (by rw [HSS.out, if_pos (Or.inr (Or.inl hY'.out))]))
              go_roundw
              case rel => exact ⟨j + 1, by omega, by go_num, by rw [HE.out], hbc⟩
              case measure => simp [intOf]; omega
            have hy0 : ((Y.length : Int) == 0) = false := beq_eq_false_iff_ne.2 (by have := len_pos hY; omega)
            rcases tv with _ | _
            · go_wp2_with (first | (go_at_call 121; refine (HDD.out _ hbq).mono ?_; rintro e w4 ⟨A6, c6, A7, c7, rfl, hA6, hA7, hb4⟩; have hbc := hbq.trans (hb4.mono hzq); have hzc := hbc.size; obtain ⟨r0, r1, r2, r3⟩ := HK.out _ hbc) | (go_at_call 114; refine (HGG.out _ hbc).mono ?_; rintro e w5 ⟨rfl, hb5⟩; have hbc5 := hbc.trans (hb5.mono hzc)))
              have HE := Lib.hid (show best = manyD s f l best0 false (j + 1) from (by rw [HSS.out]; simp))
              go_roundw
              case rel => exact ⟨j + 1, by omega, by go_num, by rw [HE.out], hbc5⟩
              case measure => simp [intOf]; omega
            have HS3 := Lib.hid (show manyD s f l best0 false (j + 1) = (if 0 ≤ f X ∧ 0 ≤ f Y ∧ (best < 0 ∨ 1 + max (f X) (f Y) < best) then 1 + max (f X) (f Y) else best) from (by rw [HSS.out]; simp [hX, hY]))
            have HX5 := Lib.hid (HXX.out hY hX)
            have HY5 := Lib.hid (HYY.out hX hY)
            have hxe := HLE.out X
            have hye := HLE.out Y
            generalize f X = fx at *
            generalize f Y = fy at *
            clear HSS HXX HYY
            go_upto_region 12 with (first | (go_at_call 121; refine (HDD.out _ hbq).mono ?_; rintro e w4 ⟨A6, c6, A7, c7, rfl, hA6, hA7, hb4⟩; have hbc := hbq.trans (hb4.mono hzq); have hzc := hbc.size; obtain ⟨r0, r1, r2, r3⟩ := HK.out _ hbc) | (go_at_call 114; refine (HGG.out _ hbc).mono ?_; rintro e w5 ⟨rfl, hb5⟩))
            have HV1 := Lib.hid (fun (W : World) (Q : Ending → World → Prop) (h : Below w5.heap.size w5 W) (hQ : ∀ w', Below w5.heap.size w5 w' → Q (.returned (.int .i64 fx)) w') => (HX5.out A6 c6 W ((hA6.up hb5).up h)).mono fun e w' ⟨he, hb⟩ => he ▸ hQ w' (h.trans (hb.mono h.size)))
            have HV2 := Lib.hid (fun (W : World) (Q : Ending → World → Prop) (h : Below w5.heap.size w5 W) (hQ : ∀ w', Below w5.heap.size w5 w' → Q (.returned (.int .i64 fy)) w') => (HY5.out A7 c7 W ((hA7.up hb5).up h)).mono fun e w' ⟨he, hb⟩ => he ▸ hQ w' (h.trans (hb.mono h.size)))
            have hbc5 := hbc.trans (hb5.mono hzc)
            have HC5 := Lib.hid hbc5
            have HK5 := Lib.hid (fun (W : World) (h : Below w5.heap.size w5 W) => HK.out W (HC5.out.trans (h.mono HC5.out.size)))
            have hbd : Below w5.heap.size w5 w5.drew := (Below.refl _ _).drew
            clear hA6 hA7 hb5 hbc hbq hbr hbc5 q0 q1 q2 q3 r0 r1 r2 r3 hb4
            go_region_held3 (fun W => W.cell? ⟨w.heap.size, 0, none⟩ = some (.int .i64 s.r) ∧ W.cell? ⟨w.heap.size, 1, none⟩ = some (.int .i64 s.c) ∧ W.cell? ⟨w.heap.size, 2, none⟩ = some (.int .i64 s.l) ∧ W.cell? ⟨w.heap.size, 3, none⟩ = some (.int .i64 s.w))
              (exact HK5.out _ (by assumption))
              (first
                | (go_at_call 78; with_reducible refine HV1.out _ _ (by assumption) ?_; intro w6 hb6)
                | (go_at_call 78; with_reducible refine HV2.out _ _ (by assumption) ?_; intro w7 hb7))
            all_goals
              change Exit.then _ _ Exit.normal _ _
              have HB8 := Lib.hid (show Below w5.heap.size w5 w7 by assumption)
              have hbw := HC5.out.trans (HB8.out.mono HC5.out.size)
              clear hbd
              by_cases hfx : 0 ≤ fx
              rotate_left
              · have HNE := Lib.hid (show best = manyD s f l best0 false (j + 1) from (by rw [HS3.out, if_neg (fun e => hfx e.1)]))
                go_wp2
                go_roundw
                case rel => exact ⟨j + 1, by omega, by go_num, by first | rw [HNE.out] | rw [HMX.out, HNE.out], hbw⟩
                case measure => simp [intOf]; omega
              by_cases hfy : 0 ≤ fy
              rotate_left
              · have HNE := Lib.hid (show best = manyD s f l best0 false (j + 1) from (by rw [HS3.out, if_neg (fun e => hfy e.2.1)]))
                go_wp2
                go_roundw
                case rel => exact ⟨j + 1, by omega, by go_num, by first | rw [HNE.out] | rw [HMX.out, HNE.out], hbw⟩
                case measure => simp [intOf]; omega
              obtain ⟨mx, hmx⟩ : ∃ m, max fx fy = m := ⟨_, rfl⟩
              have HMX := Lib.hid (show (if fx < fy then fy else fx) = mx by rw [← hmx]; split <;> omega)
              have hmb2 : 0 ≤ mx ∧ mx ≤ 40 := by omega
              have hw1 : IntKind.i64.wrap (1 + mx) = 1 + mx := IntWalk.i64_in _ (by omega)
              have HS4 := Lib.hid (show manyD s f l best0 false (j + 1) = if best < 0 ∨ 1 + mx < best then 1 + mx else best from (by rw [HS3.out, hmx]; simp [hfx, hfy]))
              clear HS3
              by_cases hb1 : best < 0
              · have HNE := Lib.hid (show 1 + mx = manyD s f l best0 false (j + 1) from (by rw [HS4.out, if_pos (Or.inl hb1)]))
                go_wp2
                go_roundw
                case rel => exact ⟨j + 1, by omega, by go_num, by first | rw [HNE.out] | rw [HMX.out, HNE.out], hbw⟩
                case measure => simp [intOf]; omega
              · by_cases hb2 : 1 + mx < best
                · have HNE := Lib.hid (show 1 + mx = manyD s f l best0 false (j + 1) from (by rw [HS4.out, if_pos (Or.inr hb2)]))
                  go_wp2
                  go_roundw
                  case rel => exact ⟨j + 1, by omega, by go_num, by first | rw [HNE.out] | rw [HMX.out, HNE.out], hbw⟩
                  case measure => simp [intOf]; omega
                · have HNE := Lib.hid (show best = manyD s f l best0 false (j + 1) from (by rw [HS4.out, if_neg (fun e => e.elim hb1 hb2)]))
                  go_wp2
                  go_roundw
                  case rel => exact ⟨j + 1, by omega, by go_num, by first | rw [HNE.out] | rw [HMX.out, HNE.out], hbw⟩
                  case measure => simp [intOf]; omega
          · have hjt' : ¬ 1 + (j : Int) < 6 := by omega
            obtain rfl : j = 5 := by omega
            have HO := Lib.hid (show manyD s f l best0 false 5 = outR s f l 2 by rw [HB0.out]; rfl)
            go_wp2
            go_roundw
            case rel => exact ⟨2, by omega, by first | rfl | go_num, by rw [HO.out], hbq⟩
            case measure => simp [intOf]
    · obtain rfl : k = 2 := by omega
      have HR := Lib.hid (HB.out.trans (hbr.mono (by have := HZ.out; omega)))
      go_wp2
      refine bodyPost_ret (v := .int .i64 (outR s f l 2)) (by simp [results, Tryd.results78, go_sem]) rfl ⟨rfl, HR.out⟩

/-- The reference's rounds of a part of a filling, and -1 if it is not straight. -/
theorem rnds_any (s : Sh) (hs : s.Ok) : ∀ (n : Nat), n ≤ 41 → ∀ (A : Option Addr) (c : Nat) (l : List Cd) (w : World), RcdsAt w w.heap.size A l → (∀ x ∈ l, fitP s x) → 1 ≤ l.length → l.length ≤ n →
    Calls Tryd.prog 78 #[.agg #[.int .i64 s.r, .int .i64 s.c, .int .i64 s.l, .int .i64 s.w], .slice A l.length c] w fun e w' => e = .returned (.int .i64 (rndS s n l)) ∧ Below w.heap.size w w'
  | 0, _, A, c, l, w, _, _, h1, hl => by omega
  | n + 1, hn, A, c, l, w, hA, hf, h1, hl => by
    by_cases h2 : l.length = 1
    · have h := rounds_one s A c l w h2
      rw [rndS, if_pos h2]
      exact h
    · exact rounds_more s hs n (by omega) A c l w hA hf h2 hl fun B d m W h1 h2 h3 h4 => rnds_any s hs n (by omega) B d m W h1 h2 h3 h4
end Go.Proofs.YtlollcabnfncpaaDoor
