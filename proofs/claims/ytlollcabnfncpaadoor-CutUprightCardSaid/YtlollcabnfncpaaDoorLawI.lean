/-
  The walk of CutUpright, with what its function does with each filling.
-/
import Derived.Test.YtlollcabnfncpaaDoorUpA
import Derived.Test.YtlollcabnfncpaaDoorFilG
import Derived.Test.YtlollcabnfncpaaDoorBdA
import Derived.Test.YtlollcabnfncpaaDoorLawF
namespace Go.Proofs.YtlollcabnfncpaaDoor
open Go.RowKit

/-- The function of CutUpright: the fewest, the most upright cards, and the cards of the last filling. -/
def uprE (g1 g2 g3 : Nat) : EachF (Int × Int × Int) where
  k := 56
  caps := #[.pointer (some ⟨g1, 0, none⟩), .pointer (some ⟨g2, 0, none⟩), .pointer (some ⟨g3, 0, none⟩)]
  f := upF
  I st B W := ((W.cell? ⟨g1, 0, none⟩ = some (.int .i64 st.1) ∧ W.frozen? ⟨g1, 0, none⟩ = false) ∧ (W.cell? ⟨g2, 0, none⟩ = some (.int .i64 st.2.1) ∧ W.frozen? ⟨g2, 0, none⟩ = false) ∧ (W.cell? ⟨g3, 0, none⟩ = some (.int .i64 st.2.2) ∧ W.frozen? ⟨g3, 0, none⟩ = false)) ∧ (¬ g1 = g2 ∧ ¬ g1 = g3 ∧ ¬ g2 = g3) ∧ (B g1 ∧ B g2 ∧ B g3) ∧ ∀ i, B i → i < W.heap.size
  enter := fun args W => by simp [callFunc, Tryd.f56]
  lt := fun h => h.2.2.2
  keep := fun {st B W W' Q} h hc hq => by
    obtain ⟨⟨⟨a1, a2⟩, ⟨b1, b2⟩, c1, c2⟩, hd, ⟨d1, d2, d3⟩, h8⟩ := h
    exact ⟨⟨⟨(hc.cell (p := ⟨g1, 0, none⟩) (h8 _ d1) (hq _ d1)).trans a1, (hc.frozen (p := ⟨g1, 0, none⟩) (h8 _ d1) (hq _ d1)).trans a2⟩, ⟨(hc.cell (p := ⟨g2, 0, none⟩) (h8 _ d2) (hq _ d2)).trans b1, (hc.frozen (p := ⟨g2, 0, none⟩) (h8 _ d2) (hq _ d2)).trans b2⟩, (hc.cell (p := ⟨g3, 0, none⟩) (h8 _ d3) (hq _ d3)).trans c1, (hc.frozen (p := ⟨g3, 0, none⟩) (h8 _ d3) (hq _ d3)).trans c2⟩, hd, ⟨d1, d2, d3⟩, fun i hi => Nat.lt_of_lt_of_le (h8 i hi) hc.size⟩

/-- What is left behind a call of it. -/
def UprPost (g1 g2 g3 : Nat) (st : Int × Int × Int) (B : Nat → Prop) (W : World) (e : Ending) (W' : World) : Prop :=
  e = .returned (.bool true) ∧ ∃ B', ((uprE g1 g2 g3).I st B' W' ∧ ∀ i, B' i → B i ∨ W.heap.size ≤ i) ∧ Chg B W W'
theorem upr_set1 {g1 g2 g3 : Nat} {a b c : Int} {B : Nat → Prop} {W : World} (x : Int) (h : (uprE g1 g2 g3).I (a, b, c) B W) : (uprE g1 g2 g3).I (x, b, c) B (W.setCell ⟨g1, 0, none⟩ (.int .i64 x)) ∧ Chg B W (W.setCell ⟨g1, 0, none⟩ (.int .i64 x)) := by
  obtain ⟨⟨⟨a1, a2⟩, ⟨b1, b2⟩, c1, c2⟩, ⟨e1, e2, e3⟩, ⟨d1, d2, d3⟩, h8⟩ := h
  have hc := Chg.store W ⟨g1, 0, none⟩ (.int .i64 x)
  refine ⟨⟨⟨⟨by simp [go_sem, a1], by simp [go_sem, a2]⟩, ⟨(hc.cell (p := ⟨g2, 0, none⟩) (h8 _ d2) (fun e => e1 e.symm)).trans b1, (hc.frozen (p := ⟨g2, 0, none⟩) (h8 _ d2) (fun e => e1 e.symm)).trans b2⟩, (hc.cell (p := ⟨g3, 0, none⟩) (h8 _ d3) (fun e => e2 e.symm)).trans c1, (hc.frozen (p := ⟨g3, 0, none⟩) (h8 _ d3) (fun e => e2 e.symm)).trans c2⟩, ⟨e1, e2, e3⟩, ⟨d1, d2, d3⟩, fun i hi => Nat.lt_of_lt_of_le (h8 i hi) hc.size⟩, hc.mono fun i _ e => ?_⟩
  rw [show i = g1 from e]; exact d1
theorem upr_set2 {g1 g2 g3 : Nat} {a b c : Int} {B : Nat → Prop} {W : World} (x : Int) (h : (uprE g1 g2 g3).I (a, b, c) B W) : (uprE g1 g2 g3).I (a, x, c) B (W.setCell ⟨g2, 0, none⟩ (.int .i64 x)) ∧ Chg B W (W.setCell ⟨g2, 0, none⟩ (.int .i64 x)) := by
  obtain ⟨⟨⟨a1, a2⟩, ⟨b1, b2⟩, c1, c2⟩, ⟨e1, e2, e3⟩, ⟨d1, d2, d3⟩, h8⟩ := h
  have hc := Chg.store W ⟨g2, 0, none⟩ (.int .i64 x)
  refine ⟨⟨⟨⟨(hc.cell (p := ⟨g1, 0, none⟩) (h8 _ d1) (fun e => e1 e)).trans a1, (hc.frozen (p := ⟨g1, 0, none⟩) (h8 _ d1) (fun e => e1 e)).trans a2⟩, ⟨by simp [go_sem, b1], by simp [go_sem, b2]⟩, (hc.cell (p := ⟨g3, 0, none⟩) (h8 _ d3) (fun e => e3 e.symm)).trans c1, (hc.frozen (p := ⟨g3, 0, none⟩) (h8 _ d3) (fun e => e3 e.symm)).trans c2⟩, ⟨e1, e2, e3⟩, ⟨d1, d2, d3⟩, fun i hi => Nat.lt_of_lt_of_le (h8 i hi) hc.size⟩, hc.mono fun i _ e => ?_⟩
  rw [show i = g2 from e]; exact d2
theorem upr_set3 {g1 g2 g3 : Nat} {a b c : Int} {B : Nat → Prop} {W : World} (x : Int) (h : (uprE g1 g2 g3).I (a, b, c) B W) : (uprE g1 g2 g3).I (a, b, x) B (W.setCell ⟨g3, 0, none⟩ (.int .i64 x)) ∧ Chg B W (W.setCell ⟨g3, 0, none⟩ (.int .i64 x)) := by
  obtain ⟨⟨⟨a1, a2⟩, ⟨b1, b2⟩, c1, c2⟩, ⟨e1, e2, e3⟩, ⟨d1, d2, d3⟩, h8⟩ := h
  have hc := Chg.store W ⟨g3, 0, none⟩ (.int .i64 x)
  refine ⟨⟨⟨⟨(hc.cell (p := ⟨g1, 0, none⟩) (h8 _ d1) (fun e => e2 e)).trans a1, (hc.frozen (p := ⟨g1, 0, none⟩) (h8 _ d1) (fun e => e2 e)).trans a2⟩, ⟨(hc.cell (p := ⟨g2, 0, none⟩) (h8 _ d2) (fun e => e3 e)).trans b1, (hc.frozen (p := ⟨g2, 0, none⟩) (h8 _ d2) (fun e => e3 e)).trans b2⟩, by simp [go_sem, c1], by simp [go_sem, c2]⟩, ⟨e1, e2, e3⟩, ⟨d1, d2, d3⟩, fun i hi => Nat.lt_of_lt_of_le (h8 i hi) hc.size⟩, hc.mono fun i _ e => ?_⟩
  rw [show i = g3 from e]; exact d3
theorem upr_two {g1 g2 g3 : Nat} {a b c : Int} {B : Nat → Prop} {W wr : World} (y z : Int) (h : (uprE g1 g2 g3).I (a, b, c) B W) (hb : Below W.heap.size W wr) :
    UprPost g1 g2 g3 (a, y, z) B W (.returned (.bool true)) ((wr.setCell ⟨g2, 0, none⟩ (.int .i64 y)).setCell ⟨g3, 0, none⟩ (.int .i64 z)) := by
  have h0 := (uprE g1 g2 g3).keep h (Chg.of_below (P := fun _ => False) hb) (fun _ _ e => e)
  obtain ⟨h2, k2⟩ := upr_set2 y h0
  obtain ⟨h3, k3⟩ := upr_set3 z h2
  exact ⟨rfl, B, ⟨h3, fun _ e => .inl e⟩, ((Chg.of_below hb).trans k2 (fun _ _ e => e)).trans k3 (fun _ _ e => e)⟩
theorem upr_three {g1 g2 g3 : Nat} {a b c : Int} {B : Nat → Prop} {W wr : World} (x y z : Int) (h : (uprE g1 g2 g3).I (a, b, c) B W) (hb : Below W.heap.size W wr) :
    UprPost g1 g2 g3 (x, y, z) B W (.returned (.bool true)) (((wr.setCell ⟨g1, 0, none⟩ (.int .i64 x)).setCell ⟨g2, 0, none⟩ (.int .i64 y)).setCell ⟨g3, 0, none⟩ (.int .i64 z)) := by
  have h0 := (uprE g1 g2 g3).keep h (Chg.of_below (P := fun _ => False) hb) (fun _ _ e => e)
  obtain ⟨h1, k1⟩ := upr_set1 x h0
  obtain ⟨h2, k2⟩ := upr_set2 y h1
  obtain ⟨h3, k3⟩ := upr_set3 z h2
  exact ⟨rfl, B, ⟨h3, fun _ e => .inl e⟩, (((Chg.of_below hb).trans k1 (fun _ _ e => e)).trans k2 (fun _ _ e => e)).trans k3 (fun _ _ e => e)⟩
theorem ups_take {l : List Cd} {k : Nat} {x : Cd} (h : l[k]? = some x) : ups (l.take (k + 1)) = ups (l.take k) + if x.t = true then 0 else 1 := by
  rw [take_snoc h, ups_snoc]
theorem ups_le (l : List Cd) : ups l ≤ l.length := List.countP_le_length

set_option maxRecDepth 100000 in
set_option maxHeartbeats 4000000 in
theorem upr_each (s : Sh) (g1 g2 g3 : Nat) : EachS s (uprE g1 g2 g3) := by
  intro st B W A l c hI hA hf hn
  obtain ⟨a, b, z⟩ := st
  show Calls Tryd.prog 56 #[.slice A l.length c, .pointer (some ⟨g1, 0, none⟩), .pointer (some ⟨g2, 0, none⟩), .pointer (some ⟨g3, 0, none⟩)] W (UprPost g1 g2 g3 (if a < 0 ∨ (ups l : Int) < a then (ups l : Int) else a, max b (ups l : Int), (l.length : Int)) B W)
  generalize hP : ((if a < 0 ∨ (ups l : Int) < a then (ups l : Int) else a, max b (ups l : Int), (l.length : Int)) : Int × Int × Int) = st2
  have HP := Lib.hid hP
  clear hP
  have H2 := Lib.hid (fun y z' wr (hb : Below W.heap.size W wr) => upr_two y z' hI hb)
  have H3 := Lib.hid (fun x y z' wr (hb : Below W.heap.size W wr) => upr_three x y z' hI hb)
  obtain ⟨⟨⟨a1, a2⟩, ⟨b1, b2⟩, c1, c2⟩, ⟨e1, e2, e3⟩, _, h8⟩ := hI
  have hz1 := lt_of_cell a1
  have hz2 := lt_of_cell b1
  have hz3 := lt_of_cell c1
  have HA := Lib.hid hA
  have HK := Lib.hid (fun (W' : World) (h : Below W.heap.size W W') => show W'.cell? ⟨g1, 0, none⟩ = some (.int .i64 a) ∧ W'.frozen? ⟨g1, 0, none⟩ = false ∧ W'.cell? ⟨g2, 0, none⟩ = some (.int .i64 b) ∧ W'.frozen? ⟨g2, 0, none⟩ = false ∧ W'.cell? ⟨g3, 0, none⟩ = some (.int .i64 z) ∧ W'.frozen? ⟨g3, 0, none⟩ = false from
    ⟨(h.cell (p := ⟨g1, 0, none⟩) hz1).trans a1, (h.frozen (p := ⟨g1, 0, none⟩) hz1).trans a2, (h.cell (p := ⟨g2, 0, none⟩) hz2).trans b1, (h.frozen (p := ⟨g2, 0, none⟩) hz2).trans b2, (h.cell (p := ⟨g3, 0, none⟩) hz3).trans c1, (h.frozen (p := ⟨g3, 0, none⟩) hz3).trans c2⟩)
  have HU := Lib.hid (ups_le l)
  clear hA hf h8 a1 a2 b1 b2 c1 c2
  have hb00 : Below W.heap.size W W := Below.refl _ _
  go_enter Tryd.func56, Tryd.ntmps56
  go_wp2
  go_loopw [6, 11] (fun v i wr => ∃ k : Nat, k ≤ l.length ∧ i = .int .i64 k ∧ v = .int .i64 (ups (l.take k) : Nat) ∧ Below W.heap.size W wr) (fun _ i _ => l.length - (intOf i).toNat)
  case atStart => exact ⟨0, Nat.zero_le _, rfl, rfl, hb00⟩
  case round =>
    obtain ⟨k, hk, rfl, rfl, hbr⟩ := hrel
    have HZ := Lib.hid hbr.size
    by_cases hlt : k < l.length
    · have hx : l[k]? = some l[k] := List.getElem?_eq_getElem hlt
      generalize l[k] = x at hx
      obtain ⟨bx, off, rfl, hb, d0, d1, d2⟩ := HA.out k x hx
      replace d0 := (hbr.cell (p := ⟨bx, _, none⟩) (by simp; omega)).trans d0
      replace d1 := (hbr.cell (p := ⟨bx, _, none⟩) (by simp; omega)).trans d1
      replace d2 := (hbr.cell (p := ⟨bx, _, none⟩) (by simp; omega)).trans d2
      have hki : (k : Int) < (l.length : Int) := by omega
      have hk0 : (0 : Int) ≤ (k : Int) := by omega
      have HT := Lib.hid (ups_take hx)
      have hul := ups_le (l.take k)
      have htl : (l.take k).length ≤ k := List.length_take_le k l
      have HBN := Lib.hid (hbr.alloc HZ.out (.cells #[.int .i64 x.row, .int .i64 x.col, .bool x.t] 69))
      generalize ups (l.take k) = n at *
      obtain ⟨xr, xc, xt⟩ := x
      dsimp only at *
      clear hx
      rcases xt with _ | _
      · have HT2 := Lib.hid (show ups (l.take (k + 1)) = n + 1 by rw [HT.out]; rfl)
        go_wp2
        go_roundw
        case rel => exact ⟨k + 1, by omega, by go_num, by rw [HT2.out]; go_num, HBN.out⟩
        case measure => simp [intOf]; omega
      · have HT2 := Lib.hid (show ups (l.take (k + 1)) = n by rw [HT.out]; rfl)
        go_wp2
        go_roundw
        case rel => exact ⟨k + 1, by omega, by go_num, by rw [HT2.out], HBN.out⟩
        case measure => simp [intOf]; omega
    · have e : l.take k = l := List.take_of_length_le (by omega)
      obtain ⟨p1, p2, p3, p4, p5, p6⟩ := HK.out _ hbr
      have hP := HP.out
      have hkl : k = l.length := by omega
      have hlt' : ¬ (k : Int) < (l.length : Int) := by omega
      rw [e]
      clear e HP
      generalize ups l = u at *
      by_cases ha : a < 0
      · by_cases hbu : b < (u : Int)
        · have hm : max b (u : Int) = (u : Int) := by omega
          rw [if_pos (Or.inl ha), hm] at hP
          have HP2 := Lib.hid hP
          clear hP
          go_wp2
          go_ret
          rw [← HP2.out]
          exact H3.out _ _ _ _ hbr
        · have hm : max b (u : Int) = b := by omega
          rw [if_pos (Or.inl ha), hm] at hP
          have HP2 := Lib.hid hP
          clear hP
          go_wp2
          go_ret
          rw [← HP2.out]
          exact H3.out _ _ _ _ hbr
      · by_cases hua : (u : Int) < a
        · by_cases hbu : b < (u : Int)
          · have hm : max b (u : Int) = (u : Int) := by omega
            rw [if_pos (Or.inr hua), hm] at hP
            have HP2 := Lib.hid hP
            clear hP
            go_wp2
            go_ret
            rw [← HP2.out]
            exact H3.out _ _ _ _ hbr
          · have hm : max b (u : Int) = b := by omega
            rw [if_pos (Or.inr hua), hm] at hP
            have HP2 := Lib.hid hP
            clear hP
            go_wp2
            go_ret
            rw [← HP2.out]
            exact H3.out _ _ _ _ hbr
        · by_cases hbu : b < (u : Int)
          · have hm : max b (u : Int) = (u : Int) := by omega
            rw [if_neg (by omega), hm] at hP
            have HP2 := Lib.hid hP
            clear hP
            go_wp2
            go_ret
            rw [← HP2.out]
            exact H2.out _ _ _ hbr
          · have hm : max b (u : Int) = b := by omega
            rw [if_neg (by omega), hm] at hP
            have HP2 := Lib.hid hP
            clear hP
            go_wp2
            go_ret
            rw [← HP2.out]
            exact H2.out _ _ _ hbr

theorem up_of {s : Sh} (hs : s.Ok) : upS s.r s.c s.l s.w = (if (enC s 0).fd = true then enC s 0 else ⟨0, 0, false⟩) ∧ upE s.r s.c s.l s.w = if (enC s 0).fd = true then 0 else 12 := by
  constructor
  · unfold upS
    rw [if_pos (chkS_ok hs)]
    rfl
  · unfold upE
    rw [if_pos (chkS_ok hs)]
    rfl
theorem area_div {s : Sh} (hs : s.Ok) : s.r * s.c / (s.l * s.w) ≤ 36 := Nat.le_trans (Nat.div_le_self _ _) (area_le hs).2

set_option maxRecDepth 100000 in
set_option maxHeartbeats 8000000 in
theorem lawUpright_any (x : Bd) (w : World) (hx : okB x) (ht : TabW w) :
    Calls Tryd.prog 11 #[.agg #[.int .u8 x.a, .int .u8 x.b, .int .u8 x.c, .int .u8 x.d]] w fun e w' => e = .returned (.bool true) ∧ Below w.heap.size w w' := by
  have HM := Lib.hid (fun W => bmade_any x W hx)
  have hs := bdS_ok x
  have har := bdS_area x
  generalize bdS x = s at *
  obtain ⟨a, b, c, d⟩ := x
  dsimp only at *
  have HT := Lib.hid ht
  have hmf : ∀ (fn : Fn) (first cap : Array Value) (w : World), (Instr.makeFunc fn first cap).run Tryd.prog w = .ok (.func fn first cap) w := fun _ _ _ _ => rfl
  clear ht
  obtain ⟨t1, t2, hall⟩ := turn_ok hs har
  have ho : Sh.Ok ⟨s.c, s.r, s.l, s.w⟩ := ⟨hs.c1, hs.c6, hs.r1, hs.r6, hs.l1, hs.l6, hs.w1, hs.w6⟩
  have hu : (trn s).Ok := ⟨hs.r1, hs.r6, hs.c1, hs.c6, hs.w1, hs.w6, hs.l1, hs.l6⟩
  have hrun := up_all hall
  have HU1 := Lib.hid (fun W h => upright_any s.r s.c s.l s.w W h)
  have HU2 := Lib.hid (fun W h => upright_any s.r s.c s.w s.l W h)
  rw [(up_of hs).1, (up_of hs).2] at HU1
  have hu1 : upS s.r s.c s.w s.l = (if (enC (trn s) 0).fd = true then enC (trn s) 0 else ⟨0, 0, false⟩) := (up_of (s := trn s) hu).1
  have hu2 : upE s.r s.c s.w s.l = if (enC (trn s) 0).fd = true then 0 else 12 := (up_of (s := trn s) hu).2
  rw [hu1, hu2] at HU2
  have HC1 := Lib.hid (fun W h => count_of hs W h)
  have HC2 := Lib.hid (fun (W : World) (h : TabW W) => show Calls Tryd.prog 23 #[.agg #[.int .i64 s.c, .int .i64 s.r, .int .i64 s.l, .int .i64 s.w]] W (fun e w' => e = .returned (.tuple #[.int .i64 (cntC ⟨s.c, s.r, s.l, s.w⟩ 0 : Nat), .int .i64 0]) ∧ Below W.heap.size W w') from count_of (s := ⟨s.c, s.r, s.l, s.w⟩) ho W h)
  have HC3 := Lib.hid (fun (W : World) (h : TabW W) => show Calls Tryd.prog 23 #[.agg #[.int .i64 s.r, .int .i64 s.c, .int .i64 s.w, .int .i64 s.l]] W (fun e w' => e = .returned (.tuple #[.int .i64 (cntC (trn s) 0 : Nat), .int .i64 0]) ∧ Below W.heap.size W w') from count_of (s := trn s) hu W h)
  rw [← t1] at HC2
  rw [← t2] at HC3
  have hEs := fun W => sheet_any s.c s.r s.l s.w W
  have hEt := fun W => sheet_any s.r s.c s.w s.l W
  have HS1 := Lib.hid hEs
  have HS2 := Lib.hid hEt
  have HW := Lib.hid (fun W h => works_any W h)
  have hin := enC_in s 0
  have hA36 := area_div hs
  obtain ⟨hno, hyes⟩ := ends_trn hall
  have hfn : (enC s 0).fd = true → filC s 0 [] ≠ [] := (fd_fils s).1
  clear hEs hEt t1 t2 hall ho hu hu1 hu2 har
  generalize hA : s.r * s.c / (s.l * s.w) = A at *
  clear hA
  go_enter Tryd.func11, Tryd.ntmps11
  go_wp2_with fail
  refine (HM.out _).mono ?_
  rintro e w1 ⟨rfl, hb1⟩
  have hb1' := below_via hb1
  go_upto_region 3 with fail
  obtain ⟨gs, hgs⟩ : ∃ g, g = w1.heap.size := ⟨_, rfl⟩
  obtain ⟨W0, hW0⟩ : ∃ W0, W0 = (((w1.alloc (.cells #[.int .i64 s.r, .int .i64 s.c, .int .i64 s.l, .int .i64 s.w] 23)).alloc (.cells #[.int .i64 (-1)] 3)).alloc (.cells #[.int .i64 (-1)] 3)).alloc (.cells #[.int .i64 0] 3) := ⟨_, rfl⟩
  have hz := hb1'.size
  have hb0 : Below w.heap.size w W0 := hW0 ▸ (((hb1'.alloc hz _).alloc (by simp; omega) _).alloc (by simp; omega) _).alloc (by simp; omega) _
  have hz0 : W0.heap.size = gs + 4 := by rw [hW0, hgs]; simp
  have p0 : W0.cell? ⟨gs, 0, none⟩ = some (.int .i64 s.r) := by rw [hW0, hgs]; simp [go_sem]
  have p1 : W0.cell? ⟨gs, 1, none⟩ = some (.int .i64 s.c) := by rw [hW0, hgs]; simp [go_sem]
  have p2 : W0.cell? ⟨gs, 2, none⟩ = some (.int .i64 s.l) := by rw [hW0, hgs]; simp [go_sem]
  have p3 : W0.cell? ⟨gs, 3, none⟩ = some (.int .i64 s.w) := by rw [hW0, hgs]; simp [go_sem]
  have hI : (uprE (gs + 1) (gs + 1 + 1) (gs + 1 + 1 + 1)).I (-1, -1, 0) (fun i => i = gs + 1 ∨ i = gs + 1 + 1 ∨ i = gs + 1 + 1 + 1) W0 := by
    refine ⟨⟨⟨?_, ?_⟩, ⟨?_, ?_⟩, ?_, ?_⟩, ⟨by omega, by omega, by omega⟩, ⟨by omega, by omega, by omega⟩, fun i hi => by omega⟩
    all_goals (rw [hW0, hgs]; simp [go_sem])
  have HFI := Lib.hid (fillings_any s (uprE (gs + 1) (gs + 1 + 1) (gs + 1 + 1 + 1)) (-1, -1, 0) _ W0 hs (upr_each s _ _ _) hI)
  have hrun' : runF (uprE (gs + 1) (gs + 1 + 1) (gs + 1 + 1 + 1)).f (-1, -1, 0) (filC s 0 []) = ((if (enC s 0).fd = true then (enC s 0).lo else -1, if (enC s 0).fd = true then (enC s 0).hi else -1, if filC s 0 [] = [] then 0 else (A : Int)), true) := hrun
  rw [hrun'] at HFI
  clear hrun hrun' hI
  have HFI' : Hid (Calls Tryd.prog 44 #[.agg #[.int .i64 s.r, .int .i64 s.c, .int .i64 s.l, .int .i64 s.w], .func (.func 56) #[] #[.pointer (some ⟨gs + 1, 0, none⟩), .pointer (some ⟨gs + 1 + 1, 0, none⟩), .pointer (some ⟨gs + 1 + 1 + 1, 0, none⟩)]] W0 fun e w' => e = .returned (.bool true) ∧ ∃ B', ((uprE (gs + 1) (gs + 1 + 1) (gs + 1 + 1 + 1)).I (if (enC s 0).fd = true then (enC s 0).lo else -1, if (enC s 0).fd = true then (enC s 0).hi else -1, if filC s 0 [] = [] then 0 else (A : Int)) B' w' ∧ ∀ i, B' i → (i = gs + 1 ∨ i = gs + 1 + 1 ∨ i = gs + 1 + 1 + 1) ∨ W0.heap.size ≤ i) ∧ Chg (fun i => i = gs + 1 ∨ i = gs + 1 + 1 ∨ i = gs + 1 + 1 + 1) W0 w') := HFI
  clear HFI
  have hgw : w.heap.size ≤ gs := by omega
  rw [← hgs, ← hW0]
  clear hW0 hb1 hb1' hz HM hgs
  generalize enC (trn s) 0 = F at *
  generalize enC s 0 = E at *
  obtain ⟨lo, hi, fd⟩ := E
  obtain ⟨flo, fhi, ffd⟩ := F
  obtain ⟨⟨hi1, hi2⟩, hi3, hi4⟩ := hin
  dsimp only at *
  subst hno
  generalize cntC s 0 = n at *
  have hst := hs
  obtain ⟨hr1, hr6, hc1, hc6, hl1, hl6, hw1, hw6⟩ := hst
  clear hs hx
  rcases ffd with _ | _
  · clear hyes hfn
    simp only [Bool.false_eq_true, if_false] at HFI' HU1 HU2
    go_upto_region 4 with (go_at_call 44; refine HFI'.out.mono ?_; rintro e w2 ⟨rfl, B', ⟨⟨⟨⟨q1, _⟩, ⟨q2, _⟩, q3, _⟩, _, _, _⟩, _⟩, hc2⟩)
    change w2.cell? ⟨gs + 1, 0, none⟩ = some (.int .i64 (-1)) at q1
    have p02 := (hc2.cell (p := ⟨gs, 0, none⟩) (by simp only; omega) (by simp only; omega)).trans p0
    have p12 := (hc2.cell (p := ⟨gs, 1, none⟩) (by simp only; omega) (by simp only; omega)).trans p1
    have p22 := (hc2.cell (p := ⟨gs, 2, none⟩) (by simp only; omega) (by simp only; omega)).trans p2
    have p32 := (hc2.cell (p := ⟨gs, 3, none⟩) (by simp only; omega) (by simp only; omega)).trans p3
    have hB2 : Below w.heap.size w w2 := hb0.trans (hc2.below (by omega) (fun i hi => by omega))
    have ht2 := HT.out.below hB2
    have hzz := lt_of_cell p02
    have hz1 := lt_of_cell q1
    clear p0 p1 p2 p3 HFI' hc2 hb0 q2 q3
    have HK := Lib.hid (fun (W' : World) (h : Below w2.heap.size w2 W') => show W'.cell? ⟨gs, 0, none⟩ = some (.int .i64 s.r) ∧ W'.cell? ⟨gs, 1, none⟩ = some (.int .i64 s.c) ∧ W'.cell? ⟨gs, 2, none⟩ = some (.int .i64 s.l) ∧ W'.cell? ⟨gs, 3, none⟩ = some (.int .i64 s.w) ∧ W'.cell? ⟨gs + 1, 0, none⟩ = some (.int .i64 (-1)) ∧ gs + 1 < W'.heap.size from
      ⟨(h.cell (p := ⟨gs, 0, none⟩) hzz).trans p02, (h.cell (p := ⟨gs, 1, none⟩) hzz).trans p12, (h.cell (p := ⟨gs, 2, none⟩) hzz).trans p22, (h.cell (p := ⟨gs, 3, none⟩) hzz).trans p32, (h.cell (p := ⟨gs + 1, 0, none⟩) hz1).trans q1, Nat.lt_of_lt_of_le hz1 h.size⟩)
    go_wp2_with (first
      | (go_at_call 25; with_reducible refine (HU1.out _ ht2).mono ?_; rintro e w3 ⟨rfl, hb3⟩; have ht3 := ht2.below hb3; obtain ⟨a0, a1, a2, a3, a4, a5⟩ := HK.out _ hb3)
      | (go_at_call 57; with_reducible refine (HS1.out _).mono ?_; rintro e w4 ⟨rfl, hb4'⟩; have hb4 := hb3.trans (hb4'.mono hb3.size); have ht4 := ht3.below hb4'; obtain ⟨b0, b1, b2, b3, b4, b5⟩ := HK.out _ hb4; have n4 : gs < w4.heap.size := (by omega); have n4' : ¬ gs = w4.heap.size := (by omega))
      | (go_at_call 57; with_reducible refine (HS2.out _).mono ?_; rintro e w5 ⟨rfl, hb5'⟩; have hb5 := hb4.trans ((below_via hb5').mono hb4.size); have ht5 := ht4.below (below_via hb5'); obtain ⟨c0, c1, c2, c3, c4, c5⟩ := HK.out _ hb5; have hz5 := hb5'.size; have n5 : gs < w5.heap.size := (by omega); have n5' : ¬ gs = w5.heap.size := (by omega); have m5 : w4.heap.size < w5.heap.size := (by simp at hz5; omega); have m5' : ¬ w4.heap.size = w5.heap.size := (by omega); have o0 : w5.cell? ⟨w4.heap.size, 0, none⟩ = some (.int .i64 s.c) := (hb5'.cell (p := ⟨w4.heap.size, 0, none⟩) (by simp)).trans (by simp [go_sem]); have o1 : w5.cell? ⟨w4.heap.size, 1, none⟩ = some (.int .i64 s.r) := (hb5'.cell (p := ⟨w4.heap.size, 1, none⟩) (by simp)).trans (by simp [go_sem]); have o2 : w5.cell? ⟨w4.heap.size, 2, none⟩ = some (.int .i64 s.l) := (hb5'.cell (p := ⟨w4.heap.size, 2, none⟩) (by simp)).trans (by simp [go_sem]); have o3 : w5.cell? ⟨w4.heap.size, 3, none⟩ = some (.int .i64 s.w) := (hb5'.cell (p := ⟨w4.heap.size, 3, none⟩) (by simp)).trans (by simp [go_sem]))
      | (go_at_call 23; with_reducible refine (HC1.out _ (ht5.below (below_new w5 _))).mono ?_; rintro e w6 ⟨rfl, hb6'⟩; have hb56 := below_via hb6'; have hb6 := hb5.trans (hb56.mono hb5.size); have ht6 := ht5.below hb56; obtain ⟨d0, d1, d2, d3, d4, d5⟩ := HK.out _ hb6; have r0 := (hb56.cell (p := ⟨w4.heap.size, 0, none⟩) m5).trans o0; have r1 := (hb56.cell (p := ⟨w4.heap.size, 1, none⟩) m5).trans o1; have r2 := (hb56.cell (p := ⟨w4.heap.size, 2, none⟩) m5).trans o2; have r3 := (hb56.cell (p := ⟨w4.heap.size, 3, none⟩) m5).trans o3; have u0 : w6.cell? ⟨w5.heap.size, 0, none⟩ = some (.int .i64 s.r) := (hb6'.cell (p := ⟨w5.heap.size, 0, none⟩) (by simp)).trans (by simp [go_sem]); have u1 : w6.cell? ⟨w5.heap.size, 1, none⟩ = some (.int .i64 s.c) := (hb6'.cell (p := ⟨w5.heap.size, 1, none⟩) (by simp)).trans (by simp [go_sem]); have u2 : w6.cell? ⟨w5.heap.size, 2, none⟩ = some (.int .i64 s.w) := (hb6'.cell (p := ⟨w5.heap.size, 2, none⟩) (by simp)).trans (by simp [go_sem]); have u3 : w6.cell? ⟨w5.heap.size, 3, none⟩ = some (.int .i64 s.l) := (hb6'.cell (p := ⟨w5.heap.size, 3, none⟩) (by simp)).trans (by simp [go_sem]))
      | (go_at_call 23; with_reducible refine (HC2.out _ ht6).mono ?_; rintro e w7 ⟨rfl, hb7'⟩; have hb7 := hb6.trans (hb7'.mono hb6.size); have ht7 := ht6.below hb7'; obtain ⟨e0, e1, e2, e3, e4, e5⟩ := HK.out _ hb7; have k0 := (hb7'.cell (p := ⟨w5.heap.size, 0, none⟩) (lt_of_cell u0)).trans u0; have k1 := (hb7'.cell (p := ⟨w5.heap.size, 1, none⟩) (lt_of_cell u0)).trans u1; have k2 := (hb7'.cell (p := ⟨w5.heap.size, 2, none⟩) (lt_of_cell u0)).trans u2; have k3 := (hb7'.cell (p := ⟨w5.heap.size, 3, none⟩) (lt_of_cell u0)).trans u3)
      | (go_at_call 23; with_reducible refine (HC3.out _ ht7).mono ?_; rintro e w8 ⟨rfl, hb8'⟩; have hb8 := hb7.trans (hb8'.mono hb7.size); have ht8 := ht7.below hb8'; obtain ⟨f0, f1, f2, f3, f4, f5⟩ := HK.out _ hb8; have v0 := (hb8'.cell (p := ⟨w5.heap.size, 0, none⟩) (lt_of_cell k0)).trans k0; have v1 := (hb8'.cell (p := ⟨w5.heap.size, 1, none⟩) (lt_of_cell k0)).trans k1; have v2 := (hb8'.cell (p := ⟨w5.heap.size, 2, none⟩) (lt_of_cell k0)).trans k2; have v3 := (hb8'.cell (p := ⟨w5.heap.size, 3, none⟩) (lt_of_cell k0)).trans k3)
      | (go_at_call 25; with_reducible refine (HU2.out _ ht8).mono ?_; rintro e w9 ⟨rfl, hb9'⟩; have hb9 := hb8.trans (hb9'.mono hb8.size); have ht9 := ht8.below hb9'; obtain ⟨g0, g1, g2, g3, g4, g5⟩ := HK.out _ hb9)
      | (go_at_call 22; refine (HW.out _ ht9).mono ?_; rintro e w10 ⟨rfl, hb10⟩))
    go_ret
    exact ⟨rfl, hB2.trans ((hb9.trans (hb10.mono hb9.size)).mono hB2.size)⟩
  · have hne := hfn rfl
    simp only [if_true, if_neg hne] at HFI' HU1 HU2
    obtain ⟨y1, y2⟩ := hyes rfl
    clear hyes hfn hne
    by_cases hlw : s.l = s.w
    · obtain ⟨rfl, rfl, rfl, rfl⟩ := y1 hlw
      have h17 : ((s.l : Int) == (s.w : Int)) = true := beq_iff_eq.2 (by omega)
      have hlo : ¬ (A : Int) < 0 := by omega
      clear y1 y2 hlw
      go_upto_region 4 with (go_at_call 44; refine HFI'.out.mono ?_; rintro e w2 ⟨rfl, B', ⟨⟨⟨⟨q1, _⟩, ⟨q2, _⟩, q3, _⟩, _, _, _⟩, _⟩, hc2⟩)
      change w2.cell? ⟨gs + 1, 0, none⟩ = some (.int .i64 (A : Int)) at q1
      change w2.cell? ⟨gs + 1 + 1, 0, none⟩ = some (.int .i64 (A : Int)) at q2
      change w2.cell? ⟨gs + 1 + 1 + 1, 0, none⟩ = some (.int .i64 A) at q3
      have p02 := (hc2.cell (p := ⟨gs, 0, none⟩) (by simp only; omega) (by simp only; omega)).trans p0
      have p12 := (hc2.cell (p := ⟨gs, 1, none⟩) (by simp only; omega) (by simp only; omega)).trans p1
      have p22 := (hc2.cell (p := ⟨gs, 2, none⟩) (by simp only; omega) (by simp only; omega)).trans p2
      have p32 := (hc2.cell (p := ⟨gs, 3, none⟩) (by simp only; omega) (by simp only; omega)).trans p3
      have hB2 : Below w.heap.size w w2 := hb0.trans (hc2.below (by omega) (fun i hi => by omega))
      have ht2 := HT.out.below hB2
      have hzz := lt_of_cell p02
      have hz1 := lt_of_cell q1
      have hz2 := lt_of_cell q2
      have hz3 := lt_of_cell q3
      clear p0 p1 p2 p3 HFI' hc2 hb0
      have HK := Lib.hid (fun (W' : World) (h : Below w2.heap.size w2 W') => show W'.cell? ⟨gs, 0, none⟩ = some (.int .i64 s.r) ∧ W'.cell? ⟨gs, 1, none⟩ = some (.int .i64 s.c) ∧ W'.cell? ⟨gs, 2, none⟩ = some (.int .i64 s.l) ∧ W'.cell? ⟨gs, 3, none⟩ = some (.int .i64 s.w) ∧ W'.cell? ⟨gs + 1, 0, none⟩ = some (.int .i64 (A : Int)) ∧ gs + 1 < W'.heap.size ∧ W'.cell? ⟨gs + 1 + 1, 0, none⟩ = some (.int .i64 (A : Int)) ∧ W'.cell? ⟨gs + 1 + 1 + 1, 0, none⟩ = some (.int .i64 A) from
        ⟨(h.cell (p := ⟨gs, 0, none⟩) hzz).trans p02, (h.cell (p := ⟨gs, 1, none⟩) hzz).trans p12, (h.cell (p := ⟨gs, 2, none⟩) hzz).trans p22, (h.cell (p := ⟨gs, 3, none⟩) hzz).trans p32, (h.cell (p := ⟨gs + 1, 0, none⟩) hz1).trans q1, Nat.lt_of_lt_of_le hz1 h.size, (h.cell (p := ⟨gs + 1 + 1, 0, none⟩) hz2).trans q2, (h.cell (p := ⟨gs + 1 + 1 + 1, 0, none⟩) hz3).trans q3⟩)
      go_wp2_with (first
        | (go_at_call 25; with_reducible refine (HU1.out _ ht2).mono ?_; rintro e w3 ⟨rfl, hb3⟩; have ht3 := ht2.below hb3; obtain ⟨a0, a1, a2, a3, a4, a5, a6, a7⟩ := HK.out _ hb3)
        | (go_at_call 57; with_reducible refine (HS1.out _).mono ?_; rintro e w4 ⟨rfl, hb4'⟩; have hb4 := hb3.trans (hb4'.mono hb3.size); have ht4 := ht3.below hb4'; obtain ⟨b0, b1, b2, b3, b4, b5, b6, b7⟩ := HK.out _ hb4; have n4 : gs < w4.heap.size := (by omega); have n4' : ¬ gs = w4.heap.size := (by omega))
        | (go_at_call 57; with_reducible refine (HS2.out _).mono ?_; rintro e w5 ⟨rfl, hb5'⟩; have hb5 := hb4.trans ((below_via hb5').mono hb4.size); have ht5 := ht4.below (below_via hb5'); obtain ⟨c0, c1, c2, c3, c4, c5, c6, c7⟩ := HK.out _ hb5; have hz5 := hb5'.size; have n5 : gs < w5.heap.size := (by omega); have n5' : ¬ gs = w5.heap.size := (by omega); have m5 : w4.heap.size < w5.heap.size := (by simp at hz5; omega); have m5' : ¬ w4.heap.size = w5.heap.size := (by omega); have o0 : w5.cell? ⟨w4.heap.size, 0, none⟩ = some (.int .i64 s.c) := (hb5'.cell (p := ⟨w4.heap.size, 0, none⟩) (by simp)).trans (by simp [go_sem]); have o1 : w5.cell? ⟨w4.heap.size, 1, none⟩ = some (.int .i64 s.r) := (hb5'.cell (p := ⟨w4.heap.size, 1, none⟩) (by simp)).trans (by simp [go_sem]); have o2 : w5.cell? ⟨w4.heap.size, 2, none⟩ = some (.int .i64 s.l) := (hb5'.cell (p := ⟨w4.heap.size, 2, none⟩) (by simp)).trans (by simp [go_sem]); have o3 : w5.cell? ⟨w4.heap.size, 3, none⟩ = some (.int .i64 s.w) := (hb5'.cell (p := ⟨w4.heap.size, 3, none⟩) (by simp)).trans (by simp [go_sem]))
        | (go_at_call 23; with_reducible refine (HC1.out _ (ht5.below (below_new w5 _))).mono ?_; rintro e w6 ⟨rfl, hb6'⟩; have hb56 := below_via hb6'; have hb6 := hb5.trans (hb56.mono hb5.size); have ht6 := ht5.below hb56; obtain ⟨d0, d1, d2, d3, d4, d5, d6, d7⟩ := HK.out _ hb6; have r0 := (hb56.cell (p := ⟨w4.heap.size, 0, none⟩) m5).trans o0; have r1 := (hb56.cell (p := ⟨w4.heap.size, 1, none⟩) m5).trans o1; have r2 := (hb56.cell (p := ⟨w4.heap.size, 2, none⟩) m5).trans o2; have r3 := (hb56.cell (p := ⟨w4.heap.size, 3, none⟩) m5).trans o3; have u0 : w6.cell? ⟨w5.heap.size, 0, none⟩ = some (.int .i64 s.r) := (hb6'.cell (p := ⟨w5.heap.size, 0, none⟩) (by simp)).trans (by simp [go_sem]); have u1 : w6.cell? ⟨w5.heap.size, 1, none⟩ = some (.int .i64 s.c) := (hb6'.cell (p := ⟨w5.heap.size, 1, none⟩) (by simp)).trans (by simp [go_sem]); have u2 : w6.cell? ⟨w5.heap.size, 2, none⟩ = some (.int .i64 s.w) := (hb6'.cell (p := ⟨w5.heap.size, 2, none⟩) (by simp)).trans (by simp [go_sem]); have u3 : w6.cell? ⟨w5.heap.size, 3, none⟩ = some (.int .i64 s.l) := (hb6'.cell (p := ⟨w5.heap.size, 3, none⟩) (by simp)).trans (by simp [go_sem]))
        | (go_at_call 23; with_reducible refine (HC2.out _ ht6).mono ?_; rintro e w7 ⟨rfl, hb7'⟩; have hb7 := hb6.trans (hb7'.mono hb6.size); have ht7 := ht6.below hb7'; obtain ⟨e0, e1, e2, e3, e4, e5, e6, e7⟩ := HK.out _ hb7; have k0 := (hb7'.cell (p := ⟨w5.heap.size, 0, none⟩) (lt_of_cell u0)).trans u0; have k1 := (hb7'.cell (p := ⟨w5.heap.size, 1, none⟩) (lt_of_cell u0)).trans u1; have k2 := (hb7'.cell (p := ⟨w5.heap.size, 2, none⟩) (lt_of_cell u0)).trans u2; have k3 := (hb7'.cell (p := ⟨w5.heap.size, 3, none⟩) (lt_of_cell u0)).trans u3)
        | (go_at_call 23; with_reducible refine (HC3.out _ ht7).mono ?_; rintro e w8 ⟨rfl, hb8'⟩; have hb8 := hb7.trans (hb8'.mono hb7.size); have ht8 := ht7.below hb8'; obtain ⟨f0, f1, f2, f3, f4, f5, f6, f7⟩ := HK.out _ hb8; have v0 := (hb8'.cell (p := ⟨w5.heap.size, 0, none⟩) (lt_of_cell k0)).trans k0; have v1 := (hb8'.cell (p := ⟨w5.heap.size, 1, none⟩) (lt_of_cell k0)).trans k1; have v2 := (hb8'.cell (p := ⟨w5.heap.size, 2, none⟩) (lt_of_cell k0)).trans k2; have v3 := (hb8'.cell (p := ⟨w5.heap.size, 3, none⟩) (lt_of_cell k0)).trans k3)
        | (go_at_call 25; with_reducible refine (HU2.out _ ht8).mono ?_; rintro e w9 ⟨rfl, hb9'⟩; have hb9 := hb8.trans (hb9'.mono hb8.size); have ht9 := ht8.below hb9'; obtain ⟨g0, g1, g2, g3, g4, g5, g6, g7⟩ := HK.out _ hb9)
        | (go_at_call 22; refine (HW.out _ ht9).mono ?_; rintro e w10 ⟨rfl, hb10⟩))
      go_ret
      exact ⟨rfl, hB2.trans ((hb9.trans (hb10.mono hb9.size)).mono hB2.size)⟩
    · obtain ⟨rfl, rfl⟩ := y2 hlw
      have h17 : ((s.l : Int) == (s.w : Int)) = false := beq_eq_false_iff_ne.2 (by omega)
      have hlo : ¬ lo < 0 := by omega
      have hww1 : IntKind.i64.wrap ((A : Int) - hi) = (A : Int) - hi := IntWalk.i64_in _ (by omega)
      have hww2 : IntKind.i64.wrap ((A : Int) - lo) = (A : Int) - lo := IntWalk.i64_in _ (by omega)
      clear y1 y2 hlw
      go_upto_region 4 with (go_at_call 44; refine HFI'.out.mono ?_; rintro e w2 ⟨rfl, B', ⟨⟨⟨⟨q1, _⟩, ⟨q2, _⟩, q3, _⟩, _, _, _⟩, _⟩, hc2⟩)
      change w2.cell? ⟨gs + 1, 0, none⟩ = some (.int .i64 lo) at q1
      change w2.cell? ⟨gs + 1 + 1, 0, none⟩ = some (.int .i64 hi) at q2
      change w2.cell? ⟨gs + 1 + 1 + 1, 0, none⟩ = some (.int .i64 A) at q3
      have p02 := (hc2.cell (p := ⟨gs, 0, none⟩) (by simp only; omega) (by simp only; omega)).trans p0
      have p12 := (hc2.cell (p := ⟨gs, 1, none⟩) (by simp only; omega) (by simp only; omega)).trans p1
      have p22 := (hc2.cell (p := ⟨gs, 2, none⟩) (by simp only; omega) (by simp only; omega)).trans p2
      have p32 := (hc2.cell (p := ⟨gs, 3, none⟩) (by simp only; omega) (by simp only; omega)).trans p3
      have hB2 : Below w.heap.size w w2 := hb0.trans (hc2.below (by omega) (fun i hi => by omega))
      have ht2 := HT.out.below hB2
      have hzz := lt_of_cell p02
      have hz1 := lt_of_cell q1
      have hz2 := lt_of_cell q2
      have hz3 := lt_of_cell q3
      clear p0 p1 p2 p3 HFI' hc2 hb0
      have HK := Lib.hid (fun (W' : World) (h : Below w2.heap.size w2 W') => show W'.cell? ⟨gs, 0, none⟩ = some (.int .i64 s.r) ∧ W'.cell? ⟨gs, 1, none⟩ = some (.int .i64 s.c) ∧ W'.cell? ⟨gs, 2, none⟩ = some (.int .i64 s.l) ∧ W'.cell? ⟨gs, 3, none⟩ = some (.int .i64 s.w) ∧ W'.cell? ⟨gs + 1, 0, none⟩ = some (.int .i64 lo) ∧ gs + 1 < W'.heap.size ∧ W'.cell? ⟨gs + 1 + 1, 0, none⟩ = some (.int .i64 hi) ∧ W'.cell? ⟨gs + 1 + 1 + 1, 0, none⟩ = some (.int .i64 A) from
        ⟨(h.cell (p := ⟨gs, 0, none⟩) hzz).trans p02, (h.cell (p := ⟨gs, 1, none⟩) hzz).trans p12, (h.cell (p := ⟨gs, 2, none⟩) hzz).trans p22, (h.cell (p := ⟨gs, 3, none⟩) hzz).trans p32, (h.cell (p := ⟨gs + 1, 0, none⟩) hz1).trans q1, Nat.lt_of_lt_of_le hz1 h.size, (h.cell (p := ⟨gs + 1 + 1, 0, none⟩) hz2).trans q2, (h.cell (p := ⟨gs + 1 + 1 + 1, 0, none⟩) hz3).trans q3⟩)
      go_wp2_with (first
        | (go_at_call 25; with_reducible refine (HU1.out _ ht2).mono ?_; rintro e w3 ⟨rfl, hb3⟩; have ht3 := ht2.below hb3; obtain ⟨a0, a1, a2, a3, a4, a5, a6, a7⟩ := HK.out _ hb3)
        | (go_at_call 57; with_reducible refine (HS1.out _).mono ?_; rintro e w4 ⟨rfl, hb4'⟩; have hb4 := hb3.trans (hb4'.mono hb3.size); have ht4 := ht3.below hb4'; obtain ⟨b0, b1, b2, b3, b4, b5, b6, b7⟩ := HK.out _ hb4; have n4 : gs < w4.heap.size := (by omega); have n4' : ¬ gs = w4.heap.size := (by omega))
        | (go_at_call 57; with_reducible refine (HS2.out _).mono ?_; rintro e w5 ⟨rfl, hb5'⟩; have hb5 := hb4.trans ((below_via hb5').mono hb4.size); have ht5 := ht4.below (below_via hb5'); obtain ⟨c0, c1, c2, c3, c4, c5, c6, c7⟩ := HK.out _ hb5; have hz5 := hb5'.size; have n5 : gs < w5.heap.size := (by omega); have n5' : ¬ gs = w5.heap.size := (by omega); have m5 : w4.heap.size < w5.heap.size := (by simp at hz5; omega); have m5' : ¬ w4.heap.size = w5.heap.size := (by omega); have o0 : w5.cell? ⟨w4.heap.size, 0, none⟩ = some (.int .i64 s.c) := (hb5'.cell (p := ⟨w4.heap.size, 0, none⟩) (by simp)).trans (by simp [go_sem]); have o1 : w5.cell? ⟨w4.heap.size, 1, none⟩ = some (.int .i64 s.r) := (hb5'.cell (p := ⟨w4.heap.size, 1, none⟩) (by simp)).trans (by simp [go_sem]); have o2 : w5.cell? ⟨w4.heap.size, 2, none⟩ = some (.int .i64 s.l) := (hb5'.cell (p := ⟨w4.heap.size, 2, none⟩) (by simp)).trans (by simp [go_sem]); have o3 : w5.cell? ⟨w4.heap.size, 3, none⟩ = some (.int .i64 s.w) := (hb5'.cell (p := ⟨w4.heap.size, 3, none⟩) (by simp)).trans (by simp [go_sem]))
        | (go_at_call 23; with_reducible refine (HC1.out _ (ht5.below (below_new w5 _))).mono ?_; rintro e w6 ⟨rfl, hb6'⟩; have hb56 := below_via hb6'; have hb6 := hb5.trans (hb56.mono hb5.size); have ht6 := ht5.below hb56; obtain ⟨d0, d1, d2, d3, d4, d5, d6, d7⟩ := HK.out _ hb6; have r0 := (hb56.cell (p := ⟨w4.heap.size, 0, none⟩) m5).trans o0; have r1 := (hb56.cell (p := ⟨w4.heap.size, 1, none⟩) m5).trans o1; have r2 := (hb56.cell (p := ⟨w4.heap.size, 2, none⟩) m5).trans o2; have r3 := (hb56.cell (p := ⟨w4.heap.size, 3, none⟩) m5).trans o3; have u0 : w6.cell? ⟨w5.heap.size, 0, none⟩ = some (.int .i64 s.r) := (hb6'.cell (p := ⟨w5.heap.size, 0, none⟩) (by simp)).trans (by simp [go_sem]); have u1 : w6.cell? ⟨w5.heap.size, 1, none⟩ = some (.int .i64 s.c) := (hb6'.cell (p := ⟨w5.heap.size, 1, none⟩) (by simp)).trans (by simp [go_sem]); have u2 : w6.cell? ⟨w5.heap.size, 2, none⟩ = some (.int .i64 s.w) := (hb6'.cell (p := ⟨w5.heap.size, 2, none⟩) (by simp)).trans (by simp [go_sem]); have u3 : w6.cell? ⟨w5.heap.size, 3, none⟩ = some (.int .i64 s.l) := (hb6'.cell (p := ⟨w5.heap.size, 3, none⟩) (by simp)).trans (by simp [go_sem]))
        | (go_at_call 23; with_reducible refine (HC2.out _ ht6).mono ?_; rintro e w7 ⟨rfl, hb7'⟩; have hb7 := hb6.trans (hb7'.mono hb6.size); have ht7 := ht6.below hb7'; obtain ⟨e0, e1, e2, e3, e4, e5, e6, e7⟩ := HK.out _ hb7; have k0 := (hb7'.cell (p := ⟨w5.heap.size, 0, none⟩) (lt_of_cell u0)).trans u0; have k1 := (hb7'.cell (p := ⟨w5.heap.size, 1, none⟩) (lt_of_cell u0)).trans u1; have k2 := (hb7'.cell (p := ⟨w5.heap.size, 2, none⟩) (lt_of_cell u0)).trans u2; have k3 := (hb7'.cell (p := ⟨w5.heap.size, 3, none⟩) (lt_of_cell u0)).trans u3)
        | (go_at_call 23; with_reducible refine (HC3.out _ ht7).mono ?_; rintro e w8 ⟨rfl, hb8'⟩; have hb8 := hb7.trans (hb8'.mono hb7.size); have ht8 := ht7.below hb8'; obtain ⟨f0, f1, f2, f3, f4, f5, f6, f7⟩ := HK.out _ hb8; have v0 := (hb8'.cell (p := ⟨w5.heap.size, 0, none⟩) (lt_of_cell k0)).trans k0; have v1 := (hb8'.cell (p := ⟨w5.heap.size, 1, none⟩) (lt_of_cell k0)).trans k1; have v2 := (hb8'.cell (p := ⟨w5.heap.size, 2, none⟩) (lt_of_cell k0)).trans k2; have v3 := (hb8'.cell (p := ⟨w5.heap.size, 3, none⟩) (lt_of_cell k0)).trans k3)
        | (go_at_call 25; with_reducible refine (HU2.out _ ht8).mono ?_; rintro e w9 ⟨rfl, hb9'⟩; have hb9 := hb8.trans (hb9'.mono hb8.size); have ht9 := ht8.below hb9'; obtain ⟨g0, g1, g2, g3, g4, g5, g6, g7⟩ := HK.out _ hb9)
        | (go_at_call 22; refine (HW.out _ ht9).mono ?_; rintro e w10 ⟨rfl, hb10⟩))
      go_ret
      exact ⟨rfl, hB2.trans ((hb9.trans (hb10.mono hb9.size)).mono hB2.size)⟩
end Go.Proofs.YtlollcabnfncpaaDoor
