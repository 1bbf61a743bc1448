/-
  The walk of CutSolid, with what its function does with each filling.
-/
import Derived.Test.YtlollcabnfncpaaDoorSolM
import Derived.Test.YtlollcabnfncpaaDoorGoeA
import Derived.Test.YtlollcabnfncpaaDoorKepA
import Derived.Test.YtlollcabnfncpaaDoorFilG
import Derived.Test.YtlollcabnfncpaaDoorBdA
import Derived.Test.YtlollcabnfncpaaDoorSolA
import Derived.Test.YtlollcabnfncpaaDoorWkA
import Derived.Lib.SliceRun
namespace Go.Proofs.YtlollcabnfncpaaDoor
open Go.RowKit

/-- The function of CutSolid: it keeps the first filling without a cut. -/
def solidE (s : Sh) (gs gw : Nat) : EachF (Option (List Cd)) where
  k := 55
  caps := #[.pointer (some ⟨gs, 0, none⟩), .pointer (some ⟨gw, 0, none⟩)]
  f st l := if solidP s l = true then (some l, false) else (st, true)
  I st B W := (W.cell? ⟨gs, 0, none⟩ = some (.int .i64 s.r) ∧ W.cell? ⟨gs, 1, none⟩ = some (.int .i64 s.c) ∧ W.cell? ⟨gs, 2, none⟩ = some (.int .i64 s.l) ∧ W.cell? ⟨gs, 3, none⟩ = some (.int .i64 s.w)) ∧ ¬ gw = gs ∧ KeptAt W gw (st.getD []) B (fun i => i = gs) ∧ (st = none → W.cell? ⟨gw, 0, none⟩ = some (.slice none 0 0)) ∧ B gs ∧ ∀ i, B i → i < W.heap.size
  enter := fun args W => by simp [callFunc, Tryd.f55]
  lt := fun h => h.2.2.2.2.2
  keep := fun {st B W W' Q} h hc hq => by
    obtain ⟨⟨h0, h1, h2, h3⟩, h4, h5, h6, h7, h8⟩ := h
    have hg := lt_of_cell h0
    have c := fun {o : Nat} {u : Value} (e : W.cell? ⟨gs, o, none⟩ = some u) => (hc.cell (p := ⟨gs, o, none⟩) hg (hq gs h7)).trans e
    exact ⟨⟨c h0, c h1, c h2, c h3⟩, h4, h5.chg hc (fun i hi _ => hq i hi) h4, fun e => (hc.cell (p := ⟨gw, 0, none⟩) (lt_of_cell (h6 e)) (hq gw h5.2)).trans (h6 e), h7, fun i hi => Nat.lt_of_lt_of_le (h8 i hi) hc.size⟩

/-- What is left behind a call of it. -/
def SolPost (s : Sh) (gs gw : Nat) (st : Option (List Cd)) (l : List Cd) (q : Bool) (B : Nat → Prop) (W : World) (e : Ending) (W' : World) : Prop :=
  e = .returned (.bool (!q)) ∧ ∃ B', ((solidE s gs gw).I (if q = true then some l else st) B' W' ∧ ∀ i, B' i → B i ∨ W.heap.size ≤ i) ∧ Chg B W W'
theorem sol_no {s : Sh} {gs gw : Nat} {st : Option (List Cd)} (l : List Cd) {B : Nat → Prop} {W W' : World} (hI : (solidE s gs gw).I st B W) (hb : Below W.heap.size W W') : SolPost s gs gw st l false B W (.returned (.bool true)) W' :=
  ⟨rfl, B, ⟨(solidE s gs gw).keep hI (Chg.of_below (P := fun _ => False) hb) (fun _ _ e => e), fun _ e => .inl e⟩, Chg.of_below hb⟩
theorem sol_yes {s : Sh} {gs gw : Nat} {st : Option (List Cd)} {l : List Cd} {B : Nat → Prop} {W w1 : World} {v : Value} (hI : (solidE s gs gw).I st B W) (hown : w1.ownsRow W.heap.size 69 3 v l.length (ccells l)) (hb : Below W.heap.size W w1) :
    SolPost s gs gw st l true B W (.returned (.bool false)) (w1.setCell ⟨gw, 0, none⟩ v) := by
  obtain ⟨⟨h0, h1, h2, h3⟩, h4, ⟨⟨u, base, ⟨k1, k2⟩, _, _⟩, hB⟩, h6, h7, h8⟩ := hI
  have hc := Chg.store w1 ⟨gw, 0, none⟩ v
  have hg := lt_of_cell h0
  have hgw := lt_of_cell k1
  have hz := hb.size
  have hz2 := hc.size
  have q1 := (hb.cell (p := ⟨gw, 0, none⟩) hgw).trans k1
  have q2 := (hb.frozen (p := ⟨gw, 0, none⟩) hgw).trans k2
  have c := fun {o : Nat} {u : Value} (e : W.cell? ⟨gs, o, none⟩ = some u) => (hc.cell (p := ⟨gs, o, none⟩) (by simp only; omega) (fun e2 => h4 e2.symm)).trans ((hb.cell (p := ⟨gs, o, none⟩) hg).trans e)
  refine ⟨rfl, fun i => B i ∨ some i = v.ownBlock, ⟨⟨⟨c h0, c h1, c h2, c h3⟩, h4, ⟨⟨v, W.heap.size, ⟨?_, ?_⟩, ?_, fun i hi => ⟨.inr hi.symm, ?_⟩⟩, .inl hB⟩, fun e => ?_, .inl h7, fun i hi => ?_⟩, fun i hi => ?_⟩, (Chg.of_below hb).trans hc (fun i _ e => ?_)⟩
  · simp [go_sem, q1]
  · simp [go_sem, q2]
  · refine hc.own hown (fun i hi e => ?_)
    have := (hown.lt i hi).1
    have e : i = gw := e
    omega
  · have := (hown.lt i hi).1
    show ¬ i = gs
    omega
  · cases e
  · rcases hi with e | e
    · have := h8 i e; omega
    · have := (hown.lt i e.symm).2; omega
  · rcases hi with e | e
    · exact .inl e
    · exact .inr (hown.lt i e.symm).1
  · rw [show i = gw from e]; exact hB

theorem line_tt {s : Sh} {l : List Cd} {k : Nat} (h : k + 1 < s.r) (ht : thrA s true (1 + (k : Int)) l = true) : lineB s l (k + 1) = true := by
  unfold lineB
  rw [show ((k + 1 : Nat) : Int) = 1 + (k : Int) by omega, ht, decide_eq_true h]; rfl
theorem line_ft {s : Sh} {l : List Cd} {k : Nat} (h : k + 1 < s.c) (ht : thrA s false (1 + (k : Int)) l = true) : lineB s l (k + 1) = true := by
  unfold lineB
  rw [show ((k + 1 : Nat) : Int) = 1 + (k : Int) by omega, ht, decide_eq_true h]
  exact Bool.or_true _
theorem line_no {s : Sh} {l : List Cd} {k : Nat} (h : ¬ (k + 1 < s.r ∧ thrA s true (1 + (k : Int)) l = true)) (h2 : ¬ (k + 1 < s.c ∧ thrA s false (1 + (k : Int)) l = true)) : lineB s l (k + 1) = false := by
  unfold lineB
  rw [show ((k + 1 : Nat) : Int) = 1 + (k : Int) by omega, Bool.or_eq_false_iff, Bool.and_eq_false_iff, Bool.and_eq_false_iff, decide_eq_false_iff_not, decide_eq_false_iff_not]
  constructor
  · by_cases a : k + 1 < s.r
    · exact .inr (by simpa using fun e => h ⟨a, e⟩)
    · exact .inl a
  · by_cases a : k + 1 < s.c
    · exact .inr (by simpa using fun e => h2 ⟨a, e⟩)
    · exact .inl a
theorem sol_line {s : Sh} (hs : s.Ok) {l : List Cd} {k : Nat} (hk : k < 5) (h : lineB s l (k + 1) = true) : solidP s l = false := by
  rcases hq : solidP s l with _ | _
  · rfl
  · rw [(solid_line hs l).1 hq k hk] at h; cases h

set_option maxRecDepth 100000 in
set_option maxHeartbeats 4000000 in
theorem sol_each (s : Sh) (hs : s.Ok) (gs gw : Nat) (st : Option (List Cd)) (B : Nat → Prop) (W : World) (A : Option Addr) (l : List Cd) (c : Nat) (hI : (solidE s gs gw).I st B W) (hA : CardsAt W W.heap.size A l) (hf : ∀ x ∈ l, fitP s x) (hn : l.length ≤ 36) :
    Calls Tryd.prog 55 #[.slice A l.length c, .pointer (some ⟨gs, 0, none⟩), .pointer (some ⟨gw, 0, none⟩)] W (SolPost s gs gw st l (solidP s l) B W) := by
  have HI := Lib.hid hI
  obtain ⟨⟨h0, h1, h2, h3⟩, h4, ⟨⟨u, base, ⟨k1, k2⟩, _, _⟩, hB⟩, h6, h7, h8⟩ := hI
  clear h6 h7 h8 hB h4
  have hg := lt_of_cell h0
  have hgw := lt_of_cell k1
  have HA := Lib.hid hA
  have HQ := Lib.hid (fun (k : Nat) (hk : k < 5) (h : lineB s l (k + 1) = true) => sol_line hs hk h)
  have HQ2 := Lib.hid (fun (h : ∀ k : Nat, k < 5 → lineB s l (k + 1) = false) => (solid_line hs l).2 h)
  have HN := Lib.hid (fun W' (h : Below W.heap.size W W') => sol_no l HI.out h)
  have HY := Lib.hid (fun W' v (h : World.ownsRow W' W.heap.size 69 3 v l.length (ccells l)) (hb : Below W.heap.size W W') => sol_yes HI.out h hb)
  have HG1 := Lib.hid (fun (at' : Int) W' (h : Below W.heap.size W W') => goes_any s A c l true at' W' hs (HA.out.up h) hf (by omega))
  have HG2 := Lib.hid (fun (at' : Int) W' (h : Below W.heap.size W W') => goes_any s A c l false at' W' hs (HA.out.up h) hf (by omega))
  have HC := Lib.hid (fun W' (h : Below W.heap.size W W') => clone_any A c l W' (HA.out.up h) (by omega))
  have HL1 := Lib.hid (fun (k : Nat) h ht => line_tt (s := s) (l := l) (k := k) h ht)
  have HL2 := Lib.hid (fun (k : Nat) h ht => line_ft (s := s) (l := l) (k := k) h ht)
  have HL3 := Lib.hid (fun (k : Nat) h ht => line_no (s := s) (l := l) (k := k) h ht)
  have HK := Lib.hid (fun (W' : World) (h : Below W.heap.size W W') => show W'.cell? ⟨gs, 0, none⟩ = some (.int .i64 s.r) ∧ W'.cell? ⟨gs, 1, none⟩ = some (.int .i64 s.c) ∧ W'.cell? ⟨gs, 2, none⟩ = some (.int .i64 s.l) ∧ W'.cell? ⟨gs, 3, none⟩ = some (.int .i64 s.w) ∧ W'.cell? ⟨gw, 0, none⟩ = some u ∧ W'.frozen? ⟨gw, 0, none⟩ = false from
    ⟨(h.cell (p := ⟨gs, 0, none⟩) hg).trans h0, (h.cell (p := ⟨gs, 1, none⟩) hg).trans h1, (h.cell (p := ⟨gs, 2, none⟩) hg).trans h2, (h.cell (p := ⟨gs, 3, none⟩) hg).trans h3, (h.cell (p := ⟨gw, 0, none⟩) hgw).trans k1, (h.frozen (p := ⟨gw, 0, none⟩) hgw).trans k2⟩)
  generalize solidP s l = q at *
  clear HI hA hf hn h0 h1 h2 h3 k1 k2
  have hr6 := hs.r6
  have hc6 := hs.c6
  have hb00 : Below W.heap.size W W := Below.refl _ _
  go_enter Tryd.func55, Tryd.ntmps55
  go_wp2
  go_loopw [5] (fun i wr => ∃ k : Nat, k ≤ 5 ∧ i = .int .i64 (1 + (k : Int)) ∧ Hid (∀ j, j < k → lineB s l (j + 1) = false) ∧ Below W.heap.size W wr) (fun i _ => 8 - (intOf i).toNat)
  case atStart => exact ⟨0, by omega, by simp, Lib.hid (fun j hj => by omega), hb00⟩
  case round =>
    obtain ⟨k, hk, rfl, HD, hbr⟩ := hrel
    have HZ := Lib.hid hbr.size
    by_cases hlt : k < 5
    · have hlt' : 1 + (k : Int) < 6 := by omega
      obtain ⟨p0, p1, p2, p3, _, _⟩ := HK.out _ hbr
      have HH1 := Lib.hid (HG1.out (1 + (k : Int)))
      have HH2 := Lib.hid (HG2.out (1 + (k : Int)))
      have HM1 := Lib.hid (HL1.out k)
      have HM2 := Lib.hid (HL2.out k)
      have HM3 := Lib.hid (HL3.out k)
      generalize thrA s true (1 + (k : Int)) l = tT at *
      generalize thrA s false (1 + (k : Int)) l = tF at *
      by_cases hr1 : k + 1 < s.r
      · have hr1' : 1 + (k : Int) < (s.r : Int) := by omega
        rcases tT with _ | _
        · by_cases hc1 : k + 1 < s.c
          · have hc1' : 1 + (k : Int) < (s.c : Int) := by omega
            rcases tF with _ | _
            · go_wp2_with (first
                | (go_at_call 54; with_reducible refine (HH1.out _ hbr).mono ?_; rintro e w1 ⟨rfl, hb1⟩; have hbr1 := hbr.trans (hb1.mono HZ.out); obtain ⟨r0, r1, r2, r3, _, _⟩ := HK.out _ hbr1; have HZ1 := Lib.hid hbr1.size)
                | (go_at_call 54; with_reducible refine (HH2.out _ hbr1).mono ?_; rintro e w2 ⟨rfl, hb2⟩; have hbr2 := hbr1.trans (hb2.mono HZ1.out)))
              have HD2 := Lib.hid (show ∀ j, j < k + 1 → lineB s l (j + 1) = false from fun j hj => by
                by_cases hjk : j = k
                · rw [hjk]; exact HM3.out (fun e => by cases e.2) (fun e => by cases e.2)
                · exact HD.out j (by omega))
              go_roundw
              case rel => exact ⟨k + 1, by omega, by go_num, HD2, hbr2⟩
              case measure => simp [intOf]; omega
            · go_wp2_with (first
                | (go_at_call 54; with_reducible refine (HH1.out _ hbr).mono ?_; rintro e w1 ⟨rfl, hb1⟩; have hbr1 := hbr.trans (hb1.mono HZ.out); obtain ⟨r0, r1, r2, r3, _, _⟩ := HK.out _ hbr1; have HZ1 := Lib.hid hbr1.size)
                | (go_at_call 54; with_reducible refine (HH2.out _ hbr1).mono ?_; rintro e w2 ⟨rfl, hb2⟩; have hbr2 := hbr1.trans (hb2.mono HZ1.out)))
              obtain rfl : q = false := HQ.out k hlt (HM2.out hc1 (by first | rfl | trivial))
              go_ret
              exact HN.out _ hbr2
          · have hc1' : ¬ 1 + (k : Int) < (s.c : Int) := by omega
            go_wp2_with (go_at_call 54; with_reducible refine (HH1.out _ hbr).mono ?_; rintro e w1 ⟨rfl, hb1⟩; have hbr1 := hbr.trans (hb1.mono HZ.out); obtain ⟨r0, r1, r2, r3, _, _⟩ := HK.out _ hbr1; have HZ1 := Lib.hid hbr1.size)
            have HD2 := Lib.hid (show ∀ j, j < k + 1 → lineB s l (j + 1) = false from fun j hj => by
              by_cases hjk : j = k
              · rw [hjk]; exact HM3.out (fun e => by cases e.2) (fun e => hc1 e.1)
              · exact HD.out j (by omega))
            go_roundw
            case rel => exact ⟨k + 1, by omega, by go_num, HD2, hbr1⟩
            case measure => simp [intOf]; omega
        · go_wp2_with (go_at_call 54; with_reducible refine (HH1.out _ hbr).mono ?_; rintro e w1 ⟨rfl, hb1⟩; have hbr1 := hbr.trans (hb1.mono HZ.out); obtain ⟨r0, r1, r2, r3, _, _⟩ := HK.out _ hbr1; have HZ1 := Lib.hid hbr1.size)
          obtain rfl : q = false := HQ.out k hlt (HM1.out hr1 (by first | rfl | trivial))
          go_ret
          exact HN.out _ hbr1
      · have hr1' : ¬ 1 + (k : Int) < (s.r : Int) := by omega
        by_cases hc1 : k + 1 < s.c
        · have hc1' : 1 + (k : Int) < (s.c : Int) := by omega
          rcases tF with _ | _
          · go_wp2_with (go_at_call 54; with_reducible refine (HH2.out _ hbr).mono ?_; rintro e w2 ⟨rfl, hb2⟩; have hbr2 := hbr.trans (hb2.mono HZ.out))
            have HD2 := Lib.hid (show ∀ j, j < k + 1 → lineB s l (j + 1) = false from fun j hj => by
              by_cases hjk : j = k
              · rw [hjk]; exact HM3.out (fun e => hr1 e.1) (fun e => by cases e.2)
              · exact HD.out j (by omega))
            go_roundw
            case rel => exact ⟨k + 1, by omega, by go_num, HD2, hbr2⟩
            case measure => simp [intOf]; omega
          · go_wp2_with (go_at_call 54; with_reducible refine (HH2.out _ hbr).mono ?_; rintro e w2 ⟨rfl, hb2⟩; have hbr2 := hbr.trans (hb2.mono HZ.out))
            obtain rfl : q = false := HQ.out k hlt (HM2.out hc1 (by first | rfl | trivial))
            go_ret
            exact HN.out _ hbr2
        · have hc1' : ¬ 1 + (k : Int) < (s.c : Int) := by omega
          go_wp2
          have HD2 := Lib.hid (show ∀ j, j < k + 1 → lineB s l (j + 1) = false from fun j hj => by
            by_cases hjk : j = k
            · rw [hjk]; exact HM3.out (fun e => hr1 e.1) (fun e => hc1 e.1)
            · exact HD.out j (by omega))
          go_roundw
          case rel => exact ⟨k + 1, by omega, by go_num, HD2, hbr⟩
          case measure => simp [intOf]; omega
    · have hlt' : ¬ 1 + (k : Int) < 6 := by omega
      have hq : q = true := HQ2.out (fun j hj => HD.out j (by omega))
      subst hq
      obtain ⟨_, _, _, _, p4, p5⟩ := HK.out _ hbr
      go_wp2_with (go_at_call 46; refine (HC.out _ hbr).mono ?_; rintro e w1 ⟨v, rfl, hown, hb1⟩; obtain ⟨A5, c5, rfl, _, _⟩ := own_cards hown; have hbr1 := hbr.trans (hb1.mono HZ.out); obtain ⟨_, _, _, _, q4, q5⟩ := HK.out _ hbr1; have hown1 := own_base hown HZ.out)
      go_ret
      exact HY.out _ _ hown1 hbr1

/-- The first filling that is wanted ends the walk. -/
theorem sol_run (s : Sh) (gs gw : Nat) : ∀ (L : List (List Cd)), runF (solidE s gs gw).f none L = (L.find? (solidP s), (L.find? (solidP s)).isNone)
  | [] => rfl
  | x :: L => by
    have e : (solidE s gs gw).f none x = if solidP s x = true then (some x, false) else (none, true) := rfl
    rw [runF, e, List.find?_cons]
    rcases hq : solidP s x with _ | _
    · simp only [Bool.false_eq_true, if_false, if_true]
      exact sol_run s gs gw L
    · simp only [if_true, Bool.false_eq_true, if_false]
      rfl
theorem sol_eachS (s : Sh) (hs : s.Ok) (gs gw : Nat) : EachS s (solidE s gs gw) := by
  intro st B W A l c hI hA hf hn
  refine (sol_each s hs gs gw st B W A l c hI hA hf hn).mono fun e W' h => ?_
  obtain ⟨h1, B', h2, h3⟩ := h
  have e2 : (solidE s gs gw).f st l = if solidP s l = true then (some l, false) else (st, true) := rfl
  rw [e2]
  rcases hq : solidP s l with _ | _
  · rw [hq] at h1 h2
    exact ⟨h1, B', h2, h3⟩
  · rw [hq] at h1 h2
    exact ⟨h1, B', h2, h3⟩
theorem filC_ne {s : Sh} (hs : s.Ok) {l : List Cd} (h : l ∈ filC s 0 []) : l ≠ [] := by
  rintro rfl
  have h1 := filC_ver hs h
  unfold verS at h1
  rw [verM] at h1
  have h2 : (0 : Nat) ≠ whl s := by
    have h3 := (area_le hs).1
    have h4 : 2 ^ 1 ≤ 2 ^ (s.r * s.c) := Nat.pow_le_pow_right (by decide) h3
    unfold whl
    omega
  rw [if_neg h2] at h1
  cases h1

set_option maxRecDepth 100000 in
set_option maxHeartbeats 8000000 in
theorem lawSolid_any (x : Bd) (w : World) (hx : okB x) (ht : TabW w) :
    Calls Tryd.prog 10 #[.agg #[.int .u8 x.a, .int .u8 x.b, .int .u8 x.c, .int .u8 x.d]] w fun e w' => e = .returned (.bool true) ∧ Below w.heap.size w w' := by
  have HM := Lib.hid (fun W => bmade_any x W hx)
  have hs := bdS_ok x
  generalize bdS x = s at *
  obtain ⟨a, b, c, d⟩ := x
  dsimp only at *
  have HT := Lib.hid ht
  have hmf : ∀ (fn : Fn) (first cap : Array Value) (w : World), (Instr.makeFunc fn first cap).run Tryd.prog w = .ok (.func fn first cap) w := fun _ _ _ _ => rfl
  have q29 : ∀ (w : World) (a : Option Addr) (n c n' c' : Nat), (binOp .eql 29 (.slice a n c) (.slice none n' c')).run Tryd.prog w = .ok (.bool a.isNone) w := fun w a n c n' c' => Lib.run_eql_slice_nil w _ _ a n c n' c' Tryd.underlying29
  clear ht
  go_enter Tryd.func10, Tryd.ntmps10
  go_wp2_with fail
  refine (HM.out _).mono ?_
  rintro e w1 ⟨rfl, hb1⟩
  have hb1' := below_via hb1
  go_upto_region 3 with fail
  obtain ⟨gs, hgs⟩ : ∃ g, g = w1.heap.size := ⟨_, rfl⟩
  obtain ⟨W0, hW0⟩ : ∃ W0, W0 = (w1.alloc (.cells #[.int .i64 s.r, .int .i64 s.c, .int .i64 s.l, .int .i64 s.w] 23)).alloc (.cells #[.slice none 0 0] 29) := ⟨_, rfl⟩
  have hz := hb1'.size
  have hb0 : Below w.heap.size w W0 := hW0 ▸ (hb1'.alloc hz _).alloc (by simp; omega) _
  have hz0 : W0.heap.size = gs + 2 := by rw [hW0, hgs]; simp
  have p0 : W0.cell? ⟨gs, 0, none⟩ = some (.int .i64 s.r) := by rw [hW0, hgs]; simp [go_sem]
  have p1 : W0.cell? ⟨gs, 1, none⟩ = some (.int .i64 s.c) := by rw [hW0, hgs]; simp [go_sem]
  have p2 : W0.cell? ⟨gs, 2, none⟩ = some (.int .i64 s.l) := by rw [hW0, hgs]; simp [go_sem]
  have p3 : W0.cell? ⟨gs, 3, none⟩ = some (.int .i64 s.w) := by rw [hW0, hgs]; simp [go_sem]
  have hI : (solidE s gs (gs + 1)).I none (fun i => i = gs ∨ i = gs + 1) W0 := by
    refine ⟨⟨p0, p1, p2, p3⟩, by omega, ⟨⟨.slice none 0 0, 0, ⟨?_, ?_⟩, World.ownsRow_nil _ _ _ _, fun i hi => by cases hi⟩, .inr rfl⟩, fun _ => ?_, .inl rfl, fun i hi => by omega⟩
    · rw [hW0, hgs]; simp [go_sem]
    · rw [hW0, hgs]; simp [go_sem]
    · rw [hW0, hgs]; simp [go_sem]
  have HFI := Lib.hid (fillings_any s (solidE s gs (gs + 1)) none _ W0 hs (sol_eachS s hs _ _) hI)
  rw [sol_run] at HFI
  have hS : solS s.r s.c s.l s.w = (filC s 0 []).find? (solidP s) := by
    unfold solS
    rw [if_pos (chkS_ok hs)]
    rfl
  have HSO := Lib.hid (fun W h => solidF_any s.r s.c s.l s.w W h)
  rw [hS] at HSO
  unfold errS at HSO
  rw [if_pos (chkS_ok hs)] at HSO
  have hfo : ∀ y, (filC s 0 []).find? (solidP s) = some y → y ∈ filC s 0 [] ∧ solidP s y = true := fun y h => ⟨List.mem_of_find?_eq_some h, List.find?_some h⟩
  have HFM := Lib.hid (fun y (h : y ∈ filC s 0 []) => show y ≠ [] ∧ y.length ≤ 36 ∧ (∀ x ∈ y, fitP s x) ∧ verS s y = 0 from ⟨filC_ne hs h, filC_len hs h, filC_fit h, filC_ver hs h⟩)
  generalize (filC s 0 []).find? (solidP s) = fo at *
  have HFI' : Hid (Calls Tryd.prog 44 #[.agg #[.int .i64 s.r, .int .i64 s.c, .int .i64 s.l, .int .i64 s.w], .func (.func 55) #[] #[.pointer (some ⟨gs, 0, none⟩), .pointer (some ⟨gs + 1, 0, none⟩)]] W0 fun e w' => e = .returned (.bool fo.isNone) ∧ ∃ B', ((solidE s gs (gs + 1)).I fo B' w' ∧ ∀ i, B' i → (i = gs ∨ i = gs + 1) ∨ W0.heap.size ≤ i) ∧ Chg (fun i => i = gs ∨ i = gs + 1) W0 w') := HFI
  clear HFI hI hS
  have hgw : w.heap.size ≤ gs := by omega
  rw [← hgs, ← hW0]
  have HW := Lib.hid (fun W h => works_any W h)
  clear hW0 hb1 hb1' hz HM hgs
  rcases fo with _ | y
  · simp only [Option.isSome_none, Bool.false_eq_true, if_false] at HSO
    unfold RetFirst at HSO
    simp only [Option.getD_none, List.length_nil, Option.isNone_none] at HSO HFI'
    go_wp2_with (first
      | (go_at_call 44; refine HFI'.out.mono ?_; rintro e w2 ⟨rfl, B', ⟨⟨⟨q0, q1, q2, q3⟩, _, hK, q4, _, hBl⟩, hBB⟩, hc2⟩; have hB2 : Below w.heap.size w w2 := hb0.trans (hc2.below (by omega) (fun i hi => by omega)); have ht2 := HT.out.below hB2; replace q4 := q4 rfl)
      | (go_at_call 37; refine (HSO.out _ ht2).mono ?_; rintro e w3 ⟨A3, c3, rfl, hA3, hb3⟩; have ht3 := ht2.below hb3; have r4 := (hb3.cell (p := ⟨gs + 1, 0, none⟩) (lt_of_cell q4)).trans q4)
      | (go_at_call 22; refine (HW.out _ ht3).mono ?_; rintro e w4 ⟨rfl, hb4⟩))
    go_ret
    exact ⟨rfl, hB2.trans ((hb3.trans (hb4.mono hb3.size)).mono hB2.size)⟩
  · obtain ⟨hy, hsol⟩ := hfo y rfl
    obtain ⟨hne, hl36, hfit, hver⟩ := HFM.out y hy
    have hdv := divS_solid hs hfit hsol
    obtain ⟨hst, hvf⟩ := strF_ok hs hver
    rw [hdv] at hst
    have HST := Lib.hid (fun A c W (h : CardsAt W W.heap.size A y) => straight_any s.r s.c s.l s.w A c y W h (by omega))
    rw [hst, hvf] at HST
    have HEQ := Lib.hid (fun (A D : Option Addr) (c d : Nat) (W : World) (h1 : CardsAt W W.heap.size A y) (h2 : CardsAt W W.heap.size D y) => show Calls Tryd.prog 49 #[.slice A y.length c, .slice D y.length d] W (fun e w' => e = .returned (.bool true) ∧ Below W.heap.size W w') from by
      have h := equal_any A D c d y y W (by omega) h1 h2
      rw [decide_eq_true rfl] at h
      exact h)
    have HNZ : Hid (∀ (A : Option Addr) (W : World), CardsAt W W.heap.size A y → ∃ b o, A = some ⟨b, o, none⟩) := Lib.hid (fun A W h => by
      obtain ⟨z, hz⟩ : ∃ z, y[0]? = some z := by
        rcases y with _ | ⟨z, y⟩
        · exact absurd rfl hne
        · exact ⟨z, rfl⟩
      obtain ⟨b, o, e, _⟩ := h 0 z hz
      exact ⟨b, o, e⟩)
    simp only [Option.isSome_some, if_true] at HSO
    unfold RetFirst at HSO
    simp only [Option.getD_some, Option.isNone_some] at HSO HFI'
    clear hy hsol hne hfit hver hdv hst hvf hfo HFM
    by_cases h1 : y.length = 1
    all_goals
      first | (rw [decide_eq_true h1] at HST; have h1' : ((y.length : Int) == 1) = true := beq_iff_eq.2 (by omega)) | (rw [decide_eq_false h1] at HST; have h1' : ((y.length : Int) == 1) = false := beq_eq_false_iff_ne.2 (by omega))
      clear h1
      go_wp2_with (first
        | (go_at_call 44; refine HFI'.out.mono ?_; rintro e w2 ⟨rfl, B', ⟨⟨⟨q0, q1, q2, q3⟩, _, ⟨⟨v, base, ⟨v1, v2⟩, v3, _⟩, _⟩, _, _, hBl⟩, hBB⟩, hc2⟩; have hB2 : Below w.heap.size w w2 := hb0.trans (hc2.below (by omega) (fun i hi => by omega)); have ht2 := HT.out.below hB2; obtain ⟨A1, c1, rfl, hA1, _⟩ := own_cards v3; obtain ⟨b1, o1, rfl⟩ := HNZ.out _ _ hA1)
        | (go_at_call 37; refine (HSO.out _ ht2).mono ?_; rintro e w3 ⟨A3, c3, rfl, hA3, hb3⟩; have hA13 := hA1.up hb3; have r0 := (hb3.cell (p := ⟨gs, 0, none⟩) (lt_of_cell q0)).trans q0; have r1 := (hb3.cell (p := ⟨gs, 1, none⟩) (lt_of_cell q0)).trans q1; have r2 := (hb3.cell (p := ⟨gs, 2, none⟩) (lt_of_cell q0)).trans q2; have r3 := (hb3.cell (p := ⟨gs, 3, none⟩) (lt_of_cell q0)).trans q3; have r4 := (hb3.cell (p := ⟨gs + 1, 0, none⟩) (lt_of_cell v1)).trans v1)
        | (go_at_call 49; refine (HEQ.out _ _ _ _ _ hA3 hA13).mono ?_; rintro e w4 ⟨rfl, hb4⟩; have hA34 := hA3.up hb4; replace hb4 := hb3.trans (hb4.mono hb3.size); have u0 := (hb4.cell (p := ⟨gs, 0, none⟩) (lt_of_cell q0)).trans q0; have u1 := (hb4.cell (p := ⟨gs, 1, none⟩) (lt_of_cell q0)).trans q1; have u2 := (hb4.cell (p := ⟨gs, 2, none⟩) (lt_of_cell q0)).trans q2; have u3 := (hb4.cell (p := ⟨gs, 3, none⟩) (lt_of_cell q0)).trans q3)
        | (go_at_call 30; refine (HST.out _ _ _ hA34).mono ?_; rintro e w5 ⟨rfl, hb5⟩; replace hb5 := hb4.trans (hb5.mono hb4.size); have ht5 := ht2.below hb5)
        | (go_at_call 22; refine (HW.out _ ht5).mono ?_; rintro e w6 ⟨rfl, hb6⟩))
      go_ret
      exact ⟨rfl, hB2.trans ((hb5.trans (hb6.mono hb5.size)).mono hB2.size)⟩
end Go.Proofs.YtlollcabnfncpaaDoor
