/-
  The walk of CutWaste, with what its function does with each filling, slices.Equal of cards, and the first filling of each sheet.
-/
import Derived.Test.YtlollcabnfncpaaDoorMathW
import Derived.Test.YtlollcabnfncpaaDoorFilD
import Derived.Test.YtlollcabnfncpaaDoorLibA
import Derived.Test.YtlollcabnfncpaaDoorFilG
import Derived.Test.YtlollcabnfncpaaDoorBdA
import Derived.Test.YtlollcabnfncpaaDoorMathV
import Derived.Test.YtlollcabnfncpaaDoorWkA
import Derived.Test.YtlollcabnfncpaaDoorLawF
namespace Go.Proofs.YtlollcabnfncpaaDoor
open Go.RowKit

def firstB (s : Sh) : Bool := match fstB s 37 0 [] with
  | none => true
  | some x => verS s x == 0 && x.length * s.l * s.w == s.r * s.c && decide (x.length ≤ 36)
theorem first_all : (six.all fun r => six.all fun c => six.all fun l => six.all fun w => firstB ⟨r, c, l, w⟩) = true := by decide +kernel
theorem first_ok {s : Sh} (hs : s.Ok) {x : List Cd} (h : (filC s 0 []).head? = some x) : verS s x = 0 ∧ x.length * s.l * s.w = s.r * s.c ∧ x.length ≤ 36 := by
  obtain ⟨r, c, l, w⟩ := s
  obtain ⟨h1, h2, h3, h4, h5, h6, h7, h8⟩ := hs
  have ha := List.all_eq_true.1 (List.all_eq_true.1 (List.all_eq_true.1 (List.all_eq_true.1 first_all r (mem_six.2 ⟨h1, h2⟩)) c (mem_six.2 ⟨h3, h4⟩)) l (mem_six.2 ⟨h5, h6⟩)) w (mem_six.2 ⟨h7, h8⟩)
  unfold firstB at ha
  rw [fstB_eq] at ha
  unfold filC at h
  rw [h] at ha
  simp only [Bool.and_eq_true, beq_iff_eq, decide_eq_true_eq] at ha
  exact ⟨ha.1.1, ha.1.2, ha.2⟩

/-- A list of cards is kept in a variable; its row is none of some other blocks. -/
def KeptAt (W : World) (g : Nat) (l : List Cd) (B N : Nat → Prop) : Prop := (∃ v base, (W.cell? ⟨g, 0, none⟩ = some v ∧ W.frozen? ⟨g, 0, none⟩ = false) ∧ W.ownsRow base 69 3 v l.length (ccells l) ∧ ∀ i, v.ownBlock = some i → B i ∧ ¬ N i) ∧ B g
theorem KeptAt.chg {W W' : World} {g : Nat} {l : List Cd} {B N Q : Nat → Prop} (h : KeptAt W g l B N) (hc : Chg Q W W') (hq : ∀ i, B i → ¬ N i → ¬ Q i) (hn : ¬ N g) : KeptAt W' g l B N := by
  obtain ⟨⟨v, base, ⟨h1, h2⟩, h3, h4⟩, h5⟩ := h
  have hg := lt_of_cell h1
  exact ⟨⟨v, base, ⟨(hc.cell (p := ⟨g, 0, none⟩) hg (hq g h5 hn)).trans h1, (hc.frozen (p := ⟨g, 0, none⟩) hg (hq g h5 hn)).trans h2⟩, hc.own h3 (fun i hi => hq i (h4 i hi).1 (h4 i hi).2), h4⟩, h5⟩

/-- The function of CutWaste: the state is the number of fillings so far, and the first of them. -/
def wasteE (g1 g2 : Nat) : EachF (Int × List Cd) where
  k := 45
  caps := #[.pointer (some ⟨g1, 0, none⟩), .pointer (some ⟨g2, 0, none⟩)]
  f st l := ((wrap64 (st.1 + 1), if st.1 = 0 then l else st.2), true)
  I st B W := (W.cell? ⟨g1, 0, none⟩ = some (.int .i64 st.1) ∧ W.frozen? ⟨g1, 0, none⟩ = false) ∧ ¬ g2 = g1 ∧ KeptAt W g2 st.2 B (fun i => i = g1) ∧ B g1 ∧ ∀ i, B i → i < W.heap.size
  enter := fun args W => by simp [callFunc, Tryd.f45]
  lt := fun h => h.2.2.2.2
  keep := fun {st B W W' Q} h hc hq => by
    obtain ⟨⟨h1, h2⟩, h3, h4, h5, h6⟩ := h
    have hg := lt_of_cell h1
    exact ⟨⟨(hc.cell (p := ⟨g1, 0, none⟩) hg (hq g1 h5)).trans h1, (hc.frozen (p := ⟨g1, 0, none⟩) hg (hq g1 h5)).trans h2⟩, h3, h4.chg hc (fun i hi _ => hq i hi) h3, h5, fun i hi => Nat.lt_of_lt_of_le (h6 i hi) hc.size⟩

set_option maxRecDepth 100000 in
set_option maxHeartbeats 4000000 in
theorem waste_each (s : Sh) (g1 g2 : Nat) : EachS s (wasteE g1 g2) := by
  intro st B W A l c hI hA hf hn
  obtain ⟨n, kept⟩ := st
  obtain ⟨⟨h1, h2⟩, h3, hK, h5, h6⟩ := hI
  change Calls Tryd.prog 45 #[.slice A l.length c, .pointer (some ⟨g1, 0, none⟩), .pointer (some ⟨g2, 0, none⟩)] W fun e W' => e = .returned (.bool true) ∧ ∃ B', ((wasteE g1 g2).I (wrap64 (n + 1), if n = 0 then l else kept) B' W' ∧ ∀ i, B' i → B i ∨ W.heap.size ≤ i) ∧ Chg B W W'
  have HK := Lib.hid hK
  have HB := Lib.hid (And.intro h5 h6)
  have HC := Lib.hid (clone_any A c l W hA (by omega))
  have hg1 := lt_of_cell h1
  change W.cell? ⟨g1, 0, none⟩ = some (.int .i64 n) at h1
  clear hK h5 h6
  by_cases hz : n = 0
  · subst hz
    obtain ⟨⟨v, base, ⟨v1, v2⟩, _, _⟩, hb2⟩ := HK.out
    have hg2 := lt_of_cell v1
    go_enter Tryd.func45, Tryd.ntmps45
    go_wp2_with (go_at_call 46; refine HC.out.mono ?_; rintro e w1 ⟨u, rfl, hown, hb1⟩; obtain ⟨A5, c5, rfl, _, _⟩ := own_cards hown; have k1 := (hb1.cell (p := ⟨g1, 0, none⟩) hg1).trans h1; have k2 := (hb1.frozen (p := ⟨g1, 0, none⟩) hg1).trans h2; have k3 := (hb1.cell (p := ⟨g2, 0, none⟩) hg2).trans v1; have k4 := (hb1.frozen (p := ⟨g2, 0, none⟩) hg2).trans v2)
    go_ret
    have hcs : Chg (fun i => i = g2 ∨ i = g1) w1 ((w1.setCell ⟨g2, 0, none⟩ (.slice A5 l.length c5)).setCell ⟨g1, 0, none⟩ (.int .i64 1)) :=
      ((Chg.store w1 ⟨g2, 0, none⟩ (.slice A5 l.length c5)).mono (Q := fun i => i = g2 ∨ i = g1) (fun _ _ e => .inl e)).trans (Chg.store _ ⟨g1, 0, none⟩ _) (fun _ _ e => .inr e)
    have hz := hb1.size
    have hzs := hcs.size
    refine ⟨rfl, ⟨fun i => B i ∨ some i = (Value.slice A5 l.length c5).ownBlock, ⟨⟨?_, ?_⟩, h3, ⟨⟨.slice A5 l.length c5, W.heap.size, ⟨?_, ?_⟩, ?_, fun i hi => ⟨.inr hi.symm, ?_⟩⟩, .inl hb2⟩, .inl HB.out.1, fun i hi => ?_⟩, fun i hi => ?_⟩, (Chg.of_below hb1).trans hcs (fun i _ e => ?_)⟩
    · simp [go_sem, k1]
      unfold wrap64; omega
    · simp [go_sem, k2]
    · simp [go_sem, k3]
    · simp [go_sem, k4]
    · refine hcs.own hown (fun i hi e => ?_)
      have := (hown.lt i hi).1
      omega
    · have := (hown.lt i hi).1
      show ¬ i = g1
      omega
    · rcases hi with e | e
      · have := HB.out.2 i e; omega
      · have := (hown.lt i e.symm).2; omega
    · rcases hi with e | e
      · exact .inl e
      · exact .inr (hown.lt i e.symm).1
    · rcases e with e | e
      · rw [e]; exact hb2
      · rw [e]; exact HB.out.1
  · have hze : (n == 0) = false := beq_eq_false_iff_ne.2 hz
    rw [if_neg hz]
    clear hz
    go_enter Tryd.func45, Tryd.ntmps45
    go_wp2
    go_ret
    have hcs := Chg.store W ⟨g1, 0, none⟩ (.int .i64 (wrap64 (n + 1)))
    have hzs := hcs.size
    refine ⟨rfl, ⟨B, ⟨⟨?_, ?_⟩, h3, ?_, HB.out.1, fun i hi => Nat.lt_of_lt_of_le (HB.out.2 i hi) hzs⟩, fun _ e => .inl e⟩, hcs.mono (fun i _ e => ?_)⟩
    · simp [go_sem, h1]
    · simp [go_sem, h2]
    · exact HK.out.chg hcs (fun i _ hn => hn) h3
    · rw [e]; exact HB.out.1

theorem waste_go (g1 g2 : Nat) : ∀ (L : List (List Cd)) (n : Nat) (l : List Cd), 1 ≤ n → n + L.length < 1000000 → runF (wasteE g1 g2).f ((n : Int), l) L = ((((n + L.length : Nat) : Int), l), true)
  | [], n, l, _, _ => rfl
  | x :: L, n, l, h1, h2 => by
    rw [List.length_cons] at h2
    have e : (wasteE g1 g2).f ((n : Int), l) x = ((((n + 1 : Nat) : Int), l), true) := by
      show ((wrap64 ((n : Int) + 1), if (n : Int) = 0 then x else l), true) = _
      rw [if_neg (by omega), show wrap64 ((n : Int) + 1) = ((n + 1 : Nat) : Int) by unfold wrap64; omega]
    rw [runF, e, if_pos rfl, waste_go g1 g2 L (n + 1) l (by omega) (by omega), List.length_cons, show n + 1 + L.length = n + (L.length + 1) by omega]
theorem waste_run (g1 g2 : Nat) (L : List (List Cd)) (h : L.length < 1000000) : runF (wasteE g1 g2).f (0, []) L = ((((L.length : Nat) : Int), L.head?.getD []), true) := by
  rcases L with _ | ⟨x, L⟩
  · rfl
  · rw [List.length_cons] at h
    have e : (wasteE g1 g2).f (0, []) x = ((((1 : Nat) : Int), x), true) := by
      show ((wrap64 (0 + 1), if (0 : Int) = 0 then x else []), true) = _
      rw [if_pos rfl, show wrap64 (0 + 1) = ((1 : Nat) : Int) by unfold wrap64; omega]
    rw [runF, e, if_pos rfl, waste_go g1 g2 L 1 x (by omega) (by omega), List.length_cons, show 1 + L.length = L.length + 1 by omega]
    rfl

set_option maxRecDepth 100000 in
set_option maxHeartbeats 1000000 in
theorem divides_any (s : Sh) (g k : Nat) (w : World) (hs : s.Ok) (hk : 1 ≤ k) (hk6 : k ≤ 6) (e0 : w.cell? ⟨g, 0, none⟩ = some (.int .i64 s.r)) (e1 : w.cell? ⟨g, 1, none⟩ = some (.int .i64 s.c)) :
    Calls Tryd.prog 47 #[.int .i64 k, .pointer (some ⟨g, 0, none⟩)] w fun e w' => e = .returned (.bool (divS' s.r s.c k)) ∧ w' = w := by
  have hr6 := hs.r6
  have hc6 := hs.c6
  have hk0 : ((k : Int) == 0) = false := beq_eq_false_iff_ne.2 (by omega)
  have hknz : ¬ k = 0 := by omega
  have hm1 : (s.r : Int).tmod (k : Int) = ((s.r % k : Nat) : Int) := rfl
  have hm2 : (s.c : Int).tmod (k : Int) = ((s.c % k : Nat) : Int) := rfl
  have hv : divS' s.r s.c k = (decide (s.r % k = 0) || decide (s.c % k = 0)) := by
    unfold divS'
    rfl
  rw [hv]
  generalize s.r % k = a at *
  generalize s.c % k = b at *
  by_cases ha : a = 0
  · subst ha
    go_enter Tryd.func47, Tryd.ntmps47
    go_wp2
    go_ret
    exact ⟨rfl, rfl⟩
  · have ha' : ((a : Int) == 0) = false := beq_eq_false_iff_ne.2 (by omega)
    by_cases hb : b = 0
    · subst hb
      go_enter Tryd.func47, Tryd.ntmps47
      go_wp2
      go_ret
      exact ⟨rfl, rfl⟩
    · have hb' : ((b : Int) == 0) = false := beq_eq_false_iff_ne.2 (by omega)
      go_enter Tryd.func47, Tryd.ntmps47
      go_wp2
      go_ret
      refine ⟨?_, rfl⟩
      rw [decide_eq_false ha, decide_eq_false hb]
      rfl

theorem fields69 : (Tryd.prog.fieldsOf 69).toList.length = 3 := by kernel_rfl
theorem eq69 : Tryd.prog.underlying 69 = some (.struct (Tryd.prog.fieldsOf 69)) := by
  unfold Program.fieldsOf
  rw [Tryd.underlying69]
theorem stood69 : Tryd.prog.stoodInHeld 69 = false := by kernel_rfl
theorem neq69 (x y : Cd) (w : World) : (binOp .neq 69 (.agg #[.int .i64 x.row, .int .i64 x.col, .bool x.t]) (.agg #[.int .i64 y.row, .int .i64 y.col, .bool y.t])).run Tryd.prog w = .ok (.bool (decide (x ≠ y))) w := by
  obtain ⟨a, b, t⟩ := x
  obtain ⟨a', b', t'⟩ := y
  have e : (!(a == a' && (b == b' && t == t'))) = decide (Cd.mk a b t ≠ ⟨a', b', t'⟩) := by
    by_cases h1 : a = a'
    · by_cases h2 : b = b'
      · by_cases h3 : t = t'
        · simp [h1, h2, h3]
        · simp [h1, h2, h3]
      · simp [h2]
    · simp [h1]
  rw [run_neq_struct, run_equalIn_agg w 9999 69 _ _ eq69 stood69, ← e]
  unfold Program.fieldsOf
  rw [Tryd.underlying69]
  simp [Op.eqFields, go_sem, Tryd.underlying3, Tryd.underlying4]
  by_cases h1 : a = a' <;> by_cases h2 : b = b' <;> by_cases h3 : t = t' <;> simp [h1, h2, h3]

set_option maxRecDepth 100000 in
set_option maxHeartbeats 4000000 in
theorem equal_any (A D : Option Addr) (c d : Nat) (l m : List Cd) (w : World) (hl : l.length < 1000000) (hA : CardsAt w w.heap.size A l) (hD : CardsAt w w.heap.size D m) :
    Calls Tryd.prog 49 #[.slice A l.length c, .slice D m.length d] w fun e w' => e = .returned (.bool (decide (l = m))) ∧ Below w.heap.size w w' := by
  by_cases hlm : l.length = m.length
  rotate_left
  · rw [decide_eq_false (fun h => hlm (by rw [h]))]
    have hlm' : ((l.length : Int) != (m.length : Int)) = true := by simpa using (by omega : ¬ (l.length : Int) = m.length)
    clear hlm
    go_enter Tryd.func49, Tryd.ntmps49
    go_wp2
    go_ret
    exact ⟨rfl, Below.refl _ _⟩
  have hlm' : ((l.length : Int) != (m.length : Int)) = false := by simpa using (by omega : (l.length : Int) = m.length)
  have HLM := Lib.hid hlm
  have hneq := neq69
  clear hlm
  go_enter Tryd.func49, Tryd.ntmps49
  go_wp2
  clear hlm'
  go_loopw [13] (fun i wr => ∃ k : Nat, k ≤ l.length ∧ i = .int .i64 k ∧ Hid (l.take k = m.take k) ∧ Below w.heap.size w wr) (fun i _ => l.length - (intOf i).toNat)
  case atStart => exact ⟨0, Nat.zero_le _, rfl, Lib.hid rfl, Below.refl _ _⟩
  case round =>
    obtain ⟨k, hk, rfl, HK, hbw⟩ := hrel
    by_cases hlt : k < l.length
    · have hlt2 : k < m.length := by have := HLM.out; omega
      have hx : l[k]? = some l[k] := List.getElem?_eq_getElem hlt
      have hy : m[k]? = some m[k] := List.getElem?_eq_getElem hlt2
      have ht1 : l.take (k + 1) = l.take k ++ [l[k]] := List.take_succ_eq_append_getElem hlt
      have ht2 : m.take (k + 1) = m.take k ++ [m[k]] := List.take_succ_eq_append_getElem hlt2
      generalize l[k] = x at hx ht1
      generalize m[k] = y at hy ht2
      obtain ⟨b1, o1, rfl, hb1, g1, g2, g3⟩ := (hA.below hbw (Nat.le_refl _)) k x hx
      obtain ⟨b2, o2, rfl, hb2, k1, k2, k3⟩ := (hD.below hbw (Nat.le_refl _)) k y hy
      have hki : (k : Int) < (l.length : Int) := by omega
      have hkj : (k : Int) < (m.length : Int) := by omega
      have hk0 : (0 : Int) ≤ (k : Int) := by omega
      by_cases hxy : x = y
      · have HT := Lib.hid (show l.take (k + 1) = m.take (k + 1) by rw [ht1, ht2, HK.out, hxy])
        have hne : decide (x ≠ y) = false := by simp [hxy]
        clear hx hy ht1 ht2 hxy
        go_wp2
        go_quiet (fail)
        go_wp2
        go_roundw
        case rel => exact ⟨k + 1, by omega, by go_num, HT, below_drewN hbw _⟩
        case measure => simp [intOf]; omega
      · have HT := Lib.hid (take_ne hx hy hxy)
        have hne : decide (x ≠ y) = true := by simp [hxy]
        clear hx hy ht1 ht2 hxy
        go_wp2
        go_quiet (fail)
        go_wp2
        go_ret
        exact ⟨by rw [decide_eq_false HT.out]; rfl, below_drewN hbw _⟩
    · have e : l.take k = l := List.take_of_length_le (by omega)
      have e2 : m.take k = m := List.take_of_length_le (by have := HLM.out; omega)
      have HE := Lib.hid (show l = m by rw [← e, ← e2, HK.out])
      clear e e2
      go_wp2
      go_ret
      exact ⟨by rw [decide_eq_true HE.out]; rfl, hbw⟩

set_option maxRecDepth 100000 in
set_option maxHeartbeats 8000000 in
theorem lawWaste_any (x : Bd) (w : World) (hx : okB x) (ht : TabW w) :
    Calls Tryd.prog 7 #[.agg #[.int .u8 x.a, .int .u8 x.b, .int .u8 x.c, .int .u8 x.d]] w fun e w' => e = .returned (.bool true) ∧ Below w.heap.size w w' := by
  have HM := Lib.hid (fun W => bmade_any x W hx)
  have hs := bdS_ok x
  generalize bdS x = s at *
  obtain ⟨a, b, c, d⟩ := x
  dsimp only at *
  have HT := Lib.hid ht
  clear ht
  go_enter Tryd.func7, Tryd.ntmps7
  go_wp2_with fail
  refine (HM.out _).mono ?_
  rintro e w1 ⟨rfl, hb1⟩
  have hb1' := below_via hb1
  go_upto_region 4 with fail
  obtain ⟨gs, hgs⟩ : ∃ g, g = w1.heap.size := ⟨_, rfl⟩
  obtain ⟨W0, hW0⟩ : ∃ W0, W0 = ((w1.alloc (.cells #[.int .i64 s.r, .int .i64 s.c, .int .i64 s.l, .int .i64 s.w] 23)).alloc (.cells #[.int .i64 0] 3)).alloc (.cells #[.slice none 0 0] 29) := ⟨_, rfl⟩
  have hz := hb1'.size
  have hb0 : Below w.heap.size w W0 := hW0 ▸ ((hb1'.alloc hz _).alloc (by simp; omega) _).alloc (by simp; omega) _
  have hz0 : W0.heap.size = gs + 3 := by rw [hW0, hgs]; simp
  have p0 : W0.cell? ⟨gs, 0, none⟩ = some (.int .i64 s.r) := by rw [hW0, hgs]; simp [go_sem]
  have p1 : W0.cell? ⟨gs, 1, none⟩ = some (.int .i64 s.c) := by rw [hW0, hgs]; simp [go_sem]
  have p2 : W0.cell? ⟨gs, 2, none⟩ = some (.int .i64 s.l) := by rw [hW0, hgs]; simp [go_sem]
  have p3 : W0.cell? ⟨gs, 3, none⟩ = some (.int .i64 s.w) := by rw [hW0, hgs]; simp [go_sem]
  have hI : (wasteE (gs + 1) (gs + 1 + 1)).I (0, []) (fun i => i = gs + 1 ∨ i = gs + 1 + 1) W0 := by
    refine ⟨⟨?_, ?_⟩, by omega, ⟨⟨.slice none 0 0, 0, ⟨?_, ?_⟩, World.ownsRow_nil _ _ _ _, fun i hi => by cases hi⟩, .inr rfl⟩, .inl rfl, fun i hi => by omega⟩
    · rw [hW0, hgs]; simp [go_sem]
    · rw [hW0, hgs]; simp [go_sem]
    · rw [hW0, hgs]; simp [go_sem]
    · rw [hW0, hgs]; simp [go_sem]
  have HFI := Lib.hid (fillings_any s (wasteE (gs + 1) (gs + 1 + 1)) (0, []) _ W0 hs (waste_each s _ _) hI)
  rw [waste_run _ _ _ (by have := filC_small hs 0 []; omega)] at HFI
  have HFI' : Hid (Calls Tryd.prog 44 #[.agg #[.int .i64 s.r, .int .i64 s.c, .int .i64 s.l, .int .i64 s.w], .func (.func 45) #[] #[.pointer (some ⟨gs + 1, 0, none⟩), .pointer (some ⟨gs + 1 + 1, 0, none⟩)]] W0 fun e w' => e = .returned (.bool true) ∧ ∃ B', ((wasteE (gs + 1) (gs + 1 + 1)).I ((((filC s 0 []).length : Nat) : Int), (filC s 0 []).head?.getD []) B' w' ∧ ∀ i, B' i → (i = gs + 1 ∨ i = gs + 1 + 1) ∨ W0.heap.size ≤ i) ∧ Chg (fun i => i = gs + 1 ∨ i = gs + 1 + 1) W0 w') := HFI
  clear HFI hI
  have hgw : w.heap.size ≤ gs := by omega
  rw [← hgs, ← hW0]
  clear hW0 hb1 hb1' hz HM hgs
  go_upto_region 5 with (go_at_call 44; refine HFI'.out.mono ?_; rintro e w2 ⟨rfl, B', ⟨⟨⟨q1, q2⟩, q3, hK, _, hBl⟩, hBB⟩, hc2⟩)
  have p02 := (hc2.cell (p := ⟨gs, 0, none⟩) (by simp only; omega) (by simp only; omega)).trans p0
  have p12 := (hc2.cell (p := ⟨gs, 1, none⟩) (by simp only; omega) (by simp only; omega)).trans p1
  have p22 := (hc2.cell (p := ⟨gs, 2, none⟩) (by simp only; omega) (by simp only; omega)).trans p2
  have p32 := (hc2.cell (p := ⟨gs, 3, none⟩) (by simp only; omega) (by simp only; omega)).trans p3
  have hB2 : Below w.heap.size w w2 := hb0.trans (hc2.below (by omega) (fun i hi => by omega))
  change w2.cell? ⟨gs + 1, 0, none⟩ = some (.int .i64 (((filC s 0 []).length : Nat) : Int)) at q1
  clear p0 p1 p2 p3 HFI'
  have hsz2 := hc2.size
  have HT2 := Lib.hid (HT.out.below hB2)
  have hcl := cntC_len s 0 []
  have hcan : canS s.r s.c s.l s.w = decide (0 < (filC s 0 []).length) := by
    unfold canS cntS
    rw [if_pos (chkS_ok hs)]
    show decide (0 < ((cntC s 0 : Nat) : Int)) = _
    rw [← hcl]
    exact decide_eq_decide.2 (by omega)
  have hww := can_want hs
  unfold wantB at hww
  have HCAN := Lib.hid (fun W h => can_any s.r s.c s.l s.w W h)
  rw [chkS_ok hs] at HCAN
  have HFILL := Lib.hid (fun W h => fill_of hs W h)
  have HCNT := Lib.hid (fun W h => count_of hs W h)
  rw [← hcl] at HCNT
  have HM1 := Lib.hid (fun W => lmade_any s.r s.l s.w W hs.l1 hs.l6 hs.w1 hs.w6 hs.r6)
  have HM2 := Lib.hid (fun W => lmade_any s.c s.l s.w W hs.l1 hs.l6 hs.w1 hs.w6 hs.c6)
  have HD1 := Lib.hid (divides_any s gs s.l w2 hs hs.l1 hs.l6 p02 p12)
  have HD2 := Lib.hid (divides_any s gs s.w w2 hs hs.w1 hs.w6 p02 p12)
  have HW := Lib.hid (fun W h => works_any W h)
  have hlen := filC_small hs 0 []
  have HFST := Lib.hid (fun y (h : (filC s 0 []).head? = some y) => first_ok hs h)
  generalize filC s 0 [] = L at *
  generalize canS s.r s.c s.l s.w = V at *
  generalize madeN s.r s.l s.w = m1 at *
  generalize madeN s.c s.l s.w = m2 at *
  generalize divS' s.r s.c s.l = d1 at *
  generalize divS' s.r s.c s.w = d2 at *
  have HB2 := Lib.hid hB2
  have HKK := Lib.hid hK
  clear hc2 hBB hBl hK hB2 hb0 hx hcl
  rcases m1 with _ | _
  · have hV : V = false := by rw [hww]; rfl
    clear hww
    go_upto_region 7 with (first
      | (go_at_call 48; with_reducible refine (HM1.out _).mono ?_; rintro e w3 ⟨rfl, rfl⟩)
      | (go_at_call 48; with_reducible refine (HM2.out _).mono ?_; rintro e w3 ⟨rfl, rfl⟩)
      | (go_at_call 47; with_reducible refine HD1.out.mono ?_; rintro e w3 ⟨rfl, rfl⟩)
      | (go_at_call 47; with_reducible refine HD2.out.mono ?_; rintro e w3 ⟨rfl, rfl⟩))
    have hL : L = [] := by
      rw [hV] at hcan
      have := of_decide_eq_false hcan.symm
      exact List.eq_nil_of_length_eq_zero (by omega)
    subst hV hL
    clear hcan
    simp only [List.head?_nil, Option.getD_none, List.length_nil, Option.isSome_none, Bool.false_eq_true, if_false] at HFILL HCNT HKK q1
    unfold RetFirst at HFILL
    go_wp2_with (first
      | (go_at_call 15; refine (HCAN.out _ HT2.out).mono ?_; rintro e w3 ⟨rfl, hb3⟩; have ht3 := HT2.out.below hb3; have r0 := (hb3.cell (p := ⟨gs, 0, none⟩) (lt_of_cell p02)).trans p02; have r1 := (hb3.cell (p := ⟨gs, 1, none⟩) (lt_of_cell p02)).trans p12; have r2 := (hb3.cell (p := ⟨gs, 2, none⟩) (lt_of_cell p02)).trans p22; have r3 := (hb3.cell (p := ⟨gs, 3, none⟩) (lt_of_cell p02)).trans p32; have r4 := (hb3.cell (p := ⟨gs + 1, 0, none⟩) (lt_of_cell q1)).trans q1)
      | (go_at_call 17; refine (HFILL.out _ ht3).mono ?_; rintro e w4 ⟨A4, c4, rfl, hA4, hb4⟩; replace hb4 := hb3.trans (hb4.mono hb3.size); have ht4 := HT2.out.below hb4; have s0 := (hb4.cell (p := ⟨gs, 0, none⟩) (lt_of_cell p02)).trans p02; have s1 := (hb4.cell (p := ⟨gs, 1, none⟩) (lt_of_cell p02)).trans p12; have s2 := (hb4.cell (p := ⟨gs, 2, none⟩) (lt_of_cell p02)).trans p22; have s3 := (hb4.cell (p := ⟨gs, 3, none⟩) (lt_of_cell p02)).trans p32)
      | (go_at_call 23; refine (HCNT.out _ ht4).mono ?_; rintro e w5 ⟨rfl, hb5⟩; replace hb5 := hb4.trans (hb5.mono hb4.size); have ht5 := HT2.out.below hb5; have t4 := (hb5.cell (p := ⟨gs + 1, 0, none⟩) (lt_of_cell q1)).trans q1)
      | (go_at_call 22; refine (HW.out _ ht5).mono ?_; rintro e w6 ⟨rfl, hb6⟩))
    go_ret
    exact ⟨rfl, HB2.out.trans ((hb5.trans (hb6.mono hb5.size)).mono HB2.out.size)⟩
  rcases m2 with _ | _
  · have hV : V = false := by rw [hww]; rfl
    clear hww
    go_upto_region 7 with (first
      | (go_at_call 48; with_reducible refine (HM1.out _).mono ?_; rintro e w3 ⟨rfl, rfl⟩)
      | (go_at_call 48; with_reducible refine (HM2.out _).mono ?_; rintro e w3 ⟨rfl, rfl⟩)
      | (go_at_call 47; with_reducible refine HD1.out.mono ?_; rintro e w3 ⟨rfl, rfl⟩)
      | (go_at_call 47; with_reducible refine HD2.out.mono ?_; rintro e w3 ⟨rfl, rfl⟩))
    have hL : L = [] := by
      rw [hV] at hcan
      have := of_decide_eq_false hcan.symm
      exact List.eq_nil_of_length_eq_zero (by omega)
    subst hV hL
    clear hcan
    simp only [List.head?_nil, Option.getD_none, List.length_nil, Option.isSome_none, Bool.false_eq_true, if_false] at HFILL HCNT HKK q1
    unfold RetFirst at HFILL
    go_wp2_with (first
      | (go_at_call 15; refine (HCAN.out _ HT2.out).mono ?_; rintro e w3 ⟨rfl, hb3⟩; have ht3 := HT2.out.below hb3; have r0 := (hb3.cell (p := ⟨gs, 0, none⟩) (lt_of_cell p02)).trans p02; have r1 := (hb3.cell (p := ⟨gs, 1, none⟩) (lt_of_cell p02)).trans p12; have r2 := (hb3.cell (p := ⟨gs, 2, none⟩) (lt_of_cell p02)).trans p22; have r3 := (hb3.cell (p := ⟨gs, 3, none⟩) (lt_of_cell p02)).trans p32; have r4 := (hb3.cell (p := ⟨gs + 1, 0, none⟩) (lt_of_cell q1)).trans q1)
      | (go_at_call 17; refine (HFILL.out _ ht3).mono ?_; rintro e w4 ⟨A4, c4, rfl, hA4, hb4⟩; replace hb4 := hb3.trans (hb4.mono hb3.size); have ht4 := HT2.out.below hb4; have s0 := (hb4.cell (p := ⟨gs, 0, none⟩) (lt_of_cell p02)).trans p02; have s1 := (hb4.cell (p := ⟨gs, 1, none⟩) (lt_of_cell p02)).trans p12; have s2 := (hb4.cell (p := ⟨gs, 2, none⟩) (lt_of_cell p02)).trans p22; have s3 := (hb4.cell (p := ⟨gs, 3, none⟩) (lt_of_cell p02)).trans p32)
      | (go_at_call 23; refine (HCNT.out _ ht4).mono ?_; rintro e w5 ⟨rfl, hb5⟩; replace hb5 := hb4.trans (hb5.mono hb4.size); have ht5 := HT2.out.below hb5; have t4 := (hb5.cell (p := ⟨gs + 1, 0, none⟩) (lt_of_cell q1)).trans q1)
      | (go_at_call 22; refine (HW.out _ ht5).mono ?_; rintro e w6 ⟨rfl, hb6⟩))
    go_ret
    exact ⟨rfl, HB2.out.trans ((hb5.trans (hb6.mono hb5.size)).mono HB2.out.size)⟩
  rcases d1 with _ | _
  · have hV : V = false := by rw [hww]; rfl
    clear hww
    go_upto_region 7 with (first
      | (go_at_call 48; with_reducible refine (HM1.out _).mono ?_; rintro e w3 ⟨rfl, rfl⟩)
      | (go_at_call 48; with_reducible refine (HM2.out _).mono ?_; rintro e w3 ⟨rfl, rfl⟩)
      | (go_at_call 47; with_reducible refine HD1.out.mono ?_; rintro e w3 ⟨rfl, rfl⟩)
      | (go_at_call 47; with_reducible refine HD2.out.mono ?_; rintro e w3 ⟨rfl, rfl⟩))
    have hL : L = [] := by
      rw [hV] at hcan
      have := of_decide_eq_false hcan.symm
      exact List.eq_nil_of_length_eq_zero (by omega)
    subst hV hL
    clear hcan
    simp only [List.head?_nil, Option.getD_none, List.length_nil, Option.isSome_none, Bool.false_eq_true, if_false] at HFILL HCNT HKK q1
    unfold RetFirst at HFILL
    go_wp2_with (first
      | (go_at_call 15; refine (HCAN.out _ HT2.out).mono ?_; rintro e w3 ⟨rfl, hb3⟩; have ht3 := HT2.out.below hb3; have r0 := (hb3.cell (p := ⟨gs, 0, none⟩) (lt_of_cell p02)).trans p02; have r1 := (hb3.cell (p := ⟨gs, 1, none⟩) (lt_of_cell p02)).trans p12; have r2 := (hb3.cell (p := ⟨gs, 2, none⟩) (lt_of_cell p02)).trans p22; have r3 := (hb3.cell (p := ⟨gs, 3, none⟩) (lt_of_cell p02)).trans p32; have r4 := (hb3.cell (p := ⟨gs + 1, 0, none⟩) (lt_of_cell q1)).trans q1)
      | (go_at_call 17; refine (HFILL.out _ ht3).mono ?_; rintro e w4 ⟨A4, c4, rfl, hA4, hb4⟩; replace hb4 := hb3.trans (hb4.mono hb3.size); have ht4 := HT2.out.below hb4; have s0 := (hb4.cell (p := ⟨gs, 0, none⟩) (lt_of_cell p02)).trans p02; have s1 := (hb4.cell (p := ⟨gs, 1, none⟩) (lt_of_cell p02)).trans p12; have s2 := (hb4.cell (p := ⟨gs, 2, none⟩) (lt_of_cell p02)).trans p22; have s3 := (hb4.cell (p := ⟨gs, 3, none⟩) (lt_of_cell p02)).trans p32)
      | (go_at_call 23; refine (HCNT.out _ ht4).mono ?_; rintro e w5 ⟨rfl, hb5⟩; replace hb5 := hb4.trans (hb5.mono hb4.size); have ht5 := HT2.out.below hb5; have t4 := (hb5.cell (p := ⟨gs + 1, 0, none⟩) (lt_of_cell q1)).trans q1)
      | (go_at_call 22; refine (HW.out _ ht5).mono ?_; rintro e w6 ⟨rfl, hb6⟩))
    go_ret
    exact ⟨rfl, HB2.out.trans ((hb5.trans (hb6.mono hb5.size)).mono HB2.out.size)⟩
  rcases d2 with _ | _
  · have hV : V = false := by rw [hww]; rfl
    clear hww
    go_upto_region 7 with (first
      | (go_at_call 48; with_reducible refine (HM1.out _).mono ?_; rintro e w3 ⟨rfl, rfl⟩)
      | (go_at_call 48; with_reducible refine (HM2.out _).mono ?_; rintro e w3 ⟨rfl, rfl⟩)
      | (go_at_call 47; with_reducible refine HD1.out.mono ?_; rintro e w3 ⟨rfl, rfl⟩)
      | (go_at_call 47; with_reducible refine HD2.out.mono ?_; rintro e w3 ⟨rfl, rfl⟩))
    have hL : L = [] := by
      rw [hV] at hcan
      have := of_decide_eq_false hcan.symm
      exact List.eq_nil_of_length_eq_zero (by omega)
    subst hV hL
    clear hcan
    simp only [List.head?_nil, Option.getD_none, List.length_nil, Option.isSome_none, Bool.false_eq_true, if_false] at HFILL HCNT HKK q1
    unfold RetFirst at HFILL
    go_wp2_with (first
      | (go_at_call 15; refine (HCAN.out _ HT2.out).mono ?_; rintro e w3 ⟨rfl, hb3⟩; have ht3 := HT2.out.below hb3; have r0 := (hb3.cell (p := ⟨gs, 0, none⟩) (lt_of_cell p02)).trans p02; have r1 := (hb3.cell (p := ⟨gs, 1, none⟩) (lt_of_cell p02)).trans p12; have r2 := (hb3.cell (p := ⟨gs, 2, none⟩) (lt_of_cell p02)).trans p22; have r3 := (hb3.cell (p := ⟨gs, 3, none⟩) (lt_of_cell p02)).trans p32; have r4 := (hb3.cell (p := ⟨gs + 1, 0, none⟩) (lt_of_cell q1)).trans q1)
      | (go_at_call 17; refine (HFILL.out _ ht3).mono ?_; rintro e w4 ⟨A4, c4, rfl, hA4, hb4⟩; replace hb4 := hb3.trans (hb4.mono hb3.size); have ht4 := HT2.out.below hb4; have s0 := (hb4.cell (p := ⟨gs, 0, none⟩) (lt_of_cell p02)).trans p02; have s1 := (hb4.cell (p := ⟨gs, 1, none⟩) (lt_of_cell p02)).trans p12; have s2 := (hb4.cell (p := ⟨gs, 2, none⟩) (lt_of_cell p02)).trans p22; have s3 := (hb4.cell (p := ⟨gs, 3, none⟩) (lt_of_cell p02)).trans p32)
      | (go_at_call 23; refine (HCNT.out _ ht4).mono ?_; rintro e w5 ⟨rfl, hb5⟩; replace hb5 := hb4.trans (hb5.mono hb4.size); have ht5 := HT2.out.below hb5; have t4 := (hb5.cell (p := ⟨gs + 1, 0, none⟩) (lt_of_cell q1)).trans q1)
      | (go_at_call 22; refine (HW.out _ ht5).mono ?_; rintro e w6 ⟨rfl, hb6⟩))
    go_ret
    exact ⟨rfl, HB2.out.trans ((hb5.trans (hb6.mono hb5.size)).mono HB2.out.size)⟩
  · have hV : V = true := by rw [hww]; rfl
    clear hww
    go_upto_region 7 with (first
      | (go_at_call 48; with_reducible refine (HM1.out _).mono ?_; rintro e w3 ⟨rfl, rfl⟩)
      | (go_at_call 48; with_reducible refine (HM2.out _).mono ?_; rintro e w3 ⟨rfl, rfl⟩)
      | (go_at_call 47; with_reducible refine HD1.out.mono ?_; rintro e w3 ⟨rfl, rfl⟩)
      | (go_at_call 47; with_reducible refine HD2.out.mono ?_; rintro e w3 ⟨rfl, rfl⟩))
    rcases L with _ | ⟨y, L⟩
    · rw [hV] at hcan
      simp at hcan
    subst hV
    clear hcan
    obtain ⟨hy1, hy2, hy3⟩ := HFST.out y rfl
    simp only [List.head?_cons, Option.getD_some, Option.isSome_some, if_true] at HFILL HKK
    unfold RetFirst at HFILL
    simp only [Option.getD_some] at HFILL
    generalize hn : (y :: L).length = n at *
    have hn1 : ¬ (n : Int) ≤ 0 := by rw [List.length_cons] at hn; omega
    have hn2 : (0 : Int) < (n : Int) := by omega
    clear hn
    obtain ⟨⟨v, base, ⟨v1, v2⟩, v3, _⟩, _⟩ := HKK.out
    obtain ⟨A1, c1, rfl, hA1, _⟩ := own_cards v3
    have hr6 := hs.r6
    obtain ⟨k2, hk2⟩ : ∃ k, s.r * s.c = k := ⟨_, rfl⟩
    have hk36 : k2 ≤ 36 := by rw [← hk2]; exact (area_le hs).2
    obtain ⟨k1, hk1⟩ : ∃ k, y.length * s.l = k := ⟨_, rfl⟩
    rw [hk1, hk2] at hy2
    have hk12 : k1 ≤ k2 := by rw [← hy2]; exact Nat.le_mul_of_pos_right _ hs.w1
    have hw1 : IntKind.i64.wrap ((y.length : Int) * (s.l : Int)) = (k1 : Int) := by
      rw [show ((y.length : Int) * (s.l : Int)) = (k1 : Int) by rw [← hk1, Int.natCast_mul]]
      exact IntWalk.i64_in _ (by omega)
    have hw2 : IntKind.i64.wrap ((k1 : Int) * (s.w : Int)) = (k2 : Int) := by
      rw [show ((k1 : Int) * (s.w : Int)) = (k2 : Int) by rw [← hy2, Int.natCast_mul]]
      exact IntWalk.i64_in _ (by omega)
    have hw3 : IntKind.i64.wrap ((s.r : Int) * (s.c : Int)) = (k2 : Int) := by
      rw [show ((s.r : Int) * (s.c : Int)) = (k2 : Int) by rw [← hk2, Int.natCast_mul]]
      exact IntWalk.i64_in _ (by omega)
    have HV35 := Lib.hid (fun (A : Option Addr) (c : Nat) (W : World) (h : CardsAt W W.heap.size A y) => show Calls Tryd.prog 35 #[.agg #[.int .i64 s.r, .int .i64 s.c, .int .i64 s.l, .int .i64 s.w], .slice A y.length c] W (fun e w' => e = .returned (.int .i64 0) ∧ Below W.heap.size W w') from by
      have h := verify_ok s A c y W hs h (by omega)
      rw [hy1] at h
      exact h)
    have HEQ := Lib.hid (fun (A D : Option Addr) (c d : Nat) (W : World) (h1 : CardsAt W W.heap.size A y) (h2 : CardsAt W W.heap.size D y) => show Calls Tryd.prog 49 #[.slice A y.length c, .slice D y.length d] W (fun e w' => e = .returned (.bool true) ∧ Below W.heap.size W w') from by
      have h := equal_any A D c d y y W (by omega) h1 h2
      rw [decide_eq_true rfl] at h
      exact h)
    clear hk1 hk2 hy2 hk12 hy1 HFST HKK v2 v3 hr6
    go_wp2_with (first
      | (go_at_call 15; refine (HCAN.out _ HT2.out).mono ?_; rintro e w5 ⟨rfl, hb5⟩; have ht5 := HT2.out.below hb5; have r0 := (hb5.cell (p := ⟨gs, 0, none⟩) (lt_of_cell p02)).trans p02; have r1 := (hb5.cell (p := ⟨gs, 1, none⟩) (lt_of_cell p02)).trans p12; have r2 := (hb5.cell (p := ⟨gs, 2, none⟩) (lt_of_cell p02)).trans p22; have r3 := (hb5.cell (p := ⟨gs, 3, none⟩) (lt_of_cell p02)).trans p32)
      | (go_at_call 17; refine (HFILL.out _ ht5).mono ?_; rintro e w6 ⟨A4, c4, rfl, hA4, hb6⟩; replace hb6 := hb5.trans (hb6.mono hb5.size); have ht6 := HT2.out.below hb6; have s0 := (hb6.cell (p := ⟨gs, 0, none⟩) (lt_of_cell p02)).trans p02; have s1 := (hb6.cell (p := ⟨gs, 1, none⟩) (lt_of_cell p02)).trans p12; have s2 := (hb6.cell (p := ⟨gs, 2, none⟩) (lt_of_cell p02)).trans p22; have s3 := (hb6.cell (p := ⟨gs, 3, none⟩) (lt_of_cell p02)).trans p32)
      | (go_at_call 23; refine (HCNT.out _ ht6).mono ?_; rintro e w7 ⟨rfl, hb7⟩; have hA47 := hA4.up hb7; replace hb7 := hb6.trans (hb7.mono hb6.size); have t0 := (hb7.cell (p := ⟨gs, 0, none⟩) (lt_of_cell p02)).trans p02; have t1 := (hb7.cell (p := ⟨gs, 1, none⟩) (lt_of_cell p02)).trans p12; have t2 := (hb7.cell (p := ⟨gs, 2, none⟩) (lt_of_cell p02)).trans p22; have t3 := (hb7.cell (p := ⟨gs, 3, none⟩) (lt_of_cell p02)).trans p32; have t4 := (hb7.cell (p := ⟨gs + 1, 0, none⟩) (lt_of_cell q1)).trans q1; have t5 := (hb7.cell (p := ⟨gs + 1 + 1, 0, none⟩) (lt_of_cell v1)).trans v1)
      | (go_at_call 49; refine (HEQ.out _ _ _ _ _ hA47 (hA1.up hb7)).mono ?_; rintro e w8 ⟨rfl, hb8⟩; have hA48 := hA47.up hb8; replace hb8 := hb7.trans (hb8.mono hb7.size); have u0 := (hb8.cell (p := ⟨gs, 0, none⟩) (lt_of_cell p02)).trans p02; have u1 := (hb8.cell (p := ⟨gs, 1, none⟩) (lt_of_cell p02)).trans p12; have u2 := (hb8.cell (p := ⟨gs, 2, none⟩) (lt_of_cell p02)).trans p22; have u3 := (hb8.cell (p := ⟨gs, 3, none⟩) (lt_of_cell p02)).trans p32)
      | (go_at_call 35; refine (HV35.out _ _ _ hA48).mono ?_; rintro e w9 ⟨rfl, hb9⟩; replace hb9 := hb8.trans (hb9.mono hb8.size); have ht9 := HT2.out.below hb9)
      | (go_at_call 22; refine (HW.out _ ht9).mono ?_; rintro e w10 ⟨rfl, hb10⟩))
    go_ret
    exact ⟨rfl, HB2.out.trans ((hb9.trans (hb10.mono hb9.size)).mono HB2.out.size)⟩
end Go.Proofs.YtlollcabnfncpaaDoor
