/-
  Stamps in this seat: the spans of all ways.
-/
import Derived.Test.YtlollcabnfncpaaDoorStpC
namespace Go.Proofs.YtlollcabnfncpaaDoor.Stp
open Go.RowKit


theorem few_found (q : Nat → Bool) : ∀ (j : Nat) (acc : Nat × Bool), (few q j acc).2 = true ↔ acc.2 = true ∨ ∃ s, s < j ∧ q s = true
  | 0, acc => by simp [few]
  | j + 1, acc => by
    rw [few, few_found q j]
    unfold stepF
    by_cases h : q j = true ∧ (acc.2 = false ∨ popc j < popc acc.1)
    · rw [if_pos h]
      exact ⟨fun _ => .inr ⟨j, by omega, h.1⟩, fun _ => .inl rfl⟩
    · rw [if_neg h]
      constructor
      · rintro (h1 | ⟨s, hs, h1⟩)
        · exact .inl h1
        · exact .inr ⟨s, by omega, h1⟩
      · rintro (h1 | ⟨s, hs, h1⟩)
        · exact .inl h1
        · rcases Nat.lt_or_eq_of_le (Nat.le_of_lt_succ hs) with hlt | rfl
          · exact .inr ⟨s, hlt, h1⟩
          · by_cases h2 : acc.2 = true
            · exact .inl h2
            · exact absurd ⟨h1, .inl (by simpa using h2)⟩ h

theorem fewS_found (q : Nat → Bool) (rooms : Nat) : (fewS q rooms).2 = true ↔ ∃ s, s < 2 ^ rooms ∧ q s = true := by
  unfold fewS
  rw [few_found]; simp

/-- The set that is found: q holds of it, no other has fewer rooms, and those with as many come behind it. -/
theorem few_best (q : Nat → Bool) : ∀ (j : Nat) (acc : Nat × Bool), (few q j acc).2 = true →
    (((few q j acc) = acc) ∨ ((few q j acc).1 < j ∧ q (few q j acc).1 = true ∧ (acc.2 = true → popc (few q j acc).1 < popc acc.1))) ∧
    (∀ s, s < j → q s = true → popc (few q j acc).1 < popc s ∨ (popc (few q j acc).1 = popc s ∧ s ≤ (few q j acc).1) ∨ (few q j acc) = acc ∧ popc acc.1 ≤ popc s)
  | 0, acc, _ => ⟨.inl rfl, fun s hs => by omega⟩
  | j + 1, acc, h => by
    rw [few] at h ⊢
    obtain ⟨h1, h2⟩ := few_best q j _ h
    by_cases hc : q j = true ∧ (acc.2 = false ∨ popc j < popc acc.1)
    · have hst : stepF q j acc = (j, true) := by unfold stepF; rw [if_pos hc]
      rw [hst] at h1 h2 ⊢
      refine ⟨.inr ?_, fun s hs hq => ?_⟩
      · rcases h1 with h1 | ⟨h1, h3, h4⟩
        · rw [h1]
          refine ⟨by simp, hc.1, fun ha => ?_⟩
          rcases hc.2 with h5 | h5
          · rw [h5] at ha; cases ha
          · exact h5
        · refine ⟨by omega, h3, fun ha => ?_⟩
          have := h4 rfl
          rcases hc.2 with h5 | h5
          · rw [h5] at ha; cases ha
          · dsimp only at this; omega
      · rcases Nat.lt_or_eq_of_le (Nat.le_of_lt_succ hs) with hlt | rfl
        · rcases h2 s hlt hq with h6 | h6 | ⟨h6, h7⟩
          · exact .inl h6
          · exact .inr (.inl h6)
          · rw [h6]
            dsimp only at h7 ⊢
            rcases Nat.lt_or_eq_of_le h7 with h8 | h8
            · exact .inl h8
            · exact .inr (.inl ⟨h8, by omega⟩)
        · rcases h1 with h1 | ⟨h1, h3, h4⟩
          · rw [h1]; exact .inr (.inl ⟨rfl, Nat.le_refl _⟩)
          · exact .inl (h4 rfl)
    · have hst : stepF q j acc = acc := by unfold stepF; rw [if_neg hc]
      rw [hst] at h1 h2 ⊢
      refine ⟨?_, fun s hs hq => ?_⟩
      · rcases h1 with h1 | ⟨h1, h3, h4⟩
        · exact .inl h1
        · exact .inr ⟨by omega, h3, h4⟩
      · rcases Nat.lt_or_eq_of_le (Nat.le_of_lt_succ hs) with hlt | rfl
        · exact h2 s hlt hq
        · have ha : acc.2 = true ∧ popc acc.1 ≤ popc s := by
            by_cases h5 : acc.2 = true
            · exact ⟨h5, by
                rcases Nat.lt_or_ge (popc s) (popc acc.1) with h6 | h6
                · exact absurd ⟨hq, .inr h6⟩ hc
                · exact h6⟩
            · exact absurd ⟨hq, .inl (by simpa using h5)⟩ hc
          rcases h1 with h1 | ⟨h1, h3, h4⟩
          · exact .inr (.inr ⟨h1, ha.2⟩)
          · have := h4 ha.1; exact .inl (by omega)

/-- Of the sets for which q holds, the one that is found has fewest rooms, and the greatest number of those. -/
theorem fewS_best {q : Nat → Bool} {rooms : Nat} (h : (fewS q rooms).2 = true) : (fewS q rooms).1 < 2 ^ rooms ∧ q (fewS q rooms).1 = true ∧
    ∀ s, s < 2 ^ rooms → q s = true → popc (fewS q rooms).1 < popc s ∨ (popc (fewS q rooms).1 = popc s ∧ s ≤ (fewS q rooms).1) := by
  unfold fewS at h ⊢
  obtain ⟨h1, h2⟩ := few_best q _ _ h
  have h3 : ¬ few q (2 ^ rooms) (0, false) = (0, false) := fun e => by rw [e] at h; cases h
  rcases h1 with h1 | ⟨h1, h4, _⟩
  · exact absurd h1 h3
  · refine ⟨h1, h4, fun s hs hq => ?_⟩
    rcases h2 s hs hq with h5 | h5 | ⟨h5, _⟩
    · exact .inl h5
    · exact .inr h5
    · exact absurd h5 h3

theorem agrS_iff {rooms : Nat} {ws : List Wy} (hv : inW rooms ws) : agrS rooms ws = true ↔ Agr ws := by
  unfold agrS
  rw [agr_iffP hv]
  have := fewS_found (qP rooms ws) rooms
  cases hf : (fewS (qP rooms ws) rooms).2
  · simp only [Bool.not_false, true_iff]
    intro s hs
    rw [hf] at this
    have h1 : ¬ qP rooms ws s = true := fun hq => by have := this.2 ⟨s, hs, hq⟩; cases this
    unfold qP at h1
    have : ¬ (0 < ex (memP rooms s) ws) := by simpa using h1
    omega
  · obtain ⟨s, hs, hq⟩ := this.1 hf
    simp only [Bool.not_true, Bool.false_eq_true, false_iff]
    intro h
    have h1 := h s hs
    unfold qP at hq
    have : 0 < ex (memP rooms s) ws := by simpa using hq
    omega


/-- A list and an error are handed back. -/
def RetList (w : World) (l : List Int) (er : Int) (e : Ending) (w' : World) : Prop := ∃ A c, e = .returned (.tuple #[.slice A l.length c, .int .i64 er]) ∧ IntsAt w' w'.heap.size A l ∧ Below w.heap.size w w'

theorem retList_none {w w' : World} {er : Int} (hb : Below w.heap.size w w') : RetList w [] er (.returned (.tuple #[.slice none 0 0, .int .i64 er])) w' := ⟨none, 0, rfl, IntsAt.nil _ _ _, hb⟩

theorem few_lt (q : Nat → Bool) : ∀ (j : Nat) (acc : Nat × Bool), j ≤ 64 → acc.1 < 64 → (few q j acc).1 < 64
  | 0, _, _, h => h
  | j + 1, acc, hj, h => by
    rw [few]
    refine few_lt q j _ (by omega) ?_
    unfold stepF
    split
    · show j < 64; omega
    · exact h

theorem fewS_lt {q : Nat → Bool} {rooms : Nat} (hr : rooms ≤ 6) : (fewS q rooms).1 < 64 := few_lt q _ _ (pow_le_64 hr) (by decide)

/-- The rooms that prove that books do not agree, and the error. -/
def agaS (R : Int) (ws : List Wy) : List Int × Int :=
  if chk R ws = 0 then (if agrS R.toNat ws then ([], 13) else (listS R.toNat (fewS (qP R.toNat ws) R.toNat).1, 0)) else ([], chk R ws)





theorem chkA_ok {R : Int} {ws : List Wy} (h : chkA R ws = 0) : ∃ rooms : Nat, R = rooms ∧ chk rooms ws = 0 ∧ ValB rooms ws ∧ Agr ws := by
  unfold chkA at h
  by_cases h0 : chk R ws = 0
  · obtain ⟨rooms, rfl, _, hv, _⟩ := chk_ok h0
    rw [if_pos h0] at h
    refine ⟨rooms, rfl, h0, hv, (agrS_iff hv.inW).1 ?_⟩
    by_cases h1 : agrS rooms ws = true
    · exact h1
    · rw [show ((rooms : Int).toNat) = rooms from rfl, if_neg h1] at h; cases h
  · rw [if_neg h0] at h; exact absurd h h0

/-- The first flow, and the error. -/
def frsS (R : Int) (ws : List Wy) : List Int × Int := if chkA R ws = 0 then (firstS R.toNat ws, 0) else ([], chkA R ws)

set_option maxHeartbeats 1000000 in
theorem first20_any (R : Int) (A : Option Addr) (c : Nat) (ws : List Wy) (w : World) (hw : WaysAt w w.heap.size A ws) (ht : SizesAt w) :
    Calls Tryd.prog 98 #[.agg #[.int .i64 R, .slice A ws.length c]] w (RetList w (frsS R ws).1 (frsS R ws).2) := by
  have HC := Lib.hid (fun W hW hT => checkAgree_any R A c ws W hW hT)
  have hw1 := fun o => (hw.alloc (Nat.le_refl _) o).mono (B' := (w.alloc o).heap.size) (by simp)
  have ht1 := fun o => ht.alloc o
  unfold frsS
  by_cases h0 : chkA R ws = 0
  · obtain ⟨rooms, rfl, _, hv, ha⟩ := chkA_ok h0
    have HF := Lib.hid (fun W hW => first_any rooms A c ws W hv ha hW)
    rw [if_pos h0, show ((rooms : Int).toNat) = rooms from rfl]
    rw [h0] at HC
    dsimp only
    generalize firstS rooms ws = L at HF ⊢
    clear h0 hv ha
    go_enter Tryd.func98, Tryd.ntmps98
    go_wp2_with (first
      | (go_at_call 100; refine (HC.out _ (hw1 _) (ht1 _)).mono ?_; rintro e w1 ⟨rfl, hb1⟩; obtain ⟨q1, q2, q3⟩ := bcell hb1; simp only [World.size_alloc] at q1 q2 q3; have hw2 := ((hw1 _).below hb1 (Nat.le_refl _)).mono hb1.size)
      | (go_at_call 124; refine (HF.out _ (by assumption)).mono ?_; rintro e w3 ⟨A', c', rfl, hA', hb3⟩))
    go_ret2
    exact ⟨A', c', rfl, hA', ((Below.refl _ _).alloc (Nat.le_refl _) _).trans ((hb1.mono (by simp)).trans (hb3.mono (by omega)))⟩
  · rw [if_neg h0]
    generalize chkA R ws = v at h0 HC ⊢
    go_enter Tryd.func98, Tryd.ntmps98
    go_wp2_with (go_at_call 100; refine (HC.out _ (hw1 _) (ht1 _)).mono ?_; rintro e w1 ⟨rfl, hb1⟩; obtain ⟨q1, q2, q3⟩ := bcell hb1; simp only [World.size_alloc] at q1 q2 q3)
    go_ret2
    exact retList_none (((Below.refl _ _).alloc (Nat.le_refl _) _).trans (hb1.mono (by simp)))


/-- A list of pairs that lies in memory below block B. -/
def PairsAt (w : World) (B : Nat) (A : Option Addr) (l : List (Int × Int)) : Prop :=
  ∀ (k : Nat) (p : Int × Int), l[k]? = some p → ∃ b off, A = some ⟨b, off, none⟩ ∧ b < B ∧ w.cell? ⟨b, off + k * 2, none⟩ = some (.int .i64 p.1) ∧ w.cell? ⟨b, off + k * 2 + 1, none⟩ = some (.int .i64 p.2)
theorem PairsAt.below {w w' : World} {B B' : Nat} {A : Option Addr} {l : List (Int × Int)} (h : PairsAt w B A l) (hb : Below B' w w') (hB : B ≤ B') : PairsAt w' B A l := by
  intro k p hp
  obtain ⟨b, off, h1, h2, h3, h4⟩ := h k p hp
  exact ⟨b, off, h1, h2, (hb.cell (p := ⟨b, _, none⟩) (by simp; omega)).trans h3, (hb.cell (p := ⟨b, _, none⟩) (by simp; omega)).trans h4⟩
theorem PairsAt.mono {w : World} {B B' : Nat} {A : Option Addr} {l : List (Int × Int)} (h : PairsAt w B A l) (hB : B ≤ B') : PairsAt w B' A l := by
  intro k p hp
  obtain ⟨b, off, h1, h2, h3⟩ := h k p hp
  exact ⟨b, off, h1, by omega, h3⟩
theorem PairsAt.nil (w : World) (B : Nat) (A : Option Addr) : PairsAt w B A [] := by intro k p h; simp at h

def pcells : List (Int × Int) → List Value
  | [] => []
  | p :: l => .int .i64 p.1 :: .int .i64 p.2 :: pcells l
theorem pcells_len : ∀ l, (pcells l).length = l.length * 2
  | [] => rfl
  | _ :: l => by simp only [pcells, List.length_cons, pcells_len l]; omega
theorem pcells_get : ∀ (l : List (Int × Int)) (k : Nat) (p : Int × Int), l[k]? = some p → (pcells l)[k * 2]? = some (.int .i64 p.1) ∧ (pcells l)[k * 2 + 1]? = some (.int .i64 p.2)
  | [], _, _, h => by simp at h
  | q :: l, 0, p, h => by simp at h; subst h; simp [pcells]
  | q :: l, k + 1, p, h => by
    have ih := pcells_get l k p (by simpa using h)
    simp only [pcells]
    rw [show (k + 1) * 2 = k * 2 + 1 + 1 by omega]
    simpa using ih
theorem pcells_set : ∀ (l : List (Int × Int)) (k : Nat) (p : Int × Int), pcells (l.set k p) = ((pcells l).set (k * 2) (.int .i64 p.1)).set (k * 2 + 1) (.int .i64 p.2)
  | [], _, _ => rfl
  | q :: l, 0, p => by simp [pcells]
  | q :: l, k + 1, p => by
    have ih := pcells_set l k p
    rw [show (k + 1) * 2 = k * 2 + 1 + 1 by omega]
    simp only [List.set_cons_succ, pcells, ih]
theorem pcells_zero (n : Nat) : (madeCells (Value.cells (.agg #[.int .i64 0, .int .i64 0])) (n * 2)).toList = pcells (List.replicate n (0, 0)) := by
  refine List.ext_getElem (by rw [pcells_len, List.length_replicate, Array.length_toList, size_madeCells]) fun i h1 h2 => ?_
  rw [Array.length_toList, size_madeCells] at h1
  have hk : (List.replicate n ((0 : Int), (0 : Int)))[i / 2]? = some (0, 0) := by rw [List.getElem?_replicate, if_pos (by omega)]
  obtain ⟨g1, g2⟩ := pcells_get _ _ _ hk
  have hm : i = i / 2 * 2 ∨ i = i / 2 * 2 + 1 := by omega
  have e : (madeCells (Value.cells (.agg #[.int .i64 0, .int .i64 0])) (n * 2)).toList[i]'(by simpa [size_madeCells] using h1) = .int .i64 0 := by
    simp only [Array.getElem_toList, madeCells, Array.getElem_map, Array.getElem_range, Value.cells]
    have : i % 2 = 0 ∨ i % 2 = 1 := by omega
    rcases this with h | h <;> simp [h]
  rw [e]
  have h2' : (pcells (List.replicate n (0, 0)))[i]? = some ((pcells (List.replicate n (0, 0)))[i]) := List.getElem?_eq_getElem h2
  rcases hm with hm | hm
  · rw [← hm, h2'] at g1; exact (Option.some.inj g1).symm
  · rw [← hm, h2'] at g2; exact (Option.some.inj g2).symm

theorem own_pairs {w : World} {base g n cap : Nat} {l : List (Int × Int)} (h : w.ownsRow base 92 2 (.slice (some ⟨g, 0, none⟩) n cap) n (pcells l)) : PairsAt w w.heap.size (some ⟨g, 0, none⟩) l := by
  intro k p hp
  have hn : n = l.length := by have := h.1; rw [pcells_len] at this; omega
  have hk := lt_of_get hp
  obtain ⟨h1, h2⟩ := pcells_get l k p hp
  refine ⟨g, 0, rfl, (h.lt g rfl).2, ?_, ?_⟩
  · rw [Nat.zero_add, h.cellAt _ (by omega)]; exact h1
  · rw [Nat.zero_add, h.cellAt _ (by omega)]; exact h2

theorem info72 : (Tryd.prog.info? 92).map (fun i => (i.zero, i.size, i.bytes)) = some (some (.agg #[.int .i64 0, .int .i64 0]), 2, 16) := by kernel_rfl

/-- The spans of the first ways; the others are 0. -/
def spK (rooms : Nat) (ws : List Wy) : Nat → List (Int × Int)
  | 0 => List.replicate ws.length (0, 0)
  | k + 1 => match ws[k]? with
    | some x => (spK rooms ws k).set k (spanS rooms ws x)
    | none => spK rooms ws k
theorem spK_len (rooms : Nat) (ws : List Wy) : ∀ k, (spK rooms ws k).length = ws.length
  | 0 => by simp [spK]
  | k + 1 => by
    unfold spK
    split
    · rw [List.length_set, spK_len rooms ws k]
    · exact spK_len rooms ws k
theorem spK_get (rooms : Nat) (ws : List Wy) : ∀ k i x, i < k → ws[i]? = some x → (spK rooms ws k)[i]? = some (spanS rooms ws x)
  | 0, _, _, h, _ => by omega
  | k + 1, i, x, h, hx => by
    have hi := lt_of_get hx
    unfold spK
    split
    · rename_i y hy
      rw [getElem?_mem_set (by rw [spK_len]; exact lt_of_get hy)]
      by_cases hik : i = k
      · subst hik; rw [if_pos rfl]; rw [hx] at hy; cases hy; rfl
      · rw [if_neg hik]; exact spK_get rooms ws k i x (by omega) hx
    · rename_i hy
      by_cases hik : i = k
      · subst hik; rw [hx] at hy; cases hy
      · exact spK_get rooms ws k i x (by omega) hx
/-- The spans of all ways. -/
def spansS (rooms : Nat) (ws : List Wy) : List (Int × Int) := spK rooms ws ws.length

/-- Pairs and an error are handed back. -/
def RetPairs (w : World) (l : List (Int × Int)) (er : Int) (e : Ending) (w' : World) : Prop := ∃ A c, e = .returned (.tuple #[.slice A l.length c, .int .i64 er]) ∧ PairsAt w' w'.heap.size A l ∧ Below w.heap.size w w'
theorem retPairs_none {w w' : World} {er : Int} (hb : Below w.heap.size w w') : RetPairs w [] er (.returned (.tuple #[.slice none 0 0, .int .i64 er])) w' := ⟨none, 0, rfl, PairsAt.nil _ _ _, hb⟩

def spsS (R : Int) (ws : List Wy) : List (Int × Int) × Int := if chkA R ws = 0 then (spansS R.toNat ws, 0) else ([], chkA R ws)

set_option maxRecDepth 100000 in
set_option maxHeartbeats 2000000 in
theorem spans_any (R : Int) (A : Option Addr) (c : Nat) (ws : List Wy) (w : World) (hw : WaysAt w w.heap.size A ws) (ht : SizesAt w) :
    Calls Tryd.prog 61 #[.agg #[.int .i64 R, .slice A ws.length c]] w (RetPairs w (spsS R ws).1 (spsS R ws).2) := by
  have HC := Lib.hid (fun W hW hT => checkAgree_any R A c ws W hW hT)
  have hw1 := fun o => (hw.alloc (Nat.le_refl _) o).mono (B' := (w.alloc o).heap.size) (by simp)
  have ht1 := fun o => ht.alloc o
  obtain ⟨i0, hi, hz0, hz1, hz2⟩ := info_parts info72
  unfold spsS
  by_cases h0 : chkA R ws = 0
  rotate_left
  · rw [if_neg h0]
    generalize chkA R ws = v at h0 HC ⊢
    go_enter Tryd.func61, Tryd.ntmps61
    go_wp2_with (go_at_call 100; refine (HC.out _ (hw1 _) (ht1 _)).mono ?_; rintro e w1 ⟨rfl, hb1⟩; obtain ⟨q1, q2, q3⟩ := bcell hb1; simp only [World.size_alloc] at q1 q2 q3)
    go_ret2
    exact retPairs_none (((Below.refl _ _).alloc (Nat.le_refl _) _).trans (hb1.mono (by simp)))
  obtain ⟨rooms, rfl, _, hv, ha⟩ := chkA_ok h0
  rw [if_pos h0, show ((rooms : Int).toNat) = rooms from rfl]
  rw [h0] at HC
  dsimp only
  have hlen := hv.len
  clear h0 ha
  go_enter Tryd.func61, Tryd.ntmps61
  go_wp2_with (first
    | (go_at_call 100; refine (HC.out _ (hw1 _) (ht1 _)).mono ?_; rintro e w1 ⟨rfl, hb1⟩; obtain ⟨q1, q2, q3⟩ := bcell hb1; simp only [World.size_alloc] at q1 q2 q3; have hb0 := ((Below.refl w.heap.size w).alloc (Nat.le_refl _) (.cells #[.int .i64 rooms, .slice A ws.length c] 88)).trans (hb1.mono (by simp)))
    | (at_make; go_must (refine wpList_make_full _ rfl _ _ 89 rfl w1.heap.size 92 i0 (.agg #[.int .i64 0, .int .i64 0]) 2 Tryd.underlying89 hi hz0 hz1 .i64 .i64 _ _ ws.length rfl rfl rfl rfl (by rw [hz2]; omega) (by unfold maxLen; omega) (Nat.le_refl _) ?_); intro w2 hown0 hgrow0))
  rw [pcells_zero] at hown0
  have hb2 : Below w1.heap.size w1 w2 := (Below.refl _ _).grown hgrow0 (Nat.le_refl _) (fun k hk => by cases hk)
  have c0 : w2.cell? ⟨w.heap.size, 0, none⟩ = some (.int .i64 rooms) := (hb2.cell (p := ⟨w.heap.size, 0, none⟩) (by simp; omega)).trans ((q1 _ _ (by omega)).trans (by simp [go_sem]))
  have c1 : w2.cell? ⟨w.heap.size, 1, none⟩ = some (.slice A ws.length c) := (hb2.cell (p := ⟨w.heap.size, 1, none⟩) (by simp; omega)).trans ((q1 _ _ (by omega)).trans (by simp [go_sem]))
  have hb02 := hb0.trans (hb2.mono (by omega))
  have hw2 := hw.below hb02 (Nat.le_refl _)
  obtain ⟨G, hG⟩ : ∃ G, G = w1.heap.size := ⟨_, rfl⟩
  rw [← hG] at hown0 hb2 q3 ⊢
  have hs2 := hb2.size
  rw [← hG] at hs2
  clear hgrow0 q1 q2 hG hb1 HC hw1 ht1 hw ht
  go_loopw [20] (fun i wr => ∃ k : Nat, k ≤ ws.length ∧ i = .int .i64 k ∧ wr.ownsRow G 92 2 (.slice (some ⟨G, 0, none⟩) ws.length ws.length) ws.length (pcells (spK rooms ws k)) ∧ Below G w2 wr) (fun i _ => ws.length - (intOf i).toNat)
  case atStart => exact ⟨0, Nat.zero_le _, rfl, hown0, Below.refl _ _⟩
  case round =>
    obtain ⟨k, hk, rfl, hown, hbw⟩ := hrel
    have d0 := (hbw.cell (p := ⟨w.heap.size, 0, none⟩) (by simp; omega)).trans c0
    have d1 := (hbw.cell (p := ⟨w.heap.size, 1, none⟩) (by simp; omega)).trans c1
    have hsw := hbw.size
    have hww := (hw2.below hbw (by omega)).mono (B' := wr.heap.size) (by omega)
    by_cases hlt : k < ws.length
    · have hx : ws[k]? = some ws[k] := List.getElem?_eq_getElem hlt
      generalize ws[k] = x at hx
      have HS := Lib.hid (fun W hW => span_any rooms k A c ws x W hv hx hW)
      have HK := Lib.hid (show spK rooms ws (k + 1) = (spK rooms ws k).set k (spanS rooms ws x) by rw [spK, hx])
      have hpl := spK_len rooms ws k
      have hpk : (spK rooms ws k)[k]? = some ((spK rooms ws k)[k]'(by omega)) := List.getElem?_eq_getElem (by omega)
      generalize (spK rooms ws k)[k]'(by omega) = z at hpk
      obtain ⟨z1, z2⟩ := pcells_get _ _ _ hpk
      have Z1 := (hown.cellAt (k * 2) (by omega)).trans z1
      have Z2 := (hown.cellAt (k * 2 + 1) (by omega)).trans z2
      have F1 := hown.frozenAt (k * 2)
      have F2 := hown.frozenAt (k * 2 + 1)
      have PS := Lib.hid (pcells_set (spK rooms ws k) k (spanS rooms ws x))
      have hki : (k : Int) < (ws.length : Int) := by omega
      have hGr := (hown.lt G rfl).2
      clear hx hpl hpk z1 z2
      generalize spanS rooms ws x = P at HS HK PS
      obtain ⟨P1, P2⟩ := P
      dsimp only at HS PS
      go_wp2_with (go_at_call 101; refine (HS.out _ hww).mono ?_; rintro e w3 ⟨rfl, hb3⟩; obtain ⟨p1, p2, p3⟩ := bcell hb3)
      go_roundw
      case rel =>
        have s0 := own_below hown hb3
        have s1 := s0.stored (k * 2) (.int .i64 P1)
        have s2 := s1.1.stored (k * 2 + 1) (.int .i64 P2)
        exact ⟨k + 1, by omega, by go_num, by rw [HK.out, PS.out]; exact s2.1, ((hbw.trans (hb3.mono (by omega))).setCell (p := ⟨G, k * 2, none⟩) (Nat.le_refl _) _).setCell (p := ⟨G, k * 2 + 1, none⟩) (Nat.le_refl _) _⟩
      case measure => simp [intOf]; omega
    · have : k = ws.length := by omega
      subst this
      have HL := Lib.hid (spK_len rooms ws ws.length)
      clear hw2 hww
      go_wp2
      go_ret2
      exact ⟨some ⟨G, 0, none⟩, ws.length, by show _ = Ending.returned (.tuple #[.slice _ (spK rooms ws ws.length).length _, _]); rw [HL.out]; rfl, own_pairs hown, hb02.trans (hbw.mono (by omega))⟩

theorem cells_one' (w : World) (k : IntKind) (x : Int) (t : TypeId) (n : Nat) (hn : n = w.heap.size) : ∀ (j : Nat) (u : Value), [Value.int k x][j]? = some u → (w.alloc (.cells #[.int k x] t)).cell? ((⟨n, 0, none⟩ : Addr).add j) = some u := by
  subst hn; exact cells_one w k x t

/-- The ways below k whose spans have two ends. -/
def openK (l : List (Int × Int)) : Nat → List Int
  | 0 => []
  | k + 1 => match l[k]? with
    | some p => if p.1 = p.2 then openK l k else openK l k ++ [(k : Int)]
    | none => openK l k
theorem openK_len (l : List (Int × Int)) : ∀ k, (openK l k).length ≤ k
  | 0 => Nat.le_refl _
  | k + 1 => by
    have := openK_len l k
    unfold openK
    split
    · split
      · omega
      · rw [List.length_append]; simp; omega
    · omega

/-- The ways that are open, and the error. -/
def opnS (R : Int) (ws : List Wy) : List Int × Int := if (spsS R ws).2 = 0 then (openK (spsS R ws).1 (spsS R ws).1.length, 0) else ([], (spsS R ws).2)

theorem spsS_len {R : Int} {ws : List Wy} (h : (spsS R ws).2 = 0) : (spsS R ws).1.length ≤ 12 := by
  unfold spsS at h ⊢
  by_cases h0 : chkA R ws = 0
  · obtain ⟨rooms, rfl, _, hv, _⟩ := chkA_ok h0
    rw [if_pos h0]
    show (spK _ ws ws.length).length ≤ 12
    rw [spK_len]; exact hv.len
  · rw [if_neg h0] at h; exact absurd h h0


end Go.Proofs.YtlollcabnfncpaaDoor.Stp
