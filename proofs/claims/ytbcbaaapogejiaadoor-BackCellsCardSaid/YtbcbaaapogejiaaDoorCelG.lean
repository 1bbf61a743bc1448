/-
  The reference: all lists of so many cells.
-/
import Derived.Test.YtbcbaaapogejiaaDoorCelF
namespace Go.Proofs.YtbcbaaapogejiaaDoor
open Go.RowKit

theorem Out.ls {B : Nat} {W : World} {A : Option Addr} {n c : Nat} {ls : List (List Int)} (h : Out B W (.slice A n c) ls) : ∀ k y, ls[k]? = some y → ∃ ad E e, A = some ad ∧ W.cell? (ad.add k) = some (.slice E y.length e) ∧ IntsAt W W.heap.size E y ∧ ∀ a, E = some a → a.block < W.heap.size ∧ B ≤ a.block := by
  obtain ⟨vals, h1, h2⟩ := h
  intro k x hx
  obtain ⟨D, d, h3, h4, h5⟩ := h2.get hx
  rcases h1.2 with ⟨e, h0⟩ | ⟨g, cap, cur, e, h6⟩
  · have h7 : ls = [] := by simpa using h0
    rw [h7] at hx
    simp at hx
  · injection e with e1 e2 e3
    subst e1 e2 e3
    exact ⟨_, D, d, rfl, h1.cells (g := g) rfl k _ h3, h4, fun a ha => ⟨(h5 a ha).1, (h5 a ha).2.1⟩⟩

/-- Lists, as a call returns them: each in a new block, or in the argument's. -/
def RetLs (A : Option Addr) (w : World) (ls : List (List Int)) (e : Ending) (w' : World) : Prop := ∃ D d, e = .returned (.slice D ls.length d) ∧ (∀ k y, ls[k]? = some y → ∃ ad E e, D = some ad ∧ w'.cell? (ad.add k) = some (.slice E y.length e) ∧ IntsAt w' w'.heap.size E y ∧ ∀ a, E = some a → a.block < w'.heap.size ∧ (w.heap.size ≤ a.block ∨ ∃ b, A = some b ∧ a.block = b.block)) ∧ ListsAt w' w'.heap.size D ls ∧ Below w.heap.size w w'

theorem lsF_nil (r k : Nat) : lsF r 0 k = [[]] := by cases r <;> rfl
theorem map_lens {α β : Type} (f : α → β) (L : List α) : (L.map f).length = L.length := by simp

set_option maxRecDepth 100000 in
set_option maxHeartbeats 2000000 in
theorem refLists_any (of : Nat) (ho : of ≤ 16) : ∀ (m n fr : Nat) (A : Option Addr) (c : Nat) (bg : List Int) (w : World), bg.length + m = n → n ≤ 17 → IntsAt w w.heap.size A bg → (∀ a, A = some a → a.block < w.heap.size) →
    (bg.length = 0 ∧ fr = 0 ∨ 0 < bg.length ∧ bg[bg.length - 1]? = some ((fr : Int) - 1)) → fr ≤ of →
    Calls Tryd.prog 98 #[.int .i64 n, .int .i64 of, .slice A bg.length c] w (RetLs A w ((lsF (of - fr) m fr).map fun l => bg ++ intsN l)) := by
  intro m
  induction m with
  | zero =>
    intro n fr A c bg w hn hn17 hA hAb hf hfo
    have e : (lsF (of - fr) 0 fr).map (fun l => bg ++ intsN l) = [bg] := by rw [lsF_nil]; simp [intsN]
    rw [e]
    have hni : ((bg.length : Int) == (n : Int)) = true := beq_iff_eq.2 (by omega)
    have HA := Lib.hid hA
    have HB := Lib.hid hAb
    clear hA hAb hf e
    go_enter Tryd.func98, Tryd.ntmps98
    go_wp2
    go_ret
    have hb := below_new w (.cells #[.slice A bg.length c] 22)
    have hcl : (w.alloc (.cells #[.slice A bg.length c] 22)).cell? ⟨w.heap.size, 0, none⟩ = some (.slice A bg.length c) := by rw [cell_of_row _ _ _ _ _ _ (heap_new _ _)]; rfl
    refine ⟨some ⟨w.heap.size, 0, none⟩, 1, rfl, fun k y hy => ?_, fun k y hy => ?_, hb⟩
    · rcases k with _ | k
      · have e : bg = y := by simpa using hy
        subst e
        exact ⟨_, A, c, rfl, hcl, HA.out.up hb, fun a ha => ⟨Nat.lt_of_lt_of_le (HB.out a ha) hb.size, .inr ⟨a, ha, rfl⟩⟩⟩
      · simp at hy
    · rcases k with _ | k
      · have e : bg = y := by simpa using hy
        subst e
        exact ⟨w.heap.size, 0, A, c, rfl, by simp, hcl, HA.out.up hb⟩
      · simp at hy
  | succ m ih =>
    intro n fr A c bg w hn hn17 hA hAb hf hfo
    have IH := Lib.hid ih
    have HAll := Lib.hid (show ((lsF (of - fr) (m + 1) fr).map (fun l => bg ++ intsN l)).length ≤ 65536 by
      rw [map_lens]
      have := lsF_count (of - fr) (m + 1) fr
      have h2 : 2 ^ (of - fr) ≤ 2 ^ 16 := Nat.pow_le_pow_right (by omega) (by omega)
      have h3 : (2 : Nat) ^ 16 = 65536 := by decide
      omega)
    obtain ⟨R, hR⟩ : ∃ R, R = (lsF (of - fr) (m + 1) fr).map fun l => bg ++ intsN l := ⟨_, rfl⟩
    rw [← hR] at HAll ⊢
    have HR := Lib.hid hR
    have hni : ((bg.length : Int) == (n : Int)) = false := beq_eq_false_iff_ne.2 (by omega)
    have HA := Lib.hid hA
    clear ih hR hA hAb
    go_enter Tryd.func98, Tryd.ntmps98
    rcases hf with ⟨hz, hf⟩ | ⟨hz, hf⟩
    · have hl0 : ¬ (0 : Int) < (bg.length : Int) := by omega
      have HF := Lib.hid (show Value.int .i64 0 = .int .i64 (fr : Int) by rw [hf]; rfl)
      clear hf hz
      go_wp2
      clear hl0 hni
      go_loopw [8, 9] (fun v i wr => ∃ (j : Nat) (L : List (List Int)), fr ≤ j ∧ j ≤ of ∧ i = .int .i64 j ∧ Hid (R = L ++ (lsF (of - j) (m + 1) j).map fun l => bg ++ intsN l) ∧ Out w.heap.size wr v L ∧ Below w.heap.size w wr) (fun _ i _ => of - (intOf i).toNat)
      case atStart => exact ⟨fr, [], Nat.le_refl _, hfo, HF.out, Lib.hid HR.out, Out.nil _ _, Below.refl _ _⟩
      case round =>
        obtain ⟨j, L, hfj, hj, rfl, HJ, hO, hbw⟩ := hrel
        obtain ⟨vA, vc, rfl⟩ := hO.slice
        have hs := hbw.size
        by_cases hlt : j < of
        · obtain ⟨r, hr⟩ : ∃ r, of - j = r + 1 := ⟨of - j - 1, by omega⟩
          have hr2 : of - (j + 1) = r := by omega
          have e1 := HJ.out
          rw [hr, lsF, List.map_append, List.map_map, ← List.append_assoc] at e1
          have ef : ((fun l => bg ++ intsN l) ∘ fun l => j :: l) = fun l => (bg ++ [(j : Int)]) ++ intsN l := by
            funext l
            simp [intsN]
          rw [ef] at e1
          have HI := IH.out
          obtain ⟨M, hM⟩ : ∃ M, M = (lsF r m (j + 1)).map fun l => (bg ++ [(j : Int)]) ++ intsN l := ⟨_, rfl⟩
          have HI2 := Lib.hid (fun (A5 : Option Addr) (c5 q5 : Nat) (W : World) (hq5 : q5 = bg.length + 1) (hI : IntsAt W W.heap.size A5 (bg ++ [(j : Int)])) (hA5 : ∀ a, A5 = some a → a.block < W.heap.size) => show Calls Tryd.prog 98 #[.int .i64 n, .int .i64 of, .slice A5 q5 c5] W (RetLs A5 W M) from by
            rw [hq5]
            have h := HI n (j + 1) A5 c5 (bg ++ [(j : Int)]) W (by simp; omega) hn17 hI hA5 (.inr ⟨by simp, by simp⟩) (by omega)
            rw [hr2, ← hM] at h
            simpa using h)
          rw [← hM] at e1
          have hMl : L.length + M.length < 1000000 := by
            have h1 := HAll.out
            rw [e1, List.length_append, List.length_append] at h1
            omega
          rw [← hr2] at e1
          have HE := Lib.hid e1
          have HAr := Lib.hid (HA.out.up hbw)
          have hvb : ∀ g, (Value.slice vA L.length vc).ownBlock = some g → g < wr.heap.size := fun g hg => by
            obtain ⟨us, h1, _⟩ := hO
            exact (h1.lt g hg).2
          clear e1 ef hr hr2 hM HI
          have hji : (j : Int) < (of : Int) := by omega
          go_wp2_with (first
            | (at_builtin; refine wpList_append_lists w6 rfl _ _ rfl w.heap.size _ L M rfl hO6 D d rfl hDD hMl (by have := hb6'.size; omega) ?_; intro v7 w7 hO7 hb7)
            | (go_at_call 98; go_must (refine (HI2.out A5 c5 (bg.length + 1) w5 rfl hA5' hlt5').mono ?_; rintro e w6 ⟨D, d, rfl, hL, hLs, hb6⟩; have hb6' : Below wr.heap.size wr w6 := hb5.trans (hb6.mono hb5.size); have hO6 := hO.below hb6'; have hDD : ∀ k y, M[k]? = some y → ∃ ad E e, D = some ad ∧ w6.cell? (ad.add k) = some (.slice E y.length e) ∧ IntsAt w6 w6.heap.size E y ∧ ∀ a, E = some a → a.block < w6.heap.size ∧ w.heap.size ≤ a.block ∧ (Value.slice vA L.length vc).ownBlock ≠ some a.block := fun k y hy => by obtain ⟨ad, E, e, h1, h2, h3, h4⟩ := hL k y hy; exact ⟨ad, E, e, h1, h2, h3, fun a ha => by obtain ⟨h5, h6⟩ := h4 a ha; have h7 : wr.heap.size ≤ a.block := h6.elim (fun h => by have := hb5.size; omega) (fun ⟨b, hb, h⟩ => by have := hge5' b hb; omega); exact ⟨h5, by omega, fun e => by have := hvb _ e; omega⟩⟩))
            | (at_builtin; refine wpList_append_int _ rfl _ _ rfl wr.heap.size bg.length w4.heap.size _ bg (j : Int) rfl (own_below hown4' (below_new _ _)) rfl (heap_new _ _) (by omega) (by simp; have := hb4'.size; omega) ?_; intro A5 c5 w5 hown5 hg5 _; have hlt5 := hown5.lt; obtain ⟨A5', c5', e5, hA5, hl5, hge5⟩ := own_ints hown5; injection e5 with e51 e52 e53; have hA5' : IntsAt w5 w5.heap.size A5 (bg ++ [(j : Int)]) := (by rw [e51]; exact hA5); have hge5' : ∀ a, A5 = some a → wr.heap.size ≤ a.block := fun a ha => (hge5 a (by rw [← e51]; exact ha)).1; have hlt5' : ∀ a, A5 = some a → a.block < w5.heap.size := fun a ha => (by subst ha; exact (hlt5 a.block rfl).2); have hb5 : Below wr.heap.size wr w5 := (hb4'.alloc hb4'.size _).grown hg5 (by simp; have := hb4'.size; omega) (fun g hg => (hown4.lt g hg).1); clear e51 e52 e53 hl5)
            | (at_builtin; refine wpList_append_ints _ rfl _ _ rfl wr.heap.size 0 _ [] bg rfl (own_zero wr wr.heap.size (Nat.le_refl _)) _ c rfl (HAr.out.up (below_new _ _)) (by omega) (by simp) ?_; intro v4 w4 hown4 hb4; have hb4' : Below wr.heap.size wr w4 := ((Below.refl wr.heap.size wr).alloc (Nat.le_refl _) _).trans hb4; have hown4' : w4.ownsRow wr.heap.size 3 1 v4 bg.length (bg.map (Value.int .i64)) := (by simpa using hown4)))
          go_roundw
          case rel => exact ⟨j + 1, L ++ M, by omega, by omega, by go_num, HE, hO7, (hbw.trans (hb6'.mono hs)).trans hb7⟩
          case measure => simp [intOf]; omega
        · have ej : j = of := by omega
          subst ej
          have e1 := HJ.out
          rw [Nat.sub_self, show lsF 0 (m + 1) j = [] from rfl, List.map_nil, List.append_nil] at e1
          have HE := Lib.hid e1
          have HLs := Lib.hid hO.lists
          have HLL := Lib.hid hO.ls
          have hji : ¬ (j : Int) < (j : Int) := by omega
          clear e1 hO
          go_wp2
          go_ret
          rw [HE.out]
          exact ⟨vA, vc, rfl, fun k y hy => by
            obtain ⟨ad, E, e, h1, h2, h3, h4⟩ := HLL.out k y hy
            exact ⟨ad, E, e, h1, h2, h3, fun a ha => ⟨(h4 a ha).1, .inl (h4 a ha).2⟩⟩, HLs.out, hbw⟩
    · have hl0 : (0 : Int) < (bg.length : Int) := by omega
      obtain ⟨ab, ao, rfl, hab, d⟩ := HA.out _ _ hf
      have e0 : IntKind.i64.wrap ((bg.length : Int) - 1) = ((bg.length - 1 : Nat) : Int) := (IntWalk.i64_in _ (by omega)).trans (by omega)
      have e1 : IntKind.i64.wrap ((fr : Int) - 1 + 1) = (fr : Int) := (IntWalk.i64_in _ (by omega)).trans (by omega)
      have hi1 : ((bg.length - 1 : Nat) : Int) < (bg.length : Int) := by omega
      have hd0 : decide (0 < bg.length) = true := decide_eq_true hz
      clear hf hz
      go_wp2
      clear d e0 e1 hi1 hab
      clear hl0 hni
      go_loopw [8, 9] (fun v i wr => ∃ (j : Nat) (L : List (List Int)), fr ≤ j ∧ j ≤ of ∧ i = .int .i64 j ∧ Hid (R = L ++ (lsF (of - j) (m + 1) j).map fun l => bg ++ intsN l) ∧ Out w.heap.size wr v L ∧ Below w.heap.size w wr) (fun _ i _ => of - (intOf i).toNat)
      case atStart => exact ⟨fr, [], Nat.le_refl _, hfo, rfl, Lib.hid HR.out, Out.nil _ _, Below.refl _ _⟩
      case round =>
        obtain ⟨j, L, hfj, hj, rfl, HJ, hO, hbw⟩ := hrel
        obtain ⟨vA, vc, rfl⟩ := hO.slice
        have hs := hbw.size
        by_cases hlt : j < of
        · obtain ⟨r, hr⟩ : ∃ r, of - j = r + 1 := ⟨of - j - 1, by omega⟩
          have hr2 : of - (j + 1) = r := by omega
          have e1 := HJ.out
          rw [hr, lsF, List.map_append, List.map_map, ← List.append_assoc] at e1
          have ef : ((fun l => bg ++ intsN l) ∘ fun l => j :: l) = fun l => (bg ++ [(j : Int)]) ++ intsN l := by
            funext l
            simp [intsN]
          rw [ef] at e1
          have HI := IH.out
          obtain ⟨M, hM⟩ : ∃ M, M = (lsF r m (j + 1)).map fun l => (bg ++ [(j : Int)]) ++ intsN l := ⟨_, rfl⟩
          have HI2 := Lib.hid (fun (A5 : Option Addr) (c5 q5 : Nat) (W : World) (hq5 : q5 = bg.length + 1) (hI : IntsAt W W.heap.size A5 (bg ++ [(j : Int)])) (hA5 : ∀ a, A5 = some a → a.block < W.heap.size) => show Calls Tryd.prog 98 #[.int .i64 n, .int .i64 of, .slice A5 q5 c5] W (RetLs A5 W M) from by
            rw [hq5]
            have h := HI n (j + 1) A5 c5 (bg ++ [(j : Int)]) W (by simp; omega) hn17 hI hA5 (.inr ⟨by simp, by simp⟩) (by omega)
            rw [hr2, ← hM] at h
            simpa using h)
          rw [← hM] at e1
          have hMl : L.length + M.length < 1000000 := by
            have h1 := HAll.out
            rw [e1, List.length_append, List.length_append] at h1
            omega
          rw [← hr2] at e1
          have HE := Lib.hid e1
          have HAr := Lib.hid (HA.out.up hbw)
          have hvb : ∀ g, (Value.slice vA L.length vc).ownBlock = some g → g < wr.heap.size := fun g hg => by
            obtain ⟨us, h1, _⟩ := hO
            exact (h1.lt g hg).2
          clear e1 ef hr hr2 hM HI
          have hji : (j : Int) < (of : Int) := by omega
          go_wp2_with (first
            | (at_builtin; refine wpList_append_lists w6 rfl _ _ rfl w.heap.size _ L M rfl hO6 D d rfl hDD hMl (by have := hb6'.size; omega) ?_; intro v7 w7 hO7 hb7)
            | (go_at_call 98; go_must (refine (HI2.out A5 c5 (bg.length + 1) w5 rfl hA5' hlt5').mono ?_; rintro e w6 ⟨D, d, rfl, hL, hLs, hb6⟩; have hb6' : Below wr.heap.size wr w6 := hb5.trans (hb6.mono hb5.size); have hO6 := hO.below hb6'; have hDD : ∀ k y, M[k]? = some y → ∃ ad E e, D = some ad ∧ w6.cell? (ad.add k) = some (.slice E y.length e) ∧ IntsAt w6 w6.heap.size E y ∧ ∀ a, E = some a → a.block < w6.heap.size ∧ w.heap.size ≤ a.block ∧ (Value.slice vA L.length vc).ownBlock ≠ some a.block := fun k y hy => by obtain ⟨ad, E, e, h1, h2, h3, h4⟩ := hL k y hy; exact ⟨ad, E, e, h1, h2, h3, fun a ha => by obtain ⟨h5, h6⟩ := h4 a ha; have h7 : wr.heap.size ≤ a.block := h6.elim (fun h => by have := hb5.size; omega) (fun ⟨b, hb, h⟩ => by have := hge5' b hb; omega); exact ⟨h5, by omega, fun e => by have := hvb _ e; omega⟩⟩))
            | (at_builtin; refine wpList_append_int _ rfl _ _ rfl wr.heap.size bg.length w4.heap.size _ bg (j : Int) rfl (own_below hown4' (below_new _ _)) rfl (heap_new _ _) (by omega) (by simp; have := hb4'.size; omega) ?_; intro A5 c5 w5 hown5 hg5 _; have hlt5 := hown5.lt; obtain ⟨A5', c5', e5, hA5, hl5, hge5⟩ := own_ints hown5; injection e5 with e51 e52 e53; have hA5' : IntsAt w5 w5.heap.size A5 (bg ++ [(j : Int)]) := (by rw [e51]; exact hA5); have hge5' : ∀ a, A5 = some a → wr.heap.size ≤ a.block := fun a ha => (hge5 a (by rw [← e51]; exact ha)).1; have hlt5' : ∀ a, A5 = some a → a.block < w5.heap.size := fun a ha => (by subst ha; exact (hlt5 a.block rfl).2); have hb5 : Below wr.heap.size wr w5 := (hb4'.alloc hb4'.size _).grown hg5 (by simp; have := hb4'.size; omega) (fun g hg => (hown4.lt g hg).1); clear e51 e52 e53 hl5)
            | (at_builtin; refine wpList_append_ints _ rfl _ _ rfl wr.heap.size 0 _ [] bg rfl (own_zero wr wr.heap.size (Nat.le_refl _)) _ c rfl (HAr.out.up (below_new _ _)) (by omega) (by simp) ?_; intro v4 w4 hown4 hb4; have hb4' : Below wr.heap.size wr w4 := ((Below.refl wr.heap.size wr).alloc (Nat.le_refl _) _).trans hb4; have hown4' : w4.ownsRow wr.heap.size 3 1 v4 bg.length (bg.map (Value.int .i64)) := (by simpa using hown4)))
          go_roundw
          case rel => exact ⟨j + 1, L ++ M, by omega, by omega, by go_num, HE, hO7, (hbw.trans (hb6'.mono hs)).trans hb7⟩
          case measure => simp [intOf]; omega
        · have ej : j = of := by omega
          subst ej
          have e1 := HJ.out
          rw [Nat.sub_self, show lsF 0 (m + 1) j = [] from rfl, List.map_nil, List.append_nil] at e1
          have HE := Lib.hid e1
          have HLs := Lib.hid hO.lists
          have HLL := Lib.hid hO.ls
          have hji : ¬ (j : Int) < (j : Int) := by omega
          clear e1 hO
          go_wp2
          go_ret
          rw [HE.out]
          exact ⟨vA, vc, rfl, fun k y hy => by
            obtain ⟨ad, E, e, h1, h2, h3, h4⟩ := HLL.out k y hy
            exact ⟨ad, E, e, h1, h2, h3, fun a ha => ⟨(h4 a ha).1, .inl (h4 a ha).2⟩⟩, HLs.out, hbw⟩
end Go.Proofs.YtbcbaaapogejiaaDoor
