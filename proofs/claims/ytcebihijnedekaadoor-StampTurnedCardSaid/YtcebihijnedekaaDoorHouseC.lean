/-
  The walk of made, and whose the ways are that it hands back: memory of their own.
-/
import Derived.Test.YtcebihijnedekaaDoorHouseB
namespace Go.Proofs.YtcebihijnedekaaDoor
open Go.RowKit

/-- What made hands back, in memory of its own. -/
def RetMadeO (w : World) (R : Int) (ws : List Wy) (e : Ending) (w' : World) : Prop := ∃ A c base, e = .returned (.agg #[.int .i64 R, .slice A ws.length c]) ∧ w.heap.size ≤ base ∧ w'.ownsRow base 74 4 (.slice A ws.length c) ws.length (wcells ws) ∧ Below w.heap.size w w'

set_option maxRecDepth 100000 in
set_option maxHeartbeats 4000000 in
theorem madeO2 (q : Int) (hq : 0 ≤ q ∧ q ≤ 255) (hqR : roomsH q = 2) (A : Option Addr) (c most : Nat) (hs : List H4) (w : World) (hm : most ≤ 12) (hok : ∀ h ∈ hs, okH h) (hw : HouseAt w w.heap.size A hs) :
    Calls Tryd.prog 44 #[.agg #[.int .u8 q, .slice A hs.length c], .int .i64 (most : Nat)] w (RetMadeO w 2 (madeS q hs most)) := by
  have HOK := Lib.hid hok
  have hq3 : q % 3 = 0 := by unfold roomsH at hqR; omega
  have HQR := Lib.hid hqR
  clear hok hqR
  go_enter Tryd.func44, Tryd.ntmps44
  go_wp2_with fail
  obtain ⟨W0, hW0⟩ : ∃ W0, W0 = ((w.alloc (.cells #[.int .u8 q, .slice A hs.length c] 63)).alloc (.cells #[.int .i64 0, .slice none 0 0] 24)).alloc (.cells #[.int .i64 2, .slice none 0 0] 24) := ⟨_, rfl⟩
  have hz0' : W0.heap.size = w.heap.size + 1 + 1 + 1 := by rw [hW0]; simp
  have hb0 : Below w.heap.size w W0 := by rw [hW0]; exact (((Below.refl w.heap.size w).alloc (Nat.le_refl _) _).alloc (by simp) _).alloc (by simp <;> omega) _
  have c0 : W0.cell? ⟨w.heap.size + 1 + 1, 0, none⟩ = some (.int .i64 2) := by rw [hW0]; simp [go_sem]
  have c1 : W0.cell? ⟨w.heap.size + 1 + 1, 1, none⟩ = some (.slice none 0 0) := by rw [hW0]; simp [go_sem]
  have c2 : W0.cell? ⟨w.heap.size + 1, 0, none⟩ = some (.int .i64 0) := by rw [hW0]; simp [go_sem]
  have c3 : W0.cell? ⟨w.heap.size + 1, 1, none⟩ = some (.slice none 0 0) := by rw [hW0]; simp [go_sem]
  have f1 : W0.frozen? ⟨w.heap.size + 1 + 1, 1, none⟩ = false := by rw [hW0]; simp [go_sem]
  have f2 : W0.frozen? ⟨w.heap.size + 1, 0, none⟩ = false := by rw [hW0]; simp [go_sem]
  have f3 : W0.frozen? ⟨w.heap.size + 1, 1, none⟩ = false := by rw [hW0]; simp [go_sem]
  rw [← hW0]
  clear hW0 hq3
  go_loopw [19] (fun i wr => ∃ (k : Nat) (v : Value), k ≤ most ∧ k ≤ hs.length ∧ i = .int .i64 (k : Nat) ∧ wr.ownsRow (w.heap.size + 1 + 1 + 1) 74 4 v k (wcells (madeS q hs k)) ∧ Below w.heap.size w wr ∧ w.heap.size + 1 + 1 + 1 ≤ wr.heap.size ∧
    wr.cell? ⟨w.heap.size + 1 + 1, 0, none⟩ = some (.int .i64 2) ∧ wr.cell? ⟨w.heap.size + 1 + 1, 1, none⟩ = some v ∧ wr.cell? ⟨w.heap.size + 1, 0, none⟩ = some (.int .i64 0) ∧ wr.cell? ⟨w.heap.size + 1, 1, none⟩ = some (.slice none 0 0) ∧
    wr.frozen? ⟨w.heap.size + 1 + 1, 1, none⟩ = false ∧ wr.frozen? ⟨w.heap.size + 1, 0, none⟩ = false ∧ wr.frozen? ⟨w.heap.size + 1, 1, none⟩ = false) (fun i _ => most - (intOf i).toNat)
  case atStart => exact ⟨0, .slice none 0 0, Nat.zero_le _, Nat.zero_le _, rfl, World.ownsRow_nil _ _ _ _, hb0, by omega, c0, c1, c2, c3, f1, f2, f3⟩
  case round =>
    obtain ⟨k, v, hk, hkh, rfl, hown, hbw, hsz, d0, d1, d2, d3, g1, g2, g3⟩ := hrel
    clear c0 c1 c2 c3 f1 f2 f3 hz0' hb0
    have hsz2 : w.heap.size + 1 + 1 < wr.heap.size := by omega
    have hsz1 : w.heap.size + 1 < wr.heap.size := by omega
    have hsz0 : w.heap.size < wr.heap.size := by omega
    have hk0 : (0 : Int) ≤ (k : Int) := by omega
    by_cases hlt : k < hs.length
    · have hx : hs[k]? = some hs[k] := List.getElem?_eq_getElem hlt
      generalize hs[k] = h at hx
      obtain ⟨⟨a1, a2⟩, ⟨b1, b2⟩, ⟨e1, e2⟩, ⟨e3, e4⟩⟩ := HOK.out h (List.mem_of_getElem? hx)
      obtain ⟨b, off, rfl, hb, h1, h2, h3, h4⟩ := hw k h hx
      have h1' := (hbw.cell (p := ⟨b, _, none⟩) hb).trans h1
      have h2' := (hbw.cell (p := ⟨b, _, none⟩) hb).trans h2
      have h3' := (hbw.cell (p := ⟨b, _, none⟩) hb).trans h3
      have h4' := (hbw.cell (p := ⟨b, _, none⟩) hb).trans h4
      have hbr : b < wr.heap.size := by omega
      have hki : (k : Int) < (hs.length : Int) := by omega
      clear h1 h2 h3 h4
      by_cases hkm : k < most
      · have hkmi : (k : Int) < (most : Int) := by omega
        have HT := Lib.hid (wayH_take (q := q) hx)
        clear hx
        go_wp2_with fail
        obtain ⟨W5, hW5⟩ : ∃ W5, W5 = wr.alloc (.cells #[.int .u8 h.a, .int .u8 h.b, .int .u8 h.c, .int .u8 h.d] 76) := ⟨_, rfl⟩
        have hb5 : Below wr.heap.size wr W5 := by rw [hW5]; exact (Below.refl _ _).alloc (Nat.le_refl _) _
        have hz5 : W5.heap.size = wr.heap.size + 1 := by rw [hW5]; simp
        have d0 := (hb5.cell (p := ⟨w.heap.size + 1 + 1, 0, none⟩) hsz2).trans d0
        have d1 := (hb5.cell (p := ⟨w.heap.size + 1 + 1, 1, none⟩) hsz2).trans d1
        have d2 := (hb5.cell (p := ⟨w.heap.size + 1, 0, none⟩) hsz1).trans d2
        have d3 := (hb5.cell (p := ⟨w.heap.size + 1, 1, none⟩) hsz1).trans d3
        have g1 := (hb5.frozen (p := ⟨w.heap.size + 1 + 1, 1, none⟩) hsz2).trans g1
        have g2 := (hb5.frozen (p := ⟨w.heap.size + 1, 0, none⟩) hsz1).trans g2
        have g3 := (hb5.frozen (p := ⟨w.heap.size + 1, 1, none⟩) hsz1).trans g3
        have hS00 : M3 wr.heap.size (w.heap.size + 1 + 1) 2 h.b h.d W5 := ⟨by rw [hW5]; simp [go_sem], by rw [hW5]; simp [go_sem], d0⟩
        rw [← hW5]
        have hown5 := own_below hown hb5
        have hbw5 := hbw.trans (hb5.mono (by omega))
        have hne : ∀ i, i < w.heap.size + 1 + 1 + 1 → some i ≠ v.ownBlock := fun i hi h => by have := (hown.lt i h.symm).1; omega
        have hwr0 : wr.heap.size ≠ w.heap.size + 1 + 1 := by omega
        have hgw5 : wr.heap.size < W5.heap.size := by omega
        have hg55 : w.heap.size + 1 + 1 < W5.heap.size := by omega
        have hgwo : some wr.heap.size ≠ v.ownBlock := fun e => by have := (hown.lt _ e.symm).2; omega
        have hz5' : w.heap.size + 1 + 1 + 1 ≤ W5.heap.size := by omega
        clear hW5 hb5 hown hbw h1' h2' h3' h4' hz5
        have hS0 : M3 wr.heap.size (w.heap.size + 1 + 1) 2 h.b h.d W5.drew := hS00
        generalize wr.heap.size = gw at *
        have v1 : IntKind.i64.wrap 1 = 1 := by decide
        have v2 : IntKind.i64.wrap h.b = h.b := IntWalk.i64_in _ (by omega)
        have v3 : h.b.tmod 1 = 0 := Int.tmod_one _
        have v4 : IntKind.i64.wrap (h.a % 2 + 1) = h.a % 2 + 1 := IntWalk.i64_in _ (by omega)
        have v6 : (h.a % 2 + 1).tmod 2 = (h.a % 2 + 1) % 2 := Int.tmod_eq_emod_of_nonneg (by omega)
        have v7 : IntKind.i64.wrap h.d = h.d := IntWalk.i64_in _ (by omega)
        have v8 : h.d.tmod 4 = h.d % 4 := Int.tmod_eq_emod_of_nonneg e3
        obtain ⟨m, hm4⟩ : ∃ m, min 4 (h.c % 4 + h.d % 4) = m := ⟨_, rfl⟩
        have v10 : (if h.c % 4 + h.d % 4 < 4 then h.c % 4 + h.d % 4 else 4) = m := by rw [← hm4, min_if]
        have HM := Lib.hid hm4
        clear hm4
        have v9 : IntKind.i64.wrap (h.c % 4 + h.d % 4) = h.c % 4 + h.d % 4 := IntWalk.i64_in _ (by omega)
        have hba := (Below.refl W5.heap.size W5).alloc (Nat.le_refl _) (.cells #[.int .i64 (h.a % 2), .int .i64 ((h.a + 1) % 2), .int .i64 (h.c % 4), .int .i64 (m)] 74)
        have hbw6 := hbw5.trans (hba.mono (by omega))
        refine wp_region_held (S := M3 gw (w.heap.size + 1 + 1) 2 h.b h.d) (by kernel_rfl) ?_
        try (change wpAnyH _ _ _ _ _ _ _ _ (World.drew _))
        refine wpAnyH_take (i := 0) (v := ?_) rfl (by kernel_rfl) (by kernel_rfl) (by kernel_rfl) (fun _ _ _ h => h) (Or.inl ⟨by rfl, ?_⟩) (by assumption) ?_
        rotate_left
        · intro w hSw; obtain ⟨s1, s2, s3⟩ := hSw; go_simp; try with_reducible rfl
        try simp only [Act.put, List.getElem_toArray, List.getElem_cons_zero, List.setIfInBounds_toArray, List.set_cons_zero, List.set_cons_succ]
        refine wpAnyH_take (i := 2) (v := ?_) rfl (by kernel_rfl) (by kernel_rfl) (by kernel_rfl) (fun _ _ _ h => h) (Or.inl ⟨by rfl, ?_⟩) (by assumption) ?_
        rotate_left
        · intro w hSw; obtain ⟨s1, s2, s3⟩ := hSw; go_simp; try with_reducible rfl
        try simp only [Act.put, List.getElem_toArray, List.getElem_cons_zero, List.getElem_cons_succ, List.setIfInBounds_toArray, List.set_cons_zero, List.set_cons_succ]
        refine wpAnyH_take (i := 3) (v := ?_) rfl (by kernel_rfl) (by kernel_rfl) (by kernel_rfl) (fun _ _ _ h => h) (Or.inl ⟨by rfl, ?_⟩) (by assumption) ?_
        rotate_left
        · intro w hSw; obtain ⟨s1, s2, s3⟩ := hSw; go_simp; try with_reducible rfl
        try simp only [Act.put, List.getElem_toArray, List.getElem_cons_zero, List.getElem_cons_succ, List.setIfInBounds_toArray, List.set_cons_zero, List.set_cons_succ]
        refine wpAnyH_take (i := 4) (v := ?_) rfl (by kernel_rfl) (by kernel_rfl) (by kernel_rfl) (fun _ _ _ h => h) (Or.inl ⟨by rfl, ?_⟩) (by assumption) ?_
        rotate_left
        · intro w hSw; obtain ⟨s1, s2, s3⟩ := hSw; go_simp; try with_reducible rfl
        try simp only [Act.put, List.getElem_toArray, List.getElem_cons_zero, List.getElem_cons_succ, List.setIfInBounds_toArray, List.set_cons_zero, List.set_cons_succ]
        refine wpAnyH_take (i := 5) (v := ?_) rfl (by kernel_rfl) (by kernel_rfl) (by kernel_rfl) (fun _ _ _ h => h) (Or.inl ⟨by rfl, ?_⟩) (by assumption) ?_
        rotate_left
        · intro w hSw; obtain ⟨s1, s2, s3⟩ := hSw; go_simp; try with_reducible rfl
        try simp only [Act.put, List.getElem_toArray, List.getElem_cons_zero, List.getElem_cons_succ, List.setIfInBounds_toArray, List.set_cons_zero, List.set_cons_succ]
        refine wpAnyH_take (i := 6) (v := ?_) rfl (by kernel_rfl) (by kernel_rfl) (by kernel_rfl) (fun _ _ _ h => h) (Or.inl ⟨by rfl, ?_⟩) (by assumption) ?_
        rotate_left
        · intro w hSw; obtain ⟨s1, s2, s3⟩ := hSw; go_simp; try with_reducible rfl
        try simp only [Act.put, List.getElem_toArray, List.getElem_cons_zero, List.getElem_cons_succ, List.setIfInBounds_toArray, List.set_cons_zero, List.set_cons_succ]
        refine wpAnyH_take (i := 7) (v := ?_) rfl (by kernel_rfl) (by kernel_rfl) (by kernel_rfl) (fun _ _ _ h => h) (Or.inl ⟨by rfl, ?_⟩) (by assumption) ?_
        rotate_left
        · intro w hSw; obtain ⟨s1, s2, s3⟩ := hSw; go_simp; try with_reducible rfl
        try simp only [Act.put, List.getElem_toArray, List.getElem_cons_zero, List.getElem_cons_succ, List.setIfInBounds_toArray, List.set_cons_zero, List.set_cons_succ]
        refine wpAnyH_take (i := 8) (v := ?_) rfl (by kernel_rfl) (by kernel_rfl) (by kernel_rfl) (fun _ _ _ h => h) (Or.inl ⟨by rfl, ?_⟩) (by assumption) ?_
        rotate_left
        · intro w hSw; obtain ⟨s1, s2, s3⟩ := hSw; go_simp; try with_reducible rfl
        try simp only [Act.put, List.getElem_toArray, List.getElem_cons_zero, List.getElem_cons_succ, List.setIfInBounds_toArray, List.set_cons_zero, List.set_cons_succ]
        refine wpAnyH_take (i := 9) (v := ?_) rfl (by kernel_rfl) (by kernel_rfl) (by kernel_rfl) (fun _ _ _ h => h) (Or.inl ⟨by rfl, ?_⟩) (by assumption) ?_
        rotate_left
        · intro w hSw; obtain ⟨s1, s2, s3⟩ := hSw; go_simp; try with_reducible rfl
        try simp only [Act.put, List.getElem_toArray, List.getElem_cons_zero, List.getElem_cons_succ, List.setIfInBounds_toArray, List.set_cons_zero, List.set_cons_succ]
        refine wpAnyH_take (i := 10) (v := ?_) rfl (by kernel_rfl) (by kernel_rfl) (by kernel_rfl) (fun _ _ _ h => h) (Or.inl ⟨by rfl, ?_⟩) (by assumption) ?_
        rotate_left
        · intro w hSw; obtain ⟨s1, s2, s3⟩ := hSw; go_simp; try with_reducible rfl
        try simp only [Act.put, List.getElem_toArray, List.getElem_cons_zero, List.getElem_cons_succ, List.setIfInBounds_toArray, List.set_cons_zero, List.set_cons_succ]
        refine wpAnyH_take (i := 11) (v := ?_) rfl (by kernel_rfl) (by kernel_rfl) (by kernel_rfl) (fun _ _ _ h => h) (Or.inl ⟨by rfl, ?_⟩) (by assumption) ?_
        rotate_left
        · intro w hSw; obtain ⟨s1, s2, s3⟩ := hSw; go_simp; try with_reducible rfl
        try simp only [Act.put, List.getElem_toArray, List.getElem_cons_zero, List.getElem_cons_succ, List.setIfInBounds_toArray, List.set_cons_zero, List.set_cons_succ]
        refine wpAnyH_take (i := 12) (v := ?_) rfl (by kernel_rfl) (by kernel_rfl) (by kernel_rfl) (fun _ _ _ h => h) (Or.inl ⟨by rfl, ?_⟩) (by assumption) ?_
        rotate_left
        · intro w hSw; obtain ⟨s1, s2, s3⟩ := hSw; go_simp; try with_reducible rfl
        try simp only [Act.put, List.getElem_toArray, List.getElem_cons_zero, List.getElem_cons_succ, List.setIfInBounds_toArray, List.set_cons_zero, List.set_cons_succ]
        refine wpAnyH_take (i := 13) (v := ?_) rfl (by kernel_rfl) (by kernel_rfl) (by kernel_rfl) (fun _ _ _ h => h) (Or.inl ⟨by rfl, ?_⟩) (by assumption) ?_
        rotate_left
        · intro w hSw; obtain ⟨s1, s2, s3⟩ := hSw; go_simp; try with_reducible rfl
        try simp only [Act.put, List.getElem_toArray, List.getElem_cons_zero, List.getElem_cons_succ, List.setIfInBounds_toArray, List.set_cons_zero, List.set_cons_succ]
        refine wpAnyH_take (i := 14) (v := ?_) rfl (by kernel_rfl) (by kernel_rfl) (by kernel_rfl) (fun _ _ _ h => h) (Or.inl ⟨by rfl, ?_⟩) (by assumption) ?_
        rotate_left
        · intro w hSw; obtain ⟨s1, s2, s3⟩ := hSw; go_simp; try with_reducible rfl
        try simp only [Act.put, List.getElem_toArray, List.getElem_cons_zero, List.getElem_cons_succ, List.setIfInBounds_toArray, List.set_cons_zero, List.set_cons_succ]
        refine wpAnyH_take (i := 15) (v := ?_) rfl (by kernel_rfl) (by kernel_rfl) (by kernel_rfl) (fun _ _ _ h => h) (Or.inl ⟨by rfl, ?_⟩) (by assumption) ?_
        rotate_left
        · intro w hSw; obtain ⟨s1, s2, s3⟩ := hSw; go_simp; try with_reducible rfl
        try simp only [Act.put, List.getElem_toArray, List.getElem_cons_zero, List.getElem_cons_succ, List.setIfInBounds_toArray, List.set_cons_zero, List.set_cons_succ]
        refine wpAnyH_take (i := 16) (v := ?_) rfl (by kernel_rfl) (by kernel_rfl) (by kernel_rfl) (fun _ _ _ h => h) (Or.inl ⟨by rfl, ?_⟩) (by assumption) ?_
        rotate_left
        · intro w hSw; obtain ⟨s1, s2, s3⟩ := hSw; go_simp; try with_reducible rfl
        try simp only [Act.put, List.getElem_toArray, List.getElem_cons_zero, List.getElem_cons_succ, List.setIfInBounds_toArray, List.set_cons_zero, List.set_cons_succ]
        refine wpAnyH_take (i := 17) (v := ?_) rfl (by kernel_rfl) (by kernel_rfl) (by kernel_rfl) (fun _ _ _ h => h) (Or.inl ⟨by rfl, ?_⟩) (by assumption) ?_
        rotate_left
        · intro w hSw; obtain ⟨s1, s2, s3⟩ := hSw; go_simp; try with_reducible rfl
        try simp only [Act.put, List.getElem_toArray, List.getElem_cons_zero, List.getElem_cons_succ, List.setIfInBounds_toArray, List.set_cons_zero, List.set_cons_succ]
        refine wpAnyH_take (i := 18) (v := ?_) rfl (by kernel_rfl) (by kernel_rfl) (by kernel_rfl) (fun _ _ _ h => h) (Or.inl ⟨by rfl, ?_⟩) (by assumption) ?_
        rotate_left
        · intro w hSw; obtain ⟨s1, s2, s3⟩ := hSw; go_simp; try with_reducible rfl
        try simp only [Act.put, List.getElem_toArray, List.getElem_cons_zero, List.getElem_cons_succ, List.setIfInBounds_toArray, List.set_cons_zero, List.set_cons_succ]
        refine wpAnyH_take (i := 19) (v := ?_) rfl (by kernel_rfl) (by kernel_rfl) (by kernel_rfl) (fun _ _ _ h => h) (Or.inl ⟨by rfl, ?_⟩) (by assumption) ?_
        rotate_left
        · intro w hSw; obtain ⟨s1, s2, s3⟩ := hSw; go_simp; try with_reducible rfl
        try simp only [Act.put, List.getElem_toArray, List.getElem_cons_zero, List.getElem_cons_succ, List.setIfInBounds_toArray, List.set_cons_zero, List.set_cons_succ]
        refine wpAnyH_take (i := 20) (v := ?_) rfl (by kernel_rfl) (by kernel_rfl) (by kernel_rfl) (fun _ _ _ h => h) (Or.inl ⟨by rfl, ?_⟩) (by assumption) ?_
        rotate_left
        · intro w hSw; obtain ⟨s1, s2, s3⟩ := hSw; go_simp; try with_reducible rfl
        try simp only [Act.put, List.getElem_toArray, List.getElem_cons_zero, List.getElem_cons_succ, List.setIfInBounds_toArray, List.set_cons_zero, List.set_cons_succ]
        refine wpAnyH_take (i := 21) (v := ?_) rfl (by kernel_rfl) (by kernel_rfl) (by kernel_rfl) (fun _ _ _ h => h) (Or.inl ⟨by rfl, ?_⟩) (by assumption) ?_
        rotate_left
        · intro w hSw; obtain ⟨s1, s2, s3⟩ := hSw; go_simp; try with_reducible rfl
        try simp only [Act.put, List.getElem_toArray, List.getElem_cons_zero, List.getElem_cons_succ, List.setIfInBounds_toArray, List.set_cons_zero, List.set_cons_succ]
        refine wpAnyH_take (i := 22) (v := ?_) rfl (by kernel_rfl) (by kernel_rfl) (by kernel_rfl) (fun _ _ _ h => h) (Or.inl ⟨by rfl, ?_⟩) (by assumption) ?_
        rotate_left
        · intro w hSw; obtain ⟨s1, s2, s3⟩ := hSw; go_simp; try with_reducible rfl
        try simp only [Act.put, List.getElem_toArray, List.getElem_cons_zero, List.getElem_cons_succ, List.setIfInBounds_toArray, List.set_cons_zero, List.set_cons_succ]
        refine wpAnyH_take (i := 23) (v := ?_) rfl (by kernel_rfl) (by kernel_rfl) (by kernel_rfl) (fun _ _ _ h => h) (Or.inl ⟨by rfl, ?_⟩) (by assumption) ?_
        rotate_left
        · intro w hSw; obtain ⟨s1, s2, s3⟩ := hSw; go_simp; try with_reducible rfl
        try simp only [Act.put, List.getElem_toArray, List.getElem_cons_zero, List.getElem_cons_succ, List.setIfInBounds_toArray, List.set_cons_zero, List.set_cons_succ]
        refine wpAnyH_take (i := 24) (v := ?_) rfl (by kernel_rfl) (by kernel_rfl) (by kernel_rfl) (fun _ _ _ h => h) (Or.inl ⟨by rfl, ?_⟩) (by assumption) ?_
        rotate_left
        · intro w hSw; obtain ⟨s1, s2, s3⟩ := hSw; go_simp; try with_reducible rfl
        try simp only [Act.put, List.getElem_toArray, List.getElem_cons_zero, List.getElem_cons_succ, List.setIfInBounds_toArray, List.set_cons_zero, List.set_cons_succ]
        refine wpAnyH_ready (rs := [1, 25]) (by kernel_rfl) (by simp) ?_
        refine AllReadyH.cons rfl (fun K hK => ?_) (AllReadyH.cons rfl (fun K hK => ?_) AllReadyH.nil)
        · go_simp
          refine hK.out _ _ hS0 (fun _ => ?_)
          clear hK K
          try simp only [Act.put, List.getElem_toArray, List.getElem_cons_zero, List.getElem_cons_succ, List.setIfInBounds_toArray, List.set_cons_zero, List.set_cons_succ]
          refine wpAnyH_ready (rs := [25]) (by kernel_rfl) (by simp) ?_
          refine AllReadyH.cons rfl (fun K hK => ?_) AllReadyH.nil
          go_simp
          refine hK.out _ _ (⟨(hba.cell (p := ⟨gw, _, none⟩) hgw5).trans hS00.1, (hba.cell (p := ⟨gw, _, none⟩) hgw5).trans hS00.2.1, (hba.cell (p := ⟨_, _, none⟩) hg55).trans hS00.2.2⟩) (fun _ => ?_)
          clear hK K
          try simp only [Act.put, List.getElem_toArray, List.getElem_cons_zero, List.getElem_cons_succ, List.setIfInBounds_toArray, List.set_cons_zero, List.set_cons_succ]
          refine wpAnyH_ready (rs := [26]) (by kernel_rfl) (by simp) ?_
          refine AllReadyH.cons rfl (fun K hK => ?_) AllReadyH.nil
          refine step_books rfl _ _ rfl (w.heap.size + 1 + 1 + 1) k W5.heap.size v (wcells (madeS q hs k)) (h.a % 2) ((h.a + 1) % 2) (h.c % 4) (m) rfl (by exact hown5.alloc _) rfl (by exact heap_alloc_new _ _) (by omega) (by simp; omega) ?_
          intro g cap w4 hown4 hgrow4
          have kc := (fun i o (hi : i < w.heap.size + 1 + 1 + 1) => (World.cell?_of_block (a := ⟨i, o, none⟩) (hgrow4.block i (by simp; omega) (hne i hi))).trans (hba.cell (p := ⟨i, o, none⟩) (by simp; omega)))
          have kf := (fun i o (hi : i < w.heap.size + 1 + 1 + 1) => (World.frozen?_of_block (a := ⟨i, o, none⟩) (hgrow4.block i (by simp; omega) (hne i hi))).trans (hba.frozen (p := ⟨i, o, none⟩) (by simp; omega)))
          have kw := (fun o => (World.cell?_of_block (a := ⟨gw, o, none⟩) (hgrow4.block gw (by simp; omega) hgwo)).trans (hba.cell (p := ⟨gw, o, none⟩) hgw5))
          have hS4 : M3 gw (w.heap.size + 1 + 1) 2 h.b h.d w4 := ⟨(kw _).trans hS00.1, (kw _).trans hS00.2.1, (kc _ _ (by omega)).trans hS00.2.2⟩
          have y0 := (kc (w.heap.size + 1 + 1) 0 (by omega)).trans d0
          have y1 := (kc (w.heap.size + 1 + 1) 1 (by omega)).trans d1
          have y2 := (kc (w.heap.size + 1) 0 (by omega)).trans d2
          have y3 := (kc (w.heap.size + 1) 1 (by omega)).trans d3
          have y4 := (kf (w.heap.size + 1 + 1) 1 (by omega)).trans g1
          have y5 := (kf (w.heap.size + 1) 0 (by omega)).trans g2
          have y6 := (kf (w.heap.size + 1) 1 (by omega)).trans g3
          have hs4 : W5.heap.size + 1 ≤ w4.heap.size := by have := hgrow4.size; simpa using this
          have hbw4 : Below w.heap.size w w4 := by
            refine Below.grown ?_ hgrow4 (by simp; omega) (fun g hg => by have := (hown5.lt g hg).1; omega)
            exact ⟨hbw6.os, hbw6.tape, hbw6.output, hbw6.size, hbw6.block⟩
          refine hK.out _ _ hS4 (fun _ => ?_)
          clear hK K kc kf kw
          try simp only [Act.put, List.getElem_toArray, List.getElem_cons_zero, List.getElem_cons_succ, List.setIfInBounds_toArray, List.set_cons_zero, List.set_cons_succ]
          refine wpAnyH_take (i := 27) (v := ?_) rfl (by kernel_rfl) (by kernel_rfl) (by kernel_rfl) (fun _ _ _ h => h) (Or.inl ⟨by rfl, ?_⟩) (by assumption) ?_
          rotate_left
          · intro w hSw; obtain ⟨s1, s2, s3⟩ := hSw; go_simp; try with_reducible rfl
          try simp only [Act.put, List.getElem_toArray, List.getElem_cons_zero, List.getElem_cons_succ, List.setIfInBounds_toArray, List.set_cons_zero, List.set_cons_succ]
          refine wpAnyH_ready (rs := [28]) (by kernel_rfl) (by simp) ?_
          refine AllReadyH.cons rfl (fun K hK => ?_) AllReadyH.nil
          go_simp
          refine hK.out _ _ ⟨(World.cell?_setCell_other _ _ _ _ (fun h => by injection h; omega)).trans hS4.1, (World.cell?_setCell_other _ _ _ _ (fun h => by injection h; omega)).trans hS4.2.1, (World.cell?_setCell_other _ _ _ _ (fun h => by injection h; omega)).trans hS4.2.2⟩ (fun _ => ?_)
          clear hK K
          refine wpAnyH_done (by kernel_rfl) ?_ _
          have hownF := ownsRow_setCell_below hown4 (a := ⟨w.heap.size + 1 + 1, 1, none⟩) (by simp) (.slice (some ⟨g, 0, none⟩) (k + 1) cap)
          go_wp2_with fail
          go_roundw
          case rel =>
            exact ⟨k + 1, .slice (some ⟨g, 0, none⟩) (k + 1) cap, hkm, hlt, by go_num, by rw [HT.out, wcells_append, HQR.out, show wcells [wayH 2 h] = [.int .i64 (h.a % 2), .int .i64 ((h.a + 1) % 2), .int .i64 (h.c % 4), .int .i64 (m)] by unfold wayH; rw [HM.out]; simp [wcells]]; exact hownF, hbw4.setCell (p := ⟨w.heap.size + 1 + 1, 1, none⟩) (by simp <;> omega) _, by simp; omega, by simp [go_sem, y0], by simp [go_sem, y1], by simp [go_sem, y2], by simp [go_sem, y3], by simp [go_sem, y4], by simp [go_sem, y5], by simp [go_sem, y6]⟩
          case measure => simp [intOf]; omega
        · go_simp
          refine hK.out _ _ ⟨(hba.cell (p := ⟨gw, _, none⟩) hgw5).trans hS00.1, (hba.cell (p := ⟨gw, _, none⟩) hgw5).trans hS00.2.1, (hba.cell (p := ⟨_, _, none⟩) hg55).trans hS00.2.2⟩ (fun _ => ?_)
          clear hK K
          try simp only [Act.put, List.getElem_toArray, List.getElem_cons_zero, List.getElem_cons_succ, List.setIfInBounds_toArray, List.set_cons_zero, List.set_cons_succ]
          refine wpAnyH_ready (rs := [1]) (by kernel_rfl) (by simp) ?_
          refine AllReadyH.cons rfl (fun K hK => ?_) AllReadyH.nil
          go_simp
          refine hK.out _ _ (⟨(hba.cell (p := ⟨gw, _, none⟩) hgw5).trans hS00.1, (hba.cell (p := ⟨gw, _, none⟩) hgw5).trans hS00.2.1, (hba.cell (p := ⟨_, _, none⟩) hg55).trans hS00.2.2⟩) (fun _ => ?_)
          clear hK K
          try simp only [Act.put, List.getElem_toArray, List.getElem_cons_zero, List.getElem_cons_succ, List.setIfInBounds_toArray, List.set_cons_zero, List.set_cons_succ]
          refine wpAnyH_ready (rs := [26]) (by kernel_rfl) (by simp) ?_
          refine AllReadyH.cons rfl (fun K hK => ?_) AllReadyH.nil
          refine step_books rfl _ _ rfl (w.heap.size + 1 + 1 + 1) k W5.heap.size v (wcells (madeS q hs k)) (h.a % 2) ((h.a + 1) % 2) (h.c % 4) (m) rfl (by exact hown5.alloc _) rfl (by exact heap_alloc_new _ _) (by omega) (by simp; omega) ?_
          intro g cap w4 hown4 hgrow4
          have kc := (fun i o (hi : i < w.heap.size + 1 + 1 + 1) => (World.cell?_of_block (a := ⟨i, o, none⟩) (hgrow4.block i (by simp; omega) (hne i hi))).trans (hba.cell (p := ⟨i, o, none⟩) (by simp; omega)))
          have kf := (fun i o (hi : i < w.heap.size + 1 + 1 + 1) => (World.frozen?_of_block (a := ⟨i, o, none⟩) (hgrow4.block i (by simp; omega) (hne i hi))).trans (hba.frozen (p := ⟨i, o, none⟩) (by simp; omega)))
          have kw := (fun o => (World.cell?_of_block (a := ⟨gw, o, none⟩) (hgrow4.block gw (by simp; omega) hgwo)).trans (hba.cell (p := ⟨gw, o, none⟩) hgw5))
          have hS4 : M3 gw (w.heap.size + 1 + 1) 2 h.b h.d w4 := ⟨(kw _).trans hS00.1, (kw _).trans hS00.2.1, (kc _ _ (by omega)).trans hS00.2.2⟩
          have y0 := (kc (w.heap.size + 1 + 1) 0 (by omega)).trans d0
          have y1 := (kc (w.heap.size + 1 + 1) 1 (by omega)).trans d1
          have y2 := (kc (w.heap.size + 1) 0 (by omega)).trans d2
          have y3 := (kc (w.heap.size + 1) 1 (by omega)).trans d3
          have y4 := (kf (w.heap.size + 1 + 1) 1 (by omega)).trans g1
          have y5 := (kf (w.heap.size + 1) 0 (by omega)).trans g2
          have y6 := (kf (w.heap.size + 1) 1 (by omega)).trans g3
          have hs4 : W5.heap.size + 1 ≤ w4.heap.size := by have := hgrow4.size; simpa using this
          have hbw4 : Below w.heap.size w w4 := by
            refine Below.grown ?_ hgrow4 (by simp; omega) (fun g hg => by have := (hown5.lt g hg).1; omega)
            exact ⟨hbw6.os, hbw6.tape, hbw6.output, hbw6.size, hbw6.block⟩
          refine hK.out _ _ hS4 (fun _ => ?_)
          clear hK K kc kf kw
          try simp only [Act.put, List.getElem_toArray, List.getElem_cons_zero, List.getElem_cons_succ, List.setIfInBounds_toArray, List.set_cons_zero, List.set_cons_succ]
          refine wpAnyH_take (i := 27) (v := ?_) rfl (by kernel_rfl) (by kernel_rfl) (by kernel_rfl) (fun _ _ _ h => h) (Or.inl ⟨by rfl, ?_⟩) (by assumption) ?_
          rotate_left
          · intro w hSw; obtain ⟨s1, s2, s3⟩ := hSw; go_simp; try with_reducible rfl
          try simp only [Act.put, List.getElem_toArray, List.getElem_cons_zero, List.getElem_cons_succ, List.setIfInBounds_toArray, List.set_cons_zero, List.set_cons_succ]
          refine wpAnyH_ready (rs := [28]) (by kernel_rfl) (by simp) ?_
          refine AllReadyH.cons rfl (fun K hK => ?_) AllReadyH.nil
          go_simp
          refine hK.out _ _ ⟨(World.cell?_setCell_other _ _ _ _ (fun h => by injection h; omega)).trans hS4.1, (World.cell?_setCell_other _ _ _ _ (fun h => by injection h; omega)).trans hS4.2.1, (World.cell?_setCell_other _ _ _ _ (fun h => by injection h; omega)).trans hS4.2.2⟩ (fun _ => ?_)
          clear hK K
          refine wpAnyH_done (by kernel_rfl) ?_ _
          have hownF := ownsRow_setCell_below hown4 (a := ⟨w.heap.size + 1 + 1, 1, none⟩) (by simp) (.slice (some ⟨g, 0, none⟩) (k + 1) cap)
          go_wp2_with fail
          go_roundw
          case rel =>
            exact ⟨k + 1, .slice (some ⟨g, 0, none⟩) (k + 1) cap, hkm, hlt, by go_num, by rw [HT.out, wcells_append, HQR.out, show wcells [wayH 2 h] = [.int .i64 (h.a % 2), .int .i64 ((h.a + 1) % 2), .int .i64 (h.c % 4), .int .i64 (m)] by unfold wayH; rw [HM.out]; simp [wcells]]; exact hownF, hbw4.setCell (p := ⟨w.heap.size + 1 + 1, 1, none⟩) (by simp <;> omega) _, by simp; omega, by simp [go_sem, y0], by simp [go_sem, y1], by simp [go_sem, y2], by simp [go_sem, y3], by simp [go_sem, y4], by simp [go_sem, y5], by simp [go_sem, y6]⟩
          case measure => simp [intOf]; omega
      · have hkm' : k = most := by omega
        subst hkm'
        have HW := Lib.hid hown
        obtain ⟨B, cap, rfl⟩ := own_form hown
        have HL := Lib.hid (madeS_klen (q := q) hkh)
        clear hown
        clear hx
        go_wp2_with fail
        refine bodyPost_ret (v := .agg #[.int .i64 2, .slice B k cap]) (by simp [results, Tryd.results44, go_sem, d2, d3, hsz1]) rfl ⟨B, cap, w.heap.size + 1 + 1 + 1, by rw [HL.out], by omega, ?_, ?_⟩
        · have h2 := (ownsRow_setCell_below (ownsRow_setCell_below HW.out (a := ⟨w.heap.size + 1, 0, none⟩) (by simp) (.int .i64 2)) (a := ⟨w.heap.size + 1, 1, none⟩) (by simp) (.slice B k cap)).alloc (.cells #[.int .u8 h.a, .int .u8 h.b, .int .u8 h.c, .int .u8 h.d] 76)
          rw [HL.out]
          exact h2
        · exact ((hbw.setCell (p := ⟨w.heap.size + 1, 0, none⟩) (by simp) _).setCell (p := ⟨w.heap.size + 1, 1, none⟩) (by simp) _).alloc (by simp; omega) _
    · have hkl : k = hs.length := by omega
      have HMS := Lib.hid (show madeS q hs most = madeS q hs k by subst hkl; unfold madeS; rw [List.take_of_length_le (by omega), List.take_of_length_le (by omega)])
      subst hkl
      have HW := Lib.hid hown
      obtain ⟨B, cap, rfl⟩ := own_form hown
      have HL := Lib.hid (madeS_klen (q := q) hkh)
      clear hown
      go_wp2_with fail
      refine bodyPost_ret (v := .agg #[.int .i64 2, .slice B hs.length cap]) (by simp [results, Tryd.results44, go_sem, d2, d3]) rfl ⟨B, cap, w.heap.size + 1 + 1 + 1, by rw [HMS.out, HL.out], by omega, ?_, ?_⟩
      · have h2 := ownsRow_setCell_below (ownsRow_setCell_below HW.out (a := ⟨w.heap.size + 1, 0, none⟩) (by simp) (.int .i64 2)) (a := ⟨w.heap.size + 1, 1, none⟩) (by simp) (.slice B hs.length cap)
        rw [HMS.out, HL.out]
        exact h2
      · exact (hbw.setCell (p := ⟨w.heap.size + 1, 0, none⟩) (by simp) _).setCell (p := ⟨w.heap.size + 1, 1, none⟩) (by simp) _

set_option maxRecDepth 100000 in
set_option maxHeartbeats 4000000 in
theorem madeO3 (q : Int) (hq : 0 ≤ q ∧ q ≤ 255) (hqR : roomsH q = 3) (A : Option Addr) (c most : Nat) (hs : List H4) (w : World) (hm : most ≤ 12) (hok : ∀ h ∈ hs, okH h) (hw : HouseAt w w.heap.size A hs) :
    Calls Tryd.prog 44 #[.agg #[.int .u8 q, .slice A hs.length c], .int .i64 (most : Nat)] w (RetMadeO w 3 (madeS q hs most)) := by
  have HOK := Lib.hid hok
  have hq3 : q % 3 = 1 := by unfold roomsH at hqR; omega
  have HQR := Lib.hid hqR
  clear hok hqR
  go_enter Tryd.func44, Tryd.ntmps44
  go_wp2_with fail
  obtain ⟨W0, hW0⟩ : ∃ W0, W0 = ((w.alloc (.cells #[.int .u8 q, .slice A hs.length c] 63)).alloc (.cells #[.int .i64 0, .slice none 0 0] 24)).alloc (.cells #[.int .i64 3, .slice none 0 0] 24) := ⟨_, rfl⟩
  have hz0' : W0.heap.size = w.heap.size + 1 + 1 + 1 := by rw [hW0]; simp
  have hb0 : Below w.heap.size w W0 := by rw [hW0]; exact (((Below.refl w.heap.size w).alloc (Nat.le_refl _) _).alloc (by simp) _).alloc (by simp <;> omega) _
  have c0 : W0.cell? ⟨w.heap.size + 1 + 1, 0, none⟩ = some (.int .i64 3) := by rw [hW0]; simp [go_sem]
  have c1 : W0.cell? ⟨w.heap.size + 1 + 1, 1, none⟩ = some (.slice none 0 0) := by rw [hW0]; simp [go_sem]
  have c2 : W0.cell? ⟨w.heap.size + 1, 0, none⟩ = some (.int .i64 0) := by rw [hW0]; simp [go_sem]
  have c3 : W0.cell? ⟨w.heap.size + 1, 1, none⟩ = some (.slice none 0 0) := by rw [hW0]; simp [go_sem]
  have f1 : W0.frozen? ⟨w.heap.size + 1 + 1, 1, none⟩ = false := by rw [hW0]; simp [go_sem]
  have f2 : W0.frozen? ⟨w.heap.size + 1, 0, none⟩ = false := by rw [hW0]; simp [go_sem]
  have f3 : W0.frozen? ⟨w.heap.size + 1, 1, none⟩ = false := by rw [hW0]; simp [go_sem]
  rw [← hW0]
  clear hW0 hq3
  go_loopw [19] (fun i wr => ∃ (k : Nat) (v : Value), k ≤ most ∧ k ≤ hs.length ∧ i = .int .i64 (k : Nat) ∧ wr.ownsRow (w.heap.size + 1 + 1 + 1) 74 4 v k (wcells (madeS q hs k)) ∧ Below w.heap.size w wr ∧ w.heap.size + 1 + 1 + 1 ≤ wr.heap.size ∧
    wr.cell? ⟨w.heap.size + 1 + 1, 0, none⟩ = some (.int .i64 3) ∧ wr.cell? ⟨w.heap.size + 1 + 1, 1, none⟩ = some v ∧ wr.cell? ⟨w.heap.size + 1, 0, none⟩ = some (.int .i64 0) ∧ wr.cell? ⟨w.heap.size + 1, 1, none⟩ = some (.slice none 0 0) ∧
    wr.frozen? ⟨w.heap.size + 1 + 1, 1, none⟩ = false ∧ wr.frozen? ⟨w.heap.size + 1, 0, none⟩ = false ∧ wr.frozen? ⟨w.heap.size + 1, 1, none⟩ = false) (fun i _ => most - (intOf i).toNat)
  case atStart => exact ⟨0, .slice none 0 0, Nat.zero_le _, Nat.zero_le _, rfl, World.ownsRow_nil _ _ _ _, hb0, by omega, c0, c1, c2, c3, f1, f2, f3⟩
  case round =>
    obtain ⟨k, v, hk, hkh, rfl, hown, hbw, hsz, d0, d1, d2, d3, g1, g2, g3⟩ := hrel
    clear c0 c1 c2 c3 f1 f2 f3 hz0' hb0
    have hsz2 : w.heap.size + 1 + 1 < wr.heap.size := by omega
    have hsz1 : w.heap.size + 1 < wr.heap.size := by omega
    have hsz0 : w.heap.size < wr.heap.size := by omega
    have hk0 : (0 : Int) ≤ (k : Int) := by omega
    by_cases hlt : k < hs.length
    · have hx : hs[k]? = some hs[k] := List.getElem?_eq_getElem hlt
      generalize hs[k] = h at hx
      obtain ⟨⟨a1, a2⟩, ⟨b1, b2⟩, ⟨e1, e2⟩, ⟨e3, e4⟩⟩ := HOK.out h (List.mem_of_getElem? hx)
      obtain ⟨b, off, rfl, hb, h1, h2, h3, h4⟩ := hw k h hx
      have h1' := (hbw.cell (p := ⟨b, _, none⟩) hb).trans h1
      have h2' := (hbw.cell (p := ⟨b, _, none⟩) hb).trans h2
      have h3' := (hbw.cell (p := ⟨b, _, none⟩) hb).trans h3
      have h4' := (hbw.cell (p := ⟨b, _, none⟩) hb).trans h4
      have hbr : b < wr.heap.size := by omega
      have hki : (k : Int) < (hs.length : Int) := by omega
      clear h1 h2 h3 h4
      by_cases hkm : k < most
      · have hkmi : (k : Int) < (most : Int) := by omega
        have HT := Lib.hid (wayH_take (q := q) hx)
        clear hx
        go_wp2_with fail
        obtain ⟨W5, hW5⟩ : ∃ W5, W5 = wr.alloc (.cells #[.int .u8 h.a, .int .u8 h.b, .int .u8 h.c, .int .u8 h.d] 76) := ⟨_, rfl⟩
        have hb5 : Below wr.heap.size wr W5 := by rw [hW5]; exact (Below.refl _ _).alloc (Nat.le_refl _) _
        have hz5 : W5.heap.size = wr.heap.size + 1 := by rw [hW5]; simp
        have d0 := (hb5.cell (p := ⟨w.heap.size + 1 + 1, 0, none⟩) hsz2).trans d0
        have d1 := (hb5.cell (p := ⟨w.heap.size + 1 + 1, 1, none⟩) hsz2).trans d1
        have d2 := (hb5.cell (p := ⟨w.heap.size + 1, 0, none⟩) hsz1).trans d2
        have d3 := (hb5.cell (p := ⟨w.heap.size + 1, 1, none⟩) hsz1).trans d3
        have g1 := (hb5.frozen (p := ⟨w.heap.size + 1 + 1, 1, none⟩) hsz2).trans g1
        have g2 := (hb5.frozen (p := ⟨w.heap.size + 1, 0, none⟩) hsz1).trans g2
        have g3 := (hb5.frozen (p := ⟨w.heap.size + 1, 1, none⟩) hsz1).trans g3
        have hS00 : M3 wr.heap.size (w.heap.size + 1 + 1) 3 h.b h.d W5 := ⟨by rw [hW5]; simp [go_sem], by rw [hW5]; simp [go_sem], d0⟩
        rw [← hW5]
        have hown5 := own_below hown hb5
        have hbw5 := hbw.trans (hb5.mono (by omega))
        have hne : ∀ i, i < w.heap.size + 1 + 1 + 1 → some i ≠ v.ownBlock := fun i hi h => by have := (hown.lt i h.symm).1; omega
        have hwr0 : wr.heap.size ≠ w.heap.size + 1 + 1 := by omega
        have hgw5 : wr.heap.size < W5.heap.size := by omega
        have hg55 : w.heap.size + 1 + 1 < W5.heap.size := by omega
        have hgwo : some wr.heap.size ≠ v.ownBlock := fun e => by have := (hown.lt _ e.symm).2; omega
        have hz5' : w.heap.size + 1 + 1 + 1 ≤ W5.heap.size := by omega
        clear hW5 hb5 hown hbw h1' h2' h3' h4' hz5
        have hS0 : M3 wr.heap.size (w.heap.size + 1 + 1) 3 h.b h.d W5.drew := hS00
        generalize wr.heap.size = gw at *
        have v1 : IntKind.i64.wrap 2 = 2 := by decide
        have v2 : IntKind.i64.wrap h.b = h.b := IntWalk.i64_in _ (by omega)
        have v3 : h.b.tmod 2 = h.b % 2 := Int.tmod_eq_emod_of_nonneg b1
        have v4 : IntKind.i64.wrap (h.a % 3 + 1) = h.a % 3 + 1 := IntWalk.i64_in _ (by omega)
        have v5 : IntKind.i64.wrap (h.a % 3 + 1 + h.b % 2) = h.a % 3 + 1 + h.b % 2 := IntWalk.i64_in _ (by omega)
        have v6 : (h.a % 3 + 1 + h.b % 2).tmod 3 = (h.a % 3 + 1 + h.b % 2) % 3 := Int.tmod_eq_emod_of_nonneg (by omega)
        have v7 : IntKind.i64.wrap h.d = h.d := IntWalk.i64_in _ (by omega)
        have v8 : h.d.tmod 4 = h.d % 4 := Int.tmod_eq_emod_of_nonneg e3
        obtain ⟨m, hm4⟩ : ∃ m, min 4 (h.c % 4 + h.d % 4) = m := ⟨_, rfl⟩
        have v10 : (if h.c % 4 + h.d % 4 < 4 then h.c % 4 + h.d % 4 else 4) = m := by rw [← hm4, min_if]
        have HM := Lib.hid hm4
        clear hm4
        have v9 : IntKind.i64.wrap (h.c % 4 + h.d % 4) = h.c % 4 + h.d % 4 := IntWalk.i64_in _ (by omega)
        have hba := (Below.refl W5.heap.size W5).alloc (Nat.le_refl _) (.cells #[.int .i64 (h.a % 3), .int .i64 ((h.a % 3 + 1 + h.b % 2) % 3), .int .i64 (h.c % 4), .int .i64 (m)] 74)
        have hbw6 := hbw5.trans (hba.mono (by omega))
        refine wp_region_held (S := M3 gw (w.heap.size + 1 + 1) 3 h.b h.d) (by kernel_rfl) ?_
        try (change wpAnyH _ _ _ _ _ _ _ _ (World.drew _))
        refine wpAnyH_take (i := 0) (v := ?_) rfl (by kernel_rfl) (by kernel_rfl) (by kernel_rfl) (fun _ _ _ h => h) (Or.inl ⟨by rfl, ?_⟩) (by assumption) ?_
        rotate_left
        · intro w hSw; obtain ⟨s1, s2, s3⟩ := hSw; go_simp; try with_reducible rfl
        try simp only [Act.put, List.getElem_toArray, List.getElem_cons_zero, List.setIfInBounds_toArray, List.set_cons_zero, List.set_cons_succ]
        refine wpAnyH_take (i := 2) (v := ?_) rfl (by kernel_rfl) (by kernel_rfl) (by kernel_rfl) (fun _ _ _ h => h) (Or.inl ⟨by rfl, ?_⟩) (by assumption) ?_
        rotate_left
        · intro w hSw; obtain ⟨s1, s2, s3⟩ := hSw; go_simp; try with_reducible rfl
        try simp only [Act.put, List.getElem_toArray, List.getElem_cons_zero, List.getElem_cons_succ, List.setIfInBounds_toArray, List.set_cons_zero, List.set_cons_succ]
        refine wpAnyH_take (i := 3) (v := ?_) rfl (by kernel_rfl) (by kernel_rfl) (by kernel_rfl) (fun _ _ _ h => h) (Or.inl ⟨by rfl, ?_⟩) (by assumption) ?_
        rotate_left
        · intro w hSw; obtain ⟨s1, s2, s3⟩ := hSw; go_simp; try with_reducible rfl
        try simp only [Act.put, List.getElem_toArray, List.getElem_cons_zero, List.getElem_cons_succ, List.setIfInBounds_toArray, List.set_cons_zero, List.set_cons_succ]
        refine wpAnyH_take (i := 4) (v := ?_) rfl (by kernel_rfl) (by kernel_rfl) (by kernel_rfl) (fun _ _ _ h => h) (Or.inl ⟨by rfl, ?_⟩) (by assumption) ?_
        rotate_left
        · intro w hSw; obtain ⟨s1, s2, s3⟩ := hSw; go_simp; try with_reducible rfl
        try simp only [Act.put, List.getElem_toArray, List.getElem_cons_zero, List.getElem_cons_succ, List.setIfInBounds_toArray, List.set_cons_zero, List.set_cons_succ]
        refine wpAnyH_take (i := 5) (v := ?_) rfl (by kernel_rfl) (by kernel_rfl) (by kernel_rfl) (fun _ _ _ h => h) (Or.inl ⟨by rfl, ?_⟩) (by assumption) ?_
        rotate_left
        · intro w hSw; obtain ⟨s1, s2, s3⟩ := hSw; go_simp; try with_reducible rfl
        try simp only [Act.put, List.getElem_toArray, List.getElem_cons_zero, List.getElem_cons_succ, List.setIfInBounds_toArray, List.set_cons_zero, List.set_cons_succ]
        refine wpAnyH_take (i := 6) (v := ?_) rfl (by kernel_rfl) (by kernel_rfl) (by kernel_rfl) (fun _ _ _ h => h) (Or.inl ⟨by rfl, ?_⟩) (by assumption) ?_
        rotate_left
        · intro w hSw; obtain ⟨s1, s2, s3⟩ := hSw; go_simp; try with_reducible rfl
        try simp only [Act.put, List.getElem_toArray, List.getElem_cons_zero, List.getElem_cons_succ, List.setIfInBounds_toArray, List.set_cons_zero, List.set_cons_succ]
        refine wpAnyH_take (i := 7) (v := ?_) rfl (by kernel_rfl) (by kernel_rfl) (by kernel_rfl) (fun _ _ _ h => h) (Or.inl ⟨by rfl, ?_⟩) (by assumption) ?_
        rotate_left
        · intro w hSw; obtain ⟨s1, s2, s3⟩ := hSw; go_simp; try with_reducible rfl
        try simp only [Act.put, List.getElem_toArray, List.getElem_cons_zero, List.getElem_cons_succ, List.setIfInBounds_toArray, List.set_cons_zero, List.set_cons_succ]
        refine wpAnyH_take (i := 8) (v := ?_) rfl (by kernel_rfl) (by kernel_rfl) (by kernel_rfl) (fun _ _ _ h => h) (Or.inl ⟨by rfl, ?_⟩) (by assumption) ?_
        rotate_left
        · intro w hSw; obtain ⟨s1, s2, s3⟩ := hSw; go_simp; try with_reducible rfl
        try simp only [Act.put, List.getElem_toArray, List.getElem_cons_zero, List.getElem_cons_succ, List.setIfInBounds_toArray, List.set_cons_zero, List.set_cons_succ]
        refine wpAnyH_take (i := 9) (v := ?_) rfl (by kernel_rfl) (by kernel_rfl) (by kernel_rfl) (fun _ _ _ h => h) (Or.inl ⟨by rfl, ?_⟩) (by assumption) ?_
        rotate_left
        · intro w hSw; obtain ⟨s1, s2, s3⟩ := hSw; go_simp; try with_reducible rfl
        try simp only [Act.put, List.getElem_toArray, List.getElem_cons_zero, List.getElem_cons_succ, List.setIfInBounds_toArray, List.set_cons_zero, List.set_cons_succ]
        refine wpAnyH_take (i := 10) (v := ?_) rfl (by kernel_rfl) (by kernel_rfl) (by kernel_rfl) (fun _ _ _ h => h) (Or.inl ⟨by rfl, ?_⟩) (by assumption) ?_
        rotate_left
        · intro w hSw; obtain ⟨s1, s2, s3⟩ := hSw; go_simp; try with_reducible rfl
        try simp only [Act.put, List.getElem_toArray, List.getElem_cons_zero, List.getElem_cons_succ, List.setIfInBounds_toArray, List.set_cons_zero, List.set_cons_succ]
        refine wpAnyH_take (i := 11) (v := ?_) rfl (by kernel_rfl) (by kernel_rfl) (by kernel_rfl) (fun _ _ _ h => h) (Or.inl ⟨by rfl, ?_⟩) (by assumption) ?_
        rotate_left
        · intro w hSw; obtain ⟨s1, s2, s3⟩ := hSw; go_simp; try with_reducible rfl
        try simp only [Act.put, List.getElem_toArray, List.getElem_cons_zero, List.getElem_cons_succ, List.setIfInBounds_toArray, List.set_cons_zero, List.set_cons_succ]
        refine wpAnyH_take (i := 12) (v := ?_) rfl (by kernel_rfl) (by kernel_rfl) (by kernel_rfl) (fun _ _ _ h => h) (Or.inl ⟨by rfl, ?_⟩) (by assumption) ?_
        rotate_left
        · intro w hSw; obtain ⟨s1, s2, s3⟩ := hSw; go_simp; try with_reducible rfl
        try simp only [Act.put, List.getElem_toArray, List.getElem_cons_zero, List.getElem_cons_succ, List.setIfInBounds_toArray, List.set_cons_zero, List.set_cons_succ]
        refine wpAnyH_take (i := 13) (v := ?_) rfl (by kernel_rfl) (by kernel_rfl) (by kernel_rfl) (fun _ _ _ h => h) (Or.inl ⟨by rfl, ?_⟩) (by assumption) ?_
        rotate_left
        · intro w hSw; obtain ⟨s1, s2, s3⟩ := hSw; go_simp; try with_reducible rfl
        try simp only [Act.put, List.getElem_toArray, List.getElem_cons_zero, List.getElem_cons_succ, List.setIfInBounds_toArray, List.set_cons_zero, List.set_cons_succ]
        refine wpAnyH_take (i := 14) (v := ?_) rfl (by kernel_rfl) (by kernel_rfl) (by kernel_rfl) (fun _ _ _ h => h) (Or.inl ⟨by rfl, ?_⟩) (by assumption) ?_
        rotate_left
        · intro w hSw; obtain ⟨s1, s2, s3⟩ := hSw; go_simp; try with_reducible rfl
        try simp only [Act.put, List.getElem_toArray, List.getElem_cons_zero, List.getElem_cons_succ, List.setIfInBounds_toArray, List.set_cons_zero, List.set_cons_succ]
        refine wpAnyH_take (i := 15) (v := ?_) rfl (by kernel_rfl) (by kernel_rfl) (by kernel_rfl) (fun _ _ _ h => h) (Or.inl ⟨by rfl, ?_⟩) (by assumption) ?_
        rotate_left
        · intro w hSw; obtain ⟨s1, s2, s3⟩ := hSw; go_simp; try with_reducible rfl
        try simp only [Act.put, List.getElem_toArray, List.getElem_cons_zero, List.getElem_cons_succ, List.setIfInBounds_toArray, List.set_cons_zero, List.set_cons_succ]
        refine wpAnyH_take (i := 16) (v := ?_) rfl (by kernel_rfl) (by kernel_rfl) (by kernel_rfl) (fun _ _ _ h => h) (Or.inl ⟨by rfl, ?_⟩) (by assumption) ?_
        rotate_left
        · intro w hSw; obtain ⟨s1, s2, s3⟩ := hSw; go_simp; try with_reducible rfl
        try simp only [Act.put, List.getElem_toArray, List.getElem_cons_zero, List.getElem_cons_succ, List.setIfInBounds_toArray, List.set_cons_zero, List.set_cons_succ]
        refine wpAnyH_take (i := 17) (v := ?_) rfl (by kernel_rfl) (by kernel_rfl) (by kernel_rfl) (fun _ _ _ h => h) (Or.inl ⟨by rfl, ?_⟩) (by assumption) ?_
        rotate_left
        · intro w hSw; obtain ⟨s1, s2, s3⟩ := hSw; go_simp; try with_reducible rfl
        try simp only [Act.put, List.getElem_toArray, List.getElem_cons_zero, List.getElem_cons_succ, List.setIfInBounds_toArray, List.set_cons_zero, List.set_cons_succ]
        refine wpAnyH_take (i := 18) (v := ?_) rfl (by kernel_rfl) (by kernel_rfl) (by kernel_rfl) (fun _ _ _ h => h) (Or.inl ⟨by rfl, ?_⟩) (by assumption) ?_
        rotate_left
        · intro w hSw; obtain ⟨s1, s2, s3⟩ := hSw; go_simp; try with_reducible rfl
        try simp only [Act.put, List.getElem_toArray, List.getElem_cons_zero, List.getElem_cons_succ, List.setIfInBounds_toArray, List.set_cons_zero, List.set_cons_succ]
        refine wpAnyH_take (i := 19) (v := ?_) rfl (by kernel_rfl) (by kernel_rfl) (by kernel_rfl) (fun _ _ _ h => h) (Or.inl ⟨by rfl, ?_⟩) (by assumption) ?_
        rotate_left
        · intro w hSw; obtain ⟨s1, s2, s3⟩ := hSw; go_simp; try with_reducible rfl
        try simp only [Act.put, List.getElem_toArray, List.getElem_cons_zero, List.getElem_cons_succ, List.setIfInBounds_toArray, List.set_cons_zero, List.set_cons_succ]
        refine wpAnyH_take (i := 20) (v := ?_) rfl (by kernel_rfl) (by kernel_rfl) (by kernel_rfl) (fun _ _ _ h => h) (Or.inl ⟨by rfl, ?_⟩) (by assumption) ?_
        rotate_left
        · intro w hSw; obtain ⟨s1, s2, s3⟩ := hSw; go_simp; try with_reducible rfl
        try simp only [Act.put, List.getElem_toArray, List.getElem_cons_zero, List.getElem_cons_succ, List.setIfInBounds_toArray, List.set_cons_zero, List.set_cons_succ]
        refine wpAnyH_take (i := 21) (v := ?_) rfl (by kernel_rfl) (by kernel_rfl) (by kernel_rfl) (fun _ _ _ h => h) (Or.inl ⟨by rfl, ?_⟩) (by assumption) ?_
        rotate_left
        · intro w hSw; obtain ⟨s1, s2, s3⟩ := hSw; go_simp; try with_reducible rfl
        try simp only [Act.put, List.getElem_toArray, List.getElem_cons_zero, List.getElem_cons_succ, List.setIfInBounds_toArray, List.set_cons_zero, List.set_cons_succ]
        refine wpAnyH_take (i := 22) (v := ?_) rfl (by kernel_rfl) (by kernel_rfl) (by kernel_rfl) (fun _ _ _ h => h) (Or.inl ⟨by rfl, ?_⟩) (by assumption) ?_
        rotate_left
        · intro w hSw; obtain ⟨s1, s2, s3⟩ := hSw; go_simp; try with_reducible rfl
        try simp only [Act.put, List.getElem_toArray, List.getElem_cons_zero, List.getElem_cons_succ, List.setIfInBounds_toArray, List.set_cons_zero, List.set_cons_succ]
        refine wpAnyH_take (i := 23) (v := ?_) rfl (by kernel_rfl) (by kernel_rfl) (by kernel_rfl) (fun _ _ _ h => h) (Or.inl ⟨by rfl, ?_⟩) (by assumption) ?_
        rotate_left
        · intro w hSw; obtain ⟨s1, s2, s3⟩ := hSw; go_simp; try with_reducible rfl
        try simp only [Act.put, List.getElem_toArray, List.getElem_cons_zero, List.getElem_cons_succ, List.setIfInBounds_toArray, List.set_cons_zero, List.set_cons_succ]
        refine wpAnyH_take (i := 24) (v := ?_) rfl (by kernel_rfl) (by kernel_rfl) (by kernel_rfl) (fun _ _ _ h => h) (Or.inl ⟨by rfl, ?_⟩) (by assumption) ?_
        rotate_left
        · intro w hSw; obtain ⟨s1, s2, s3⟩ := hSw; go_simp; try with_reducible rfl
        try simp only [Act.put, List.getElem_toArray, List.getElem_cons_zero, List.getElem_cons_succ, List.setIfInBounds_toArray, List.set_cons_zero, List.set_cons_succ]
        refine wpAnyH_ready (rs := [1, 25]) (by kernel_rfl) (by simp) ?_
        refine AllReadyH.cons rfl (fun K hK => ?_) (AllReadyH.cons rfl (fun K hK => ?_) AllReadyH.nil)
        · go_simp
          refine hK.out _ _ hS0 (fun _ => ?_)
          clear hK K
          try simp only [Act.put, List.getElem_toArray, List.getElem_cons_zero, List.getElem_cons_succ, List.setIfInBounds_toArray, List.set_cons_zero, List.set_cons_succ]
          refine wpAnyH_ready (rs := [25]) (by kernel_rfl) (by simp) ?_
          refine AllReadyH.cons rfl (fun K hK => ?_) AllReadyH.nil
          go_simp
          refine hK.out _ _ (⟨(hba.cell (p := ⟨gw, _, none⟩) hgw5).trans hS00.1, (hba.cell (p := ⟨gw, _, none⟩) hgw5).trans hS00.2.1, (hba.cell (p := ⟨_, _, none⟩) hg55).trans hS00.2.2⟩) (fun _ => ?_)
          clear hK K
          try simp only [Act.put, List.getElem_toArray, List.getElem_cons_zero, List.getElem_cons_succ, List.setIfInBounds_toArray, List.set_cons_zero, List.set_cons_succ]
          refine wpAnyH_ready (rs := [26]) (by kernel_rfl) (by simp) ?_
          refine AllReadyH.cons rfl (fun K hK => ?_) AllReadyH.nil
          refine step_books rfl _ _ rfl (w.heap.size + 1 + 1 + 1) k W5.heap.size v (wcells (madeS q hs k)) (h.a % 3) ((h.a % 3 + 1 + h.b % 2) % 3) (h.c % 4) (m) rfl (by exact hown5.alloc _) rfl (by exact heap_alloc_new _ _) (by omega) (by simp; omega) ?_
          intro g cap w4 hown4 hgrow4
          have kc := (fun i o (hi : i < w.heap.size + 1 + 1 + 1) => (World.cell?_of_block (a := ⟨i, o, none⟩) (hgrow4.block i (by simp; omega) (hne i hi))).trans (hba.cell (p := ⟨i, o, none⟩) (by simp; omega)))
          have kf := (fun i o (hi : i < w.heap.size + 1 + 1 + 1) => (World.frozen?_of_block (a := ⟨i, o, none⟩) (hgrow4.block i (by simp; omega) (hne i hi))).trans (hba.frozen (p := ⟨i, o, none⟩) (by simp; omega)))
          have kw := (fun o => (World.cell?_of_block (a := ⟨gw, o, none⟩) (hgrow4.block gw (by simp; omega) hgwo)).trans (hba.cell (p := ⟨gw, o, none⟩) hgw5))
          have hS4 : M3 gw (w.heap.size + 1 + 1) 3 h.b h.d w4 := ⟨(kw _).trans hS00.1, (kw _).trans hS00.2.1, (kc _ _ (by omega)).trans hS00.2.2⟩
          have y0 := (kc (w.heap.size + 1 + 1) 0 (by omega)).trans d0
          have y1 := (kc (w.heap.size + 1 + 1) 1 (by omega)).trans d1
          have y2 := (kc (w.heap.size + 1) 0 (by omega)).trans d2
          have y3 := (kc (w.heap.size + 1) 1 (by omega)).trans d3
          have y4 := (kf (w.heap.size + 1 + 1) 1 (by omega)).trans g1
          have y5 := (kf (w.heap.size + 1) 0 (by omega)).trans g2
          have y6 := (kf (w.heap.size + 1) 1 (by omega)).trans g3
          have hs4 : W5.heap.size + 1 ≤ w4.heap.size := by have := hgrow4.size; simpa using this
          have hbw4 : Below w.heap.size w w4 := by
            refine Below.grown ?_ hgrow4 (by simp; omega) (fun g hg => by have := (hown5.lt g hg).1; omega)
            exact ⟨hbw6.os, hbw6.tape, hbw6.output, hbw6.size, hbw6.block⟩
          refine hK.out _ _ hS4 (fun _ => ?_)
          clear hK K kc kf kw
          try simp only [Act.put, List.getElem_toArray, List.getElem_cons_zero, List.getElem_cons_succ, List.setIfInBounds_toArray, List.set_cons_zero, List.set_cons_succ]
          refine wpAnyH_take (i := 27) (v := ?_) rfl (by kernel_rfl) (by kernel_rfl) (by kernel_rfl) (fun _ _ _ h => h) (Or.inl ⟨by rfl, ?_⟩) (by assumption) ?_
          rotate_left
          · intro w hSw; obtain ⟨s1, s2, s3⟩ := hSw; go_simp; try with_reducible rfl
          try simp only [Act.put, List.getElem_toArray, List.getElem_cons_zero, List.getElem_cons_succ, List.setIfInBounds_toArray, List.set_cons_zero, List.set_cons_succ]
          refine wpAnyH_ready (rs := [28]) (by kernel_rfl) (by simp) ?_
          refine AllReadyH.cons rfl (fun K hK => ?_) AllReadyH.nil
          go_simp
          refine hK.out _ _ ⟨(World.cell?_setCell_other _ _ _ _ (fun h => by injection h; omega)).trans hS4.1, (World.cell?_setCell_other _ _ _ _ (fun h => by injection h; omega)).trans hS4.2.1, (World.cell?_setCell_other _ _ _ _ (fun h => by injection h; omega)).trans hS4.2.2⟩ (fun _ => ?_)
          clear hK K
          refine wpAnyH_done (by kernel_rfl) ?_ _
          have hownF := ownsRow_setCell_below hown4 (a := ⟨w.heap.size + 1 + 1, 1, none⟩) (by simp) (.slice (some ⟨g, 0, none⟩) (k + 1) cap)
          go_wp2_with fail
          go_roundw
          case rel =>
            exact ⟨k + 1, .slice (some ⟨g, 0, none⟩) (k + 1) cap, hkm, hlt, by go_num, by rw [HT.out, wcells_append, HQR.out, show wcells [wayH 3 h] = [.int .i64 (h.a % 3), .int .i64 ((h.a % 3 + 1 + h.b % 2) % 3), .int .i64 (h.c % 4), .int .i64 (m)] by unfold wayH; rw [HM.out]; rfl]; exact hownF, hbw4.setCell (p := ⟨w.heap.size + 1 + 1, 1, none⟩) (by simp <;> omega) _, by simp; omega, by simp [go_sem, y0], by simp [go_sem, y1], by simp [go_sem, y2], by simp [go_sem, y3], by simp [go_sem, y4], by simp [go_sem, y5], by simp [go_sem, y6]⟩
          case measure => simp [intOf]; omega
        · go_simp
          refine hK.out _ _ ⟨(hba.cell (p := ⟨gw, _, none⟩) hgw5).trans hS00.1, (hba.cell (p := ⟨gw, _, none⟩) hgw5).trans hS00.2.1, (hba.cell (p := ⟨_, _, none⟩) hg55).trans hS00.2.2⟩ (fun _ => ?_)
          clear hK K
          try simp only [Act.put, List.getElem_toArray, List.getElem_cons_zero, List.getElem_cons_succ, List.setIfInBounds_toArray, List.set_cons_zero, List.set_cons_succ]
          refine wpAnyH_ready (rs := [1]) (by kernel_rfl) (by simp) ?_
          refine AllReadyH.cons rfl (fun K hK => ?_) AllReadyH.nil
          go_simp
          refine hK.out _ _ (⟨(hba.cell (p := ⟨gw, _, none⟩) hgw5).trans hS00.1, (hba.cell (p := ⟨gw, _, none⟩) hgw5).trans hS00.2.1, (hba.cell (p := ⟨_, _, none⟩) hg55).trans hS00.2.2⟩) (fun _ => ?_)
          clear hK K
          try simp only [Act.put, List.getElem_toArray, List.getElem_cons_zero, List.getElem_cons_succ, List.setIfInBounds_toArray, List.set_cons_zero, List.set_cons_succ]
          refine wpAnyH_ready (rs := [26]) (by kernel_rfl) (by simp) ?_
          refine AllReadyH.cons rfl (fun K hK => ?_) AllReadyH.nil
          refine step_books rfl _ _ rfl (w.heap.size + 1 + 1 + 1) k W5.heap.size v (wcells (madeS q hs k)) (h.a % 3) ((h.a % 3 + 1 + h.b % 2) % 3) (h.c % 4) (m) rfl (by exact hown5.alloc _) rfl (by exact heap_alloc_new _ _) (by omega) (by simp; omega) ?_
          intro g cap w4 hown4 hgrow4
          have kc := (fun i o (hi : i < w.heap.size + 1 + 1 + 1) => (World.cell?_of_block (a := ⟨i, o, none⟩) (hgrow4.block i (by simp; omega) (hne i hi))).trans (hba.cell (p := ⟨i, o, none⟩) (by simp; omega)))
          have kf := (fun i o (hi : i < w.heap.size + 1 + 1 + 1) => (World.frozen?_of_block (a := ⟨i, o, none⟩) (hgrow4.block i (by simp; omega) (hne i hi))).trans (hba.frozen (p := ⟨i, o, none⟩) (by simp; omega)))
          have kw := (fun o => (World.cell?_of_block (a := ⟨gw, o, none⟩) (hgrow4.block gw (by simp; omega) hgwo)).trans (hba.cell (p := ⟨gw, o, none⟩) hgw5))
          have hS4 : M3 gw (w.heap.size + 1 + 1) 3 h.b h.d w4 := ⟨(kw _).trans hS00.1, (kw _).trans hS00.2.1, (kc _ _ (by omega)).trans hS00.2.2⟩
          have y0 := (kc (w.heap.size + 1 + 1) 0 (by omega)).trans d0
          have y1 := (kc (w.heap.size + 1 + 1) 1 (by omega)).trans d1
          have y2 := (kc (w.heap.size + 1) 0 (by omega)).trans d2
          have y3 := (kc (w.heap.size + 1) 1 (by omega)).trans d3
          have y4 := (kf (w.heap.size + 1 + 1) 1 (by omega)).trans g1
          have y5 := (kf (w.heap.size + 1) 0 (by omega)).trans g2
          have y6 := (kf (w.heap.size + 1) 1 (by omega)).trans g3
          have hs4 : W5.heap.size + 1 ≤ w4.heap.size := by have := hgrow4.size; simpa using this
          have hbw4 : Below w.heap.size w w4 := by
            refine Below.grown ?_ hgrow4 (by simp; omega) (fun g hg => by have := (hown5.lt g hg).1; omega)
            exact ⟨hbw6.os, hbw6.tape, hbw6.output, hbw6.size, hbw6.block⟩
          refine hK.out _ _ hS4 (fun _ => ?_)
          clear hK K kc kf kw
          try simp only [Act.put, List.getElem_toArray, List.getElem_cons_zero, List.getElem_cons_succ, List.setIfInBounds_toArray, List.set_cons_zero, List.set_cons_succ]
          refine wpAnyH_take (i := 27) (v := ?_) rfl (by kernel_rfl) (by kernel_rfl) (by kernel_rfl) (fun _ _ _ h => h) (Or.inl ⟨by rfl, ?_⟩) (by assumption) ?_
          rotate_left
          · intro w hSw; obtain ⟨s1, s2, s3⟩ := hSw; go_simp; try with_reducible rfl
          try simp only [Act.put, List.getElem_toArray, List.getElem_cons_zero, List.getElem_cons_succ, List.setIfInBounds_toArray, List.set_cons_zero, List.set_cons_succ]
          refine wpAnyH_ready (rs := [28]) (by kernel_rfl) (by simp) ?_
          refine AllReadyH.cons rfl (fun K hK => ?_) AllReadyH.nil
          go_simp
          refine hK.out _ _ ⟨(World.cell?_setCell_other _ _ _ _ (fun h => by injection h; omega)).trans hS4.1, (World.cell?_setCell_other _ _ _ _ (fun h => by injection h; omega)).trans hS4.2.1, (World.cell?_setCell_other _ _ _ _ (fun h => by injection h; omega)).trans hS4.2.2⟩ (fun _ => ?_)
          clear hK K
          refine wpAnyH_done (by kernel_rfl) ?_ _
          have hownF := ownsRow_setCell_below hown4 (a := ⟨w.heap.size + 1 + 1, 1, none⟩) (by simp) (.slice (some ⟨g, 0, none⟩) (k + 1) cap)
          go_wp2_with fail
          go_roundw
          case rel =>
            exact ⟨k + 1, .slice (some ⟨g, 0, none⟩) (k + 1) cap, hkm, hlt, by go_num, by rw [HT.out, wcells_append, HQR.out, show wcells [wayH 3 h] = [.int .i64 (h.a % 3), .int .i64 ((h.a % 3 + 1 + h.b % 2) % 3), .int .i64 (h.c % 4), .int .i64 (m)] by unfold wayH; rw [HM.out]; rfl]; exact hownF, hbw4.setCell (p := ⟨w.heap.size + 1 + 1, 1, none⟩) (by simp <;> omega) _, by simp; omega, by simp [go_sem, y0], by simp [go_sem, y1], by simp [go_sem, y2], by simp [go_sem, y3], by simp [go_sem, y4], by simp [go_sem, y5], by simp [go_sem, y6]⟩
          case measure => simp [intOf]; omega
      · have hkm' : k = most := by omega
        subst hkm'
        have HW := Lib.hid hown
        obtain ⟨B, cap, rfl⟩ := own_form hown
        have HL := Lib.hid (madeS_klen (q := q) hkh)
        clear hown
        clear hx
        go_wp2_with fail
        refine bodyPost_ret (v := .agg #[.int .i64 3, .slice B k cap]) (by simp [results, Tryd.results44, go_sem, d2, d3, hsz1]) rfl ⟨B, cap, w.heap.size + 1 + 1 + 1, by rw [HL.out], by omega, ?_, ?_⟩
        · have h2 := (ownsRow_setCell_below (ownsRow_setCell_below HW.out (a := ⟨w.heap.size + 1, 0, none⟩) (by simp) (.int .i64 3)) (a := ⟨w.heap.size + 1, 1, none⟩) (by simp) (.slice B k cap)).alloc (.cells #[.int .u8 h.a, .int .u8 h.b, .int .u8 h.c, .int .u8 h.d] 76)
          rw [HL.out]
          exact h2
        · exact ((hbw.setCell (p := ⟨w.heap.size + 1, 0, none⟩) (by simp) _).setCell (p := ⟨w.heap.size + 1, 1, none⟩) (by simp) _).alloc (by simp; omega) _
    · have hkl : k = hs.length := by omega
      have HMS := Lib.hid (show madeS q hs most = madeS q hs k by subst hkl; unfold madeS; rw [List.take_of_length_le (by omega), List.take_of_length_le (by omega)])
      subst hkl
      have HW := Lib.hid hown
      obtain ⟨B, cap, rfl⟩ := own_form hown
      have HL := Lib.hid (madeS_klen (q := q) hkh)
      clear hown
      go_wp2_with fail
      refine bodyPost_ret (v := .agg #[.int .i64 3, .slice B hs.length cap]) (by simp [results, Tryd.results44, go_sem, d2, d3]) rfl ⟨B, cap, w.heap.size + 1 + 1 + 1, by rw [HMS.out, HL.out], by omega, ?_, ?_⟩
      · have h2 := ownsRow_setCell_below (ownsRow_setCell_below HW.out (a := ⟨w.heap.size + 1, 0, none⟩) (by simp) (.int .i64 3)) (a := ⟨w.heap.size + 1, 1, none⟩) (by simp) (.slice B hs.length cap)
        rw [HMS.out, HL.out]
        exact h2
      · exact (hbw.setCell (p := ⟨w.heap.size + 1, 0, none⟩) (by simp) _).setCell (p := ⟨w.heap.size + 1, 1, none⟩) (by simp) _

set_option maxRecDepth 100000 in
set_option maxHeartbeats 4000000 in
theorem madeO4 (q : Int) (hq : 0 ≤ q ∧ q ≤ 255) (hqR : roomsH q = 4) (A : Option Addr) (c most : Nat) (hs : List H4) (w : World) (hm : most ≤ 12) (hok : ∀ h ∈ hs, okH h) (hw : HouseAt w w.heap.size A hs) :
    Calls Tryd.prog 44 #[.agg #[.int .u8 q, .slice A hs.length c], .int .i64 (most : Nat)] w (RetMadeO w 4 (madeS q hs most)) := by
  have HOK := Lib.hid hok
  have hq3 : q % 3 = 2 := by unfold roomsH at hqR; omega
  have HQR := Lib.hid hqR
  clear hok hqR
  go_enter Tryd.func44, Tryd.ntmps44
  go_wp2_with fail
  obtain ⟨W0, hW0⟩ : ∃ W0, W0 = ((w.alloc (.cells #[.int .u8 q, .slice A hs.length c] 63)).alloc (.cells #[.int .i64 0, .slice none 0 0] 24)).alloc (.cells #[.int .i64 4, .slice none 0 0] 24) := ⟨_, rfl⟩
  have hz0' : W0.heap.size = w.heap.size + 1 + 1 + 1 := by rw [hW0]; simp
  have hb0 : Below w.heap.size w W0 := by rw [hW0]; exact (((Below.refl w.heap.size w).alloc (Nat.le_refl _) _).alloc (by simp) _).alloc (by simp <;> omega) _
  have c0 : W0.cell? ⟨w.heap.size + 1 + 1, 0, none⟩ = some (.int .i64 4) := by rw [hW0]; simp [go_sem]
  have c1 : W0.cell? ⟨w.heap.size + 1 + 1, 1, none⟩ = some (.slice none 0 0) := by rw [hW0]; simp [go_sem]
  have c2 : W0.cell? ⟨w.heap.size + 1, 0, none⟩ = some (.int .i64 0) := by rw [hW0]; simp [go_sem]
  have c3 : W0.cell? ⟨w.heap.size + 1, 1, none⟩ = some (.slice none 0 0) := by rw [hW0]; simp [go_sem]
  have f1 : W0.frozen? ⟨w.heap.size + 1 + 1, 1, none⟩ = false := by rw [hW0]; simp [go_sem]
  have f2 : W0.frozen? ⟨w.heap.size + 1, 0, none⟩ = false := by rw [hW0]; simp [go_sem]
  have f3 : W0.frozen? ⟨w.heap.size + 1, 1, none⟩ = false := by rw [hW0]; simp [go_sem]
  rw [← hW0]
  clear hW0 hq3
  go_loopw [19] (fun i wr => ∃ (k : Nat) (v : Value), k ≤ most ∧ k ≤ hs.length ∧ i = .int .i64 (k : Nat) ∧ wr.ownsRow (w.heap.size + 1 + 1 + 1) 74 4 v k (wcells (madeS q hs k)) ∧ Below w.heap.size w wr ∧ w.heap.size + 1 + 1 + 1 ≤ wr.heap.size ∧
    wr.cell? ⟨w.heap.size + 1 + 1, 0, none⟩ = some (.int .i64 4) ∧ wr.cell? ⟨w.heap.size + 1 + 1, 1, none⟩ = some v ∧ wr.cell? ⟨w.heap.size + 1, 0, none⟩ = some (.int .i64 0) ∧ wr.cell? ⟨w.heap.size + 1, 1, none⟩ = some (.slice none 0 0) ∧
    wr.frozen? ⟨w.heap.size + 1 + 1, 1, none⟩ = false ∧ wr.frozen? ⟨w.heap.size + 1, 0, none⟩ = false ∧ wr.frozen? ⟨w.heap.size + 1, 1, none⟩ = false) (fun i _ => most - (intOf i).toNat)
  case atStart => exact ⟨0, .slice none 0 0, Nat.zero_le _, Nat.zero_le _, rfl, World.ownsRow_nil _ _ _ _, hb0, by omega, c0, c1, c2, c3, f1, f2, f3⟩
  case round =>
    obtain ⟨k, v, hk, hkh, rfl, hown, hbw, hsz, d0, d1, d2, d3, g1, g2, g3⟩ := hrel
    clear c0 c1 c2 c3 f1 f2 f3 hz0' hb0
    have hsz2 : w.heap.size + 1 + 1 < wr.heap.size := by omega
    have hsz1 : w.heap.size + 1 < wr.heap.size := by omega
    have hsz0 : w.heap.size < wr.heap.size := by omega
    have hk0 : (0 : Int) ≤ (k : Int) := by omega
    by_cases hlt : k < hs.length
    · have hx : hs[k]? = some hs[k] := List.getElem?_eq_getElem hlt
      generalize hs[k] = h at hx
      obtain ⟨⟨a1, a2⟩, ⟨b1, b2⟩, ⟨e1, e2⟩, ⟨e3, e4⟩⟩ := HOK.out h (List.mem_of_getElem? hx)
      obtain ⟨b, off, rfl, hb, h1, h2, h3, h4⟩ := hw k h hx
      have h1' := (hbw.cell (p := ⟨b, _, none⟩) hb).trans h1
      have h2' := (hbw.cell (p := ⟨b, _, none⟩) hb).trans h2
      have h3' := (hbw.cell (p := ⟨b, _, none⟩) hb).trans h3
      have h4' := (hbw.cell (p := ⟨b, _, none⟩) hb).trans h4
      have hbr : b < wr.heap.size := by omega
      have hki : (k : Int) < (hs.length : Int) := by omega
      clear h1 h2 h3 h4
      by_cases hkm : k < most
      · have hkmi : (k : Int) < (most : Int) := by omega
        have HT := Lib.hid (wayH_take (q := q) hx)
        clear hx
        go_wp2_with fail
        obtain ⟨W5, hW5⟩ : ∃ W5, W5 = wr.alloc (.cells #[.int .u8 h.a, .int .u8 h.b, .int .u8 h.c, .int .u8 h.d] 76) := ⟨_, rfl⟩
        have hb5 : Below wr.heap.size wr W5 := by rw [hW5]; exact (Below.refl _ _).alloc (Nat.le_refl _) _
        have hz5 : W5.heap.size = wr.heap.size + 1 := by rw [hW5]; simp
        have d0 := (hb5.cell (p := ⟨w.heap.size + 1 + 1, 0, none⟩) hsz2).trans d0
        have d1 := (hb5.cell (p := ⟨w.heap.size + 1 + 1, 1, none⟩) hsz2).trans d1
        have d2 := (hb5.cell (p := ⟨w.heap.size + 1, 0, none⟩) hsz1).trans d2
        have d3 := (hb5.cell (p := ⟨w.heap.size + 1, 1, none⟩) hsz1).trans d3
        have g1 := (hb5.frozen (p := ⟨w.heap.size + 1 + 1, 1, none⟩) hsz2).trans g1
        have g2 := (hb5.frozen (p := ⟨w.heap.size + 1, 0, none⟩) hsz1).trans g2
        have g3 := (hb5.frozen (p := ⟨w.heap.size + 1, 1, none⟩) hsz1).trans g3
        have hS00 : M3 wr.heap.size (w.heap.size + 1 + 1) 4 h.b h.d W5 := ⟨by rw [hW5]; simp [go_sem], by rw [hW5]; simp [go_sem], d0⟩
        rw [← hW5]
        have hown5 := own_below hown hb5
        have hbw5 := hbw.trans (hb5.mono (by omega))
        have hne : ∀ i, i < w.heap.size + 1 + 1 + 1 → some i ≠ v.ownBlock := fun i hi h => by have := (hown.lt i h.symm).1; omega
        have hwr0 : wr.heap.size ≠ w.heap.size + 1 + 1 := by omega
        have hgw5 : wr.heap.size < W5.heap.size := by omega
        have hg55 : w.heap.size + 1 + 1 < W5.heap.size := by omega
        have hgwo : some wr.heap.size ≠ v.ownBlock := fun e => by have := (hown.lt _ e.symm).2; omega
        have hz5' : w.heap.size + 1 + 1 + 1 ≤ W5.heap.size := by omega
        clear hW5 hb5 hown hbw h1' h2' h3' h4' hz5
        have hS0 : M3 wr.heap.size (w.heap.size + 1 + 1) 4 h.b h.d W5.drew := hS00
        generalize wr.heap.size = gw at *
        have v1 : IntKind.i64.wrap 3 = 3 := by decide
        have v2 : IntKind.i64.wrap h.b = h.b := IntWalk.i64_in _ (by omega)
        have v3 : h.b.tmod 3 = h.b % 3 := Int.tmod_eq_emod_of_nonneg b1
        have v4 : IntKind.i64.wrap (h.a % 4 + 1) = h.a % 4 + 1 := IntWalk.i64_in _ (by omega)
        have v5 : IntKind.i64.wrap (h.a % 4 + 1 + h.b % 3) = h.a % 4 + 1 + h.b % 3 := IntWalk.i64_in _ (by omega)
        have v6 : (h.a % 4 + 1 + h.b % 3).tmod 4 = (h.a % 4 + 1 + h.b % 3) % 4 := Int.tmod_eq_emod_of_nonneg (by omega)
        have v7 : IntKind.i64.wrap h.d = h.d := IntWalk.i64_in _ (by omega)
        have v8 : h.d.tmod 4 = h.d % 4 := Int.tmod_eq_emod_of_nonneg e3
        obtain ⟨m, hm4⟩ : ∃ m, min 4 (h.c % 4 + h.d % 4) = m := ⟨_, rfl⟩
        have v10 : (if h.c % 4 + h.d % 4 < 4 then h.c % 4 + h.d % 4 else 4) = m := by rw [← hm4, min_if]
        have HM := Lib.hid hm4
        clear hm4
        have v9 : IntKind.i64.wrap (h.c % 4 + h.d % 4) = h.c % 4 + h.d % 4 := IntWalk.i64_in _ (by omega)
        have hba := (Below.refl W5.heap.size W5).alloc (Nat.le_refl _) (.cells #[.int .i64 (h.a % 4), .int .i64 ((h.a % 4 + 1 + h.b % 3) % 4), .int .i64 (h.c % 4), .int .i64 (m)] 74)
        have hbw6 := hbw5.trans (hba.mono (by omega))
        refine wp_region_held (S := M3 gw (w.heap.size + 1 + 1) 4 h.b h.d) (by kernel_rfl) ?_
        try (change wpAnyH _ _ _ _ _ _ _ _ (World.drew _))
        refine wpAnyH_take (i := 0) (v := ?_) rfl (by kernel_rfl) (by kernel_rfl) (by kernel_rfl) (fun _ _ _ h => h) (Or.inl ⟨by rfl, ?_⟩) (by assumption) ?_
        rotate_left
        · intro w hSw; obtain ⟨s1, s2, s3⟩ := hSw; go_simp; try with_reducible rfl
        try simp only [Act.put, List.getElem_toArray, List.getElem_cons_zero, List.setIfInBounds_toArray, List.set_cons_zero, List.set_cons_succ]
        refine wpAnyH_take (i := 2) (v := ?_) rfl (by kernel_rfl) (by kernel_rfl) (by kernel_rfl) (fun _ _ _ h => h) (Or.inl ⟨by rfl, ?_⟩) (by assumption) ?_
        rotate_left
        · intro w hSw; obtain ⟨s1, s2, s3⟩ := hSw; go_simp; try with_reducible rfl
        try simp only [Act.put, List.getElem_toArray, List.getElem_cons_zero, List.getElem_cons_succ, List.setIfInBounds_toArray, List.set_cons_zero, List.set_cons_succ]
        refine wpAnyH_take (i := 3) (v := ?_) rfl (by kernel_rfl) (by kernel_rfl) (by kernel_rfl) (fun _ _ _ h => h) (Or.inl ⟨by rfl, ?_⟩) (by assumption) ?_
        rotate_left
        · intro w hSw; obtain ⟨s1, s2, s3⟩ := hSw; go_simp; try with_reducible rfl
        try simp only [Act.put, List.getElem_toArray, List.getElem_cons_zero, List.getElem_cons_succ, List.setIfInBounds_toArray, List.set_cons_zero, List.set_cons_succ]
        refine wpAnyH_take (i := 4) (v := ?_) rfl (by kernel_rfl) (by kernel_rfl) (by kernel_rfl) (fun _ _ _ h => h) (Or.inl ⟨by rfl, ?_⟩) (by assumption) ?_
        rotate_left
        · intro w hSw; obtain ⟨s1, s2, s3⟩ := hSw; go_simp; try with_reducible rfl
        try simp only [Act.put, List.getElem_toArray, List.getElem_cons_zero, List.getElem_cons_succ, List.setIfInBounds_toArray, List.set_cons_zero, List.set_cons_succ]
        refine wpAnyH_take (i := 5) (v := ?_) rfl (by kernel_rfl) (by kernel_rfl) (by kernel_rfl) (fun _ _ _ h => h) (Or.inl ⟨by rfl, ?_⟩) (by assumption) ?_
        rotate_left
        · intro w hSw; obtain ⟨s1, s2, s3⟩ := hSw; go_simp; try with_reducible rfl
        try simp only [Act.put, List.getElem_toArray, List.getElem_cons_zero, List.getElem_cons_succ, List.setIfInBounds_toArray, List.set_cons_zero, List.set_cons_succ]
        refine wpAnyH_take (i := 6) (v := ?_) rfl (by kernel_rfl) (by kernel_rfl) (by kernel_rfl) (fun _ _ _ h => h) (Or.inl ⟨by rfl, ?_⟩) (by assumption) ?_
        rotate_left
        · intro w hSw; obtain ⟨s1, s2, s3⟩ := hSw; go_simp; try with_reducible rfl
        try simp only [Act.put, List.getElem_toArray, List.getElem_cons_zero, List.getElem_cons_succ, List.setIfInBounds_toArray, List.set_cons_zero, List.set_cons_succ]
        refine wpAnyH_take (i := 7) (v := ?_) rfl (by kernel_rfl) (by kernel_rfl) (by kernel_rfl) (fun _ _ _ h => h) (Or.inl ⟨by rfl, ?_⟩) (by assumption) ?_
        rotate_left
        · intro w hSw; obtain ⟨s1, s2, s3⟩ := hSw; go_simp; try with_reducible rfl
        try simp only [Act.put, List.getElem_toArray, List.getElem_cons_zero, List.getElem_cons_succ, List.setIfInBounds_toArray, List.set_cons_zero, List.set_cons_succ]
        refine wpAnyH_take (i := 8) (v := ?_) rfl (by kernel_rfl) (by kernel_rfl) (by kernel_rfl) (fun _ _ _ h => h) (Or.inl ⟨by rfl, ?_⟩) (by assumption) ?_
        rotate_left
        · intro w hSw; obtain ⟨s1, s2, s3⟩ := hSw; go_simp; try with_reducible rfl
        try simp only [Act.put, List.getElem_toArray, List.getElem_cons_zero, List.getElem_cons_succ, List.setIfInBounds_toArray, List.set_cons_zero, List.set_cons_succ]
        refine wpAnyH_take (i := 9) (v := ?_) rfl (by kernel_rfl) (by kernel_rfl) (by kernel_rfl) (fun _ _ _ h => h) (Or.inl ⟨by rfl, ?_⟩) (by assumption) ?_
        rotate_left
        · intro w hSw; obtain ⟨s1, s2, s3⟩ := hSw; go_simp; try with_reducible rfl
        try simp only [Act.put, List.getElem_toArray, List.getElem_cons_zero, List.getElem_cons_succ, List.setIfInBounds_toArray, List.set_cons_zero, List.set_cons_succ]
        refine wpAnyH_take (i := 10) (v := ?_) rfl (by kernel_rfl) (by kernel_rfl) (by kernel_rfl) (fun _ _ _ h => h) (Or.inl ⟨by rfl, ?_⟩) (by assumption) ?_
        rotate_left
        · intro w hSw; obtain ⟨s1, s2, s3⟩ := hSw; go_simp; try with_reducible rfl
        try simp only [Act.put, List.getElem_toArray, List.getElem_cons_zero, List.getElem_cons_succ, List.setIfInBounds_toArray, List.set_cons_zero, List.set_cons_succ]
        refine wpAnyH_take (i := 11) (v := ?_) rfl (by kernel_rfl) (by kernel_rfl) (by kernel_rfl) (fun _ _ _ h => h) (Or.inl ⟨by rfl, ?_⟩) (by assumption) ?_
        rotate_left
        · intro w hSw; obtain ⟨s1, s2, s3⟩ := hSw; go_simp; try with_reducible rfl
        try simp only [Act.put, List.getElem_toArray, List.getElem_cons_zero, List.getElem_cons_succ, List.setIfInBounds_toArray, List.set_cons_zero, List.set_cons_succ]
        refine wpAnyH_take (i := 12) (v := ?_) rfl (by kernel_rfl) (by kernel_rfl) (by kernel_rfl) (fun _ _ _ h => h) (Or.inl ⟨by rfl, ?_⟩) (by assumption) ?_
        rotate_left
        · intro w hSw; obtain ⟨s1, s2, s3⟩ := hSw; go_simp; try with_reducible rfl
        try simp only [Act.put, List.getElem_toArray, List.getElem_cons_zero, List.getElem_cons_succ, List.setIfInBounds_toArray, List.set_cons_zero, List.set_cons_succ]
        refine wpAnyH_take (i := 13) (v := ?_) rfl (by kernel_rfl) (by kernel_rfl) (by kernel_rfl) (fun _ _ _ h => h) (Or.inl ⟨by rfl, ?_⟩) (by assumption) ?_
        rotate_left
        · intro w hSw; obtain ⟨s1, s2, s3⟩ := hSw; go_simp; try with_reducible rfl
        try simp only [Act.put, List.getElem_toArray, List.getElem_cons_zero, List.getElem_cons_succ, List.setIfInBounds_toArray, List.set_cons_zero, List.set_cons_succ]
        refine wpAnyH_take (i := 14) (v := ?_) rfl (by kernel_rfl) (by kernel_rfl) (by kernel_rfl) (fun _ _ _ h => h) (Or.inl ⟨by rfl, ?_⟩) (by assumption) ?_
        rotate_left
        · intro w hSw; obtain ⟨s1, s2, s3⟩ := hSw; go_simp; try with_reducible rfl
        try simp only [Act.put, List.getElem_toArray, List.getElem_cons_zero, List.getElem_cons_succ, List.setIfInBounds_toArray, List.set_cons_zero, List.set_cons_succ]
        refine wpAnyH_take (i := 15) (v := ?_) rfl (by kernel_rfl) (by kernel_rfl) (by kernel_rfl) (fun _ _ _ h => h) (Or.inl ⟨by rfl, ?_⟩) (by assumption) ?_
        rotate_left
        · intro w hSw; obtain ⟨s1, s2, s3⟩ := hSw; go_simp; try with_reducible rfl
        try simp only [Act.put, List.getElem_toArray, List.getElem_cons_zero, List.getElem_cons_succ, List.setIfInBounds_toArray, List.set_cons_zero, List.set_cons_succ]
        refine wpAnyH_take (i := 16) (v := ?_) rfl (by kernel_rfl) (by kernel_rfl) (by kernel_rfl) (fun _ _ _ h => h) (Or.inl ⟨by rfl, ?_⟩) (by assumption) ?_
        rotate_left
        · intro w hSw; obtain ⟨s1, s2, s3⟩ := hSw; go_simp; try with_reducible rfl
        try simp only [Act.put, List.getElem_toArray, List.getElem_cons_zero, List.getElem_cons_succ, List.setIfInBounds_toArray, List.set_cons_zero, List.set_cons_succ]
        refine wpAnyH_take (i := 17) (v := ?_) rfl (by kernel_rfl) (by kernel_rfl) (by kernel_rfl) (fun _ _ _ h => h) (Or.inl ⟨by rfl, ?_⟩) (by assumption) ?_
        rotate_left
        · intro w hSw; obtain ⟨s1, s2, s3⟩ := hSw; go_simp; try with_reducible rfl
        try simp only [Act.put, List.getElem_toArray, List.getElem_cons_zero, List.getElem_cons_succ, List.setIfInBounds_toArray, List.set_cons_zero, List.set_cons_succ]
        refine wpAnyH_take (i := 18) (v := ?_) rfl (by kernel_rfl) (by kernel_rfl) (by kernel_rfl) (fun _ _ _ h => h) (Or.inl ⟨by rfl, ?_⟩) (by assumption) ?_
        rotate_left
        · intro w hSw; obtain ⟨s1, s2, s3⟩ := hSw; go_simp; try with_reducible rfl
        try simp only [Act.put, List.getElem_toArray, List.getElem_cons_zero, List.getElem_cons_succ, List.setIfInBounds_toArray, List.set_cons_zero, List.set_cons_succ]
        refine wpAnyH_take (i := 19) (v := ?_) rfl (by kernel_rfl) (by kernel_rfl) (by kernel_rfl) (fun _ _ _ h => h) (Or.inl ⟨by rfl, ?_⟩) (by assumption) ?_
        rotate_left
        · intro w hSw; obtain ⟨s1, s2, s3⟩ := hSw; go_simp; try with_reducible rfl
        try simp only [Act.put, List.getElem_toArray, List.getElem_cons_zero, List.getElem_cons_succ, List.setIfInBounds_toArray, List.set_cons_zero, List.set_cons_succ]
        refine wpAnyH_take (i := 20) (v := ?_) rfl (by kernel_rfl) (by kernel_rfl) (by kernel_rfl) (fun _ _ _ h => h) (Or.inl ⟨by rfl, ?_⟩) (by assumption) ?_
        rotate_left
        · intro w hSw; obtain ⟨s1, s2, s3⟩ := hSw; go_simp; try with_reducible rfl
        try simp only [Act.put, List.getElem_toArray, List.getElem_cons_zero, List.getElem_cons_succ, List.setIfInBounds_toArray, List.set_cons_zero, List.set_cons_succ]
        refine wpAnyH_take (i := 21) (v := ?_) rfl (by kernel_rfl) (by kernel_rfl) (by kernel_rfl) (fun _ _ _ h => h) (Or.inl ⟨by rfl, ?_⟩) (by assumption) ?_
        rotate_left
        · intro w hSw; obtain ⟨s1, s2, s3⟩ := hSw; go_simp; try with_reducible rfl
        try simp only [Act.put, List.getElem_toArray, List.getElem_cons_zero, List.getElem_cons_succ, List.setIfInBounds_toArray, List.set_cons_zero, List.set_cons_succ]
        refine wpAnyH_take (i := 22) (v := ?_) rfl (by kernel_rfl) (by kernel_rfl) (by kernel_rfl) (fun _ _ _ h => h) (Or.inl ⟨by rfl, ?_⟩) (by assumption) ?_
        rotate_left
        · intro w hSw; obtain ⟨s1, s2, s3⟩ := hSw; go_simp; try with_reducible rfl
        try simp only [Act.put, List.getElem_toArray, List.getElem_cons_zero, List.getElem_cons_succ, List.setIfInBounds_toArray, List.set_cons_zero, List.set_cons_succ]
        refine wpAnyH_take (i := 23) (v := ?_) rfl (by kernel_rfl) (by kernel_rfl) (by kernel_rfl) (fun _ _ _ h => h) (Or.inl ⟨by rfl, ?_⟩) (by assumption) ?_
        rotate_left
        · intro w hSw; obtain ⟨s1, s2, s3⟩ := hSw; go_simp; try with_reducible rfl
        try simp only [Act.put, List.getElem_toArray, List.getElem_cons_zero, List.getElem_cons_succ, List.setIfInBounds_toArray, List.set_cons_zero, List.set_cons_succ]
        refine wpAnyH_take (i := 24) (v := ?_) rfl (by kernel_rfl) (by kernel_rfl) (by kernel_rfl) (fun _ _ _ h => h) (Or.inl ⟨by rfl, ?_⟩) (by assumption) ?_
        rotate_left
        · intro w hSw; obtain ⟨s1, s2, s3⟩ := hSw; go_simp; try with_reducible rfl
        try simp only [Act.put, List.getElem_toArray, List.getElem_cons_zero, List.getElem_cons_succ, List.setIfInBounds_toArray, List.set_cons_zero, List.set_cons_succ]
        refine wpAnyH_ready (rs := [1, 25]) (by kernel_rfl) (by simp) ?_
        refine AllReadyH.cons rfl (fun K hK => ?_) (AllReadyH.cons rfl (fun K hK => ?_) AllReadyH.nil)
        · go_simp
          refine hK.out _ _ hS0 (fun _ => ?_)
          clear hK K
          try simp only [Act.put, List.getElem_toArray, List.getElem_cons_zero, List.getElem_cons_succ, List.setIfInBounds_toArray, List.set_cons_zero, List.set_cons_succ]
          refine wpAnyH_ready (rs := [25]) (by kernel_rfl) (by simp) ?_
          refine AllReadyH.cons rfl (fun K hK => ?_) AllReadyH.nil
          go_simp
          refine hK.out _ _ (⟨(hba.cell (p := ⟨gw, _, none⟩) hgw5).trans hS00.1, (hba.cell (p := ⟨gw, _, none⟩) hgw5).trans hS00.2.1, (hba.cell (p := ⟨_, _, none⟩) hg55).trans hS00.2.2⟩) (fun _ => ?_)
          clear hK K
          try simp only [Act.put, List.getElem_toArray, List.getElem_cons_zero, List.getElem_cons_succ, List.setIfInBounds_toArray, List.set_cons_zero, List.set_cons_succ]
          refine wpAnyH_ready (rs := [26]) (by kernel_rfl) (by simp) ?_
          refine AllReadyH.cons rfl (fun K hK => ?_) AllReadyH.nil
          refine step_books rfl _ _ rfl (w.heap.size + 1 + 1 + 1) k W5.heap.size v (wcells (madeS q hs k)) (h.a % 4) ((h.a % 4 + 1 + h.b % 3) % 4) (h.c % 4) (m) rfl (by exact hown5.alloc _) rfl (by exact heap_alloc_new _ _) (by omega) (by simp; omega) ?_
          intro g cap w4 hown4 hgrow4
          have kc := (fun i o (hi : i < w.heap.size + 1 + 1 + 1) => (World.cell?_of_block (a := ⟨i, o, none⟩) (hgrow4.block i (by simp; omega) (hne i hi))).trans (hba.cell (p := ⟨i, o, none⟩) (by simp; omega)))
          have kf := (fun i o (hi : i < w.heap.size + 1 + 1 + 1) => (World.frozen?_of_block (a := ⟨i, o, none⟩) (hgrow4.block i (by simp; omega) (hne i hi))).trans (hba.frozen (p := ⟨i, o, none⟩) (by simp; omega)))
          have kw := (fun o => (World.cell?_of_block (a := ⟨gw, o, none⟩) (hgrow4.block gw (by simp; omega) hgwo)).trans (hba.cell (p := ⟨gw, o, none⟩) hgw5))
          have hS4 : M3 gw (w.heap.size + 1 + 1) 4 h.b h.d w4 := ⟨(kw _).trans hS00.1, (kw _).trans hS00.2.1, (kc _ _ (by omega)).trans hS00.2.2⟩
          have y0 := (kc (w.heap.size + 1 + 1) 0 (by omega)).trans d0
          have y1 := (kc (w.heap.size + 1 + 1) 1 (by omega)).trans d1
          have y2 := (kc (w.heap.size + 1) 0 (by omega)).trans d2
          have y3 := (kc (w.heap.size + 1) 1 (by omega)).trans d3
          have y4 := (kf (w.heap.size + 1 + 1) 1 (by omega)).trans g1
          have y5 := (kf (w.heap.size + 1) 0 (by omega)).trans g2
          have y6 := (kf (w.heap.size + 1) 1 (by omega)).trans g3
          have hs4 : W5.heap.size + 1 ≤ w4.heap.size := by have := hgrow4.size; simpa using this
          have hbw4 : Below w.heap.size w w4 := by
            refine Below.grown ?_ hgrow4 (by simp; omega) (fun g hg => by have := (hown5.lt g hg).1; omega)
            exact ⟨hbw6.os, hbw6.tape, hbw6.output, hbw6.size, hbw6.block⟩
          refine hK.out _ _ hS4 (fun _ => ?_)
          clear hK K kc kf kw
          try simp only [Act.put, List.getElem_toArray, List.getElem_cons_zero, List.getElem_cons_succ, List.setIfInBounds_toArray, List.set_cons_zero, List.set_cons_succ]
          refine wpAnyH_take (i := 27) (v := ?_) rfl (by kernel_rfl) (by kernel_rfl) (by kernel_rfl) (fun _ _ _ h => h) (Or.inl ⟨by rfl, ?_⟩) (by assumption) ?_
          rotate_left
          · intro w hSw; obtain ⟨s1, s2, s3⟩ := hSw; go_simp; try with_reducible rfl
          try simp only [Act.put, List.getElem_toArray, List.getElem_cons_zero, List.getElem_cons_succ, List.setIfInBounds_toArray, List.set_cons_zero, List.set_cons_succ]
          refine wpAnyH_ready (rs := [28]) (by kernel_rfl) (by simp) ?_
          refine AllReadyH.cons rfl (fun K hK => ?_) AllReadyH.nil
          go_simp
          refine hK.out _ _ ⟨(World.cell?_setCell_other _ _ _ _ (fun h => by injection h; omega)).trans hS4.1, (World.cell?_setCell_other _ _ _ _ (fun h => by injection h; omega)).trans hS4.2.1, (World.cell?_setCell_other _ _ _ _ (fun h => by injection h; omega)).trans hS4.2.2⟩ (fun _ => ?_)
          clear hK K
          refine wpAnyH_done (by kernel_rfl) ?_ _
          have hownF := ownsRow_setCell_below hown4 (a := ⟨w.heap.size + 1 + 1, 1, none⟩) (by simp) (.slice (some ⟨g, 0, none⟩) (k + 1) cap)
          go_wp2_with fail
          go_roundw
          case rel =>
            exact ⟨k + 1, .slice (some ⟨g, 0, none⟩) (k + 1) cap, hkm, hlt, by go_num, by rw [HT.out, wcells_append, HQR.out, show wcells [wayH 4 h] = [.int .i64 (h.a % 4), .int .i64 ((h.a % 4 + 1 + h.b % 3) % 4), .int .i64 (h.c % 4), .int .i64 (m)] by unfold wayH; rw [HM.out]; rfl]; exact hownF, hbw4.setCell (p := ⟨w.heap.size + 1 + 1, 1, none⟩) (by simp <;> omega) _, by simp; omega, by simp [go_sem, y0], by simp [go_sem, y1], by simp [go_sem, y2], by simp [go_sem, y3], by simp [go_sem, y4], by simp [go_sem, y5], by simp [go_sem, y6]⟩
          case measure => simp [intOf]; omega
        · go_simp
          refine hK.out _ _ ⟨(hba.cell (p := ⟨gw, _, none⟩) hgw5).trans hS00.1, (hba.cell (p := ⟨gw, _, none⟩) hgw5).trans hS00.2.1, (hba.cell (p := ⟨_, _, none⟩) hg55).trans hS00.2.2⟩ (fun _ => ?_)
          clear hK K
          try simp only [Act.put, List.getElem_toArray, List.getElem_cons_zero, List.getElem_cons_succ, List.setIfInBounds_toArray, List.set_cons_zero, List.set_cons_succ]
          refine wpAnyH_ready (rs := [1]) (by kernel_rfl) (by simp) ?_
          refine AllReadyH.cons rfl (fun K hK => ?_) AllReadyH.nil
          go_simp
          refine hK.out _ _ (⟨(hba.cell (p := ⟨gw, _, none⟩) hgw5).trans hS00.1, (hba.cell (p := ⟨gw, _, none⟩) hgw5).trans hS00.2.1, (hba.cell (p := ⟨_, _, none⟩) hg55).trans hS00.2.2⟩) (fun _ => ?_)
          clear hK K
          try simp only [Act.put, List.getElem_toArray, List.getElem_cons_zero, List.getElem_cons_succ, List.setIfInBounds_toArray, List.set_cons_zero, List.set_cons_succ]
          refine wpAnyH_ready (rs := [26]) (by kernel_rfl) (by simp) ?_
          refine AllReadyH.cons rfl (fun K hK => ?_) AllReadyH.nil
          refine step_books rfl _ _ rfl (w.heap.size + 1 + 1 + 1) k W5.heap.size v (wcells (madeS q hs k)) (h.a % 4) ((h.a % 4 + 1 + h.b % 3) % 4) (h.c % 4) (m) rfl (by exact hown5.alloc _) rfl (by exact heap_alloc_new _ _) (by omega) (by simp; omega) ?_
          intro g cap w4 hown4 hgrow4
          have kc := (fun i o (hi : i < w.heap.size + 1 + 1 + 1) => (World.cell?_of_block (a := ⟨i, o, none⟩) (hgrow4.block i (by simp; omega) (hne i hi))).trans (hba.cell (p := ⟨i, o, none⟩) (by simp; omega)))
          have kf := (fun i o (hi : i < w.heap.size + 1 + 1 + 1) => (World.frozen?_of_block (a := ⟨i, o, none⟩) (hgrow4.block i (by simp; omega) (hne i hi))).trans (hba.frozen (p := ⟨i, o, none⟩) (by simp; omega)))
          have kw := (fun o => (World.cell?_of_block (a := ⟨gw, o, none⟩) (hgrow4.block gw (by simp; omega) hgwo)).trans (hba.cell (p := ⟨gw, o, none⟩) hgw5))
          have hS4 : M3 gw (w.heap.size + 1 + 1) 4 h.b h.d w4 := ⟨(kw _).trans hS00.1, (kw _).trans hS00.2.1, (kc _ _ (by omega)).trans hS00.2.2⟩
          have y0 := (kc (w.heap.size + 1 + 1) 0 (by omega)).trans d0
          have y1 := (kc (w.heap.size + 1 + 1) 1 (by omega)).trans d1
          have y2 := (kc (w.heap.size + 1) 0 (by omega)).trans d2
          have y3 := (kc (w.heap.size + 1) 1 (by omega)).trans d3
          have y4 := (kf (w.heap.size + 1 + 1) 1 (by omega)).trans g1
          have y5 := (kf (w.heap.size + 1) 0 (by omega)).trans g2
          have y6 := (kf (w.heap.size + 1) 1 (by omega)).trans g3
          have hs4 : W5.heap.size + 1 ≤ w4.heap.size := by have := hgrow4.size; simpa using this
          have hbw4 : Below w.heap.size w w4 := by
            refine Below.grown ?_ hgrow4 (by simp; omega) (fun g hg => by have := (hown5.lt g hg).1; omega)
            exact ⟨hbw6.os, hbw6.tape, hbw6.output, hbw6.size, hbw6.block⟩
          refine hK.out _ _ hS4 (fun _ => ?_)
          clear hK K kc kf kw
          try simp only [Act.put, List.getElem_toArray, List.getElem_cons_zero, List.getElem_cons_succ, List.setIfInBounds_toArray, List.set_cons_zero, List.set_cons_succ]
          refine wpAnyH_take (i := 27) (v := ?_) rfl (by kernel_rfl) (by kernel_rfl) (by kernel_rfl) (fun _ _ _ h => h) (Or.inl ⟨by rfl, ?_⟩) (by assumption) ?_
          rotate_left
          · intro w hSw; obtain ⟨s1, s2, s3⟩ := hSw; go_simp; try with_reducible rfl
          try simp only [Act.put, List.getElem_toArray, List.getElem_cons_zero, List.getElem_cons_succ, List.setIfInBounds_toArray, List.set_cons_zero, List.set_cons_succ]
          refine wpAnyH_ready (rs := [28]) (by kernel_rfl) (by simp) ?_
          refine AllReadyH.cons rfl (fun K hK => ?_) AllReadyH.nil
          go_simp
          refine hK.out _ _ ⟨(World.cell?_setCell_other _ _ _ _ (fun h => by injection h; omega)).trans hS4.1, (World.cell?_setCell_other _ _ _ _ (fun h => by injection h; omega)).trans hS4.2.1, (World.cell?_setCell_other _ _ _ _ (fun h => by injection h; omega)).trans hS4.2.2⟩ (fun _ => ?_)
          clear hK K
          refine wpAnyH_done (by kernel_rfl) ?_ _
          have hownF := ownsRow_setCell_below hown4 (a := ⟨w.heap.size + 1 + 1, 1, none⟩) (by simp) (.slice (some ⟨g, 0, none⟩) (k + 1) cap)
          go_wp2_with fail
          go_roundw
          case rel =>
            exact ⟨k + 1, .slice (some ⟨g, 0, none⟩) (k + 1) cap, hkm, hlt, by go_num, by rw [HT.out, wcells_append, HQR.out, show wcells [wayH 4 h] = [.int .i64 (h.a % 4), .int .i64 ((h.a % 4 + 1 + h.b % 3) % 4), .int .i64 (h.c % 4), .int .i64 (m)] by unfold wayH; rw [HM.out]; rfl]; exact hownF, hbw4.setCell (p := ⟨w.heap.size + 1 + 1, 1, none⟩) (by simp <;> omega) _, by simp; omega, by simp [go_sem, y0], by simp [go_sem, y1], by simp [go_sem, y2], by simp [go_sem, y3], by simp [go_sem, y4], by simp [go_sem, y5], by simp [go_sem, y6]⟩
          case measure => simp [intOf]; omega
      · have hkm' : k = most := by omega
        subst hkm'
        have HW := Lib.hid hown
        obtain ⟨B, cap, rfl⟩ := own_form hown
        have HL := Lib.hid (madeS_klen (q := q) hkh)
        clear hown
        clear hx
        go_wp2_with fail
        refine bodyPost_ret (v := .agg #[.int .i64 4, .slice B k cap]) (by simp [results, Tryd.results44, go_sem, d2, d3, hsz1]) rfl ⟨B, cap, w.heap.size + 1 + 1 + 1, by rw [HL.out], by omega, ?_, ?_⟩
        · have h2 := (ownsRow_setCell_below (ownsRow_setCell_below HW.out (a := ⟨w.heap.size + 1, 0, none⟩) (by simp) (.int .i64 4)) (a := ⟨w.heap.size + 1, 1, none⟩) (by simp) (.slice B k cap)).alloc (.cells #[.int .u8 h.a, .int .u8 h.b, .int .u8 h.c, .int .u8 h.d] 76)
          rw [HL.out]
          exact h2
        · exact ((hbw.setCell (p := ⟨w.heap.size + 1, 0, none⟩) (by simp) _).setCell (p := ⟨w.heap.size + 1, 1, none⟩) (by simp) _).alloc (by simp; omega) _
    · have hkl : k = hs.length := by omega
      have HMS := Lib.hid (show madeS q hs most = madeS q hs k by subst hkl; unfold madeS; rw [List.take_of_length_le (by omega), List.take_of_length_le (by omega)])
      subst hkl
      have HW := Lib.hid hown
      obtain ⟨B, cap, rfl⟩ := own_form hown
      have HL := Lib.hid (madeS_klen (q := q) hkh)
      clear hown
      go_wp2_with fail
      refine bodyPost_ret (v := .agg #[.int .i64 4, .slice B hs.length cap]) (by simp [results, Tryd.results44, go_sem, d2, d3]) rfl ⟨B, cap, w.heap.size + 1 + 1 + 1, by rw [HMS.out, HL.out], by omega, ?_, ?_⟩
      · have h2 := ownsRow_setCell_below (ownsRow_setCell_below HW.out (a := ⟨w.heap.size + 1, 0, none⟩) (by simp) (.int .i64 4)) (a := ⟨w.heap.size + 1, 1, none⟩) (by simp) (.slice B hs.length cap)
        rw [HMS.out, HL.out]
        exact h2
      · exact (hbw.setCell (p := ⟨w.heap.size + 1, 0, none⟩) (by simp) _).setCell (p := ⟨w.heap.size + 1, 1, none⟩) (by simp) _

/-- THE WALK OF made, with the memory. -/
theorem madeO_any (q : Int) (hq : 0 ≤ q ∧ q ≤ 255) (A : Option Addr) (c most : Nat) (hs : List H4) (w : World) (hm : most ≤ 12) (hok : ∀ h ∈ hs, okH h) (hw : HouseAt w w.heap.size A hs) :
    Calls Tryd.prog 44 #[.agg #[.int .u8 q, .slice A hs.length c], .int .i64 (most : Nat)] w (RetMadeO w (roomsH q) (madeS q hs most)) := by
  rcases roomsH_cases q with e | e | e
  · have := madeO2 q hq e A c most hs w hm hok hw
    rw [e]; exact this
  · have := madeO3 q hq e A c most hs w hm hok hw
    rw [e]; exact this
  · have := madeO4 q hq e A c most hs w hm hok hw
    rw [e]; exact this
end Go.Proofs.YtcebihijnedekaaDoor
