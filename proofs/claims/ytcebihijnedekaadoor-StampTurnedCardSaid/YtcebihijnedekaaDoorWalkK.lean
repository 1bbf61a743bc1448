/-
  The walks of books that are copied.
-/
import Derived.Test.YtcebihijnedekaaDoorWalkI
import Derived.Lib.LazyBuf
import Derived.BigRegion
import Derived.Laws.OwnMore
namespace Go.Proofs.YtcebihijnedekaaDoor
open Go.RowKit

theorem info74 : (Tryd.prog.info? 74).map (fun i => (i.zero, i.size, i.bytes)) = some (some (.agg #[.int .i64 0, .int .i64 0, .int .i64 0, .int .i64 0]), 4, 32) := by kernel_rfl

/-- The cells of ways. -/
def wcells : List Wy → List Value
  | [] => []
  | x :: ws => .int .i64 x.src :: .int .i64 x.dst :: .int .i64 x.lo :: .int .i64 x.hi :: wcells ws

theorem wcells_len : ∀ ws : List Wy, (wcells ws).length = ws.length * 4
  | [] => rfl
  | _ :: ws => by simp only [wcells, List.length_cons, wcells_len ws]; omega

theorem wcells_one : ∀ ws : List Wy, ∀ u ∈ wcells ws, u.oneCell' = true
  | [], u, h => by simp [wcells] at h
  | x :: ws, u, h => by
    simp only [wcells, List.mem_cons] at h
    rcases h with rfl | rfl | rfl | rfl | h
    · rfl
    · rfl
    · rfl
    · rfl
    · exact wcells_one ws u h

theorem wcells_get : ∀ (ws : List Wy) (k : Nat) (x : Wy), ws[k]? = some x →
    (wcells ws)[k * 4]? = some (.int .i64 x.src) ∧ (wcells ws)[k * 4 + 1]? = some (.int .i64 x.dst) ∧ (wcells ws)[k * 4 + 2]? = some (.int .i64 x.lo) ∧ (wcells ws)[k * 4 + 3]? = some (.int .i64 x.hi)
  | [], _, _, h => by simp at h
  | y :: ws, 0, x, h => by simp at h; subst h; simp [wcells]
  | y :: ws, k + 1, x, h => by
    have ih := wcells_get ws k x (by simpa using h)
    simp only [wcells]
    rw [show (k + 1) * 4 = k * 4 + 1 + 1 + 1 + 1 by omega]
    simpa using ih

theorem wcells_set : ∀ (ws : List Wy) (k : Nat) (x : Wy) (n : Int), ws[k]? = some x →
    wcells (ws.set k (fixW x n)) = ((wcells ws).set (k * 4 + 2) (.int .i64 n)).set (k * 4 + 3) (.int .i64 n)
  | [], _, _, _, h => by simp at h
  | y :: ws, 0, x, n, h => by simp at h; subst h; simp [wcells, fixW]
  | y :: ws, k + 1, x, n, h => by
    have ih := wcells_set ws k x n (by simpa using h)
    rw [show (k + 1) * 4 + 2 = (k * 4 + 2) + 1 + 1 + 1 + 1 by omega, show (k + 1) * 4 + 3 = (k * 4 + 3) + 1 + 1 + 1 + 1 by omega]
    simp only [List.set_cons_succ, wcells, ih]

theorem own_ways {w : World} {base g n cap : Nat} {ws : List Wy} (h : w.ownsRow base 74 4 (.slice (some ⟨g, 0, none⟩) n cap) n (wcells ws)) : WaysAt w w.heap.size (some ⟨g, 0, none⟩) ws := by
  intro k x hx
  have hn : n = ws.length := by have := h.1; rw [wcells_len] at this; omega
  have hk := lt_of_get hx
  obtain ⟨h1, h2, h3, h4⟩ := wcells_get ws k x hx
  refine ⟨g, 0, rfl, (h.lt g rfl).2, ?_, ?_, ?_, ?_⟩
  · rw [Nat.zero_add, h.cellAt _ (by omega)]; exact h1
  · rw [Nat.zero_add, h.cellAt _ (by omega)]; exact h2
  · rw [Nat.zero_add, h.cellAt _ (by omega)]; exact h3
  · rw [Nat.zero_add, h.cellAt _ (by omega)]; exact h4

theorem ways_cells {w : World} {B b off : Nat} : ∀ {ws : List Wy}, WaysAt w B (some ⟨b, off, none⟩) ws → ∀ j u, (wcells ws)[j]? = some u → w.cell? ((⟨b, off, none⟩ : Addr).add j) = some u := by
  intro ws h j u hu
  have hj : j < (wcells ws).length := lt_of_get hu
  rw [wcells_len] at hj
  have hk : j / 4 < ws.length := by omega
  have hx : ws[j / 4]? = some ws[j / 4] := List.getElem?_eq_getElem hk
  generalize ws[j / 4] = x at hx
  obtain ⟨b', off', he, _, h1, h2, h3, h4⟩ := h _ x hx
  obtain ⟨rfl, rfl⟩ : b' = b ∧ off' = off := by simpa [eq_comm] using he
  obtain ⟨g1, g2, g3, g4⟩ := wcells_get ws _ x hx
  have ha : ((⟨b', off', none⟩ : Addr).add j) = ⟨b', off' + j, none⟩ := by unfold Addr.add; split <;> simp_all
  rw [ha]
  have hm : j = j / 4 * 4 ∨ j = j / 4 * 4 + 1 ∨ j = j / 4 * 4 + 2 ∨ j = j / 4 * 4 + 3 := by omega
  generalize j / 4 = q at *
  rcases hm with rfl | rfl | rfl | rfl
  · rw [hu] at g1; cases g1; exact h1
  · rw [hu] at g2; cases g2; rw [← Nat.add_assoc]; exact h2
  · rw [hu] at g3; cases g3; rw [← Nat.add_assoc]; exact h3
  · rw [hu] at g4; cases g4; rw [← Nat.add_assoc]; exact h4

/-- Ways in memory of their own. -/
def RetWays (w : World) (ws : List Wy) (e : Ending) (w' : World) : Prop := ∃ g cap, e = .returned (.slice (some ⟨g, 0, none⟩) ws.length cap) ∧ w'.ownsRow w.heap.size 74 4 (.slice (some ⟨g, 0, none⟩) ws.length cap) ws.length (wcells ws) ∧ Below w.heap.size w w'

set_option maxRecDepth 100000 in
set_option maxHeartbeats 1000000 in
theorem clone_some (b off c : Nat) (ws : List Wy) (w : World) (h0 : 0 < ws.length) (h12 : ws.length ≤ 12) (hw : WaysAt w w.heap.size (some ⟨b, off, none⟩) ws) : Calls Tryd.prog 91 #[.slice (some ⟨b, off, none⟩) ws.length c] w (RetWays w ws) := by
  have hn := fun W => run_eql_slice_nil (P := Tryd.prog) W 22 74 (some ⟨b, off, none⟩) ws.length c Tryd.underlying22
  obtain ⟨i0, hi, hz0, hz1, hz2⟩ := info_parts info74
  have hw1 := hw.alloc (Nat.le_refl _) (.cells #[] 74)
  have hcl := wcells_len ws
  go_enter Tryd.func91, Tryd.ntmps91
  go_wp2_with (at_builtin; refine wpList_append_own _ rfl _ _ 22 rfl w.heap.size 74 i0 (.agg #[.int .i64 0, .int .i64 0, .int .i64 0, .int .i64 0]) 4 32 Tryd.underlying22 hi hz0 hz1 hz2 rfl (by decide) _ 0 [] rfl (World.ownsRow_made w #[] 0 (Nat.le_refl _) (by unfold maxLen; omega) rfl) ⟨b, off, none⟩ ws.length c (wcells ws) rfl hcl (ways_cells hw1) (wcells_one ws) (by unfold maxLen; omega) (by omega) (by simp) ?_)
  intro v' w1 hown hgrow hnil
  have hb : Below w.heap.size w w1 := ((Below.refl w.heap.size w).alloc (Nat.le_refl _) _).grown hgrow (by simp) (fun k hk => by simp [Value.ownBlock] at hk; omega)
  obtain ⟨g, cap, rfl⟩ : ∃ g cap, v' = .slice (some ⟨g, 0, none⟩) ws.length cap := by
    rcases hown.2 with ⟨_, h1⟩ | ⟨g, cap, cur, h1, _⟩
    · omega
    · exact ⟨g, cap, h1⟩
  have HO := Lib.hid hown
  clear hgrow hnil hown hcl hw hw1
  go_wp2
  go_ret
  exact ⟨g, cap, rfl, HO.out, hb⟩

theorem own_base {w : World} {B B' : Nat} {e : TypeId} {size : Nat} {v : Value} {n : Nat} {xs : List Value} (h : w.ownsRow B e size v n xs) (hB : B' ≤ B) : w.ownsRow B' e size v n xs := by
  refine ⟨h.1, ?_⟩
  rcases h.2 with h | ⟨g, cap, cur, h1, h2, h3⟩
  · exact .inl h
  · exact .inr ⟨g, cap, cur, h1, by omega, h3⟩

theorem grown_drew {a w : World} {row : Option Nat} (h : a.grownBy w row) : a.grownBy w.drew row := ⟨h.os, h.tape, h.output, h.size, h.block⟩

/-- Books whose ways lie in memory of their own. -/
def RetKept (w : World) (rooms : Nat) (ws : List Wy) (e : Ending) (w' : World) : Prop :=
  ∃ g cap, e = .returned (.agg #[.int .i64 rooms, .slice (some ⟨g, 0, none⟩) ws.length cap]) ∧ w'.ownsRow w.heap.size 74 4 (.slice (some ⟨g, 0, none⟩) ws.length cap) ws.length (wcells ws) ∧ Below w.heap.size w w'

set_option maxHeartbeats 1000000 in
theorem kept_any (rooms b off c d : Nat) (D : Option Addr) (ws : List Wy) (ns : List Int) (w : World) (h0 : 0 < ws.length) (h12 : ws.length ≤ 12) (hn : ns.length ≤ ws.length)
    (hw : WaysAt w w.heap.size (some ⟨b, off, none⟩) ws) (hd : IntsAt w w.heap.size D ns) :
    Calls Tryd.prog 86 #[.agg #[.int .i64 rooms, .slice (some ⟨b, off, none⟩) ws.length c], .slice D ns.length d] w (RetKept w rooms (keptS ws ns)) := by
  have HC := Lib.hid (fun W hW => clone_some b off c ws W h0 h12 hW)
  have hw1 := fun o o' => ((hw.alloc (Nat.le_refl _) o).alloc (by simp) o').mono (B' := ((w.alloc o).alloc o').heap.size) (by simp; omega)
  go_enter Tryd.func86, Tryd.ntmps86
  go_wp2_with (go_at_call 91; refine (HC.out _ (hw1 _ _)).mono ?_; rintro e w1 ⟨g, cap, rfl, hown, hb1⟩; obtain ⟨q1, q2, q3⟩ := bcell hb1; simp only [World.size_alloc] at q1 q2 q3)
  obtain ⟨W0, hW0⟩ : ∃ W0, W0 = w1.setCell ⟨w.heap.size, 1, none⟩ (.slice (some ⟨g, 0, none⟩) ws.length cap) := ⟨_, rfl⟩
  have hg := (hown.lt g rfl)
  simp only [World.size_alloc] at hg hown
  have hz0 : W0.heap.size = w1.heap.size := by rw [hW0]; simp
  have hba := fun o o' => (((Below.refl w.heap.size w).alloc (Nat.le_refl _) o).alloc (B := w.heap.size) (by simp) o')
  have hb0 : Below w.heap.size w W0 := by rw [hW0]; exact ((hba _ _).trans (hb1.mono (hba _ _).size)).setCell (p := ⟨w.heap.size, 1, none⟩) (Nat.le_refl _) _
  have hc0 : W0.cell? ⟨w.heap.size, 0, none⟩ = some (.int .i64 rooms) := by rw [hW0]; simp [go_sem, q1]
  have hc1 : W0.cell? ⟨w.heap.size, 1, none⟩ = some (.slice (some ⟨g, 0, none⟩) ws.length cap) := by rw [hW0]; exact World.cell?_setCell_same _ _ _ ((q1 w.heap.size 1 (by omega)).trans (show _ = some (Value.slice (some ⟨b, off, none⟩) ws.length c) by simp [go_sem]))
  have hc2 : W0.cell? ⟨w.heap.size + 1, 0, none⟩ = some (.int .i64 0) := by rw [hW0]; simp [go_sem, q1]
  have hc3 : W0.cell? ⟨w.heap.size + 1, 1, none⟩ = some (.slice none 0 0) := by rw [hW0]; simp [go_sem, q1]
  have hf2 : W0.frozen? ⟨w.heap.size + 1, 0, none⟩ = false := by rw [hW0]; simp [go_sem, q2]
  have hf3 : W0.frozen? ⟨w.heap.size + 1, 1, none⟩ = false := by rw [hW0]; simp [go_sem, q2]
  have hown0 : W0.ownsRow (w.heap.size + 1 + 1) 74 4 (.slice (some ⟨g, 0, none⟩) ws.length cap) ws.length (wcells ws) := by rw [hW0]; exact ownsRow_setCell_below hown (by simp; omega) _
  have hd0 := hd.below hb0 (Nat.le_refl _)
  rw [← hW0]
  clear hW0 q1 q2 hb1 hown hw hw1 hd HC
  obtain ⟨hg1, hg2⟩ := hg
  go_loopw [13] (fun i wr => ∃ k : Nat, k ≤ ns.length ∧ i = .int .i64 k ∧ wr.ownsRow (w.heap.size + 1 + 1) 74 4 (.slice (some ⟨g, 0, none⟩) ws.length cap) ws.length (wcells (keptS ws (ns.take k))) ∧ W0.grownBy wr (some g)) (fun i _ => ns.length - (intOf i).toNat)
  case atStart => exact ⟨0, Nat.zero_le _, rfl, by rw [List.take_zero, keptS_nil]; exact hown0, World.grownBy.refl _ _⟩
  case round =>
    obtain ⟨k, hk, rfl, hown, hgr⟩ := hrel
    have hgs := hgr.size
    have hbB : ∀ i, i < g → i < W0.heap.size → ∀ o, wr.cell? ⟨i, o, none⟩ = W0.cell? ⟨i, o, none⟩ := fun i hi hj o => World.cell?_of_block (hgr.block i hj (fun h => by injection h; omega))
    have hfB : ∀ i, i < g → i < W0.heap.size → ∀ o, wr.frozen? ⟨i, o, none⟩ = W0.frozen? ⟨i, o, none⟩ := fun i hi hj o => World.frozen?_of_block (hgr.block i hj (fun h => by injection h; omega))
    have d0 := (hbB w.heap.size (by omega) (by omega) 0).trans hc0
    have d1 := (hbB w.heap.size (by omega) (by omega) 1).trans hc1
    have d2 := (hbB (w.heap.size + 1) (by omega) (by omega) 0).trans hc2
    have d3 := (hbB (w.heap.size + 1) (by omega) (by omega) 1).trans hc3
    have f2 := (hfB (w.heap.size + 1) (by omega) (by omega) 0).trans hf2
    have f3 := (hfB (w.heap.size + 1) (by omega) (by omega) 1).trans hf3
    by_cases hlt : k < ns.length
    · have hx : ns[k]? = some ns[k] := List.getElem?_eq_getElem hlt
      generalize ns[k] = n at hx
      obtain ⟨b', off', rfl, hb', h1⟩ := hd0 k n hx
      have h1' := (hbB b' (by omega) (by omega) (off' + k)).trans h1
      have hwk : (keptS ws (ns.take k))[k]? = some (ws[k]'(by omega)) := by rw [keptS_get_ge _ _ _ (by rw [List.length_take]; omega)]; exact List.getElem?_eq_getElem (by omega)
      have hxk : ws[(ns.take k).length]? = some (ws[k]'(by omega)) := by rw [List.length_take, Nat.min_eq_left (by omega)]; exact List.getElem?_eq_getElem (by omega)
      have hkl : (ns.take k).length = k := by rw [List.length_take]; omega
      have htk : ns.take (k + 1) = ns.take k ++ [n] := by
        obtain ⟨hk', rfl⟩ := List.getElem?_eq_some_iff.1 hx
        exact List.take_succ_eq_append_getElem hk'
      have hsn := keptS_snoc ws (ns.take k) n _ hxk
      rw [hkl] at hsn
      obtain ⟨_, _, g3, g4⟩ := wcells_get _ k _ hwk
      have hset := wcells_set _ k _ n hwk
      have e3 := (hown.cellAt (k * 4 + 2) (by omega)).trans g3
      have e4 := (hown.cellAt (k * 4 + 3) (by omega)).trans g4
      have e5 := hown.frozenAt (k * 4 + 2)
      have e6 := hown.frozenAt (k * 4 + 3)
      have HT := Lib.hid (show keptS ws (ns.take (k + 1)) = (keptS ws (ns.take k)).set k (fixW (ws[k]'(by omega)) n) from by rw [htk, hsn])
      have HS := Lib.hid hset
      have hkw : (k : Int) < (ws.length : Int) := by omega
      clear hx htk hsn hset g3 g4 hbB hfB h1 hd0 hc0 hc1 hc2 hc3 hf2 hf3
      go_wp2
      go_region
      all_goals go_wp2
      go_roundw
      case rel =>
        have s1 := hown.stored (k * 4 + 2) (.int .i64 n)
        have s2 := s1.1.stored (k * 4 + 3) (.int .i64 n)
        refine ⟨k + 1, by omega, by go_num, ?_, ?_⟩
        · rw [HT.out, HS.out]; exact s2.1
        · exact grown_drew (hgr.trans (s1.2.trans s2.2))
      case measure => simp [intOf]; omega
    · have : k = ns.length := by omega
      subst this
      rw [List.take_length] at hown
      have HO := Lib.hid hown
      clear hown hbB hfB hd0 hc0 hc1 hc2 hc3 hf2 hf3
      go_wp2
      have hbn : Below w.heap.size w wr := hb0.grown hgr (by omega) (fun i hi => by injection hi; omega)
      refine bodyPost_ret (v := .agg #[.int .i64 rooms, .slice (some ⟨g, 0, none⟩) ws.length cap]) (by simp [results, Tryd.results86, go_sem, d2, d3]) rfl ⟨g, cap, by rw [keptS_length], ?_, ?_⟩
      · rw [keptS_length]
        exact own_base (ownsRow_setCell_below (ownsRow_setCell_below HO.out (by simp) _) (by simp) _) (by omega)
      · exact (hbn.setCell (p := ⟨w.heap.size + 1, 0, none⟩) (by simp) _).setCell (p := ⟨w.heap.size + 1, 1, none⟩) (by simp) _
end Go.Proofs.YtcebihijnedekaaDoor
