/-
  Stamps in this seat: the first flow; flows are checked.
-/
import Derived.Test.YtlollcabnfncpaaDoorStpB
import Derived.Lib.LazyBuf
import Derived.BigRegion
import Derived.Laws.OwnMore
import Derived.Deep.QuietTactic
import Derived.BigQuiet
import Derived.ChangeKeysEq
namespace Go.Proofs.YtlollcabnfncpaaDoor.Stp
open Go.RowKit


/-- The set of a list of rooms, and the error of the list. -/
def setS (rooms : Nat) : List Int → Nat → Int → Nat × Int
  | [], s, _ => (s, 0)
  | r :: l, s, last => if r < 0 ∨ (rooms : Int) ≤ r then (0, 2) else if r ≤ last then (0, 7) else setS rooms l (s ||| 2 ^ (rooms - 1 - r.toNat)) r

theorem i64_or_nat (a b : Nat) (ha : a < 9223372036854775808) (hb : b < 9223372036854775808) : bits .or .i64 (a : Int) (b : Int) = ((a ||| b : Nat) : Int) := by
  have hx : a ||| b < 2 ^ 63 := Nat.or_lt_two_pow (by omega) (by omega)
  show IntKind.i64.wrap ((BitVec.ofInt 64 (a : Int) ||| BitVec.ofInt 64 (b : Int)).toNat : Int) = _
  rw [BitVec.toNat_or, ofInt_i64 a ha, ofInt_i64 b hb, IntKind.wrap_i64]
  omega

theorem or_bit {rooms s : Nat} {r : Int} (hr : rooms ≤ 6) (hs : s < 64) (h0 : 0 ≤ r) (h1 : r < rooms) :
    bits .or .i64 (s : Int) (bitI rooms r) = ((s ||| 2 ^ (rooms - 1 - r.toNat) : Nat) : Int) ∧ s ||| 2 ^ (rooms - 1 - r.toNat) < 64 := by
  have hp : 2 ^ (rooms - 1 - r.toNat) < 64 := Nat.lt_of_le_of_lt (Nat.pow_le_pow_right (by decide) (show rooms - 1 - r.toNat ≤ 5 by omega)) (by decide)
  exact ⟨i64_or_nat _ _ (by omega) (by omega), Nat.or_lt_two_pow (n := 6) hs hp⟩

theorem drop_cons {α : Type} {l : List α} {k : Nat} {x : α} (h : l[k]? = some x) : l.drop k = x :: l.drop (k + 1) := by
  obtain ⟨hk, rfl⟩ := List.getElem?_eq_some_iff.1 h
  exact List.drop_eq_getElem_cons hk


/-- The rooms of a set that are below k. -/
def listK (rooms s : Nat) : Nat → List Int
  | 0 => []
  | k + 1 => if memP rooms s (k : Int) then listK rooms s k ++ [(k : Int)] else listK rooms s k
def listS (rooms s : Nat) : List Int := listK rooms s rooms

theorem listK_len (rooms s k : Nat) : (listK rooms s k).length ≤ k := by
  induction k with
  | zero => simp [listK]
  | succ k ih =>
    rw [listK]
    split
    · rw [List.length_append]; simp; omega
    · omega

theorem own_ints {w : World} {base : Nat} {v : Value} {n : Nat} {l : List Int} (h : w.ownsRow base 3 1 v n (l.map (Value.int .i64))) : ∃ A c, v = .slice A l.length c ∧ IntsAt w w.heap.size A l := by
  have hn : n = l.length := by have := h.1; rw [List.length_map] at this; omega
  subst hn
  rcases h.2 with ⟨rfl, h0⟩ | ⟨g, cap, cur, rfl, h2⟩
  · have : l = [] := by simpa using h0
    subst this
    exact ⟨none, 0, rfl, IntsAt.nil _ _ _⟩
  · refine ⟨some ⟨g, 0, none⟩, cap, rfl, fun k x hx => ?_⟩
    have hc := h.cells (g := g) rfl k (.int .i64 x) (by simp [hx])
    refine ⟨g, 0, rfl, (h.lt g rfl).2, ?_⟩
    rw [show (⟨g, 0 + k, none⟩ : Addr) = (⟨g, 0, none⟩ : Addr).add k by unfold Addr.add; split <;> simp_all]
    exact hc

theorem cells_one (w : World) (k : IntKind) (x : Int) (t : TypeId) : ∀ (j : Nat) (u : Value), [Value.int k x][j]? = some u → (w.alloc (.cells #[.int k x] t)).cell? ((⟨w.heap.size, 0, none⟩ : Addr).add j) = some u := by
  intro j u hu
  rcases j with _ | j
  · simp at hu; subst hu; simp [Addr.add, go_sem]
  · simp at hu

theorem ret_val {u v : Value} (h : u = v) : Ending.returned u = .returned v := by rw [h]

/-- A list is handed back. -/
def RetInts (w : World) (l : List Int) (e : Ending) (w' : World) : Prop := ∃ A c, e = .returned (.slice A l.length c) ∧ IntsAt w' w'.heap.size A l ∧ Below w.heap.size w w'

theorem info3 : (Tryd.prog.info? 3).map (fun i => (i.zero, i.size, i.bytes)) = some (some (.int .i64 0), 1, 8) := by kernel_rfl



theorem info74 : (Tryd.prog.info? 85).map (fun i => (i.zero, i.size, i.bytes)) = some (some (.agg #[.int .i64 0, .int .i64 0, .int .i64 0, .int .i64 0]), 4, 32) := by kernel_rfl

/-- The cells of ways. -/
def wcells : List Wy → List Value
  | [] => []
  | x :: ws => .int .i64 x.src :: .int .i64 x.dst :: .int .i64 x.lo :: .int .i64 x.hi :: wcells ws

theorem wcells_len : ∀ ws : List Wy, (wcells ws).length = ws.length * 4
  | [] => rfl
  | _ :: ws => by simp only [wcells, List.length_cons, wcells_len ws]; omega

theorem wcells_one : ∀ ws : List Wy, ∀ u ∈ wcells ws, u.oneCell' = true
  | [], u, h => by simp [wcells] at h
  | x :: ws, u, h => by
    simp only [wcells, List.mem_cons] at h
    rcases h with rfl | rfl | rfl | rfl | h
    · rfl
    · rfl
    · rfl
    · rfl
    · exact wcells_one ws u h

theorem wcells_get : ∀ (ws : List Wy) (k : Nat) (x : Wy), ws[k]? = some x →
    (wcells ws)[k * 4]? = some (.int .i64 x.src) ∧ (wcells ws)[k * 4 + 1]? = some (.int .i64 x.dst) ∧ (wcells ws)[k * 4 + 2]? = some (.int .i64 x.lo) ∧ (wcells ws)[k * 4 + 3]? = some (.int .i64 x.hi)
  | [], _, _, h => by simp at h
  | y :: ws, 0, x, h => by simp at h; subst h; simp [wcells]
  | y :: ws, k + 1, x, h => by
    have ih := wcells_get ws k x (by simpa using h)
    simp only [wcells]
    rw [show (k + 1) * 4 = k * 4 + 1 + 1 + 1 + 1 by omega]
    simpa using ih

theorem wcells_set : ∀ (ws : List Wy) (k : Nat) (x : Wy) (n : Int), ws[k]? = some x →
    wcells (ws.set k (fixW x n)) = ((wcells ws).set (k * 4 + 2) (.int .i64 n)).set (k * 4 + 3) (.int .i64 n)
  | [], _, _, _, h => by simp at h
  | y :: ws, 0, x, n, h => by simp at h; subst h; simp [wcells, fixW]
  | y :: ws, k + 1, x, n, h => by
    have ih := wcells_set ws k x n (by simpa using h)
    rw [show (k + 1) * 4 + 2 = (k * 4 + 2) + 1 + 1 + 1 + 1 by omega, show (k + 1) * 4 + 3 = (k * 4 + 3) + 1 + 1 + 1 + 1 by omega]
    simp only [List.set_cons_succ, wcells, ih]

theorem own_ways {w : World} {base g n cap : Nat} {ws : List Wy} (h : w.ownsRow base 85 4 (.slice (some ⟨g, 0, none⟩) n cap) n (wcells ws)) : WaysAt w w.heap.size (some ⟨g, 0, none⟩) ws := by
  intro k x hx
  have hn : n = ws.length := by have := h.1; rw [wcells_len] at this; omega
  have hk := lt_of_get hx
  obtain ⟨h1, h2, h3, h4⟩ := wcells_get ws k x hx
  refine ⟨g, 0, rfl, (h.lt g rfl).2, ?_, ?_, ?_, ?_⟩
  · rw [Nat.zero_add, h.cellAt _ (by omega)]; exact h1
  · rw [Nat.zero_add, h.cellAt _ (by omega)]; exact h2
  · rw [Nat.zero_add, h.cellAt _ (by omega)]; exact h3
  · rw [Nat.zero_add, h.cellAt _ (by omega)]; exact h4

theorem ways_cells {w : World} {B b off : Nat} : ∀ {ws : List Wy}, WaysAt w B (some ⟨b, off, none⟩) ws → ∀ j u, (wcells ws)[j]? = some u → w.cell? ((⟨b, off, none⟩ : Addr).add j) = some u := by
  intro ws h j u hu
  have hj : j < (wcells ws).length := lt_of_get hu
  rw [wcells_len] at hj
  have hk : j / 4 < ws.length := by omega
  have hx : ws[j / 4]? = some ws[j / 4] := List.getElem?_eq_getElem hk
  generalize ws[j / 4] = x at hx
  obtain ⟨b', off', he, _, h1, h2, h3, h4⟩ := h _ x hx
  obtain ⟨rfl, rfl⟩ : b' = b ∧ off' = off := by simpa [eq_comm] using he
  obtain ⟨g1, g2, g3, g4⟩ := wcells_get ws _ x hx
  have ha : ((⟨b', off', none⟩ : Addr).add j) = ⟨b', off' + j, none⟩ := by unfold Addr.add; split <;> simp_all
  rw [ha]
  have hm : j = j / 4 * 4 ∨ j = j / 4 * 4 + 1 ∨ j = j / 4 * 4 + 2 ∨ j = j / 4 * 4 + 3 := by omega
  generalize j / 4 = q at *
  rcases hm with rfl | rfl | rfl | rfl
  · rw [hu] at g1; cases g1; exact h1
  · rw [hu] at g2; cases g2; rw [← Nat.add_assoc]; exact h2
  · rw [hu] at g3; cases g3; rw [← Nat.add_assoc]; exact h3
  · rw [hu] at g4; cases g4; rw [← Nat.add_assoc]; exact h4

/-- Ways in memory of their own. -/
def RetWays (w : World) (ws : List Wy) (e : Ending) (w' : World) : Prop := ∃ g cap, e = .returned (.slice (some ⟨g, 0, none⟩) ws.length cap) ∧ w'.ownsRow w.heap.size 85 4 (.slice (some ⟨g, 0, none⟩) ws.length cap) ws.length (wcells ws) ∧ Below w.heap.size w w'

set_option maxRecDepth 100000 in
set_option maxHeartbeats 1000000 in
theorem clone_some (b off c : Nat) (ws : List Wy) (w : World) (h0 : 0 < ws.length) (h12 : ws.length ≤ 12) (hw : WaysAt w w.heap.size (some ⟨b, off, none⟩) ws) : Calls Tryd.prog 134 #[.slice (some ⟨b, off, none⟩) ws.length c] w (RetWays w ws) := by
  have hn := fun W => run_eql_slice_nil (P := Tryd.prog) W 86 85 (some ⟨b, off, none⟩) ws.length c Tryd.underlying86
  obtain ⟨i0, hi, hz0, hz1, hz2⟩ := info_parts info74
  have hw1 := hw.alloc (Nat.le_refl _) (.cells #[] 85)
  have hcl := wcells_len ws
  go_enter Tryd.func134, Tryd.ntmps134
  go_wp2_with (at_builtin; refine wpList_append_own _ rfl _ _ 86 rfl w.heap.size 85 i0 (.agg #[.int .i64 0, .int .i64 0, .int .i64 0, .int .i64 0]) 4 32 Tryd.underlying86 hi hz0 hz1 hz2 rfl (by decide) _ 0 [] rfl (World.ownsRow_made w #[] 0 (Nat.le_refl _) (by unfold maxLen; omega) rfl) ⟨b, off, none⟩ ws.length c (wcells ws) rfl hcl (ways_cells hw1) (wcells_one ws) (by unfold maxLen; omega) (by omega) (by simp) ?_)
  intro v' w1 hown hgrow hnil
  have hb : Below w.heap.size w w1 := ((Below.refl w.heap.size w).alloc (Nat.le_refl _) _).grown hgrow (by simp) (fun k hk => by simp [Value.ownBlock] at hk; omega)
  obtain ⟨g, cap, rfl⟩ : ∃ g cap, v' = .slice (some ⟨g, 0, none⟩) ws.length cap := by
    rcases hown.2 with ⟨_, h1⟩ | ⟨g, cap, cur, h1, _⟩
    · omega
    · exact ⟨g, cap, h1⟩
  have HO := Lib.hid hown
  clear hgrow hnil hown hcl hw hw1
  go_wp2
  go_ret
  exact ⟨g, cap, rfl, HO.out, hb⟩

theorem own_base {w : World} {B B' : Nat} {e : TypeId} {size : Nat} {v : Value} {n : Nat} {xs : List Value} (h : w.ownsRow B e size v n xs) (hB : B' ≤ B) : w.ownsRow B' e size v n xs := by
  refine ⟨h.1, ?_⟩
  rcases h.2 with h | ⟨g, cap, cur, h1, h2, h3⟩
  · exact .inl h
  · exact .inr ⟨g, cap, cur, h1, by omega, h3⟩

theorem grown_drew {a w : World} {row : Option Nat} (h : a.grownBy w row) : a.grownBy w.drew row := ⟨h.os, h.tape, h.output, h.size, h.block⟩

/-- Books whose ways lie in memory of their own. -/
def RetKept (w : World) (rooms : Nat) (ws : List Wy) (e : Ending) (w' : World) : Prop :=
  ∃ g cap, e = .returned (.agg #[.int .i64 rooms, .slice (some ⟨g, 0, none⟩) ws.length cap]) ∧ w'.ownsRow w.heap.size 85 4 (.slice (some ⟨g, 0, none⟩) ws.length cap) ws.length (wcells ws) ∧ Below w.heap.size w w'

set_option maxHeartbeats 1000000 in
theorem kept_any (rooms b off c d : Nat) (D : Option Addr) (ws : List Wy) (ns : List Int) (w : World) (h0 : 0 < ws.length) (h12 : ws.length ≤ 12) (hn : ns.length ≤ ws.length)
    (hw : WaysAt w w.heap.size (some ⟨b, off, none⟩) ws) (hd : IntsAt w w.heap.size D ns) :
    Calls Tryd.prog 130 #[.agg #[.int .i64 rooms, .slice (some ⟨b, off, none⟩) ws.length c], .slice D ns.length d] w (RetKept w rooms (keptS ws ns)) := by
  have HC := Lib.hid (fun W hW => clone_some b off c ws W h0 h12 hW)
  have hw1 := fun o o' => ((hw.alloc (Nat.le_refl _) o).alloc (by simp) o').mono (B' := ((w.alloc o).alloc o').heap.size) (by simp; omega)
  go_enter Tryd.func130, Tryd.ntmps130
  go_wp2_with (go_at_call 134; refine (HC.out _ (hw1 _ _)).mono ?_; rintro e w1 ⟨g, cap, rfl, hown, hb1⟩; obtain ⟨q1, q2, q3⟩ := bcell hb1; simp only [World.size_alloc] at q1 q2 q3)
  obtain ⟨W0, hW0⟩ : ∃ W0, W0 = w1.setCell ⟨w.heap.size, 1, none⟩ (.slice (some ⟨g, 0, none⟩) ws.length cap) := ⟨_, rfl⟩
  have hg := (hown.lt g rfl)
  simp only [World.size_alloc] at hg hown
  have hz0 : W0.heap.size = w1.heap.size := by rw [hW0]; simp
  have hba := fun o o' => (((Below.refl w.heap.size w).alloc (Nat.le_refl _) o).alloc (B := w.heap.size) (by simp) o')
  have hb0 : Below w.heap.size w W0 := by rw [hW0]; exact ((hba _ _).trans (hb1.mono (hba _ _).size)).setCell (p := ⟨w.heap.size, 1, none⟩) (Nat.le_refl _) _
  have hc0 : W0.cell? ⟨w.heap.size, 0, none⟩ = some (.int .i64 rooms) := by rw [hW0]; simp [go_sem, q1]
  have hc1 : W0.cell? ⟨w.heap.size, 1, none⟩ = some (.slice (some ⟨g, 0, none⟩) ws.length cap) := by rw [hW0]; exact World.cell?_setCell_same _ _ _ ((q1 w.heap.size 1 (by omega)).trans (show _ = some (Value.slice (some ⟨b, off, none⟩) ws.length c) by simp [go_sem]))
  have hc2 : W0.cell? ⟨w.heap.size + 1, 0, none⟩ = some (.int .i64 0) := by rw [hW0]; simp [go_sem, q1]
  have hc3 : W0.cell? ⟨w.heap.size + 1, 1, none⟩ = some (.slice none 0 0) := by rw [hW0]; simp [go_sem, q1]
  have hf2 : W0.frozen? ⟨w.heap.size + 1, 0, none⟩ = false := by rw [hW0]; simp [go_sem, q2]
  have hf3 : W0.frozen? ⟨w.heap.size + 1, 1, none⟩ = false := by rw [hW0]; simp [go_sem, q2]
  have hown0 : W0.ownsRow (w.heap.size + 1 + 1) 85 4 (.slice (some ⟨g, 0, none⟩) ws.length cap) ws.length (wcells ws) := by rw [hW0]; exact ownsRow_setCell_below hown (by simp; omega) _
  have hd0 := hd.below hb0 (Nat.le_refl _)
  rw [← hW0]
  clear hW0 q1 q2 hb1 hown hw hw1 hd HC
  obtain ⟨hg1, hg2⟩ := hg
  go_loopw [13] (fun i wr => ∃ k : Nat, k ≤ ns.length ∧ i = .int .i64 k ∧ wr.ownsRow (w.heap.size + 1 + 1) 85 4 (.slice (some ⟨g, 0, none⟩) ws.length cap) ws.length (wcells (keptS ws (ns.take k))) ∧ W0.grownBy wr (some g)) (fun i _ => ns.length - (intOf i).toNat)
  case atStart => exact ⟨0, Nat.zero_le _, rfl, by rw [List.take_zero, keptS_nil]; exact hown0, World.grownBy.refl _ _⟩
  case round =>
    obtain ⟨k, hk, rfl, hown, hgr⟩ := hrel
    have hgs := hgr.size
    have hbB : ∀ i, i < g → i < W0.heap.size → ∀ o, wr.cell? ⟨i, o, none⟩ = W0.cell? ⟨i, o, none⟩ := fun i hi hj o => World.cell?_of_block (hgr.block i hj (fun h => by injection h; omega))
    have hfB : ∀ i, i < g → i < W0.heap.size → ∀ o, wr.frozen? ⟨i, o, none⟩ = W0.frozen? ⟨i, o, none⟩ := fun i hi hj o => World.frozen?_of_block (hgr.block i hj (fun h => by injection h; omega))
    have d0 := (hbB w.heap.size (by omega) (by omega) 0).trans hc0
    have d1 := (hbB w.heap.size (by omega) (by omega) 1).trans hc1
    have d2 := (hbB (w.heap.size + 1) (by omega) (by omega) 0).trans hc2
    have d3 := (hbB (w.heap.size + 1) (by omega) (by omega) 1).trans hc3
    have f2 := (hfB (w.heap.size + 1) (by omega) (by omega) 0).trans hf2
    have f3 := (hfB (w.heap.size + 1) (by omega) (by omega) 1).trans hf3
    by_cases hlt : k < ns.length
    · have hx : ns[k]? = some ns[k] := List.getElem?_eq_getElem hlt
      generalize ns[k] = n at hx
      obtain ⟨b', off', rfl, hb', h1⟩ := hd0 k n hx
      have h1' := (hbB b' (by omega) (by omega) (off' + k)).trans h1
      have hwk : (keptS ws (ns.take k))[k]? = some (ws[k]'(by omega)) := by rw [keptS_get_ge _ _ _ (by rw [List.length_take]; omega)]; exact List.getElem?_eq_getElem (by omega)
      have hxk : ws[(ns.take k).length]? = some (ws[k]'(by omega)) := by rw [List.length_take, Nat.min_eq_left (by omega)]; exact List.getElem?_eq_getElem (by omega)
      have hkl : (ns.take k).length = k := by rw [List.length_take]; omega
      have htk : ns.take (k + 1) = ns.take k ++ [n] := by
        obtain ⟨hk', rfl⟩ := List.getElem?_eq_some_iff.1 hx
        exact List.take_succ_eq_append_getElem hk'
      have hsn := keptS_snoc ws (ns.take k) n _ hxk
      rw [hkl] at hsn
      obtain ⟨_, _, g3, g4⟩ := wcells_get _ k _ hwk
      have hset := wcells_set _ k _ n hwk
      have e3 := (hown.cellAt (k * 4 + 2) (by omega)).trans g3
      have e4 := (hown.cellAt (k * 4 + 3) (by omega)).trans g4
      have e5 := hown.frozenAt (k * 4 + 2)
      have e6 := hown.frozenAt (k * 4 + 3)
      have HT := Lib.hid (show keptS ws (ns.take (k + 1)) = (keptS ws (ns.take k)).set k (fixW (ws[k]'(by omega)) n) from by rw [htk, hsn])
      have HS := Lib.hid hset
      have hkw : (k : Int) < (ws.length : Int) := by omega
      clear hx htk hsn hset g3 g4 hbB hfB h1 hd0 hc0 hc1 hc2 hc3 hf2 hf3
      go_wp2
      go_region
      all_goals go_wp2
      go_roundw
      case rel =>
        have s1 := hown.stored (k * 4 + 2) (.int .i64 n)
        have s2 := s1.1.stored (k * 4 + 3) (.int .i64 n)
        refine ⟨k + 1, by omega, by go_num, ?_, ?_⟩
        · rw [HT.out, HS.out]; exact s2.1
        · exact grown_drew (hgr.trans (s1.2.trans s2.2))
      case measure => simp [intOf]; omega
    · have : k = ns.length := by omega
      subst this
      rw [List.take_length] at hown
      have HO := Lib.hid hown
      clear hown hbB hfB hd0 hc0 hc1 hc2 hc3 hf2 hf3
      go_wp2
      have hbn : Below w.heap.size w wr := hb0.grown hgr (by omega) (fun i hi => by injection hi; omega)
      refine bodyPost_ret (v := .agg #[.int .i64 rooms, .slice (some ⟨g, 0, none⟩) ws.length cap]) (by simp [results, Tryd.results130, go_sem, d2, d3]) rfl ⟨g, cap, by rw [keptS_length], ?_, ?_⟩
      · rw [keptS_length]
        exact own_base (ownsRow_setCell_below (ownsRow_setCell_below HO.out (by simp) _) (by simp) _) (by omega)
      · exact (hbn.setCell (p := ⟨w.heap.size + 1, 0, none⟩) (by simp) _).setCell (p := ⟨w.heap.size + 1, 1, none⟩) (by simp) _


theorem valB_kept {rooms : Nat} : ∀ {ws : List Wy} {fl : List Int}, (∀ x ∈ ws, (0 ≤ x.src ∧ x.src < (rooms : Int)) ∧ (0 ≤ x.dst ∧ x.dst < (rooms : Int)) ∧ 0 ≤ x.lo ∧ x.lo ≤ x.hi ∧ x.hi ≤ 99) →
    (∀ (i : Nat) (x : Wy) (f : Int), ws[i]? = some x → fl[i]? = some f → x.lo ≤ f ∧ f ≤ x.hi) →
    ∀ x ∈ keptS ws fl, (0 ≤ x.src ∧ x.src < (rooms : Int)) ∧ (0 ≤ x.dst ∧ x.dst < (rooms : Int)) ∧ 0 ≤ x.lo ∧ x.lo ≤ x.hi ∧ x.hi ≤ 99
  | [], _, _, _, x, hx => by simp [keptS] at hx
  | y :: ws, [], h, _, x, hx => h x hx
  | y :: ws, f :: fl, h, h2, x, hx => by
    simp only [keptS, List.mem_cons] at hx
    rcases hx with rfl | hx
    · obtain ⟨a, b, c, d, e⟩ := h y (by simp)
      obtain ⟨p, q⟩ := h2 0 y f rfl rfl
      unfold fixW
      dsimp only
      exact ⟨a, b, by omega, Int.le_refl _, by omega⟩
    · exact valB_kept (fun z hz => h z (by simp [hz])) (fun i z g hz hg => h2 (i + 1) z g (by simpa using hz) (by simpa using hg)) x hx

theorem ValB.kept {rooms : Nat} {ws : List Wy} {fl : List Int} (hv : ValB rooms ws) (h : ∀ (i : Nat) (x : Wy) (f : Int), ws[i]? = some x → fl[i]? = some f → x.lo ≤ f ∧ f ≤ x.hi) : ValB rooms (keptS ws fl) :=
  ⟨hv.r6, by rw [keptS_length]; exact hv.len, valB_kept hv.way h⟩

theorem own_below {w w' : World} {base : Nat} {e : TypeId} {size : Nat} {v : Value} {n : Nat} {xs : List Value} (h : w.ownsRow base e size v n xs) (hb : Below w.heap.size w w') : w'.ownsRow base e size v n xs :=
  h.kept (row := none) ⟨hb.os, hb.tape, hb.output, hb.size, fun k hk _ => hb.block k hk⟩ (by
    rcases v.ownBlock with _ | g
    · exact .inl rfl
    · exact .inr (by simp))

set_option maxRecDepth 100000 in
set_option maxHeartbeats 2000000 in
theorem first_any (rooms : Nat) (A : Option Addr) (c : Nat) (ws : List Wy) (w : World) (hv : ValB rooms ws) (ha : Agr ws) (hw : WaysAt w w.heap.size A ws) :
    Calls Tryd.prog 124 #[.agg #[.int .i64 rooms, .slice A ws.length c]] w (RetInts w (firstS rooms ws)) := by
  obtain ⟨i0, hi, hz0, hz1, hz2⟩ := info_parts info3
  have hlen := hv.len
  go_enter Tryd.func124, Tryd.ntmps124
  go_wp2_with (at_make; go_must (refine wpList_make_own _ rfl _ _ 47 rfl (w.heap.size + 1) 3 i0 (.int .i64 0) 1 Tryd.underlying47 hi hz0 hz1 .i64 .i64 _ ws.length rfl rfl rfl (by rw [hz2]; omega) (by unfold maxLen; omega) (by simp) ?_); intro w1 hown0 hgrow0; have hba := fun o => ((Below.refl w.heap.size w).alloc (Nat.le_refl _) o); have hb0 := (hba _).grown hgrow0 (by simp) (fun k hk => by cases hk); have hc0 : w1.cell? ⟨w.heap.size, 0, none⟩ = some (.int .i64 rooms) := (World.cell?_of_block (hgrow0.block w.heap.size (by simp) (by simp))).trans (by simp [go_sem]); have hc1 : w1.cell? ⟨w.heap.size, 1, none⟩ = some (.slice A ws.length c) := (World.cell?_of_block (hgrow0.block w.heap.size (by simp) (by simp))).trans (by simp [go_sem]); have hs1 : w.heap.size + 1 ≤ w1.heap.size := (by have := hgrow0.size; simpa using this); have hw1 := hw.below hb0 (Nat.le_refl _); simp only [World.size_alloc] at hown0; clear hgrow0)
  go_loopw [3, 14] (fun v i wr => ∃ k : Nat, k ≤ ws.length ∧ i = .int .i64 k ∧ wr.ownsRow (w.heap.size + 1) 3 1 v k ((firstK rooms ws k).map (Value.int .i64)) ∧ Below (w.heap.size + 1) w1 wr) (fun _ i _ => ws.length - (intOf i).toNat)
  case atStart => exact ⟨0, Nat.zero_le _, rfl, hown0, Below.refl _ _⟩
  case round =>
    obtain ⟨k, hk, rfl, hown, hbw⟩ := hrel
    have hd0 := (hbw.cell (p := ⟨w.heap.size, 0, none⟩) (by simp)).trans hc0
    have hd1 := (hbw.cell (p := ⟨w.heap.size, 1, none⟩) (by simp)).trans hc1
    have hsz := hbw.size
    have hww := (hw1.below (hbw.mono (by omega)) (Nat.le_refl _)).mono (B' := wr.heap.size) (by omega)
    obtain ⟨f1, f2, f3, f4, f5⟩ := firstK_spec hv.inW hv.okW ha k hk
    obtain ⟨A', c', rfl, hA'⟩ := own_ints hown
    rw [f1] at hown
    try rw [f1]
    by_cases hlt : k < ws.length
    · have hx : ws[k]? = some ws[k] := List.getElem?_eq_getElem hlt
      generalize ws[k] = x at hx
      obtain ⟨b, off, rfl, _, _⟩ := hww k x hx
      have HK := Lib.hid (fun W h1 h2 => kept_any rooms b off c c' A' ws (firstK rooms ws k) W (by omega) hlen (by omega) h1 h2)
      have hxk : (keptS ws (firstK rooms ws k))[k]? = some x := by rw [keptS_get_ge _ _ _ (by omega)]; exact hx
      have HS := Lib.hid (fun W g cap h => span_any rooms k (some ⟨g, 0, none⟩) cap (keptS ws (firstK rooms ws k)) x W (hv.kept f5) hxk h)
      have HF := Lib.hid (show firstK rooms ws (k + 1) = firstK rooms ws k ++ [(spanS rooms (keptS ws (firstK rooms ws k)) x).1] by simp only [firstK, hx])
      rw [f1] at HK
      generalize spanS rooms (keptS ws (firstK rooms ws k)) x = P at HS HF
      obtain ⟨P1, P2⟩ := P
      dsimp only at HS HF
      clear hx hxk f1 f2 f3 f4 f5 hw hw1 hown0
      have hwz : w.heap.size < wr.heap.size := by omega
      go_wp2_with (first
        | (go_at_call 130; refine (HK.out _ hww hA').mono ?_; rintro e w2 ⟨g, cap, rfl, hown2, hb2⟩; obtain ⟨q1, q2, q3⟩ := bcell hb2; have hw2 := own_ways hown2)
        | (go_at_call 101; refine (HS.out _ _ _ hw2).mono ?_; rintro e w3 ⟨rfl, hb3⟩; have hb23 := hb2.trans (hb3.mono hb2.size); have hown3 := own_below hown hb23; have hs3 := hb23.size)
        | (at_builtin; go_must (refine wpList_append_own _ rfl _ _ 47 rfl (w.heap.size + 1) 3 i0 (.int .i64 0) 1 8 Tryd.underlying47 hi hz0 hz1 hz2 rfl (by decide) _ _ _ rfl (hown3.alloc _) ⟨w3.heap.size, 0, none⟩ 1 1 [.int .i64 P1] rfl rfl (cells_one _ _ _ _) (fun u hu => by simp at hu; subst hu; rfl) (by unfold maxLen; omega) (by omega) (by simp; omega) ?_); intro v' w4 hown4 hgrow4 _))
      have hbn : Below (w.heap.size + 1) w1 w4 := ((hbw.trans (hb23.mono (by omega))).alloc (by omega) _).grown hgrow4 (by simp; omega) (fun g hg => (hown.lt g hg).1)
      go_wp2
      go_roundw
      case rel => exact ⟨k + 1, by omega, by go_num, by rw [HF.out, List.map_append]; exact hown4, hbn⟩
      case measure => simp [intOf]; omega
    · have : k = ws.length := by omega
      subst this
      have HF1 := Lib.hid f1
      clear hw hw1 hww hown0 f1 f2 f3 f4 f5
      go_wp2
      go_ret
      exact ⟨A', c', ret_val (by show _ = Value.slice A' (firstK rooms ws ws.length).length c'; rw [HF1.out]; rfl), hA', hb0.trans (hbw.mono (by omega))⟩


theorem below_drewN' {B : Nat} {a w : World} (h : Below B a w) (n : Nat) : Below B a (w.drewN n) := ⟨h.os, h.tape, h.output, h.size, h.block⟩

theorem take_ne {α : Type} {a b : List α} {k : Nat} {x y : α} (h1 : a[k]? = some x) (h2 : b[k]? = some y) (hn : x ≠ y) : a ≠ b := by
  rintro rfl; rw [h1] at h2; exact hn (Option.some.inj h2)


/-- Each number is between the bounds of its way. -/
def rngL : List Wy → List Int → Bool
  | x :: ws, f :: fl => decide (x.lo ≤ f ∧ f ≤ x.hi) && rngL ws fl
  | _, _ => true
/-- As many stamps come to each room as go from it. -/
def balS (ws : List Wy) (fl : List Int) : Bool := decide (net 0 ws fl = 0 ∧ net 1 ws fl = 0 ∧ net 2 ws fl = 0 ∧ net 3 ws fl = 0 ∧ net 4 ws fl = 0 ∧ net 5 ws fl = 0)

theorem net_take (r : Int) : ∀ (ws : List Wy) (fl : List Int) (k : Nat) (x : Wy) (f : Int), ws[k]? = some x → fl[k]? = some f →
    net r (ws.take (k + 1)) (fl.take (k + 1)) = net r (ws.take k) (fl.take k) + ((if x.dst = r then f else 0) - (if x.src = r then f else 0))
  | [], _, _, _, _, h, _ => by simp at h
  | _ :: _, [], _, _, _, _, h => by simp at h
  | y :: ws, g :: fl, 0, x, f, h, h2 => by simp at h h2; subst h h2; simp [net]
  | y :: ws, g :: fl, k + 1, x, f, h, h2 => by
    have ih := net_take r ws fl k x f (by simpa using h) (by simpa using h2)
    simp only [List.take_succ_cons, net] at ih ⊢
    rw [ih]; omega

theorem net_bound (r : Int) : ∀ (ws : List Wy) (fl : List Int), (∀ f ∈ fl, 0 ≤ f ∧ f ≤ 99) → -(99 * (ws.length : Int)) ≤ net r ws fl ∧ net r ws fl ≤ 99 * (ws.length : Int)
  | [], _, _ => by simp [net]
  | _ :: ws, [], _ => by simp [net]; omega
  | x :: ws, f :: fl, h => by
    have ih := net_bound r ws fl (fun g hg => h g (by simp [hg]))
    have := h f (by simp)
    simp only [net, List.length_cons]
    split <;> split <;> omega


theorem under112 : Tryd.prog.underlying 187 = some (.array 6 3) := Tryd.underlying187
theorem cells3 : Tryd.prog.cellsOf 3 = 1 := by kernel_rfl
theorem plain3 : Tryd.prog.plainKey 3 = true := by kernel_rfl

theorem item_step (w : World) (xs ys : Array Value) (i : Nat) (is : List Nat) (a b : Int) (h1 : xs[i]? = some (.int .i64 a)) (h2 : ys[i]? = some (.int .i64 b)) :
    (Op.eqItems 9999 3 1 xs ys (i :: is)).run Tryd.prog w = if a = b then (Op.eqItems 9999 3 1 xs ys is).run Tryd.prog w else .ok false w := by
  have p1 := run_part_plain w plain3 h1
  have p2 := run_part_plain w plain3 h2
  have e := run_equalIn_int w 9998 3 .i64 .i64 a b Tryd.underlying3
  simp only [Op.eqItems, Nat.mul_one, Sem.run_bind, p1, p2, e, Result.andThen_ok]
  by_cases h : a = b <;> simp [h]

theorem eq6 (w : World) (m0 m1 m2 m3 m4 m5 : Int) : (Op.equalIn 10000 187 (.agg #[.int .i64 m0, .int .i64 m1, .int .i64 m2, .int .i64 m3, .int .i64 m4, .int .i64 m5]) (.agg #[.int .i64 0, .int .i64 0, .int .i64 0, .int .i64 0, .int .i64 0, .int .i64 0])).run Tryd.prog w =
    .ok (decide (m0 = 0 ∧ m1 = 0 ∧ m2 = 0 ∧ m3 = 0 ∧ m4 = 0 ∧ m5 = 0)) w := by
  obtain ⟨i, hi, _, _, _⟩ := info_parts info3
  rw [run_equalIn_array w 9999 _ _ under112 hi, cells3, show List.range 6 = [0, 1, 2, 3, 4, 5] from rfl,
    item_step w _ _ 0 _ m0 0 rfl rfl, item_step w _ _ 1 _ m1 0 rfl rfl, item_step w _ _ 2 _ m2 0 rfl rfl, item_step w _ _ 3 _ m3 0 rfl rfl, item_step w _ _ 4 _ m4 0 rfl rfl, item_step w _ _ 5 _ m5 0 rfl rfl]
  by_cases h0 : m0 = 0 <;> by_cases h1 : m1 = 0 <;> by_cases h2 : m2 = 0 <;> by_cases h3 : m3 = 0 <;> by_cases h4 : m4 = 0 <;> by_cases h5 : m5 = 0 <;> simp [h0, h1, h2, h3, h4, h5, Op.eqItems]

theorem grown_alloc {a w : World} {row : Option Nat} (h : a.grownBy w row) (o : Obj) : a.grownBy (w.alloc o) row :=
  ⟨h.os, h.tape, h.output, Nat.le_trans h.size (by simp), fun i hi hne => (Below.heap_alloc w o i (Nat.lt_of_lt_of_le hi h.size)).trans (h.block i hi hne)⟩
theorem grown_setCell {a w : World} {g : Nat} (h : a.grownBy w (some g)) {p : Addr} (hp : p.block = g) (u : Value) : a.grownBy (w.setCell p u) (some g) :=
  ⟨h.os, h.tape, h.output, by simpa [World.setCell] using h.size, fun i hi hne => (Below.heap_setCell w p u i (by rintro rfl; exact hne (by rw [hp]))).trans (h.block i hi hne)⟩

set_option maxRecDepth 100000 in
set_option maxHeartbeats 2000000 in
theorem balanced_any (rooms : Nat) (A D : Option Addr) (c d : Nat) (ws : List Wy) (fl : List Int) (w : World) (hv : ValB rooms ws) (hne : ∀ x ∈ ws, x.src ≠ x.dst) (hl : fl.length = ws.length) (hf : ∀ f ∈ fl, 0 ≤ f ∧ f ≤ 99)
    (hw : WaysAt w w.heap.size A ws) (hd : IntsAt w w.heap.size D fl) :
    Calls Tryd.prog 103 #[.agg #[.int .i64 rooms, .slice A ws.length c], .slice D fl.length d] w fun e w' => e = .returned (.bool (balS ws fl)) ∧ Below w.heap.size w w' := by
  have hlen := hv.len
  have hr6 := hv.r6
  go_enter Tryd.func103, Tryd.ntmps103
  go_wp2
  obtain ⟨W0, hW0⟩ : ∃ W0, W0 = (w.alloc (.cells #[.int .i64 rooms, .slice A ws.length c] 88)).alloc (.cells #[.int .i64 0, .int .i64 0, .int .i64 0, .int .i64 0, .int .i64 0, .int .i64 0] 187) := ⟨_, rfl⟩
  have hz0 : W0.heap.size = w.heap.size + 1 + 1 := by rw [hW0]; simp
  have hb0 : Below w.heap.size w W0 := by rw [hW0]; exact ((Below.refl w.heap.size w).alloc (Nat.le_refl _) _).alloc (by simp) _
  have hc0 : W0.cell? ⟨w.heap.size, 0, none⟩ = some (.int .i64 rooms) := by rw [hW0]; simp [go_sem]
  have hc1 : W0.cell? ⟨w.heap.size, 1, none⟩ = some (.slice A ws.length c) := by rw [hW0]; simp [go_sem]
  have hf0 : ∀ r : Nat, r < 6 → W0.frozen? ⟨w.heap.size + 1, r, none⟩ = false := by intro r _; rw [hW0]; simp [go_sem]
  have ha0 : ∀ r : Nat, r < 6 → W0.cell? ⟨w.heap.size + 1, r, none⟩ = some (.int .i64 0) := by
    intro r hr; rw [hW0]
    match r, hr with
    | 0, _ | 1, _ | 2, _ | 3, _ | 4, _ | 5, _ => simp [go_sem]
  have hw0 := hw.below hb0 (Nat.le_refl _)
  have hd0 := hd.below hb0 (Nat.le_refl _)
  rw [← hW0]
  clear hW0 hw hd
  go_loopw [11] (fun i wr => ∃ k : Nat, k ≤ ws.length ∧ i = .int .i64 k ∧ (∀ r : Nat, r < 6 → wr.cell? ⟨w.heap.size + 1, r, none⟩ = some (.int .i64 (net r (ws.take k) (fl.take k)))) ∧ W0.grownBy wr (some (w.heap.size + 1)) ∧ (∀ r : Nat, r < 6 → wr.frozen? ⟨w.heap.size + 1, r, none⟩ = false)) (fun i _ => ws.length - (intOf i).toNat)
  case atStart => exact ⟨0, Nat.zero_le _, rfl, fun r hr => by rw [ha0 r hr]; rfl, World.grownBy.refl _ _, hf0⟩
  case round =>
    obtain ⟨k, hk, rfl, hcs, hgr, hfs⟩ := hrel
    have hgs := hgr.size
    have hbB : ∀ i, i < w.heap.size + 1 → ∀ o, wr.cell? ⟨i, o, none⟩ = W0.cell? ⟨i, o, none⟩ := fun i hi o => World.cell?_of_block (hgr.block i (by omega) (fun h => by injection h; omega))
    have d0 := (hbB w.heap.size (by omega) 0).trans hc0
    have d1 := (hbB w.heap.size (by omega) 1).trans hc1
    have hsz : w.heap.size + 1 < wr.heap.size := by omega
    by_cases hlt : k < ws.length
    · have hx : ws[k]? = some ws[k] := List.getElem?_eq_getElem hlt
      have hy : fl[k]? = some (fl[k]'(by omega)) := List.getElem?_eq_getElem (by omega)
      generalize ws[k] = x at hx
      generalize fl[k]'(by omega) = f at hy
      obtain ⟨b1, o1, rfl, hb1, h1, h2, h3, h4⟩ := hw0 k x hx
      obtain ⟨b2, o2, rfl, hb2, h5⟩ := hd0 k f hy
      have h1' := (hbB b1 (by omega) _).trans h1
      have h2' := (hbB b1 (by omega) _).trans h2
      have h3' := (hbB b1 (by omega) _).trans h3
      have h4' := (hbB b1 (by omega) _).trans h4
      have h5' := (hbB b2 (by omega) _).trans h5
      obtain ⟨⟨x1, x2⟩, ⟨x3, x4⟩, _⟩ := hv.way x (mem_of_get hx)
      have hsd := hne x (mem_of_get hx)
      obtain ⟨y1, y2⟩ := hf f (mem_of_get hy)
      have x2' : x.src < 6 := by omega
      have hb2' : b2 < wr.heap.size := by omega
      have hb1' : b1 < wr.heap.size := by omega
      have x4' : x.dst < 6 := by omega
      have nb := fun r => net_bound r (ws.take k) (fl.take k) (fun g hg => hf g (List.mem_of_mem_take hg))
      have hl12 : (ws.take k).length ≤ 12 := by rw [List.length_take]; omega
      have n1 := nb x.src
      have n2 := nb x.dst
      have c1 := hcs x.src.toNat (by omega)
      have c2 := hcs x.dst.toNat (by omega)
      rw [Int.toNat_of_nonneg x1] at c1
      rw [Int.toNat_of_nonneg x3] at c2
      have e1 := hfs x.src.toNat (by omega)
      have e2 := hfs x.dst.toNat (by omega)
      have hki : (k : Int) < (fl.length : Int) := by omega
      have hnn : ¬ x.src.toNat = x.dst.toNat := by omega
      have NT := fun r => Lib.hid (net_take r ws fl k x f hx hy)
      have HCS := Lib.hid hcs
      have HFS := Lib.hid hfs
      generalize hn1 : net x.src (ws.take k) (fl.take k) = m1 at c1 n1
      generalize hn2 : net x.dst (ws.take k) (fl.take k) = m2 at c2 n2
      have m1b : -1188 ≤ m1 ∧ m1 ≤ 1188 := by omega
      have m2b : -1188 ≤ m2 ∧ m2 ≤ 1188 := by omega
      have HN1 := Lib.hid hn1
      have HN2 := Lib.hid hn2
      clear hx hy hn1 hn2 nb n1 n2 hl12 hbB hcs hfs hw0 hd0 h1 h2 h3 h4 h5 hc0 hc1 ha0 hf0 hz0
      go_wp2
      go_region
      go_wp2
      go_region
      go_wp2
      go_roundw
      case rel =>
        refine ⟨k + 1, by omega, by go_num, fun r hr => ?_, ?_, fun r hr => ?_⟩
        · rw [(NT r).out]
          by_cases t1 : r = x.dst.toNat
          · subst t1
            rw [Int.toNat_of_nonneg x3, HN2.out, if_pos rfl, if_neg hsd, Int.sub_zero]
            simp [go_sem, c2, hsz]
          · rw [if_neg (by omega : ¬ x.dst = (r : Int))]
            by_cases t2 : r = x.src.toNat
            · subst t2
              rw [Int.toNat_of_nonneg x1, HN1.out, if_pos rfl, show m1 + (0 - f) = m1 - f by omega]
              simp [go_sem, c1, hsz]
            · rw [if_neg (by omega : ¬ x.src = (r : Int)), Int.sub_self, Int.add_zero]
              simp [go_sem, hsz, HCS.out r hr]
        · exact grown_drew (grown_drew (grown_alloc (grown_setCell (grown_setCell hgr rfl _) rfl _) _))
        · simp [go_sem, hsz, HFS.out r hr]
      case measure => simp [intOf]; omega
    · have : k = ws.length := by omega
      subst this
      rw [List.take_length, ← hl, List.take_length] at hcs
      have hbn : Below w.heap.size w wr := hb0.grown hgr (by omega) (fun i hi => by injection hi; omega)
      have c0 := hcs 0 (by omega)
      have c1 := hcs 1 (by omega)
      have c2 := hcs 2 (by omega)
      have c3 := hcs 3 (by omega)
      have c4 := hcs 4 (by omega)
      have c5 := hcs 5 (by omega)
      simp only [Int.cast_ofNat_Int] at c0 c1 c2 c3 c4 c5
      generalize hm0 : net 0 ws fl = m0 at c0
      generalize hm1 : net 1 ws fl = m1 at c1
      generalize hm2 : net 2 ws fl = m2 at c2
      generalize hm3 : net 3 ws fl = m3 at c3
      generalize hm4 : net 4 ws fl = m4 at c4
      generalize hm5 : net 5 ws fl = m5 at c5
      have HB := Lib.hid (show balS ws fl = decide (m0 = 0 ∧ m1 = 0 ∧ m2 = 0 ∧ m3 = 0 ∧ m4 = 0 ∧ m5 = 0) by unfold balS; rw [hm0, hm1, hm2, hm3, hm4, hm5])
      clear hcs hfs hbB ha0 hf0 hw0 hd0 hc0 hc1 hm0 hm1 hm2 hm3 hm4 hm5
      have h6 := fun W => eq6 W m0 m1 m2 m3 m4 m5
      generalize decide (m0 = 0 ∧ m1 = 0 ∧ m2 = 0 ∧ m3 = 0 ∧ m4 = 0 ∧ m5 = 0) = R at HB h6
      go_wp2
      go_ret
      exact ⟨by rw [HB.out]; rfl, hbn⟩


theorem rngL_step : ∀ {ws : List Wy} {fl : List Int} {k : Nat} {x : Wy} {f : Int}, ws[k]? = some x → fl[k]? = some f → rngL (ws.take k) (fl.take k) = true → x.lo ≤ f → f ≤ x.hi → rngL (ws.take (k + 1)) (fl.take (k + 1)) = true
  | [], _, _, _, _, h, _, _, _, _ => by simp at h
  | _ :: _, [], _, _, _, _, h, _, _, _ => by simp at h
  | y :: ws, g :: fl, 0, x, f, h, h2, _, h3, h4 => by
    simp at h h2; subst h h2; simp [rngL, h3, h4]
  | y :: ws, g :: fl, k + 1, x, f, h, h2, h5, h3, h4 => by
    simp only [List.take_succ_cons, rngL, Bool.and_eq_true] at h5 ⊢
    exact ⟨h5.1, rngL_step (by simpa using h) (by simpa using h2) h5.2 h3 h4⟩
theorem rngL_get : ∀ {ws : List Wy} {fl : List Int}, rngL ws fl = true → ∀ (k : Nat) (x : Wy) (f : Int), ws[k]? = some x → fl[k]? = some f → x.lo ≤ f ∧ f ≤ x.hi
  | [], _, _, _, _, _, h, _ => by simp at h
  | _ :: _, [], _, _, _, _, _, h => by simp at h
  | y :: ws, g :: fl, h, 0, x, f, h1, h2 => by
    simp at h1 h2; subst h1 h2
    simp only [rngL, Bool.and_eq_true, decide_eq_true_eq] at h; exact h.1
  | y :: ws, g :: fl, h, k + 1, x, f, h1, h2 => by
    simp only [rngL, Bool.and_eq_true] at h
    exact rngL_get h.2 k x f (by simpa using h1) (by simpa using h2)

/-- The error of a list of as many numbers as ways. -/
def verT (ws : List Wy) (fl : List Int) : Int := if rngL ws fl then (if balS ws fl then 0 else 17) else 1

theorem verT_bad {ws : List Wy} {fl : List Int} (h : ¬ rngL ws fl = true) : verT ws fl = 1 := by unfold verT; rw [if_neg h]
theorem verT_good {ws : List Wy} {fl : List Int} (h : rngL ws fl = true) : verT ws fl = if balS ws fl then 0 else 17 := by unfold verT; rw [if_pos h]

/-- The error of a flow. -/
def verS (R : Int) (ws : List Wy) (fl : List Int) : Int :=
  if chk R ws = 0 then (if fl.length = ws.length then verT ws fl else 5) else chk R ws

set_option maxHeartbeats 2000000 in
theorem verify_any (R : Int) (A D : Option Addr) (c d : Nat) (ws : List Wy) (fl : List Int) (w : World) (hw : WaysAt w w.heap.size A ws) (hd : IntsAt w w.heap.size D fl) :
    Calls Tryd.prog 62 #[.agg #[.int .i64 R, .slice A ws.length c], .slice D fl.length d] w fun e w' => e = .returned (.int .i64 (verS R ws fl)) ∧ Below w.heap.size w w' := by
  have HC := Lib.hid (fun W hW => check_any R A c ws W hW)
  have hw1 := fun o => (hw.alloc (Nat.le_refl _) o).mono (B' := (w.alloc o).heap.size) (by simp)
  unfold verS
  by_cases h0 : chk R ws = 0
  rotate_left
  · rw [if_neg h0]
    generalize chk R ws = v at h0 HC ⊢
    go_enter Tryd.func62, Tryd.ntmps62
    go_wp2_with (go_at_call 102; refine (HC.out _ (hw1 _)).mono ?_; rintro e w1 ⟨rfl, hb1⟩; obtain ⟨q1, q2, q3⟩ := bcell hb1; simp only [World.size_alloc] at q1 q2 q3)
    go_ret
    exact ⟨rfl, ((Below.refl _ _).alloc (Nat.le_refl _) _).trans (hb1.mono (by simp))⟩
  obtain ⟨rooms, rfl, _, hv, hne⟩ := chk_ok h0
  rw [if_pos h0]
  rw [h0] at HC
  have hlen := hv.len
  clear h0
  by_cases hl : fl.length = ws.length
  rotate_left
  · rw [if_neg hl]
    have hl' : ((fl.length : Int) != (ws.length : Int)) = true := by simpa using (by omega : ¬ (fl.length : Int) = ws.length)
    go_enter Tryd.func62, Tryd.ntmps62
    go_wp2_with (go_at_call 102; refine (HC.out _ (hw1 _)).mono ?_; rintro e w1 ⟨rfl, hb1⟩; obtain ⟨q1, q2, q3⟩ := bcell hb1; simp only [World.size_alloc] at q1 q2 q3)
    go_ret
    exact ⟨rfl, ((Below.refl _ _).alloc (Nat.le_refl _) _).trans (hb1.mono (by simp))⟩
  rw [if_pos hl]
  have hl' : ((fl.length : Int) != (ws.length : Int)) = false := by simpa using (by omega : (fl.length : Int) = ws.length)
  have HL := Lib.hid hl
  clear hl
  go_enter Tryd.func62, Tryd.ntmps62
  go_wp2_with (go_at_call 102; refine (HC.out _ (hw1 _)).mono ?_; rintro e w1 ⟨rfl, hb1⟩; obtain ⟨q1, q2, q3⟩ := bcell hb1; simp only [World.size_alloc] at q1 q2 q3)
  have hb0 : Below w.heap.size w w1 := ((Below.refl _ _).alloc (Nat.le_refl _) _).trans (hb1.mono (by simp))
  have hc0 : w1.cell? ⟨w.heap.size, 0, none⟩ = some (.int .i64 rooms) := by rw [q1 _ _ (by omega)]; simp [go_sem]
  have hc1 : w1.cell? ⟨w.heap.size, 1, none⟩ = some (.slice A ws.length c) := by rw [q1 _ _ (by omega)]; simp [go_sem]
  have hw0 := hw.below hb0 (Nat.le_refl _)
  have hd0 := hd.below hb0 (Nat.le_refl _)
  clear hl' q1 q2 hb1 hw hd hw1 HC
  go_loopw [22] (fun i wr => ∃ k : Nat, k ≤ ws.length ∧ i = .int .i64 k ∧ Hid (rngL (ws.take k) (fl.take k) = true) ∧ Below w1.heap.size w1 wr) (fun i _ => ws.length - (intOf i).toNat)
  case atStart => exact ⟨0, Nat.zero_le _, rfl, Lib.hid rfl, Below.refl _ _⟩
  case round =>
    obtain ⟨k, hk, rfl, HK, hbw⟩ := hrel
    have hd0' := (hbw.cell (p := ⟨w.heap.size, 0, none⟩) (by simp; omega)).trans hc0
    have hd1' := (hbw.cell (p := ⟨w.heap.size, 1, none⟩) (by simp; omega)).trans hc1
    have hsz : w.heap.size < wr.heap.size := by have := hbw.size; omega
    have hww := hw0.below hbw (by omega)
    have hdd := hd0.below hbw (by omega)
    by_cases hlt : k < ws.length
    · have hx : ws[k]? = some ws[k] := List.getElem?_eq_getElem hlt
      have hlf : k < fl.length := by have := HL.out; omega
      have hy : fl[k]? = some fl[k] := List.getElem?_eq_getElem hlf
      generalize ws[k] = x at hx
      generalize fl[k] = f at hy
      obtain ⟨b1, o1, rfl, hb1, h1, h2, h3, h4⟩ := hww k x hx
      obtain ⟨b2, o2, rfl, hb2, h5⟩ := hdd k f hy
      have hb2' : b2 < wr.heap.size := by omega
      have hki : (k : Int) < (fl.length : Int) := by omega
      have hk0 : (0 : Int) ≤ (k : Int) := by omega
      have HG := Lib.hid (fun h => rngL_get (ws := ws) (fl := fl) h k x f hx hy)
      have HS := Lib.hid (fun a b => rngL_step hx hy HK.out a b)
      clear hx hy hw0 hd0 hww hdd
      rcases Int.lt_or_le f x.lo with a1 | a1
      · go_wp2
        go_quiet (fail)
        go_wp2
        go_ret
        refine ⟨ret_eq ?_, hb0.trans (below_drewN' ((hbw.mono (by omega)).alloc (by omega) _) _)⟩
        rw [verT_bad (fun h => by have := (HG.out h).1; omega)]
      · rcases Int.lt_or_le x.hi f with a2 | a2
        · have a1' : decide (f < x.lo) = false := decide_eq_false (by omega)
          go_wp2
          go_quiet (fail)
          go_wp2
          go_ret
          refine ⟨ret_eq ?_, hb0.trans (below_drewN' ((hbw.mono (by omega)).alloc (by omega) _) _)⟩
          rw [verT_bad (fun h => by have := (HG.out h).2; omega)]
        · have HT := Lib.hid (HS.out a1 a2)
          have a1' : decide (f < x.lo) = false := decide_eq_false (by omega)
          have a2' : decide (x.hi < f) = false := decide_eq_false (by omega)
          go_wp2
          go_quiet (fail)
          go_wp2
          go_roundw
          case rel => exact ⟨k + 1, by omega, by go_num, HT, below_drewN' (hbw.alloc hbw.size _) _⟩
          case measure => simp [intOf]; omega
    · have : k = ws.length := by omega
      subst this
      have hr : rngL ws fl = true := by have h1 := HK.out; have h2 := HL.out; rw [List.take_length, ← h2, List.take_length] at h1; exact h1
      have HB := Lib.hid (fun W h1 h2 => balanced_any rooms A D c d ws fl W hv hne HL.out (fun f hf => by
        obtain ⟨i, hi, rfl⟩ := List.getElem_of_mem hf
        have hiw : i < ws.length := by have := HL.out; omega
        have h3 := rngL_get hr i ws[i] fl[i] (List.getElem?_eq_getElem hiw) (List.getElem?_eq_getElem hi)
        obtain ⟨_, _, h4, h5, h6⟩ := hv.way ws[i] (List.getElem_mem hiw)
        omega) h1 h2)
      have HR := Lib.hid hr
      have hw2 := hww.mono (B' := wr.heap.size) (by omega)
      have hd2 := hdd.mono (B' := wr.heap.size) (by omega)
      generalize hbv : balS ws fl = bv at HB
      have HBV := Lib.hid hbv
      clear hr HK hww hdd hw0 hd0 hbv
      rcases bv with _ | _
      all_goals
        go_wp2_with (go_at_call 103; refine (HB.out _ hw2 hd2).mono ?_; rintro e w3 ⟨rfl, hb3⟩)
        go_ret
        exact ⟨ret_eq (by rw [verT_good HR.out, HBV.out]; rfl), hb0.trans ((hbw.mono (by omega)).trans (hb3.mono (by omega)))⟩

end Go.Proofs.YtlollcabnfncpaaDoor.Stp
