/-
  The walk of the second flow.
-/
import Derived.Test.YtcebihijnedekaaDoorWalkQ
import Derived.Test.YtcebihijnedekaaDoorMathB
import Derived.Deep.RegionHeld3
import Derived.Deep.DeepCutAuto
namespace Go.Proofs.YtcebihijnedekaaDoor
open Go.RowKit

/-- The books in which the first ways keep their numbers, and the next one has a greater one. -/
def moreW (ws : List Wy) (fl : List Int) (i : Nat) (x : Wy) (f : Int) : List Wy := (keptS ws (fl.take i)).set i { x with lo := f + 1 }

theorem moreW_len (ws : List Wy) (fl : List Int) (i : Nat) (x : Wy) (f : Int) : (moreW ws fl i x f).length = ws.length := by unfold moreW; rw [List.length_set, keptS_length]

theorem wcells_lo : ∀ (ws : List Wy) (k : Nat) (x : Wy) (n : Int), ws[k]? = some x → wcells (ws.set k { x with lo := n }) = (wcells ws).set (k * 4 + 2) (.int .i64 n)
  | [], _, _, _, h => by simp at h
  | y :: ws, 0, x, n, h => by simp at h; subst h; simp [wcells]
  | y :: ws, k + 1, x, n, h => by
    have ih := wcells_lo ws k x n (by simpa using h)
    rw [show (k + 1) * 4 + 2 = (k * 4 + 2) + 1 + 1 + 1 + 1 by omega]
    simp only [List.set_cons_succ, wcells, ih]

theorem moreW_val {rooms : Nat} {ws : List Wy} {fl : List Int} {i : Nat} {x : Wy} {f : Int} (hv : ValB rooms ws) (hr : ∀ (k : Nat) (y : Wy) (g : Int), ws[k]? = some y → fl[k]? = some g → y.lo ≤ g ∧ g ≤ y.hi) (hx : ws[i]? = some x) (hf : fl[i]? = some f) (h : f < x.hi) :
    ValB rooms (moreW ws fl i x f) := by
  have hk : ValB rooms (keptS ws (fl.take i)) := hv.kept fun k y g hy hg => by
    rw [List.getElem?_take] at hg
    split at hg
    · exact hr k y g hy hg
    · cases hg
  refine ⟨hv.r6, by rw [moreW_len]; exact hv.len, fun y hy => ?_⟩
  unfold moreW at hy
  rcases List.mem_or_eq_of_mem_set hy with hy | rfl
  · exact hk.way y hy
  · obtain ⟨a, b, c, d, e⟩ := hv.way x (mem_of_get hx)
    have := hr i x f hx hf
    exact ⟨a, b, by dsimp only; omega, by dsimp only; omega, e⟩

/-- The second flow, looked for from way i - 1 down. -/
def secK (rooms : Nat) (ws : List Wy) (fl : List Int) : Nat → Option (List Int)
  | 0 => none
  | i + 1 =>
    match ws[i]?, fl[i]? with
    | some x, some f => if f < x.hi ∧ agrS rooms (moreW ws fl i x f) = true then some (firstS rooms (moreW ws fl i x f)) else secK rooms ws fl i
    | _, _ => secK rooms ws fl i

/-- What second hands back. -/
def RetSec (w : World) (r : Option (List Int)) (e : Ending) (w' : World) : Prop :=
  (∃ l A c, r = some l ∧ e = .returned (.tuple #[.slice A l.length c, .bool true]) ∧ IntsAt w' w'.heap.size A l ∧ Below w.heap.size w w') ∨
  (r = none ∧ e = .returned (.tuple #[.slice none 0 0, .bool false]) ∧ Below w.heap.size w w')

set_option maxRecDepth 100000 in
set_option maxHeartbeats 2000000 in
theorem second_any (rooms c d : Nat) (A D : Option Addr) (ws : List Wy) (fl : List Int) (w : World) (hv : ValB rooms ws) (hl : fl.length = ws.length) (hcap : fl.length ≤ d)
    (hr : ∀ (k : Nat) (y : Wy) (g : Int), ws[k]? = some y → fl[k]? = some g → y.lo ≤ g ∧ g ≤ y.hi) (hw : WaysAt w w.heap.size A ws) (hd : IntsAt w w.heap.size D fl) (ht : SizesAt w) :
    Calls Tryd.prog 64 #[.agg #[.int .i64 rooms, .slice A ws.length c], .slice D fl.length d] w (RetSec w (secK rooms ws fl ws.length)) := by
  have hlen := hv.len
  have hl12 : fl.length ≤ 12 := by omega
  have HLE := Lib.hid hl
  clear hl
  go_enter Tryd.func64, Tryd.ntmps64
  go_wp2
  obtain ⟨W0, hW0⟩ : ∃ W0, W0 = w.alloc (.cells #[.int .i64 rooms, .slice A ws.length c] 24) := ⟨_, rfl⟩
  have hz0 : W0.heap.size = w.heap.size + 1 := by rw [hW0]; simp
  have hb0 : Below w.heap.size w W0 := by rw [hW0]; exact (Below.refl _ _).alloc (Nat.le_refl _) _
  have hc0 : W0.cell? ⟨w.heap.size, 0, none⟩ = some (.int .i64 rooms) := by rw [hW0]; simp [go_sem]
  have hc1 : W0.cell? ⟨w.heap.size, 1, none⟩ = some (.slice A ws.length c) := by rw [hW0]; simp [go_sem]
  have hw0 := hw.below hb0 (Nat.le_refl _)
  have hd0 := hd.below hb0 (Nat.le_refl _)
  have ht0 := ht.below hb0
  rw [← hW0]
  clear hW0 hw hd ht
  go_loopw [6] (fun i wr => ∃ j : Nat, j ≤ ws.length ∧ i = .int .i64 ((j : Int) - 1) ∧ Hid (secK rooms ws fl j = secK rooms ws fl ws.length) ∧ Below W0.heap.size W0 wr) (fun i _ => (intOf i + 1).toNat)
  case atStart => exact ⟨ws.length, Nat.le_refl _, by rw [HLE.out], Lib.hid rfl, Below.refl _ _⟩
  case round =>
    obtain ⟨j, hj, rfl, HK, hbw⟩ := hrel
    have hd0' := (hbw.cell (p := ⟨w.heap.size, 0, none⟩) (by simp; omega)).trans hc0
    have hd1' := (hbw.cell (p := ⟨w.heap.size, 1, none⟩) (by simp; omega)).trans hc1
    have hsz : w.heap.size < wr.heap.size := by have := hbw.size; omega
    have hww := (hw0.below hbw (by omega)).mono (B' := wr.heap.size) (by omega)
    have hdd := (hd0.below hbw (by omega)).mono (B' := wr.heap.size) (by omega)
    have htt := ht0.below hbw
    rcases j with _ | i
    · go_wp2
      go_ret2
      exact .inr ⟨by rw [← HK.out]; rfl, rfl, hb0.trans (hbw.mono (by omega))⟩
    · have hx : ws[i]? = some (ws[i]'(by omega)) := List.getElem?_eq_getElem (by omega)
      have hy : fl[i]? = some (fl[i]'(by have := HLE.out; omega))  := List.getElem?_eq_getElem (by have := HLE.out; omega)
      generalize ws[i]'(by omega) = x at hx
      generalize fl[i]'(by have := HLE.out; omega) = f at hy
      obtain ⟨b, off, rfl, hbz, h1, h2, h3, h4⟩ := hww i x hx
      obtain ⟨b2, o2, rfl, hb2, h5⟩ := hdd i f hy
      have HKP := Lib.hid (fun W hW hD => kept_any rooms b off c d (some ⟨b2, o2, none⟩) ws (fl.take i) W (by omega) hlen (by rw [List.length_take]; omega) hW hD)
      have hifl : i < fl.length := by have := HLE.out; omega
      have hti : (fl.take i).length = i := by rw [List.length_take]; omega
      rw [hti] at HKP
      have hdt : IntsAt wr wr.heap.size (some ⟨b2, o2, none⟩) (fl.take i) := fun k y hk => by
        rw [List.getElem?_take] at hk
        split at hk
        · exact hdd k y hk
        · cases hk
      have hcast : (((i + 1 : Nat) : Int) - 1) = (i : Int) := by omega
      rw [hcast]
      have hi0 : (0 : Int) ≤ (i : Int) := by omega
      have hid : (i : Int) ≤ (d : Int) := by omega
      have hil : (i : Int) < (fl.length : Int) := by omega
      have hiw : (i : Int) < (ws.length : Int) := by omega
      clear hti hw0 hd0 ht0 hcast
      go_upto_region 4 with fail
      go_cut [7] (fun s7 wx => ∃ g7 g cap : Nat, s7 = .pointer (some ⟨g7, 0, none⟩) ∧ wr.heap.size ≤ g7 ∧ g7 < wx.heap.size ∧ wr.heap.size ≤ g ∧ g7 ≠ g ∧ wx.cell? ⟨g7, 0, none⟩ = some (.int .i64 rooms) ∧ wx.cell? ⟨g7, 1, none⟩ = some (.slice (some ⟨g, 0, none⟩) (keptS ws (fl.take i)).length cap) ∧
        wx.ownsRow wr.heap.size 74 4 (.slice (some ⟨g, 0, none⟩) (keptS ws (fl.take i)).length cap) (keptS ws (fl.take i)).length (wcells (keptS ws (fl.take i))) ∧ Below wr.heap.size wr wx)
      case first =>
        go_region_with ((go_at_call 86; refine (HKP.out _ (by first | exact hww | exact (hww.alloc (Nat.le_refl _) _).mono (by simp)) (by first | exact hdt | exact (hdt.alloc (Nat.le_refl _) _).mono (by simp))).mono ?_; rintro e w2 ⟨g, cap, rfl, hown, hb2'⟩; obtain ⟨q1, q2, q3⟩ := bcell hb2'; try simp only [World.size_alloc] at q1 q2 q3))
        all_goals
          have hg := hown.lt g rfl
          try simp at hg
          go_wp2_with fail
          go_meet
        · exact ⟨w2.heap.size, g, cap, rfl, q3, by simp, hg.1, by omega, by simp [go_sem], by simp [go_sem], hown.alloc _, (((Below.refl _ _).drew).trans hb2').alloc q3 _⟩
        · have z0 : w2.cell? ⟨wr.heap.size, 0, none⟩ = some (.int .i64 0) := (q1 _ _ (by simp)).trans (by simp [go_sem])
          have z1 : w2.cell? ⟨wr.heap.size, 1, none⟩ = some (.slice none 0 0) := (q1 _ _ (by simp)).trans (by simp [go_sem])
          refine ⟨wr.heap.size, g, cap, rfl, Nat.le_refl _, by simp; omega, by omega, by omega, by simp [go_sem, z0], by simp [go_sem, z1], own_base (ownsRow_setCell_below (ownsRow_setCell_below hown (by simp) _) (by simp) _) (by simp), ?_⟩
          exact (((((Below.refl wr.heap.size wr).alloc (Nat.le_refl _) _).drew.trans (hb2'.mono (by simp))).setCell (p := ⟨wr.heap.size, 0, none⟩) (Nat.le_refl _) _).setCell (p := ⟨wr.heap.size, 1, none⟩) (Nat.le_refl _) _)
        · have z0 : w2.cell? ⟨wr.heap.size, 0, none⟩ = some (.int .i64 0) := (q1 _ _ (by simp)).trans (by simp [go_sem])
          have z1 : w2.cell? ⟨wr.heap.size, 1, none⟩ = some (.slice none 0 0) := (q1 _ _ (by simp)).trans (by simp [go_sem])
          refine ⟨wr.heap.size, g, cap, rfl, Nat.le_refl _, by simp; omega, by omega, by omega, by simp [go_sem, z0], by simp [go_sem, z1], own_base (ownsRow_setCell_below (ownsRow_setCell_below hown (by simp) _) (by simp) _) (by simp), ?_⟩
          exact (((((Below.refl wr.heap.size wr).alloc (Nat.le_refl _) _).drew.trans (hb2'.mono (by simp))).setCell (p := ⟨wr.heap.size, 0, none⟩) (Nat.le_refl _) _).setCell (p := ⟨wr.heap.size, 1, none⟩) (Nat.le_refl _) _)
      case rest =>
        obtain ⟨g7, g, cap, rfl, k1, k2, k3, k4, k5, k6, k7, k8⟩ := hcut
        have hwk : (keptS ws (fl.take i))[i]? = some x := by rw [keptS_get_ge _ _ _ (by rw [List.length_take]; omega)]; exact hx
        have hkn : (keptS ws (fl.take i)).length = ws.length := keptS_length _ _
        obtain ⟨_, _, c3, c4⟩ := wcells_get _ i _ hwk
        have e3 := (k7.cellAt (i * 4 + 2) (by omega)).trans c3
        have e4 := (k7.cellAt (i * 4 + 3) (by omega)).trans c4
        have e5 := k7.frozenAt (i * 4 + 2)
        have hgz := (k7.lt g rfl).2
        have d0 := (k8.cell (p := ⟨w.heap.size, 0, none⟩) hsz).trans hd0'
        have d1 := (k8.cell (p := ⟨w.heap.size, 1, none⟩) hsz).trans hd1'
        have d5 := (k8.cell (p := ⟨b2, o2 + i, none⟩) hb2).trans h5
        have hrx := hr i x f hx hy
        obtain ⟨_, _, hx3, hx4, hx5⟩ := hv.way x (mem_of_get hx)
        have hik : (i : Int) < ((keptS ws (fl.take i)).length : Int) := by omega
        have hset := wcells_lo _ i x (f + 1) hwk
        have HV := Lib.hid (fun h => moreW_val hv hr hx hy h)
        have HX := Lib.hid hx
        have HY := Lib.hid hy
        have HKN := Lib.hid hkn
        have HST := Lib.hid (k7.stored (i * 4 + 2) (.int .i64 (f + 1)))
        have HSET := Lib.hid hset
        have k8s := k8.size
        clear hkn hset hx hy hwk c3 c4 hdt hww hdd h1 h2 h3 h4 h5 hd0' hd1' HKP
        go_wp2
        go_region
        go_wp2
        obtain ⟨W5, hW5⟩ : ∃ W5, W5 = (wc.setCell ⟨g, i * 4 + 2, none⟩ (.int .i64 (f + 1))).drew := ⟨_, rfl⟩
        rw [← hW5]
        have hz5 : W5.heap.size = wc.heap.size := by rw [hW5]; simp
        have m0 : W5.cell? ⟨g7, 0, none⟩ = some (.int .i64 rooms) := by rw [hW5]; simp [go_sem, k5]
        have m1 : W5.cell? ⟨g7, 1, none⟩ = some (.slice (some ⟨g, 0, none⟩) (keptS ws (fl.take i)).length cap) := by rw [hW5]; simp [go_sem, k6]
        have m4 : W5.cell? ⟨g, i * 4 + 3, none⟩ = some (.int .i64 x.hi) := by rw [hW5]; simp [go_sem, e4]
        have hbg : ¬ b2 = g := by omega
        have hwg : ¬ w.heap.size = g := by omega
        have m5 : W5.cell? ⟨b2, o2 + i, none⟩ = some (.int .i64 f) := by rw [hW5]; simp [go_sem, d5]
        have n0 : W5.cell? ⟨w.heap.size, 0, none⟩ = some (.int .i64 rooms) := by rw [hW5]; simp [go_sem, d0]
        have n1 : W5.cell? ⟨w.heap.size, 1, none⟩ = some (.slice (some ⟨b, off, none⟩) ws.length c) := by rw [hW5]; simp [go_sem, d1]
        have b5 : Below wr.heap.size wr W5 := by rw [hW5]; exact (k8.setCell (p := ⟨g, i * 4 + 2, none⟩) k3 _).drew
        have o5 : W5.ownsRow wr.heap.size 74 4 (.slice (some ⟨g, 0, none⟩) (keptS ws (fl.take i)).length cap) (keptS ws (fl.take i)).length (wcells (moreW ws fl i x f)) := by
          rw [hW5]; unfold moreW; rw [HSET.out]; exact HST.out.1
        have y5 := own_ways o5
        have t5 := htt.below b5
        have hml : (moreW ws fl i x f).length = (keptS ws (fl.take i)).length := by rw [moreW_len, HKN.out]
        have s5 : wr.heap.size ≤ W5.heap.size := b5.size
        have hb0' : Below w.heap.size w W5 := hb0.trans ((hbw.mono (by omega)).trans (b5.mono (by omega)))
        have hg75 : g7 < W5.heap.size := by omega
        have hgw5 : g < W5.heap.size := by omega
        clear hW5 hz5 k5 k6 k7 k8 e3 e4 e5 d0 d1 d5 HST HSET o5 hbg hwg k2 hgz k8s
        have HSK := Lib.hid (show secK rooms ws fl (i + 1) = if f < x.hi ∧ agrS rooms (moreW ws fl i x f) = true then some (firstS rooms (moreW ws fl i x f)) else secK rooms ws fl i by rw [secK, HX.out, HY.out])
        rcases Int.lt_or_le f x.hi with hfx | hfx
        · have HA := fun W hW hT => agree_any rooms (some ⟨g, 0, none⟩) cap (moreW ws fl i x f) W (HV.out hfx) hW hT
          rw [hml] at HA
          have HAH := Lib.hid HA
          have HF := Lib.hid (fun W h hW => first_any rooms (some ⟨g, 0, none⟩) cap (moreW ws fl i x f) W (HV.out hfx) ((agrS_iff (HV.out hfx).inW).1 h) hW)
          rw [hml] at HF
          generalize hag : agrS rooms (moreW ws fl i x f) = v at HAH HF
          have HAG := Lib.hid hag
          have hbw5 : b2 < W5.heap.size := by omega
          clear hag hml
          rcases v with _ | _
          · go_region_held3 (fun w' => Below W5.heap.size W5 w' ∧ w'.cell? ⟨g7, 0, none⟩ = some (.int .i64 rooms) ∧ w'.cell? ⟨g7, 1, none⟩ = some (.slice (some ⟨g, 0, none⟩) (keptS ws (fl.take i)).length cap) ∧ w'.cell? ⟨g, i * 4 + 3, none⟩ = some (.int .i64 x.hi) ∧ w'.cell? ⟨b2, o2 + i, none⟩ = some (.int .i64 f))
              (first | exact ⟨(Below.refl _ _).drew, m0, m1, m4, m5⟩ | exact ⟨hb6, (hb6.cell (p := ⟨g7, 0, none⟩) hg75).trans m0, (hb6.cell (p := ⟨g7, 1, none⟩) hg75).trans m1, (hb6.cell (p := ⟨g, i * 4 + 3, none⟩) hgw5).trans m4, (hb6.cell (p := ⟨b2, o2 + i, none⟩) hbw5).trans m5⟩)
              (first | (go_at_call 54; refine (HAH.out _ (by exact y5) (by exact t5)).mono ?_; rintro e w6 ⟨rfl, hb6'⟩; have hb6 : Below W5.heap.size W5 w6 := Below.trans (Below.refl _ _).drew hb6'))
            go_wp2
            go_roundw
            case rel => exact ⟨i, by omega, by go_num, Lib.hid (by rw [← HK.out, HSK.out, if_neg (fun h => by rw [HAG.out] at h; cases h.2)]), hbw.trans (b5.mono hbw.size |>.trans (Below.mono (by first | assumption | exact And.left (by assumption)) (by have := hbw.size; omega)))⟩
            case measure => simp [intOf]
          · go_region_held3 (fun w' => Below W5.heap.size W5 w' ∧ w'.cell? ⟨g7, 0, none⟩ = some (.int .i64 rooms) ∧ w'.cell? ⟨g7, 1, none⟩ = some (.slice (some ⟨g, 0, none⟩) (keptS ws (fl.take i)).length cap) ∧ w'.cell? ⟨g, i * 4 + 3, none⟩ = some (.int .i64 x.hi) ∧ w'.cell? ⟨b2, o2 + i, none⟩ = some (.int .i64 f))
              (first | exact ⟨(Below.refl _ _).drew, m0, m1, m4, m5⟩ | exact ⟨hb6, (hb6.cell (p := ⟨g7, 0, none⟩) hg75).trans m0, (hb6.cell (p := ⟨g7, 1, none⟩) hg75).trans m1, (hb6.cell (p := ⟨g, i * 4 + 3, none⟩) hgw5).trans m4, (hb6.cell (p := ⟨b2, o2 + i, none⟩) hbw5).trans m5⟩)
              (first | (go_at_call 54; refine (HAH.out _ (by exact y5) (by exact t5)).mono ?_; rintro e w6 ⟨rfl, hb6'⟩; have hb6 : Below W5.heap.size W5 w6 := Below.trans (Below.refl _ _).drew hb6'))
            have y6 := (y5.below hb6 (Nat.le_refl _)).mono hb6.size
            have hsg := hb6.size
            go_wp2_with (go_at_call 57; refine (HF.out _ trivial (by assumption)).mono ?_; rintro e w7 ⟨A', c', rfl, hA', hb7⟩)
            go_ret2
            exact .inl ⟨_, A', c', by rw [← HK.out, HSK.out, if_pos ⟨hfx, HAG.out⟩], rfl, hA', hb0'.trans ((hb6.mono (by omega)).trans (hb7.mono (by omega)))⟩
        · have hfd : decide (f < x.hi) = false := decide_eq_false (by omega)
          clear hml
          go_quiet (fail)
          go_wp2
          go_roundw
          case rel => exact ⟨i, by omega, by go_num, Lib.hid (by rw [← HK.out, HSK.out, if_neg (fun h => by have := h.1; omega)]), hbw.trans (below_drewN' (b5.mono hbw.size) _)⟩
          case measure => simp [intOf]
end Go.Proofs.YtcebihijnedekaaDoor
