/-
  The cuts of a filling: the walk of Cuts.
-/
import Derived.Test.YtlollcabnfncpaaDoorVer
namespace Go.Proofs.YtlollcabnfncpaaDoor
open Go.RowKit

/-- Two lists of cuts and an error are handed back. -/
def RetCut3 (w : World) (p q : List Int) (z : Int) (e : Ending) (w' : World) : Prop := ∃ A c A' c', e = .returned (.tuple #[.slice A p.length c, .slice A' q.length c', .int .i64 z]) ∧ IntsAt w' w'.heap.size A p ∧ IntsAt w' w'.heap.size A' q ∧ Below w.heap.size w w'
def cutsR (s : Sh) (x : List Cd) : List Int := gapL 0 s.r (rowsB (x.map (blk s)))
def cutsC (s : Sh) (x : List Cd) : List Int := gapL 0 s.c (colsB (x.map (blk s)))

set_option maxRecDepth 100000 in
set_option maxHeartbeats 4000000 in
theorem cuts_ok (s : Sh) (A : Option Addr) (c : Nat) (l : List Cd) (w : World) (hs : s.Ok) (hA : CardsAt w w.heap.size A l) (hv : verS s l = 0) (hn : l.length < 1000000) :
    Calls Tryd.prog 28 #[.agg #[.int .i64 s.r, .int .i64 s.c, .int .i64 s.l, .int .i64 s.w], .slice A l.length c] w (RetCut3 w (cutsR s l) (cutsC s l) 0) := by
  have hlm : (l.map (blk s)).length = l.length := List.length_map ..
  have hf : ∀ x ∈ l, fitP s x := verM_fits l 0 (-1) hv
  have HV := Lib.hid (fun W (h : Below w.heap.size w W) => verify_ok s A c l W hs (hA.up h) hn)
  rw [hv] at HV
  clear hv
  go_enter Tryd.func28, Tryd.ntmps28
  go_wp2_with (go_at_call 35; refine (HV.out _ (below_new _ _)).mono ?_; rintro e w1 ⟨rfl, hb1⟩)
  obtain ⟨q1, q2, q3⟩ := bcell hb1
  simp only [World.size_alloc] at q1 q3
  have p0 : w1.cell? ⟨w.heap.size, 0, none⟩ = some (.int .i64 s.r) := by rw [q1 _ _ (by omega)]; simp [go_sem]
  have p1 : w1.cell? ⟨w.heap.size, 1, none⟩ = some (.int .i64 s.c) := by rw [q1 _ _ (by omega)]; simp [go_sem]
  have p2 : w1.cell? ⟨w.heap.size, 2, none⟩ = some (.int .i64 s.l) := by rw [q1 _ _ (by omega)]; simp [go_sem]
  have p3 : w1.cell? ⟨w.heap.size, 3, none⟩ = some (.int .i64 s.w) := by rw [q1 _ _ (by omega)]; simp [go_sem]
  have hb0 : Below w.heap.size w w1 := below_via hb1
  have hz0 : w.heap.size + 1 ≤ w1.heap.size := q3
  have hA0 : CardsAt w1 w1.heap.size A l := hA.up hb0
  obtain ⟨W0, rfl⟩ : ∃ W0 : World, W0 = w1 := ⟨_, rfl⟩
  have HB := Lib.hid hb0
  have hbd : Below W0.heap.size W0 W0.drew := (Below.refl _ _).drew
  have hzw : w.heap.size < W0.heap.size := by omega
  have HK := Lib.hid (fun (W : World) (h : Below W0.heap.size W0 W) => show Below W0.heap.size W0 W ∧ W.cell? ⟨w.heap.size, 0, none⟩ = some (.int .i64 s.r) ∧ W.cell? ⟨w.heap.size, 1, none⟩ = some (.int .i64 s.c) ∧ W.cell? ⟨w.heap.size, 2, none⟩ = some (.int .i64 s.l) ∧ W.cell? ⟨w.heap.size, 3, none⟩ = some (.int .i64 s.w) from
    ⟨h, (h.cell (p := ⟨w.heap.size, 0, none⟩) hzw).trans p0, (h.cell (p := ⟨w.heap.size, 1, none⟩) hzw).trans p1, (h.cell (p := ⟨w.heap.size, 2, none⟩) hzw).trans p2, (h.cell (p := ⟨w.heap.size, 3, none⟩) hzw).trans p3⟩)
  have H74 := Lib.hid (fun W (Q : Ending → World → Prop) (h : Below W0.heap.size W0 W) (hQ : ∀ w', Below W0.heap.size W0 w' → Below W.heap.size W w' → Q (.returned (.agg #[.int .i64 0, .int .i64 s.r, .int .i64 0, .int .i64 s.c])) w') =>
    (area_any s W).mono fun e w' ⟨he, hb⟩ => he ▸ hQ w' (h.trans (hb.mono h.size)) hb)
  have H75 := Lib.hid (fun W (Q : Ending → World → Prop) (h : Below W0.heap.size W0 W) (hQ : ∀ B d w', BlksAt w' w'.heap.size B (l.map (blk s)) → Below W0.heap.size W0 w' → Q (.returned (.slice B l.length d)) w') =>
    (places_any s A c l W hs (hA0.up h) hf hn).mono fun e w' ⟨B, d, he, hi, hb, _⟩ => by rw [he, hlm]; exact hQ B d w' hi (h.trans (hb.mono h.size)))
  have H73 := Lib.hid (fun B d W (hB : BlksAt W W.heap.size B (l.map (blk s))) => hlm ▸ cuts_area s hs B d (l.map (blk s)) W hB (by rw [hlm]; exact hn))
  clear hA hA0 hf hb0 p0 p1 p2 p3 hlm hb1 q1 q2 q3
  go_region_held3 (fun w' => Below W0.heap.size W0 w' ∧ w'.cell? ⟨w.heap.size, 0, none⟩ = some (.int .i64 s.r) ∧ w'.cell? ⟨w.heap.size, 1, none⟩ = some (.int .i64 s.c) ∧ w'.cell? ⟨w.heap.size, 2, none⟩ = some (.int .i64 s.l) ∧ w'.cell? ⟨w.heap.size, 3, none⟩ = some (.int .i64 s.w))
    (exact HK.out _ (by assumption))
    (first
      | (go_at_call 74; with_reducible refine H74.out _ _ (by assumption) ?_; intro w8 hb8 hu8)
      | (go_at_call 75; with_reducible refine H75.out _ _ (by assumption) ?_; intro A9 c9 w9 hA9 hb9)
      | (go_at_call 73; refine (H73.out _ _ _ (by assumption)).mono ?_; rintro e w10 ⟨A1, c1, A2, c2, rfl, hI1, hI2, hb10⟩; have hb11 := hb9.trans (hb10.mono hb9.size)))
  have HF := Lib.hid (HB.out.trans (hb11.mono (by omega)))
  have H1 := Lib.hid (show IntsAt w10 w10.heap.size A1 (cutsR s l) from hI1)
  have H2 := Lib.hid (show IntsAt w10 w10.heap.size A2 (cutsC s l) from hI2)
  clear hI1 hI2
  change Exit.then _ _ Exit.normal _ _
  generalize hga : gapL (areaB s).a (areaB s).b (rowsB (l.map (blk s))) = ga
  generalize hgb : gapL (areaB s).c (areaB s).d (colsB (l.map (blk s))) = gb
  have e1 : cutsR s l = ga := hga
  have e2 : cutsC s l = gb := hgb
  have E1 := Lib.hid e1
  have E2 := Lib.hid e2
  clear hga hgb e1 e2 hb11 hb10 hb9 hbd HB
  go_wp2
  go_ret3
  refine ⟨A1, c1, A2, c2, ?_, H1.out, H2.out, HF.out⟩
  rw [E1.out, E2.out]
  rfl

def cutsF (r c l v : Int) (x : List Cd) : List Int × List Int := if verF r c l v x = 0 then (cutsR ⟨r.toNat, c.toNat, l.toNat, v.toNat⟩ x, cutsC ⟨r.toNat, c.toNat, l.toNat, v.toNat⟩ x) else ([], [])

theorem ver_ok {r c l v : Int} {x : List Cd} (h : verF r c l v x = 0) : ∃ s : Sh, s.Ok ∧ r = s.r ∧ c = s.c ∧ l = s.l ∧ v = s.w ∧ verS s x = 0 := by
  unfold verF at h
  split at h
  · rename_i h0
    obtain ⟨s, hs, rfl, rfl, rfl, rfl⟩ := ok_of_chk h0
    exact ⟨s, hs, rfl, rfl, rfl, rfl, h⟩
  · cases h

set_option maxRecDepth 100000 in
set_option maxHeartbeats 1000000 in
theorem cutsF_any (r c l v : Int) (A : Option Addr) (cap : Nat) (x : List Cd) (w : World) (hA : CardsAt w w.heap.size A x) (hn : x.length < 1000000) :
    Calls Tryd.prog 28 #[.agg #[.int .i64 r, .int .i64 c, .int .i64 l, .int .i64 v], .slice A x.length cap] w (RetCut3 w (cutsF r c l v x).1 (cutsF r c l v x).2 (verF r c l v x)) := by
  by_cases h0 : verF r c l v x = 0
  · have e : cutsF r c l v x = (cutsR ⟨r.toNat, c.toNat, l.toNat, v.toNat⟩ x, cutsC ⟨r.toNat, c.toNat, l.toNat, v.toNat⟩ x) := by unfold cutsF; rw [if_pos h0]
    rw [e, h0]
    obtain ⟨s, hs, rfl, rfl, rfl, rfl, hv⟩ := ver_ok h0
    exact cuts_ok s A cap x w hs hA hv hn
  · have e : cutsF r c l v x = ([], []) := by unfold cutsF; rw [if_neg h0]
    rw [e]
    have HV := Lib.hid (fun W (h : Below w.heap.size w W) => verify_any r c l v A cap x W (hA.up h) hn)
    have hz : (verF r c l v x == 0) = false := by simpa using h0
    clear hA h0 e
    generalize verF r c l v x = z at *
    go_enter Tryd.func28, Tryd.ntmps28
    go_wp2_with (go_at_call 35; refine (HV.out _ (below_new _ _)).mono ?_; rintro e w1 ⟨rfl, hb1⟩)
    go_ret3
    exact ⟨none, 0, none, 0, rfl, IntsAt.nil _ _ _, IntsAt.nil _ _ _, below_via hb1⟩
end Go.Proofs.YtlollcabnfncpaaDoor
