/-
  Backs that are turned, alike, the first ones, all of them, and turns with which they stay: of presses and backs that are as they must be.
-/
import Derived.Test.YtbcbaaapogejiaaDoorKinC
namespace Go.Proofs.YtbcbaaapogejiaaDoor
open Go.RowKit

/-- A back of a press. -/
def BackOk (p : Pr) (b : List Int) : Prop := b.length = p.n ∧ ∀ x ∈ b, 0 ≤ x ∧ x < p.K
theorem BackOk.chk {p : Pr} {b : List Int} (h : BackOk p b) : chkB p.n p.K b = 0 := by unfold chkB; rw [if_pos h.1, if_pos h.2]
theorem BackOk.len {p : Pr} {b : List Int} (hp : p.Ok) (h : BackOk p b) : b.length ≤ 16 := by rw [h.1]; exact hp.n16.2
theorem from_len (p : Pr) : p.from.length = p.T.length := by simp [Pr.from]
theorem from_in {p : Pr} (hp : p.Ok) {b : List Int} (hb : b.length = p.n) : ∀ s ∈ p.from, s.length < 1000 ∧ ∀ i ∈ s, 0 ≤ i ∧ i < (b.length : Nat) := by
  intro s hs
  obtain ⟨t, ht, rfl⟩ := List.mem_map.1 hs
  refine ⟨by rw [srcs_len]; have := hp.n16.2; unfold Pr.n at this; omega, fun i hi => ?_⟩
  rw [hb]
  exact hp.cell ht hi
theorem from_get {p : Pr} {k t : Nat} (h : p.T[k]? = some t) : p.from[k]? = some (srcs p.R p.C (mv t)) := by simp [Pr.from, h]

/-- Lists that lie in a new block. -/
theorem lists_one {W : World} {A : Option Addr} {b : List Int} {c : Nat} (h : IntsAt W W.heap.size A b) : ListsAt (W.alloc (.cells #[.slice A b.length c] 22)) (W.alloc (.cells #[.slice A b.length c] 22)).heap.size (some ⟨W.heap.size, 0, none⟩) [b] := by
  intro k x hx
  rcases k with _ | k
  · have e : b = x := by simpa using hx
    subst e
    exact ⟨W.heap.size, 0, A, c, rfl, by simp, by rw [cell_of_row _ _ _ _ _ _ (heap_new _ _)]; rfl, h.up (below_new _ _)⟩
  · simp at hx
theorem lists_two {W : World} {A D : Option Addr} {a b : List Int} {c d : Nat} (h : IntsAt W W.heap.size A a) (h2 : IntsAt W W.heap.size D b) : ListsAt (W.alloc (.cells #[.slice A a.length c, .slice D b.length d] 22)) (W.alloc (.cells #[.slice A a.length c, .slice D b.length d] 22)).heap.size (some ⟨W.heap.size, 0, none⟩) [a, b] := by
  intro k x hx
  rcases k with _ | _ | k
  · have e : a = x := by simpa using hx
    subst e
    exact ⟨W.heap.size, 0, A, c, rfl, by simp, by rw [cell_of_row _ _ _ _ _ _ (heap_new _ _)]; rfl, h.up (below_new _ _)⟩
  · have e : b = x := by simpa using hx
    subst e
    exact ⟨W.heap.size, 0, D, d, rfl, by simp, by rw [cell_of_row _ _ _ _ _ _ (heap_new _ _)]; rfl, h2.up (below_new _ _)⟩
  · simp at hx

/-- The plate for one back, in any world above. -/
theorem plate_one (p : Pr) (hp : p.Ok) (A TA : Option Addr) (c tc : Nat) (b : List Int) (w W : World) (hm : MovW w) (hT : IntsAt w w.heap.size TA (intsN p.T)) (hA : IntsAt w w.heap.size A b) (hb : BackOk p b) (hW : Below w.heap.size w W) :
    Calls Tryd.prog 74 #[.agg #[.int .i64 p.R, .int .i64 p.C, .int .i64 p.K, .slice TA p.T.length tc], .slice (some ⟨W.heap.size, 0, none⟩) 1 1] (W.alloc (.cells #[.slice A b.length c] 22)) (RetPlate (W.alloc (.cells #[.slice A b.length c] 22)) p TA tc) :=
  plate_ok p hp TA (some ⟨W.heap.size, 0, none⟩) tc 1 [b] _ (hm.below (hW.trans ((below_new W _).mono hW.size))) (hT.up (hW.trans ((below_new W _).mono hW.size))) (lists_one (hA.up hW)) (fun x hx => by rw [List.mem_singleton.1 hx]; have := hb.len hp; omega) (by simp) (by rw [bksE, if_pos hb.chk]; rfl)
theorem plate_two (p : Pr) (hp : p.Ok) (A D TA : Option Addr) (c d tc : Nat) (a b : List Int) (w W : World) (hm : MovW w) (hT : IntsAt w w.heap.size TA (intsN p.T)) (hA : IntsAt w w.heap.size A a) (hD : IntsAt w w.heap.size D b) (ha : BackOk p a) (hb : BackOk p b) (hW : Below w.heap.size w W) :
    Calls Tryd.prog 74 #[.agg #[.int .i64 p.R, .int .i64 p.C, .int .i64 p.K, .slice TA p.T.length tc], .slice (some ⟨W.heap.size, 0, none⟩) 2 2] (W.alloc (.cells #[.slice A a.length c, .slice D b.length d] 22)) (RetPlate (W.alloc (.cells #[.slice A a.length c, .slice D b.length d] 22)) p TA tc) :=
  plate_ok p hp TA (some ⟨W.heap.size, 0, none⟩) tc 2 [a, b] _ (hm.below (hW.trans ((below_new W _).mono hW.size))) (hT.up (hW.trans ((below_new W _).mono hW.size))) (lists_two (hA.up hW) (hD.up hW)) (fun x hx => by
    rcases List.mem_cons.1 hx with e | hx
    · rw [e]; have := ha.len hp; omega
    · rw [List.mem_singleton.1 hx]; have := hb.len hp; omega) (by simp) (by rw [bksE, if_pos ha.chk, bksE, if_pos hb.chk]; rfl)
theorem plate_none (p : Pr) (hp : p.Ok) (TA : Option Addr) (tc : Nat) (w : World) (hm : MovW w) (hT : IntsAt w w.heap.size TA (intsN p.T)) :
    Calls Tryd.prog 74 #[.agg #[.int .i64 p.R, .int .i64 p.C, .int .i64 p.K, .slice TA p.T.length tc], .slice none 0 0] w (RetPlate w p TA tc) :=
  plate_ok p hp TA none tc 0 [] w hm hT (ListsAt.nil _ _ _) (fun x hx => by simp at hx) (by simp) rfl

def RetInts0 (w : World) (l : List Int) (e : Ending) (w' : World) : Prop := ∃ A c, e = .returned (.tuple #[.slice A l.length c, .int .i64 0]) ∧ IntsAt w' w'.heap.size A l ∧ Below w.heap.size w w'
def RetLists0 (w : World) (l : List (List Int)) (e : Ending) (w' : World) : Prop := ∃ A c, e = .returned (.tuple #[.slice A l.length c, .int .i64 0]) ∧ ListsAt w' w'.heap.size A l ∧ Below w.heap.size w w'

set_option maxRecDepth 100000 in
set_option maxHeartbeats 600000 in
theorem kinF_ok (p : Pr) (hp : p.Ok) (A TA : Option Addr) (c tc : Nat) (b : List Int) (w : World) (hm : MovW w) (hT : IntsAt w w.heap.size TA (intsN p.T)) (hA : IntsAt w w.heap.size A b) (hb : BackOk p b) :
    Calls Tryd.prog 32 #[.agg #[.int .i64 p.R, .int .i64 p.C, .int .i64 p.K, .slice TA p.T.length tc], .slice A b.length c] w (RetLists0 w (p.kin b)) := by
  have hb1 := below_new w (.cells #[.int .i64 p.R, .int .i64 p.C, .int .i64 p.K, .slice TA p.T.length tc] 24)
  have HP := Lib.hid (plate_one p hp A TA c tc b w _ hm hT hA hb hb1)
  simp only [World.size_alloc] at HP
  have hbx := hb1.trans ((below_new (w.alloc (.cells #[.int .i64 p.R, .int .i64 p.C, .int .i64 p.K, .slice TA p.T.length tc] 24)) (.cells #[.slice A b.length c] 22)).mono hb1.size)
  have HK := Lib.hid (fun W FA fc (hW : Below w.heap.size w W) hF => kin_any p.R p.C p.K TA FA tc fc p.T p.from A c b W (hT.up hW) hF (hA.up hW) (from_len p) (from_in hp hb.1) (by have := hb.len hp; omega) hp.len hp.pos)
  have hk : p.kin b = kinU (p.from.map fun s => tdL s b) := rfl
  rw [hk]
  generalize kinU (p.from.map fun s => tdL s b) = L at *
  clear hm hT hA hb hp hk
  go_enter Tryd.func32, Tryd.ntmps32
  go_wp2_with (first
    | (go_at_call 74; refine (HP.out).mono ?_; rintro e w1 ⟨FA, fc, rfl, hF, hb2⟩; have hb3 := hbx.trans (hb2.mono hbx.size); have hb4 := hb3.trans ((below_new w1 (.cells #[.int .i64 p.R, .int .i64 p.C, .int .i64 p.K, .slice TA p.T.length tc, .slice FA p.T.length fc] 115)).mono hb3.size); have hF2 := hF.up (below_new w1 (.cells #[.int .i64 p.R, .int .i64 p.C, .int .i64 p.K, .slice TA p.T.length tc, .slice FA p.T.length fc] 115)))
    | (go_at_call 79; refine (HK.out _ _ _ hb4 hF2).mono ?_; rintro e w5 ⟨E, g, rfl, hL, hb5⟩))
  go_ret2
  exact ⟨E, g, rfl, hL, hb4.trans (hb5.mono hb4.size)⟩
end Go.Proofs.YtbcbaaapogejiaaDoor
