/-
  What the program's functions answer for the books B and C of the chapter's examples.
-/
import Derived.Test.YtcebihijnedekaaDoorWalkZ
import Derived.Test.YtcebihijnedekaaDoorWalkU
import Derived.Test.YtcebihijnedekaaDoorWalkV
import Derived.Test.YtcebihijnedekaaDoorWalkX
namespace Go.Proofs.YtcebihijnedekaaDoor
open Go.RowKit

/-- A list of n numbers and an error are handed back. -/
def RetN (n : Nat) (w : World) (l : List Int) (er : Int) (e : Ending) (w' : World) : Prop := ∃ A c, e = .returned (.tuple #[.slice A n c, .int .i64 er]) ∧ IntsAt w' w'.heap.size A l ∧ Below w.heap.size w w'
theorem RetList.n {w w' : World} {l m : List Int} {er er' : Int} {e : Ending} {n : Nat} (h : RetList w l er e w') (hl : l = m) (he : er = er') (hn : m.length = n) : RetN n w m er' e w' := by
  subst hl he hn; exact h

theorem pairs_lit (w : World) (cs : Array Value) (l : List (Int × Int)) (t : TypeId) (n : Nat) (h : cs = (pcells l).toArray) (hn : n = w.heap.size) :
    PairsAt (w.alloc (.cells cs t)) (w.alloc (.cells cs t)).heap.size (some ⟨n, 0, none⟩) l := by
  subst h hn
  intro k p hp
  obtain ⟨h1, h2⟩ := pcells_get l k p hp
  refine ⟨w.heap.size, 0, rfl, by simp, ?_, ?_⟩
  · rw [cell_of_row _ _ _ _ _ _ (heap_alloc_new w _)]; simpa using h1
  · rw [cell_of_row _ _ _ _ _ _ (heap_alloc_new w _)]; simpa using h2
theorem PairsAt.up {w w' : World} {A : Option Addr} {l : List (Int × Int)} (h : PairsAt w w.heap.size A l) (hb : Below w.heap.size w w') : PairsAt w' w'.heap.size A l := (h.below hb (Nat.le_refl _)).mono hb.size
theorem below_new (w : World) (o : Obj) : Below w.heap.size w (w.alloc o) := (Below.refl _ _).alloc (Nat.le_refl _) o
theorem below_via {w w1 : World} {o : Obj} (h : Below (w.alloc o).heap.size (w.alloc o) w1) : Below w.heap.size w w1 := (below_new w o).trans (h.mono (by simp))

theorem same_eq (A D : Option Addr) (c d n : Nat) (l : List Int) (w : World) (hn : l.length = n) (h : n ≤ 1000) (hA : IntsAt w w.heap.size A l) (hD : IntsAt w w.heap.size D l) :
    Calls Tryd.prog 22 #[.slice A n c, .slice D n d] w fun e w' => e = .returned (.bool true) ∧ Below w.heap.size w w' := by
  subst hn
  have := same_any A D c d l l w h hA hD
  rwa [decide_eq_true rfl] at this
theorem spans_eq (A D : Option Addr) (c d n : Nat) (l : List (Int × Int)) (w : World) (hn : l.length = n) (h : n ≤ 1000) (hA : PairsAt w w.heap.size A l) (hD : PairsAt w w.heap.size D l) :
    Calls Tryd.prog 39 #[.slice A n c, .slice D n d] w fun e w' => e = .returned (.bool true) ∧ Below w.heap.size w w' := by
  subst hn
  have := spans39_any A D c d l l w h hA hD
  rwa [decide_eq_true rfl] at this

theorem canB (A : Option Addr) (c : Nat) (w : World) (hw : WaysAt w w.heap.size A wsB) (ht : SizesAt w) : Calls Tryd.prog 18 #[.agg #[.int .i64 3, .slice A wsB.length c]] w fun e w' => e = .returned (.tuple #[.bool true, .int .i64 0]) ∧ Below w.heap.size w w' := by
  have h := can_any 3 A c wsB w hw ht
  rwa [show canS 3 wsB = true by decide +kernel, show chk 3 wsB = 0 by decide +kernel] at h

theorem canC (A : Option Addr) (c : Nat) (w : World) (hw : WaysAt w w.heap.size A wsC) (ht : SizesAt w) : Calls Tryd.prog 18 #[.agg #[.int .i64 3, .slice A wsC.length c]] w fun e w' => e = .returned (.tuple #[.bool false, .int .i64 0]) ∧ Below w.heap.size w w' := by
  have h := can_any 3 A c wsC w hw ht
  rwa [show canS 3 wsC = false by decide +kernel, show chk 3 wsC = 0 by decide +kernel] at h

theorem firstB (A : Option Addr) (c : Nat) (w : World) (hw : WaysAt w w.heap.size A wsB) (ht : SizesAt w) : Calls Tryd.prog 20 #[.agg #[.int .i64 3, .slice A wsB.length c]] w (RetN 3 w [5, 5, 5] 0) :=
  (first20_any 3 A c wsB w hw ht).mono fun e w' h => h.n (show (frsS 3 wsB).1 = [5, 5, 5] by decide +kernel) (show (frsS 3 wsB).2 = 0 by decide +kernel) rfl

theorem againstC (A : Option Addr) (c : Nat) (w : World) (hw : WaysAt w w.heap.size A wsC) (ht : SizesAt w) : Calls Tryd.prog 29 #[.agg #[.int .i64 3, .slice A wsC.length c]] w (RetN 2 w [0, 2] 0) :=
  (against_any 3 A c wsC w hw ht).mono fun e w' h => h.n (show (agaS 3 wsC).1 = [0, 2] by decide +kernel) (show (agaS 3 wsC).2 = 0 by decide +kernel) rfl

theorem againstB (A : Option Addr) (c : Nat) (w : World) (hw : WaysAt w w.heap.size A wsB) (ht : SizesAt w) : Calls Tryd.prog 29 #[.agg #[.int .i64 3, .slice A wsB.length c]] w (RetN 0 w [] 13) :=
  (against_any 3 A c wsB w hw ht).mono fun e w' h => h.n (show (agaS 3 wsB).1 = [] by decide +kernel) (show (agaS 3 wsB).2 = 13 by decide +kernel) rfl

theorem openB (A : Option Addr) (c : Nat) (w : World) (hw : WaysAt w w.heap.size A wsB) (ht : SizesAt w) : Calls Tryd.prog 37 #[.agg #[.int .i64 3, .slice A wsB.length c]] w (RetN 3 w [0, 1, 2] 0) :=
  (open_any 3 A c wsB w hw ht).mono fun e w' h => h.n (show (opnS 3 wsB).1 = [0, 1, 2] by decide +kernel) (show (opnS 3 wsB).2 = 0 by decide +kernel) rfl

theorem otherB5 (A D : Option Addr) (c : Nat) (w : World) (hw : WaysAt w w.heap.size A wsB) (hd : IntsAt w w.heap.size D [5, 5, 5]) (ht : SizesAt w) : Calls Tryd.prog 27 #[.agg #[.int .i64 3, .slice A wsB.length c], .slice D 3 3] w (RetN 3 w [6, 6, 6] 0) :=
  (other_any 3 A D c 3 wsB [5, 5, 5] w (by decide) hw hd ht).mono fun e w' h => h.n (show (othS 3 wsB [5, 5, 5]).1 = [6, 6, 6] by decide +kernel) (show (othS 3 wsB [5, 5, 5]).2 = 0 by decide +kernel) rfl

theorem otherB6 (A D : Option Addr) (c : Nat) (w : World) (hw : WaysAt w w.heap.size A wsB) (hd : IntsAt w w.heap.size D [6, 6, 6]) (ht : SizesAt w) : Calls Tryd.prog 27 #[.agg #[.int .i64 3, .slice A wsB.length c], .slice D 3 3] w (RetN 3 w [5, 5, 5] 0) :=
  (other_any 3 A D c 3 wsB [6, 6, 6] w (by decide) hw hd ht).mono fun e w' h => h.n (show (othS 3 wsB [6, 6, 6]).1 = [5, 5, 5] by decide +kernel) (show (othS 3 wsB [6, 6, 6]).2 = 0 by decide +kernel) rfl

theorem boundB1t (A : Option Addr) (c : Nat) (w : World) (hw : WaysAt w w.heap.size A wsB) (ht : SizesAt w) : Calls Tryd.prog 42 #[.agg #[.int .i64 3, .slice A wsB.length c], .int .i64 1, .bool true] w (RetN 2 w [0, 1] 0) :=
  (bound_any 3 1 true A c wsB w hw ht).mono fun e w' h => h.n (show (bndS 3 wsB 1 true).1 = [0, 1] by decide +kernel) (show (bndS 3 wsB 1 true).2 = 0 by decide +kernel) rfl

theorem boundB0t (A : Option Addr) (c : Nat) (w : World) (hw : WaysAt w w.heap.size A wsB) (ht : SizesAt w) : Calls Tryd.prog 42 #[.agg #[.int .i64 3, .slice A wsB.length c], .int .i64 0, .bool true] w (RetN 1 w [0] 0) :=
  (bound_any 3 0 true A c wsB w hw ht).mono fun e w' h => h.n (show (bndS 3 wsB 0 true).1 = [0] by decide +kernel) (show (bndS 3 wsB 0 true).2 = 0 by decide +kernel) rfl

theorem boundB2f (A : Option Addr) (c : Nat) (w : World) (hw : WaysAt w w.heap.size A wsB) (ht : SizesAt w) : Calls Tryd.prog 42 #[.agg #[.int .i64 3, .slice A wsB.length c], .int .i64 2, .bool false] w (RetN 1 w [0] 0) :=
  (bound_any 3 2 false A c wsB w hw ht).mono fun e w' h => h.n (show (bndS 3 wsB 2 false).1 = [0] by decide +kernel) (show (bndS 3 wsB 2 false).2 = 0 by decide +kernel) rfl

theorem boundB0f (A : Option Addr) (c : Nat) (w : World) (hw : WaysAt w w.heap.size A wsB) (ht : SizesAt w) : Calls Tryd.prog 42 #[.agg #[.int .i64 3, .slice A wsB.length c], .int .i64 0, .bool false] w (RetN 0 w [] 0) :=
  (bound_any 3 0 false A c wsB w hw ht).mono fun e w' h => h.n (show (bndS 3 wsB 0 false).1 = [] by decide +kernel) (show (bndS 3 wsB 0 false).2 = 0 by decide +kernel) rfl

theorem span33B (A : Option Addr) (c : Nat) (w : World) (hw : WaysAt w w.heap.size A wsB) (ht : SizesAt w) : Calls Tryd.prog 33 #[.agg #[.int .i64 3, .slice A wsB.length c], .int .i64 0] w fun e w' => e = .returned (.tuple #[.int .i64 5, .int .i64 6, .int .i64 0]) ∧ Below w.heap.size w w' := by
  have h := span33_any 3 0 A c wsB w hw ht
  rwa [show spnS 3 wsB 0 = (5, 6, 0) by decide +kernel] at h

theorem spans35B (A : Option Addr) (c : Nat) (w : World) (hw : WaysAt w w.heap.size A wsB) (ht : SizesAt w) : Calls Tryd.prog 35 #[.agg #[.int .i64 3, .slice A wsB.length c]] w fun e w' => ∃ A' c', e = .returned (.tuple #[.slice A' 3 c', .int .i64 0]) ∧ PairsAt w' w'.heap.size A' [(5, 6), (5, 6), (5, 6)] ∧ Below w.heap.size w w' := by
  have h := spans_any 3 A c wsB w hw ht
  rwa [show spsS 3 wsB = ([(5, 6), (5, 6), (5, 6)], 0) by decide +kernel] at h

theorem saysB01 (A D : Option Addr) (c : Nat) (w : World) (hw : WaysAt w w.heap.size A wsB) (hd : IntsAt w w.heap.size D [0, 1]) : Calls Tryd.prog 40 #[.agg #[.int .i64 3, .slice A wsB.length c], .slice D 2 2, .int .i64 1] w fun e w' => e = .returned (.tuple #[.int .i64 6, .int .i64 0]) ∧ Below w.heap.size w w' := by
  have h := says40_any 3 1 A D c 2 wsB [0, 1] w (by decide) hw hd
  rwa [show sysS 3 wsB [0, 1] 1 = (6, 0) by decide +kernel] at h

theorem saysB2x (A D : Option Addr) (c : Nat) (w : World) (hw : WaysAt w w.heap.size A wsB) (hd : IntsAt w w.heap.size D [2]) : Calls Tryd.prog 40 #[.agg #[.int .i64 3, .slice A wsB.length c], .slice D 1 1, .int .i64 0] w fun e w' => e = .returned (.tuple #[.int .i64 0, .int .i64 12]) ∧ Below w.heap.size w w' := by
  have h := says40_any 3 0 A D c 1 wsB [2] w (by decide) hw hd
  rwa [show sysS 3 wsB [2] 0 = (0, 12) by decide +kernel] at h

theorem saysB1 (A D : Option Addr) (c : Nat) (w : World) (hw : WaysAt w w.heap.size A wsB) (hd : IntsAt w w.heap.size D [1]) : Calls Tryd.prog 40 #[.agg #[.int .i64 3, .slice A wsB.length c], .slice D 1 1, .int .i64 1] w fun e w' => e = .returned (.tuple #[.int .i64 9, .int .i64 0]) ∧ Below w.heap.size w w' := by
  have h := says40_any 3 1 A D c 1 wsB [1] w (by decide) hw hd
  rwa [show sysS 3 wsB [1] 1 = (9, 0) by decide +kernel] at h

theorem saysB2 (A D : Option Addr) (c : Nat) (w : World) (hw : WaysAt w w.heap.size A wsB) (hd : IntsAt w w.heap.size D [2]) : Calls Tryd.prog 40 #[.agg #[.int .i64 3, .slice A wsB.length c], .slice D 1 1, .int .i64 1] w fun e w' => e = .returned (.tuple #[.int .i64 4, .int .i64 0]) ∧ Below w.heap.size w w' := by
  have h := says40_any 3 1 A D c 1 wsB [2] w (by decide) hw hd
  rwa [show sysS 3 wsB [2] 1 = (4, 0) by decide +kernel] at h

theorem verifyB566 (A D : Option Addr) (c : Nat) (w : World) (hw : WaysAt w w.heap.size A wsB) (hd : IntsAt w w.heap.size D [5, 6, 6]) : Calls Tryd.prog 25 #[.agg #[.int .i64 3, .slice A wsB.length c], .slice D 3 3] w fun e w' => e = .returned (.int .i64 17) ∧ Below w.heap.size w w' := by
  have h := verify_any 3 A D c 3 wsB [5, 6, 6] w hw hd
  rwa [show verS 3 wsB [5, 6, 6] = 17 by decide +kernel] at h

theorem verifyB666 (A D : Option Addr) (c : Nat) (w : World) (hw : WaysAt w w.heap.size A wsB) (hd : IntsAt w w.heap.size D [6, 6, 6]) : Calls Tryd.prog 25 #[.agg #[.int .i64 3, .slice A wsB.length c], .slice D 3 3] w fun e w' => e = .returned (.int .i64 0) ∧ Below w.heap.size w w' := by
  have h := verify_any 3 A D c 3 wsB [6, 6, 6] w hw hd
  rwa [show verS 3 wsB [6, 6, 6] = 0 by decide +kernel] at h

theorem verifyB444 (A D : Option Addr) (c : Nat) (w : World) (hw : WaysAt w w.heap.size A wsB) (hd : IntsAt w w.heap.size D [4, 4, 4]) : Calls Tryd.prog 25 #[.agg #[.int .i64 3, .slice A wsB.length c], .slice D 3 3] w fun e w' => e = .returned (.int .i64 1) ∧ Below w.heap.size w w' := by
  have h := verify_any 3 A D c 3 wsB [4, 4, 4] w hw hd
  rwa [show verS 3 wsB [4, 4, 4] = 1 by decide +kernel] at h

theorem verifyB55 (A D : Option Addr) (c : Nat) (w : World) (hw : WaysAt w w.heap.size A wsB) (hd : IntsAt w w.heap.size D [5, 5]) : Calls Tryd.prog 25 #[.agg #[.int .i64 3, .slice A wsB.length c], .slice D 2 2] w fun e w' => e = .returned (.int .i64 5) ∧ Below w.heap.size w w' := by
  have h := verify_any 3 A D c 2 wsB [5, 5] w hw hd
  rwa [show verS 3 wsB [5, 5] = 5 by decide +kernel] at h

theorem provesC02 (A D : Option Addr) (c : Nat) (w : World) (hw : WaysAt w w.heap.size A wsC) (hd : IntsAt w w.heap.size D [0, 2]) : Calls Tryd.prog 31 #[.agg #[.int .i64 3, .slice A wsC.length c], .slice D 2 2] w fun e w' => e = .returned (.int .i64 0) ∧ Below w.heap.size w w' := by
  have h := proves_any 3 A D c 2 wsC [0, 2] w (by decide) hw hd
  rwa [show prvS 3 wsC [0, 2] = 0 by decide +kernel] at h

theorem provesC1 (A D : Option Addr) (c : Nat) (w : World) (hw : WaysAt w w.heap.size A wsC) (hd : IntsAt w w.heap.size D [1]) : Calls Tryd.prog 31 #[.agg #[.int .i64 3, .slice A wsC.length c], .slice D 1 1] w fun e w' => e = .returned (.int .i64 14) ∧ Below w.heap.size w w' := by
  have h := proves_any 3 A D c 1 wsC [1] w (by decide) hw hd
  rwa [show prvS 3 wsC [1] = 14 by decide +kernel] at h
end Go.Proofs.YtcebihijnedekaaDoor
