/-
  The books of the chapter's examples, as the statements make them.
-/
import Derived.Test.YtcebihijnedekaaDoorWalkY
namespace Go.Proofs.YtcebihijnedekaaDoor
open Go.RowKit

theorem ints_lit (w : World) (cs : Array Value) (l : List Int) (t : TypeId) (n : Nat) (h : cs = (l.map (Value.int .i64)).toArray) (hn : n = w.heap.size) :
    IntsAt (w.alloc (.cells cs t)) (w.alloc (.cells cs t)).heap.size (some ⟨n, 0, none⟩) l := by
  subst h hn; exact ints_new w l t

set_option maxRecDepth 100000 in
set_option maxHeartbeats 400000 in
theorem B_any (w : World) : Calls Tryd.prog 50 #[] w (RetBooks w 3 wsB) := by
  have HB : ∀ (W : World) (D : Option Addr), IntsAt W W.heap.size D [0, 1, 5, 9, 1, 2, 0, 7, 2, 0, 4, 6] → Calls Tryd.prog 52 #[.int .i64 3, .slice D 12 12] W (RetBooks W 3 wsB) := fun W D h => books_any 3 D 12 3 [0, 1, 5, 9, 1, 2, 0, 7, 2, 0, 4, 6] W rfl (by decide) h
  have HBH := Lib.hid HB
  have HI := Lib.hid (fun o => ints_lit (w.alloc o) #[.int .i64 0, .int .i64 1, .int .i64 5, .int .i64 9, .int .i64 1, .int .i64 2, .int .i64 0, .int .i64 7, .int .i64 2, .int .i64 0, .int .i64 4, .int .i64 6] [0, 1, 5, 9, 1, 2, 0, 7, 2, 0, 4, 6] 3 (w.heap.size + 1) rfl (by simp))
  clear HB
  go_enter Tryd.func50, Tryd.ntmps50
  go_wp2_with fail
  refine (HBH.out _ _ (HI.out _)).mono ?_
  rintro e w1 ⟨A, c, rfl, hA, hb1, hlo⟩
  have HLO := Lib.hid hlo
  clear hlo
  obtain ⟨q1, q2, q3⟩ := bcell hb1
  simp only [World.size_alloc] at q1 q2 q3
  have hb0 : Below w.heap.size w w1 := (((Below.refl w.heap.size w).alloc (Nat.le_refl _) _).alloc (by simp) _).trans (hb1.mono (by simp; omega))
  have c0 : w1.cell? ⟨w.heap.size, 0, none⟩ = some (.int .i64 0) := by rw [q1 _ _ (by omega)]; simp [go_sem]
  have c1 : w1.cell? ⟨w.heap.size, 1, none⟩ = some (.slice none 0 0) := by rw [q1 _ _ (by omega)]; simp [go_sem]
  have f0 : w1.frozen? ⟨w.heap.size, 0, none⟩ = false := by rw [q2 _ _ (by omega)]; simp [go_sem]
  have f1 : w1.frozen? ⟨w.heap.size, 1, none⟩ = false := by rw [q2 _ _ (by omega)]; simp [go_sem]
  clear q1 q2
  go_wp2
  refine bodyPost_ret (v := .agg #[.int .i64 3, .slice A wsB.length c]) (by simp [results, Tryd.results50, go_sem, c0, c1]) rfl ⟨A, c, rfl, ?_, (hb0.setCell (p := ⟨w.heap.size, 0, none⟩) (Nat.le_refl _) _).setCell (p := ⟨w.heap.size, 1, none⟩) (Nat.le_refl _) _, fun ad had => by have := HLO.out ad had; simp at this; omega⟩
  intro k x hx
  obtain ⟨b, off, rfl, h2, h3, h4, h5, h6⟩ := hA k x hx
  have hbn := HLO.out _ rfl
  simp only [World.size_alloc] at hbn
  have hn : ¬ w.heap.size = b := by omega
  exact ⟨b, off, rfl, by simpa using h2, by simpa [go_sem, hn] using h3, by simpa [go_sem, hn] using h4, by simpa [go_sem, hn] using h5, by simpa [go_sem, hn] using h6⟩

set_option maxRecDepth 100000 in
set_option maxHeartbeats 400000 in
theorem C_any (w : World) : Calls Tryd.prog 53 #[] w (RetBooks w 3 wsC) := by
  have HB : ∀ (W : World) (D : Option Addr), IntsAt W W.heap.size D [0, 1, 5, 9, 1, 2, 0, 3, 2, 0, 0, 9, 1, 0, 0, 1] → Calls Tryd.prog 52 #[.int .i64 3, .slice D 16 16] W (RetBooks W 3 wsC) := fun W D h => books_any 3 D 16 4 [0, 1, 5, 9, 1, 2, 0, 3, 2, 0, 0, 9, 1, 0, 0, 1] W rfl (by decide) h
  have HBH := Lib.hid HB
  have HI := Lib.hid (fun o => ints_lit (w.alloc o) #[.int .i64 0, .int .i64 1, .int .i64 5, .int .i64 9, .int .i64 1, .int .i64 2, .int .i64 0, .int .i64 3, .int .i64 2, .int .i64 0, .int .i64 0, .int .i64 9, .int .i64 1, .int .i64 0, .int .i64 0, .int .i64 1] [0, 1, 5, 9, 1, 2, 0, 3, 2, 0, 0, 9, 1, 0, 0, 1] 3 (w.heap.size + 1) rfl (by simp))
  clear HB
  go_enter Tryd.func53, Tryd.ntmps53
  go_wp2_with fail
  refine (HBH.out _ _ (HI.out _)).mono ?_
  rintro e w1 ⟨A, c, rfl, hA, hb1, hlo⟩
  have HLO := Lib.hid hlo
  clear hlo
  obtain ⟨q1, q2, q3⟩ := bcell hb1
  simp only [World.size_alloc] at q1 q2 q3
  have hb0 : Below w.heap.size w w1 := (((Below.refl w.heap.size w).alloc (Nat.le_refl _) _).alloc (by simp) _).trans (hb1.mono (by simp; omega))
  have c0 : w1.cell? ⟨w.heap.size, 0, none⟩ = some (.int .i64 0) := by rw [q1 _ _ (by omega)]; simp [go_sem]
  have c1 : w1.cell? ⟨w.heap.size, 1, none⟩ = some (.slice none 0 0) := by rw [q1 _ _ (by omega)]; simp [go_sem]
  have f0 : w1.frozen? ⟨w.heap.size, 0, none⟩ = false := by rw [q2 _ _ (by omega)]; simp [go_sem]
  have f1 : w1.frozen? ⟨w.heap.size, 1, none⟩ = false := by rw [q2 _ _ (by omega)]; simp [go_sem]
  clear q1 q2
  go_wp2
  refine bodyPost_ret (v := .agg #[.int .i64 3, .slice A wsC.length c]) (by simp [results, Tryd.results53, go_sem, c0, c1]) rfl ⟨A, c, rfl, ?_, (hb0.setCell (p := ⟨w.heap.size, 0, none⟩) (Nat.le_refl _) _).setCell (p := ⟨w.heap.size, 1, none⟩) (Nat.le_refl _) _, fun ad had => by have := HLO.out ad had; simp at this; omega⟩
  intro k x hx
  obtain ⟨b, off, rfl, h2, h3, h4, h5, h6⟩ := hA k x hx
  have hbn := HLO.out _ rfl
  simp only [World.size_alloc] at hbn
  have hn : ¬ w.heap.size = b := by omega
  exact ⟨b, off, rfl, by simpa using h2, by simpa [go_sem, hn] using h3, by simpa [go_sem, hn] using h4, by simpa [go_sem, hn] using h5, by simpa [go_sem, hn] using h6⟩
end Go.Proofs.YtcebihijnedekaaDoor
