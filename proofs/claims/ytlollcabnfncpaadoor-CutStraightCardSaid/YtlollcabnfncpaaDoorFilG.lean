/-
  The statements' fillings: the walk of their function.
-/
import Derived.Test.YtlollcabnfncpaaDoorFilF
import Derived.Laws.EntriesVeiled
namespace Go.Proofs.YtlollcabnfncpaaDoor
open Go.RowKit

/-- What lies in memory ahead of the first card. -/
def startW (s : Sh) (k : Nat) (caps : Array Value) (w : World) : World :=
  ((((w.alloc (.cells #[.int .i64 s.r, .int .i64 s.c, .int .i64 s.l, .int .i64 s.w] 23)).alloc (.cells #[.func (.func k) #[] caps] 70)).alloc (.cells (Array.replicate 36 (.bool false)) 139)).alloc (.cells #[.slice none 0 0] 29)).alloc
    (.cells #[.func (.func 94) #[] #[.pointer (some ⟨w.heap.size, 0, none⟩), .pointer (some ⟨w.heap.size + 1 + 1, 0, none⟩), .pointer (some ⟨w.heap.size + 1, 0, none⟩), .pointer (some ⟨w.heap.size + 1 + 1 + 1, 0, none⟩), .pointer (some ⟨w.heap.size + 1 + 1 + 1 + 1, 0, none⟩)]] 71)
def startZ (w : World) : FP := ⟨w.heap.size, w.heap.size + 1 + 1, w.heap.size + 1, w.heap.size + 1 + 1 + 1, w.heap.size + 1 + 1 + 1 + 1, w.heap.size + 1 + 1 + 1 + 1 + 1⟩
theorem startW_below (s : Sh) (k : Nat) (caps : Array Value) (w : World) : Below w.heap.size w (startW s k caps w) :=
  (((((Below.refl _ w).alloc (Nat.le_refl _) _).alloc (by simp) _).alloc (by simp; omega) _).alloc (by simp; omega) _).alloc (by simp; omega) _
theorem fil_start {σ : Type} (s : Sh) (F : EachF σ) (st : σ) (B : Nat → Prop) (w : World) (hI : F.I st B w) : FilI s (startZ w) F (startW s F.k F.caps w) st B 0 (.slice none 0 0) [] := by
  have hlt := fun i hi => F.lt hI i hi
  have hb := startW_below s F.k F.caps w
  refine ⟨?_, ?_, ?_, ?_, ⟨fun r c hr hc => ?_, fun o => ?_⟩, ?_, ?_, ?_, World.ownsRow_nil _ _ _ _, ?_, F.keep hI (Chg.of_below (P := fun _ => False) hb) (fun _ _ e => e), fun g hg => ?_, fun i hi => ?_, ⟨?_, ?_, ?_, ?_⟩, ⟨?_, ?_, ?_⟩, ?_⟩
  · simp [startW, startZ, go_sem]
  · simp [startW, startZ, go_sem]
  · simp [startW, startZ, go_sem]
  · simp [startW, startZ, go_sem]
  · rw [usB_zero]
    have hi : r * 6 + c < 36 := by omega
    simp [startW, startZ, go_sem, hi]
  · simp [startW, startZ, go_sem]
  · simp [startW, startZ, go_sem]
  · simp [startW, startZ, go_sem]
  · simp [startW, startZ, go_sem]
  · simp [startW, startZ, go_sem]
  · cases hg
  · simp only [startZ, List.mem_cons, List.not_mem_nil, or_false] at hi ⊢
    refine ⟨fun hB => ?_, by omega⟩
    have := hlt i hB
    omega
  · dsimp only [startZ]; omega
  · dsimp only [startZ]; omega
  · dsimp only [startZ]; omega
  · dsimp only [startZ]; omega
  · dsimp only [startZ]; omega
  · dsimp only [startZ]; omega
  · dsimp only [startZ]; omega
  · simp [startW, startZ]

set_option maxRecDepth 100000 in
set_option maxHeartbeats 4000000 in
/-- The function is called with each filling, in order, until it says no. -/
theorem fillings_any {σ : Type} (s : Sh) (F : EachF σ) (st : σ) (B : Nat → Prop) (w : World) (hs : s.Ok) (hE : EachS s F) (hI : F.I st B w) :
    Calls Tryd.prog 44 #[.agg #[.int .i64 s.r, .int .i64 s.c, .int .i64 s.l, .int .i64 s.w], .func (.func F.k) #[] F.caps] w fun e w' =>
      e = .returned (.bool (runF F.f st (filC s 0 [])).2) ∧ ∃ B', (F.I (runF F.f st (filC s 0 [])).1 B' w' ∧ ∀ i, B' i → B i ∨ w.heap.size ≤ i) ∧ Chg B w w' := by
  have hmf : ∀ (fn : Fn) (first cap : Array Value) (w : World), (Instr.makeFunc fn first cap).run Tryd.prog w = .ok (.func fn first cap) w := fun _ _ _ _ => rfl
  have hl := lft_le hs 0
  have HL := Lib.hid (fil_every s (startZ w) F hs hE 37 0 [] (startW s F.k F.caps w) st B (.slice none 0 0) 0 (by omega) (InS.zero s) (by simp) (by simp; omega) (by simp) (Nat.zero_le _) (fil_start s F st B w hI))
  clear hE hl
  have hfy := (fil_start s F st B w hI).fy
  have hb := startW_below s F.k F.caps w
  have HLT := Lib.hid (fun i hi => F.lt hI i hi)
  clear hI
  generalize runF F.f st (filC s 0 []) = r at *
  go_enter Tryd.func44, Tryd.ntmps44
  go_upto_region 5 with fail
  have hgr : (#[Value.bool false, Value.bool false, Value.bool false, Value.bool false, Value.bool false, Value.bool false, Value.bool false, Value.bool false, Value.bool false, Value.bool false, Value.bool false, Value.bool false, Value.bool false, Value.bool false, Value.bool false, Value.bool false, Value.bool false, Value.bool false, Value.bool false, Value.bool false, Value.bool false, Value.bool false, Value.bool false, Value.bool false, Value.bool false, Value.bool false, Value.bool false, Value.bool false, Value.bool false, Value.bool false, Value.bool false, Value.bool false, Value.bool false, Value.bool false, Value.bool false, Value.bool false] : Array Value) = Array.replicate 36 (.bool false) := rfl
  rw [hgr]
  clear hgr
  change Code.wp Tryd.prog _ _ _ (startW s F.k F.caps w)
  obtain ⟨W, hW⟩ : ∃ W, W = startW s F.k F.caps w := ⟨_, rfl⟩
  rw [← hW] at HL hfy hb ⊢
  clear hW
  have hfy' : W.cell? ⟨w.heap.size + 1 + 1 + 1 + 1, 0, none⟩ = some (.func (.func 94) #[] #[.pointer (some ⟨w.heap.size, 0, none⟩), .pointer (some ⟨w.heap.size + 1 + 1, 0, none⟩), .pointer (some ⟨w.heap.size + 1, 0, none⟩), .pointer (some ⟨w.heap.size + 1 + 1 + 1, 0, none⟩), .pointer (some ⟨w.heap.size + 1 + 1 + 1 + 1, 0, none⟩)]) := hfy
  clear hfy
  go_wp2_with (go_at_call 94; refine Calls.mono (show Calls Tryd.prog 94 #[.int .i64 0, .pointer (some ⟨w.heap.size, 0, none⟩), .pointer (some ⟨w.heap.size + 1 + 1, 0, none⟩), .pointer (some ⟨w.heap.size + 1, 0, none⟩), .pointer (some ⟨w.heap.size + 1 + 1 + 1, 0, none⟩), .pointer (some ⟨w.heap.size + 1 + 1 + 1 + 1, 0, none⟩)] W _ from HL.out) ?_; rintro e w7 ⟨rfl, B7, ⟨hF7, hB7⟩, hc7, _⟩)
  go_ret
  refine ⟨rfl, B7, ⟨hF7, fun i hi => ?_⟩, (Chg.of_below hb).trans hc7 (fun i hi e => ?_)⟩
  · rcases hB7 i hi with e | e
    · exact .inl e
    · exact .inr (Nat.le_trans hb.size e)
  · rcases e with e | e | e | e
    · exact e
    · have e : i = w.heap.size + 1 + 1 := e; omega
    · have e : i = w.heap.size + 1 + 1 + 1 := e; omega
    · cases e
end Go.Proofs.YtlollcabnfncpaaDoor
