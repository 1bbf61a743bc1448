/-
  The walks of what checks a sheet, makes a memo, and counts fillings.
-/
import Derived.Test.YtlollcabnfncpaaDoorMemo
import Derived.LoopN
namespace Go.Proofs.YtlollcabnfncpaaDoor
open Go.RowKit Go.Maps

/-- The error of a sheet. -/
def chkS (r c l v : Int) : Int := if (1 ≤ r ∧ r ≤ 6) ∧ (1 ≤ c ∧ c ≤ 6) ∧ (1 ≤ l ∧ l ≤ 6) ∧ 1 ≤ v ∧ v ≤ 6 then 0 else 1

set_option maxRecDepth 100000 in
set_option maxHeartbeats 1000000 in
theorem check_any (r c l v : Int) (w : World) :
    Calls Tryd.prog 20 #[.agg #[.int .i64 r, .int .i64 c, .int .i64 l, .int .i64 v]] w fun e w' => e = .returned (.int .i64 (chkS r c l v)) ∧ Below w.heap.size w w' := by
  have i0 : ∀ w, (Instr.index 100 (.agg #[.int .i64 r, .int .i64 c, .int .i64 l, .int .i64 v]) (.int .i64 0)).run Tryd.prog w = .ok (.int .i64 r) w := fun _ => by kernel_rfl
  have i1 : ∀ w, (Instr.index 100 (.agg #[.int .i64 r, .int .i64 c, .int .i64 l, .int .i64 v]) (.int .i64 1)).run Tryd.prog w = .ok (.int .i64 c) w := fun _ => by kernel_rfl
  have i2 : ∀ w, (Instr.index 100 (.agg #[.int .i64 r, .int .i64 c, .int .i64 l, .int .i64 v]) (.int .i64 2)).run Tryd.prog w = .ok (.int .i64 l) w := fun _ => by kernel_rfl
  have i3 : ∀ w, (Instr.index 100 (.agg #[.int .i64 r, .int .i64 c, .int .i64 l, .int .i64 v]) (.int .i64 3)).run Tryd.prog w = .ok (.int .i64 v) w := fun _ => by kernel_rfl
  by_cases h1 : r < 1 ∨ 6 < r
  · have hz : chkS r c l v = 1 := by unfold chkS; rw [if_neg (by omega)]
    rw [hz]
    clear hz
    rcases h1 with h1 | h1
    all_goals
      (try have h1' : ¬ r < 1 := by omega)
      go_enter Tryd.func20, Tryd.ntmps20
      go_wp2
      refine wp_loop_rounds 4 ?_
      rw [rounds_succ]
      go_wp2
      go_ret
      exact ⟨rfl, below_new _ _⟩
  · have h1a : 1 ≤ r := by omega
    have h1b : r ≤ 6 := by omega
    clear h1
    by_cases h2 : c < 1 ∨ 6 < c
    · have hz : chkS r c l v = 1 := by unfold chkS; rw [if_neg (by omega)]
      rw [hz]
      clear hz
      rcases h2 with h2 | h2
      all_goals
        (try have h2' : ¬ c < 1 := by omega)
        go_enter Tryd.func20, Tryd.ntmps20
        go_wp2
        refine wp_loop_rounds 4 ?_
        rw [rounds_succ]
        go_wp2
        rw [rounds_succ]
        go_wp2
        go_ret
        exact ⟨rfl, below_new _ _⟩
    · have h2a : 1 ≤ c := by omega
      have h2b : c ≤ 6 := by omega
      clear h2
      by_cases h3 : l < 1 ∨ 6 < l
      · have hz : chkS r c l v = 1 := by unfold chkS; rw [if_neg (by omega)]
        rw [hz]
        clear hz
        rcases h3 with h3 | h3
        all_goals
          (try have h3' : ¬ l < 1 := by omega)
          go_enter Tryd.func20, Tryd.ntmps20
          go_wp2
          refine wp_loop_rounds 4 ?_
          rw [rounds_succ]
          go_wp2
          rw [rounds_succ]
          go_wp2
          rw [rounds_succ]
          go_wp2
          go_ret
          exact ⟨rfl, below_new _ _⟩
      · have h3a : 1 ≤ l := by omega
        have h3b : l ≤ 6 := by omega
        clear h3
        by_cases h4 : v < 1 ∨ 6 < v
        · have hz : chkS r c l v = 1 := by unfold chkS; rw [if_neg (by omega)]
          rw [hz]
          clear hz
          rcases h4 with h4 | h4
          all_goals
            (try have h4' : ¬ v < 1 := by omega)
            go_enter Tryd.func20, Tryd.ntmps20
            go_wp2
            refine wp_loop_rounds 4 ?_
            rw [rounds_succ]
            go_wp2
            rw [rounds_succ]
            go_wp2
            rw [rounds_succ]
            go_wp2
            rw [rounds_succ]
            go_wp2
            go_ret
            exact ⟨rfl, below_new _ _⟩
        · have hz : chkS r c l v = 0 := by unfold chkS; rw [if_pos (by omega)]
          rw [hz]
          clear hz
          have h4a : 1 ≤ v := by omega
          have h4b : v ≤ 6 := by omega
          clear h4
          go_enter Tryd.func20, Tryd.ntmps20
          go_wp2
          refine wp_loop_rounds 5 ?_
          rw [rounds_succ]
          go_wp2
          rw [rounds_succ]
          go_wp2
          rw [rounds_succ]
          go_wp2
          rw [rounds_succ]
          go_wp2
          rw [rounds_succ]
          go_wp2
          go_ret
          exact ⟨rfl, below_new _ _⟩

theorem chkS_ok {s : Sh} (hs : s.Ok) : chkS s.r s.c s.l s.w = 0 := by
  have := hs.r1; have := hs.r6; have := hs.c1; have := hs.c6; have := hs.l1; have := hs.l6; have := hs.w1; have := hs.w6
  unfold chkS; rw [if_pos (by omega)]
/-- A sheet without an error. -/
theorem ok_of_chk {r c l v : Int} (h : chkS r c l v = 0) : ∃ s : Sh, s.Ok ∧ r = s.r ∧ c = s.c ∧ l = s.l ∧ v = s.w := by
  unfold chkS at h
  split at h
  · refine ⟨⟨r.toNat, c.toNat, l.toNat, v.toNat⟩, ⟨?_, ?_, ?_, ?_, ?_, ?_, ?_, ?_⟩, ?_, ?_, ?_, ?_⟩ <;> dsimp only <;> omega
  · omega
theorem chkS_01 (r c l v : Int) : chkS r c l v = 0 ∨ chkS r c l v = 1 := by unfold chkS; split <;> simp

theorem newMemo_any (k : Nat) (q : Addr) (w : World) :
    Calls Tryd.prog 105 #[.func (.func k) #[] #[.pointer (some q)]] w fun e w' => e = .returned (.pointer (some ⟨w.heap.size + 1, 0, none⟩)) ∧ (w.alloc (.map #[] 0)).alloc (.cells #[.func (.func k) #[] #[.pointer (some q)], .map (some w.heap.size)] 156) = w' := by
  have hmm := @run_makeMap Tryd.prog
  go_enter Tryd.func105, Tryd.ntmps105
  go_wp2
  go_ret
  exact ⟨rfl, rfl⟩

/-- A new memo is handed back. -/
def RetCounter (s : Sh) (w : World) (e : Ending) (w' : World) : Prop := ∃ p b g, e = .returned (.pointer (some ⟨p, 0, none⟩)) ∧ MemoI s p b g w' 0 (.map []) ∧ Below w.heap.size w w' ∧ w.heap.size ≤ b

theorem counter_any (s : Sh) (w : World) (ht : TabW w) :
    Calls Tryd.prog 68 #[.agg #[.int .i64 s.r, .int .i64 s.c, .int .i64 s.l, .int .i64 s.w]] w (RetCounter s w) := by
  have hmf : ∀ (fn : Fn) (first cap : Array Value) (w : World), (Instr.makeFunc fn first cap).run Tryd.prog w = .ok (.func fn first cap) w := fun _ _ _ _ => rfl
  go_enter Tryd.func68, Tryd.ntmps68
  go_wp2_with (go_at_call 105; refine (newMemo_any 106 _ _).mono ?_; rintro e w1 ⟨rfl, rfl⟩)
  go_ret
  have hb : Below w.heap.size w (((w.alloc (.cells #[.int .i64 s.r, .int .i64 s.c, .int .i64 s.l, .int .i64 s.w] 23)).alloc (.map #[] 0)).alloc (.cells #[.func (.func 106) #[] #[.pointer (some ⟨w.heap.size, 0, none⟩)], .map (some (w.heap.size + 1))] 156)) := (((Below.refl _ _).alloc (Nat.le_refl _) _).alloc (by simp) _).alloc (by simp; omega) _
  refine ⟨w.heap.size + 1 + 1, w.heap.size + 1, w.heap.size, rfl, ⟨?_, ?_, ?_, ?_, ?_, ?_, ?_, ?_, ht.below hb, ?_⟩, hb, by omega⟩
  · simp [go_sem]
  · simp [go_sem]
  · simp [go_sem]
  · simp [go_sem]
  · simp [go_sem]
  · simp [go_sem]
  · have := World.ownsMap_made (H := Unit) (w.alloc (.cells #[.int .i64 s.r, .int .i64 s.c, .int .i64 s.l, .int .i64 s.w] 23)) Tryd.prog 105 (plainElem Tryd.prog 3)
    rw [World.size_alloc] at this
    exact this.alloc _
  · intro k hk
    simp [Maps.has] at hk
  · exact KeysN.empty

theorem of_any (s : Sh) (p b g : Nat) (hs : s.Ok) : ∀ n, OfSpec s p b g n
  | 0 => fun _ _ _ _ hl => absurd hl (Nat.not_lt_zero _)
  | n + 1 => of_step s p b g n hs (rule_step s p b g n hs (of_any s p b g hs n))

/-- The number of fillings of what is left. -/
theorem of37 (s : Sh) (p b g cov m : Nat) (D : DataW Unit) (w : World) (hs : s.Ok) (hc : InS s cov) (hm : MemoI s p b g w m D) (hN : m ≤ 576460752303423488) :
    Calls Tryd.prog 69 #[.pointer (some ⟨p, 0, none⟩), .int .u64 cov] w (RetMemo s p b g m 137438953472 w (cntC s cov)) :=
  of_any s p b g hs 37 cov w m D (by have := lft_le hs cov; omega) hc hm (by omega)

/-- All fillings; their number. -/
def allF (s : Sh) : List (List Cd) := filC s 0 []
def cntS (r c l v : Int) : Int := if chkS r c l v = 0 then (cntC ⟨r.toNat, c.toNat, l.toNat, v.toNat⟩ 0 : Nat) else 0

set_option maxRecDepth 100000 in
set_option maxHeartbeats 1000000 in
theorem count_any (r c l v : Int) (w : World) (ht : TabW w) :
    Calls Tryd.prog 23 #[.agg #[.int .i64 r, .int .i64 c, .int .i64 l, .int .i64 v]] w fun e w' => e = .returned (.tuple #[.int .i64 (cntS r c l v), .int .i64 (chkS r c l v)]) ∧ Below w.heap.size w w' := by
  have HC := Lib.hid (fun W => check_any r c l v W)
  by_cases h0 : chkS r c l v = 0
  · obtain ⟨s, hs, rfl, rfl, rfl, rfl⟩ := ok_of_chk h0
    have e : cntS s.r s.c s.l s.w = (cntC s 0 : Nat) := by unfold cntS; rw [if_pos h0]; rfl
    rw [e]
    rw [h0] at HC ⊢
    clear e h0
    have HN := Lib.hid (fun W h => counter_any s W h)
    have HO := Lib.hid (fun p b g W h => of37 s p b g 0 0 (.map []) W hs (InS.zero s) h (by omega))
    generalize cntC s 0 = z at HO ⊢
    go_enter Tryd.func23, Tryd.ntmps23
    go_wp2_with (first
      | (go_at_call 20; refine (HC.out _).mono ?_; rintro e w1 ⟨rfl, hb1⟩; obtain ⟨q1, q2, q3⟩ := bcell hb1; simp only [World.size_alloc] at q1 q2 q3; have hbb := below_via hb1)
      | (go_at_call 68; refine (HN.out _ (ht.below hbb)).mono ?_; rintro e w2 ⟨p, b, g, rfl, hm, hb2, hlb⟩)
      | (go_at_call 69; refine (HO.out _ _ _ _ hm).mono ?_; rintro e w3 ⟨rfl, m', D', hm', _, hch⟩))
    go_ret2
    exact ⟨rfl, (below_then hbb hb2).trans (hch.below (by have := hb2.size; omega) (fun i hi h => by have := hbb.size; omega))⟩
  · have e : cntS r c l v = 0 := by unfold cntS; rw [if_neg h0]
    have e1 := (chkS_01 r c l v).resolve_left h0
    rw [e]
    rw [e1] at HC ⊢
    clear e e1 h0
    go_enter Tryd.func23, Tryd.ntmps23
    go_wp2_with (go_at_call 20; refine (HC.out _).mono ?_; rintro e w1 ⟨rfl, hb1⟩)
    go_ret2
    exact ⟨rfl, below_via hb1⟩

def canS (r c l v : Int) : Bool := decide (0 < cntS r c l v)

theorem cntS_le (r c l v : Int) : 0 ≤ cntS r c l v ∧ cntS r c l v ≤ 137438953472 := by
  unfold cntS
  split
  · have := cntC_le ⟨r.toNat, c.toNat, l.toNat, v.toNat⟩ 0
    omega
  · omega

theorem can_any (r c l v : Int) (w : World) (ht : TabW w) :
    Calls Tryd.prog 15 #[.agg #[.int .i64 r, .int .i64 c, .int .i64 l, .int .i64 v]] w fun e w' => e = .returned (.tuple #[.bool (canS r c l v), .int .i64 (chkS r c l v)]) ∧ Below w.heap.size w w' := by
  have HC := Lib.hid (fun W h => count_any r c l v W h)
  have hbb := ht.below (below_new w (.cells #[.int .i64 r, .int .i64 c, .int .i64 l, .int .i64 v] 23))
  unfold canS
  generalize cntS r c l v = z at HC ⊢
  go_enter Tryd.func15, Tryd.ntmps15
  go_wp2_with (go_at_call 23; refine (HC.out _ hbb).mono ?_; rintro e w1 ⟨rfl, hb1⟩)
  go_ret2
  exact ⟨rfl, below_via hb1⟩
end Go.Proofs.YtlollcabnfncpaaDoor
