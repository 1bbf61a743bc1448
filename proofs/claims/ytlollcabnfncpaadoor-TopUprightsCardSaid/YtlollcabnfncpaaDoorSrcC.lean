/-
  The first filling that is wanted: the walks of the search, of firstOf, and of Fill.
-/
import Derived.Test.YtlollcabnfncpaaDoorSrcB
import Derived.Laws.EntriesVeiled
namespace Go.Proofs.YtlollcabnfncpaaDoor
open Go.RowKit Go.Maps

/-- The first filling that is wanted is handed back, or none. -/
def RetSearch (s : Sh) (q : List Cd → Bool) (w : World) (e : Ending) (w' : World) : Prop :=
  ∃ A c, e = .returned (.tuple #[.slice A (((allF s).find? q).getD []).length c, .bool ((allF s).find? q).isSome]) ∧ CardsAt w' w'.heap.size A (((allF s).find? q).getD []) ∧ Below w.heap.size w w'

theorem allF_fits {s : Sh} (hs : s.Ok) : ∀ (n cov : Nat) (pre : List Cd), (∀ x ∈ pre, fitP s x) → ∀ l ∈ fils s n cov pre, ∀ x ∈ l, fitP s x
  | 0, _, _, _, l, h => by simp [fils] at h
  | n + 1, cov, pre, hp, l, h => by
    rw [fils] at h
    split at h
    · rw [List.mem_singleton] at h; subst h; exact hp
    · obtain ⟨y, hy, hl⟩ := List.mem_flatMap.1 h
      refine allF_fits hs n _ _ (fun x hx => ?_) l hl
      rcases List.mem_append.1 hx with hx | hx
      · exact hp x hx
      · rw [List.mem_singleton] at hx; rw [hx]; exact (mem_nxt hy).2.1

theorem ne_own {w : World} {e : TypeId} {size : Nat} {base n : Nat} {v : Value} {xs : List Value} (h : w.ownsRow base e size v n xs) : ∀ g, v.ownBlock = some g → base ≤ g := fun g hg => (h.lt g hg).1

/-- What lies in memory ahead of the first card. -/
theorem lay_start (s : Sh) (gz p b g k : Nat) (caps : Array Value) (w w1 : World) (ht : TabW w)
    (z0 : w.cell? ⟨gz, 0, none⟩ = some (.int .i64 s.r)) (z1 : w.cell? ⟨gz, 1, none⟩ = some (.int .i64 s.c)) (z2 : w.cell? ⟨gz, 2, none⟩ = some (.int .i64 s.l)) (z3 : w.cell? ⟨gz, 3, none⟩ = some (.int .i64 s.w))
    (hm : MemoI s p b g w1 0 (.map []))
    (hb1 : Below ((w.alloc (.cells #[.int .i64 s.r, .int .i64 s.c, .int .i64 s.l, .int .i64 s.w] 23)).alloc (.cells #[.func (.func k) #[] caps] 70)).heap.size ((w.alloc (.cells #[.int .i64 s.r, .int .i64 s.c, .int .i64 s.l, .int .i64 s.w] 23)).alloc (.cells #[.func (.func k) #[] caps] 70)) w1) :
    LayI s ⟨w.heap.size, w.heap.size + 1, w1.heap.size + 1, w1.heap.size, w1.heap.size + 1 + 1, gz, p, b, g, w1.heap.size + 1 + 1 + 1⟩ (.func (.func k) #[] caps)
      (((w1.alloc (.cells #[.pointer (some ⟨p, 0, none⟩)] 101)).alloc (.cells #[.slice none 0 0] 29)).alloc (.cells #[.func (.func 128) #[] #[.pointer (some ⟨w.heap.size, 0, none⟩), .pointer (some ⟨w.heap.size + 1, 0, none⟩), .pointer (some ⟨w1.heap.size + 1, 0, none⟩), .pointer (some ⟨w1.heap.size, 0, none⟩), .pointer (some ⟨w1.heap.size + 1 + 1, 0, none⟩)]] 188))
      (.map []) (.slice none 0 0) [] := by
  have hz := hb1.size
  simp only [World.size_alloc] at hz
  have hgz := lt_of_cell z0
  have hb0 : Below w.heap.size w w1 := ((((Below.refl _ _).alloc (Nat.le_refl _) _).alloc (by simp) _).trans (hb1.mono (by simp; omega)))
  have hbW : Below w1.heap.size w1 (((w1.alloc (.cells #[.pointer (some ⟨p, 0, none⟩)] 101)).alloc (.cells #[.slice none 0 0] 29)).alloc (.cells #[.func (.func 128) #[] #[.pointer (some ⟨w.heap.size, 0, none⟩), .pointer (some ⟨w.heap.size + 1, 0, none⟩), .pointer (some ⟨w1.heap.size + 1, 0, none⟩), .pointer (some ⟨w1.heap.size, 0, none⟩), .pointer (some ⟨w1.heap.size + 1 + 1, 0, none⟩)]] 188)) :=
    (((Below.refl _ _).alloc (Nat.le_refl _) _).alloc (by simp) _).alloc (by simp; omega) _
  have c := fun {i o : Nat} {v : Value} (e : w1.cell? ⟨i, o, none⟩ = some v) => (hbW.cell (p := ⟨i, o, none⟩) (lt_of_cell e)).trans e
  have d := fun {i o : Nat} {v : Value} (e : ((w.alloc (.cells #[.int .i64 s.r, .int .i64 s.c, .int .i64 s.l, .int .i64 s.w] 23)).alloc (.cells #[.func (.func k) #[] caps] 70)).cell? ⟨i, o, none⟩ = some v) => c ((hb1.cell (p := ⟨i, o, none⟩) (lt_of_cell e)).trans e)
  have y := fun {i o : Nat} {v : Value} (e : w.cell? ⟨i, o, none⟩ = some v) => c ((hb0.cell (p := ⟨i, o, none⟩) (lt_of_cell e)).trans e)
  have hp := lt_of_cell hm.fn
  have hg := lt_of_cell hm.s0
  have hbm : b < w1.heap.size := by obtain ⟨es, clock, h, _⟩ := hm.own; exact lt_of_heap h
  refine ⟨d ?_, d ?_, d ?_, d ?_, y z0, y z1, y z2, y z3, d ?_, ?_, ?_, World.ownsRow_nil _ _ _ _, ?_, ?_, (hm.below hbW).few, ?_, ?_, ?_⟩
  · simp [go_sem]
  · simp [go_sem]
  · simp [go_sem]
  · simp [go_sem]
  · simp [go_sem]
  · simp [go_sem]
  · simp [go_sem]
  · simp [go_sem]
  · simp [go_sem]
  · have h0 := ht.1
    intro i hi
    simp only [List.mem_cons, List.not_mem_nil, or_false] at hi
    dsimp only
    rcases hi with rfl | rfl | rfl | rfl | rfl | rfl | rfl | rfl | rfl <;> omega
  · dsimp only; omega
  · simp

set_option maxRecDepth 100000 in
set_option maxHeartbeats 2000000 in
theorem search_any (s : Sh) (k : Nat) (caps : Array Value) (gz : Nat) (q : List Cd → Bool) (w : World) (hs : s.Ok) (ht : TabW w) (hL : ∀ Z : LP, Z.gz = gz → LaySpec s Z (.func (.func k) #[] caps) q 37)
    (z0 : w.cell? ⟨gz, 0, none⟩ = some (.int .i64 s.r)) (z1 : w.cell? ⟨gz, 1, none⟩ = some (.int .i64 s.c)) (z2 : w.cell? ⟨gz, 2, none⟩ = some (.int .i64 s.l)) (z3 : w.cell? ⟨gz, 3, none⟩ = some (.int .i64 s.w)) :
    Calls Tryd.prog 104 #[.agg #[.int .i64 s.r, .int .i64 s.c, .int .i64 s.l, .int .i64 s.w], .func (.func k) #[] caps] w (RetSearch s q w) := by
  have hmf : ∀ (fn : Fn) (first cap : Array Value) (w : World), (Instr.makeFunc fn first cap).run Tryd.prog w = .ok (.func fn first cap) w := fun _ _ _ _ => rfl
  have HC := Lib.hid (fun W h => counter_any s W h)
  have HI := Lib.hid (fun p b g w1 hm hb1 => lay_start s gz p b g k caps w w1 ht z0 z1 z2 z3 hm hb1)
  have HL := Lib.hid (fun (Z : LP) (hZ : Z.gz = gz) (W : World) D v (h : LayI s Z (.func (.func k) #[] caps) W D v []) => hL Z hZ 0 [] W D v (by have := lft_le hs 0; omega) (InS.zero s) (by simp) (by have := lft_le hs 0; simp; omega) h)
  unfold RetSearch
  unfold allF
  generalize hR : (filC s 0 []).find? q = R at HL ⊢
  clear hL z0 z1 z2 z3 hR
  rcases R with _ | r
  · go_enter Tryd.func104, Tryd.ntmps104
    go_wp2_with (first
      | (go_at_call 68; refine (HC.out _ (ht.below (((Below.refl _ _).alloc (Nat.le_refl _) _).alloc (by simp) _))).mono ?_; rintro e w1 ⟨p, b, g, rfl, hm, hb1, hlb⟩; obtain ⟨q1, q2, q3⟩ := bcell hb1; simp only [World.size_alloc] at q1 q2 q3)
      | (go_at_call 128; refine (HL.out ⟨_, _, _, _, _, gz, p, b, g, _⟩ rfl _ _ _ (HI.out p b g w1 hm hb1)).mono ?_; rintro e w2 ⟨rfl, v2, D2, hI2, hn2, hch2⟩))
    go_ret2
    have hz := hb1.size
    simp only [World.size_alloc] at hz hlb
    refine ⟨none, 0, rfl, CardsAt.nil _ _ _, ?_⟩
    refine ((((((((Below.refl _ _).alloc (Nat.le_refl _) _).alloc (by simp) _).trans (hb1.mono (by simp; omega))).alloc (by omega) _).alloc (by simp; omega) _).alloc (by simp; omega) _).trans (hch2.below (by simp; omega) (fun i hi h => ?_)))
    rcases h with (h | h) | h
    · have h' : i = b := h
      omega
    · have h' : i = w1.heap.size + 1 := h
      omega
    · cases h
  · go_enter Tryd.func104, Tryd.ntmps104
    go_wp2_with (first
      | (go_at_call 68; refine (HC.out _ (ht.below (((Below.refl _ _).alloc (Nat.le_refl _) _).alloc (by simp) _))).mono ?_; rintro e w1 ⟨p, b, g, rfl, hm, hb1, hlb⟩; obtain ⟨q1, q2, q3⟩ := bcell hb1; simp only [World.size_alloc] at q1 q2 q3)
      | (go_at_call 128; refine (HL.out ⟨_, _, _, _, _, gz, p, b, g, _⟩ rfl _ _ _ (HI.out p b g w1 hm hb1)).mono ?_; rintro e w2 ⟨rfl, v2, D2, hI2, hn2, hch2⟩; obtain ⟨A2, c2, rfl, hA2, _⟩ := own_cards hI2.lo; have e2 := hI2.lv; have hz2 := lt_of_cell e2))
    go_ret2
    have hz := hb1.size
    simp only [World.size_alloc] at hz hlb
    refine ⟨A2, c2, rfl, hA2, ?_⟩
    refine ((((((((Below.refl _ _).alloc (Nat.le_refl _) _).alloc (by simp) _).trans (hb1.mono (by simp; omega))).alloc (by omega) _).alloc (by simp; omega) _).alloc (by simp; omega) _).trans (hch2.below (by simp; omega) (fun i hi h => ?_)))
    rcases h with (h | h) | h
    · have h' : i = b := h
      omega
    · have h' : i = w1.heap.size + 1 := h
      omega
    · cases h

/-- What firstOf, Fill and Solid hand back. -/
def RetFirst (f : Option (List Cd)) (z : Int) (w : World) (e : Ending) (w' : World) : Prop :=
  ∃ A c, e = .returned (.tuple #[.slice A (f.getD []).length c, .int .i64 z]) ∧ CardsAt w' w'.heap.size A (f.getD []) ∧ Below w.heap.size w w'

set_option maxRecDepth 100000 in
set_option maxHeartbeats 2000000 in
theorem firstOf_any (s : Sh) (k : Nat) (caps : Array Value) (gz : Nat) (q : List Cd → Bool) (w : World) (hs : s.Ok) (ht : TabW w) (hL : ∀ Z : LP, Z.gz = gz → LaySpec s Z (.func (.func k) #[] caps) q 37)
    (z0 : w.cell? ⟨gz, 0, none⟩ = some (.int .i64 s.r)) (z1 : w.cell? ⟨gz, 1, none⟩ = some (.int .i64 s.c)) (z2 : w.cell? ⟨gz, 2, none⟩ = some (.int .i64 s.l)) (z3 : w.cell? ⟨gz, 3, none⟩ = some (.int .i64 s.w)) :
    Calls Tryd.prog 65 #[.agg #[.int .i64 s.r, .int .i64 s.c, .int .i64 s.l, .int .i64 s.w], .func (.func k) #[] caps] w (RetFirst ((allF s).find? q) (if ((allF s).find? q).isSome then 0 else 12) w) := by
  have HC := Lib.hid (fun W => check_any s.r s.c s.l s.w W)
  rw [chkS_ok hs] at HC
  have HS := Lib.hid (fun W (h : Below w.heap.size w W) => search_any s k caps gz q W hs (ht.below h) hL ((h.cell (p := ⟨gz, _, none⟩) (lt_of_cell z0)).trans z0) ((h.cell (p := ⟨gz, _, none⟩) (lt_of_cell z1)).trans z1) ((h.cell (p := ⟨gz, _, none⟩) (lt_of_cell z2)).trans z2) ((h.cell (p := ⟨gz, _, none⟩) (lt_of_cell z3)).trans z3))
  unfold RetSearch at HS
  generalize hR : (allF s).find? q = R at HS ⊢
  clear hL z0 z1 z2 z3 hR
  rcases R with _ | r
  all_goals
    go_enter Tryd.func65, Tryd.ntmps65
    go_wp2_with (first
      | (go_at_call 20; refine (HC.out _).mono ?_; rintro e w1 ⟨rfl, hb1⟩; obtain ⟨q1, q2, q3⟩ := bcell hb1; simp only [World.size_alloc] at q1 q2 q3; have hbb := below_via hb1)
      | (go_at_call 104; refine (HS.out _ hbb).mono ?_; rintro e w2 ⟨A, c, rfl, hA, hb2⟩))
    go_ret2
    first
      | exact ⟨none, 0, rfl, CardsAt.nil _ _ _, below_then hbb hb2⟩
      | exact ⟨A, c, rfl, hA, below_then hbb hb2⟩

set_option maxRecDepth 100000 in
set_option maxHeartbeats 2000000 in
theorem firstOf_bad (r c l v : Int) (f : Value) (w : World) (hb : chkS r c l v ≠ 0) :
    Calls Tryd.prog 65 #[.agg #[.int .i64 r, .int .i64 c, .int .i64 l, .int .i64 v], f] w (RetFirst none 1 w) := by
  have HC := Lib.hid (fun W => check_any r c l v W)
  have e1 := (chkS_01 r c l v).resolve_left hb
  rw [e1] at HC
  clear e1 hb
  go_enter Tryd.func65, Tryd.ntmps65
  go_wp2_with (go_at_call 20; refine (HC.out _).mono ?_; rintro e w1 ⟨rfl, hb1⟩)
  go_ret2
  exact ⟨none, 0, rfl, CardsAt.nil _ _ _, below_via hb1⟩

/-- Every filling is wanted. -/
theorem wanted66 (s : Sh) (Z : LP) : Wanted s Z 66 #[] fun _ => true := by
  intro W A c l _ _ _ _ _ _ _
  go_enter Tryd.func66, Tryd.ntmps66
  go_wp2
  go_ret
  exact ⟨rfl, Below.refl _ _⟩

/-- The first filling of a sheet; the error. -/
def filS (r c l v : Int) : Option (List Cd) := if chkS r c l v = 0 then (allF ⟨r.toNat, c.toNat, l.toNat, v.toNat⟩).find? fun _ => true else none
def errS (r c l v : Int) (f : Option (List Cd)) : Int := if chkS r c l v = 0 then if f.isSome then 0 else 12 else 1

set_option maxRecDepth 100000 in
set_option maxHeartbeats 2000000 in
theorem fill_any (r c l v : Int) (w : World) (ht : TabW w) :
    Calls Tryd.prog 17 #[.agg #[.int .i64 r, .int .i64 c, .int .i64 l, .int .i64 v]] w (RetFirst (filS r c l v) (errS r c l v (filS r c l v)) w) := by
  by_cases h0 : chkS r c l v = 0
  · obtain ⟨s, hs, rfl, rfl, rfl, rfl⟩ := ok_of_chk h0
    have e1 : filS s.r s.c s.l s.w = (allF s).find? fun _ => true := by unfold filS; rw [if_pos h0]; rfl
    have e2 : ∀ f, errS s.r s.c s.l s.w f = if f.isSome then 0 else 12 := fun f => by unfold errS; rw [if_pos h0]
    rw [e2, e1]
    have HF := Lib.hid (fun W h z0 z1 z2 z3 => firstOf_any s 66 #[] w.heap.size (fun _ => true) W hs h (fun Z _ => lay_any66 s Z _ hs (wanted66 s Z) 37) z0 z1 z2 z3)
    have hb := below_new w (.cells #[.int .i64 s.r, .int .i64 s.c, .int .i64 s.l, .int .i64 s.w] 23)
    generalize ((allF s).find? fun _ => true) = R at HF ⊢
    generalize (if R.isSome = true then (0 : Int) else 12) = z at HF ⊢
    go_enter Tryd.func17, Tryd.ntmps17
    go_wp2_with (go_at_call 65; refine (HF.out _ (ht.below hb) (by simp [go_sem]) (by simp [go_sem]) (by simp [go_sem]) (by simp [go_sem])).mono ?_; rintro e w1 ⟨A, c, rfl, hA, hb1⟩)
    go_ret2
    exact ⟨A, c, rfl, hA, below_via hb1⟩
  · have e1 : filS r c l v = none := by unfold filS; rw [if_neg h0]
    have e2 : ∀ f, errS r c l v f = 1 := fun f => by unfold errS; rw [if_neg h0]
    rw [e2, e1]
    have HF := Lib.hid (fun f W => firstOf_bad r c l v f W h0)
    clear h0 e1 e2
    go_enter Tryd.func17, Tryd.ntmps17
    go_wp2_with (go_at_call 65; refine (HF.out _ _).mono ?_; rintro e w1 ⟨A, c, rfl, hA, hb1⟩)
    go_ret2
    exact ⟨A, c, rfl, hA, below_via hb1⟩
end Go.Proofs.YtlollcabnfncpaaDoor
