/-
  Helpers for the statement on one more way: ways appended in a region that draws its order, books without ways, spans of books that agree.
-/
import Derived.Test.YtcebihijnedekaaDoorHouseC
import Derived.Test.YtcebihijnedekaaDoorOutB
import Derived.Test.YtcebihijnedekaaDoorMathK
import Derived.Deep.RegionHeld3
namespace Go.Proofs.YtcebihijnedekaaDoor
open Go.RowKit

theorem chk_of {rooms : Nat} {ws : List Wy} (h2 : 2 ≤ rooms) (h6 : rooms ≤ 6) (hl : ws.length ≤ 12) (h : ∀ x ∈ ws, (0 ≤ x.src ∧ x.src < rooms) ∧ (0 ≤ x.dst ∧ x.dst < rooms) ∧ x.src ≠ x.dst ∧ 0 ≤ x.lo ∧ x.lo ≤ x.hi ∧ x.hi ≤ 99) : chk rooms ws = 0 := by
  rw [chk_L (by omega) hl]
  clear hl
  induction ws with
  | nil => rfl
  | cons x ws ih =>
    obtain ⟨⟨a1, a2⟩, ⟨b1, b2⟩, hn, c1, c2, c3⟩ := h x (List.mem_cons_self ..)
    rw [chkL, if_pos (chkW0 ⟨a1, a2, b1, b2⟩ hn ⟨c1, c3, c2⟩)]
    exact ih (fun y hy => h y (List.mem_cons_of_mem _ hy))

theorem spansS_mapM (rooms : Nat) (ws : List Wy) : spansS rooms ws = ws.map (spanS rooms ws) := by
  refine List.ext_getElem? fun i => ?_
  unfold spansS
  rw [List.getElem?_map]
  cases hx : ws[i]? with
  | some x => rw [spK_get rooms ws ws.length i x (lt_of_get hx) hx]; rfl
  | none =>
    have := List.getElem?_eq_none_iff.1 hx
    rw [List.getElem?_eq_none (by rw [spK_len]; exact this)]; rfl

def RetPairsM (w : World) (n : Nat) (l : List (Int × Int)) (e : Ending) (w' : World) : Prop := ∃ A c, e = .returned (.tuple #[.slice A n c, .int .i64 0]) ∧ PairsAt w' w'.heap.size A l ∧ Below w.heap.size w w'

theorem spans_ok {rooms : Nat} {ws : List Wy} (hch : chk rooms ws = 0) (hag : agrS rooms ws = true) (A : Option Addr) (c n : Nat) (W : World) (hn : ws.length = n) (hW : WaysAt W W.heap.size A ws) (hT : SizesAt W) :
    Calls Tryd.prog 35 #[.agg #[.int .i64 rooms, .slice A n c]] W (RetPairsM W n (ws.map (spanS rooms ws))) := by
  subst hn
  have h := spans_any rooms A c ws W hW hT
  have e1 : spsS rooms ws = (ws.map (spanS rooms ws), 0) := by
    unfold spsS chkA
    rw [hch, show ((rooms : Int).toNat) = rooms from rfl, hag, ← spansS_mapM]
    rfl
  rw [e1] at h
  exact h.mono fun e w' ⟨A, c, h1, h2, h3⟩ => ⟨A, c, by rw [h1, List.length_map], h2, h3⟩

theorem spans_lost {rooms : Nat} {ws : List Wy} (hch : chk rooms ws = 0) (hag : agrS rooms ws = false) (A : Option Addr) (c n : Nat) (W : World) (hn : ws.length = n) (hW : WaysAt W W.heap.size A ws) (hT : SizesAt W) :
    Calls Tryd.prog 35 #[.agg #[.int .i64 rooms, .slice A n c]] W fun e w' => ∃ A' c', e = .returned (.tuple #[.slice A' 0 c', .int .i64 12]) ∧ Below W.heap.size W w' := by
  subst hn
  have h := spans_any rooms A c ws W hW hT
  have e1 : spsS rooms ws = ([], 12) := by
    unfold spsS chkA
    rw [hch, show ((rooms : Int).toNat) = rooms from rfl, hag]
    rfl
  rw [e1] at h
  exact h.mono fun e w' ⟨A, c, h1, h2, h3⟩ => ⟨A, c, by rw [h1]; rfl, h3⟩

/-- Ways are appended to ways that the call itself made: none, or some. -/
theorem step_ways {ops : Array Oper} {o : Oper} {ac : Act} {K : Act → World → Prop} {Q : Exit → Act → World → Prop} {E : Prop} {W : World} (hgd : o.guard = none) (s x : Operand)
    (ho : o.op = .call { callee := .builtin .append, args := #[s, x], argTypes := #[22, 22] }) (base n m N g0 cap0 c : Nat) (xs : List Value) (A : Option Addr) (ws : List Wy)
    (hs : ac.eval s = .slice (some ⟨g0, 0, none⟩) n cap0) (hown : W.ownsRow base 74 4 (.slice (some ⟨g0, 0, none⟩) n cap0) n xs)
    (hx : ac.eval x = .slice A m c) (hm : ws.length = m) (he : m = 0 → A = none ∧ c = 0) (hw : WaysAt W W.heap.size A ws) (hN : n + m = N) (h12 : N ≤ 100) (hbase : base ≤ W.heap.size)
    (h : ∀ g cap w', w'.ownsRow base 74 4 (.slice (some ⟨g, 0, none⟩) N cap) N (xs ++ wcells ws) → W.grownBy w' (some g0) → (g = g0 ∨ g = W.heap.size) → K (ac.put o.dst (.slice (some ⟨g, 0, none⟩) N cap)) w') :
    if Region.wanted o (yielded ops ac.tmps) = true then Oper.wp Tryd.prog o ac W K Q else E := by
  obtain ⟨i0, hi, hz0, hz1, hz2⟩ := info_parts info74
  subst hm
  subst hN
  rcases Nat.eq_zero_or_pos ws.length with h0 | h0
  · obtain ⟨rfl, rfl⟩ := he h0
    obtain rfl : ws = [] := List.eq_nil_of_length_eq_zero h0
    have hwt : Region.wanted o (yielded ops ac.tmps) = true := by simp [Region.wanted, hgd]
    rw [if_pos hwt]
    have hrun := run_append_owned_none (P := Tryd.prog) (w := W) base 22 o.type 74 i0 4 Tryd.underlying22 hi _ n xs hown
    have hh := h g0 cap0 W (by simpa [wcells] using hown) (World.grownBy.refl _ _) (.inl rfl)
    unfold Oper.wp execOp
    simp only [ho, resolve, invoke, builtin, Sem.run_bind, Sem.run_pure, Result.andThen_ok, List.map_toArray, List.map_cons, List.map_nil, hs, hx, List.length_nil, hrun]
    exact hh
  · have hA : ∃ b off, A = some ⟨b, off, none⟩ := by
      obtain ⟨b, off, e, _⟩ := hw 0 ws[0] (List.getElem?_eq_getElem h0)
      exact ⟨b, off, e⟩
    obtain ⟨b, off, rfl⟩ := hA
    refine step_append_lies W hgd s x 22 ho base 74 i0 (.agg #[.int .i64 0, .int .i64 0, .int .i64 0, .int .i64 0]) 4 32 Tryd.underlying22 hi hz0 hz1 hz2 rfl (by decide) _ n xs hs hown ⟨b, off, none⟩ ws.length c (wcells ws) hx (wcells_len ws) (ways_cells hw) (wcells_one ws) h0 (by unfold maxLen; omega) (by omega) hbase _ rfl ?_
    intro g cap w' h2 h3 h4 _
    exact h g cap w' h2 h3 (by rcases h4 with h4 | h4; · exact .inl (Option.some.inj h4).symm
                               · exact .inr h4)

set_option maxRecDepth 100000 in
set_option maxHeartbeats 1000000 in
/-- Books without ways. -/
theorem madeNil (q : Int) (hq : 0 ≤ q ∧ q ≤ 255) (A : Option Addr) (c most : Nat) (w : World) :
    Calls Tryd.prog 44 #[.agg #[.int .u8 q, .slice A 0 c], .int .i64 (most : Nat)] w fun e w' => e = .returned (.agg #[.int .i64 (roomsH q), .slice none 0 0]) ∧ Below w.heap.size w w' := by
  have hq3 : q % 3 = 0 ∨ q % 3 = 1 ∨ q % 3 = 2 := by omega
  unfold roomsH
  rcases hq3 with hq3 | hq3 | hq3
  · rw [hq3]
    go_enter Tryd.func44, Tryd.ntmps44
    go_wp2_with fail
    clear hq3
    obtain ⟨W0, hW0⟩ : ∃ W0, W0 = ((w.alloc (.cells #[.int .u8 q, .slice A 0 c] 63)).alloc (.cells #[.int .i64 0, .slice none 0 0] 24)).alloc (.cells #[.int .i64 2, .slice none 0 0] 24) := ⟨_, rfl⟩
    have hz0 : W0.heap.size = w.heap.size + 1 + 1 + 1 := by rw [hW0]; simp
    have hb0 : Below w.heap.size w W0 := by rw [hW0]; exact (((Below.refl w.heap.size w).alloc (Nat.le_refl _) _).alloc (by simp) _).alloc (by simp <;> omega) _
    have c0 : W0.cell? ⟨w.heap.size + 1 + 1, 0, none⟩ = some (.int .i64 2) := by rw [hW0]; simp [go_sem]
    have c1 : W0.cell? ⟨w.heap.size + 1 + 1, 1, none⟩ = some (.slice none 0 0) := by rw [hW0]; simp [go_sem]
    have c2 : W0.cell? ⟨w.heap.size + 1, 0, none⟩ = some (.int .i64 0) := by rw [hW0]; simp [go_sem]
    have c3 : W0.cell? ⟨w.heap.size + 1, 1, none⟩ = some (.slice none 0 0) := by rw [hW0]; simp [go_sem]
    have f2 : W0.frozen? ⟨w.heap.size + 1, 0, none⟩ = false := by rw [hW0]; simp [go_sem]
    have f3 : W0.frozen? ⟨w.heap.size + 1, 1, none⟩ = false := by rw [hW0]; simp [go_sem]
    rw [← hW0]
    clear hW0
    go_loopw [19] (fun i wr => i = .int .i64 0 ∧ wr = W0) (fun _ _ => 0)
    case atStart => exact ⟨rfl, rfl⟩
    case round =>
      obtain ⟨rfl, rfl⟩ := hrel
      go_wp2_with fail
      refine bodyPost_ret (v := .agg #[.int .i64 2, .slice none 0 0]) (by simp [results, Tryd.results44, go_sem, c2, c3]) rfl ⟨rfl, ?_⟩
      exact (hb0.setCell (p := ⟨w.heap.size + 1, 0, none⟩) (by simp) _).setCell (p := ⟨w.heap.size + 1, 1, none⟩) (by simp) _
  · rw [hq3]
    go_enter Tryd.func44, Tryd.ntmps44
    go_wp2_with fail
    clear hq3
    obtain ⟨W0, hW0⟩ : ∃ W0, W0 = ((w.alloc (.cells #[.int .u8 q, .slice A 0 c] 63)).alloc (.cells #[.int .i64 0, .slice none 0 0] 24)).alloc (.cells #[.int .i64 3, .slice none 0 0] 24) := ⟨_, rfl⟩
    have hz0 : W0.heap.size = w.heap.size + 1 + 1 + 1 := by rw [hW0]; simp
    have hb0 : Below w.heap.size w W0 := by rw [hW0]; exact (((Below.refl w.heap.size w).alloc (Nat.le_refl _) _).alloc (by simp) _).alloc (by simp <;> omega) _
    have c0 : W0.cell? ⟨w.heap.size + 1 + 1, 0, none⟩ = some (.int .i64 3) := by rw [hW0]; simp [go_sem]
    have c1 : W0.cell? ⟨w.heap.size + 1 + 1, 1, none⟩ = some (.slice none 0 0) := by rw [hW0]; simp [go_sem]
    have c2 : W0.cell? ⟨w.heap.size + 1, 0, none⟩ = some (.int .i64 0) := by rw [hW0]; simp [go_sem]
    have c3 : W0.cell? ⟨w.heap.size + 1, 1, none⟩ = some (.slice none 0 0) := by rw [hW0]; simp [go_sem]
    have f2 : W0.frozen? ⟨w.heap.size + 1, 0, none⟩ = false := by rw [hW0]; simp [go_sem]
    have f3 : W0.frozen? ⟨w.heap.size + 1, 1, none⟩ = false := by rw [hW0]; simp [go_sem]
    rw [← hW0]
    clear hW0
    go_loopw [19] (fun i wr => i = .int .i64 0 ∧ wr = W0) (fun _ _ => 0)
    case atStart => exact ⟨rfl, rfl⟩
    case round =>
      obtain ⟨rfl, rfl⟩ := hrel
      go_wp2_with fail
      refine bodyPost_ret (v := .agg #[.int .i64 3, .slice none 0 0]) (by simp [results, Tryd.results44, go_sem, c2, c3]) rfl ⟨rfl, ?_⟩
      exact (hb0.setCell (p := ⟨w.heap.size + 1, 0, none⟩) (by simp) _).setCell (p := ⟨w.heap.size + 1, 1, none⟩) (by simp) _
  · rw [hq3]
    go_enter Tryd.func44, Tryd.ntmps44
    go_wp2_with fail
    clear hq3
    obtain ⟨W0, hW0⟩ : ∃ W0, W0 = ((w.alloc (.cells #[.int .u8 q, .slice A 0 c] 63)).alloc (.cells #[.int .i64 0, .slice none 0 0] 24)).alloc (.cells #[.int .i64 4, .slice none 0 0] 24) := ⟨_, rfl⟩
    have hz0 : W0.heap.size = w.heap.size + 1 + 1 + 1 := by rw [hW0]; simp
    have hb0 : Below w.heap.size w W0 := by rw [hW0]; exact (((Below.refl w.heap.size w).alloc (Nat.le_refl _) _).alloc (by simp) _).alloc (by simp <;> omega) _
    have c0 : W0.cell? ⟨w.heap.size + 1 + 1, 0, none⟩ = some (.int .i64 4) := by rw [hW0]; simp [go_sem]
    have c1 : W0.cell? ⟨w.heap.size + 1 + 1, 1, none⟩ = some (.slice none 0 0) := by rw [hW0]; simp [go_sem]
    have c2 : W0.cell? ⟨w.heap.size + 1, 0, none⟩ = some (.int .i64 0) := by rw [hW0]; simp [go_sem]
    have c3 : W0.cell? ⟨w.heap.size + 1, 1, none⟩ = some (.slice none 0 0) := by rw [hW0]; simp [go_sem]
    have f2 : W0.frozen? ⟨w.heap.size + 1, 0, none⟩ = false := by rw [hW0]; simp [go_sem]
    have f3 : W0.frozen? ⟨w.heap.size + 1, 1, none⟩ = false := by rw [hW0]; simp [go_sem]
    rw [← hW0]
    clear hW0
    go_loopw [19] (fun i wr => i = .int .i64 0 ∧ wr = W0) (fun _ _ => 0)
    case atStart => exact ⟨rfl, rfl⟩
    case round =>
      obtain ⟨rfl, rfl⟩ := hrel
      go_wp2_with fail
      refine bodyPost_ret (v := .agg #[.int .i64 4, .slice none 0 0]) (by simp [results, Tryd.results44, go_sem, c2, c3]) rfl ⟨rfl, ?_⟩
      exact (hb0.setCell (p := ⟨w.heap.size + 1, 0, none⟩) (by simp) _).setCell (p := ⟨w.heap.size + 1, 1, none⟩) (by simp) _

def RetMadeE (w : World) (R : Int) (ws : List Wy) (e : Ending) (w' : World) : Prop := ∃ A c, e = .returned (.agg #[.int .i64 R, .slice A ws.length c]) ∧ (ws.length = 0 → A = none ∧ c = 0) ∧ WaysAt w' w'.heap.size A ws ∧ Below w.heap.size w w'

/-- What made hands back is nil where there are no ways. -/
theorem madeE_any (q : Int) (hq : 0 ≤ q ∧ q ≤ 255) (A : Option Addr) (c most : Nat) (hs : List H4) (w : World) (hm0 : 0 < most) (hm : most ≤ 12) (hok : ∀ h ∈ hs, okH h) (hw : HouseAt w w.heap.size A hs) :
    Calls Tryd.prog 44 #[.agg #[.int .u8 q, .slice A hs.length c], .int .i64 (most : Nat)] w (RetMadeE w (roomsH q) (madeS q hs most)) := by
  cases hs with
  | nil => exact (madeNil q hq A c most w).mono fun e w' ⟨h1, h2⟩ => ⟨none, 0, by rw [h1]; simp [madeS], fun _ => ⟨rfl, rfl⟩, fun k x hx => by simp [madeS] at hx, h2⟩
  | cons h t =>
    refine (made_any q hq A c most (h :: t) w hm hok hw).mono fun e w' ⟨A', c', h1, h2, h3⟩ => ⟨A', c', h1, fun h0 => ?_, h2, h3⟩
    obtain ⟨m, rfl⟩ : ∃ m, most = m + 1 := ⟨most - 1, by omega⟩
    simp [madeS] at h0

theorem house_one (w : World) (h : H4) : HouseAt (w.alloc (.cells #[.int .u8 h.a, .int .u8 h.b, .int .u8 h.c, .int .u8 h.d] 76)) (w.alloc (.cells #[.int .u8 h.a, .int .u8 h.b, .int .u8 h.c, .int .u8 h.d] 76)).heap.size (some ⟨w.heap.size, 0, none⟩) [h] := by
  intro k x hx
  obtain rfl : k = 0 := by have := lt_of_get hx; simp at this; omega
  cases hx
  exact ⟨w.heap.size, 0, rfl, by simp, by simp [go_sem], by simp [go_sem], by simp [go_sem], by simp [go_sem]⟩

theorem pairsUpM {w w' : World} {A : Option Addr} {l : List (Int × Int)} (h : PairsAt w w.heap.size A l) (hb : Below w.heap.size w w') : PairsAt w' w'.heap.size A l := (h.below hb (Nat.le_refl _)).mono hb.size

/-- One way alone, in memory of its own. -/
theorem own_one {w : World} {base c : Nat} {A : Option Addr} {x : Wy} (h : w.ownsRow base 74 4 (.slice A 1 c) 1 (wcells [x])) :
    ∃ g, A = some ⟨g, 0, none⟩ ∧ base ≤ g ∧ g < w.heap.size ∧ w.cell? ⟨g, 0, none⟩ = some (.int .i64 x.src) ∧ w.cell? ⟨g, 1, none⟩ = some (.int .i64 x.dst) ∧ w.cell? ⟨g, 2, none⟩ = some (.int .i64 x.lo) ∧ w.cell? ⟨g, 3, none⟩ = some (.int .i64 x.hi) ∧ w.frozen? ⟨g, 2, none⟩ = false := by
  obtain ⟨g, cap, e, h1, h2⟩ := h.form (by decide)
  injection e with e1 e2 e3
  subst e1
  subst e3
  refine ⟨g, rfl, h1, h2, ?_, ?_, ?_, ?_, h.frozenAt 2⟩
  · exact (h.cellAt 0 (by decide)).trans rfl
  · exact (h.cellAt 1 (by decide)).trans rfl
  · exact (h.cellAt 2 (by decide)).trans rfl
  · exact (h.cellAt 3 (by decide)).trans rfl

/-- What made hands back of one way. -/
def RetMade1 (W : World) (R : Int) (x : Wy) (e : Ending) (w' : World) : Prop := ∃ g c, e = .returned (.agg #[.int .i64 R, .slice (some ⟨g, 0, none⟩) 1 c]) ∧ W.heap.size ≤ g ∧ g < w'.heap.size ∧ w'.cell? ⟨g, 0, none⟩ = some (.int .i64 x.src) ∧ w'.cell? ⟨g, 1, none⟩ = some (.int .i64 x.dst) ∧ w'.cell? ⟨g, 2, none⟩ = some (.int .i64 x.lo) ∧ w'.cell? ⟨g, 3, none⟩ = some (.int .i64 x.hi) ∧ w'.frozen? ⟨g, 2, none⟩ = false ∧ Below W.heap.size W w'

theorem made1_any (q : Int) (hq : 0 ≤ q ∧ q ≤ 255) (R : Int) (hR : roomsH q = R) (more : H4) (hmo : okH more) (A : Option Addr) (W : World) (hW : HouseAt W W.heap.size A [more]) :
    Calls Tryd.prog 44 #[.agg #[.int .u8 q, .slice A 1 1], .int .i64 1] W (RetMade1 W R (wayH R more)) := by
  subst hR
  refine (madeO_any q hq A 1 1 [more] W (by decide) (fun h hh => by simp at hh; subst hh; exact hmo) hW).mono fun e w' ⟨A', c', base, h1, h2, h3, h4⟩ => ?_
  obtain ⟨g, rfl, g1, g2, k0, k1, k2, k3, k4⟩ := own_one (x := wayH (roomsH q) more) h3
  exact ⟨g, c', h1, Nat.le_trans h2 g1, g2, k0, k1, k2, k3, k4, h4⟩
end Go.Proofs.YtcebihijnedekaaDoor
