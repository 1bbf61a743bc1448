/-
  The walk of the statement on one more way and on a way told more exactly: it answers true.
-/
import Derived.Test.YtcebihijnedekaaDoorMoreA
import Derived.Test.YtcebihijnedekaaDoorWalkR
namespace Go.Proofs.YtcebihijnedekaaDoor
open Go.RowKit


theorem wcells_hm : ∀ (ws : List Wy) (k : Nat) (x : Wy) (n : Int), ws[k]? = some x → wcells (ws.set k { x with hi := n }) = (wcells ws).set (k * 4 + 3) (.int .i64 n)
  | [], _, _, _, h => by simp at h
  | y :: ws, 0, x, n, h => by simp at h; subst h; simp [wcells]
  | y :: ws, k + 1, x, n, h => by
    have ih := wcells_hm ws k x n (by simpa using h)
    rw [show (k + 1) * 4 + 3 = (k * 4 + 3) + 1 + 1 + 1 + 1 by omega]
    simp only [List.set_cons_succ, wcells, ih]

theorem wcells_nar {ws : List Wy} {k : Nat} {x : Wy} {b : Int} (h : ws[k]? = some x) : wcells (ws.set k (nar x b)) = ((wcells ws).set (k * 4 + 2) (.int .i64 (nar x b).lo)).set (k * 4 + 3) (.int .i64 (nar x b).hi) := by
  have hk := lt_of_get h
  have h1 := wcells_lo ws k x (nar x b).lo h
  have h3 : (ws.set k { x with lo := (nar x b).lo })[k]? = some { x with lo := (nar x b).lo } := by rw [getElem?_mem_set hk, if_pos rfl]
  have h2 := wcells_hm _ k _ (nar x b).hi h3
  rw [h1, List.set_set] at h2
  exact h2

theorem nar_val (x : Wy) (b : Int) : (nar x b).lo = (if x.lo + b % 2 < x.hi then x.lo + b % 2 else x.hi) ∧ (nar x b).hi = (if (nar x b).lo < x.hi - b / 2 % 2 then x.hi - b / 2 % 2 else (nar x b).lo) := by
  unfold nar
  dsimp only
  constructor
  · split <;> omega
  · split <;> omega

/-- What Spans answers where a way is told more exactly: the books do not agree, or no span is wider. -/
def NarF (rooms : Nat) (ws vs : List Wy) (sp : List (Int × Int)) : Prop :=
  (∀ A c W, WaysAt W W.heap.size A vs → SizesAt W → Calls Tryd.prog 35 #[.agg #[.int .i64 rooms, .slice A ws.length c]] W fun e w' => ∃ A' c', e = .returned (.tuple #[.slice A' 0 c', .int .i64 12]) ∧ Below W.heap.size W w') ∨
  ∃ sp3 : List (Int × Int), (∀ (j : Nat) p, sp[j]? = some p → ∃ p3, sp3[j]? = some p3 ∧ p.1 ≤ p3.1 ∧ p3.2 ≤ p.2) ∧ ∀ A c W, WaysAt W W.heap.size A vs → SizesAt W → Calls Tryd.prog 35 #[.agg #[.int .i64 rooms, .slice A ws.length c]] W (RetPairsM W ws.length sp3)

theorem nar_facts {rooms : Nat} {ws : List Wy} {p b : Int} (hr2 : 2 ≤ rooms) (hv : ValB rooms ws) (hsd : ∀ x ∈ ws, x.src ≠ x.dst) (h0 : 0 < ws.length) (hp : 0 ≤ p) :
    ∃ (k : Nat) (x : Wy), k < ws.length ∧ p.tmod (ws.length : Int) = (k : Int) ∧ ws[k]? = some x ∧ (0 ≤ x.lo ∧ x.lo ≤ x.hi ∧ x.hi ≤ 99) ∧ NarF rooms ws (ws.set k (nar x b)) (ws.map (spanS rooms ws)) := by
  have hkl : p.toNat % ws.length < ws.length := Nat.mod_lt _ h0
  refine ⟨p.toNat % ws.length, ws[p.toNat % ws.length], hkl, rem_len hp, List.getElem?_eq_getElem hkl, ?_, ?_⟩
  · have := hv.way _ (List.getElem_mem hkl)
    exact ⟨this.2.2.1, this.2.2.2.1, this.2.2.2.2⟩
  have hx : ws[p.toNat % ws.length]? = some ws[p.toNat % ws.length] := List.getElem?_eq_getElem hkl
  generalize ws[p.toNat % ws.length] = x at hx
  generalize p.toNat % ws.length = k at hx hkl
  have hxw := hv.way x (mem_of_get hx)
  have hni := nar_in (b := b) hxw.2.2.2.1
  have hall : ∀ y ∈ ws.set k (nar x b), (0 ≤ y.src ∧ y.src < rooms) ∧ (0 ≤ y.dst ∧ y.dst < rooms) ∧ y.src ≠ y.dst ∧ 0 ≤ y.lo ∧ y.lo ≤ y.hi ∧ y.hi ≤ 99 := by
    intro y hy
    rcases List.mem_or_eq_of_mem_set hy with hy | rfl
    · have h1 := hv.way y hy
      exact ⟨h1.1, h1.2.1, hsd y hy, h1.2.2.1, h1.2.2.2.1, h1.2.2.2.2⟩
    · have h2 := hsd x (mem_of_get hx)
      exact ⟨hxw.1, hxw.2.1, h2, by omega, by omega, by omega⟩
  have hch3 := chk_of (rooms := rooms) hr2 hv.r6 (by rw [List.length_set]; exact hv.len) hall
  obtain ⟨rooms', hre, _, hv3, _⟩ := chk_ok hch3
  obtain rfl : rooms = rooms' := by omega
  cases hag : agrS rooms (ws.set k (nar x b)) with
  | false => exact .inl (fun A c W hW hT => spans_lost hch3 hag A c ws.length W (by rw [List.length_set]) hW hT)
  | true =>
    refine .inr ⟨(ws.set k (nar x b)).map (spanS rooms (ws.set k (nar x b))), fun j q hq => ?_, fun A c W hW hT => spans_ok hch3 hag A c ws.length W (by rw [List.length_set]) hW hT⟩
    rw [List.getElem?_map] at hq
    cases hy : ws[j]? with
    | none => rw [hy] at hq; cases hq
    | some y =>
      rw [hy] at hq
      cases hq
      have hjl := lt_of_get hy
      obtain ⟨z, hz⟩ : ∃ z, (ws.set k (nar x b))[j]? = some z := ⟨_, List.getElem?_eq_getElem (by rw [List.length_set]; exact hjl)⟩
      have hs := span_nar hv.inW hx hv.okW hv3.inW hv3.okW ((agrS_iff hv3.inW).1 hag) hy hz
      exact ⟨_, by rw [List.getElem?_map, hz]; rfl, hs.1, hs.2⟩

set_option maxRecDepth 100000 in
set_option maxHeartbeats 4000000 in
theorem lawMore_F (w : World) (q p b : Int) (more : H4) (A : Option Addr) (c : Nat) (hs : List H4) (hq : 0 ≤ q ∧ q ≤ 255) (hok : ∀ h ∈ hs, okH h) (hw : HouseAt w w.heap.size A hs) (ht : SizesAt w) (hag0 : agrS (roomsH q).toNat (madeS q hs 11) = false) :
    Calls Tryd.prog 12 #[.agg #[.int .u8 q, .slice A hs.length c], .int .u8 p, .int .u8 b, .agg #[.int .u8 more.a, .int .u8 more.b, .int .u8 more.c, .int .u8 more.d]] w fun e w' => e = .returned (.bool true) ∧ Below w.heap.size w w' := by
  have hbx : Below w.heap.size w ((w.alloc (.cells #[.int .u8 q, .slice A hs.length c] 63)).alloc (.cells #[.int .u8 more.a, .int .u8 more.b, .int .u8 more.c, .int .u8 more.d] 76)) := ((Below.refl w.heap.size w).alloc (Nat.le_refl _) _).alloc (by simp) _
  have hw0 := (hw.below hbx (Nat.le_refl _)).mono (B' := ((w.alloc (.cells #[.int .u8 q, .slice A hs.length c] 63)).alloc (.cells #[.int .u8 more.a, .int .u8 more.b, .int .u8 more.c, .int .u8 more.d] 76)).heap.size) (by simp <;> omega)
  have ht0 := ht.below hbx
  have HM := Lib.hid (fun W hW => madeE_any q hq A c 11 hs W (by decide) (by decide) hok hW)
  obtain ⟨rooms, hR, hr2, hr4, hch, hv, hsd, hwd⟩ := chk_made (r := q) (hs := hs) (most := 11) hok (by decide)
  rw [hR] at HM hag0
  change agrS rooms (madeS q hs 11) = false at hag0
  have hl11 := madeS_len q hs 11
  generalize madeS q hs 11 = ws at HM hch hag0
  have HSP := Lib.hid (fun A' c' W hW hT => spans_lost hch hag0 A' c' ws.length W rfl hW hT)
  clear hok hR hch hag0 hl11 hv hsd hwd hw
  go_enter Tryd.func12, Tryd.ntmps12
  go_wp2_with (first
    | (go_at_call 44; refine (HM.out _ hw0).mono ?_; rintro e w1 ⟨A1, c1, rfl, hz1, hA1, hb1⟩; have hs1 := hb1.size; simp only [World.size_alloc] at hs1; have ht2 := (ht0.below hb1).below (bnew w1 (.cells #[.int .i64 rooms, .slice A1 ws.length c1] 24)); have hA1' := waysUp hA1 (bnew w1 (.cells #[.int .i64 rooms, .slice A1 ws.length c1] 24)))
    | (go_at_call 35; refine (HSP.out A1 c1 _ hA1' ht2).mono ?_; rintro e w2 ⟨A2, c2, rfl, hb2⟩; have hs2 := hb2.size; simp only [World.size_alloc] at hs2; have ht3 := ht2.below hb2)
    | (go_at_call 16; refine (works_any _ ht3).mono ?_; rintro e w3 ⟨rfl, hb3⟩))
  go_ret
  exact ⟨rfl, hbx.trans ((hb1.mono (by simp <;> omega)).trans (((bnew w1 _).mono (by omega)).trans ((hb2.mono (by simp; omega)).trans (hb3.mono (by omega)))))⟩
end Go.Proofs.YtcebihijnedekaaDoor
