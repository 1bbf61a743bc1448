/-
  The walk of what collects flows: one number more.
-/
import Derived.Test.YtcebihijnedekaaDoorFlowC
import Derived.Laws.EntriesVeiled
namespace Go.Proofs.YtcebihijnedekaaDoor
open Go.RowKit

theorem step_copy {ops : Array Oper} {o : Oper} {ac : Act} {K : Act → World → Prop} {Q : Exit → Act → World → Prop} {E : Prop} {W : World} (hgd : o.guard = none) (s x : Operand)
    (ho : o.op = .call { callee := .builtin .append, args := #[s, x], argTypes := #[25, 25] }) (base g0 c : Nat) (A : Option Addr) (l : List Int) (hs : ac.eval s = .slice (some ⟨g0, 0, none⟩) 0 0) (hown : W.ownsRow base 3 1 (.slice (some ⟨g0, 0, none⟩) 0 0) 0 [])
    (hx : ac.eval x = .slice A l.length c) (hA : IntsAt W W.heap.size A l) (hn : A = none → c = 0) (h12 : l.length ≤ 12) (hbase : base ≤ W.heap.size)
    (h : ∀ g cap w', w'.ownsRow base 3 1 (.slice (some ⟨g, 0, none⟩) l.length cap) l.length (l.map (Value.int .i64)) → W.grownBy w' (some g0) → (g = g0 ∨ g = W.heap.size) → K (ac.put o.dst (.slice (some ⟨g, 0, none⟩) l.length cap)) w') :
    if Region.wanted o (yielded ops ac.tmps) = true then Oper.wp Tryd.prog o ac W K Q else E := by
  obtain ⟨i0, hi, hz0, hz1, hz2⟩ := info_parts info3
  have hw : Region.wanted o (yielded ops ac.tmps) = true := by simp [Region.wanted, hgd]
  rw [if_pos hw]
  cases A with
  | none =>
    have hl : l = [] := by
      cases l with
      | nil => rfl
      | cons y t => obtain ⟨b, off, e, _⟩ := hA 0 y rfl; cases e
    subst hl
    obtain rfl := hn rfl
    have hrun := run_append_owned_none (P := Tryd.prog) (w := W) base 25 o.type 3 i0 1 Tryd.underlying25 hi _ 0 [] hown
    unfold Oper.wp execOp
    simp only [ho, resolve, invoke, builtin, Sem.run_bind, Sem.run_pure, Result.andThen_ok, List.map_toArray, List.map_cons, List.map_nil, hs, hx, List.length_nil, hrun]
    exact h g0 0 W hown (World.grownBy.refl _ _) (.inl rfl)
  | some ad =>
    obtain ⟨v', w', hr, h2, h3, _, h5⟩ := run_append_own_at (P := Tryd.prog) W base 25 o.type 3 i0 (.int .i64 0) 1 8 Tryd.underlying25 hi hz0 hz1 hz2 rfl (by decide) _ 0 [] hown ad l.length c (l.map (Value.int .i64)) (by simp) (fun j u hu => by
      rw [List.getElem?_map] at hu
      cases hy : l[j]? with
      | none => rw [hy] at hu; cases hu
      | some y =>
        rw [hy] at hu; cases hu
        obtain ⟨b, off, e, _, h4⟩ := hA j y hy
        cases e
        have e : (⟨b, off, none⟩ : Addr).add j = ⟨b, off + j, none⟩ := by unfold Addr.add; split <;> simp_all
        rw [e]; exact h4) (fun u hu => by simp at hu; obtain ⟨y, _, rfl⟩ := hu; rfl) (by unfold maxLen; omega) (by omega) hbase
    unfold Oper.wp execOp
    simp only [ho, resolve, invoke, builtin, Sem.run_bind, Sem.run_pure, Result.andThen_ok, List.map_toArray, List.map_cons, List.map_nil, hs, hx, hr]
    rw [Nat.zero_add, List.nil_append] at h2
    have hform : ∃ g cap, v' = .slice (some ⟨g, 0, none⟩) l.length cap := by
      rcases h2.2 with ⟨rfl, _⟩ | ⟨g, cap, cur, rfl, _⟩
      · rcases h5 with h5 | h5 <;> simp [Value.ownBlock] at h5
      · exact ⟨g, cap, rfl⟩
    obtain ⟨g, cap, rfl⟩ := hform
    refine h g cap w' h2 h3 ?_
    rcases h5 with h5 | h5
    · exact .inl (by simpa [Value.ownBlock] using h5)
    · exact .inr (by simpa [Value.ownBlock] using h5)

theorem own_intsX {w wr : World} {gg n cap lo : Nat} {ex : Option Nat} {L : List Int} (h : w.ownsRow wr.heap.size 3 1 (.slice (some ⟨gg, 0, none⟩) n cap) n (L.map (Value.int .i64))) (hlo : lo ≤ wr.heap.size) (hex : ∀ k, ex = some k → k < wr.heap.size) : IntsX w lo ex (some ⟨gg, 0, none⟩) L := by
  intro i x hx
  have hb := h.lt gg rfl
  refine ⟨gg, 0, rfl, by omega, hb.2, fun e => by have := hex gg e.symm; omega, ?_⟩
  have := h.cells (g := gg) rfl i (.int .i64 x) (by rw [List.getElem?_map, hx]; rfl)
  have e : (⟨gg, 0, none⟩ : Addr).add i = ⟨gg, i, none⟩ := by unfold Addr.add; split <;> simp_all
  rw [e] at this
  simpa using this

/-- The function itself, as a value. -/
def selfV (g1 g2 g : Nat) : Value := .func (.func 85) #[] #[.pointer (some ⟨g1, 0, none⟩), .pointer (some ⟨g2, 0, none⟩), .pointer (some ⟨g, 0, none⟩)]

/-- What calls of put rely on. -/
structure PutAt (rooms g1 g2 g lo : Nat) (Aw : Option Addr) (cw : Nat) (ws : List Wy) (w : World) : Prop where
  val : ValB rooms ws
  ne : ∀ x ∈ ws, x.src ≠ x.dst
  wide : ∀ x ∈ ws, wide x ≤ 4
  h1 : g1 < g
  h2 : g2 < lo
  h3 : g2 ≠ g
  h4 : g < lo
  h5 : lo ≤ w.heap.size
  box : w.cell? ⟨g1, 1, none⟩ = some (.slice Aw ws.length cw)
  ways : WaysAt w g Aw ws
  self : w.cell? ⟨g2, 0, none⟩ = some (selfV g1 g2 g)

theorem PutAt.put {rooms g1 g2 g lo cw : Nat} {Aw : Option Addr} {ws : List Wy} {w w' : World} {r : Option Nat} (h : PutAt rooms g1 g2 g lo Aw cw ws w) (hp : Put2 g r w w') (hr : ∀ k, r = some k → lo ≤ k) : PutAt rooms g1 g2 g lo Aw cw ws w' := by
  have hne : ∀ k, k < lo → some k ≠ r := fun k hk e => by have := hr k e.symm; omega
  obtain ⟨a1, a2, a3, a4, a5, a6, a7, a8, a9, a10, a11⟩ := h
  refine ⟨a1, a2, a3, a4, a5, a6, a7, Nat.le_trans a8 hp.size, (hp.cell (p := ⟨g1, 1, none⟩) (by show g1 < _; omega) (by show g1 ≠ g; omega) (hne g1 (by omega))).trans a9, ?_, (hp.cell (p := ⟨g2, 0, none⟩) (by show g2 < _; omega) a6 (hne g2 (by omega))).trans a11⟩
  exact a10.below (hp.below (B := g) (by omega) (Nat.le_refl _) (fun k e => by have := hr k e; omega)) (Nat.le_refl _)

set_option maxRecDepth 100000 in
set_option maxHeartbeats 400000 in
theorem put_step (rooms : Nat) (A Aw : Option Addr) (c cw g1 g2 g lo d : Nat) (ws : List Wy) (l : List Int) (all : List (List Int)) (v : Value) (w : World) (hp : PutAt rooms g1 g2 g lo Aw cw ws w) (hl : l.length + (d + 1) = ws.length) (hf : ∀ f ∈ l, 0 ≤ f ∧ f ≤ 99)
    (hst : St g lo w all v) (hA : IntsX w lo v.ownBlock A l) (hAc : A = none → c = 0) (_hcap : l.length ≤ c) (hcnt : all.length + 4 ^ (d + 1) ≤ 2000)
    (ih : ∀ (A : Option Addr) (c : Nat) (l : List Int) (all : List (List Int)) (v : Value) (w : World), PutAt rooms g1 g2 g lo Aw cw ws w → l.length + d = ws.length → (∀ f ∈ l, 0 ≤ f ∧ f ≤ 99) → St g lo w all v → IntsX w lo v.ownBlock A l → (A = none → c = 0) → l.length ≤ c → all.length + 4 ^ d ≤ 2000 →
      Calls Tryd.prog 85 #[.slice A l.length c, .pointer (some ⟨g1, 0, none⟩), .pointer (some ⟨g2, 0, none⟩), .pointer (some ⟨g, 0, none⟩)] w (PutPost g lo w (all ++ putS ws d l) v)) :
    Calls Tryd.prog 85 #[.slice A l.length c, .pointer (some ⟨g1, 0, none⟩), .pointer (some ⟨g2, 0, none⟩), .pointer (some ⟨g, 0, none⟩)] w (PutPost g lo w (all ++ putS ws (d + 1) l) v) := by
  have HP := Lib.hid hp
  obtain ⟨hv, hsd, hwd, p1, p2, p3, p4, p5, hc, hw, hself⟩ := hp
  have hx : ws[l.length]? = some (ws[l.length]'(by omega)) := List.getElem?_eq_getElem (by omega)
  generalize ws[l.length]'(by omega) = x at hx
  have HPS := Lib.hid (show putS ws (d + 1) l = putL (fun n => putS ws d (l ++ [n])) x.lo (wide x) by rw [putS, hx])
  generalize putS ws (d + 1) l = pS at HPS ⊢
  have hwx := hwd x (mem_of_get hx)
  have hlenf : ∀ k, (putL (fun n => putS ws d (l ++ [n])) x.lo k).length ≤ k * 4 ^ d := putL_len (fun n => putS_len hwd d _)
  obtain ⟨b, off, rfl, hb, h1, h2, h3, h4⟩ := hw l.length x hx
  obtain ⟨_, _, hx3, hx4, hx5⟩ := hv.way x (mem_of_get hx)
  have hlw : (l.length : Int) < (ws.length : Int) := by omega
  have hl0 : (0 : Int) ≤ (l.length : Int) := by omega
  have hl12 : l.length ≤ 12 := by have := hv.len; omega
  have hbw : b < w.heap.size := by omega
  have hg1w : g1 < w.heap.size := by omega
  have hgw : g < w.heap.size := by omega
  have hg2w : g2 < w.heap.size := by omega
  have HWD := Lib.hid (show wide x = (x.hi + 1 - x.lo).toNat from rfl)
  have HL := Lib.hid hl
  have HLF := Lib.hid hlenf
  have HF := Lib.hid hf
  have HAC := Lib.hid hAc
  have HCN := Lib.hid hcnt
  have HST := Lib.hid hst
  have HIX := Lib.hid hA
  have HIH := Lib.hid ih
  generalize wide x = N at HPS HWD hwx
  clear hl hf hAc hcnt hst hA ih hlenf hw hself hv hsd hwd hx
  go_enter Tryd.func85, Tryd.ntmps85
  go_wp2_with fail
  obtain ⟨W0, hW0⟩ : ∃ W0, W0 = w.alloc (.cells #[.int .i64 x.src, .int .i64 x.dst, .int .i64 x.lo, .int .i64 x.hi] 74) := ⟨_, rfl⟩
  have hz0 : w.heap.size < W0.heap.size := by rw [hW0]; simp
  have hb0 : Below w.heap.size w W0 := by rw [hW0]; exact (Below.refl w.heap.size w).alloc (Nat.le_refl _) _
  have hx0 : W0.cell? ⟨w.heap.size, 3, none⟩ = some (.int .i64 x.hi) := by rw [hW0]; simp [go_sem]
  rw [← hW0]
  clear hW0 hc h1 h2 h3 h4
  have HST0 := Lib.hid (HST.out.up hb0 hgw)
  have HIX0 := Lib.hid (HIX.out.up hb0)
  have HP0 := Lib.hid (HP.out.put (r := none) (Put2.of_below hb0) (fun k e => by cases e))
  go_loopw [6] (fun u wr => ∃ (k : Nat) (vr : Value), k ≤ N ∧ u = .int .i64 (x.lo + k) ∧ St g lo wr (all ++ putL (fun n => putS ws d (l ++ [n])) x.lo k) vr ∧ Put2 g v.ownBlock W0 wr ∧ NewOr W0 v.ownBlock vr.ownBlock) (fun u _ => (x.hi + 1 - intOf u).toNat)
  case atStart => exact ⟨0, v, Nat.zero_le _, by go_num, by rw [putL, List.append_nil]; exact HST0.out, Put2.refl _ _ _, NewOr.refl _ _⟩
  case round =>
    obtain ⟨k, vr, hk, rfl, hstr, hpr, hnr⟩ := hrel
    have hvl := HST0.out.lt
    have hown : ∀ q, v.ownBlock = some q → lo ≤ q ∧ q < w.heap.size := HST.out.lt
    have HPR := Lib.hid (HP0.out.put hpr (fun q e => (hvl q e).1))
    have hxr := (hpr.cell (p := ⟨w.heap.size, 3, none⟩) hz0 (by show w.heap.size ≠ g; omega) (fun e => by have := (hown _ e.symm).2; exact Nat.lt_irrefl _ this)).trans hx0
    have hsw := hpr.size
    have hszx : w.heap.size < wr.heap.size := by omega
    have HIXR := Lib.hid ((HIX0.out.put hpr p4 hnr))
    have hrl := hstr.lt
    have HSR := Lib.hid hstr
    have HPW := Lib.hid hpr
    have HNR := Lib.hid hnr
    clear hstr hpr hnr hvl hown
    by_cases hlt : k < N
    · have hni : x.lo + (k : Int) ≤ x.hi := by have := HWD.out; omega
      have hn99 : 0 ≤ x.lo + (k : Int) ∧ x.lo + (k : Int) ≤ 99 := by omega
      have HKS := Lib.hid (show putL (fun n => putS ws d (l ++ [n])) x.lo (k + 1) = putL (fun n => putS ws d (l ++ [n])) x.lo k ++ putS ws d (l ++ [x.lo + (k : Int)]) from rfl)
      generalize hpk : putL (fun n => putS ws d (l ++ [n])) x.lo (k + 1) = pk1 at HKS
      have HPK := Lib.hid hpk
      clear hpk
      have hpl := HLF.out k
      generalize putL (fun n => putS ws d (l ++ [n])) x.lo k = pk at HKS HSR hpl
      have hcnt : (all ++ pk).length + 4 ^ d ≤ 2000 := by
        have h1 := HCN.out
        rw [Nat.pow_succ] at h1
        rw [List.length_append]
        have h2 : k * 4 ^ d + 4 ^ d ≤ 4 ^ d * 4 := by
          have : k + 1 ≤ 4 := by omega
          have := Nat.mul_le_mul_right (4 ^ d) this
          rw [Nat.succ_mul] at this; omega
        omega
      have HCK := Lib.hid hcnt
      clear hcnt hpl
      have hself := HPR.out.self
      unfold selfV at hself
      have HSV := Lib.hid hself
      generalize hnn : x.lo + (k : Int) = n at *
      have HNN := Lib.hid hnn
      clear hnn
      go_wp2_with fail
      have hg2r : g2 < wr.heap.size := by omega
      have HSB : Hid (∀ w', Below wr.heap.size wr w' → w'.cell? ⟨g2, 0, none⟩ = some (.func (.func 85) #[] #[.pointer (some ⟨g1, 0, none⟩), .pointer (some ⟨g2, 0, none⟩), .pointer (some ⟨g, 0, none⟩)])) := Lib.hid (fun w' hb => (hb.cell (p := ⟨g2, 0, none⟩) hg2r).trans HSV.out)
      have hlor : lo ≤ wr.heap.size := by omega
      have HCALL : Hid (∀ (g6 cap6 : Nat) (w6 : World), Below wr.heap.size wr w6 → w6.ownsRow wr.heap.size 3 1 (.slice (some ⟨g6, 0, none⟩) (l.length + 1) cap6) (l.length + 1) (l.map (Value.int .i64) ++ [.int .i64 n]) →
          Calls Tryd.prog 85 #[.slice (some ⟨g6, 0, none⟩) (l.length + 1) cap6, .pointer (some ⟨g1, 0, none⟩), .pointer (some ⟨g2, 0, none⟩), .pointer (some ⟨g, 0, none⟩)] w6 (fun e w9 => e = .returned (.tuple #[]) ∧ ∃ v9, St g lo w9 (all ++ pk1) v9 ∧ Put2 g v.ownBlock W0 w9 ∧ NewOr W0 v.ownBlock v9.ownBlock ∧ w9.cell? ⟨g2, 0, none⟩ = some (.func (.func 85) #[] #[.pointer (some ⟨g1, 0, none⟩), .pointer (some ⟨g2, 0, none⟩), .pointer (some ⟨g, 0, none⟩)]))) := Lib.hid (fun g6 cap6 w6 hb6 hown6 => by
        have hlen1 : (l ++ [n]).length = l.length + 1 := by simp
        have hcap6 : l.length + 1 ≤ cap6 := by
          rcases hown6.2 with ⟨e, _⟩ | ⟨g', cap', cur, e, _, _, h, _⟩
          · cases e
          · injection e with e1 e2 e3; omega
        have hmap : (l ++ [n]).map (Value.int .i64) = l.map (Value.int .i64) ++ [.int .i64 n] := by simp
        have hix : IntsX w6 lo vr.ownBlock (some ⟨g6, 0, none⟩) (l ++ [n]) := own_intsX (wr := wr) (by rw [hmap]; exact hown6) hlor (fun q e => (hrl q e).2)
        have h := HIH.out (some ⟨g6, 0, none⟩) cap6 (l ++ [n]) (all ++ pk) vr w6 (HPR.out.put (r := none) (Put2.of_below hb6) (fun q e => by cases e)) (by have := HL.out; rw [hlen1]; omega)
          (fun f hf => by rcases List.mem_append.1 hf with h | h; · exact HF.out f h
                          · simp at h; subst h; exact hn99) (HSR.out.up hb6 (by omega)) hix (fun e => by cases e) (by rw [hlen1]; exact hcap6) HCK.out
        rw [hlen1] at h
        refine h.mono ?_
        rintro e w9 ⟨rfl, v9, t1, t2, t3⟩
        have hp6 : Put2 g v.ownBlock W0 w6 := HPW.out.trans (Put2.of_below (r := v.ownBlock) hb6) (NewOr.refl _ _)
        have hpa := (HPR.out.put (r := none) (Put2.of_below hb6) (fun q e => by cases e)).put t2 (fun q e => (hrl q e).1)
        exact ⟨rfl, v9, by rw [HKS.out, ← List.append_assoc]; exact t1, hp6.trans t2 HNR.out, HNR.out.trans t3 (by have := hb6.size; omega), hpa.self⟩)
      obtain ⟨i0, hi, hz0, hz1, hz2⟩ := info_parts info3
      have hwE : Below wr.heap.size wr (wr.alloc (.cells #[] 3)) := (Below.refl _ _).alloc (Nat.le_refl _) _
      have hwN : Below wr.heap.size wr (wr.alloc (.cells #[.int .i64 n] 3)) := (Below.refl _ _).alloc (Nat.le_refl _) _
      have hwEN : Below wr.heap.size wr ((wr.alloc (.cells #[] 3)).alloc (.cells #[.int .i64 n] 3)) := hwE.alloc (by simp) _
      have hwNE : Below wr.heap.size wr ((wr.alloc (.cells #[.int .i64 n] 3)).alloc (.cells #[] 3)) := hwN.alloc (by simp) _
      have hm0 : (wr.alloc (.cells #[] 3)).ownsRow wr.heap.size 3 1 (.slice (some ⟨wr.heap.size, 0, none⟩) 0 0) 0 [] := World.ownsRow_made wr #[] 0 (Nat.le_refl _) (by unfold maxLen; omega) rfl
      have hm1 : ((wr.alloc (.cells #[] 3)).alloc (.cells #[.int .i64 n] 3)).ownsRow wr.heap.size 3 1 (.slice (some ⟨wr.heap.size, 0, none⟩) 0 0) 0 [] := hm0.alloc _
      have hm2 : ((wr.alloc (.cells #[.int .i64 n] 3)).alloc (.cells #[] 3)).ownsRow wr.heap.size 3 1 (.slice (some ⟨wr.heap.size + 1, 0, none⟩) 0 0) 0 [] := by
        have h := World.ownsRow_made (base := wr.heap.size) (e := 3) (size := 1) (wr.alloc (.cells #[.int .i64 n] 3)) #[] 0 (by simp) (by unfold maxLen; omega) (by simp)
        simp only [World.size_alloc] at h
        exact h
      have hS0 : (fun w' : World => w'.cell? ⟨g2, 0, none⟩ = some (.func (.func 85) #[] #[.pointer (some ⟨g1, 0, none⟩), .pointer (some ⟨g2, 0, none⟩), .pointer (some ⟨g, 0, none⟩)])) wr := HSV.out
      have hS1 : (fun w' : World => w'.cell? ⟨g2, 0, none⟩ = some (.func (.func 85) #[] #[.pointer (some ⟨g1, 0, none⟩), .pointer (some ⟨g2, 0, none⟩), .pointer (some ⟨g, 0, none⟩)])) wr.drew := HSV.out
      refine wp_region_held (S := fun w' : World => w'.cell? ⟨g2, 0, none⟩ = some (.func (.func 85) #[] #[.pointer (some ⟨g1, 0, none⟩), .pointer (some ⟨g2, 0, none⟩), .pointer (some ⟨g, 0, none⟩)])) (by kernel_rfl) ?_
      try (change wpAnyH _ _ _ _ _ _ _ _ (World.drew _))
      refine wpAnyH_take (i := 0) (v := ?_) rfl (by kernel_rfl) (by kernel_rfl) (by kernel_rfl) (fun _ _ _ h => h) (Or.inl ⟨by rfl, ?_⟩) (by assumption) ?_
      rotate_left
      · intro w hSw; go_simp; try with_reducible rfl
      try simp only [Act.put, List.getElem_toArray, List.getElem_cons_zero, List.setIfInBounds_toArray, List.set_cons_zero, List.set_cons_succ]
      refine wpAnyH_take (i := 2) (v := ?_) rfl (by kernel_rfl) (by kernel_rfl) (by kernel_rfl) (fun _ _ _ h => h) (Or.inl ⟨by rfl, ?_⟩) (by assumption) ?_
      rotate_left
      · intro w hSw; go_simp; try with_reducible rfl
      try simp only [Act.put, List.getElem_toArray, List.getElem_cons_zero, List.getElem_cons_succ, List.setIfInBounds_toArray, List.set_cons_zero, List.set_cons_succ]
      refine wpAnyH_take (i := 4) (v := ?_) rfl (by kernel_rfl) (by kernel_rfl) (by kernel_rfl) (fun _ _ _ h => h) (Or.inl ⟨by rfl, ?_⟩) (by assumption) ?_
      rotate_left
      · intro w hSw; go_simp; try with_reducible rfl
      try simp only [Act.put, List.getElem_toArray, List.getElem_cons_zero, List.getElem_cons_succ, List.setIfInBounds_toArray, List.set_cons_zero, List.set_cons_succ]
      refine wpAnyH_ready (rs := [1, 5]) (by kernel_rfl) (by simp) ?_
      refine AllReadyH.cons rfl (fun K hK => ?_) (AllReadyH.cons rfl (fun K hK => ?_) AllReadyH.nil)
      · go_simp
        refine hK.out _ _ (HSB.out _ ⟨hwE.os, hwE.tape, hwE.output, hwE.size, hwE.block⟩) (fun _ => ?_)
        clear hK K
        try simp only [Act.put, List.getElem_toArray, List.getElem_cons_zero, List.getElem_cons_succ, List.setIfInBounds_toArray, List.set_cons_zero, List.set_cons_succ]
        refine wpAnyH_ready (rs := [3, 5]) (by kernel_rfl) (by simp) ?_
        refine AllReadyH.cons rfl (fun K hK => ?_) (AllReadyH.cons rfl (fun K hK => ?_) AllReadyH.nil)
        · refine step_copy rfl _ _ rfl wr.heap.size (wr.heap.size) c A l rfl (by exact hm0) rfl (upiF HIXR.out.ints ⟨hwE.os, hwE.tape, hwE.output, hwE.size, hwE.block⟩) HAC.out hl12 (by simp <;> omega) ?_
          intro gg cap w4 hown4 hgrow4 hg4
          have hb4 : Below wr.heap.size wr w4 := by
            refine Below.grown ?_ hgrow4 (by first | exact hwE.size | (simp; omega)) (fun q hq => by cases hq; first | exact Nat.le_refl _ | omega)
            exact ⟨hwE.os, hwE.tape, hwE.output, hwE.size, hwE.block⟩
          have hg := hown4.lt gg rfl
          refine hK.out _ _ (HSB.out _ hb4) (fun _ => ?_)
          clear hK K
          try simp only [Act.put, List.getElem_toArray, List.getElem_cons_zero, List.getElem_cons_succ, List.setIfInBounds_toArray, List.set_cons_zero, List.set_cons_succ]
          refine wpAnyH_ready (rs := [5]) (by kernel_rfl) (by simp) ?_
          refine AllReadyH.cons rfl (fun K hK => ?_) AllReadyH.nil
          go_simp
          have hb5 : Below wr.heap.size wr (w4.alloc (.cells #[.int .i64 n] 3)) := hb4.alloc hb4.size _
          refine hK.out _ _ (HSB.out _ hb5) (fun _ => ?_)
          clear hK K
          try simp only [Act.put, List.getElem_toArray, List.getElem_cons_zero, List.getElem_cons_succ, List.setIfInBounds_toArray, List.set_cons_zero, List.set_cons_succ]
          refine wpAnyH_ready (rs := [6]) (by kernel_rfl) (by simp) ?_
          refine AllReadyH.cons rfl (fun K hK => ?_) AllReadyH.nil
          refine step_append_lies _ rfl _ _ 25 rfl wr.heap.size 3 i0 (.int .i64 0) 1 8 Tryd.underlying25 hi hz0 hz1 hz2 rfl (by decide) (.slice (some ⟨gg, 0, none⟩) l.length cap) l.length (l.map (Value.int .i64)) rfl (hown4.alloc _) ⟨w4.heap.size, 0, none⟩ 1 1 [.int .i64 n] rfl rfl (cell_one_new _ _ _) (fun u hu => by simp at hu; subst hu; rfl) (by decide) (by unfold maxLen; omega) (by omega) (by first | exact hb4.size | (simp; have := hb4.size; omega)) _ rfl ?_
          intro g6 cap6 w6 hown6 hgrow6 hat6 hlt6
          have hb6 : Below wr.heap.size wr w6 := Below.grown hb5 hgrow6 (by first | exact hb4.size | (simp; have := hb4.size; omega)) (fun q hq => by cases hq; exact hg.1)
          refine hK.out _ _ (HSB.out _ hb6) (fun _ => ?_)
          clear hK K
          try simp only [Act.put, List.getElem_toArray, List.getElem_cons_zero, List.getElem_cons_succ, List.setIfInBounds_toArray, List.set_cons_zero, List.set_cons_succ]
          refine wpAnyH_ready (rs := [7]) (by kernel_rfl) (by simp) ?_
          refine AllReadyH.cons rfl (fun K hK => ?_) AllReadyH.nil
          go_simp
          refine (HCALL.out g6 cap6 w6 hb6 hown6).mono ?_
          rintro e w9 ⟨rfl, v9, t1, t2, t3, t4⟩
          refine hK.out _ _ t4 (fun _ => ?_)
          clear hK K
          refine wpAnyH_done (by kernel_rfl) ?_ _
          go_wp2_with fail
          go_roundw
          case rel => exact ⟨k + 1, v9, hlt, by refine congrArg _ ?_; have := HNN.out; omega, by rw [HPK.out]; exact t1, t2, t3⟩
          case measure => simp [intOf]; omega
        · go_simp
          refine hK.out _ _ (HSB.out _ ⟨hwEN.os, hwEN.tape, hwEN.output, hwEN.size, hwEN.block⟩) (fun _ => ?_)
          clear hK K
          try simp only [Act.put, List.getElem_toArray, List.getElem_cons_zero, List.getElem_cons_succ, List.setIfInBounds_toArray, List.set_cons_zero, List.set_cons_succ]
          refine wpAnyH_ready (rs := [3]) (by kernel_rfl) (by simp) ?_
          refine AllReadyH.cons rfl (fun K hK => ?_) AllReadyH.nil
          refine step_copy rfl _ _ rfl wr.heap.size (wr.heap.size) c A l rfl (by exact hm1) rfl (upiF HIXR.out.ints ⟨hwEN.os, hwEN.tape, hwEN.output, hwEN.size, hwEN.block⟩) HAC.out hl12 (by simp <;> omega) ?_
          intro gg cap w4 hown4 hgrow4 hg4
          have hb4 : Below wr.heap.size wr w4 := by
            refine Below.grown ?_ hgrow4 (by first | exact hwE.size | (simp; omega)) (fun q hq => by cases hq; first | exact Nat.le_refl _ | omega)
            exact ⟨hwEN.os, hwEN.tape, hwEN.output, hwEN.size, hwEN.block⟩
          have hg := hown4.lt gg rfl
          have hcs : ∀ (j : Nat) (u : Value), [Value.int .i64 n][j]? = some u → w4.cell? ((⟨wr.heap.size + 1, 0, none⟩ : Addr).add j) = some u := fun j u hu => by
            match j, hu with
            | 0, hu =>
              simp at hu
              subst hu
              exact (World.cell?_of_block (a := ⟨wr.heap.size + 1, 0, none⟩) (hgrow4.block (wr.heap.size + 1) (by simp <;> omega) (by simp))).trans (by simp [go_sem])
          have hs4 : wr.heap.size + 2 ≤ w4.heap.size := by have := hgrow4.size; simpa using this
          refine hK.out _ _ (HSB.out _ hb4) (fun _ => ?_)
          clear hK K
          try simp only [Act.put, List.getElem_toArray, List.getElem_cons_zero, List.getElem_cons_succ, List.setIfInBounds_toArray, List.set_cons_zero, List.set_cons_succ]
          refine wpAnyH_ready (rs := [6]) (by kernel_rfl) (by simp) ?_
          refine AllReadyH.cons rfl (fun K hK => ?_) AllReadyH.nil
          refine step_append_lies _ rfl _ _ 25 rfl wr.heap.size 3 i0 (.int .i64 0) 1 8 Tryd.underlying25 hi hz0 hz1 hz2 rfl (by decide) (.slice (some ⟨gg, 0, none⟩) l.length cap) l.length (l.map (Value.int .i64)) rfl (hown4) ⟨wr.heap.size + 1, 0, none⟩ 1 1 [.int .i64 n] rfl rfl hcs (fun u hu => by simp at hu; subst hu; rfl) (by decide) (by unfold maxLen; omega) (by omega) (by first | exact hb4.size | (simp; have := hb4.size; omega)) _ rfl ?_
          intro g6 cap6 w6 hown6 hgrow6 hat6 hlt6
          have hb6 : Below wr.heap.size wr w6 := Below.grown hb4 hgrow6 (by first | exact hb4.size | (simp; have := hb4.size; omega)) (fun q hq => by cases hq; exact hg.1)
          refine hK.out _ _ (HSB.out _ hb6) (fun _ => ?_)
          clear hK K
          try simp only [Act.put, List.getElem_toArray, List.getElem_cons_zero, List.getElem_cons_succ, List.setIfInBounds_toArray, List.set_cons_zero, List.set_cons_succ]
          refine wpAnyH_ready (rs := [7]) (by kernel_rfl) (by simp) ?_
          refine AllReadyH.cons rfl (fun K hK => ?_) AllReadyH.nil
          go_simp
          refine (HCALL.out g6 cap6 w6 hb6 hown6).mono ?_
          rintro e w9 ⟨rfl, v9, t1, t2, t3, t4⟩
          refine hK.out _ _ t4 (fun _ => ?_)
          clear hK K
          refine wpAnyH_done (by kernel_rfl) ?_ _
          go_wp2_with fail
          go_roundw
          case rel => exact ⟨k + 1, v9, hlt, by refine congrArg _ ?_; have := HNN.out; omega, by rw [HPK.out]; exact t1, t2, t3⟩
          case measure => simp [intOf]; omega
      · go_simp
        refine hK.out _ _ (HSB.out _ ⟨hwN.os, hwN.tape, hwN.output, hwN.size, hwN.block⟩) (fun _ => ?_)
        clear hK K
        try simp only [Act.put, List.getElem_toArray, List.getElem_cons_zero, List.getElem_cons_succ, List.setIfInBounds_toArray, List.set_cons_zero, List.set_cons_succ]
        refine wpAnyH_ready (rs := [1]) (by kernel_rfl) (by simp) ?_
        refine AllReadyH.cons rfl (fun K hK => ?_) AllReadyH.nil
        go_simp
        refine hK.out _ _ (HSB.out _ ⟨hwNE.os, hwNE.tape, hwNE.output, hwNE.size, hwNE.block⟩) (fun _ => ?_)
        clear hK K
        try simp only [Act.put, List.getElem_toArray, List.getElem_cons_zero, List.getElem_cons_succ, List.setIfInBounds_toArray, List.set_cons_zero, List.set_cons_succ]
        refine wpAnyH_ready (rs := [3]) (by kernel_rfl) (by simp) ?_
        refine AllReadyH.cons rfl (fun K hK => ?_) AllReadyH.nil
        refine step_copy rfl _ _ rfl wr.heap.size (wr.heap.size + 1) c A l rfl (by exact hm2) rfl (upiF HIXR.out.ints ⟨hwNE.os, hwNE.tape, hwNE.output, hwNE.size, hwNE.block⟩) HAC.out hl12 (by simp <;> omega) ?_
        intro gg cap w4 hown4 hgrow4 hg4
        have hb4 : Below wr.heap.size wr w4 := by
          refine Below.grown ?_ hgrow4 (by first | exact hwE.size | (simp; omega)) (fun q hq => by cases hq; first | exact Nat.le_refl _ | omega)
          exact ⟨hwNE.os, hwNE.tape, hwNE.output, hwNE.size, hwNE.block⟩
        have hg := hown4.lt gg rfl
        have hcs : ∀ (j : Nat) (u : Value), [Value.int .i64 n][j]? = some u → w4.cell? ((⟨wr.heap.size, 0, none⟩ : Addr).add j) = some u := fun j u hu => by
          match j, hu with
          | 0, hu =>
            simp at hu
            subst hu
            exact (World.cell?_of_block (a := ⟨wr.heap.size, 0, none⟩) (hgrow4.block wr.heap.size (by simp <;> omega) (by simp))).trans (by simp [go_sem])
        have hs4 : wr.heap.size + 2 ≤ w4.heap.size := by have := hgrow4.size; simpa using this
        refine hK.out _ _ (HSB.out _ hb4) (fun _ => ?_)
        clear hK K
        try simp only [Act.put, List.getElem_toArray, List.getElem_cons_zero, List.getElem_cons_succ, List.setIfInBounds_toArray, List.set_cons_zero, List.set_cons_succ]
        refine wpAnyH_ready (rs := [6]) (by kernel_rfl) (by simp) ?_
        refine AllReadyH.cons rfl (fun K hK => ?_) AllReadyH.nil
        refine step_append_lies _ rfl _ _ 25 rfl wr.heap.size 3 i0 (.int .i64 0) 1 8 Tryd.underlying25 hi hz0 hz1 hz2 rfl (by decide) (.slice (some ⟨gg, 0, none⟩) l.length cap) l.length (l.map (Value.int .i64)) rfl (hown4) ⟨wr.heap.size, 0, none⟩ 1 1 [.int .i64 n] rfl rfl hcs (fun u hu => by simp at hu; subst hu; rfl) (by decide) (by unfold maxLen; omega) (by omega) (by first | exact hb4.size | (simp; have := hb4.size; omega)) _ rfl ?_
        intro g6 cap6 w6 hown6 hgrow6 hat6 hlt6
        have hb6 : Below wr.heap.size wr w6 := Below.grown hb4 hgrow6 (by first | exact hb4.size | (simp; have := hb4.size; omega)) (fun q hq => by cases hq; exact hg.1)
        refine hK.out _ _ (HSB.out _ hb6) (fun _ => ?_)
        clear hK K
        try simp only [Act.put, List.getElem_toArray, List.getElem_cons_zero, List.getElem_cons_succ, List.setIfInBounds_toArray, List.set_cons_zero, List.set_cons_succ]
        refine wpAnyH_ready (rs := [7]) (by kernel_rfl) (by simp) ?_
        refine AllReadyH.cons rfl (fun K hK => ?_) AllReadyH.nil
        go_simp
        refine (HCALL.out g6 cap6 w6 hb6 hown6).mono ?_
        rintro e w9 ⟨rfl, v9, t1, t2, t3, t4⟩
        refine hK.out _ _ t4 (fun _ => ?_)
        clear hK K
        refine wpAnyH_done (by kernel_rfl) ?_ _
        go_wp2_with fail
        go_roundw
        case rel => exact ⟨k + 1, v9, hlt, by refine congrArg _ ?_; have := HNN.out; omega, by rw [HPK.out]; exact t1, t2, t3⟩
        case measure => simp [intOf]; omega
    · have hkN : k = N := by omega
      subst hkN
      have hhi : ¬ (x.lo + (k : Int) ≤ x.hi) := by have := HWD.out; omega
      go_wp2_with fail
      refine bodyPost_ret (v := .tuple #[]) (by simp [results, Tryd.results85, go_sem]) rfl ⟨rfl, vr, ?_, (Put2.of_below hb0).trans HPW.out (NewOr.refl _ _), ?_⟩
      · rw [HPS.out]; exact HSR.out
      · rcases HNR.out with e | ⟨q, e, hq⟩
        · exact .inl e
        · exact .inr ⟨q, e, by omega⟩

/-- THE WALK OF put. -/
theorem put_any (rooms : Nat) (Aw : Option Addr) (cw g1 g2 g lo : Nat) (ws : List Wy) : ∀ (d : Nat) (A : Option Addr) (c : Nat) (l : List Int) (all : List (List Int)) (v : Value) (w : World), PutAt rooms g1 g2 g lo Aw cw ws w → l.length + d = ws.length → (∀ f ∈ l, 0 ≤ f ∧ f ≤ 99) → St g lo w all v → IntsX w lo v.ownBlock A l → (A = none → c = 0) → l.length ≤ c → all.length + 4 ^ d ≤ 2000 →
      Calls Tryd.prog 85 #[.slice A l.length c, .pointer (some ⟨g1, 0, none⟩), .pointer (some ⟨g2, 0, none⟩), .pointer (some ⟨g, 0, none⟩)] w (PutPost g lo w (all ++ putS ws d l) v)
  | 0, A, c, l, all, v, w, hp, hl, hf, hst, hA, _, hcap, hcnt => put_leaf rooms A Aw c cw g1 g2 g lo ws l all v w hp.val hp.ne (by omega) hf hp.h1 hp.h4 hp.h5 hp.box hp.ways hst hA hcap (by omega)
  | d + 1, A, c, l, all, v, w, hp, hl, hf, hst, hA, hAc, hcap, hcnt => put_step rooms A Aw c cw g1 g2 g lo d ws l all v w hp hl hf hst hA hAc hcap hcnt (put_any rooms Aw cw g1 g2 g lo ws d)

/-- Lists of lists in memory. -/
def ListsAt (w : World) (B : Nat) (A : Option Addr) (all : List (List Int)) : Prop :=
  ∀ (k : Nat) (l : List Int), all[k]? = some l → ∃ b off A' c', A = some ⟨b, off, none⟩ ∧ b < B ∧ w.cell? ⟨b, off + k, none⟩ = some (.slice A' l.length c') ∧ IntsAt w B A' l ∧ l.length ≤ c'

def RetLists (w : World) (all : List (List Int)) (e : Ending) (w' : World) : Prop := ∃ A c, e = .returned (.slice A all.length c) ∧ ListsAt w' w'.heap.size A all ∧ Below w.heap.size w w'

set_option maxRecDepth 100000 in
set_option maxHeartbeats 1000000 in
/-- ALL FLOWS ARE LISTED. -/
theorem flows_any (rooms : Nat) (A : Option Addr) (c : Nat) (ws : List Wy) (w : World) (hv : ValB rooms ws) (hsd : ∀ x ∈ ws, x.src ≠ x.dst) (hwd : ∀ x ∈ ws, wide x ≤ 4) (h5 : ws.length ≤ 5) (hw : WaysAt w w.heap.size A ws) :
    Calls Tryd.prog 45 #[.agg #[.int .i64 rooms, .slice A ws.length c]] w (RetLists w (flowsS ws)) := by
  have hlen := putS_len hwd ws.length []
  have hcnt : 4 ^ ws.length ≤ 1024 := Nat.le_trans (Nat.pow_le_pow_right (by decide) h5) (by decide)
  have H := Lib.hid (fun W hp hst => put_any rooms A c w.heap.size (w.heap.size + 1 + 1) (w.heap.size + 1) (w.heap.size + 3) ws ws.length none 0 [] [] (.slice none 0 0) W hp (by simp) (by simp) hst (IntsX.nil _ _ _ _) (fun _ => rfl) (Nat.zero_le _) (by simp; omega))
  unfold flowsS
  simp only [List.nil_append, List.length_nil] at H
  generalize putS ws ws.length [] = all at H hlen ⊢
  have hl1 : all.length ≤ 1024 := Nat.le_trans hlen hcnt
  clear hlen hcnt
  have HV := Lib.hid hv
  have HSD := Lib.hid hsd
  have HWD := Lib.hid hwd
  have HW := Lib.hid hw
  clear hv hsd hwd hw
  go_enter Tryd.func45, Tryd.ntmps45
  go_wp2_with fail
  obtain ⟨W3, hW3⟩ : ∃ W3, W3 = ((w.alloc (.cells #[.int .i64 rooms, .slice A ws.length c] 24)).alloc (.cells #[.slice none 0 0] 65)).alloc (.cells #[.func (.func 85) #[] #[.pointer (some ⟨w.heap.size, 0, none⟩), .pointer (some ⟨w.heap.size + 1 + 1, 0, none⟩), .pointer (some ⟨w.heap.size + 1, 0, none⟩)]] 111) := ⟨_, rfl⟩
  have hz3 : W3.heap.size = w.heap.size + 3 := by rw [hW3]; simp
  have hb3 : Below w.heap.size w W3 := by rw [hW3]; exact (((Below.refl w.heap.size w).alloc (Nat.le_refl _) _).alloc (by simp) _).alloc (by simp <;> omega) _
  have hp : PutAt rooms w.heap.size (w.heap.size + 1 + 1) (w.heap.size + 1) (w.heap.size + 3) A c ws W3 := by
    refine ⟨HV.out, HSD.out, HWD.out, by omega, by omega, by omega, by omega, by omega, ?_, (HW.out.below hb3 (Nat.le_refl _)).mono (by omega), ?_⟩
    · rw [hW3]; simp [go_sem]
    · rw [hW3]; simp [go_sem, selfV]
  have hst : St (w.heap.size + 1) (w.heap.size + 3) W3 [] (.slice none 0 0) := by
    refine ⟨?_, ?_, [], World.ownsRow_nil _ _ _ _, rfl, fun k l h => by simp at h⟩
    · rw [hW3]; simp [go_sem]
    · rw [hW3]; simp [go_sem]
  rw [← hW3]
  clear hW3
  refine (H.out W3 hp hst).mono ?_
  rintro e w4 ⟨rfl, v', ⟨s1, s2, cs, s3, s4⟩, t2, t3⟩
  obtain ⟨B, cap, rfl⟩ := own_form s3
  have hb4 : Below w.heap.size w w4 := hb3.trans (t2.below (by omega) (by omega) (fun k e => by cases e))
  have HS4 := Lib.hid s4
  have HS3 := Lib.hid s3
  have HB := Lib.hid hb4
  clear s3 s4 t2 t3 hb3 hb4 hp hst H s2
  go_wp2
  go_ret
  refine ⟨B, cap, rfl, ?_, HB.out⟩
  intro k l hl
  obtain ⟨A', cap', e1, e2, e6⟩ := HS4.out.2 k l hl
  have hk : k < all.length := lt_of_get hl
  rcases HS3.out.2 with ⟨_, h0⟩ | ⟨g, cap2, cur, e, _⟩
  · omega
  · injection e with e3 e4 e5
    subst e3
    have hc := HS3.out.cells (g := g) rfl k _ e1
    have ea : (⟨g, 0, none⟩ : Addr).add k = ⟨g, 0 + k, none⟩ := by unfold Addr.add; split <;> simp_all
    rw [ea] at hc
    exact ⟨g, 0, A', cap', rfl, (HS3.out.lt g rfl).2, hc, e2.ints, e6⟩
end Go.Proofs.YtcebihijnedekaaDoor
