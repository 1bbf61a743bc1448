/-
  The reference's fillings: walked.
-/
import Derived.Test.YtlollcabnfncpaaDoorRefE
namespace Go.Proofs.YtlollcabnfncpaaDoor
open Go.RowKit

theorem near_fit {s : Sh} (hs : s.Ok) {x : Cd} (h : fitP s x) : Near x := by
  obtain ⟨h1, h2, h3, h4⟩ := h
  have := hs.r6
  have := hs.c6
  exact ⟨⟨h1, by omega⟩, h3, by omega⟩

/-- The first square that is not covered. -/
theorem first_eq {s : Sh} (hs : s.Ok) {cov p : Nat} (hin : InS s cov) (hb : ∀ i, i < p → cov.testBit i = true) (hp : cov.testBit p = false) : ctzU 64 cov = p := by
  have h64 : cov < 2 ^ 64 := by have := hin.lt36 hs; omega
  have h1 := ctzU_bit 64 cov h64
  rcases Nat.lt_trichotomy (ctzU 64 cov) p with h | h | h
  · rw [hb _ h] at h1; cases h1
  · exact h
  · rw [ctzU_below 64 cov p h] at hp; cases hp

/-- Fillings are handed back. -/
def RetFils (w : World) (A0 : Option Addr) (ls : List (List Cd)) (e : Ending) (w' : World) : Prop := ∃ A c vals, e = .returned (.slice A ls.length c) ∧ (∀ j u, vals[j]? = some u → ∃ ad, A = some ad ∧ ad.block < w'.heap.size ∧ w'.cell? (ad.add j) = some u) ∧
  Sls w' (fun i => w.heap.size ≤ i ∨ ∃ ad, A0 = some ad ∧ ad.block = i) vals ls ∧ Below w.heap.size w w'

def FilSpec (s : Sh) (n : Nat) : Prop := ∀ (l : List Cd) (A : Option Addr) (c most : Nat) (w : World), lft s (covL s l) < n → (∀ x ∈ l, fitP s x) → l.length + lft s (covL s l) ≤ 36 → RcdsAt w w.heap.size A l → (∀ ad, A = some ad → ad.block < w.heap.size) → 1 ≤ most → most ≤ 1048576 →
  Calls Tryd.prog 64 #[.agg #[.int .i64 s.r, .int .i64 s.c, .int .i64 s.l, .int .i64 s.w], .slice A l.length c, .int .i64 most] w (RetFils w A ((filC s (covL s l) l).take most))

/-- The fillings of the first turns. -/
def upto (s : Sh) (cov : Nat) (l : List Cd) : Nat → List (List Cd)
  | 0 => []
  | n + 1 => upto s cov l n ++ prt s cov l (n == 1)

theorem upto_none {s : Sh} {cov : Nat} {l : List Cd} {t most : Nat} (h : prt s cov l (t == 1) = []) : (upto s cov l (t + 1)).take most = (upto s cov l t).take most := by
  rw [upto, h, List.append_nil]
theorem upto_full {s : Sh} {cov : Nat} {l : List Cd} {t most : Nat} (h : most ≤ ((upto s cov l t).take most).length) : (upto s cov l (t + 1)).take most = (upto s cov l t).take most := by
  rw [List.length_take] at h
  rw [upto, List.take_append, show most - (upto s cov l t).length = 0 by omega, List.take_zero, List.append_nil]
theorem upto_more {s : Sh} {cov : Nat} {l : List Cd} {t most : Nat} (h : ((upto s cov l t).take most).length < most) :
    (upto s cov l (t + 1)).take most = (upto s cov l t).take most ++ (prt s cov l (t == 1)).take (most - ((upto s cov l t).take most).length) := by
  rw [List.length_take] at h
  rw [upto, List.take_append, List.length_take, show min most (upto s cov l t).length = (upto s cov l t).length by omega]
theorem Out.shape {B : Nat} {W : World} {v : Value} {ls : List (List Cd)} (h : Out B W v ls) : ∃ A c, v = .slice A ls.length c := by
  obtain ⟨vals, h1, _⟩ := h
  rcases h1.2 with ⟨rfl, h0⟩ | ⟨g, cap, cur, rfl, _⟩
  · exact ⟨none, 0, by rw [h0]⟩
  · exact ⟨_, _, rfl⟩

theorem fil_call {s : Sh} (hs : s.Ok) {n : Nat} (IH : FilSpec s n) {l : List Cd} {cov : Nat} (hcv : covL s l = cov) (hf : ∀ x ∈ l, fitP s x) (hlen : l.length + lft s cov ≤ 36) (hn : lft s cov < n + 1) {x : Cd} (hx : x ∈ nxt s cov)
    {most k : Nat} (hk : k < most) (hm : most ≤ 1048576) {B g c' : Nat} {W : World} {Q : Ending → World → Prop} (hB : B ≤ W.heap.size) (hown : W.ownsRow B 99 3 (.slice (some ⟨g, 0, none⟩) (l.length + 1) c') (l.length + 1) (rcdcells (l ++ [x])))
    (hQ : ∀ A c vals w', (∀ j u, vals[j]? = some u → ∃ ad, A = some ad ∧ w'.cell? (ad.add j) = some u) → Sls w' (fun i => B ≤ i) vals ((filC s (cov ||| und s x) (l ++ [x])).take (most - k)) → Below W.heap.size W w' →
      Q (.returned (.slice A ((filC s (cov ||| und s x) (l ++ [x])).take (most - k)).length c)) w') :
    Calls Tryd.prog 64 #[.agg #[.int .i64 s.r, .int .i64 s.c, .int .i64 s.l, .int .i64 s.w], .slice (some ⟨g, 0, none⟩) (l.length + 1) c', .int .i64 ((most : Int) - (k : Int))] W Q := by
  obtain ⟨A', c'', he, hAt, _⟩ := own_rcds hown
  injection he with e1 e2 e3
  subst e1 e3
  have hcs : covL s (l ++ [x]) = cov ||| und s x := by rw [covL_snoc, hcv]
  have hlt := lft_nxt hs hx
  have hgl := hown.lt g rfl
  have H := IH (l ++ [x]) (some ⟨g, 0, none⟩) c' (most - k) W (by rw [hcs]; omega)
    (fun y hy => by rcases List.mem_append.1 hy with h | h; exact hf y h; rw [List.mem_singleton.1 h]; exact (mem_nxt hx).2.1)
    (by rw [hcs, List.length_append, List.length_singleton]; omega) hAt (fun ad e => by injection e with e; subst e; exact hgl.2) (by omega) (by omega)
  rw [hcs, List.length_append, List.length_singleton, show (((most - k : Nat) : Int)) = (most : Int) - (k : Int) by omega] at H
  refine H.mono ?_
  rintro e w' ⟨A, c, vals, rfl, h1, h2, h3⟩
  refine hQ A c vals w' (fun j u hu => ?_) (h2.imp fun i hi => ?_) h3
  · obtain ⟨ad, e, _, e'⟩ := h1 j u hu
    exact ⟨ad, e, e'⟩
  · rcases hi with h | ⟨ad, e, h⟩
    · omega
    · injection e with e; subst e; dsimp only at h; omega

theorem out_ret {w W : World} {B c : Nat} {A A0 : Option Addr} {ls ls' : List (List Cd)} (h : Out B W (.slice A ls.length c) ls) (e : ls = ls') (hB : w.heap.size ≤ B) (hb : Below w.heap.size w W) :
    RetFils w A0 ls' (.returned (.slice A ls.length c)) W := by
  subst e
  obtain ⟨vals, h1, h2⟩ := h
  refine ⟨A, c, vals, rfl, ?_, h2.imp fun i hi => .inl (by omega), hb⟩
  intro j u hu
  rcases h1.2 with ⟨_, h0⟩ | ⟨g, cap, cur, hv, _⟩
  · have hl := h1.1
    rw [h0] at hl
    have hn : vals = [] := List.eq_nil_of_length_eq_zero (by simpa using hl)
    subst hn
    simp at hu
  · injection hv with e1
    subst e1
    exact ⟨_, rfl, (h1.lt g rfl).2, h1.cells (g := g) rfl j u hu⟩
theorem leaf_ret {w W : World} {A : Option Addr} {c : Nat} {l : List Cd} (hb : Below w.heap.size w W) (hA : RcdsAt w w.heap.size A l) (hAb : ∀ ad, A = some ad → ad.block < w.heap.size) :
    RetFils w A [l] (.returned (.slice (some ⟨W.heap.size, 0, none⟩) 1 1)) (W.alloc (.cells #[.slice A l.length c] 32)) := by
  have hb' := hb.alloc hb.size (.cells #[.slice A l.length c] 32)
  refine ⟨some ⟨W.heap.size, 0, none⟩, 1, [.slice A l.length c], rfl, ?_, ⟨⟨A, c, rfl, hA.up hb', fun ad e => ⟨Nat.lt_of_lt_of_le (hAb ad e) hb'.size, .inr ⟨ad, e, rfl⟩⟩⟩, trivial⟩, hb'⟩
  intro j u hu
  rcases j with _ | j
  · have hu : Value.slice A l.length c = u := by simpa using hu
    subst hu
    refine ⟨_, rfl, by simp, ?_⟩
    rw [adr_add]
    simp [go_sem]
  · simp at hu

/-- At a step of a region behind w6: cards are copied into an empty row of the region's own. -/
theorem step_copy {ops : Array Oper} {o : Oper} {a : Act} {K : Act → World → Prop} {Q : Exit → Act → World → Prop} {E : Prop} (w6 W : World) (hgd : o.guard = none) (s x : Operand)
    (ho : o.op = .call { callee := .builtin .append, args := #[s, x], argTypes := #[32, 32] }) (v : Value) (l : List Cd) (hs : a.eval s = v) (hown : W.ownsRow w6.heap.size 99 3 v 0 (rcdcells [])) (hb : Below w6.heap.size w6 W)
    (A : Option Addr) (c : Nat) (hx : a.eval x = .slice A l.length c) (hA : RcdsAt W W.heap.size A l) (hk : l.length < 1000000)
    (h : ∀ v' w', w'.ownsRow w6.heap.size 99 3 v' l.length (rcdcells l) → Below w6.heap.size w6 w' → (∀ i o, W.heap[i]? = some o → v.ownBlock ≠ some i → w'.heap[i]? = some o) → K (a.put o.dst v') w') :
    if Region.wanted o (yielded ops a.tmps) = true then Oper.wp Tryd.prog o a W K Q else E := by
  refine step_append_rcds W hgd s x ho w6.heap.size 0 v [] l hs hown A c _ hx hA (by omega) hb.size ?_
  intro v' w' h1 h2 _
  refine h v' w' (by simpa using h1) (hb.grown h2 hb.size fun g hg => (hown.lt g hg).1) fun i p hp hne => (Chg.of_grown h2).heap hp fun e => hne e.symm
/-- At a step of a region behind w6: a card is appended to a row of the region's own. -/
theorem step_push {ops : Array Oper} {o : Oper} {a : Act} {K : Act → World → Prop} {Q : Exit → Act → World → Prop} {E : Prop} (w6 W : World) (hgd : o.guard = none) (s x : Operand)
    (ho : o.op = .call { callee := .builtin .append, args := #[s, x], argTypes := #[32, 32] }) (v : Value) (l : List Cd) (y : Cd) (hs : a.eval s = v) (hown : W.ownsRow w6.heap.size 99 3 v l.length (rcdcells l)) (hb : Below w6.heap.size w6 W)
    (B : Nat) (hx : a.eval x = .slice (some ⟨B, 0, none⟩) 1 1) (hB : W.heap[B]? = some (.cells #[.int .i64 y.row, .int .i64 y.col, .bool y.t] 99 (0, 0))) (hk : l.length < 1000000)
    (h : ∀ g c w', w'.ownsRow w6.heap.size 99 3 (.slice (some ⟨g, 0, none⟩) (l.length + 1) c) (l.length + 1) (rcdcells (l ++ [y])) → Below w6.heap.size w6 w' → K (a.put o.dst (.slice (some ⟨g, 0, none⟩) (l.length + 1) c)) w') :
    if Region.wanted o (yielded ops a.tmps) = true then Oper.wp Tryd.prog o a W K Q else E := by
  refine step_append_rcd W hgd s x ho w6.heap.size l.length B v l y hs hown hx hB hk hb.size ?_
  intro g c w' h1 h2 _
  exact h g c w' h1 (hb.grown h2 hb.size fun g hg => (hown.lt g hg).1)

set_option maxRecDepth 100000 in
set_option maxHeartbeats 4000000 in
theorem fil_step (s : Sh) (hs : s.Ok) (n : Nat) (IH : FilSpec s n) : FilSpec s (n + 1) := by
  intro l A c most w hn hf hlen hA hAb hm1 hm2
  have hr6 := hs.r6
  have hc6 := hs.c6
  have hc1 := hs.c1
  have hin := covL_in hf
  have HC := Lib.hid (fun (row col : Nat) (b : Bool) (hcol : col < s.c) (hb : (covL s l).testBit (row * s.c + col) = b) W (Q : Ending → World → Prop) (h : Below w.heap.size w W) (hQ : ∀ w', Below W.heap.size W w' → Q (.returned (.bool b)) w') =>
    (covered_any s A c l row col W hs ((hA.up h)) (fun x hx => near_fit hs (hf x hx)) (by omega)).mono fun e w' ⟨he, hb'⟩ => by rw [he, covA_bit hf hcol, hb]; exact hQ w' hb')
  obtain ⟨W0, hW0⟩ : ∃ W0, W0 = w.alloc (.cells #[.int .i64 s.r, .int .i64 s.c, .int .i64 s.l, .int .i64 s.w] 24) := ⟨_, rfl⟩
  have hb0 : Below w.heap.size w W0 := hW0 ▸ below_new w _
  have hz0 : w.heap.size + 1 = W0.heap.size := by rw [hW0]; simp
  have HK := Lib.hid (fun (W : World) (h : Below W0.heap.size W0 W) => show W.cell? ⟨w.heap.size, 0, none⟩ = some (.int .i64 s.r) ∧ W.cell? ⟨w.heap.size, 1, none⟩ = some (.int .i64 s.c) ∧ W.cell? ⟨w.heap.size, 2, none⟩ = some (.int .i64 s.l) ∧ W.cell? ⟨w.heap.size, 3, none⟩ = some (.int .i64 s.w) from
    ⟨(h.cell (p := ⟨w.heap.size, 0, none⟩) (by simp; omega)).trans (by rw [hW0]; simp [go_sem]), (h.cell (p := ⟨w.heap.size, 1, none⟩) (by simp; omega)).trans (by rw [hW0]; simp [go_sem]), (h.cell (p := ⟨w.heap.size, 2, none⟩) (by simp; omega)).trans (by rw [hW0]; simp [go_sem]), (h.cell (p := ⟨w.heap.size, 3, none⟩) (by simp; omega)).trans (by rw [hW0]; simp [go_sem])⟩)
  have HA := Lib.hid hA
  have HF := Lib.hid hf
  have HN := Lib.hid hn
  have HL := Lib.hid hlen
  have HI := Lib.hid hin
  have HAB := Lib.hid hAb
  have HB0 := Lib.hid hb0
  clear hA hf hn hlen hin hAb
  generalize hcov : covL s l = cov at *
  have HCV := Lib.hid hcov
  clear hcov
  go_enter Tryd.func64, Tryd.ntmps64
  go_wp2
  rw [← hW0]
  have HZ := Lib.hid hz0
  clear hW0 hz0 hb0
  go_loopw [7, 8] (fun i j wr => ∃ r0 c0 : Nat, i = .int .i64 r0 ∧ j = .int .i64 c0 ∧ c0 < s.c ∧ (r0 < s.r ∨ r0 = s.r ∧ c0 = 0) ∧ Hid (∀ i, i < r0 * s.c + c0 → cov.testBit i = true) ∧ Below W0.heap.size W0 wr) (fun i j _ => (s.r - (intOf i).toNat) * 7 + (6 - (intOf j).toNat))
  case atStart => exact ⟨0, 0, rfl, rfl, by omega, by omega, Lib.hid (fun i hi => by omega), Below.refl _ _⟩
  case round =>
    obtain ⟨r0, c0, rfl, rfl, hc0, hrc, HM, hbr⟩ := hrel
    obtain ⟨k0, k1, k2, k3⟩ := HK.out _ hbr
    have hzw : w.heap.size + 1 = W0.heap.size := HZ.out
    have hzr := hbr.size
    have hbw : Below w.heap.size w wr := HB0.out.trans (hbr.mono (by omega))
    rcases hrc with hr | ⟨rfl, rfl⟩
    · rcases hb : cov.testBit (r0 * s.c + c0) with _ | _
      · have HC1 := Lib.hid (fun (Q : Ending → World → Prop) => HC.out r0 c0 false hc0 hb wr Q hbw)
        have HP := Lib.hid (first_eq hs HI.out HM.out hb)
        have hrs : ((r0 : Int) == (s.r : Int)) = false := beq_eq_false_iff_ne.2 (by omega)
        have hbit := hb
        clear hb
        go_wp2_with (first | (go_at_call 86; with_reducible refine HC1.out _ ?_; intro w5 hb5; obtain ⟨q0, q1, q2, q3⟩ := HK.out _ (hbr.trans (hb5.mono hzr))))
        have hb1 : Below w.heap.size w w5 := hbw.trans (hb5.mono hbw.size)
        have HK1 := Lib.hid (fun (W : World) (h : Below w5.heap.size w5 W) => HK.out W ((hbr.trans (hb5.mono hzr)).trans (h.mono (by have := hb5.size; omega))))
        have HNW := Lib.hid (show cov ≠ whl s from fun e => by rw [e, whl_bit] at hbit; simp at hbit; have := sq_lt hr hc0; omega)
        have HCR := Lib.hid (show ∀ t, crd s cov t = ⟨r0, c0, t⟩ from fun t => by
          unfold crd
          rw [HP.out, show (r0 * s.c + c0) / s.c = r0 by rw [Nat.mul_comm, Nat.mul_add_div (by omega), Nat.div_eq_of_lt hc0, Nat.add_zero], show (r0 * s.c + c0) % s.c = c0 by rw [Nat.mul_comm, Nat.mul_add_mod, Nat.mod_eq_of_lt hc0]])
        have HB1 := Lib.hid hb1
        have hz5 : w.heap.size < w5.heap.size := by have := hb5.size; omega
        clear hbr hb5 k0 k1 k2 k3 q0 q1 q2 q3 hb1 hbit HC1 HC HP HM HZ hzr hbw hzw HK HB0
        obtain ⟨W1, rfl⟩ : ∃ W1 : World, W1 = w5 := ⟨_, rfl⟩
        go_loopw [9, 10] (fun v j wr => ∃ t : Nat, t ≤ 2 ∧ j = .int .i64 t ∧ Out W1.heap.size wr v ((upto s cov l t).take most) ∧ Below W1.heap.size W1 wr) (fun _ j _ => 2 - (intOf j).toNat)
        case atStart => exact ⟨0, by omega, rfl, by simpa [upto] using Out.nil _ _, Below.refl _ _⟩
        case round =>
          obtain ⟨t, ht, rfl, hO, hbt⟩ := hrel
          obtain ⟨A1, c1, rfl⟩ := hO.shape
          obtain ⟨q0, q1, q2, q3⟩ := HK1.out _ hbt
          have hzt := hbt.size
          by_cases ht2 : t < 2
          · obtain ⟨tb, htb⟩ : ∃ tb, tb = (t == 1) := ⟨_, rfl⟩
            have htb' : ((t : Int) == 1) = tb := by rw [htb, Bool.eq_iff_iff, beq_iff_eq, beq_iff_eq]; omega
            have HT := Lib.hid htb
            clear htb
            have HX := Lib.hid (fun (fr : Bool) (hfr : fr = true ↔ freeP s cov ⟨r0, c0, tb⟩) W (Q : Ending → World → Prop) (h : Below wr.heap.size wr W) (hQ : ∀ w', Below W.heap.size W w' → Q (.returned (.bool fr)) w') =>
              (rfits_any s A c l ⟨r0, c0, tb⟩ fr W hs (((HA.out.up HB1.out).up hbt).up h) (fun x hx => near_fit hs (HF.out x hx)) ⟨⟨by simp, by simp; omega⟩, by simp, by simp; omega⟩ (by have := HL.out; omega)
                (hfr.trans (by rw [← HCV.out]; exact (fit_free HF.out (by simp) (by simp)).symm))).mono fun e w' ⟨he, hb'⟩ => he ▸ hQ w' hb')
            generalize hls : (upto s cov l t).take most = ls at hO
            have HLS := Lib.hid hls
            clear hls
            have ht2' : (t : Int) < 2 := by omega
            have hwz : w.heap.size < wr.heap.size := by omega
            by_cases hsq : tb = true ∧ s.l = s.w
            · obtain ⟨rfl, hsq⟩ := hsq
              have HU := Lib.hid (show (upto s cov l (t + 1)).take most = ls by
                rw [← HLS.out]; exact upto_none (by rw [← HT.out]; unfold prt; rw [if_pos (.inl ⟨rfl, hsq⟩)]))
              have hsq' : ((s.l : Int) == (s.w : Int)) = true := by rw [hsq]; simp
              clear hsq
              go_wp2
              go_roundw
              case rel => exact ⟨t + 1, by omega, by go_num, by rw [HU.out]; exact hO.below (below_new wr _), hbt.alloc hzt _⟩
              case measure => simp [intOf]; omega
            · by_cases hfull : most ≤ ls.length
              · have HU := Lib.hid (show (upto s cov l (t + 1)).take most = ls by
                  rw [← HLS.out]; exact upto_full (by rw [HLS.out]; exact hfull))
                have hfull' : (most : Int) ≤ (ls.length : Int) := by omega
                rcases tb with _ | _
                · go_wp2
                  go_roundw
                  case rel => exact ⟨t + 1, by omega, by go_num, by rw [HU.out]; exact hO.below (below_new wr _), hbt.alloc hzt _⟩
                  case measure => simp [intOf]; omega
                · have hsq' : ((s.l : Int) == (s.w : Int)) = false := by simp; simp at hsq; omega
                  go_wp2
                  go_roundw
                  case rel => exact ⟨t + 1, by omega, by go_num, by rw [HU.out]; exact hO.below (below_new wr _), hbt.alloc hzt _⟩
                  case measure => simp [intOf]; omega
              · have hfull' : ¬ (most : Int) ≤ (ls.length : Int) := by omega
                obtain ⟨fr, hfr⟩ : ∃ fr, fr = decide (freeP s cov ⟨r0, c0, tb⟩) := ⟨_, rfl⟩
                have HXX := Lib.hid (HX.out fr (by rw [hfr]; exact decide_eq_true_iff))
                have HFR := Lib.hid hfr
                have hsq' : tb = true → ((s.l : Int) == (s.w : Int)) = false := fun e => beq_eq_false_iff_ne.2 fun h => hsq ⟨e, by omega⟩
                clear hfr
                rcases fr with _ | _
                · have HU := Lib.hid (show (upto s cov l (t + 1)).take most = ls by
                    rw [← HLS.out]; exact upto_none (by rw [← HT.out]; unfold prt; rw [if_pos (.inr (by rw [HCR.out]; exact of_decide_eq_false HFR.out.symm))]))
                  rcases tb with _ | _
                  all_goals
                    (try have hsq2 := hsq' rfl)
                    clear hsq'
                    go_wp2_with (first | (go_at_call 85; with_reducible refine HXX.out _ _ (below_new wr _) ?_; intro w6 hb6))
                    have hB6 : Below wr.heap.size wr w6 := (below_new wr _).trans (hb6.mono (by simp))
                    go_roundw
                    case rel => exact ⟨t + 1, by omega, by go_num, by rw [HU.out]; exact hO.below hB6, hbt.trans (hB6.mono hzt)⟩
                    case measure => simp [intOf]; omega
                · have HMX := Lib.hid (show (⟨r0, c0, tb⟩ : Cd) ∈ nxt s cov by rw [← HCR.out]; exact crd_nxt hsq (by rw [HCR.out]; exact of_decide_eq_true HFR.out.symm))
                  have HU := Lib.hid (show (upto s cov l (t + 1)).take most = ls ++ (filC s (cov ||| und s ⟨r0, c0, tb⟩) (l ++ [⟨r0, c0, tb⟩])).take (most - ls.length) by
                    rw [upto_more (by rw [HLS.out]; omega), HLS.out, ← HT.out]
                    unfold prt
                    rw [if_neg (by rw [HCR.out]; exact fun h => h.elim hsq fun h => h (of_decide_eq_true HFR.out.symm)), HCR.out])
                  have HR := Lib.hid (fun (g c' : Nat) (W : World) (Q : Ending → World → Prop) (B : Nat) => fil_call (Q := Q) (B := B) (g := g) (c' := c') (W := W) hs IH HCV.out HF.out HL.out HN.out HMX.out (show ls.length < most by omega) hm2)
                  have HSM := Lib.hid (show ls.length + ((filC s (cov ||| und s ⟨r0, c0, tb⟩) (l ++ [⟨r0, c0, tb⟩])).take (most - ls.length)).length < 1000000 by
                    have h1 := filC_small hs (cov ||| und s ⟨r0, c0, tb⟩) (l ++ [⟨r0, c0, tb⟩])
                    have h2 : ls.length ≤ 262144 := by
                      rw [← HLS.out, List.length_take]
                      have h3 : (upto s cov l t).length ≤ (filC s cov l).length := by
                        rw [filC_prt hs cov l HNW.out]
                        match t, ht2 with
                        | 0, _ => simp [upto]
                        | 1, _ => simp [upto]
                      have := filC_small hs cov l
                      omega
                    rw [List.length_take]; omega)
                  generalize (filC s (cov ||| und s ⟨r0, c0, tb⟩) (l ++ [⟨r0, c0, tb⟩])).take (most - ls.length) = ms at *
                  rcases tb with _ | _
                  · (try have hsq2 := hsq' rfl)
                    clear hsq'
                    go_wp2_with (first | (go_at_call 85; with_reducible refine HXX.out _ _ (below_new wr _) ?_; intro w6 hb6))
                    have hB6 : Below wr.heap.size wr w6 := (below_new wr _).trans (hb6.mono (by simp))
                    have hO6 := hO.below hB6
                    obtain ⟨s0, s1, s2, s3⟩ := HK1.out _ (hbt.trans (hB6.mono hzt))
                    have x0 := (hb6.cell (p := ⟨wr.heap.size, 0, none⟩) (by simp)).trans (show _ = some (Value.int .i64 r0) by simp [go_sem])
                    have x1 := (hb6.cell (p := ⟨wr.heap.size, 1, none⟩) (by simp)).trans (show _ = some (Value.int .i64 c0) by simp [go_sem])
                    have x2 := (hb6.cell (p := ⟨wr.heap.size, 2, none⟩) (by simp)).trans (show _ = some (Value.bool _) by simp [go_sem]; rfl)
                    have hz6 := hb6.size
                    simp only [World.size_alloc] at hz6
                    have hw6 : w.heap.size < w6.heap.size := by omega
                    have hr6' : wr.heap.size < w6.heap.size := by omega
                    have hb00 := Below.refl w6.heap.size w6
                    have hbd := (Below.refl w6.heap.size w6).drew
                    have GB := Lib.hid (show ((w6.alloc (.cells #[] 99)).alloc (.cells #[.int .i64 r0, .int .i64 c0, .bool false] 99)).heap[w6.heap.size + 1]? = some (.cells #[.int .i64 r0, .int .i64 c0, .bool false] 99 (0, 0)) from heap_at _ _ _ (by simp))
                    have GC := Lib.hid (show ((w6.alloc (.cells #[.int .i64 r0, .int .i64 c0, .bool false] 99)).alloc (.cells #[] 99)).heap[w6.heap.size]? = some (.cells #[.int .i64 r0, .int .i64 c0, .bool false] 99 (0, 0)) from (heap_alloc_old _ _ (lt_of_heap (heap_alloc_new w6 _))).trans (heap_alloc_new w6 _))
                    have K70 := Lib.hid (fun (W : World) (hz : w6.heap.size ≤ W.heap.size) => show (W.alloc (.cells #[] 99)).ownsRow w6.heap.size 99 3 (.slice (some ⟨W.heap.size, 0, none⟩) 0 0) 0 (rcdcells []) from World.ownsRow_lit W #[] 0 hz (by decide) rfl)
                    have KA := Lib.hid (fun (W : World) (o : Obj) (h : Below w6.heap.size w6 W) => show Below w6.heap.size w6 (W.alloc o) from h.alloc h.size o)
                    have OB := Lib.hid (show ((w6.alloc (.cells #[] 99)).alloc (.cells #[.int .i64 r0, .int .i64 c0, .bool false] 99)).ownsRow w6.heap.size 99 3 (.slice (some ⟨w6.heap.size, 0, none⟩) 0 0) 0 (rcdcells []) from (K70.out w6 (Nat.le_refl _)).alloc _)
                    have OC := Lib.hid (show ((w6.alloc (.cells #[.int .i64 r0, .int .i64 c0, .bool false] 99)).alloc (.cells #[] 99)).ownsRow w6.heap.size 99 3 (.slice (some ⟨w6.heap.size + 1, 0, none⟩) 0 0) 0 (rcdcells []) by simpa using K70.out (w6.alloc (.cells #[.int .i64 r0, .int .i64 c0, .bool false] 99)) (by simp))
                    have BB := Lib.hid (KA.out (w6.alloc (.cells #[] 99)) (.cells #[.int .i64 r0, .int .i64 c0, .bool false] 99) (KA.out w6 _ hb00))
                    have BC := Lib.hid (KA.out (w6.alloc (.cells #[.int .i64 r0, .int .i64 c0, .bool false] 99)) (.cells #[] 99) (KA.out w6 _ hb00))
                    have HK6 := Lib.hid (fun (W : World) (h : Below w6.heap.size w6 W) => show W.cell? ⟨w.heap.size, 0, none⟩ = some (.int .i64 s.r) ∧ W.cell? ⟨w.heap.size, 1, none⟩ = some (.int .i64 s.c) ∧ W.cell? ⟨w.heap.size, 2, none⟩ = some (.int .i64 s.l) ∧ W.cell? ⟨w.heap.size, 3, none⟩ = some (.int .i64 s.w) ∧
                        W.cell? ⟨wr.heap.size, 0, none⟩ = some (.int .i64 r0) ∧ W.cell? ⟨wr.heap.size, 1, none⟩ = some (.int .i64 c0) ∧ W.cell? ⟨wr.heap.size, 2, none⟩ = some (.bool false) from
                      ⟨(h.cell (p := ⟨w.heap.size, 0, none⟩) hw6).trans s0, (h.cell (p := ⟨w.heap.size, 1, none⟩) hw6).trans s1, (h.cell (p := ⟨w.heap.size, 2, none⟩) hw6).trans s2, (h.cell (p := ⟨w.heap.size, 3, none⟩) hw6).trans s3,
                        (h.cell (p := ⟨wr.heap.size, 0, none⟩) hr6').trans x0, (h.cell (p := ⟨wr.heap.size, 1, none⟩) hr6').trans x1, (h.cell (p := ⟨wr.heap.size, 2, none⟩) hr6').trans x2⟩)
                    have HA6 := Lib.hid (fun (W : World) (h : Below w6.heap.size w6 W) => show RcdsAt W W.heap.size A l from (((HA.out.up HB1.out).up hbt).up hB6).up h)
                    have HO6 := Lib.hid (fun (W : World) (h : Below w6.heap.size w6 W) => show Out W1.heap.size W (.slice A1 ls.length c1) ls from hO6.below h)
                    have HL2 := Lib.hid (show l.length < 1000000 by have := HL.out; omega)
                    have HNO := Lib.hid (show ∀ i, w6.heap.size ≤ i → (Value.slice A1 ls.length c1).ownBlock ≠ some i from fun i hi e => by obtain ⟨vv, h1, _⟩ := hO6; have := (h1.lt i e).2; omega)
                    have HB6 := Lib.hid hB6
                    have HN1 := Lib.hid (show (Value.slice A1 ls.length c1).ownBlock ≠ some w.heap.size from fun e => by obtain ⟨vv, h1, _⟩ := hO; have := (h1.lt _ e).1; omega)
                    have HN2 := Lib.hid (show (Value.slice A1 ls.length c1).ownBlock ≠ some wr.heap.size from fun e => by obtain ⟨vv, h1, _⟩ := hO; have := (h1.lt _ e).2; omega)
                    have hzb : W1.heap.size ≤ w6.heap.size := by omega
                    have hsub : IntKind.i64.wrap ((most : Int) - (ls.length : Int)) = (most : Int) - (ls.length : Int) := IntWalk.i64_in _ (by omega)
                    clear s0 s1 s2 s3 x0 x1 x2 hB6 hO6 hb6 hz6
                    go_region_held3 (fun W => W.cell? ⟨w.heap.size, 0, none⟩ = some (.int .i64 s.r) ∧ W.cell? ⟨w.heap.size, 1, none⟩ = some (.int .i64 s.c) ∧ W.cell? ⟨w.heap.size, 2, none⟩ = some (.int .i64 s.l) ∧ W.cell? ⟨w.heap.size, 3, none⟩ = some (.int .i64 s.w) ∧
                        W.cell? ⟨wr.heap.size, 0, none⟩ = some (.int .i64 r0) ∧ W.cell? ⟨wr.heap.size, 1, none⟩ = some (.int .i64 c0) ∧ W.cell? ⟨wr.heap.size, 2, none⟩ = some (.bool false))
                      (first
                        | exact HK6.out _ (by assumption)
                        | exact HK6.out _ (KA.out _ _ (by assumption))
                        | exact HK6.out _ (Below.drew (KA.out _ _ (by assumption)))
                        | exact HK6.out _ (KA.out _ _ (KA.out _ _ (by assumption)))
                        | exact HK6.out _ (Below.drew (KA.out _ _ (KA.out _ _ (by assumption))))
                        | exact S10
                        | exact HK6.out _ BB.out.drew
                        | exact HK6.out _ BC.out.drew)
                      (first
                        | (refine step_copy w6 _ rfl (.tmp 70) (.tmp 71) rfl (.slice (some ⟨_, 0, none⟩) 0 0) l rfl (by first | exact K70.out _ (by simp) | exact OB.out | exact OC.out) (by first | exact KA.out _ _ hbd | exact BB.out.drew | exact BC.out.drew) A c rfl (HA6.out _ (by first | exact KA.out _ _ hbd | exact BB.out.drew | exact BC.out.drew)) HL2.out ?_
                           intro v7 w7 hown7 hb7 P7)
                        | (refine step_push w6 _ rfl (.tmp 72) (.tmp 74) rfl _ l ⟨r0, c0, false⟩ rfl (by first | exact hown7 | exact hown7.alloc _) (by first | exact hb7 | exact KA.out _ _ hb7) _ rfl
                             (by first | exact heap_alloc_new w7 _ | exact P7 _ _ GB.out (by simp [Value.ownBlock]) | exact P7 _ _ GC.out (by simp [Value.ownBlock])) HL2.out ?_
                           intro g8 c8 w8 hown8 hb8)
                        | (go_at_call 64
                           with_reducible refine HR.out g8 c8 w8 _ _ hb8.size hown8 ?_
                           intro A9 c9 vals9 w9 hcell9 hS9 hb9'
                           have hb9 := hb8.trans (hb9'.mono hb8.size))
                        | (refine step_append_fils _ rfl (.tmp 68) (.tmp 80) rfl W1.heap.size _ ls ms rfl (HO6.out _ hb9) A9 c9 vals9 rfl hcell9 (hS9.imp fun i hi => ⟨by omega, HNO.out i hi⟩) HSM.out (by have := hb9.size; omega) ?_
                           intro v10 w10 hO10 hb10 hc10
                           have S10 := HK6.out _ hb9
                           simp only [← hc10 _ _ (show w.heap.size < w9.heap.size from Nat.lt_of_lt_of_le hw6 hb9.size) HN1.out, ← hc10 _ _ (show wr.heap.size < w9.heap.size from Nat.lt_of_lt_of_le hr6' hb9.size) HN2.out] at S10))
                    all_goals
                      go_wp2
                      go_roundw
                      case rel => exact ⟨t + 1, by omega, by go_num, by rw [HU.out]; exact hO10, ((hbt.trans (HB6.out.mono hzt)).trans (hb9.mono hzb)).trans hb10⟩
                      case measure => simp [intOf]; omega
                  · (try have hsq2 := hsq' rfl)
                    clear hsq'
                    go_wp2_with (first | (go_at_call 85; with_reducible refine HXX.out _ _ (below_new wr _) ?_; intro w6 hb6))
                    have hB6 : Below wr.heap.size wr w6 := (below_new wr _).trans (hb6.mono (by simp))
                    have hO6 := hO.below hB6
                    obtain ⟨s0, s1, s2, s3⟩ := HK1.out _ (hbt.trans (hB6.mono hzt))
                    have x0 := (hb6.cell (p := ⟨wr.heap.size, 0, none⟩) (by simp)).trans (show _ = some (Value.int .i64 r0) by simp [go_sem])
                    have x1 := (hb6.cell (p := ⟨wr.heap.size, 1, none⟩) (by simp)).trans (show _ = some (Value.int .i64 c0) by simp [go_sem])
                    have x2 := (hb6.cell (p := ⟨wr.heap.size, 2, none⟩) (by simp)).trans (show _ = some (Value.bool _) by simp [go_sem]; rfl)
                    have hz6 := hb6.size
                    simp only [World.size_alloc] at hz6
                    have hw6 : w.heap.size < w6.heap.size := by omega
                    have hr6' : wr.heap.size < w6.heap.size := by omega
                    have hb00 := Below.refl w6.heap.size w6
                    have hbd := (Below.refl w6.heap.size w6).drew
                    have GB := Lib.hid (show ((w6.alloc (.cells #[] 99)).alloc (.cells #[.int .i64 r0, .int .i64 c0, .bool true] 99)).heap[w6.heap.size + 1]? = some (.cells #[.int .i64 r0, .int .i64 c0, .bool true] 99 (0, 0)) from heap_at _ _ _ (by simp))
                    have GC := Lib.hid (show ((w6.alloc (.cells #[.int .i64 r0, .int .i64 c0, .bool true] 99)).alloc (.cells #[] 99)).heap[w6.heap.size]? = some (.cells #[.int .i64 r0, .int .i64 c0, .bool true] 99 (0, 0)) from (heap_alloc_old _ _ (lt_of_heap (heap_alloc_new w6 _))).trans (heap_alloc_new w6 _))
                    have K70 := Lib.hid (fun (W : World) (hz : w6.heap.size ≤ W.heap.size) => show (W.alloc (.cells #[] 99)).ownsRow w6.heap.size 99 3 (.slice (some ⟨W.heap.size, 0, none⟩) 0 0) 0 (rcdcells []) from World.ownsRow_lit W #[] 0 hz (by decide) rfl)
                    have KA := Lib.hid (fun (W : World) (o : Obj) (h : Below w6.heap.size w6 W) => show Below w6.heap.size w6 (W.alloc o) from h.alloc h.size o)
                    have OB := Lib.hid (show ((w6.alloc (.cells #[] 99)).alloc (.cells #[.int .i64 r0, .int .i64 c0, .bool true] 99)).ownsRow w6.heap.size 99 3 (.slice (some ⟨w6.heap.size, 0, none⟩) 0 0) 0 (rcdcells []) from (K70.out w6 (Nat.le_refl _)).alloc _)
                    have OC := Lib.hid (show ((w6.alloc (.cells #[.int .i64 r0, .int .i64 c0, .bool true] 99)).alloc (.cells #[] 99)).ownsRow w6.heap.size 99 3 (.slice (some ⟨w6.heap.size + 1, 0, none⟩) 0 0) 0 (rcdcells []) by simpa using K70.out (w6.alloc (.cells #[.int .i64 r0, .int .i64 c0, .bool true] 99)) (by simp))
                    have BB := Lib.hid (KA.out (w6.alloc (.cells #[] 99)) (.cells #[.int .i64 r0, .int .i64 c0, .bool true] 99) (KA.out w6 _ hb00))
                    have BC := Lib.hid (KA.out (w6.alloc (.cells #[.int .i64 r0, .int .i64 c0, .bool true] 99)) (.cells #[] 99) (KA.out w6 _ hb00))
                    have HK6 := Lib.hid (fun (W : World) (h : Below w6.heap.size w6 W) => show W.cell? ⟨w.heap.size, 0, none⟩ = some (.int .i64 s.r) ∧ W.cell? ⟨w.heap.size, 1, none⟩ = some (.int .i64 s.c) ∧ W.cell? ⟨w.heap.size, 2, none⟩ = some (.int .i64 s.l) ∧ W.cell? ⟨w.heap.size, 3, none⟩ = some (.int .i64 s.w) ∧
                        W.cell? ⟨wr.heap.size, 0, none⟩ = some (.int .i64 r0) ∧ W.cell? ⟨wr.heap.size, 1, none⟩ = some (.int .i64 c0) ∧ W.cell? ⟨wr.heap.size, 2, none⟩ = some (.bool true) from
                      ⟨(h.cell (p := ⟨w.heap.size, 0, none⟩) hw6).trans s0, (h.cell (p := ⟨w.heap.size, 1, none⟩) hw6).trans s1, (h.cell (p := ⟨w.heap.size, 2, none⟩) hw6).trans s2, (h.cell (p := ⟨w.heap.size, 3, none⟩) hw6).trans s3,
                        (h.cell (p := ⟨wr.heap.size, 0, none⟩) hr6').trans x0, (h.cell (p := ⟨wr.heap.size, 1, none⟩) hr6').trans x1, (h.cell (p := ⟨wr.heap.size, 2, none⟩) hr6').trans x2⟩)
                    have HA6 := Lib.hid (fun (W : World) (h : Below w6.heap.size w6 W) => show RcdsAt W W.heap.size A l from (((HA.out.up HB1.out).up hbt).up hB6).up h)
                    have HO6 := Lib.hid (fun (W : World) (h : Below w6.heap.size w6 W) => show Out W1.heap.size W (.slice A1 ls.length c1) ls from hO6.below h)
                    have HL2 := Lib.hid (show l.length < 1000000 by have := HL.out; omega)
                    have HNO := Lib.hid (show ∀ i, w6.heap.size ≤ i → (Value.slice A1 ls.length c1).ownBlock ≠ some i from fun i hi e => by obtain ⟨vv, h1, _⟩ := hO6; have := (h1.lt i e).2; omega)
                    have HB6 := Lib.hid hB6
                    have HN1 := Lib.hid (show (Value.slice A1 ls.length c1).ownBlock ≠ some w.heap.size from fun e => by obtain ⟨vv, h1, _⟩ := hO; have := (h1.lt _ e).1; omega)
                    have HN2 := Lib.hid (show (Value.slice A1 ls.length c1).ownBlock ≠ some wr.heap.size from fun e => by obtain ⟨vv, h1, _⟩ := hO; have := (h1.lt _ e).2; omega)
                    have hzb : W1.heap.size ≤ w6.heap.size := by omega
                    have hsub : IntKind.i64.wrap ((most : Int) - (ls.length : Int)) = (most : Int) - (ls.length : Int) := IntWalk.i64_in _ (by omega)
                    clear s0 s1 s2 s3 x0 x1 x2 hB6 hO6 hb6 hz6
                    go_region_held3 (fun W => W.cell? ⟨w.heap.size, 0, none⟩ = some (.int .i64 s.r) ∧ W.cell? ⟨w.heap.size, 1, none⟩ = some (.int .i64 s.c) ∧ W.cell? ⟨w.heap.size, 2, none⟩ = some (.int .i64 s.l) ∧ W.cell? ⟨w.heap.size, 3, none⟩ = some (.int .i64 s.w) ∧
                        W.cell? ⟨wr.heap.size, 0, none⟩ = some (.int .i64 r0) ∧ W.cell? ⟨wr.heap.size, 1, none⟩ = some (.int .i64 c0) ∧ W.cell? ⟨wr.heap.size, 2, none⟩ = some (.bool true))
                      (first
                        | exact HK6.out _ (by assumption)
                        | exact HK6.out _ (KA.out _ _ (by assumption))
                        | exact HK6.out _ (Below.drew (KA.out _ _ (by assumption)))
                        | exact HK6.out _ (KA.out _ _ (KA.out _ _ (by assumption)))
                        | exact HK6.out _ (Below.drew (KA.out _ _ (KA.out _ _ (by assumption))))
                        | exact S10
                        | exact HK6.out _ BB.out.drew
                        | exact HK6.out _ BC.out.drew)
                      (first
                        | (refine step_copy w6 _ rfl (.tmp 70) (.tmp 71) rfl (.slice (some ⟨_, 0, none⟩) 0 0) l rfl (by first | exact K70.out _ (by simp) | exact OB.out | exact OC.out) (by first | exact KA.out _ _ hbd | exact BB.out.drew | exact BC.out.drew) A c rfl (HA6.out _ (by first | exact KA.out _ _ hbd | exact BB.out.drew | exact BC.out.drew)) HL2.out ?_
                           intro v7 w7 hown7 hb7 P7)
                        | (refine step_push w6 _ rfl (.tmp 72) (.tmp 74) rfl _ l ⟨r0, c0, true⟩ rfl (by first | exact hown7 | exact hown7.alloc _) (by first | exact hb7 | exact KA.out _ _ hb7) _ rfl
                             (by first | exact heap_alloc_new w7 _ | exact P7 _ _ GB.out (by simp [Value.ownBlock]) | exact P7 _ _ GC.out (by simp [Value.ownBlock])) HL2.out ?_
                           intro g8 c8 w8 hown8 hb8)
                        | (go_at_call 64
                           with_reducible refine HR.out g8 c8 w8 _ _ hb8.size hown8 ?_
                           intro A9 c9 vals9 w9 hcell9 hS9 hb9'
                           have hb9 := hb8.trans (hb9'.mono hb8.size))
                        | (refine step_append_fils _ rfl (.tmp 68) (.tmp 80) rfl W1.heap.size _ ls ms rfl (HO6.out _ hb9) A9 c9 vals9 rfl hcell9 (hS9.imp fun i hi => ⟨by omega, HNO.out i hi⟩) HSM.out (by have := hb9.size; omega) ?_
                           intro v10 w10 hO10 hb10 hc10
                           have S10 := HK6.out _ hb9
                           simp only [← hc10 _ _ (show w.heap.size < w9.heap.size from Nat.lt_of_lt_of_le hw6 hb9.size) HN1.out, ← hc10 _ _ (show wr.heap.size < w9.heap.size from Nat.lt_of_lt_of_le hr6' hb9.size) HN2.out] at S10))
                    all_goals
                      go_wp2
                      go_roundw
                      case rel => exact ⟨t + 1, by omega, by go_num, by rw [HU.out]; exact hO10, ((hbt.trans (HB6.out.mono hzt)).trans (hb9.mono hzb)).trans hb10⟩
                      case measure => simp [intOf]; omega
          · have ht2' : ¬ (t : Int) < 2 := by omega
            have HR := Lib.hid (out_ret (w := w) (A0 := A) (ls' := (filC s cov l).take most) hO (by
              rw [show t = 2 by omega, filC_prt hs cov l HNW.out]; rfl) (by omega) (HB1.out.trans (hbt.mono (by omega))))
            generalize (upto s cov l t).take most = ls at *
            go_wp2
            go_ret
            exact HR.out
      · have HC1 := Lib.hid (fun (Q : Ending → World → Prop) => HC.out r0 c0 true hc0 hb wr Q hbw)
        have HM2 := Lib.hid (show ∀ i, i < r0 * s.c + c0 + 1 → cov.testBit i = true from fun i hi => by
          rcases Nat.lt_succ_iff_lt_or_eq.1 hi with h | rfl
          · exact HM.out i h
          · exact hb)
        clear hb
        by_cases hl : c0 + 1 = s.c
        · have hl' : (c0 : Int) + 1 = s.c := by omega
          have HM3 := Lib.hid (show ∀ i, i < (r0 + 1) * s.c + 0 → cov.testBit i = true from fun i hi => HM2.out i (by rw [Nat.add_mul] at hi; omega))
          clear hl
          go_wp2_with (first | (go_at_call 86; with_reducible refine HC1.out _ ?_; intro w5 hb5; obtain ⟨q0, q1, q2, q3⟩ := HK.out _ (hbr.trans (hb5.mono hzr))))
          go_roundw
          case rel => exact ⟨r0 + 1, 0, by go_num, by go_num, by omega, by omega, HM3, hbr.trans (hb5.mono hzr)⟩
          case measure => simp [intOf]; omega
        · have hl' : ¬ (c0 : Int) + 1 = s.c := by omega
          go_wp2_with (first | (go_at_call 86; with_reducible refine HC1.out _ ?_; intro w5 hb5; obtain ⟨q0, q1, q2, q3⟩ := HK.out _ (hbr.trans (hb5.mono hzr))))
          go_roundw
          case rel => exact ⟨r0, c0 + 1, by go_num, by go_num, by omega, by omega, HM2, hbr.trans (hb5.mono hzr)⟩
          case measure => simp [intOf]; omega
    · have HW := Lib.hid (HI.out.whole (s := s) fun i hi => HM.out i (by omega))
      have HLS := Lib.hid (show (filC s cov l).take most = [l] by
        rw [filC_eq hs, if_pos HW.out]
        exact List.take_of_length_le (by simpa using hm1))
      go_wp2
      go_ret
      rw [HLS.out]
      exact leaf_ret hbw HA.out HAB.out

theorem fil_any (s : Sh) (hs : s.Ok) : ∀ n, FilSpec s n
  | 0 => fun _ _ _ _ _ h => absurd h (by omega)
  | n + 1 => fil_step s hs n (fil_any s hs n)

/-- All fillings, at most so many, from an empty list. -/
theorem fils_any (s : Sh) (hs : s.Ok) (most : Nat) (w : World) (h1 : 1 ≤ most) (h2 : most ≤ 1048576) :
    Calls Tryd.prog 64 #[.agg #[.int .i64 s.r, .int .i64 s.c, .int .i64 s.l, .int .i64 s.w], .slice none 0 0, .int .i64 most] w (RetFils w none ((filC s 0 []).take most)) :=
  fil_any s hs 37 [] none 0 most w (by have := lft_le hs (covL s []); omega) (fun x hx => absurd hx List.not_mem_nil) (by have := lft_le hs (covL s []); simpa using this) (RcdsAt.nil _ _ _) (fun ad e => by cases e) h1 h2
end Go.Proofs.YtlollcabnfncpaaDoor
