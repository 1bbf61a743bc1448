/-
  The reference: how many different backs have given amounts of colours.
-/
import Derived.Test.YtbcbaaapogejiaaDoorRefP
import Derived.Test.YtbcbaaapogejiaaDoorRefI
namespace Go.Proofs.YtbcbaaapogejiaaDoor
open Go.RowKit

/-- What a turn besides turn 0 adds. -/
def addT (p : Pr) (ys : List Nat) (t : Nat) : Nat := if t = 0 then 0 else pntN (ringsL (srcs p.R p.C (mv t))) ys
def addK (p : Pr) (ys : List Nat) (k : Nat) : Nat := ((p.T.take k).map (addT p ys)).foldl (· + ·) 0
theorem addK_more {p : Pr} {ys : List Nat} {k t : Nat} (h : p.T[k]? = some t) : addK p ys (k + 1) = addK p ys k + addT p ys t := by
  unfold addK
  rw [take_snoc h, List.map_append, List.foldl_append]
  rfl
theorem rings_124 {p : Pr} (hp : p.Ok) {t : Nat} (ht : t ∈ p.T) : (∀ n ∈ lensN (srcs p.R p.C (mv t)), n = 0 ∨ n = 1 ∨ n = 2 ∨ n = 4) ∧ sizeLp (loopsN (srcs p.R p.C (mv t))) = p.n := by
  have h := loops_small p.R (by have := hp.r4; omega) p.C (by have := hp.c4; omega) t (hp.t8 t ht) (hp.kind t ht)
  rw [decide_eq_true_eq] at h
  exact ⟨h.2.2, h.1⟩
theorem rings_le16 {p : Pr} (hp : p.Ok) {t : Nat} (ht : t ∈ p.T) : (ringsL (srcs p.R p.C (mv t))).length ≤ 16 ∧ ∀ r ∈ ringsL (srcs p.R p.C (mv t)), r ≤ 16 := by
  obtain ⟨h1, h2⟩ := rings_count hp ht
  refine ⟨by omega, fun r hr => ?_⟩
  have h3 := (rings_124 hp ht).1 r (List.mem_filter.1 hr).1
  omega
theorem foldl_map_sum (f : Nat → Nat) : ∀ (l : List Nat) (a : Nat), (l.map f).foldl (· + ·) a = a + (l.map f).foldl (· + ·) 0
  | [], a => rfl
  | x :: l, a => by
    rw [List.map_cons, List.foldl_cons, List.foldl_cons, foldl_map_sum f l (a + f x), foldl_map_sum f l (0 + f x)]
    omega
theorem sumG_map (g : Lp → Nat) : ∀ (F : List (List Int)) (a : Nat), F.foldl (fun a s => a + g (loopsN s)) a = a + sumG g F
  | [], a => rfl
  | s :: F, a => by
    show F.foldl (fun a s => a + g (loopsN s)) (a + g (loopsN s)) = a + (F.foldl (fun a s => a + g (loopsN s)) (0 + g (loopsN s)))
    rw [sumG_map g F, sumG_map g F]
    omega
theorem withC_ref {p : Pr} (hp : p.Ok) {ys : List Nat} (hs : sumN ys = p.n) : p.withC ys = (mulN ys p.n + addK p ys p.T.length) / p.T.length := by
  unfold Pr.withC
  congr 1
  have h0 := hp.zero
  have hasc := hp.asc
  have key : ∀ (l : List Nat), (∀ t ∈ l, t ∈ p.T ∧ t ≠ 0) → sumG (withN ys) (l.map fun t => srcs p.R p.C (mv t)) = (l.map (addT p ys)).foldl (· + ·) 0 := by
    intro l
    induction l with
    | nil => intro _; rfl
    | cons t l ih =>
      intro hl
      obtain ⟨ht, hne⟩ := hl t (by simp)
      rw [List.map_cons, List.map_cons, List.foldl_cons, foldl_map_sum, ← ih fun x hx => hl x (by simp [hx])]
      show (l.map fun t => srcs p.R p.C (mv t)).foldl (fun a s => a + withN ys (loopsN s)) (0 + withN ys (loopsN (srcs p.R p.C (mv t)))) = _
      rw [sumG_map]
      unfold addT
      rw [if_neg hne, with_rings (rings_124 hp ht).1 (by rw [hs, (rings_124 hp ht).2])]
      rfl
  unfold addK
  rw [List.take_of_length_le (Nat.le_refl _)]
  unfold Pr.from
  rcases hT : p.T with _ | ⟨t, l⟩
  · rw [hT] at h0; simp at h0
  · rw [hT] at h0 hasc
    have hc := List.pairwise_cons.1 hasc
    have ht : t = 0 := by
      rcases List.mem_cons.1 h0 with e | e
      · exact e.symm
      · have := hc.1 0 e; omega
    subst ht
    have hk := key l (fun x hx => ⟨by rw [hT]; simp [hx], by have := hc.1 x hx; omega⟩)
    rw [List.map_cons, List.map_cons, List.foldl_cons, foldl_map_sum, ← hk]
    show (l.map fun t => srcs p.R p.C (mv t)).foldl (fun a s => a + withN ys (loopsN s)) (0 + withN ys (loopsN (srcs p.R p.C (mv 0)))) = _
    rw [sumG_map, loops_still p.R (by have := hp.r4; omega) p.C (by have := hp.c4; omega), mulN_with ys (p.R * p.C) (by rw [hs]; exact Nat.le_refl _)]
    show 0 + mulN ys p.n + _ = _
    unfold addT
    rw [if_pos rfl]
    omega

theorem ch_20000 {m n : Nat} (hm : m ≤ 16) (hn : n ≤ m) : ch m n ≤ 20000 := by
  obtain ⟨h1, h2⟩ := chQ_eq m (by omega) n hn
  rw [← h1]
  exact h2 n (Nat.le_refl _)
theorem pow20_le {k : Nat} (h : k ≤ 4) : 20000 ^ k ≤ 160000000000000000 := Nat.le_trans (Nat.pow_le_pow_right (by omega) h) (by decide)

theorem own_self {w : World} {base : Nat} {e : TypeId} {size n c g m : Nat} {xs : List Value} (h : w.ownsRow base e size (.slice (some ⟨g, 0, none⟩) n c) m xs) : w.ownsRow g e size (.slice (some ⟨g, 0, none⟩) n c) m xs := by
  refine ⟨h.1, ?_⟩
  rcases h.2 with ⟨e, _⟩ | ⟨g', cap, cur, e, h5, h6⟩
  · cases e
  · have hg : g = g' := by injection e with e _ _; injection e with e; injection e
    subst hg
    exact .inr ⟨g, cap, cur, e, Nat.le_refl _, h6⟩

/-- At a step of a region: a copy of numbers, out of an empty slice. -/
theorem step_append_nats {ops : Array Oper} {o : Oper} {a : Act} {K : Act → World → Prop} {Q : Exit → Act → World → Prop} {E : Prop} (W : World) (hgd : o.guard = none) (s x : Operand)
    (ho : o.op = .call { callee := .builtin .append, args := #[s, x], argTypes := #[22, 22] }) (base g8 : Nat) (ys : List Nat) (X : Option Addr) (xc : Nat) (hs : a.eval s = .slice (some ⟨g8, 0, none⟩) 0 0) (hown : W.ownsRow base 3 1 (.slice (some ⟨g8, 0, none⟩) 0 0) 0 (([] : List Int).map (Value.int .i64)))
    (hx : a.eval x = .slice X ys.length xc) (hX : IntsAt W W.heap.size X (intsN ys)) (hpos : 0 < ys.length) (hlen : ys.length ≤ 1000) (hbase : base ≤ W.heap.size)
    (h : ∀ g c w', w'.ownsRow g 3 1 (.slice (some ⟨g, 0, none⟩) ys.length c) ys.length (natsV ys) → base ≤ g → (g = g8 ∨ g = W.heap.size) → Below base W w' → W.grownBy w' (some g8) → K (a.put o.dst (.slice (some ⟨g, 0, none⟩) ys.length c)) w') :
    if Region.wanted o (yielded ops a.tmps) = true then Oper.wp Tryd.prog o a W K Q else E := by
  obtain ⟨i0, hi, hz0, hz1, hz2⟩ := info_parts info3
  have hlt := hown.lt
  refine step_append_src (P := Tryd.prog) W hgd s x 22 ho base 3 i0 (.int .i64 0) 1 8 Tryd.underlying22 hi hz0 hz1 hz2 rfl (by decide) _ 0 _ hs hown X ys.length xc (natsV ys) hx (by rw [natsV_len, Nat.mul_one]) (fun j u hu => by
    unfold natsV at hu
    rw [List.getElem?_map, Option.map_eq_some_iff] at hu
    obtain ⟨y, hy, rfl⟩ := hu
    obtain ⟨b, off, e, _, h3⟩ := hX j y hy
    exact ⟨_, e, by rw [adr_add]; exact h3⟩) (fun u hu => by
    unfold natsV at hu
    obtain ⟨y, _, rfl⟩ := List.mem_map.1 hu; rfl) (by unfold maxLen; omega) (by omega) hbase ?_
  intro v' w' h2 h3 h4
  rw [Nat.zero_add] at h2
  have h2' : w'.ownsRow base 3 1 v' ys.length (natsV ys) := by simpa using h2
  obtain ⟨A, c, rfl⟩ := own_slice h2'
  rcases h2'.2 with ⟨_, h0⟩ | ⟨g, cap, cur, e, h5, h6⟩
  · omega
  · obtain rfl : A = some ⟨g, 0, none⟩ := by injection e
    refine h g c w' (own_self h2') h5 ?_ ((Below.refl _ _).grown h3 hbase fun g hg => (hlt g hg).1) h3
    rcases h4 with e | e
    · left; injection e
    · right; injection e

set_option maxRecDepth 100000 in
set_option maxHeartbeats 4000000 in
theorem refWith_good (p : Pr) (hp : p.Ok) (A X : Option Addr) (c xc : Nat) (ys : List Nat) (w : World) (hT : IntsAt w w.heap.size A (intsN p.T)) (hX : IntsAt w w.heap.size X (intsN ys)) (hl : ys.length = p.K) (hin : ∀ y ∈ ys, y ≤ p.n) (hs : sumN ys = p.n) :
    Calls Tryd.prog 40 #[.agg #[.int .i64 p.R, .int .i64 p.C, .int .i64 p.K, .slice A p.T.length c], .slice X ys.length xc] w (RetNE w (p.withC ys : Nat) 0) := by
  have hb1 := below_new w (.cells #[.int .i64 p.R, .int .i64 p.C, .int .i64 p.K, .slice A p.T.length c] 32)
  have hc1 := own_cells4 w (.int .i64 p.R) (.int .i64 p.C) (.int .i64 p.K) (.slice A p.T.length c) 32
  have hz1 : w.heap.size < (w.alloc (.cells #[.int .i64 p.R, .int .i64 p.C, .int .i64 p.K, .slice A p.T.length c] 32)).heap.size := by simp
  have HCk := Lib.hid (refChk_ok p hp A c _ (hT.up hb1))
  have hn16 := hp.n16
  have hk4 := hp.k4
  have hk1 := hp.k1
  have hr4 := hp.r4
  have hc4 := hp.c4
  have hmul : (p.R : Int) * (p.C : Int) = (p.n : Int) := by unfold Pr.n; simp
  have hw : IntKind.i64.wrap ((p.R : Int) * (p.C : Int)) = (p.n : Int) := by rw [hmul]; exact IntWalk.i64_in _ (by omega)
  have HX := Lib.hid hX
  have HTT := Lib.hid hT
  have hl8 := hp.len
  have hpos := hp.pos
  have HRR := Lib.hid (fun W t ht => refRings_cap p hp A c t W ht)
  have HR16 := Lib.hid (fun t ht => rings_le16 hp (t := t) ht)
  have HIn := Lib.hid hin
  have HSum := Lib.hid hs
  obtain ⟨V, hV⟩ : ∃ V, V = p.withC ys := ⟨_, rfl⟩
  rw [← hV]
  have HV := Lib.hid (hV.trans (withC_ref hp hs))
  have HAK := Lib.hid (fun k t (h : p.T[k]? = some t) => addK_more (ys := ys) h)
  have hne : ((ys.length : Int) != (p.K : Int)) = false := bne_eq_false_iff_eq.2 (by omega)
  have hyl : ys.length ≤ 4 := by omega
  have hypos : 0 < ys.length := by omega
  have hyl2 : ys.length ≤ 1000 := by omega
  generalize hnn : p.n = n at *
  have hn16' : n ≤ 16 := hn16.2
  clear hT hX hp hk4 hl hin hs hV hnn hn16
  go_enter Tryd.func40, Tryd.ntmps40
  go_upto_region 4 with (go_at_call 22; refine (HCk.out).mono ?_; rintro e w2 ⟨rfl, hb2⟩; obtain ⟨q1, q2, q3⟩ := bcell hb2; simp only [World.size_alloc] at q1 q2 q3; have hz2 : w.heap.size < w2.heap.size := (by omega); have hbw2 := hb1.trans (hb2.mono hb1.size))
  have HH := Lib.hid (fun (W : World) (h : Below w2.heap.size w2 W) => show W.cell? ⟨w.heap.size, 0, none⟩ = some (.int .i64 p.R) ∧ W.cell? ⟨w.heap.size, 1, none⟩ = some (.int .i64 p.C) ∧ W.cell? ⟨w.heap.size, 2, none⟩ = some (.int .i64 p.K) ∧ W.cell? ⟨w.heap.size, 3, none⟩ = some (.slice A p.T.length c) from
    ⟨(h.cell (p := ⟨w.heap.size, 0, none⟩) hz2).trans ((hb2.cell (p := ⟨w.heap.size, 0, none⟩) hz1).trans hc1.1), (h.cell (p := ⟨w.heap.size, 1, none⟩) hz2).trans ((hb2.cell (p := ⟨w.heap.size, 1, none⟩) hz1).trans hc1.2.1), (h.cell (p := ⟨w.heap.size, 2, none⟩) hz2).trans ((hb2.cell (p := ⟨w.heap.size, 2, none⟩) hz1).trans hc1.2.2.1), (h.cell (p := ⟨w.heap.size, 3, none⟩) hz2).trans ((hb2.cell (p := ⟨w.heap.size, 3, none⟩) hz1).trans hc1.2.2.2)⟩)
  obtain ⟨p0, p1, p2, p3⟩ := HH.out _ (Below.refl _ _)
  clear hc1 q1 q2 q3 hne p2 p3
  go_quiet (fail)
  clear hw hmul p0 p1 hb1 hb2
  go_wp2
  go_loopw [6, 7, 9] (fun u s i wr => ∃ (k S : Nat), k ≤ ys.length ∧ i = .int .i64 k ∧ u = .int .i64 0 ∧ s = .int .i64 S ∧ S ≤ k * 16 ∧ Hid (S = (ys.take k).foldl (· + ·) 0) ∧ Below w2.heap.size w2 wr) (fun _ _ i _ => ys.length - (intOf i).toNat)
  case atStart => exact ⟨0, 0, Nat.zero_le _, rfl, rfl, rfl, by omega, Lib.hid rfl, below_drewN (Below.refl _ _) _⟩
  case round =>
    obtain ⟨k, S, hk, rfl, rfl, rfl, hS1, HS, hbr⟩ := hrel
    have HF := Lib.hid (hbw2.trans (hbr.mono hbw2.size))
    by_cases hlt : k < ys.length
    · have hx : ys[k]? = some ys[k] := List.getElem?_eq_getElem hlt
      have hyn := HIn.out _ (mem_of_get hx)
      obtain ⟨db, dq, rfl, hdb, d1⟩ := (HX.out.up HF.out) k _ (intsN_get hx)
      have HTk := Lib.hid (show S + ys[k] = (ys.take (k + 1)).foldl (· + ·) 0 by rw [take_snoc hx, List.foldl_append, ← HS.out]; rfl)
      clear hx
      generalize ys[k] = y at *
      have hki : (k : Int) < (ys.length : Int) := by omega
      have hk0 : (0 : Int) ≤ (k : Int) := by omega
      have HI := Lib.hid (fun W => refIn_yes (n := y) (lo := 0) (hi := n) (by omega) W)
      have es : IntKind.i64.wrap ((S : Int) + (y : Int)) = ((S + y : Nat) : Int) := (IntWalk.i64_in _ (by omega)).trans (by omega)
      go_wp2_with (go_at_call 69; refine (HI.out _).mono ?_; rintro e w3 ⟨rfl, rfl⟩)
      go_roundw
      case rel => exact ⟨k + 1, S + y, by omega, by go_num, rfl, by first | rfl | go_num, by omega, HTk, hbr⟩
      case measure => simp [intOf]; omega
    · have e1 := HS.out
      rw [List.take_of_length_le (by omega), foldl_sumN, HSum.out, Nat.zero_add] at e1
      have hnS : ((S : Int) != (n : Int)) = false := by simp [e1]
      have hki : ¬ (k : Int) < (ys.length : Int) := by omega
      have HF0 := Lib.hid hbr
      clear e1 HS HF hbr
      go_upto_region 15 with fail
      go_wp2
      generalize wr = w3 at *
      go_loopw [10, 11, 12] (fun m l i wr => ∃ (k M L : Nat), k ≤ ys.length ∧ i = .int .i64 k ∧ m = .int .i64 M ∧ l = .int .i64 L ∧ L ≤ 16 ∧ M ≤ 20000 ^ k ∧ Hid (M * mulN (ys.drop k) L = mulN ys n ∧ sumN (ys.drop k) = L) ∧ wr = w3) (fun _ _ i _ => ys.length - (intOf i).toNat)
      case atStart => exact ⟨0, 1, n, Nat.zero_le _, rfl, rfl, rfl, hn16', Nat.le_refl _, Lib.hid ⟨by rw [Nat.one_mul]; rfl, HSum.out⟩, rfl⟩
      case round =>
        clear hnS hki hS1
        obtain ⟨k, M, L, hk, rfl, rfl, rfl, hL16, hM, HM, rfl⟩ := hrel
        by_cases hlt : k < ys.length
        · have hx : ys[k]? = some ys[k] := List.getElem?_eq_getElem hlt
          obtain ⟨m1, m2⟩ := HM.out
          rw [drop_cons hx, sumN_cons] at m2
          rw [drop_cons hx, mulN_cons] at m1
          obtain ⟨db, dq, rfl, hdb, d1⟩ := (HX.out.up (hbw2.trans (HF0.out.mono hbw2.size))) k _ (intsN_get hx)
          clear hx
          generalize ys[k] = y at *
          have hyL : y ≤ L := by omega
          have hch := ch_20000 hL16 hyL
          have HC := Lib.hid (fun W => refChosen_any L y W hL16 hyL)
          have HN := Lib.hid (show M * ch L y * mulN (ys.drop (k + 1)) (L - y) = mulN ys n ∧ sumN (ys.drop (k + 1)) = L - y from ⟨by rw [Nat.mul_assoc]; exact m1, by omega⟩)
          generalize ch L y = z at *
          have hMz : M * z ≤ 20000 ^ (k + 1) := by rw [Nat.pow_succ]; exact Nat.mul_le_mul hM hch
          have hp20 := pow20_le (show k + 1 ≤ 4 by omega)
          have hMb : M * z ≤ 160000000000000000 := Nat.le_trans hMz hp20
          have HMz := Lib.hid hMz
          have em : ((M * z : Nat) : Int) = (M : Int) * (z : Int) := by simp
          have e1 : IntKind.i64.wrap ((M : Int) * (z : Int)) = ((M * z : Nat) : Int) := by rw [← em, IntWalk.i64_in _ (by omega)]
          have e2 : IntKind.i64.wrap ((L : Int) - (y : Int)) = ((L - y : Nat) : Int) := (IntWalk.i64_in _ (by omega)).trans (by omega)
          have hki : (k : Int) < (ys.length : Int) := by omega
          have hk0 : (0 : Int) ≤ (k : Int) := by omega
          clear m1 m2 hM hMz hp20 em hMb
          go_wp2_with (go_at_call 91; refine (HC.out _).mono ?_; rintro e w5 ⟨rfl, h⟩; obtain rfl := h.symm)
          go_roundw
          case rel => exact ⟨k + 1, M * z, L - y, by omega, by go_num, by first | rfl | go_num, by first | rfl | go_num, by omega, HMz.out, HN, by first | rfl | trivial⟩
          case measure => simp [intOf]; omega
        · have e : k = ys.length := by omega
          obtain ⟨m1, m2⟩ := HM.out
          rw [List.drop_of_length_le (by omega)] at m1
          have HMul := Lib.hid (show M = mulN ys n by rw [← m1]; show M = M * 1; omega)
          have hMb : M ≤ 160000000000000000 := Nat.le_trans hM (pow20_le (by omega))
          have hki : ¬ (k : Int) < (ys.length : Int) := by omega
          clear m1 m2 HM hM e hL16
          go_wp2
          go_loopw [10, 13] (fun m i wr => ∃ (k S : Nat), k ≤ p.T.length ∧ i = .int .i64 k ∧ m = .int .i64 S ∧ S ≤ 160000000000000000 + k * 4294967296 ∧ Hid (S = mulN ys n + addK p ys k) ∧ Below w2.heap.size w2 wr) (fun _ i _ => p.T.length - (intOf i).toNat)
          case atStart => exact ⟨0, M, Nat.zero_le _, rfl, rfl, by omega, Lib.hid HMul.out, HF0.out⟩
          case round =>
            clear hki hMb HMul
            obtain ⟨k, S, hk, rfl, rfl, hSb, HS, hbr⟩ := hrel
            have hbwr := hbw2.trans (hbr.mono hbw2.size)
            obtain ⟨p0, p1, p2, p3⟩ := HH.out _ hbr
            have HF := Lib.hid hbwr
            have hSb2 : S ≤ 160000000000000000 + 8 * 4294967296 := Nat.le_trans hSb (Nat.add_le_add_left (Nat.mul_le_mul_right _ (by omega)) _)
            by_cases hlt : k < p.T.length
            · have hx : p.T[k]? = some p.T[k] := List.getElem?_eq_getElem hlt
              have hmem := mem_of_get hx
              have HMore := Lib.hid (HAK.out k _ hx)
              obtain ⟨tb, tf, rfl, htb, dt⟩ := (HTT.out.up hbwr) k _ (intsN_get hx)
              clear hx
              generalize p.T[k] = t at *
              have hki : (k : Int) < (p.T.length : Int) := by omega
              have hk0 : (0 : Int) ≤ (k : Int) := by omega
              have hwz : w.heap.size < wr.heap.size := Nat.lt_of_lt_of_le hz2 hbr.size
              by_cases ht0 : t = 0
              · have hne0 : ((t : Int) != 0) = false := by simp [ht0]
                have HN := Lib.hid (show S = mulN ys n + addK p ys (k + 1) by rw [HMore.out, HS.out]; unfold addT; rw [if_pos ht0]; omega)
                have hSb3 : S ≤ 160000000000000000 + (k + 1) * 4294967296 := Nat.le_trans hSb (Nat.add_le_add_left (Nat.mul_le_mul_right _ (Nat.le_succ k)) _)
                clear ht0
                go_wp2
                go_roundw
                case rel => exact ⟨k + 1, S, by omega, by go_num, rfl, hSb3, HN, hbr⟩
                case measure => simp [intOf]; omega
              · have hne0 : ((t : Int) != 0) = true := by simpa using (by omega : ¬ (t : Int) = 0)
                obtain ⟨hr16, hrall⟩ := HR16.out t hmem
                have HRk0 := Lib.hid (fun W => HRR.out W t hmem)
                have HAd := Lib.hid (show addT p ys t = pntN (ringsL (srcs p.R p.C (mv t))) ys from if_neg ht0)
                generalize ringsL (srcs p.R p.C (mv t)) = rs at *
                have HRk := Lib.hid (fun W => (HRk0.out W).mono (R' := fun e w' => ∃ D d, e = .returned (.slice D rs.length d) ∧ (IntsAt w' w'.heap.size D (intsN rs) ∧ rs.length ≤ d) ∧ Below W.heap.size W w' ∧ ∀ ad, D = some ad → W.heap.size ≤ ad.block ∧ ad.block < w'.heap.size) (fun e w' h => by
                  obtain ⟨D, d, h1, h2, h3⟩ := h
                  rw [intsN_len] at h1 h2
                  exact ⟨D, d, h1, h2, h3⟩))
                have hpl : pntN rs ys ≤ 4294967296 := Nat.le_trans (pnt_le rs ys) (Nat.le_trans (Nat.pow_le_pow_left hyl _) (Nat.le_trans (Nat.pow_le_pow_right (by omega) hr16) (by decide)))
                have HN := Lib.hid (show S + pntN rs ys = mulN ys n + addK p ys (k + 1) by rw [HMore.out, HS.out, HAd.out]; omega)
                have hSb3 : S + pntN rs ys ≤ 160000000000000000 + (k + 1) * 4294967296 := by
                  have hsum : (k + 1) * 4294967296 = k * 4294967296 + 4294967296 := Nat.succ_mul _ _
                  omega
                generalize hy : pntN rs ys = y at *
                have Hy := Lib.hid hy
                have e4 : IntKind.i64.wrap ((S : Int) + (y : Int)) = ((S + y : Nat) : Int) := (IntWalk.i64_in _ (by omega)).trans (by omega)
                have HE4 := Lib.hid e4
                have HKK := Lib.hid (fun (W : World) (h : Below wr.heap.size wr W) => show W.cell? ⟨w.heap.size, 0, none⟩ = some (.int .i64 p.R) ∧ W.cell? ⟨w.heap.size, 1, none⟩ = some (.int .i64 p.C) ∧ W.cell? ⟨w.heap.size, 2, none⟩ = some (.int .i64 p.K) ∧ W.cell? ⟨w.heap.size, 3, none⟩ = some (.slice (some ⟨tb, tf, none⟩) p.T.length c) ∧ W.cell? ⟨tb, tf + k, none⟩ = some (.int .i64 t) from
                  ⟨(h.cell (p := ⟨w.heap.size, 0, none⟩) hwz).trans p0, (h.cell (p := ⟨w.heap.size, 1, none⟩) hwz).trans p1, (h.cell (p := ⟨w.heap.size, 2, none⟩) hwz).trans p2, (h.cell (p := ⟨w.heap.size, 3, none⟩) hwz).trans p3, (h.cell (p := ⟨tb, _, none⟩) htb).trans dt⟩)
                have hbd : Below wr.heap.size wr wr.drew := (Below.refl wr.heap.size wr).drew
                have hya16 : ∀ a ∈ ys, a ≤ 16 := fun a ha => by have := HIn.out a ha; omega
                clear hy e4 ht0
                go_upto_region 25 with (fail)
                clear p0 p1 p2 p3 dt
                have e4 := HE4.out
                refine wp_region_held_drew (S := fun W => Below wr.heap.size wr W) (by kernel_rfl) (hbd) (fun hHeld => ?_)
                refine wpAnyH_take (i := 0) (v := ?_) rfl (by kernel_rfl) (by kernel_rfl) (by kernel_rfl) (fun _ _ _ h => h) (Or.inl ⟨by rfl, ?_⟩) (by assumption) ?_
                rotate_left
                · intro w hSw; obtain ⟨x0, x1, x2, x3, x4⟩ := HKK.out _ hSw; go_simp; try with_reducible rfl
                try simp only [Act.put, List.getElem_toArray, List.getElem_cons_zero, List.setIfInBounds_toArray, List.set_cons_zero, List.set_cons_succ]
                refine wpAnyH_take (i := 1) (v := ?_) rfl (by kernel_rfl) (by kernel_rfl) (by kernel_rfl) (fun _ _ _ h => h) (Or.inl ⟨by rfl, ?_⟩) (by assumption) ?_
                rotate_left
                · intro w hSw; obtain ⟨x0, x1, x2, x3, x4⟩ := HKK.out _ hSw; go_simp; try with_reducible rfl
                try simp only [Act.put, List.getElem_toArray, List.getElem_cons_zero, List.getElem_cons_succ, List.setIfInBounds_toArray, List.set_cons_zero, List.set_cons_succ]
                refine wpAnyH_take (i := 2) (v := ?_) rfl (by kernel_rfl) (by kernel_rfl) (by kernel_rfl) (fun _ _ _ h => h) (Or.inl ⟨by rfl, ?_⟩) (by assumption) ?_
                rotate_left
                · intro w hSw; obtain ⟨x0, x1, x2, x3, x4⟩ := HKK.out _ hSw; go_simp; try with_reducible rfl
                try simp only [Act.put, List.getElem_toArray, List.getElem_cons_zero, List.getElem_cons_succ, List.setIfInBounds_toArray, List.set_cons_zero, List.set_cons_succ]
                refine wpAnyH_take (i := 3) (v := ?_) rfl (by kernel_rfl) (by kernel_rfl) (by kernel_rfl) (fun _ _ _ h => h) (Or.inl ⟨by rfl, ?_⟩) (by assumption) ?_
                rotate_left
                · intro w hSw; obtain ⟨x0, x1, x2, x3, x4⟩ := HKK.out _ hSw; go_simp; try with_reducible rfl
                try simp only [Act.put, List.getElem_toArray, List.getElem_cons_zero, List.getElem_cons_succ, List.setIfInBounds_toArray, List.set_cons_zero, List.set_cons_succ]
                refine wpAnyH_take (i := 4) (v := ?_) rfl (by kernel_rfl) (by kernel_rfl) (by kernel_rfl) (fun _ _ _ h => h) (Or.inl ⟨by rfl, ?_⟩) (by assumption) ?_
                rotate_left
                · intro w hSw; obtain ⟨x0, x1, x2, x3, x4⟩ := HKK.out _ hSw; go_simp; try with_reducible rfl
                try simp only [Act.put, List.getElem_toArray, List.getElem_cons_zero, List.getElem_cons_succ, List.setIfInBounds_toArray, List.set_cons_zero, List.set_cons_succ]
                refine wpAnyH_take (i := 5) (v := ?_) rfl (by kernel_rfl) (by kernel_rfl) (by kernel_rfl) (fun _ _ _ h => h) (Or.inl ⟨by rfl, ?_⟩) (by assumption) ?_
                rotate_left
                · intro w hSw; obtain ⟨x0, x1, x2, x3, x4⟩ := HKK.out _ hSw; go_simp; try with_reducible rfl
                try simp only [Act.put, List.getElem_toArray, List.getElem_cons_zero, List.getElem_cons_succ, List.setIfInBounds_toArray, List.set_cons_zero, List.set_cons_succ]
                refine wpAnyH_take (i := 6) (v := ?_) rfl (by kernel_rfl) (by kernel_rfl) (by kernel_rfl) (fun _ _ _ h => h) (Or.inl ⟨by rfl, ?_⟩) (by assumption) ?_
                rotate_left
                · intro w hSw; obtain ⟨x0, x1, x2, x3, x4⟩ := HKK.out _ hSw; go_simp; try with_reducible rfl
                try simp only [Act.put, List.getElem_toArray, List.getElem_cons_zero, List.getElem_cons_succ, List.setIfInBounds_toArray, List.set_cons_zero, List.set_cons_succ]
                refine wpAnyH_take (i := 9) (v := ?_) rfl (by kernel_rfl) (by kernel_rfl) (by kernel_rfl) (fun _ _ _ h => h) (Or.inl ⟨by rfl, ?_⟩) (by assumption) ?_
                rotate_left
                · intro w hSw; obtain ⟨x0, x1, x2, x3, x4⟩ := HKK.out _ hSw; go_simp; try with_reducible rfl
                try simp only [Act.put, List.getElem_toArray, List.getElem_cons_zero, List.getElem_cons_succ, List.setIfInBounds_toArray, List.set_cons_zero, List.set_cons_succ]
                refine wpAnyH_ready (rs := [7, 8]) (by kernel_rfl) (by simp) ?_
                refine AllReadyH.cons rfl (fun K hK => ?_) (AllReadyH.cons rfl (fun K hK => ?_) AllReadyH.nil)
                · skip
                  go_simp
                  refine (HRk.out _).mono ?_
                  rintro e w5 ⟨D5, d5, rfl, ⟨hI5, hc5⟩, hb5, hN5⟩
                  have hS5 : Below wr.heap.size wr w5 := hbd.trans (hb5.mono (Nat.le_refl _))
                  refine hK.out _ _ (hS5) (fun _ => ?_)
                  clear hK K
                  try simp only [Act.put, List.getElem_toArray, List.getElem_cons_zero, List.getElem_cons_succ, List.setIfInBounds_toArray, List.set_cons_zero, List.set_cons_succ]
                  refine wpAnyH_ready (rs := [8]) (by kernel_rfl) (by simp) ?_
                  refine AllReadyH.cons rfl (fun K hK => ?_) AllReadyH.nil
                  go_simp
                  have hS6 : Below wr.heap.size wr (w5.alloc (.cells #[] 3)) := hS5.alloc hS5.size _
                  refine hK.out _ _ (hS6) (fun _ => ?_)
                  clear hK K
                  try simp only [Act.put, List.getElem_toArray, List.getElem_cons_zero, List.getElem_cons_succ, List.setIfInBounds_toArray, List.set_cons_zero, List.set_cons_succ]
                  refine wpAnyH_ready (rs := [10]) (by kernel_rfl) (by simp) ?_
                  refine AllReadyH.cons rfl (fun K hK => ?_) AllReadyH.nil
                  refine step_append_nats _ rfl _ _ rfl wr.heap.size w5.heap.size ys X xc rfl (own_zero w5 wr.heap.size hS5.size) rfl (HX.out.up (HF.out.trans (hS6.mono HF.out.size))) hypos hyl2 (by have := hS6.size; simpa using this) ?_
                  intro g c6 w6 hrow6 hg6 hor6 hb6 hgr6
                  have hI6 := (hI5.up (below_new w5 (.cells #[] 3))).chg (Chg.of_grown hgr6) (fun ad h e => by injection e with e; have := (hN5 ad h).2; omega)
                  have hne6 : ∀ ad, D5 = some ad → ad.block ≠ g := fun ad h => by have h1 := (hN5 ad h).2; have h2 : (w5.alloc (.cells #[] 3)).heap.size = w5.heap.size + 1 := (by simp); rcases hor6 with e | e <;> omega
                  have hS7 := hS6.trans hb6
                  refine hK.out _ _ (hS7) (fun _ => ?_)
                  clear hK K
                  try simp only [Act.put, List.getElem_toArray, List.getElem_cons_zero, List.getElem_cons_succ, List.setIfInBounds_toArray, List.set_cons_zero, List.set_cons_succ]
                  refine wpAnyH_ready (rs := [11]) (by kernel_rfl) (by simp) ?_
                  refine AllReadyH.cons rfl (fun K hK => ?_) AllReadyH.nil
                  go_simp
                  have h92 := refPainted_any rs ys D5 d5 g c6 w6 hI6 hne6 hc5 hrow6 hyl hr16 hya16 hrall
                  rw [Hy.out] at h92
                  refine h92.mono ?_
                  rintro e w7 ⟨rfl, _, hc7⟩
                  have hS8 : Below wr.heap.size wr w7 := hS7.trans (hc7.below hS7.size (fun i hi e => by have e' : i = g := e; omega))
                  refine hK.out _ _ (hS8) (fun _ => ?_)
                  clear hK K
                  try simp only [Act.put, List.getElem_toArray, List.getElem_cons_zero, List.getElem_cons_succ, List.setIfInBounds_toArray, List.set_cons_zero, List.set_cons_succ]
                  refine wpAnyH_take (i := 12) (v := ?_) rfl (by kernel_rfl) (by kernel_rfl) (by kernel_rfl) (fun _ _ _ h => h) (Or.inl ⟨by rfl, ?_⟩) (by assumption) ?_
                  rotate_left
                  · intro w hSw; obtain ⟨x0, x1, x2, x3, x4⟩ := HKK.out _ hSw; go_simp; try with_reducible rfl
                  try simp only [Act.put, List.getElem_toArray, List.getElem_cons_zero, List.getElem_cons_succ, List.setIfInBounds_toArray, List.set_cons_zero, List.set_cons_succ]
                  refine wpAnyH_take (i := 13) (v := ?_) rfl (by kernel_rfl) (by kernel_rfl) (by kernel_rfl) (fun _ _ _ h => h) (Or.inl ⟨by rfl, ?_⟩) (by assumption) ?_
                  rotate_left
                  · intro w hSw; obtain ⟨x0, x1, x2, x3, x4⟩ := HKK.out _ hSw; go_simp; try with_reducible rfl
                  try simp only [Act.put, List.getElem_toArray, List.getElem_cons_zero, List.getElem_cons_succ, List.setIfInBounds_toArray, List.set_cons_zero, List.set_cons_succ]
                  refine wpAnyH_done (by kernel_rfl) ?_ _
                  go_wp2
                  go_roundw
                  case rel => exact ⟨k + 1, S + y, by omega, by go_num, by first | rfl | exact congrArg (Value.int .i64) HE4.out | (rw [← HE4.out]; rfl) | go_num, hSb3, HN, hbr.trans (hS8.mono hbr.size)⟩
                  case measure => simp [intOf]; omega
                · skip
                  go_simp
                  have hS6 : Below wr.heap.size wr (wr.drew.alloc (.cells #[] 3)) := hbd.alloc (Nat.le_refl _) _
                  refine hK.out _ _ (hS6) (fun _ => ?_)
                  clear hK K
                  try simp only [Act.put, List.getElem_toArray, List.getElem_cons_zero, List.getElem_cons_succ, List.setIfInBounds_toArray, List.set_cons_zero, List.set_cons_succ]
                  refine wpAnyH_ready (rs := [7]) (by kernel_rfl) (by simp) ?_
                  refine AllReadyH.cons rfl (fun K hK => ?_) AllReadyH.nil
                  go_simp
                  refine (HRk.out _).mono ?_
                  rintro e w5 ⟨D5, d5, rfl, ⟨hI5, hc5⟩, hb5, hN5⟩
                  have hS5 : Below wr.heap.size wr w5 := (hbd.alloc (Nat.le_refl _) _).trans (hb5.mono (by simp))
                  have hown5 := own_below (own_zero wr.drew wr.heap.size (Nat.le_refl _)) hb5
                  have hN5' : ∀ ad, D5 = some ad → ad.block ≠ wr.drew.heap.size := fun ad h => by have := (hN5 ad h).1; simp at this; exact fun e => by rw [e] at this; simp at this; omega
                  refine hK.out _ _ (hS5) (fun _ => ?_)
                  clear hK K
                  try simp only [Act.put, List.getElem_toArray, List.getElem_cons_zero, List.getElem_cons_succ, List.setIfInBounds_toArray, List.set_cons_zero, List.set_cons_succ]
                  refine wpAnyH_ready (rs := [10]) (by kernel_rfl) (by simp) ?_
                  refine AllReadyH.cons rfl (fun K hK => ?_) AllReadyH.nil
                  refine step_append_nats _ rfl _ _ rfl wr.heap.size wr.drew.heap.size ys X xc rfl hown5 rfl (HX.out.up (HF.out.trans (hS5.mono HF.out.size))) hypos hyl2 hS5.size ?_
                  intro g c6 w6 hrow6 hg6 hor6 hb6 hgr6
                  have hI6 := hI5.chg (Chg.of_grown hgr6) (fun ad h e => by injection e with e; exact hN5' ad h e)
                  have hne6 : ∀ ad, D5 = some ad → ad.block ≠ g := fun ad h => by have h1 := (hN5 ad h).2; have h2 := hN5' ad h; rcases hor6 with e | e <;> omega
                  have hS7 := hS5.trans hb6
                  refine hK.out _ _ (hS7) (fun _ => ?_)
                  clear hK K
                  try simp only [Act.put, List.getElem_toArray, List.getElem_cons_zero, List.getElem_cons_succ, List.setIfInBounds_toArray, List.set_cons_zero, List.set_cons_succ]
                  refine wpAnyH_ready (rs := [11]) (by kernel_rfl) (by simp) ?_
                  refine AllReadyH.cons rfl (fun K hK => ?_) AllReadyH.nil
                  go_simp
                  have h92 := refPainted_any rs ys D5 d5 g c6 w6 hI6 hne6 hc5 hrow6 hyl hr16 hya16 hrall
                  rw [Hy.out] at h92
                  refine h92.mono ?_
                  rintro e w7 ⟨rfl, _, hc7⟩
                  have hS8 : Below wr.heap.size wr w7 := hS7.trans (hc7.below hS7.size (fun i hi e => by have e' : i = g := e; omega))
                  refine hK.out _ _ (hS8) (fun _ => ?_)
                  clear hK K
                  try simp only [Act.put, List.getElem_toArray, List.getElem_cons_zero, List.getElem_cons_succ, List.setIfInBounds_toArray, List.set_cons_zero, List.set_cons_succ]
                  refine wpAnyH_take (i := 12) (v := ?_) rfl (by kernel_rfl) (by kernel_rfl) (by kernel_rfl) (fun _ _ _ h => h) (Or.inl ⟨by rfl, ?_⟩) (by assumption) ?_
                  rotate_left
                  · intro w hSw; obtain ⟨x0, x1, x2, x3, x4⟩ := HKK.out _ hSw; go_simp; try with_reducible rfl
                  try simp only [Act.put, List.getElem_toArray, List.getElem_cons_zero, List.getElem_cons_succ, List.setIfInBounds_toArray, List.set_cons_zero, List.set_cons_succ]
                  refine wpAnyH_take (i := 13) (v := ?_) rfl (by kernel_rfl) (by kernel_rfl) (by kernel_rfl) (fun _ _ _ h => h) (Or.inl ⟨by rfl, ?_⟩) (by assumption) ?_
                  rotate_left
                  · intro w hSw; obtain ⟨x0, x1, x2, x3, x4⟩ := HKK.out _ hSw; go_simp; try with_reducible rfl
                  try simp only [Act.put, List.getElem_toArray, List.getElem_cons_zero, List.getElem_cons_succ, List.setIfInBounds_toArray, List.set_cons_zero, List.set_cons_succ]
                  refine wpAnyH_done (by kernel_rfl) ?_ _
                  go_wp2
                  go_roundw
                  case rel => exact ⟨k + 1, S + y, by omega, by go_num, by first | rfl | exact congrArg (Value.int .i64) HE4.out | (rw [← HE4.out]; rfl) | go_num, hSb3, HN, hbr.trans (hS8.mono hbr.size)⟩
                  case measure => simp [intOf]; omega
            · have HE := Lib.hid (show S = mulN ys n + addK p ys p.T.length by rw [HS.out, show k = p.T.length by omega])
              have hki : ¬ (k : Int) < (p.T.length : Int) := by omega
              have hne : ¬ ((p.T.length : Int) = 0) := by omega
              have hnb : ((p.T.length : Int) == 0) = false := by simpa using hne
              obtain ⟨Q, hQ⟩ : ∃ Q, Q = S / p.T.length := ⟨_, rfl⟩
              have hQb : Q ≤ 160000000000000000 + 8 * 4294967296 := by rw [hQ]; exact Nat.le_trans (Nat.div_le_self _ _) hSb2
              have hdiv : (S : Int) / (p.T.length : Int) = (Q : Int) := by rw [hQ]; rfl
              have HQq := Lib.hid (show V = Q by rw [hQ, HE.out, HV.out])
              clear hQ
              go_wp2
              go_ret2
              exact ⟨by rw [HQq.out]; rfl, HF.out⟩
end Go.Proofs.YtbcbaaapogejiaaDoor
