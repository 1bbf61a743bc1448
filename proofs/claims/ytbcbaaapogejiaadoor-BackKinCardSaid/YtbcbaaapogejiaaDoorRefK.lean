/-
  The reference: the first back that is alike, and all of them.
-/
import Derived.Test.YtbcbaaapogejiaaDoorRefJ
namespace Go.Proofs.YtbcbaaapogejiaaDoor
open Go.RowKit

set_option maxRecDepth 100000 in
set_option maxHeartbeats 2000000 in
theorem refFirst_ok (p : Pr) (hp : p.Ok) (A X : Option Addr) (c xc : Nat) (b : List Int) (w : World) (hT : IntsAt w w.heap.size A (intsN p.T)) (hX : IntsAt w w.heap.size X b) (hb : BackOk p b) :
    Calls Tryd.prog 31 #[.agg #[.int .i64 p.R, .int .i64 p.C, .int .i64 p.K, .slice A p.T.length c], .slice X b.length xc] w (RetIE w (minF b (p.imgs b)) 0) := by
  have hb1 := below_new w (.cells #[.int .i64 p.R, .int .i64 p.C, .int .i64 p.K, .slice A p.T.length c] 32)
  have HV := Lib.hid (refVal_ok p hp A X c xc b _ (hT.up hb1) (hX.up hb1) hb)
  have HF := Lib.hid (fun W (h : Below w.heap.size w W) => refFirst0_ok p hp A X c xc b W (hT.up h) (hX.up h) hb)
  generalize minF b (p.imgs b) = l at *
  clear hp hb hT hX
  go_enter Tryd.func31, Tryd.ntmps31
  go_wp2_with (first
    | (go_at_call 77; refine (HV.out).mono ?_; rintro e w2 ⟨rfl, hb2⟩; obtain ⟨q1, q2, q3⟩ := bcell hb2; simp only [World.size_alloc] at q1 q2 q3; have hb3 := hb1.trans (hb2.mono hb1.size))
    | (go_at_call 80; refine (HF.out _ hb3).mono ?_; rintro e w5 ⟨D, d, rfl, hI, hb5, _⟩))
  go_ret2
  exact ⟨D, d, rfl, hI, hb3.trans (hb5.mono hb3.size)⟩

/-- What the list of backs is behind the first k turns. -/
def KinAt (p : Pr) (b : List Int) (k : Nat) (L : List (List Int)) : Prop := Asc L ∧ (∀ z, z ∈ L ↔ z ∈ (p.imgs b).take k) ∧ L.length ≤ k
theorem KinAt.len {p : Pr} {b : List Int} {k : Nat} {L : List (List Int)} (h : KinAt p b k L) : ∀ x ∈ L, x.length = p.n := fun x hx => imgs_len p (List.mem_of_mem_take ((h.2.1 x).1 hx))
theorem KinAt.old {p : Pr} {b : List Int} {k : Nat} {L : List (List Int)} {x : List Int} (h : KinAt p b k L) (hk : (p.imgs b)[k]? = some x) (hx : x ∈ L) : KinAt p b (k + 1) L := by
  refine ⟨h.1, fun z => ?_, by have := h.2.2; omega⟩
  rw [take_snoc hk, List.mem_append, List.mem_singleton, ← h.2.1 z]
  constructor
  · exact .inl
  · rintro (h1 | rfl)
    · exact h1
    · exact hx
theorem KinAt.new {p : Pr} {b : List Int} {k : Nat} {L : List (List Int)} {x : List Int} (h : KinAt p b k L) (hk : (p.imgs b)[k]? = some x) (hx : x ∉ L) {j : Nat} (hj : j ≤ L.length) (hhi : ∀ z ∈ L.drop j, cmpL x z < 0) (hlo : ∀ y, j ≠ 0 → L[j - 1]? = some y → ¬ cmpL x y < 0) : KinAt p b (k + 1) (arr L x j) := by
  refine ⟨arr_asc h.1 hx hhi hlo hj, fun z => ?_, by rw [arr_len hj]; have := h.2.2; omega⟩
  rw [arr_mem, take_snoc hk, List.mem_append, List.mem_singleton, ← h.2.1 z]
  constructor
  · rintro (h1 | h1)
    · exact .inr h1
    · exact .inl h1
  · rintro (h1 | h1)
    · exact .inr h1
    · exact .inl h1
theorem KinAt.kin {p : Pr} {b : List Int} {L : List (List Int)} (h : KinAt p b p.T.length L) : L = p.kin b :=
  asc_eq h.1 (kinU_asc _) fun z => by rw [h.2.1 z, List.take_of_length_le (by rw [imgs_size]; omega)]; exact (kinU_mem _ _).symm

theorem take_mem_snoc {L : List (List Int)} {x y : List Int} {q : Nat} (h : L[q]? = some y) : decide (x ∈ L.take (q + 1)) = (decide (x ∈ L.take q) || decide (y = x)) := by
  rw [take_snoc h]
  by_cases h1 : x ∈ L.take q
  · simp [h1]
  · simp only [List.mem_append, List.mem_singleton, h1, false_or, decide_false, Bool.false_or]
    by_cases h2 : x = y
    · simp [h2]
    · rw [decide_eq_false h2, decide_eq_false (fun h => h2 h.symm)]

set_option maxRecDepth 100000 in
set_option maxHeartbeats 8000000 in
theorem refKin_ok (p : Pr) (hp : p.Ok) (A X : Option Addr) (c xc : Nat) (b : List Int) (w : World) (hT : IntsAt w w.heap.size A (intsN p.T)) (hX : IntsAt w w.heap.size X b) (hb : BackOk p b) :
    Calls Tryd.prog 33 #[.agg #[.int .i64 p.R, .int .i64 p.C, .int .i64 p.K, .slice A p.T.length c], .slice X b.length xc] w (RetLE w (p.kin b) 0) := by
  have hb1 := below_new w (.cells #[.int .i64 p.R, .int .i64 p.C, .int .i64 p.K, .slice A p.T.length c] 32)
  have hc1 := own_cells4 w (.int .i64 p.R) (.int .i64 p.C) (.int .i64 p.K) (.slice A p.T.length c) 32
  have hz1 : w.heap.size < (w.alloc (.cells #[.int .i64 p.R, .int .i64 p.C, .int .i64 p.K, .slice A p.T.length c] 32)).heap.size := by simp
  have HV := Lib.hid (refVal_ok p hp A X c xc b _ (hT.up hb1) (hX.up hb1) hb)
  have hl8 := hp.len
  have hn16 := hp.n16
  have HTd := Lib.hid (fun W t h ht => refTd p hp A X c xc t b W h hb ht)
  have HO := Lib.hid hp
  have HXX := Lib.hid hX
  have HTT := Lib.hid hT
  clear hp hb hX hT
  go_enter Tryd.func33, Tryd.ntmps33
  go_upto_region 4 with (go_at_call 77; ((with_reducible refine (HV.out).mono ?_); rintro e w4 ⟨rfl, hb2⟩))
  have hbw : Below w.heap.size w w4 := hb1.trans (hb2.mono hb1.size)
  have hz4 : w.heap.size < w4.heap.size := Nat.lt_of_lt_of_le hz1 hb2.size
  have HH := Lib.hid (fun (W : World) (h : Below w4.heap.size w4 W) => show W.cell? ⟨w.heap.size, 0, none⟩ = some (.int .i64 p.R) ∧ W.cell? ⟨w.heap.size, 1, none⟩ = some (.int .i64 p.C) ∧ W.cell? ⟨w.heap.size, 2, none⟩ = some (.int .i64 p.K) ∧ W.cell? ⟨w.heap.size, 3, none⟩ = some (.slice A p.T.length c) from
    ⟨(h.cell (p := ⟨w.heap.size, 0, none⟩) hz4).trans ((hb2.cell (p := ⟨w.heap.size, 0, none⟩) hz1).trans hc1.1), (h.cell (p := ⟨w.heap.size, 1, none⟩) hz4).trans ((hb2.cell (p := ⟨w.heap.size, 1, none⟩) hz1).trans hc1.2.1), (h.cell (p := ⟨w.heap.size, 2, none⟩) hz4).trans ((hb2.cell (p := ⟨w.heap.size, 2, none⟩) hz1).trans hc1.2.2.1), (h.cell (p := ⟨w.heap.size, 3, none⟩) hz4).trans ((hb2.cell (p := ⟨w.heap.size, 3, none⟩) hz1).trans hc1.2.2.2)⟩)
  clear hc1 hb2 hb1 HV
  go_wp2
  go_loopw [7, 8] (fun v i wr => ∃ (k : Nat) (L : List (List Int)), k ≤ p.T.length ∧ i = .int .i64 k ∧ Out w4.heap.size wr v L ∧ Hid (KinAt p b k L) ∧ Below w4.heap.size w4 wr) (fun _ i _ => p.T.length - (intOf i).toNat)
  case atStart => exact ⟨0, [], Nat.zero_le _, rfl, Out.nil _ _, Lib.hid ⟨List.Pairwise.nil, fun z => by simp, by simp⟩, Below.refl _ _⟩
  case round =>
    obtain ⟨k, L, hk, rfl, hO, HKin, hbr⟩ := hrel
    have hbwr := hbw.trans (hbr.mono hbw.size)
    obtain ⟨p0, p1, p2, p3⟩ := HH.out _ hbr
    have HF := Lib.hid hbwr
    by_cases hlt : k < p.T.length
    · have hx : p.T[k]? = some p.T[k] := List.getElem?_eq_getElem hlt
      have hmem := mem_of_get hx
      have HIm := Lib.hid (imgs_get (p := p) (b := b) hx)
      obtain ⟨tb, tf, rfl, htb, dt⟩ := (HTT.out.up hbwr) k _ (intsN_get hx)
      clear hx
      generalize p.T[k] = t at *
      have hki : (k : Int) < (p.T.length : Int) := by omega
      have hk0 : (0 : Int) ≤ (k : Int) := by omega
      have hwz : w.heap.size < wr.heap.size := Nat.lt_of_lt_of_le hz4 hbr.size
      have HKK := Lib.hid (fun (W : World) (h : Below wr.heap.size wr W) => show Below wr.heap.size wr W ∧ W.cell? ⟨w.heap.size, 0, none⟩ = some (.int .i64 p.R) ∧ W.cell? ⟨w.heap.size, 1, none⟩ = some (.int .i64 p.C) ∧ W.cell? ⟨w.heap.size, 2, none⟩ = some (.int .i64 p.K) ∧ W.cell? ⟨w.heap.size, 3, none⟩ = some (.slice (some ⟨tb, tf, none⟩) p.T.length c) ∧ W.cell? ⟨tb, tf + k, none⟩ = some (.int .i64 t) from
        ⟨h, (h.cell (p := ⟨w.heap.size, 0, none⟩) hwz).trans p0, (h.cell (p := ⟨w.heap.size, 1, none⟩) hwz).trans p1, (h.cell (p := ⟨w.heap.size, 2, none⟩) hwz).trans p2, (h.cell (p := ⟨w.heap.size, 3, none⟩) hwz).trans p3, (h.cell (p := ⟨tb, _, none⟩) htb).trans dt⟩)
      have HLt := Lib.hid (td_len p t b)
      have X70 := Lib.hid (fun W (Q : Ending → World → Prop) (h : Below wr.heap.size wr W) (hQ : ∀ D d w', IntsAt w' w'.heap.size D (tdL (srcs p.R p.C (mv t)) b) → (∀ ad, D = some ad → wr.heap.size ≤ ad.block ∧ ad.block < w'.heap.size) → Below wr.heap.size wr w' → Q (.returned (.slice D p.n d)) w') =>
        (HTd.out W t ((HXX.out.up hbwr).up h) hmem).mono fun e w' ⟨D, d, he, hi, hb, ha⟩ => by rw [he, HLt.out]; exact hQ D d w' hi (fun ad e => ⟨Nat.le_trans h.size (ha ad e).1, (ha ad e).2⟩) (h.trans (hb.mono h.size)))
      have hbd := (Below.refl wr.heap.size wr).drew
      have HOO := Lib.hid (fun W (h : Below wr.heap.size wr W) => hO.below h)
      have HXL := Lib.hid (td_len p t b)
      generalize tdL (srcs p.R p.C (mv t)) b = x at *
      have hOz := hO
      clear dt hO
      go_upto_region 8 with (fail)
      clear p0 p1 p2 p3
      go_region_held3 (fun W => Below wr.heap.size wr W ∧ W.cell? ⟨w.heap.size, 0, none⟩ = some (.int .i64 p.R) ∧ W.cell? ⟨w.heap.size, 1, none⟩ = some (.int .i64 p.C) ∧ W.cell? ⟨w.heap.size, 2, none⟩ = some (.int .i64 p.K) ∧ W.cell? ⟨w.heap.size, 3, none⟩ = some (.slice (some ⟨tb, tf, none⟩) p.T.length c) ∧ W.cell? ⟨tb, tf + k, none⟩ = some (.int .i64 t))
        (exact HKK.out _ (by assumption))
        (first
          | (go_at_call 70; with_reducible refine X70.out _ _ (by assumption) ?_; intro D5 d5 w5 hI5 hN5 hb5))
      have hO5 := HOO.out w5 hb5
      have hbr5 : Below w4.heap.size w4 w5 := hbr.trans (hb5.mono hbr.size)
      clear X70 HKK HOO hbd
      obtain ⟨vA, vc, rfl⟩ := hO5.slice
      have hLl : L.length ≤ 8 := by have := HKin.out.2.2; omega
      have HI5 := Lib.hid hI5
      have HN5 := Lib.hid hN5
      have HO5 := Lib.hid hO5
      have HOz := Lib.hid hOz
      have hsz5 := hbr5.size
      have hs5 := hb5.size
      clear hI5 hN5 hO5 hOz
      generalize wr = wz at *
      go_wp2
      go_loopw [10, 11] (fun o i wr' => ∃ (q : Nat) (bb : Bool), q ≤ L.length ∧ i = .int .i64 q ∧ o = .bool bb ∧ Hid (bb = decide (x ∈ L.take q)) ∧ Below w5.heap.size w5 wr') (fun _ i _ => L.length - (intOf i).toNat)
      case atStart => exact ⟨0, false, Nat.zero_le _, rfl, rfl, Lib.hid (by simp), Below.refl _ _⟩
      case round =>
        obtain ⟨q, bb, hq, rfl, rfl, HB, hb6⟩ := hrel
        by_cases hqL : q < L.length
        · have hy : L[q]? = some L[q] := List.getElem?_eq_getElem hqL
          have hyl := HKin.out.len _ (mem_of_get hy)
          have HTM := Lib.hid (take_mem_snoc (x := x) hy)
          obtain ⟨g, gc, hge, hgB, hgs⟩ := HO5.out.form (by omega)
          injection hge with hge1 _ hge3
          subst hge1 hge3
          obtain ⟨yD, yd, cy, hyI, _, _⟩ := (HO5.out.below hb6).get hy
          rw [hyl] at cy
          have HyI := Lib.hid hyI
          clear hy hyI
          generalize L[q] = y at *
          have hqi : (q : Int) < (L.length : Int) := by omega
          have hq0 : (0 : Int) ≤ (q : Int) := by omega
          rcases bb with _ | _
          · by_cases hyx : y = x
            · have X71 := Lib.hid (same_yes p HO.out yD D5 yd d5 p.n y x wr hyl (by rw [← hyx]; exact hyl) rfl HyI.out (HI5.out.up hb6) hyx)
              have HN := Lib.hid (show true = decide (x ∈ L.take (q + 1)) by rw [HTM.out, ← HB.out, decide_eq_true hyx]; rfl)
              clear hyx
              go_wp2_with (go_at_call 71; refine (X71.out).mono ?_; rintro e w7 ⟨rfl, r, rfl⟩)
              go_roundw
              case rel => exact ⟨q + 1, true, by omega, by go_num, rfl, HN, below_drewN hb6 _⟩
              case measure => simp [intOf]; omega
            · have X71 := Lib.hid (same_no p HO.out yD D5 yd d5 p.n y x wr hyl HXL.out rfl HyI.out (HI5.out.up hb6) hyx)
              have HN := Lib.hid (show false = decide (x ∈ L.take (q + 1)) by rw [HTM.out, ← HB.out, decide_eq_false hyx]; rfl)
              clear hyx
              go_wp2_with (go_at_call 71; refine (X71.out).mono ?_; rintro e w7 ⟨rfl, r, rfl⟩)
              go_roundw
              case rel => exact ⟨q + 1, false, by omega, by go_num, rfl, HN, below_drewN hb6 _⟩
              case measure => simp [intOf]; omega
          · have HN := Lib.hid (show true = decide (x ∈ L.take (q + 1)) by rw [HTM.out, ← HB.out]; rfl)
            go_wp2
            go_roundw
            case rel => exact ⟨q + 1, true, by omega, by go_num, rfl, HN, hb6⟩
            case measure => simp [intOf]; omega
        · have hqi : ¬ (q : Int) < (L.length : Int) := by omega
          have e1 := HB.out
          rw [List.take_of_length_le (by omega)] at e1
          have hb46 := hbr5.trans (hb6.mono hsz5)
          rcases bb with _ | _
          · have hxL : x ∉ L := fun h => by rw [decide_eq_true h] at e1; cases e1
            have HxL := Lib.hid hxL
            have hO6 := HO5.out.below hb6
            have hI6 := HI5.out.up hb6
            have hs6 := hb6.size
            have HN6 := Lib.hid (fun ad (h : D5 = some ad) => show wz.heap.size ≤ ad.block ∧ ad.block < wr.heap.size from ⟨(HN5.out ad h).1, Nat.lt_of_lt_of_le (HN5.out ad h).2 hs6⟩)
            have HXL2 := HXL.out
            clear e1 hxL
            have hszz := hb46.size
            have hsw := hbw.size
            have hs4z := hbr.size
            go_wp2_with (at_builtin; go_must (refine wpList_append_list _ rfl _ _ rfl w4.heap.size wr.heap.size _ L x D5 d5 rfl (hO6.below (below_new _ _)) rfl (by rw [HXL.out]; exact heap_new _ _) (hI6.up (below_new _ _)) (fun ad had => ⟨by have := (HN6.out ad had).2; simp; omega, by have := (HN6.out ad had).1; omega, fun e => by obtain ⟨us, h1, _⟩ := HOz.out; have := (h1.lt _ e).2; have := (HN6.out ad had).1; omega⟩) (by omega) (by simp; omega) ?_); intro A7 c7 w7 hO7 hg7 hb7)
            have hbr7 : Below w4.heap.size w4 w7 := (hb46.alloc hszz _).trans hb7
            rw [← arr_end] at hO7
            obtain ⟨g, gc, hge, hgB, hgs⟩ := hO7.form (by rw [arr_len (Nat.le_refl _)]; omega)
            rw [arr_len (Nat.le_refl _)] at hge
            injection hge with hge1 _ hge3
            subst hge1 hge3
            have ew : IntKind.i64.wrap (((L.length : Int) + 1) - 1) = (L.length : Int) := (IntWalk.i64_in _ (by omega)).trans (by omega)
            clear hO6 hI6 hg7 hb7
            generalize hLn : L.length = ln at *
            have HLn := Lib.hid hLn
            clear hLn
            go_wp2
            go_loopw [12] (fun i wr => ∃ j : Nat, j ≤ ln ∧ i = .int .i64 j ∧ Out w4.heap.size wr (.slice (some ⟨g, 0, none⟩) (ln + 1) c7) (arr L x j) ∧ Hid (∀ z ∈ L.drop j, cmpL x z < 0) ∧ Below w4.heap.size w4 wr) (fun i _ => (intOf i).toNat)
            case atStart => exact ⟨ln, Nat.le_refl _, rfl, hO7, Lib.hid (by rw [← HLn.out]; simp), hbr7⟩
            case round =>
              clear hO7 hbr7 ew hgs
              obtain ⟨j, hj, rfl, hOj, HJ, hbj⟩ := hrel
              by_cases hj0 : (0 : Int) < (j : Int)
              · obtain ⟨i, rfl⟩ : ∃ i, j = i + 1 := ⟨j - 1, by omega⟩
                have hiL : i < L.length := by have := HLn.out; omega
                have hy : L[i]? = some L[i] := List.getElem?_eq_getElem hiL
                have hyl := HKin.out.len _ (mem_of_get hy)
                have g1 := arr_under (x := x) hiL
                rw [hy] at g1
                have g2 := arr_at (L := L) (x := x) (j := i + 1) (by omega)
                have HY := Lib.hid hy
                have HSw := Lib.hid (arr_swap (x := x) hy)
                have HDr := Lib.hid (drop_cons hy)
                obtain ⟨yD, yd, cy, hyI, hyo, fy⟩ := hOj.get g1
                obtain ⟨xD, xd, cx, hxI, hxo, fx⟩ := hOj.get g2
                have HyI := Lib.hid hyI
                have HxI := Lib.hid hxI
                have Hyo := Lib.hid hyo
                have Hxo := Lib.hid hxo
                generalize L[i] = y at *
                rw [hyl] at cy
                rw [HXL.out] at cx
                have HOj := Lib.hid hOj
                have e1 : IntKind.i64.wrap ((i : Int) + 1 - 1) = (i : Int) := (IntWalk.i64_in _ (by omega)).trans (by omega)
                have X81 := Lib.hid (fun W (h : Below wr.heap.size wr W) => refBefore_any xD yD xd yd x y W (by rw [HXL.out]; omega) (by rw [hyl, HXL.out]) W.heap.size (HxI.out.up h) (HyI.out.up h))
                rw [HXL.out] at X81
                have hi0 : (0 : Int) ≤ (i : Int) := by omega
                have hiln : (i : Int) < (ln : Int) + 1 := by omega
                have hiln2 : (i : Int) + 1 < (ln : Int) + 1 := by omega
                have HSWP := Lib.hid (fun n => by
                  have h1 := Out.swap (HOj.out.below (below_drewN (Below.refl wr.heap.size wr) n)) i (d1 := yd) (d2 := xd) (HyI.out.up (below_drewN (Below.refl _ _) n)) (HxI.out.up (below_drewN (Below.refl _ _) n)) Hyo.out Hxo.out
                  rw [hyl, HXL.out, HSw.out] at h1
                  exact h1.1)
                have hyn : y.length = p.n := hyl
                clear hy g1 g2 hyI hxI hyo hxo hOj hiL hyl hyn
                by_cases hlt2 : cmpL x y < 0
                · rw [decide_eq_true hlt2] at X81
                  have HN := Lib.hid (show ∀ z ∈ L.drop i, cmpL x z < 0 by
                    rw [HDr.out]
                    intro z hz
                    rcases List.mem_cons.1 hz with e | hz
                    · rw [e]; exact hlt2
                    · exact HJ.out z hz)
                  go_upto_region 17 with (fail)
                  go_quiet (first | (go_at_call 81; refine (X81.out _ (below_drewN (Below.refl _ _) _)).mono ?_; rintro e w8 ⟨rfl, r, rfl⟩; exact ⟨rfl, _, by rw [World.drewN_drewN]⟩))
                  go_upto_region 19 with (fail)
                  go_region
                  clear cy cx fy fx e1
                  go_wp2
                  go_roundw
                  case rel => exact ⟨i, by omega, by first | rfl | go_num, HSWP.out _, HN, ((below_drewN hbj _).setCell hgB _).setCell hgB _⟩
                  case measure => simp [intOf]
                · rw [decide_eq_false hlt2] at X81
                  have HN := Lib.hid (HKin.out.new HIm.out HxL.out (j := i + 1) (by have := HLn.out; omega) HJ.out (fun z _ hz => by
                    rw [Nat.add_sub_cancel, HY.out] at hz
                    injection hz with hz
                    rw [← hz]; exact hlt2))
                  clear e1
                  go_upto_region 17 with (fail)
                  go_quiet (first | (go_at_call 81; refine (X81.out _ (below_drewN (Below.refl _ _) _)).mono ?_; rintro e w8 ⟨rfl, r, rfl⟩; exact ⟨rfl, _, by rw [World.drewN_drewN]⟩))
                  clear cy cx fy fx
                  go_wp2
                  go_roundw
                  case rel => exact ⟨k + 1, arr L x (i + 1), by omega, by go_num, HOj.out.below (below_drewN (Below.refl _ _) _), HN, below_drewN hbj _⟩
                  case measure => simp [intOf]; omega
              · have e0 : j = 0 := by omega
                have HN := Lib.hid (HKin.out.new HIm.out HxL.out (j := j) (by omega) HJ.out (fun z h _ => absurd e0 h))
                have HOj := Lib.hid hOj
                have hd0 : decide ((0 : Int) < (j : Int)) = false := decide_eq_false hj0
                have hd1 : decide (0 < j) = false := decide_eq_false (by omega)
                clear hOj e0
                go_upto_region 17 with (fail)
                go_quiet (fail)
                go_wp2
                go_roundw
                case rel => exact ⟨k + 1, arr L x j, by omega, by go_num, HOj.out.below (below_drewN (Below.refl _ _) _), HN, below_drewN hbj _⟩
                case measure => simp [intOf]; omega
          · have hxL : x ∈ L := by
              by_cases h : x ∈ L
              · exact h
              · rw [decide_eq_false h] at e1; cases e1
            have HN := Lib.hid (HKin.out.old HIm.out hxL)
            have hO6 := HO5.out.below hb6
            clear e1 hxL
            go_wp2
            go_roundw
            case rel => exact ⟨k + 1, L, by omega, by go_num, hO6, HN, hb46⟩
            case measure => simp [intOf]; omega
    · have hki : ¬ (k : Int) < (p.T.length : Int) := by omega
      have e : k = p.T.length := by omega
      subst e
      have HE := Lib.hid HKin.out.kin
      obtain ⟨vA, vc, rfl⟩ := hO.slice
      have HL := Lib.hid hO.lists
      clear hO
      go_wp2
      go_ret2
      rw [← HE.out]
      exact ⟨vA, vc, rfl, HL.out, HF.out⟩
end Go.Proofs.YtbcbaaapogejiaaDoor
