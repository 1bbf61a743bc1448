/-
  The reference: which list comes first, and the first back that is alike. The reference: the first back that is alike.
-/
import Derived.Test.YtbcbaaapogejiaaDoorRefF
import Derived.Test.YtbcbaaapogejiaaDoorCelC
import Derived.Test.YtbcbaaapogejiaaDoorMathE
namespace Go.Proofs.YtbcbaaapogejiaaDoor
open Go.RowKit

theorem cmpL_eq {a : Int} {l m : List Int} : cmpL (a :: l) (a :: m) = cmpL l m := by simp [cmpL]
theorem cmpL_ne {a b : Int} (h : a ≠ b) {l m : List Int} : decide (cmpL (a :: l) (b :: m) < 0) = decide (a < b) := by
  unfold cmpL
  by_cases h1 : a < b
  · rw [if_pos h1, decide_eq_true h1]; rfl
  · rw [if_neg h1, if_pos (by omega), decide_eq_false h1]; rfl

set_option maxRecDepth 100000 in
theorem refBefore_any (A D : Option Addr) (c d : Nat) (l m : List Int) (w : World) (hl : l.length < 1000000) (hlm : m.length = l.length) (B : Nat) (hA : IntsAt w B A l) (hD : IntsAt w B D m) :
    Calls Tryd.prog 81 #[.slice A l.length c, .slice D l.length d] w fun e w' => e = .returned (.bool (decide (cmpL l m < 0))) ∧ ∃ q, w' = w.drewN q := by
  obtain ⟨V, hV⟩ : ∃ V, V = decide (cmpL l m < 0) := ⟨_, rfl⟩
  rw [← hV]
  have HV := Lib.hid hV
  have HLM := Lib.hid hlm
  have HA := Lib.hid hA
  have HD := Lib.hid hD
  clear hlm hA hD hV
  go_enter Tryd.func81, Tryd.ntmps81
  go_wp2
  go_loopw [5] (fun i wr => ∃ k : Nat, k ≤ l.length ∧ i = .int .i64 k ∧ Hid (cmpL l m = cmpL (l.drop k) (m.drop k)) ∧ ∃ q, wr = w.drewN q) (fun i _ => l.length - (intOf i).toNat)
  case atStart => exact ⟨0, Nat.zero_le _, rfl, Lib.hid rfl, 0, rfl⟩
  case round =>
    obtain ⟨k, hk, rfl, HK, q, rfl⟩ := hrel
    by_cases hlt : k < l.length
    · have hlt2 : k < m.length := by have := HLM.out; omega
      have hx : l[k]? = some l[k] := List.getElem?_eq_getElem hlt
      have hy : m[k]? = some m[k] := List.getElem?_eq_getElem hlt2
      have e1 := HK.out
      rw [drop_cons hx, drop_cons hy] at e1
      generalize l[k] = x at *
      generalize m[k] = y at *
      obtain ⟨b1, o1, rfl, hb1, g1⟩ := HA.out k x hx
      obtain ⟨b2, o2, rfl, hb2, k1⟩ := HD.out k y hy
      have hki : (k : Int) < (l.length : Int) := by omega
      have hk0 : (0 : Int) ≤ (k : Int) := by omega
      by_cases hxy : x = y
      · rw [hxy, cmpL_eq] at e1
        have HT := Lib.hid e1
        have hne : (x != y) = false := by simp [hxy]
        clear hx hy hxy hlt2 e1
        go_wp2
        go_quiet (fail)
        go_wp2
        go_roundw
        case rel => exact ⟨k + 1, by omega, by go_num, HT, _, by first | rfl | exact World.drewN_drewN _ _ _⟩
        case measure => simp [intOf]; omega
      · have HT := Lib.hid (show V = decide (x < y) by rw [HV.out, e1]; exact cmpL_ne hxy)
        have hne : (x != y) = true := by simp [hxy]
        clear hx hy hxy hlt2 e1
        go_wp2
        go_quiet (fail)
        go_wp2
        go_quiet (fail)
        go_wp2
        go_ret
        exact ⟨by rw [HT.out]; rfl, _, by first | rfl | exact World.drewN_drewN _ _ _ | (rw [World.drewN_drewN]; exact World.drewN_drewN _ _ _)⟩
    · have HE := Lib.hid (show V = false by
        have e1 := HK.out
        rw [List.drop_of_length_le (by omega), List.drop_of_length_le (by have := HLM.out; omega)] at e1
        rw [HV.out, e1]; rfl)
      have hki : ¬ (k : Int) < (l.length : Int) := by omega
      go_wp2
      go_ret
      exact ⟨by rw [HE.out]; rfl, q, rfl⟩

theorem own_zero (W : World) (base : Nat) (h : base ≤ W.heap.size) : (W.alloc (.cells #[] 3)).ownsRow base 3 1 (.slice (some ⟨W.heap.size, 0, none⟩) 0 0) 0 (([] : List Int).map (Value.int .i64)) :=
  ⟨rfl, .inr ⟨W.heap.size, 0, #[], rfl, h, heap_alloc_new W _, Nat.le_refl _, by decide, rfl, rfl⟩⟩

set_option maxRecDepth 100000 in
set_option maxHeartbeats 2000000 in
theorem refFirst0_ok (p : Pr) (hp : p.Ok) (A X : Option Addr) (c xc : Nat) (b : List Int) (w : World) (hT : IntsAt w w.heap.size A (intsN p.T)) (hX : IntsAt w w.heap.size X b) (hb : BackOk p b) :
    Calls Tryd.prog 80 #[.agg #[.int .i64 p.R, .int .i64 p.C, .int .i64 p.K, .slice A p.T.length c], .slice X b.length xc] w (RetInts w (minF b (p.imgs b))) := by
  have hb1 := below_new w (.cells #[.int .i64 p.R, .int .i64 p.C, .int .i64 p.K, .slice A p.T.length c] 32)
  have hc1 := own_cells4 w (.int .i64 p.R) (.int .i64 p.C) (.int .i64 p.K) (.slice A p.T.length c) 32
  have hz1 : w.heap.size < (w.alloc (.cells #[.int .i64 p.R, .int .i64 p.C, .int .i64 p.K, .slice A p.T.length c] 32)).heap.size := by simp
  have hl8 := hp.len
  have hn16 := hp.n16
  have hbl := Lib.hid hb.1
  have hb16 : b.length ≤ 16 := by have := hb.1; omega
  have HTd := Lib.hid (fun W t h ht => refTd p hp A X c xc t b W h hb ht)
  have HML := Lib.hid (minF_len (p := p) hb.1)
  have hX1 := hX.up hb1
  have HXX := Lib.hid hX
  have HTT := Lib.hid hT
  clear hp hb hX hT
  go_enter Tryd.func80, Tryd.ntmps80
  go_upto_region 2 with fail
  generalize w.alloc (.cells #[.int .i64 p.R, .int .i64 p.C, .int .i64 p.K, .slice A p.T.length c] 32) = w4 at *
  have HH := Lib.hid (fun (W : World) (h : Below w4.heap.size w4 W) => show W.cell? ⟨w.heap.size, 0, none⟩ = some (.int .i64 p.R) ∧ W.cell? ⟨w.heap.size, 1, none⟩ = some (.int .i64 p.C) ∧ W.cell? ⟨w.heap.size, 2, none⟩ = some (.int .i64 p.K) ∧ W.cell? ⟨w.heap.size, 3, none⟩ = some (.slice A p.T.length c) from
    ⟨(h.cell (p := ⟨w.heap.size, 0, none⟩) hz1).trans hc1.1, (h.cell (p := ⟨w.heap.size, 1, none⟩) hz1).trans hc1.2.1, (h.cell (p := ⟨w.heap.size, 2, none⟩) hz1).trans hc1.2.2.1, (h.cell (p := ⟨w.heap.size, 3, none⟩) hz1).trans hc1.2.2.2⟩)
  clear hc1
  go_wp2
  go_loopw [5, 6] (fun v i wr => ∃ (k : Nat) (D : Option Addr) (d : Nat), k ≤ p.T.length ∧ i = .int .i64 k ∧ v = .slice D b.length d ∧ IntsAt wr wr.heap.size D (minF b ((p.imgs b).take k)) ∧ Below w4.heap.size w4 wr) (fun _ i _ => p.T.length - (intOf i).toNat)
  case atStart => exact ⟨0, X, xc, Nat.zero_le _, rfl, rfl, hX1, Below.refl _ _⟩
  case round =>
    obtain ⟨k, D, d, hk, rfl, rfl, hD, hbr⟩ := hrel
    have hbwr := hb1.trans (hbr.mono hb1.size)
    obtain ⟨p0, p1, p2, p3⟩ := HH.out _ hbr
    have HF := Lib.hid hbwr
    by_cases hlt : k < p.T.length
    · have hx : p.T[k]? = some p.T[k] := List.getElem?_eq_getElem hlt
      have hmem := mem_of_get hx
      have HS := Lib.hid (show minF b ((p.imgs b).take (k + 1)) = if cmpL (tdL (srcs p.R p.C (mv p.T[k])) b) (minF b ((p.imgs b).take k)) < 0 then tdL (srcs p.R p.C (mv p.T[k])) b else minF b ((p.imgs b).take k) by
        rw [take_snoc (imgs_get hx), minF_snoc])
      obtain ⟨tb, tf, rfl, htb, dt⟩ := (HTT.out.up hbwr) k _ (intsN_get hx)
      clear hx
      generalize p.T[k] = t at *
      have hki : (k : Int) < (p.T.length : Int) := by omega
      have hk0 : (0 : Int) ≤ (k : Int) := by omega
      have hwz : w.heap.size < wr.heap.size := Nat.lt_of_lt_of_le hz1 hbr.size
      have HKK := Lib.hid (fun (W : World) (h : Below wr.heap.size wr W) => show Below wr.heap.size wr W ∧ W.cell? ⟨w.heap.size, 0, none⟩ = some (.int .i64 p.R) ∧ W.cell? ⟨w.heap.size, 1, none⟩ = some (.int .i64 p.C) ∧ W.cell? ⟨w.heap.size, 2, none⟩ = some (.int .i64 p.K) ∧ W.cell? ⟨w.heap.size, 3, none⟩ = some (.slice (some ⟨tb, tf, none⟩) p.T.length c) ∧ W.cell? ⟨tb, tf + k, none⟩ = some (.int .i64 t) from
        ⟨h, (h.cell (p := ⟨w.heap.size, 0, none⟩) hwz).trans p0, (h.cell (p := ⟨w.heap.size, 1, none⟩) hwz).trans p1, (h.cell (p := ⟨w.heap.size, 2, none⟩) hwz).trans p2, (h.cell (p := ⟨w.heap.size, 3, none⟩) hwz).trans p3, (h.cell (p := ⟨tb, _, none⟩) htb).trans dt⟩)
      have HLt := Lib.hid (td_len p t b)
      have X70 := Lib.hid (fun W (Q : Ending → World → Prop) (h : Below wr.heap.size wr W) (hQ : ∀ D d w', IntsAt w' w'.heap.size D (tdL (srcs p.R p.C (mv t)) b) → Below wr.heap.size wr w' → Q (.returned (.slice D b.length d)) w') =>
        (HTd.out W t ((HXX.out.up hbwr).up h) hmem).mono fun e w' ⟨D, d, he, hi, hb, _⟩ => by rw [he, HLt.out, ← hbl.out]; exact hQ D d w' hi (h.trans (hb.mono h.size)))
      have hbd := (Below.refl wr.heap.size wr).drew
      have hMk := HML.out k
      have HD := Lib.hid (fun W (h : Below wr.heap.size wr W) => hD.up h)
      have HLn := Lib.hid (show (tdL (srcs p.R p.C (mv t)) b).length = b.length from HLt.out.trans hbl.out.symm)
      generalize minF b ((p.imgs b).take k) = m at *
      generalize tdL (srcs p.R p.C (mv t)) b = l at *
      have HM := Lib.hid hMk
      have X81 := Lib.hid (fun E e W (Q : Ending → World → Prop) (hE : IntsAt W W.heap.size E l) (h : Below wr.heap.size wr W) (hQ : ∀ w', Below wr.heap.size wr w' → Q (.returned (.bool (decide (cmpL l m < 0)))) w') =>
        (show Calls Tryd.prog 81 #[.slice E b.length e, .slice D b.length d] W Q from HLn.out ▸ ((refBefore_any E D e d l m W (by rw [HLn.out]; omega) (HM.out.trans HLn.out.symm) _ hE (HD.out W h)).mono fun e w' ⟨he, q, hq⟩ => by rw [he, hq]; exact hQ _ (below_drewN h q))))
      clear hMk HML
      by_cases hin : cmpL l m < 0
      · rw [decide_eq_true hin] at X81
        have e1 := HS.out
        rw [if_pos hin] at e1
        have HN := Lib.hid e1
        clear hin dt e1 HS hD
        go_upto_region 5 with (fail)
        clear p0 p1 p2 p3
        go_region_held3 (fun W => Below wr.heap.size wr W ∧ W.cell? ⟨w.heap.size, 0, none⟩ = some (.int .i64 p.R) ∧ W.cell? ⟨w.heap.size, 1, none⟩ = some (.int .i64 p.C) ∧ W.cell? ⟨w.heap.size, 2, none⟩ = some (.int .i64 p.K) ∧ W.cell? ⟨w.heap.size, 3, none⟩ = some (.slice (some ⟨tb, tf, none⟩) p.T.length c) ∧ W.cell? ⟨tb, tf + k, none⟩ = some (.int .i64 t))
          (exact HKK.out _ (by assumption))
          (first
            | (go_at_call 70; with_reducible refine X70.out _ _ (by assumption) ?_; intro D5 d5 w5 hI5 hb5)
            | (go_at_call 81; with_reducible refine X81.out _ _ _ _ (by assumption) (by assumption) ?_; intro w6 hb6))
        have hb6d : Below wr.heap.size wr w6.drew := hb6.drew
        clear hb5 hbd hI5
        go_upto_region 6 with (fail)
        go_region_held3 (fun W => Below wr.heap.size wr W ∧ W.cell? ⟨w.heap.size, 0, none⟩ = some (.int .i64 p.R) ∧ W.cell? ⟨w.heap.size, 1, none⟩ = some (.int .i64 p.C) ∧ W.cell? ⟨w.heap.size, 2, none⟩ = some (.int .i64 p.K) ∧ W.cell? ⟨w.heap.size, 3, none⟩ = some (.slice (some ⟨tb, tf, none⟩) p.T.length c) ∧ W.cell? ⟨tb, tf + k, none⟩ = some (.int .i64 t))
          (exact HKK.out _ (by assumption))
          (first
            | (go_at_call 70; with_reducible refine X70.out _ _ (by assumption) ?_; intro D7 d7 w7 hI7 hb7))
        all_goals
          go_wp2
          go_roundw
          case rel => exact ⟨k + 1, D7, d7, by omega, by go_num, rfl, by rw [HN.out]; exact hI7, hbr.trans (Below.mono hb7 hbr.size)⟩
          case measure => simp [intOf]; omega
      · rw [decide_eq_false hin] at X81
        have e1 := HS.out
        rw [if_neg hin] at e1
        have HN := Lib.hid e1
        clear hin dt e1 HS hD
        go_upto_region 5 with (fail)
        clear p0 p1 p2 p3
        go_region_held3 (fun W => Below wr.heap.size wr W ∧ W.cell? ⟨w.heap.size, 0, none⟩ = some (.int .i64 p.R) ∧ W.cell? ⟨w.heap.size, 1, none⟩ = some (.int .i64 p.C) ∧ W.cell? ⟨w.heap.size, 2, none⟩ = some (.int .i64 p.K) ∧ W.cell? ⟨w.heap.size, 3, none⟩ = some (.slice (some ⟨tb, tf, none⟩) p.T.length c) ∧ W.cell? ⟨tb, tf + k, none⟩ = some (.int .i64 t))
          (exact HKK.out _ (by assumption))
          (first
            | (go_at_call 70; with_reducible refine X70.out _ _ (by assumption) ?_; intro D5 d5 w5 hI5 hb5)
            | (go_at_call 81; with_reducible refine X81.out _ _ _ _ (by assumption) (by assumption) ?_; intro w6 hb6))
        have HD6 := Lib.hid (HD.out w6 hb6)
        go_wp2
        go_roundw
        case rel => exact ⟨k + 1, D, d, by omega, by go_num, rfl, by rw [HN.out]; exact HD6.out, hbr.trans (Below.mono hb6 hbr.size)⟩
        case measure => simp [intOf]; omega
    · have hki : ¬ (k : Int) < (p.T.length : Int) := by omega
      have hMk := HML.out k
      rw [List.take_of_length_le (by rw [imgs_size]; omega)] at hD hMk
      have HM := Lib.hid hMk
      generalize minF b (p.imgs b) = m at *
      have hs := hbwr.size
      clear hMk HML
      go_wp2_with (at_builtin; go_must (refine wpList_append_ints _ rfl _ _ rfl w.heap.size 0 _ [] m rfl (own_zero wr w.heap.size hs) D d (by rw [HM.out]; rfl) (hD.up (below_new _ _)) (by rw [HM.out]; omega) (by simp; omega) ?_); intro v4 w7 hown4 hb4)
      obtain ⟨A4, c4, rfl, hA4, hl4, hge4⟩ := own_ints (l := m) (by simpa using hown4)
      have hlt4 := hown4.lt
      go_ret
      exact ⟨A4, c4, by rfl, hA4, (hbwr.alloc hbwr.size _).trans hb4, fun ad had => by subst had; exact ⟨(hge4 _ rfl).1, (hlt4 _ rfl).2⟩⟩
end Go.Proofs.YtbcbaaapogejiaaDoor
