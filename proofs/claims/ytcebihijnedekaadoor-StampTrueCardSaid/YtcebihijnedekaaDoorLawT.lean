/-
  The walk of the statement that each number of a span occurs: it answers true.
-/
import Derived.Test.YtcebihijnedekaaDoorOutB
import Derived.Test.YtcebihijnedekaaDoorHouseB
import Derived.Test.YtcebihijnedekaaDoorMathI
namespace Go.Proofs.YtcebihijnedekaaDoor
open Go.RowKit

theorem spansS_mapO (rooms : Nat) (ws : List Wy) : spansS rooms ws = ws.map (spanS rooms ws) := by
  refine List.ext_getElem? fun i => ?_
  unfold spansS
  rw [List.getElem?_map]
  cases hx : ws[i]? with
  | some x => rw [spK_get rooms ws _ i x (lt_of_get hx) hx]; rfl
  | none =>
    have : ws.length ≤ i := by simpa using hx
    rw [List.getElem?_eq_none (by rw [spK_len]; exact this)]; rfl

def RetPairsN (w : World) (n : Nat) (l : List (Int × Int)) (er : Int) (e : Ending) (w' : World) : Prop := ∃ A c, e = .returned (.tuple #[.slice A n c, .int .i64 er]) ∧ PairsAt w' w'.heap.size A l ∧ Below w.heap.size w w'

theorem pairsUp {w w' : World} {A : Option Addr} {l : List (Int × Int)} (h : PairsAt w w.heap.size A l) (hb : Below w.heap.size w w') : PairsAt w' w'.heap.size A l := (h.below hb (Nat.le_refl _)).mono hb.size

theorem run_idx5_0 (b0 b1 b2 b3 b4 : Bool) (W : World) : (Instr.index 71 (.agg #[.bool b0, .bool b1, .bool b2, .bool b3, .bool b4]) (.int .i64 0)).run Tryd.prog W = .ok (.bool b0) W := by kernel_rfl
theorem run_idx5_1 (b0 b1 b2 b3 b4 : Bool) (W : World) : (Instr.index 71 (.agg #[.bool b0, .bool b1, .bool b2, .bool b3, .bool b4]) (.int .i64 1)).run Tryd.prog W = .ok (.bool b1) W := by kernel_rfl
theorem run_idx5_2 (b0 b1 b2 b3 b4 : Bool) (W : World) : (Instr.index 71 (.agg #[.bool b0, .bool b1, .bool b2, .bool b3, .bool b4]) (.int .i64 2)).run Tryd.prog W = .ok (.bool b2) W := by kernel_rfl
theorem run_idx5_3 (b0 b1 b2 b3 b4 : Bool) (W : World) : (Instr.index 71 (.agg #[.bool b0, .bool b1, .bool b2, .bool b3, .bool b4]) (.int .i64 3)).run Tryd.prog W = .ok (.bool b3) W := by kernel_rfl
theorem run_idx5_4 (b0 b1 b2 b3 b4 : Bool) (W : World) : (Instr.index 71 (.agg #[.bool b0, .bool b1, .bool b2, .bool b3, .bool b4]) (.int .i64 4)).run Tryd.prog W = .ok (.bool b4) W := by kernel_rfl

set_option maxRecDepth 100000 in
set_option maxHeartbeats 8000000 in
theorem lawTrue_any (w : World) (q : Int) (A : Option Addr) (c : Nat) (hs : List H4) (hq : 0 ≤ q ∧ q ≤ 255) (hok : ∀ h ∈ hs, okH h) (hw : HouseAt w w.heap.size A hs) (ht : SizesAt w) :
    Calls Tryd.prog 9 #[.agg #[.int .u8 q, .slice A hs.length c]] w fun e w' => e = .returned (.bool true) ∧ Below w.heap.size w w' := by
  have hw1 := fun o => (hw.below ((Below.refl w.heap.size w).alloc (Nat.le_refl _) o) (Nat.le_refl _)).mono (B' := (w.alloc o).heap.size) (by simp)
  have ht1 := fun o => ht.alloc o
  have HM := Lib.hid (fun W hW => made_any q hq A c 5 hs W (by decide) hok hW)
  obtain ⟨rooms, hR, _, hr4, hch, hv, hsd, hwd⟩ := chk_made (r := q) (hs := hs) (most := 5) hok (by decide)
  rw [hR] at HM
  have hl5 := madeS_len q hs 5
  have hlim := madeS_all (r := q) (most := 5) hok
  generalize madeS q hs 5 = ws at HM hch hv hsd hwd hl5 hlim
  have HF := Lib.hid (fun A' c' W hW => flows_any rooms A' c' ws W hv hsd hwd hl5 hW)
  have hN : (flowsS ws).length ≤ 1024 := Nat.le_trans (putS_len hwd ws.length []) (Nat.le_trans (Nat.pow_le_pow_right (by decide) hl5) (by decide))
  have HSP := Lib.hid (fun A' c' W hW hT => spans_any rooms A' c' ws W hW hT)
  have HOP := Lib.hid (fun A' c' W hW hT => open_any rooms A' c' ws W hW hT)
  have hfa : agrS rooms ws = true ↔ (flowsS ws) ≠ [] := by
    rw [agrS_iff hv.inW]
    constructor
    · intro ha; obtain ⟨t, e⟩ := flowsS_head hv ha; rw [e]; simp
    · intro h
      obtain ⟨fl, hfl⟩ := List.exists_mem_of_ne_nil _ h
      exact agr_of_flow hv.inW ((flowsS_mem hv fl).1 hfl)
  cases hag : agrS rooms ws
  · have hz : flowsS ws = [] := by
      by_cases h : flowsS ws = []
      · exact h
      · rw [hfa.2 h] at hag; cases hag
    have e1 : spsS rooms ws = ([], 12) := by
      unfold spsS chkA
      rw [hch, show ((rooms : Int).toNat) = rooms from rfl, hag]
      rfl
    have e2 : opnS rooms ws = ([], 12) := by
      unfold opnS
      rw [e1]; rfl
    rw [e1] at HSP
    rw [e2] at HOP
    rw [hz] at HF
    clear hw ht hok hR hch hv hsd hwd hN hfa hag hz e1 e2 hlim
    go_enter Tryd.func9, Tryd.ntmps9
    go_wp2_with (first
      | (go_at_call 44; refine (HM.out _ (hw1 _)).mono ?_; rintro e w1 ⟨A1, c1, rfl, hA1, hb1⟩; have hs1 := hb1.size; simp only [World.size_alloc] at hs1; have ht2 := ((ht1 _).below hb1).below (bnew w1 (.cells #[.int .i64 rooms, .slice A1 ws.length c1] 24)); have hA1' := waysUp hA1 (bnew w1 (.cells #[.int .i64 rooms, .slice A1 ws.length c1] 24)))
      | (go_at_call 45; refine (HF.out A1 c1 _ hA1').mono ?_; rintro e w2 ⟨A2, c2, rfl, hL2, hb2⟩; have hs2 := hb2.size; simp only [World.size_alloc] at hs2; have ht3 := ht2.below hb2; have hA2 := waysUp hA1' hb2; have e0 : w2.cell? ⟨w1.heap.size, 0, none⟩ = some (.int .i64 rooms) := ((hb2.cell (p := ⟨w1.heap.size, 0, none⟩) (by simp)).trans (by simp [go_sem])); have e1 : w2.cell? ⟨w1.heap.size, 1, none⟩ = some (.slice A1 ws.length c1) := ((hb2.cell (p := ⟨w1.heap.size, 1, none⟩) (by simp)).trans (by simp [go_sem])); have hz1 : w1.heap.size < w2.heap.size := (by omega))
      | (go_at_call 35; refine (HSP.out A1 c1 _ hA2 ht3).mono ?_; rintro e w3 ⟨A3, c3, rfl, hP3, hb3⟩; have hs3 := hb3.size; have ht4 := ht3.below hb3; have hA3 := waysUp hA2 hb3; have f0 := (hb3.cell (p := ⟨w1.heap.size, 0, none⟩) hz1).trans e0; have f1 := (hb3.cell (p := ⟨w1.heap.size, 1, none⟩) hz1).trans e1)
      | (go_at_call 37; refine (HOP.out A1 c1 _ hA3 ht4).mono ?_; rintro e w4 ⟨A4, c4, rfl, hi4, hb4⟩; have hs4 := hb4.size; have ht5 := ht4.below hb4)
      | (go_at_call 16; refine (works_any _ ht5).mono ?_; rintro e w5 ⟨rfl, hb5⟩))
    go_ret
    exact ⟨rfl, ((Below.refl _ _).alloc (Nat.le_refl _) _).trans ((hb1.mono (by simp)).trans (((bnew w1 _).mono (by omega)).trans ((hb2.mono (by simp; omega)).trans ((hb3.mono (by omega)).trans ((hb4.mono (by omega)).trans (hb5.mono (by omega)))))))⟩
  have ha := (agrS_iff hv.inW).1 hag
  have hne := hfa.1 hag
  have hpos : 0 < (flowsS ws).length := List.length_pos_iff.2 hne
  obtain ⟨sp, hsp⟩ : ∃ sp, sp = ws.map (spanS rooms ws) := ⟨_, rfl⟩
  have hspl : sp.length = ws.length := by rw [hsp, List.length_map]
  have e1 : spsS rooms ws = (sp, 0) := by
    unfold spsS chkA
    rw [hch, show ((rooms : Int).toNat) = rooms from rfl, hag, hsp, ← spansS_mapO]
    rfl
  have e2 : opnS rooms ws = (openK sp ws.length, 0) := by
    unfold opnS
    rw [e1]
    dsimp only
    rw [if_pos rfl, hspl]
  have HSN : Hid (∀ A' c' W, WaysAt W W.heap.size A' ws → SizesAt W → Calls Tryd.prog 35 #[.agg #[.int .i64 rooms, .slice A' ws.length c']] W (RetPairsN W ws.length sp 0)) := Lib.hid (fun A' c' W hW hT => by
    have h := HSP.out A' c' W hW hT
    rw [e1] at h
    exact h.mono fun e w' ⟨A, c, h1, h2, h3⟩ => ⟨A, c, by rw [h1, hspl], h2, h3⟩)
  rw [e2] at HOP
  have HS33 : Hid (∀ (i : Nat) (x : Wy) A' c' W, ws[i]? = some x → WaysAt W W.heap.size A' ws → SizesAt W → Calls Tryd.prog 33 #[.agg #[.int .i64 rooms, .slice A' ws.length c'], .int .i64 (i : Nat)] W fun e w' => e = .returned (.tuple #[.int .i64 (spanS rooms ws x).1, .int .i64 (spanS rooms ws x).2, .int .i64 0]) ∧ Below W.heap.size W w') := Lib.hid (fun i x A' c' W hx hW hT => by
    have h := span33_any rooms i A' c' ws W hW hT
    have e3 : spnS rooms ws i = ((spanS rooms ws x).1, (spanS rooms ws x).2, 0) := by
      have hl := lt_of_get hx
      have hcn : chkN rooms ws i = 0 := by unfold chkN; rw [if_pos hch, if_neg (by omega)]
      unfold spnS
      rw [if_pos hcn, show ((rooms : Int).toNat) = rooms from rfl, show ((i : Int).toNat) = i from rfl, if_pos hag, hx]
    rw [e3] at h
    exact h)
  have HHB := Lib.hid (fun i x n hx => hasB_all hv ha (i := i) (x := x) hx n)
  have HSPI := Lib.hid (fun (i : Nat) (x : Wy) (hx : ws[i]? = some x) => span_in (rooms := rooms) hx ha hv.okW)
  have HSPG : Hid (∀ (i : Nat) (x : Wy), ws[i]? = some x → sp[i]? = some (spanS rooms ws x)) := Lib.hid (fun i x hx => by rw [hsp, List.getElem?_map, hx]; rfl)
  have HOA := Lib.hid (fun (i : Nat) (p : Int × Int) (hp : sp[i]? = some p) (hne : p.1 ≠ p.2) => openK_at hp hne)
  rw [hspl] at HOA
  have HOK1 : Hid (∀ (i : Nat) (p : Int × Int), sp[i]? = some p → openK sp (i + 1) = if p.1 = p.2 then openK sp i else openK sp i ++ [(i : Int)]) := Lib.hid (fun i p hp => by rw [openK, hp])
  have HONE : Hid ((openK sp ws.length).length = 0 ↔ (flowsS ws).length = 1) := Lib.hid (by
    have := open_one hv ha
    rw [← hsp] at this
    rw [← this]
    exact List.length_eq_zero_iff)
  have HOKL := Lib.hid (fun k => openK_len sp k)
  have HBND : Hid (∀ fl ∈ flowsS ws, ∀ (i : Nat) (x : Wy) (f : Int), ws[i]? = some x → fl[i]? = some f → 0 ≤ f ∧ f ≤ 4) := Lib.hid (fun fl hm i x f hx hf => by
    have h1 := ((flowsS_mem hv fl).1 hm).1.2 i x f hx hf
    have h2 := hlim x (mem_of_get hx)
    omega)
  have HLEN : Hid (∀ fl ∈ flowsS ws, fl.length = ws.length) := Lib.hid (fun fl hm => flows_len hv hm)
  generalize flowsS ws = all at HF hN hpos HHB HONE HBND HLEN
  generalize spanS rooms ws = S at HS33 HHB HSPI HSPG
  clear hw ht hok hR hch hv hsd hwd hfa hag ha hne hsp e1 e2 HSP hlim
  have hall0 : ((all.length : Int) == 0) = false := by simpa using (by omega : ¬ (all.length : Int) = 0)
  go_enter Tryd.func9, Tryd.ntmps9
  go_wp2_with (first
    | (go_at_call 44; refine (HM.out _ (hw1 _)).mono ?_; rintro e w1 ⟨A1, c1, rfl, hA1, hb1⟩; have hs1 := hb1.size; simp only [World.size_alloc] at hs1; have ht2 := ((ht1 _).below hb1).below (bnew w1 (.cells #[.int .i64 rooms, .slice A1 ws.length c1] 24)); have hA1' := waysUp hA1 (bnew w1 (.cells #[.int .i64 rooms, .slice A1 ws.length c1] 24)))
    | (go_at_call 45; refine (HF.out A1 c1 _ hA1').mono ?_; rintro e w2 ⟨A2, c2, rfl, hL2, hb2⟩; have hs2 := hb2.size; simp only [World.size_alloc] at hs2; have ht3 := ht2.below hb2; have hA2 := waysUp hA1' hb2; have e0 : w2.cell? ⟨w1.heap.size, 0, none⟩ = some (.int .i64 rooms) := ((hb2.cell (p := ⟨w1.heap.size, 0, none⟩) (by simp)).trans (by simp [go_sem])); have e1 : w2.cell? ⟨w1.heap.size, 1, none⟩ = some (.slice A1 ws.length c1) := ((hb2.cell (p := ⟨w1.heap.size, 1, none⟩) (by simp)).trans (by simp [go_sem])); have hz1 : w1.heap.size < w2.heap.size := (by omega))
    | (go_at_call 35; refine (HSN.out A1 c1 _ hA2 ht3).mono ?_; rintro e w3 ⟨A3, c3, rfl, hP3, hb3⟩; have hs3 := hb3.size; have ht4 := ht3.below hb3; have hA3 := waysUp hA2 hb3; have f0 := (hb3.cell (p := ⟨w1.heap.size, 0, none⟩) hz1).trans e0; have f1 := (hb3.cell (p := ⟨w1.heap.size, 1, none⟩) hz1).trans e1; have hz3 : w1.heap.size < w3.heap.size := (by omega))
    | (go_at_call 37; refine (HOP.out A1 c1 _ hA3 ht4).mono ?_; rintro e w4 ⟨A4, c4, rfl, hi4, hb4⟩; have hs4 := hb4.size; have ht5 := ht4.below hb4; have k0 := (hb4.cell (p := ⟨w1.heap.size, 0, none⟩) hz3).trans f0; have k1 := (hb4.cell (p := ⟨w1.heap.size, 1, none⟩) hz3).trans f1; have hz4 : w1.heap.size < w4.heap.size := (by omega)))
  have hb04 : Below w.heap.size w w4 := ((Below.refl _ _).alloc (Nat.le_refl _) _).trans ((hb1.mono (by simp)).trans (((bnew w1 _).mono (by omega)).trans ((hb2.mono (by simp; omega)).trans ((hb3.mono (by omega)).trans (hb4.mono (by omega))))))
  have hA4 := waysUp hA3 hb4
  have hP4 := pairsUp hP3 hb4
  have hL4 := (hL2.up hb3).up hb4
  have hws4 : w.heap.size ≤ w4.heap.size := by omega
  clear hb1 hb2 hb3 hb4 hs1 hs2 hs3 hs4 hw1 ht1 ht2 ht3 ht4 hA1 hA1' hA2 hA3 hP3 hL2 e0 e1 f0 f1 hz1 hz3 HM HF HSN HOP
  generalize w1.heap.size = g at *
  go_loopw [9, 70] (fun at_ u wr => ∃ i : Nat, i ≤ ws.length ∧ u = .int .i64 (i : Nat) ∧ at_ = .int .i64 ((openK sp i).length : Nat) ∧ Below w4.heap.size w4 wr) (fun _ u _ => ws.length - (intOf u).toNat)
  case atStart => exact ⟨0, Nat.zero_le _, rfl, rfl, Below.refl _ _⟩
  case round =>
    obtain ⟨i, hi, rfl, rfl, hbw⟩ := hrel
    obtain ⟨w5, rfl⟩ : ∃ w5, w5 = wr := ⟨_, rfl⟩
    have d0 := (hbw.cell (p := ⟨g, 0, none⟩) hz4).trans k0
    have d1 := (hbw.cell (p := ⟨g, 1, none⟩) hz4).trans k1
    have hsw := hbw.size
    have hz5 : g < w5.heap.size := by omega
    have hA5 := waysUp hA4 hbw
    have hP5 := pairsUp hP4 hbw
    have hL5 := hL4.up hbw
    have hI5 := upiF hi4 hbw
    have ht6 := ht5.below hbw
    have hokl := HOKL.out i
    by_cases hlt : i < ws.length
    · have hx : ws[i]? = some ws[i] := List.getElem?_eq_getElem hlt
      generalize ws[i] = x at hx
      have hspg := HSPG.out i x hx
      have hspi := HSPI.out i x hx
      have H33 := Lib.hid (fun A' c' W hW hT => HS33.out i x A' c' W hx hW hT)
      have HB := Lib.hid (fun n => HHB.out i x n hx)
      have hok1 := HOK1.out i _ hspg
      have hoa := HOA.out i _ hspg
      have HBN := Lib.hid (fun fl hm f hf => HBND.out fl hm i x f hx hf)
      generalize hS : S x = P at hspg hspi H33 HB hok1 hoa
      obtain ⟨P1, P2⟩ := P
      dsimp only at hspi H33 HB hok1 hoa
      have HOK2 := Lib.hid hok1
      have HOA2 := Lib.hid hoa
      have hii : (i : Int) < (ws.length : Int) := by omega
      have hi0 : (0 : Int) ≤ (i : Int) := by omega
      clear hS HSPG HSPI HS33 HHB HOK1 HOA HBND k0 k1 hi4 hA4 hP4 hL4 ht5 hok1 hoa hx
      go_wp2_with fail
      obtain ⟨W1, hW1⟩ : ∃ W1, W1 = w5.alloc (.cells #[.bool false, .bool false, .bool false, .bool false, .bool false] 71) := ⟨_, rfl⟩
      have hz1' : W1.heap.size = w5.heap.size + 1 := by rw [hW1]; simp
      have hbW1 : Below w5.heap.size w5 W1 := by rw [hW1]; exact (Below.refl _ _).alloc (Nat.le_refl _) _
      have hf0 : ∀ r : Nat, r < 5 → W1.frozen? ⟨w5.heap.size, r, none⟩ = false := by intro r _; rw [hW1]; simp [go_sem]
      have ha0 : ∀ r : Nat, r < 5 → W1.cell? ⟨w5.heap.size, r, none⟩ = some (.bool (hasB all i 0 (r : Nat))) := by
        intro r hr
        rw [hW1]
        have e : hasB all i 0 (r : Nat) = false := by unfold hasB; simp
        rw [e]
        match r, hr with
        | 0, _ | 1, _ | 2, _ | 3, _ | 4, _ => simp [go_sem]
      rw [← hW1]
      clear hW1
      go_loopw [75] (fun u wr => ∃ k : Nat, k ≤ all.length ∧ u = .int .i64 (k : Nat) ∧ (∀ r : Nat, r < 5 → wr.cell? ⟨w5.heap.size, r, none⟩ = some (.bool (hasB all i k (r : Nat)))) ∧ W1.grownBy wr (some w5.heap.size) ∧ (∀ r : Nat, r < 5 → wr.frozen? ⟨w5.heap.size, r, none⟩ = false)) (fun u _ => all.length - (intOf u).toNat)
      case atStart => exact ⟨0, Nat.zero_le _, rfl, ha0, World.grownBy.refl _ _, hf0⟩
      case round =>
        obtain ⟨k, hk, rfl, hcs, hgr, hfs⟩ := hrel
        have hgs := hgr.size
        have hbB : ∀ j, j < w5.heap.size → ∀ o, wr.cell? ⟨j, o, none⟩ = w5.cell? ⟨j, o, none⟩ := fun j hj o => (World.cell?_of_block (hgr.block j (by omega) (fun h => by injection h; omega))).trans (hbW1.cell (p := ⟨j, o, none⟩) hj)
        have hsz : w5.heap.size < wr.heap.size := by omega
        clear ha0 hf0
        by_cases hlk : k < all.length
        · have hkx : all[k]? = some all[k] := List.getElem?_eq_getElem hlk
          have hmem := List.mem_of_getElem? hkx
          have hfl := HLEN.out _ hmem
          generalize all[k] = fl at hkx hmem hfl
          have hyf : fl[i]? = some (fl[i]'(by omega)) := List.getElem?_eq_getElem (by omega)
          generalize fl[i]'(by omega) = f at hyf
          obtain ⟨f0, f4⟩ := HBN.out fl hmem f hyf
          obtain ⟨b3, o3, A6, c6, rfl, hb3, hc3, hi3, _⟩ := hL5 k fl hkx
          obtain ⟨b7, o7, rfl, hb7, h7⟩ := hi3 i f hyf
          have g3 := (hbB b3 hb3 _).trans hc3
          have g7 := (hbB b7 hb7 _).trans h7
          have hb3r : b3 < wr.heap.size := by omega
          have hb7r : b7 < wr.heap.size := by omega
          have hki : (k : Int) < (all.length : Int) := by omega
          have hk0 : (0 : Int) ≤ (k : Int) := by omega
          have hif : (i : Int) < (fl.length : Int) := by omega
          have HSU := Lib.hid (fun n => hasB_succ hkx hyf n)
          have c1 := hcs f.toNat (by omega)
          have e1 := hfs f.toNat (by omega)
          have HCS := Lib.hid hcs
          have HFS := Lib.hid hfs
          have HGR := Lib.hid hgr
          have f5 : f < 5 := by omega
          clear hcs hfs hgr hkx hmem hyf hbB hc3 h7 hi3 hfl
          go_wp2_with fail
          go_roundw
          case rel =>
            refine ⟨k + 1, hlk, by go_num, fun r hr => ?_, grown_setCell HGR.out rfl _, fun r hr => by simp [go_sem, HFS.out r hr]⟩
            rw [HSU.out]
            by_cases t1 : r = f.toNat
            · subst t1
              rw [Int.toNat_of_nonneg f0, decide_eq_true rfl, Bool.or_true]
              simp [go_sem, c1]
            · rw [decide_eq_false (by omega), Bool.or_false]
              simp [go_sem, HCS.out r hr]
          case measure => simp [intOf]; omega
        · have hke : k = all.length := by omega
          subst hke
          have B0 := hcs 0 (by omega)
          have B1 := hcs 1 (by omega)
          have B2 := hcs 2 (by omega)
          have B3 := hcs 3 (by omega)
          have B4 := hcs 4 (by omega)
          rw [HB.out] at B0 B1 B2 B3 B4
          obtain ⟨b8, o8, heq, hb8, hq1, hq2⟩ := hP5 i _ hspg
          subst heq
          dsimp only at hq1 hq2
          have hb56 : Below w5.heap.size w5 wr := hbW1.grown hgr (by omega) (fun j hj => by injection hj; omega)
          obtain ⟨w6, rfl⟩ : ∃ w6, w6 = wr := ⟨_, rfl⟩
          simp only [Int.cast_ofNat_Int] at B0 B1 B2 B3 B4
          generalize hv0 : decide (P1 ≤ 0 ∧ 0 ≤ P2) = v0 at B0
          generalize hv1 : decide (P1 ≤ 1 ∧ 1 ≤ P2) = v1 at B1
          generalize hv2 : decide (P1 ≤ 2 ∧ 2 ≤ P2) = v2 at B2
          generalize hv3 : decide (P1 ≤ 3 ∧ 3 ≤ P2) = v3 at B3
          generalize hv4 : decide (P1 ≤ 4 ∧ 4 ≤ P2) = v4 at B4
          have HV0 := Lib.hid hv0
          have HV1 := Lib.hid hv1
          have HV2 := Lib.hid hv2
          have HV3 := Lib.hid hv3
          have HV4 := Lib.hid hv4
          have HBB := Lib.hid hb56
          have hs56 := hb56.size
          have q1 := (hb56.cell (p := ⟨b8, _, none⟩) hb8).trans hq1
          have q2 := (hb56.cell (p := ⟨b8, _, none⟩) hb8).trans hq2
          have d0' := (hb56.cell (p := ⟨g, 0, none⟩) hz5).trans d0
          have d1' := (hb56.cell (p := ⟨g, 1, none⟩) hz5).trans d1
          have hA6 := waysUp hA5 hb56
          have hI6 := upiF hI5 hb56
          have ht7 := ht6.below hb56
          have hb86 : b8 < w6.heap.size := by omega
          have hz6 : g < w6.heap.size := by omega
          clear hcs hfs hgr hbB hv0 hv1 hv2 hv3 hv4 hq1 hq2 hP5 hL5 hA5 hI5 ht6 hbW1 hb56 hgs d0 d1 HBN
          go_wp2_with fail
          clear B0 B1 B2 B3 B4
          go_loopw [86] (fun u wz => ∃ n : Nat, n ≤ 5 ∧ u = .int .i64 (n : Nat) ∧ Below w6.heap.size w6 wz) (fun u _ => 5 - (intOf u).toNat)
          case atStart => exact ⟨0, Nat.zero_le _, rfl, Below.refl _ _⟩
          case round =>
            obtain ⟨n, hn5, rfl, hbz⟩ := hrel
            have r1 := (hbz.cell (p := ⟨b8, _, none⟩) hb86).trans q1
            have r2 := (hbz.cell (p := ⟨b8, _, none⟩) hb86).trans q2
            have hsz7 := hbz.size
            have hb8r : b8 < wr.heap.size := by omega
            have hnc : n = 0 ∨ n = 1 ∨ n = 2 ∨ n = 3 ∨ n = 4 ∨ n = 5 := by omega
            rcases hnc with rfl | rfl | rfl | rfl | rfl | rfl
            · have hv := HV0.out
              have hix := fun b0 b1 b2 b3 b4 W => run_idx5_0 b0 b1 b2 b3 b4 W
              by_cases g1 : P1 ≤ 0
              · by_cases g2 : 0 ≤ P2
                · rw [decide_eq_true (show P1 ≤ 0 ∧ 0 ≤ P2 from ⟨g1, g2⟩)] at hv
                  subst hv
                  go_wp2_with fail
                  go_roundw
                  case rel => exact ⟨1, by omega, by go_num, hbz⟩
                  case measure => simp [intOf]
                · rw [decide_eq_false (show ¬ (P1 ≤ 0 ∧ 0 ≤ P2) from fun h => g2 h.2)] at hv
                  subst hv
                  have g3 : P2 < 0 := by omega
                  go_wp2_with fail
                  go_roundw
                  case rel => exact ⟨1, by omega, by go_num, hbz⟩
                  case measure => simp [intOf]
              · rw [decide_eq_false (show ¬ (P1 ≤ 0 ∧ 0 ≤ P2) from fun h => g1 h.1)] at hv
                subst hv
                have g3 : 0 < P1 := by omega
                go_wp2_with fail
                go_roundw
                case rel => exact ⟨1, by omega, by go_num, hbz⟩
                case measure => simp [intOf]
            · have hv := HV1.out
              have hix := fun b0 b1 b2 b3 b4 W => run_idx5_1 b0 b1 b2 b3 b4 W
              by_cases g1 : P1 ≤ 1
              · by_cases g2 : 1 ≤ P2
                · rw [decide_eq_true (show P1 ≤ 1 ∧ 1 ≤ P2 from ⟨g1, g2⟩)] at hv
                  subst hv
                  go_wp2_with fail
                  go_roundw
                  case rel => exact ⟨2, by omega, by go_num, hbz⟩
                  case measure => simp [intOf]
                · rw [decide_eq_false (show ¬ (P1 ≤ 1 ∧ 1 ≤ P2) from fun h => g2 h.2)] at hv
                  subst hv
                  have g3 : P2 < 1 := by omega
                  go_wp2_with fail
                  go_roundw
                  case rel => exact ⟨2, by omega, by go_num, hbz⟩
                  case measure => simp [intOf]
              · rw [decide_eq_false (show ¬ (P1 ≤ 1 ∧ 1 ≤ P2) from fun h => g1 h.1)] at hv
                subst hv
                have g3 : 1 < P1 := by omega
                go_wp2_with fail
                go_roundw
                case rel => exact ⟨2, by omega, by go_num, hbz⟩
                case measure => simp [intOf]
            · have hv := HV2.out
              have hix := fun b0 b1 b2 b3 b4 W => run_idx5_2 b0 b1 b2 b3 b4 W
              by_cases g1 : P1 ≤ 2
              · by_cases g2 : 2 ≤ P2
                · rw [decide_eq_true (show P1 ≤ 2 ∧ 2 ≤ P2 from ⟨g1, g2⟩)] at hv
                  subst hv
                  go_wp2_with fail
                  go_roundw
                  case rel => exact ⟨3, by omega, by go_num, hbz⟩
                  case measure => simp [intOf]
                · rw [decide_eq_false (show ¬ (P1 ≤ 2 ∧ 2 ≤ P2) from fun h => g2 h.2)] at hv
                  subst hv
                  have g3 : P2 < 2 := by omega
                  go_wp2_with fail
                  go_roundw
                  case rel => exact ⟨3, by omega, by go_num, hbz⟩
                  case measure => simp [intOf]
              · rw [decide_eq_false (show ¬ (P1 ≤ 2 ∧ 2 ≤ P2) from fun h => g1 h.1)] at hv
                subst hv
                have g3 : 2 < P1 := by omega
                go_wp2_with fail
                go_roundw
                case rel => exact ⟨3, by omega, by go_num, hbz⟩
                case measure => simp [intOf]
            · have hv := HV3.out
              have hix := fun b0 b1 b2 b3 b4 W => run_idx5_3 b0 b1 b2 b3 b4 W
              by_cases g1 : P1 ≤ 3
              · by_cases g2 : 3 ≤ P2
                · rw [decide_eq_true (show P1 ≤ 3 ∧ 3 ≤ P2 from ⟨g1, g2⟩)] at hv
                  subst hv
                  go_wp2_with fail
                  go_roundw
                  case rel => exact ⟨4, by omega, by go_num, hbz⟩
                  case measure => simp [intOf]
                · rw [decide_eq_false (show ¬ (P1 ≤ 3 ∧ 3 ≤ P2) from fun h => g2 h.2)] at hv
                  subst hv
                  have g3 : P2 < 3 := by omega
                  go_wp2_with fail
                  go_roundw
                  case rel => exact ⟨4, by omega, by go_num, hbz⟩
                  case measure => simp [intOf]
              · rw [decide_eq_false (show ¬ (P1 ≤ 3 ∧ 3 ≤ P2) from fun h => g1 h.1)] at hv
                subst hv
                have g3 : 3 < P1 := by omega
                go_wp2_with fail
                go_roundw
                case rel => exact ⟨4, by omega, by go_num, hbz⟩
                case measure => simp [intOf]
            · have hv := HV4.out
              have hix := fun b0 b1 b2 b3 b4 W => run_idx5_4 b0 b1 b2 b3 b4 W
              by_cases g1 : P1 ≤ 4
              · by_cases g2 : 4 ≤ P2
                · rw [decide_eq_true (show P1 ≤ 4 ∧ 4 ≤ P2 from ⟨g1, g2⟩)] at hv
                  subst hv
                  go_wp2_with fail
                  go_roundw
                  case rel => exact ⟨5, by omega, by go_num, hbz⟩
                  case measure => simp [intOf]
                · rw [decide_eq_false (show ¬ (P1 ≤ 4 ∧ 4 ≤ P2) from fun h => g2 h.2)] at hv
                  subst hv
                  have g3 : P2 < 4 := by omega
                  go_wp2_with fail
                  go_roundw
                  case rel => exact ⟨5, by omega, by go_num, hbz⟩
                  case measure => simp [intOf]
              · rw [decide_eq_false (show ¬ (P1 ≤ 4 ∧ 4 ≤ P2) from fun h => g1 h.1)] at hv
                subst hv
                have g3 : 4 < P1 := by omega
                go_wp2_with fail
                go_roundw
                case rel => exact ⟨5, by omega, by go_num, hbz⟩
                case measure => simp [intOf]
            · obtain ⟨w7, rfl⟩ : ∃ w7, w7 = wr := ⟨_, rfl⟩
              have s0 := (hbz.cell (p := ⟨g, 0, none⟩) hz6).trans d0'
              have s1 := (hbz.cell (p := ⟨g, 1, none⟩) hz6).trans d1'
              have hA7 := waysUp hA6 hbz
              have hI7 := upiF hI6 hbz
              have ht8 := ht7.below hbz
              have hb57 : Below w5.heap.size w5 w7 := HBB.out.trans (hbz.mono hs56)
              have HB57 := Lib.hid hb57
              clear q1 q2 d0' d1' hA6 hI6 ht7 hb57 HV0 HV1 HV2 HV3 HV4
              by_cases hP : P1 = P2
              · subst hP
                have hko := HOK2.out
                rw [if_pos rfl] at hko
                have HKO := Lib.hid hko
                clear hko hI7
                go_wp2_with (go_at_call 33; refine (H33.out A1 c1 _ hA7 ht8).mono ?_; rintro e w8 ⟨rfl, hb9⟩; have m1 := (hb9.cell (p := ⟨b8, _, none⟩) hb8r).trans r1; have m2 := (hb9.cell (p := ⟨b8, _, none⟩) hb8r).trans r2; have hb8s := hb9.size; have hb88 : b8 < w8.heap.size := (by omega))
                have hb58 : Below w5.heap.size w5 w8 := HB57.out.trans (hb9.mono (by omega))
                go_roundw
                case rel => exact ⟨i + 1, hlt, by go_num, by rw [HKO.out], hbw.trans (hb58.mono hsw)⟩
                case measure => simp [intOf]; omega
              · have hPlt : P1 < P2 := by omega
                have hko := HOK2.out
                rw [if_neg hP] at hko
                have hg9 := HOA2.out hP
                have hml := lt_of_get hg9
                obtain ⟨b9, o9, heq9, hb9', hc9⟩ := hI7 _ _ hg9
                subst heq9
                have HKO := Lib.hid (show (openK sp (i + 1)).length = (openK sp i).length + 1 by rw [hko]; simp)
                generalize (openK sp i).length = m at hml hc9 HKO hokl ⊢
                have hmi : (m : Int) < ((openK sp ws.length).length : Int) := by omega
                have hm0 : (0 : Int) ≤ (m : Int) := by omega
                have hm5 : (m : Int) ≤ 5 := by omega
                clear hko hI7 hg9 hP
                go_wp2_with (go_at_call 33; refine (H33.out A1 c1 _ hA7 ht8).mono ?_; rintro e w8 ⟨rfl, hb9⟩; have m1 := (hb9.cell (p := ⟨b8, _, none⟩) hb8r).trans r1; have m2 := (hb9.cell (p := ⟨b8, _, none⟩) hb8r).trans r2; have m3 := (hb9.cell (p := ⟨b9, _, none⟩) hb9').trans hc9; have hb8s := hb9.size; have hb88 : b8 < w8.heap.size := (by omega); have hb99 : b9 < w8.heap.size := (by omega))
                have hb58 : Below w5.heap.size w5 w8 := HB57.out.trans (hb9.mono (by omega))
                go_roundw
                case rel => exact ⟨i + 1, hlt, by go_num, by rw [HKO.out]; go_num, hbw.trans (hb58.mono hsw)⟩
                case measure => simp [intOf]; omega
    · have hie : i = ws.length := by omega
      subst hie
      have hone := HONE.out
      clear HONE HOK1 HOA HS33 HHB HSPI HSPG HBND HLEN hI5 hL5 hP5 hA5 hi4 hL4 hP4 hA4 HOKL
      generalize (openK sp ws.length).length = m at hone hokl ⊢
      by_cases h1 : all.length = 1
      · have hm0 := hone.2 h1
        subst hm0
        have ha1 : (all.length : Int) = 1 := by omega
        clear hone h1 hall0
        go_wp2_with (go_at_call 16; refine (works_any _ ht6).mono ?_; rintro e w9 ⟨rfl, hb9⟩)
        go_ret
        exact ⟨rfl, hb04.trans ((hbw.trans (hb9.mono hsw)).mono hws4)⟩
      · have hm0 : ¬ m = 0 := fun e => h1 (hone.1 e)
        have hmi : ¬ (m : Int) = 0 := by omega
        have ha1 : ((all.length : Int) == 1) = false := by simpa using (by omega : ¬ (all.length : Int) = 1)
        have hmb : ((m : Int) == 0) = false := by simpa using hm0
        clear hone hmi hm0 h1
        go_wp2_with (go_at_call 16; refine (works_any _ ht6).mono ?_; rintro e w9 ⟨rfl, hb9⟩)
        go_ret
        exact ⟨rfl, hb04.trans ((hbw.trans (hb9.mono hsw)).mono hws4)⟩
end Go.Proofs.YtcebihijnedekaaDoor
