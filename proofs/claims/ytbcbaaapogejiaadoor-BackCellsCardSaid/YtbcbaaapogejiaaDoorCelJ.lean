/-
  Cells that are checked: by the code, for any cells.
-/
import Derived.Test.YtbcbaaapogejiaaDoorCelI
namespace Go.Proofs.YtbcbaaapogejiaaDoor
open Go.RowKit

/-- What is wrong with some cells. -/
def scE (n : Nat) (last : Int) : List Int → Int
  | [] => 0
  | c :: l => if ¬ (0 ≤ c ∧ c < n) then 2 else if c ≤ last then 7 else scE n c l
theorem shE_eq (n : Nat) (sh : List Nat) : ∀ (l : List Int) (m : Nat) (last : Int), shE n sh m last l = if scE n last l = 0 then (if coverL sh m (l.map Int.toNat) = 0 then 0 else 14) else scE n last l
  | [], m, last => rfl
  | c :: l, m, last => by
    unfold shE scE
    by_cases h1 : ¬ (0 ≤ c ∧ c < n)
    · rw [if_pos h1, if_pos h1, if_neg (by decide)]
    · rw [if_neg h1, if_neg h1]
      by_cases h2 : c ≤ last
      · rw [if_pos h2, if_pos h2, if_neg (by decide)]
      · rw [if_neg h2, if_neg h2, shE_eq n sh l]
        rfl
theorem scE_in {n : Nat} : ∀ {l : List Int} {last : Int}, scE n last l = 0 → ∀ x ∈ l, 0 ≤ x ∧ x < n
  | [], _, _ => by simp
  | c :: l, last, h => by
    unfold scE at h
    by_cases h1 : ¬ (0 ≤ c ∧ c < n)
    · rw [if_pos h1] at h; cases h
    · rw [if_neg h1] at h
      by_cases h2 : c ≤ last
      · rw [if_pos h2] at h; cases h
      · rw [if_neg h2] at h
        intro x hx
        rcases List.mem_cons.1 hx with e | hx
        · rw [e]; exact Classical.not_not.1 h1
        · exact scE_in h x hx
/-- The answer about some cells. -/
def showE (p : Pr) (b cs : List Int) : Int := if scE p.n (-1) cs = 0 then (if showsB p b (cs.map Int.toNat) = true then 0 else 14) else scE p.n (-1) cs
theorem shE_showE {p : Pr} (hp : p.Ok) {b cs : List Int} (hb : b.length = p.n) : shE p.n (shown p.from b) (unionN (shown p.from b)) (-1) cs = showE p b cs := by
  rw [shE_eq]
  unfold showE
  by_cases h : scE p.n (-1) cs = 0
  · rw [if_pos h, if_pos h]
    have hc := cover_shows hp hb (cs := cs.map Int.toNat) (fun c hc => by
      obtain ⟨x, hx, rfl⟩ := List.mem_map.1 hc
      have := scE_in h x hx
      omega)
    by_cases hs : showsB p b (cs.map Int.toNat) = true
    · rw [if_pos hs, if_pos (hc.2 hs)]
    · rw [if_neg hs, if_neg (fun e => hs (hc.1 e))]
  · rw [if_neg h, if_neg h]

set_option maxRecDepth 100000 in
set_option maxHeartbeats 2000000 in
theorem showsF_any (p : Pr) (hp : p.Ok) (A D TA : Option Addr) (c d tc : Nat) (b cs : List Int) (w : World) (hm : MovW w) (hT : IntsAt w w.heap.size TA (intsN p.T)) (hA : IntsAt w w.heap.size A b) (hD : IntsAt w w.heap.size D cs) (hb : BackOk p b) (hcl : cs.length < 1000) :
    Calls Tryd.prog 45 #[.agg #[.int .i64 p.R, .int .i64 p.C, .int .i64 p.K, .slice TA p.T.length tc], .slice A b.length c, .slice D cs.length d] w fun e w' => e = .returned (.int .i64 (shE p.n (shown p.from b) (unionN (shown p.from b)) (-1) cs)) ∧ Below w.heap.size w w' := by
  have hb1 := below_new w (.cells #[.int .i64 p.R, .int .i64 p.C, .int .i64 p.K, .slice TA p.T.length tc] 24)
  have HP := Lib.hid (plate_one p hp A TA c tc b w _ hm hT hA hb hb1)
  simp only [World.size_alloc] at HP
  have hbx := hb1.trans ((below_new (w.alloc (.cells #[.int .i64 p.R, .int .i64 p.C, .int .i64 p.K, .slice TA p.T.length tc] 24)) (.cells #[.slice A b.length c] 22)).mono hb1.size)
  have HS := Lib.hid (fun W FA fc (hW : Below w.heap.size w W) hF => shown_any p.R p.C p.K TA FA tc fc p.T p.from A c b W hF (hA.up hW) (from_len p) (from_in2 hp hb.1) (hb.len hp) hp.len)
  have h8 := shown_256 (F := p.from) (b := b) (by rw [from_len]; exact hp.len)
  have hl : (shown p.from b).length = p.n := by rw [shown_len, hb.1]
  have hl16 := hp.n16.2
  have HCe := Lib.hid (fun FA fc W => cells_any p.R p.C p.K (.slice TA p.T.length tc) (.slice FA p.T.length fc) W (by have := hp.r4; omega) (by have := hp.c4; omega))
  rw [show p.R * p.C = p.n from rfl] at HCe
  generalize shown p.from b = sh at *
  have HU := Lib.hid (fun E g W (hS : SetsAt W W.heap.size E sh) => union_any E g sh W W.heap.size hS h8 (by omega))
  have hU8 := unionN_lt h8
  have H8 := Lib.hid h8
  have HL := Lib.hid hl
  have HD2 := Lib.hid hD
  generalize unionN sh = U at *
  generalize p.n = n at *
  obtain ⟨v, hv⟩ : ∃ v, v = shE n sh U (-1) cs := ⟨_, rfl⟩
  rw [← hv]
  have HV := Lib.hid hv
  clear hm hT hA hb hp h8 hl hD hv
  go_enter Tryd.func45, Tryd.ntmps45
  go_wp2_with (first
    | (go_at_call 74; refine (HP.out).mono ?_; rintro e w1 ⟨FA, fc, rfl, hF, hb2⟩; have hb3 := hbx.trans (hb2.mono hbx.size); have hb4 := hb3.trans ((below_new w1 (.cells #[.int .i64 p.R, .int .i64 p.C, .int .i64 p.K, .slice TA p.T.length tc, .slice FA p.T.length fc] 115)).mono hb3.size); have hF2 := hF.up (below_new w1 (.cells #[.int .i64 p.R, .int .i64 p.C, .int .i64 p.K, .slice TA p.T.length tc, .slice FA p.T.length fc] 115)); have hg3 := gcells5 w1 (.int .i64 p.R) (.int .i64 p.C) (.int .i64 p.K) (.slice TA p.T.length tc) (.slice FA p.T.length fc); have hgs : w1.heap.size < (w1.alloc (.cells #[.int .i64 p.R, .int .i64 p.C, .int .i64 p.K, .slice TA p.T.length tc, .slice FA p.T.length fc] 115)).heap.size := (by simp))
    | (go_at_call 97; refine (HS.out _ _ _ hb4 hF2).mono ?_; rintro e w5 ⟨E, g, rfl, hSe, hb5⟩)
    | (go_at_call 100; refine (HU.out _ _ _ hSe).mono ?_; rintro e w6 ⟨rfl, hw6⟩; subst w6))
  have hbw5 := hb4.trans (hb5.mono hb4.size)
  have HG := Lib.hid (fun (W : World) (hW : Below w5.heap.size w5 W) => show (W.cell? ⟨w1.heap.size, 0, none⟩ = some (.int .i64 p.R) ∧ W.cell? ⟨w1.heap.size, 1, none⟩ = some (.int .i64 p.C) ∧ W.cell? ⟨w1.heap.size, 2, none⟩ = some (.int .i64 p.K) ∧ W.cell? ⟨w1.heap.size, 3, none⟩ = some (.slice TA p.T.length tc) ∧ W.cell? ⟨w1.heap.size, 4, none⟩ = some (.slice FA p.T.length fc)) from
    have hz := hb5.trans (hW.mono hb5.size)
    ⟨(hz.cell (p := ⟨w1.heap.size, 0, none⟩) hgs).trans hg3.1, (hz.cell (p := ⟨w1.heap.size, 1, none⟩) hgs).trans hg3.2.1, (hz.cell (p := ⟨w1.heap.size, 2, none⟩) hgs).trans hg3.2.2.1, (hz.cell (p := ⟨w1.heap.size, 3, none⟩) hgs).trans hg3.2.2.2.1, (hz.cell (p := ⟨w1.heap.size, 4, none⟩) hgs).trans hg3.2.2.2.2⟩)
  have HSe := Lib.hid hSe
  clear hF hF2 hSe hg3
  go_loopw [10, 11, 31] (fun a l i wr => ∃ (k m : Nat) (last : Int), k ≤ cs.length ∧ i = .int .i64 k ∧ a = .int .u8 m ∧ l = .int .i64 last ∧ m < 256 ∧ Hid (v = shE n sh m last (cs.drop k)) ∧ Below w5.heap.size w5 wr) (fun _ _ i _ => cs.length - (intOf i).toNat)
  case atStart => exact ⟨0, U, -1, Nat.zero_le _, rfl, rfl, rfl, hU8, HV, Below.refl _ _⟩
  case round =>
    obtain ⟨k, m, last, hk, rfl, rfl, rfl, hm8, HK, hbr⟩ := hrel
    have hbwr := hbw5.trans (hbr.mono hbw5.size)
    by_cases hlt : k < cs.length
    · have hx : cs[k]? = some cs[k] := List.getElem?_eq_getElem hlt
      obtain ⟨cb, co, rfl, hcb, d1⟩ := (HD2.out.up hbwr) k _ hx
      have e1 := HK.out
      rw [drop_cons hx, shE] at e1
      clear hx
      generalize cs[k] = y at *
      have hki : (k : Int) < (cs.length : Int) := by omega
      obtain ⟨p0, p1, p2, p3, p4⟩ := HG.out _ hbr
      by_cases i1 : 0 ≤ y
      · by_cases i2 : y < (n : Nat)
        · rw [if_neg (by simp only [Classical.not_not]; exact ⟨i1, i2⟩)] at e1
          by_cases i3 : y ≤ last
          · rw [if_pos i3] at e1
            have HE := Lib.hid e1
            have hnu : ¬ (n : Int) ≤ y := by omega
            have hu0 : ¬ y < 0 := by omega
            clear e1 i1 i2
            go_wp2_with (go_at_call 88; refine (HCe.out _ _ _).mono ?_; rintro e w7 ⟨rfl, hb7⟩)
            go_ret
            exact ⟨by rw [HE.out]; rfl, hbwr.trans (hb7.mono hbwr.size)⟩
          · rw [if_neg i3] at e1
            obtain ⟨u, rfl⟩ : ∃ u : Nat, y = (u : Int) := ⟨y.toNat, by omega⟩
            rw [Int.toNat_natCast] at e1
            have hun : u < sh.length := by have := HL.out; omega
            have hxs : sh[u]? = some sh[u] := List.getElem?_eq_getElem hun
            have hx8 := H8.out _ (mem_of_get hxs)
            rw [show sh.getD u 0 = sh[u] by rw [List.getD_eq_getElem?_getD, hxs]; rfl] at e1
            obtain ⟨eb, eo, rfl, heb, d2⟩ := (HSe.out.up hbr) u _ hxs
            generalize sh[u] = x at *
            have hor := u8_andNot_nat m x hm8 hx8
            rw [show m &&& (255 - x) = minusN m x from rfl] at hor
            have hm28 := minusN_lt (b := x) hm8
            generalize minusN m x = m2 at *
            have HE := Lib.hid e1
            have hui : (u : Int) < (sh.length : Int) := by omega
            have hnu : ¬ (n : Int) ≤ (u : Int) := by omega
            have hlu : ¬ (u : Int) ≤ last := by omega
            have hu0 : ¬ (u : Int) < 0 := by omega
            clear e1 hxs i1 i2
            go_wp2_with (go_at_call 88; refine (HCe.out _ _ _).mono ?_; rintro e w7 ⟨rfl, hb7⟩; have d3 := (hb7.cell (p := ⟨eb, eo + u, none⟩) heb).trans d2)
            go_roundw
            case rel => exact ⟨k + 1, m2, u, by omega, by go_num, rfl, rfl, hm28, HE, hbr.trans (hb7.mono hbr.size)⟩
            case measure => simp [intOf]; omega
        · rw [if_pos (by omega)] at e1
          have HE := Lib.hid e1
          have hnu : (n : Int) ≤ y := by omega
          have hu0 : ¬ y < 0 := by omega
          clear e1 i1 i2
          go_wp2_with (go_at_call 88; refine (HCe.out _ _ _).mono ?_; rintro e w7 ⟨rfl, hb7⟩)
          go_ret
          exact ⟨by rw [HE.out]; rfl, hbwr.trans (hb7.mono hbwr.size)⟩
      · rw [if_pos (by omega)] at e1
        have HE := Lib.hid e1
        have hu0 : y < 0 := by omega
        clear e1 i1
        go_wp2
        go_ret
        exact ⟨by rw [HE.out]; rfl, hbwr⟩
    · have e1 := HK.out
      rw [List.drop_of_length_le (by omega), shE] at e1
      have hki : ¬ (k : Int) < (cs.length : Int) := by omega
      by_cases hz : m = 0
      · subst hz
        have HE := Lib.hid (e1.trans (if_pos rfl))
        clear e1
        go_wp2
        go_ret
        exact ⟨by rw [HE.out]; rfl, hbwr⟩
      · have HE := Lib.hid (e1.trans (if_neg hz))
        have hmz : ((m : Int) != 0) = true := by simpa using hz
        clear e1
        go_wp2
        go_ret
        exact ⟨by rw [HE.out]; rfl, hbwr⟩
end Go.Proofs.YtbcbaaapogejiaaDoor
