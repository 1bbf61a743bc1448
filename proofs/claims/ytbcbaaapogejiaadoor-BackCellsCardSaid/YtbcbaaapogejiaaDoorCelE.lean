/-
  The cells that are returned, and cells that are checked.
-/
import Derived.Test.YtbcbaaapogejiaaDoorCelD
import Derived.Test.YtbcbaaapogejiaaDoorExpA
namespace Go.Proofs.YtbcbaaapogejiaaDoor
open Go.RowKit

theorem shown_256 {F : List (List Int)} {b : List Int} (h : F.length ≤ 8) : ∀ x ∈ shown F b, x < 256 := by
  intro x hx
  obtain ⟨c, _, rfl⟩ := List.mem_map.1 hx
  exact shOf_256 F b c h
theorem shown_len (F : List (List Int)) (b : List Int) : (shown F b).length = b.length := by simp [shown]
theorem from_in2 {p : Pr} (hp : p.Ok) {b : List Int} (hb : b.length = p.n) : ∀ s ∈ p.from, s.length = b.length ∧ ∀ i ∈ s, 0 ≤ i ∧ i < (b.length : Nat) := by
  intro s hs
  obtain ⟨t, ht, rfl⟩ := List.mem_map.1 hs
  exact ⟨by rw [srcs_len, hb]; rfl, fun i hi => by rw [hb]; exact hp.cell ht hi⟩

set_option maxRecDepth 100000 in
set_option maxHeartbeats 1000000 in
theorem fewest_any (sh r : List Nat) (sz : Nat) (A : Option Addr) (c : Nat) (w : World) (hA : SetsAt w w.heap.size A sh) (h8 : ∀ x ∈ sh, x < 256) (hsl : sh.length ≤ 16) (hsz : sz ≤ sh.length) (hno : ∀ s, s < sz → pickN sh (sh.length + 2 - 0) 0 s (unionN sh) = none) (hyes : pickN sh (sh.length + 2 - 0) 0 sz (unionN sh) = some r) :
    Calls Tryd.prog 96 #[.slice A sh.length c] w fun e w' => ∃ D d, e = .returned (.slice D r.length d) ∧ IntsAt w' w'.heap.size D (intsN r) ∧ Below w.heap.size w w' := by
  have HU := Lib.hid (fun W (hW : Below w.heap.size w W) => union_any A c sh W W.heap.size (hA.up hW) h8 (by omega))
  have HPk := Lib.hid (fun n W (hW : Below w.heap.size w W) (hn : n ≤ 17) => pick_any sh h8 hsl n 0 (unionN sh) A c W (hA.up hW) (unionN_lt h8) (by omega) hn)
  have HNo := Lib.hid hno
  have HYes := Lib.hid hyes
  generalize unionN sh = U at *
  clear hA h8 hno hyes
  go_enter Tryd.func96, Tryd.ntmps96
  go_wp2
  go_loopw [9] (fun i wr => ∃ s : Nat, s ≤ sz ∧ i = .int .i64 s ∧ Below w.heap.size w wr) (fun i _ => sh.length + 1 - (intOf i).toNat)
  case atStart => exact ⟨0, Nat.zero_le _, rfl, Below.refl _ _⟩
  case round =>
    obtain ⟨s, hs, rfl, hbw⟩ := hrel
    have hsi : (s : Int) < (sh.length : Int) + 1 := by omega
    by_cases hlt : s < sz
    · have HI := HPk.out s wr hbw (by omega)
      rw [HNo.out s hlt] at HI
      have HI2 := Lib.hid HI
      clear HI
      go_wp2_with (first
        | (go_at_call 100; refine (HU.out _ hbw).mono ?_; rintro e w1 ⟨rfl, rfl⟩)
        | (go_at_call 127; refine (HI2.out).mono ?_; rintro e w2 ⟨_, h2, hb2⟩; obtain rfl := h2 rfl))
      go_roundw
      case rel => exact ⟨s + 1, by omega, by go_num, hbw.trans (hb2.mono hbw.size)⟩
      case measure => simp [intOf]; omega
    · have e : s = sz := by omega
      subst e
      have HI := HPk.out s wr hbw (by omega)
      rw [HYes.out] at HI
      have HI2 := Lib.hid HI
      clear HI
      go_wp2_with (first
        | (go_at_call 100; refine (HU.out _ hbw).mono ?_; rintro e w1 ⟨rfl, rfl⟩)
        | (go_at_call 127; refine (HI2.out).mono ?_; rintro e w2 ⟨h1, _, hb2⟩; obtain ⟨D, d, rfl, hD⟩ := h1 r rfl))
      go_ret
      exact ⟨D, d, rfl, hD, hbw.trans (hb2.mono hbw.size)⟩

set_option maxRecDepth 100000 in
set_option maxHeartbeats 1000000 in
theorem cellsF_ok (p : Pr) (hp : p.Ok) (A TA : Option Addr) (c tc : Nat) (b : List Int) (r : List Nat) (sz : Nat) (w : World) (hm : MovW w) (hT : IntsAt w w.heap.size TA (intsN p.T)) (hA : IntsAt w w.heap.size A b) (hb : BackOk p b)
    (hsz : sz ≤ (shown p.from b).length) (hno : ∀ s, s < sz → pickN (shown p.from b) ((shown p.from b).length + 2 - 0) 0 s (unionN (shown p.from b)) = none) (hyes : pickN (shown p.from b) ((shown p.from b).length + 2 - 0) 0 sz (unionN (shown p.from b)) = some r) :
    Calls Tryd.prog 43 #[.agg #[.int .i64 p.R, .int .i64 p.C, .int .i64 p.K, .slice TA p.T.length tc], .slice A b.length c] w (RetInts0 w (intsN r)) := by
  have hb1 := below_new w (.cells #[.int .i64 p.R, .int .i64 p.C, .int .i64 p.K, .slice TA p.T.length tc] 24)
  have HP := Lib.hid (plate_one p hp A TA c tc b w _ hm hT hA hb hb1)
  simp only [World.size_alloc] at HP
  have hbx := hb1.trans ((below_new (w.alloc (.cells #[.int .i64 p.R, .int .i64 p.C, .int .i64 p.K, .slice TA p.T.length tc] 24)) (.cells #[.slice A b.length c] 22)).mono hb1.size)
  have HS := Lib.hid (fun W FA fc (hW : Below w.heap.size w W) hF => shown_any p.R p.C p.K TA FA tc fc p.T p.from A c b W hF (hA.up hW) (from_len p) (from_in2 hp hb.1) (hb.len hp) hp.len)
  have h8 := shown_256 (F := p.from) (b := b) (by rw [from_len]; exact hp.len)
  have hl := shown_len p.from b
  have hl16 := hb.len hp
  generalize shown p.from b = sh at *
  have HFw := Lib.hid (fun D d W (hS : SetsAt W W.heap.size D sh) => fewest_any sh r sz D d W hS h8 (by omega) hsz hno hyes)
  have hrl := intsN_len r
  clear hm hT hA hb hp h8 hl hl16 hno hyes hsz
  go_enter Tryd.func43, Tryd.ntmps43
  go_wp2_with (first
    | (go_at_call 74; refine (HP.out).mono ?_; rintro e w1 ⟨FA, fc, rfl, hF, hb2⟩; have hb3 := hbx.trans (hb2.mono hbx.size); have hb4 := hb3.trans ((below_new w1 (.cells #[.int .i64 p.R, .int .i64 p.C, .int .i64 p.K, .slice TA p.T.length tc, .slice FA p.T.length fc] 115)).mono hb3.size); have hF2 := hF.up (below_new w1 (.cells #[.int .i64 p.R, .int .i64 p.C, .int .i64 p.K, .slice TA p.T.length tc, .slice FA p.T.length fc] 115)))
    | (go_at_call 97; refine (HS.out _ _ _ hb4 hF2).mono ?_; rintro e w5 ⟨E, g, rfl, hSe, hb5⟩)
    | (go_at_call 96; refine (HFw.out _ _ _ hSe).mono ?_; rintro e w6 ⟨D, d, rfl, hD, hb6⟩))
  go_ret2
  exact ⟨D, d, by rw [hrl]; rfl, hD, hb4.trans ((hb5.trans (hb6.mono hb5.size)).mono hb4.size)⟩

def shE (n : Nat) (sh : List Nat) (missing : Nat) (last : Int) : List Int → Int
  | [] => if missing = 0 then 0 else 14
  | c :: l => if ¬ (0 ≤ c ∧ c < n) then 2 else if c ≤ last then 7 else shE n sh (minusN missing (sh.getD c.toNat 0)) c l

theorem gcells5 (W : World) (a b c d e : Value) : (W.alloc (.cells #[a, b, c, d, e] 115)).cell? ⟨W.heap.size, 0, none⟩ = some a ∧ (W.alloc (.cells #[a, b, c, d, e] 115)).cell? ⟨W.heap.size, 1, none⟩ = some b ∧ (W.alloc (.cells #[a, b, c, d, e] 115)).cell? ⟨W.heap.size, 2, none⟩ = some c ∧ (W.alloc (.cells #[a, b, c, d, e] 115)).cell? ⟨W.heap.size, 3, none⟩ = some d ∧ (W.alloc (.cells #[a, b, c, d, e] 115)).cell? ⟨W.heap.size, 4, none⟩ = some e := by
  refine ⟨?_, ?_, ?_, ?_, ?_⟩ <;> (rw [cell_of_row _ _ _ _ _ _ (heap_new _ _)]; rfl)

set_option maxRecDepth 100000 in
set_option maxHeartbeats 2000000 in
theorem showsF_ok (p : Pr) (hp : p.Ok) (A D TA : Option Addr) (c d tc : Nat) (b cs : List Int) (w : World) (hm : MovW w) (hT : IntsAt w w.heap.size TA (intsN p.T)) (hA : IntsAt w w.heap.size A b) (hD : IntsAt w w.heap.size D cs) (hb : BackOk p b) (hcl : cs.length < 1000) (hin : ∀ x ∈ cs, 0 ≤ x ∧ x < (p.n : Nat)) (hasc : cs.Pairwise (· < ·)) :
    Calls Tryd.prog 45 #[.agg #[.int .i64 p.R, .int .i64 p.C, .int .i64 p.K, .slice TA p.T.length tc], .slice A b.length c, .slice D cs.length d] w fun e w' => e = .returned (.int .i64 (shE p.n (shown p.from b) (unionN (shown p.from b)) (-1) cs)) ∧ Below w.heap.size w w' := by
  have hb1 := below_new w (.cells #[.int .i64 p.R, .int .i64 p.C, .int .i64 p.K, .slice TA p.T.length tc] 24)
  have HP := Lib.hid (plate_one p hp A TA c tc b w _ hm hT hA hb hb1)
  simp only [World.size_alloc] at HP
  have hbx := hb1.trans ((below_new (w.alloc (.cells #[.int .i64 p.R, .int .i64 p.C, .int .i64 p.K, .slice TA p.T.length tc] 24)) (.cells #[.slice A b.length c] 22)).mono hb1.size)
  have HS := Lib.hid (fun W FA fc (hW : Below w.heap.size w W) hF => shown_any p.R p.C p.K TA FA tc fc p.T p.from A c b W hF (hA.up hW) (from_len p) (from_in2 hp hb.1) (hb.len hp) hp.len)
  have h8 := shown_256 (F := p.from) (b := b) (by rw [from_len]; exact hp.len)
  have hl : (shown p.from b).length = p.n := by rw [shown_len, hb.1]
  have hl16 := hp.n16.2
  have HCe := Lib.hid (fun FA fc W => cells_any p.R p.C p.K (.slice TA p.T.length tc) (.slice FA p.T.length fc) W (by have := hp.r4; omega) (by have := hp.c4; omega))
  rw [show p.R * p.C = p.n from rfl] at HCe
  generalize shown p.from b = sh at *
  have HU := Lib.hid (fun E g W (hS : SetsAt W W.heap.size E sh) => union_any E g sh W W.heap.size hS h8 (by omega))
  have hU8 := unionN_lt h8
  have H8 := Lib.hid h8
  have HL := Lib.hid hl
  have HD2 := Lib.hid hD
  have HIn := Lib.hid hin
  have HAs := Lib.hid hasc
  generalize unionN sh = U at *
  generalize p.n = n at *
  obtain ⟨v, hv⟩ : ∃ v, v = shE n sh U (-1) cs := ⟨_, rfl⟩
  rw [← hv]
  have HV := Lib.hid hv
  clear hm hT hA hb hp h8 hl hD hv hin hasc
  go_enter Tryd.func45, Tryd.ntmps45
  go_wp2_with (first
    | (go_at_call 74; refine (HP.out).mono ?_; rintro e w1 ⟨FA, fc, rfl, hF, hb2⟩; have hb3 := hbx.trans (hb2.mono hbx.size); have hb4 := hb3.trans ((below_new w1 (.cells #[.int .i64 p.R, .int .i64 p.C, .int .i64 p.K, .slice TA p.T.length tc, .slice FA p.T.length fc] 115)).mono hb3.size); have hF2 := hF.up (below_new w1 (.cells #[.int .i64 p.R, .int .i64 p.C, .int .i64 p.K, .slice TA p.T.length tc, .slice FA p.T.length fc] 115)); have hg3 := gcells5 w1 (.int .i64 p.R) (.int .i64 p.C) (.int .i64 p.K) (.slice TA p.T.length tc) (.slice FA p.T.length fc); have hgs : w1.heap.size < (w1.alloc (.cells #[.int .i64 p.R, .int .i64 p.C, .int .i64 p.K, .slice TA p.T.length tc, .slice FA p.T.length fc] 115)).heap.size := (by simp))
    | (go_at_call 97; refine (HS.out _ _ _ hb4 hF2).mono ?_; rintro e w5 ⟨E, g, rfl, hSe, hb5⟩)
    | (go_at_call 100; refine (HU.out _ _ _ hSe).mono ?_; rintro e w6 ⟨rfl, hw6⟩; subst w6))
  have hbw5 := hb4.trans (hb5.mono hb4.size)
  have HG := Lib.hid (fun (W : World) (hW : Below w5.heap.size w5 W) => show (W.cell? ⟨w1.heap.size, 0, none⟩ = some (.int .i64 p.R) ∧ W.cell? ⟨w1.heap.size, 1, none⟩ = some (.int .i64 p.C) ∧ W.cell? ⟨w1.heap.size, 2, none⟩ = some (.int .i64 p.K) ∧ W.cell? ⟨w1.heap.size, 3, none⟩ = some (.slice TA p.T.length tc) ∧ W.cell? ⟨w1.heap.size, 4, none⟩ = some (.slice FA p.T.length fc)) from
    have hz := hb5.trans (hW.mono hb5.size)
    ⟨(hz.cell (p := ⟨w1.heap.size, 0, none⟩) hgs).trans hg3.1, (hz.cell (p := ⟨w1.heap.size, 1, none⟩) hgs).trans hg3.2.1, (hz.cell (p := ⟨w1.heap.size, 2, none⟩) hgs).trans hg3.2.2.1, (hz.cell (p := ⟨w1.heap.size, 3, none⟩) hgs).trans hg3.2.2.2.1, (hz.cell (p := ⟨w1.heap.size, 4, none⟩) hgs).trans hg3.2.2.2.2⟩)
  have HSe := Lib.hid hSe
  clear hF hF2 hSe hg3
  go_loopw [10, 11, 31] (fun a l i wr => ∃ (k m : Nat) (last : Int), k ≤ cs.length ∧ i = .int .i64 k ∧ a = .int .u8 m ∧ l = .int .i64 last ∧ m < 256 ∧ Hid (v = shE n sh m last (cs.drop k)) ∧ Hid (∀ x ∈ cs.drop k, last < x) ∧ Below w5.heap.size w5 wr) (fun _ _ i _ => cs.length - (intOf i).toNat)
  case atStart => exact ⟨0, U, -1, Nat.zero_le _, rfl, rfl, rfl, hU8, HV, Lib.hid (fun x hx => by have := (HIn.out x hx).1; omega), Below.refl _ _⟩
  case round =>
    obtain ⟨k, m, last, hk, rfl, rfl, rfl, hm8, HK, HLa, hbr⟩ := hrel
    have hbwr := hbw5.trans (hbr.mono hbw5.size)
    by_cases hlt : k < cs.length
    · have hx : cs[k]? = some cs[k] := List.getElem?_eq_getElem hlt
      obtain ⟨i1, i2⟩ := HIn.out _ (mem_of_get hx)
      obtain ⟨cb, co, rfl, hcb, d1⟩ := (HD2.out.up hbwr) k _ hx
      have e1 := HK.out
      have hla := HLa.out
      rw [drop_cons hx] at e1 hla
      have hlx := hla cs[k] List.mem_cons_self
      have HNx := Lib.hid (show ∀ x ∈ cs.drop (k + 1), cs[k] < x from by
        have := HAs.out
        rw [← List.take_append_drop k cs] at this
        have h2 := (List.pairwise_append.1 this).2.1
        rw [drop_cons hx] at h2
        exact (List.pairwise_cons.1 h2).1)
      rw [shE, if_neg (by simp only [Classical.not_not]; exact ⟨i1, i2⟩), if_neg (by omega)] at e1
      clear hx hla
      generalize cs[k] = y at *
      obtain ⟨u, rfl⟩ : ∃ u : Nat, y = (u : Int) := ⟨y.toNat, by omega⟩
      rw [Int.toNat_natCast] at e1
      have hun : u < sh.length := by have := HL.out; omega
      have hxs : sh[u]? = some sh[u] := List.getElem?_eq_getElem hun
      have hx8 := H8.out _ (mem_of_get hxs)
      rw [show sh.getD u 0 = sh[u] by rw [List.getD_eq_getElem?_getD, hxs]; rfl] at e1
      obtain ⟨eb, eo, rfl, heb, d2⟩ := (HSe.out.up hbr) u _ hxs
      generalize sh[u] = x at *
      have hor := u8_andNot_nat m x hm8 hx8
      rw [show m &&& (255 - x) = minusN m x from rfl] at hor
      have hm28 := minusN_lt (b := x) hm8
      generalize minusN m x = m2 at *
      have HE := Lib.hid e1
      have hki : (k : Int) < (cs.length : Int) := by omega
      have hui : (u : Int) < (sh.length : Int) := by omega
      have hnu : ¬ (n : Int) ≤ (u : Int) := by omega
      have hlu : ¬ (u : Int) ≤ last := by omega
      have hu0 : ¬ (u : Int) < 0 := by omega
      obtain ⟨p0, p1, p2, p3, p4⟩ := HG.out _ hbr
      clear e1 hxs i1 i2
      go_wp2_with (go_at_call 88; refine (HCe.out _ _ _).mono ?_; rintro e w7 ⟨rfl, hb7⟩; have d3 := (hb7.cell (p := ⟨eb, eo + u, none⟩) heb).trans d2)
      go_roundw
      case rel => exact ⟨k + 1, m2, u, by omega, by go_num, rfl, rfl, hm28, HE, HNx, hbr.trans (hb7.mono hbr.size)⟩
      case measure => simp [intOf]; omega
    · have e1 := HK.out
      rw [List.drop_of_length_le (by omega), shE] at e1
      have hki : ¬ (k : Int) < (cs.length : Int) := by omega
      by_cases hz : m = 0
      · subst hz
        have HE := Lib.hid (e1.trans (if_pos rfl))
        clear e1
        go_wp2
        go_ret
        exact ⟨by rw [HE.out]; rfl, hbwr⟩
      · have HE := Lib.hid (e1.trans (if_neg hz))
        have hmz : ((m : Int) != 0) = true := by simpa using hz
        clear e1
        go_wp2
        go_ret
        exact ⟨by rw [HE.out]; rfl, hbwr⟩
end Go.Proofs.YtbcbaaapogejiaaDoor
