/-
  The reference: the fewest cells that show all turns.
-/
import Derived.Test.YtbcbaaapogejiaaDoorCelH
namespace Go.Proofs.YtbcbaaapogejiaaDoor
open Go.RowKit

theorem find_at {α : Type} {P : α → Bool} : ∀ {L : List α} {m : Nat} {x : α}, L[m]? = some x → P x = true → (L.take m).all (fun y => !P y) = true → L.find? P = some x
  | [], m, x, h, _, _ => by simp at h
  | y :: L, 0, x, h, hp, _ => by
    have e : y = x := by simpa using h
    rw [e, List.find?_cons, hp]
  | y :: L, m + 1, x, h, hp, ha => by
    rw [List.take_succ_cons, List.all_cons, Bool.and_eq_true] at ha
    rw [List.find?_cons, show P y = false by simpa using ha.1]
    exact find_at (by simpa using h) hp ha.2
theorem find_noneA {α : Type} {P : α → Bool} {L : List α} (h : L.all (fun y => !P y) = true) : L.find? P = none := by
  rw [List.find?_eq_none]
  intro x hx
  rw [List.all_eq_true] at h
  simpa using h x hx

set_option maxRecDepth 100000 in
set_option maxHeartbeats 2000000 in
theorem refCells_ok (p : Pr) (hp : p.Ok) (A X : Option Addr) (c xc : Nat) (b : List Int) (r : List Nat) (sz : Nat) (w : World) (hT : IntsAt w w.heap.size A (intsN p.T)) (hX : IntsAt w w.heap.size X b) (hb : BackOk p b)
    (hsz : sz ≤ p.n) (hno : ∀ s, s < sz → ∀ l ∈ lsF p.n s 0, showsB p b l = false) (hyes : (lsF p.n sz 0).find? (showsB p b) = some r) :
    Calls Tryd.prog 44 #[.agg #[.int .i64 p.R, .int .i64 p.C, .int .i64 p.K, .slice A p.T.length c], .slice X b.length xc] w (RetIE w (intsN r) 0) := by
  have hb1 := below_new w (.cells #[.int .i64 p.R, .int .i64 p.C, .int .i64 p.K, .slice A p.T.length c] 32)
  have hc1 := own_cells4 w (.int .i64 p.R) (.int .i64 p.C) (.int .i64 p.K) (.slice A p.T.length c) 32
  have hz1 : w.heap.size < (w.alloc (.cells #[.int .i64 p.R, .int .i64 p.C, .int .i64 p.K, .slice A p.T.length c] 32)).heap.size := by simp
  have HVl := Lib.hid (refVal_ok p hp A X c xc b _ (hT.up hb1) (hX.up hb1) hb)
  have hn16 := hp.n16.2
  have hbl := Lib.hid hb.1
  have HSh := Lib.hid (fun W E (e : Nat) (x : List Nat) (hW : Below w.heap.size w W) (hE : IntsAt W W.heap.size E (intsN x)) (hx : ∀ y ∈ x, y < p.n) (hxl : x.length < 1000) => refShows0_ok p hp A X E c xc e b x W (hT.up hW) (hX.up hW) hE hb hx hxl)
  have HLi := Lib.hid (fun (s : Nat) (W : World) (hs : s ≤ 17) => show Calls Tryd.prog 98 #[.int .i64 s, .int .i64 b.length, .slice none 0 0] W (RetLs none W ((lsF p.n s 0).map intsN)) from by
    have h := refLists_any p.n hp.n16.2 s s 0 none 0 [] W (by simp) hs (fun k x h => by simp at h) (fun a h => by cases h) (.inl ⟨rfl, rfl⟩) (Nat.zero_le _)
    rw [hb.1]
    simpa using h)
  have HNo := Lib.hid hno
  have HYes := Lib.hid hyes
  clear hp hb hX hT hno hyes
  go_enter Tryd.func44, Tryd.ntmps44
  go_upto_region 4 with (go_at_call 77; ((with_reducible refine (HVl.out).mono ?_); rintro e w4 ⟨rfl, hb2⟩))
  have hbw : Below w.heap.size w w4 := hb1.trans (hb2.mono hb1.size)
  have hz4 : w.heap.size < w4.heap.size := Nat.lt_of_lt_of_le hz1 hb2.size
  have HH := Lib.hid (fun (W : World) (h : Below w4.heap.size w4 W) => show W.cell? ⟨w.heap.size, 0, none⟩ = some (.int .i64 p.R) ∧ W.cell? ⟨w.heap.size, 1, none⟩ = some (.int .i64 p.C) ∧ W.cell? ⟨w.heap.size, 2, none⟩ = some (.int .i64 p.K) ∧ W.cell? ⟨w.heap.size, 3, none⟩ = some (.slice A p.T.length c) from
    ⟨(h.cell (p := ⟨w.heap.size, 0, none⟩) hz4).trans ((hb2.cell (p := ⟨w.heap.size, 0, none⟩) hz1).trans hc1.1), (h.cell (p := ⟨w.heap.size, 1, none⟩) hz4).trans ((hb2.cell (p := ⟨w.heap.size, 1, none⟩) hz1).trans hc1.2.1), (h.cell (p := ⟨w.heap.size, 2, none⟩) hz4).trans ((hb2.cell (p := ⟨w.heap.size, 2, none⟩) hz1).trans hc1.2.2.1), (h.cell (p := ⟨w.heap.size, 3, none⟩) hz4).trans ((hb2.cell (p := ⟨w.heap.size, 3, none⟩) hz1).trans hc1.2.2.2)⟩)
  clear hc1 hb2 hb1 HVl
  go_wp2
  go_loopw [7] (fun i wr => ∃ s : Nat, s ≤ sz ∧ i = .int .i64 s ∧ Below w4.heap.size w4 wr) (fun i _ => sz + 1 - (intOf i).toNat)
  case atStart => exact ⟨0, Nat.zero_le _, rfl, Below.refl _ _⟩
  case round =>
    obtain ⟨s, hs, rfl, hbr⟩ := hrel
    have HF := Lib.hid (hbw.trans (hbr.mono hbw.size))
    have HNs := Lib.hid (fun (h : s < sz) => HNo.out s h)
    have HYs := Lib.hid (fun (h : s = sz) => show (lsF p.n s 0).find? (showsB p b) = some r from by rw [h]; exact HYes.out)
    have HIn := Lib.hid (lsF_in p.n s 0)
    have HLc := Lib.hid (show (lsF p.n s 0).length ≤ 65536 from by
      have h1 := lsF_count p.n s 0
      have h2 : 2 ^ p.n ≤ 2 ^ 16 := Nat.pow_le_pow_right (by omega) hn16
      have h3 : (2 : Nat) ^ 16 = 65536 := by decide
      omega)
    have HL := Lib.hid (HLi.out s wr (by omega))
    generalize lsF p.n s 0 = L at *
    go_wp2_with (go_at_call 98; go_must (refine (HL.out).mono ?_; rintro e w5 ⟨D, d, rfl, _, hLs, hb5⟩))
    have HLs := Lib.hid hLs
    have hlm : (L.map intsN).length = L.length := by simp
    have hb45 : Below w4.heap.size w4 w5 := hbr.trans (hb5.mono hbr.size)
    clear hLs hb5 hlm HL HLi
    go_wp2
    go_loopw [9] (fun i wr2 => ∃ m : Nat, m ≤ L.length ∧ i = .int .i64 m ∧ Hid ((L.take m).all (fun y => !showsB p b y) = true) ∧ Below w5.heap.size w5 wr2) (fun i _ => L.length - (intOf i).toNat)
    case atStart => exact ⟨0, Nat.zero_le _, rfl, Lib.hid rfl, Below.refl _ _⟩
    case round =>
      obtain ⟨m, hm, rfl, HM, hb2⟩ := hrel
      have hb42 : Below w4.heap.size w4 wr := hb45.trans (hb2.mono hb45.size)
      have HF2 := Lib.hid (hbw.trans (hb42.mono hbw.size))
      obtain ⟨p0, p1, p2, p3⟩ := HH.out _ hb42
      by_cases hlt : m < L.length
      · have hx : L[m]? = some L[m] := List.getElem?_eq_getElem hlt
        obtain ⟨hxl, hxin⟩ := HIn.out _ (mem_of_get hx)
        have HFa := Lib.hid (fun (h : showsB p b L[m] = true) => find_at hx h HM.out)
        have HNt := Lib.hid (fun (h : s < sz) => HNs.out h _ (mem_of_get hx))
        have HNx := Lib.hid (fun (h : showsB p b L[m] = false) => show (L.take (m + 1)).all (fun y => !showsB p b y) = true from by rw [take_snoc hx, List.all_append, HM.out]; simp [h])
        have hxm : (L.map intsN)[m]? = some (intsN L[m]) := by rw [List.getElem?_map, hx]; rfl
        obtain ⟨lb, lo, E, e, rfl, hlb, d, hE⟩ := (HLs.out.up hb2) m _ hxm
        rw [intsN_len] at d
        clear hx hxm
        generalize L[m] = x at *
        have HXl := Lib.hid hxl
        clear hxl
        have hmi : (m : Int) < (L.length : Int) := by omega
        have hm0 : (0 : Int) ≤ (m : Int) := by omega
        have hwz : w.heap.size < wr.heap.size := Nat.lt_of_lt_of_le hz4 hb42.size
        have HKK := Lib.hid (fun (W : World) (h : Below wr.heap.size wr W) => show Below wr.heap.size wr W ∧ W.cell? ⟨w.heap.size, 0, none⟩ = some (.int .i64 p.R) ∧ W.cell? ⟨w.heap.size, 1, none⟩ = some (.int .i64 p.C) ∧ W.cell? ⟨w.heap.size, 2, none⟩ = some (.int .i64 p.K) ∧ W.cell? ⟨w.heap.size, 3, none⟩ = some (.slice A p.T.length c) ∧ W.cell? ⟨lb, lo + m, none⟩ = some (.slice E x.length e) from
          ⟨h, (h.cell (p := ⟨w.heap.size, 0, none⟩) hwz).trans p0, (h.cell (p := ⟨w.heap.size, 1, none⟩) hwz).trans p1, (h.cell (p := ⟨w.heap.size, 2, none⟩) hwz).trans p2, (h.cell (p := ⟨w.heap.size, 3, none⟩) hwz).trans p3, (h.cell (p := ⟨lb, _, none⟩) hlb).trans d⟩)
        have hE2 := Lib.hid (fun (W : World) (h : Below wr.heap.size wr W) => hE.up h)
        have X99 := Lib.hid (fun W (Q : Ending → World → Prop) (h : Below wr.heap.size wr W) (hQ : ∀ w', Below wr.heap.size wr w' → Q (.returned (.bool (showsB p b x))) w') =>
          (HSh.out W E e x (HF2.out.trans (h.mono HF2.out.size)) (hE2.out W h) (fun y hy => by have := hxin y hy; omega) (by have := HXl.out; omega)).mono fun e w' ⟨he, hb⟩ => by rw [he]; exact hQ w' (h.trans (hb.mono h.size)))
        have hbd := (Below.refl wr.heap.size wr).drew
        clear hxin hE d
        rcases hsb : showsB p b x with _ | _
        · rw [hsb] at X99
          have HN := Lib.hid (HNx.out hsb)
          clear hsb
          go_upto_region 10 with (fail)
          clear p0 p1 p2 p3
          go_region_held3 (fun W => Below wr.heap.size wr W ∧ W.cell? ⟨w.heap.size, 0, none⟩ = some (.int .i64 p.R) ∧ W.cell? ⟨w.heap.size, 1, none⟩ = some (.int .i64 p.C) ∧ W.cell? ⟨w.heap.size, 2, none⟩ = some (.int .i64 p.K) ∧ W.cell? ⟨w.heap.size, 3, none⟩ = some (.slice A p.T.length c) ∧ W.cell? ⟨lb, lo + m, none⟩ = some (.slice E x.length e))
            (exact HKK.out _ (by assumption))
            (first
              | (go_at_call 99; with_reducible refine X99.out _ _ (by assumption) ?_; intro w6 hb6))
          all_goals
            have hLc := HLc.out
            go_wp2
            go_roundw
            case rel => exact ⟨m + 1, by omega, by go_num, HN, hb2.trans (Below.mono hb6 hb2.size)⟩
            case measure => simp [intOf]; omega
        · rw [hsb] at X99
          have HEq := Lib.hid (show s = sz from by
            rcases Nat.lt_or_ge s sz with h | h
            · have h2 := HNt.out h
              rw [hsb] at h2
              cases h2
            · omega)
          have HR := Lib.hid (show x = r from by
            have h1 := HYs.out HEq.out
            rw [HFa.out hsb] at h1
            injection h1)
          clear hsb
          go_upto_region 10 with (fail)
          clear p0 p1 p2 p3
          go_region_held3 (fun W => Below wr.heap.size wr W ∧ W.cell? ⟨w.heap.size, 0, none⟩ = some (.int .i64 p.R) ∧ W.cell? ⟨w.heap.size, 1, none⟩ = some (.int .i64 p.C) ∧ W.cell? ⟨w.heap.size, 2, none⟩ = some (.int .i64 p.K) ∧ W.cell? ⟨w.heap.size, 3, none⟩ = some (.slice A p.T.length c) ∧ W.cell? ⟨lb, lo + m, none⟩ = some (.slice E x.length e))
            (exact HKK.out _ (by assumption))
            (first
              | (go_at_call 99; with_reducible refine X99.out _ _ (by assumption) ?_; intro w6 hb6))
          all_goals
            obtain ⟨_, _, _, _, _, d⟩ := HKK.out w6 hb6
            have HE6 := Lib.hid (hE2.out w6 hb6)
            go_wp2
            go_ret2
            rw [← HR.out]
            exact ⟨E, e, by rw [intsN_len]; rfl, HE6.out, HF2.out.trans (Below.mono hb6 HF2.out.size)⟩
      · have hmi : ¬ (m : Int) < (L.length : Int) := by omega
        have HLt := Lib.hid (show s < sz from by
          rcases Nat.lt_or_ge s sz with h | h
          · exact h
          · exfalso
            have h1 := HYs.out (by omega)
            have h2 := HM.out
            rw [List.take_of_length_le (by omega)] at h2
            rw [find_noneA h2] at h1
            cases h1)
        clear p0 p1 p2 p3
        go_wp2
        go_roundw
        case rel => exact ⟨s + 1, by have := HLt.out; omega, by go_num, hb42⟩
        case measure => have := HLt.out; simp [intOf]; omega
end Go.Proofs.YtbcbaaapogejiaaDoor
