/-
  The reference: in how many ways things are chosen, and rings get colours.
-/
import Derived.Test.YtbcbaaapogejiaaDoorRefL
import Derived.Test.YtbcbaaapogejiaaDoorMathG
import Derived.Laws.OwnMore
namespace Go.Proofs.YtbcbaaapogejiaaDoor
open Go.RowKit

set_option maxHeartbeats 4000000 in
theorem refChosen_any (m n : Nat) (w : World) (hm : m ≤ 16) (hn : n ≤ m) : Calls Tryd.prog 91 #[.int .i64 m, .int .i64 n] w fun e w' => e = .returned (.int .i64 (ch m n : Nat)) ∧ w' = w := by
  have hQ := chQ_eq m (by omega) n hn
  have HQ := Lib.hid hQ.1
  have HB := Lib.hid hQ.2
  clear hQ
  generalize ch m n = V at *
  go_enter Tryd.func91, Tryd.ntmps91
  go_wp2
  go_loopw [5, 6] (fun v i wr => ∃ k p : Nat, k ≤ n ∧ i = .int .i64 (k + 1 : Nat) ∧ v = .int .i64 p ∧ Hid (p = chQ m n k) ∧ wr = w) (fun _ i _ => n + 1 - (intOf i).toNat)
  case atStart => exact ⟨0, 1, Nat.zero_le _, rfl, rfl, Lib.hid rfl, rfl⟩
  case round =>
    obtain ⟨k, p, hk, rfl, rfl, HP, rfl⟩ := hrel
    by_cases hlt : k < n
    · have hki : (k : Int) + 1 ≤ (n : Int) := by omega
      have hp : p ≤ 20000 := by rw [HP.out]; exact HB.out k hk
      have hpk : p * (m - n + (k + 1)) ≤ 20000 * 17 := Nat.mul_le_mul hp (by omega)
      have ec : ((p * (m - n + (k + 1)) : Nat) : Int) = (p : Int) * ((m : Int) - (n : Int) + ((k : Int) + 1)) := by
        rw [Int.natCast_mul, Int.natCast_add, Int.natCast_sub (by omega)]; simp
      have e0 : IntKind.i64.wrap ((m : Int) - (n : Int)) = (m : Int) - n := IntWalk.i64_in _ (by omega)
      have e0b : IntKind.i64.wrap ((m : Int) - (n : Int) + ((k : Int) + 1)) = (m : Int) - n + (k + 1) := IntWalk.i64_in _ (by omega)
      have e1 : IntKind.i64.wrap ((p : Int) * ((m : Int) - (n : Int) + ((k : Int) + 1))) = ((p * (m - n + (k + 1)) : Nat) : Int) := by
        rw [← ec, IntWalk.i64_in _ (by omega)]
      have e3 : Int.tdiv ((p * (m - n + (k + 1)) : Nat) : Int) ((k + 1 : Nat) : Int) = ((p * (m - n + (k + 1)) / (k + 1) : Nat) : Int) := rfl
      have hq : p * (m - n + (k + 1)) / (k + 1) ≤ 20000 * 17 := Nat.le_trans (Nat.div_le_self _ _) hpk
      have HN := Lib.hid (show p * (m - n + (k + 1)) / (k + 1) = chQ m n (k + 1) by rw [HP.out]; rfl)
      have HE := Lib.hid (show (p : Int) * ((m : Int) - n + ((k : Int) + 1)) / ((k : Int) + 1) = ((p * (m - n + (k + 1)) / (k + 1) : Nat) : Int) by rw [← ec]; rfl)
      have hk1 : ((k : Int) + 1 == 0) = false := beq_eq_false_iff_ne.2 (by omega)
      go_wp2
      go_roundw
      case rel => exact ⟨k + 1, p * (m - n + (k + 1)) / (k + 1), by omega, by go_num, congrArg (Value.int .i64) HE.out, HN, trivial⟩
      case measure => simp [intOf]; omega
    · have e : k = n := by omega
      subst e
      have hki : ¬ (k : Int) + 1 ≤ (k : Int) := by omega
      go_wp2
      go_ret
      exact ⟨by rw [← HQ.out, ← HP.out]; rfl, rfl⟩

def natsV (l : List Nat) : List Value := (intsN l).map (Value.int .i64)
theorem natsV_set (l : List Nat) (i n : Nat) : (natsV l).set i (.int .i64 n) = natsV (l.set i n) := by unfold natsV intsN; rw [List.map_set, List.map_set]
theorem natsV_len (l : List Nat) : (natsV l).length = l.length := by unfold natsV; rw [List.length_map, intsN_len]
theorem natsV_get {l : List Nat} {i n : Nat} (h : l[i]? = some n) : (natsV l)[i]? = some (.int .i64 n) := by unfold natsV; rw [List.getElem?_map, intsN_get h]; rfl

/-- A number is handed back, and a row of the caller's holds what it held. -/
def RetRow (w : World) (g n c : Nat) (xs : List Nat) (v : Nat) (e : Ending) (w' : World) : Prop := e = .returned (.int .i64 v) ∧ w'.ownsRow g 3 1 (.slice (some ⟨g, 0, none⟩) n c) n (natsV xs) ∧ Chg (fun j => j = g) w w'

theorem cell_drawN (w : World) (q : Nat) (p : Addr) : (w.drewN q).cell? p = w.cell? p := (below_drewN (Below.refl (w.heap.size + p.block + 1) w) q).cell (p := p) (by omega)
theorem chg_drawN (P : Nat → Prop) (w : World) (q : Nat) : Chg P w (w.drewN q) := Chg.of_below (below_drewN (Below.refl _ _) q)

set_option maxRecDepth 100000 in
set_option maxHeartbeats 8000000 in
theorem refPainted_any : ∀ (rs xs : List Nat) (RA : Option Addr) (rc g dc : Nat) (w : World), IntsAt w w.heap.size RA (intsN rs) → (∀ ad, RA = some ad → ad.block ≠ g) → rs.length ≤ rc → w.ownsRow g 3 1 (.slice (some ⟨g, 0, none⟩) xs.length dc) xs.length (natsV xs) → xs.length ≤ 4 → rs.length ≤ 16 → (∀ a ∈ xs, a ≤ 16) → (∀ r ∈ rs, r ≤ 16) →
    Calls Tryd.prog 92 #[.slice RA rs.length rc, .slice (some ⟨g, 0, none⟩) xs.length dc] w (RetRow w g xs.length dc xs (pntN rs xs))
  | [], xs, RA, rc, g, dc, w, _, _, _, hown, _, _, _, _ => by
    have HO := Lib.hid hown
    clear hown
    go_enter Tryd.func92, Tryd.ntmps92
    go_wp2
    go_ret
    exact ⟨rfl, HO.out, Chg.refl _ _⟩
  | r :: rs, xs, RA, rc, g, dc, w, hR, hne, hrc, hown, h4, h16, ha, hr => by
    obtain ⟨b, off, rfl, hb, hd⟩ := hR 0 r rfl
    have hbg : b ≠ g := hne _ rfl
    have hr16 := hr r (by simp)
    have hgs : g < w.heap.size := (hown.lt _ rfl).2
    have HA := Lib.hid ha
    have HIH := Lib.hid (fun (bs : List Nat) (W : World) (hW : Chg (fun j => j = g) w W) (hl : bs.length = xs.length) (ho : W.ownsRow g 3 1 (.slice (some ⟨g, 0, none⟩) xs.length dc) xs.length (natsV bs)) (hbs : ∀ a ∈ bs, a ≤ 16) =>
      show Calls Tryd.prog 92 #[.slice (if rc = 1 then some ⟨b, off, none⟩ else some ⟨b, off + 1, none⟩) rs.length (rc - 1), .slice (some ⟨g, 0, none⟩) xs.length dc] W (RetRow W g xs.length dc bs (pntN rs bs)) from by
        have h := refPainted_any rs bs (if rc = 1 then some ⟨b, off, none⟩ else some ⟨b, off + 1, none⟩) (rc - 1) g dc W (by
          intro k x hx
          have hkx : k < rs.length := by have := lt_of_get hx; rw [intsN_len] at this; exact this
          have hc1 : ¬ rc = 1 := by simp only [List.length_cons] at hrc; omega
          rw [if_neg hc1]
          obtain ⟨b', off', e, h1, h2⟩ := hR (k + 1) x (by simpa [intsN] using hx)
          injection e with e; injection e with e1 e2
          subst e1 e2
          exact ⟨b, off + 1, rfl, Nat.lt_of_lt_of_le hb hW.size, (hW.cell (p := ⟨b, _, none⟩) hb hbg).trans (by rw [show off + 1 + k = off + (k + 1) by omega]; exact h2)⟩)
          (by intro ad h; split at h <;> (injection h with h; rw [← h]; exact hbg)) (by simp only [List.length_cons] at hrc; omega) (by rw [hl]; exact ho) (by rw [hl]; exact h4) (by simp only [List.length_cons] at h16; omega) hbs (fun x hx => hr x (by simp [hx]))
        rw [hl] at h
        exact h)
    have HPL := Lib.hid (fun (bs : List Nat) (hl : bs.length = xs.length) => show pntN rs bs ≤ 4294967296 from Nat.le_trans (pnt_le rs bs) (by
      rw [hl]
      exact Nat.le_trans (Nat.pow_le_pow_left h4 _) (Nat.le_trans (Nat.pow_le_pow_right (by omega) (show rs.length ≤ 16 by simp only [List.length_cons] at h16; omega)) (by decide))))
    obtain ⟨V, hV⟩ : ∃ V, V = pntN (r :: rs) xs := ⟨_, rfl⟩
    rw [← hV]
    have HV := Lib.hid (show V = ssum (takeAt (pntN rs) r xs) xs.length by rw [hV, pntN, takes_sum])
    have hd' : w.cell? ⟨b, off, none⟩ = some (.int .i64 (r : Int)) := hd
    have HD := Lib.hid (fun W (hW : Chg (fun j => j = g) w W) => show W.cell? ⟨b, off, none⟩ = some (.int .i64 (r : Int)) from (hW.cell (p := ⟨b, off, none⟩) hb hbg).trans hd')
    have hrne : ((rs.length : Int) + 1 == 0) = false := beq_eq_false_iff_ne.2 (by omega)
    have hln : (((r :: rs).length : Nat) : Int) = ((rs.length + 1 : Nat) : Int) := rfl
    clear hR hne ha hr hV hd hd'
    go_enter Tryd.func92, Tryd.ntmps92
    go_wp2
    go_loopw [5, 6] (fun v i wr => ∃ k S : Nat, k ≤ xs.length ∧ i = .int .i64 k ∧ v = .int .i64 S ∧ Hid (S = ssum (takeAt (pntN rs) r xs) k) ∧ S ≤ k * 4294967296 ∧ wr.ownsRow g 3 1 (.slice (some ⟨g, 0, none⟩) xs.length dc) xs.length (natsV xs) ∧ Chg (fun j => j = g) w wr) (fun _ i _ => xs.length - (intOf i).toNat)
    case atStart => exact ⟨0, 0, Nat.zero_le _, rfl, rfl, Lib.hid rfl, Nat.zero_le _, hown, Chg.refl _ _⟩
    case round =>
      clear hown
      obtain ⟨k, S, hk, rfl, rfl, HS, hSb, hown, hcw⟩ := hrel
      have hS8 : S ≤ 4 * 4294967296 := Nat.le_trans hSb (Nat.mul_le_mul_right _ (by omega))
      by_cases hlt : k < xs.length
      · have hx : xs[k]? = some xs[k] := List.getElem?_eq_getElem hlt
        have ha16 := HA.out _ (mem_of_get hx)
        have hgd : xs.getD k 0 = xs[k] := by rw [List.getD_eq_getElem?_getD, hx]; rfl
        have HN := Lib.hid (show S + takeAt (pntN rs) r xs k = ssum (takeAt (pntN rs) r xs) (k + 1) by rw [HS.out]; rfl)
        have ca := hown.cellAt k (by omega)
        rw [natsV_get hx] at ca
        have fa := hown.frozenAt k
        have cr := HD.out _ hcw
        have HTk := Lib.hid (show takeAt (pntN rs) r xs k = if r ≤ xs[k] then pntN rs (xs.set k (xs[k] - r)) else 0 by unfold takeAt; rw [hgd])
        have HSet := Lib.hid (show (xs.set k (xs[k] - r)).set k xs[k] = xs by rw [List.set_set]; exact List.set_getElem_self hlt)
        generalize xs[k] = a at *
        have hki : (k : Int) < (xs.length : Int) := by omega
        have hk0 : (0 : Int) ≤ (k : Int) := by omega
        have hr0 : (0 : Int) < (rs.length : Int) + 1 := by omega
        clear hx hgd
        by_cases hra : r ≤ a
        · have hrai : (r : Int) ≤ (a : Int) := by omega
          have hrad : decide ((r : Int) ≤ (a : Int)) = true := decide_eq_true hrai
          have hrad2 : decide (r ≤ a) = true := decide_eq_true hra
          have e1 : IntKind.i64.wrap ((a : Int) - (r : Int)) = ((a - r : Nat) : Int) := (IntWalk.i64_in _ (by omega)).trans (by omega)
          have hlS : (xs.set k (a - r)).length = xs.length := List.length_set
          have HY := Lib.hid (show takeAt (pntN rs) r xs k = pntN rs (xs.set k (a - r)) by rw [HTk.out, if_pos hra])
          have hyb := HPL.out _ hlS
          have HSt := Lib.hid (fun n => show (((wr.drewN n).setCell ⟨g, k, none⟩ (.int .i64 ((a - r : Nat) : Int))).ownsRow g 3 1 (.slice (some ⟨g, 0, none⟩) xs.length dc) xs.length (natsV (xs.set k (a - r)))) ∧ Chg (fun j => j = g) w ((wr.drewN n).setCell ⟨g, k, none⟩ (.int .i64 ((a - r : Nat) : Int))) from by
            have h1 := own_below hown (below_drewN (Below.refl _ _) n)
            obtain ⟨h2, h3⟩ := h1.stored k (.int .i64 ((a - r : Nat) : Int))
            rw [natsV_set] at h2
            exact ⟨h2, (hcw.trans (chg_drawN _ _ n) (fun _ _ h => h)).trans (Chg.of_grown h3) (fun _ _ h => by injection h)⟩)
          have HBs := Lib.hid (show ∀ x ∈ xs.set k (a - r), x ≤ 16 from fun x hx => by
            rcases List.mem_or_eq_of_mem_set hx with h | h
            · exact HA.out x h
            · omega)
          have HIH2 := Lib.hid (fun W hW ho => HIH.out (xs.set k (a - r)) W hW hlS ho HBs.out)
          have HGet := Lib.hid (show (xs.set k (a - r))[k]? = some (a - r) by rw [List.getElem?_set_self hlt])
          generalize xs.set k (a - r) = ys at *
          generalize hy : pntN rs ys = y at *
          have hyd := Lib.hid hy
          have hsum : (k + 1) * 4294967296 = k * 4294967296 + 4294967296 := by rw [Nat.add_mul, Nat.one_mul]
          have hS2 : S + y ≤ (k + 1) * 4294967296 := by omega
          have e4 : IntKind.i64.wrap ((S : Int) + (y : Int)) = ((S + y : Nat) : Int) := (IntWalk.i64_in _ (by omega)).trans (by omega)
          have HE4 := Lib.hid e4
          have hare : ((a - r : Nat) : Int) + (r : Int) = (a : Int) := by omega
          have HAR := Lib.hid hare
          have HK1 := Lib.hid (show S + y = ssum (takeAt (pntN rs) r xs) (k + 1) by rw [← HN.out, HY.out])
          have hcwH := Lib.hid hcw
          clear hy e4 hare hown hcw HTk HN HY HPL HIH
          go_upto_region 7 with (fail)
          go_quiet (fail)
          go_upto_region 8 with (fail)
          go_region
          clear ca fa cr e1
          go_upto_region 10 with (go_at_call 92; refine (HIH2.out _ (by exact (HSt.out _).2) (by exact (HSt.out _).1)).mono ?_; rintro e w9 ⟨rfl, ho9, hc9⟩; have hcw9 := (HSt.out _).2.trans hc9 (fun _ _ h => h); have ca := ho9.cellAt k (by omega); rw [natsV_get HGet.out] at ca; have fa := ho9.frozenAt k; have cr := HD.out _ hcw9)
          have e5 : IntKind.i64.wrap (((a - r : Nat) : Int) + (r : Int)) = (a : Int) := by rw [HAR.out]; exact IntWalk.i64_in _ (by omega)
          have HRow := Lib.hid (fun n => show (((w9.drewN n).setCell ⟨g, k, none⟩ (.int .i64 (a : Int))).ownsRow g 3 1 (.slice (some ⟨g, 0, none⟩) xs.length dc) xs.length (natsV xs)) ∧ Chg (fun j => j = g) w ((w9.drewN n).setCell ⟨g, k, none⟩ (.int .i64 (a : Int))) from by
            have h1 := own_below ho9 (below_drewN (Below.refl _ _) n)
            obtain ⟨h2, h3⟩ := h1.stored k (.int .i64 (a : Int))
            rw [natsV_set, HSet.out] at h2
            exact ⟨h2, (hcw9.trans (chg_drawN _ _ n) (fun _ _ h => h)).trans (Chg.of_grown h3) (fun _ _ h => by injection h)⟩)
          clear ho9 hc9 hcw9
          go_region
          clear ca fa cr e5
          go_wp2
          go_roundw
          case rel => exact ⟨k + 1, S + y, by omega, by go_num, by first | rfl | (rw [← HE4.out]; rfl) | go_num, HK1, hS2, (HRow.out _).1, (HRow.out _).2⟩
          case measure => simp [intOf]; omega
        · have hrai : ¬ (r : Int) ≤ (a : Int) := by omega
          have hrad : decide ((r : Int) ≤ (a : Int)) = false := decide_eq_false hrai
          have hrad2 : decide (r ≤ a) = false := decide_eq_false hra
          have HK1 := Lib.hid (show S = ssum (takeAt (pntN rs) r xs) (k + 1) by rw [← HN.out, HTk.out, if_neg hra]; rfl)
          have hS2 : S ≤ (k + 1) * 4294967296 := Nat.le_trans hSb (Nat.mul_le_mul_right _ (by omega))
          have HRow := Lib.hid (fun n => show (wr.drewN n).ownsRow g 3 1 (.slice (some ⟨g, 0, none⟩) xs.length dc) xs.length (natsV xs) ∧ Chg (fun j => j = g) w (wr.drewN n) from ⟨own_below hown (below_drewN (Below.refl _ _) n), hcw.trans (chg_drawN _ _ n) (fun _ _ h => h)⟩)
          clear hown hcw
          go_upto_region 7 with (fail)
          go_quiet (fail)
          clear ca fa cr
          go_wp2
          go_roundw
          case rel => exact ⟨k + 1, S, by omega, by go_num, rfl, HK1, hS2, (HRow.out _).1, (HRow.out _).2⟩
          case measure => simp [intOf]; omega
      · have e : k = xs.length := by omega
        have HE := Lib.hid (show V = S by rw [HV.out, HS.out, e])
        have HF := Lib.hid (show wr.ownsRow g 3 1 (.slice (some ⟨g, 0, none⟩) xs.length dc) xs.length (natsV xs) ∧ Chg (fun j => j = g) w wr from ⟨hown, hcw⟩)
        have hki : ¬ (k : Int) < (xs.length : Int) := by omega
        clear e hown hcw
        go_wp2
        go_ret
        exact ⟨by rw [HE.out]; rfl, HF.out.1, HF.out.2⟩
end Go.Proofs.YtbcbaaapogejiaaDoor
