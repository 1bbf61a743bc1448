/-
  In how many ways loops get colours, walked.
-/
import Derived.Test.YtbcbaaapogejiaaDoorCntD
import Derived.Test.YtbcbaaapogejiaaDoorTurB
namespace Go.Proofs.YtbcbaaapogejiaaDoor
open Go.RowKit

theorem bsum_pow (m : Nat) : ∀ n, bsum n (fun _ j => m ^ j) = (m + 1) ^ n
  | 0 => rfl
  | n + 1 => by
    rw [bsum]
    have e1 : bsum n (fun _ j => m ^ (j + 1)) = m * bsum n (fun _ j => m ^ j) := by
      rw [← bsum_mul]
      exact bsum_congr fun i j => by rw [Nat.pow_succ, Nat.mul_comm]
    rw [e1, bsum_pow m n, Nat.pow_succ, Nat.mul_add, Nat.mul_one, Nat.mul_comm]
theorem wB_le : ∀ (xs : List Nat) (l : Lp), wB xs l ≤ (xs.length + 1) ^ l.all
  | [], l => by simp [wB]
  | a :: xs, l => by
    rw [wB]
    have h1 : ∀ f' f t' t, (bsum l.o fun o' o => if o' + 2 * t' + 4 * f' = a then wB xs ⟨o, t, f⟩ else 0) ≤ (xs.length + 1) ^ t * (xs.length + 1) ^ f * (xs.length + 2) ^ l.o := by
      intro f' f t' t
      refine Nat.le_trans (bsum_le (G := fun _ j => ((xs.length + 1) ^ t * (xs.length + 1) ^ f) * (xs.length + 1) ^ j) fun i j _ => ?_) ?_
      · split
        · refine Nat.le_trans (wB_le xs _) (Nat.le_of_eq ?_)
          simp only [Lp.all, Nat.pow_add]
          rw [Nat.mul_assoc, Nat.mul_comm]
        · exact Nat.zero_le _
      · rw [bsum_mul, bsum_pow]
        exact Nat.le_refl _
    have h2 : ∀ f' f, (bsum l.t fun t' t => bsum l.o fun o' o => if o' + 2 * t' + 4 * f' = a then wB xs ⟨o, t, f⟩ else 0) ≤ (xs.length + 1) ^ f * (xs.length + 2) ^ l.o * (xs.length + 2) ^ l.t := by
      intro f' f
      refine Nat.le_trans (bsum_le (G := fun _ j => ((xs.length + 1) ^ f * (xs.length + 2) ^ l.o) * (xs.length + 1) ^ j) fun i j _ => ?_) ?_
      · refine Nat.le_trans (h1 f' f i j) (Nat.le_of_eq ?_)
        rw [Nat.mul_assoc, Nat.mul_comm]
      · rw [bsum_mul, bsum_pow]
        exact Nat.le_refl _
    refine Nat.le_trans (bsum_le (G := fun _ j => ((xs.length + 2) ^ l.o * (xs.length + 2) ^ l.t) * (xs.length + 1) ^ j) fun i j _ => ?_) ?_
    · refine Nat.le_trans (h2 i j) (Nat.le_of_eq ?_)
      rw [Nat.mul_assoc, Nat.mul_comm]
    · rw [bsum_mul, bsum_pow, List.length_cons, Lp.all, Nat.pow_add, Nat.pow_add]
      exact Nat.le_refl _
theorem withN_le {xs : List Nat} {l : Lp} (h4 : xs.length ≤ 4) (hl : l.all ≤ 16) : withN xs l ≤ 152587890625 := by
  rw [withN_eq]
  refine Nat.le_trans (wB_le xs l) (Nat.le_trans (Nat.pow_le_pow_left (show xs.length + 1 ≤ 5 by omega) _) (Nat.le_trans (Nat.pow_le_pow_right (by omega) hl) (by decide)))
theorem inS_mono (W : Lp → Nat) (a : Nat) (l : Lp) (f' : Nat) : ∀ {j k : Nat}, j ≤ k → inS W a l f' j ≤ inS W a l f' k
  | j, 0, h => by rw [show j = 0 by omega]; exact Nat.le_refl _
  | j, k + 1, h => by
    rcases Nat.lt_or_ge j (k + 1) with h1 | h1
    · exact Nat.le_trans (inS_mono W a l f' (show j ≤ k by omega)) (Nat.le_add_right _ _)
    · rw [show j = k + 1 by omega]; exact Nat.le_refl _
theorem outS_mono (W : Lp → Nat) (a : Nat) (l : Lp) : ∀ {j k : Nat}, j ≤ k → outS W a l j ≤ outS W a l k
  | j, 0, h => by rw [show j = 0 by omega]; exact Nat.le_refl _
  | j, k + 1, h => by
    rcases Nat.lt_or_ge j (k + 1) with h1 | h1
    · exact Nat.le_trans (outS_mono W a l (show j ≤ k by omega)) (Nat.le_add_right _ _)
    · rw [show j = k + 1 by omega]; exact Nat.le_refl _
theorem part_le {xs : List Nat} {a : Nat} {l : Lp} (h4 : (a :: xs).length ≤ 4) (hl : l.all ≤ 16) {f' t' : Nat} (hf : f' ≤ l.f) (ht : t' ≤ l.t + 1) : outS (withN xs) a l f' + inS (withN xs) a l f' t' ≤ 152587890625 := by
  refine Nat.le_trans ?_ (withN_le (xs := a :: xs) h4 hl)
  refine Nat.le_trans (Nat.add_le_add_left (inS_mono (withN xs) a l f' ht) _) ?_
  exact outS_mono (withN xs) a l (show f' + 1 ≤ l.f + 1 by omega)
theorem ch_le : ∀ n k, ch n k ≤ 2 ^ n
  | n, 0 => by cases n <;> simp [ch] <;> exact Nat.one_le_two_pow
  | 0, k + 1 => by simp [ch]
  | n + 1, k + 1 => by rw [ch, Nat.pow_succ]; have := ch_le n k; have := ch_le n (k + 1); omega
theorem ch16 {n : Nat} (h : n ≤ 16) (k : Nat) : ch n k ≤ 65536 := Nat.le_trans (ch_le n k) (Nat.le_trans (Nat.pow_le_pow_right (by omega) h) (by decide))

theorem lp_new3 (W : World) (a b c : Int) : (W.alloc (.cells #[.int .i64 a, .int .i64 b, .int .i64 c] 125)).cell? ⟨W.heap.size, 0, none⟩ = some (.int .i64 a) ∧ (W.alloc (.cells #[.int .i64 a, .int .i64 b, .int .i64 c] 125)).cell? ⟨W.heap.size, 1, none⟩ = some (.int .i64 b) ∧ (W.alloc (.cells #[.int .i64 a, .int .i64 b, .int .i64 c] 125)).cell? ⟨W.heap.size, 2, none⟩ = some (.int .i64 c) :=
  ⟨by rw [cell_of_row _ _ _ _ _ _ (heap_new _ _)]; rfl, by rw [cell_of_row _ _ _ _ _ _ (heap_new _ _)]; rfl, by rw [cell_of_row _ _ _ _ _ _ (heap_new _ _)]; rfl⟩

set_option maxRecDepth 100000 in
set_option maxHeartbeats 8000000 in
theorem with_any : ∀ (xs : List Nat) (l : Lp) (A : Option Addr) (c : Nat) (w : World), IntsAt w w.heap.size A (intsN xs) → xs.length ≤ 4 → xs.length ≤ c → l.all ≤ 16 → (∀ a ∈ xs, a ≤ 16) →
    Calls Tryd.prog 90 #[.agg #[.int .i64 l.o, .int .i64 l.t, .int .i64 l.f], .slice A xs.length c] w fun e w' => e = .returned (.int .i64 (withN xs l : Nat)) ∧ Below w.heap.size w w'
  | [], l, A, c, w, hA, h4, hc, hl, ha => by
    go_enter Tryd.func90, Tryd.ntmps90
    go_wp2
    go_ret
    exact ⟨rfl, below_new _ _⟩
  | a :: xs, l, A, c, w, hA, h4, hc, hl, ha => by
    obtain ⟨b, off, rfl, hb, hd⟩ := hA 0 a rfl
    have hpl := fun {f' t' : Nat} (hf : f' ≤ l.f) (ht : t' ≤ l.t + 1) => part_le (xs := xs) (a := a) (l := l) h4 hl hf ht
    have ih := Lib.hid (fun (l' : Lp) (W : World) (hW : Below w.heap.size w W) (h : l'.all ≤ 16) => with_any xs l' (if c = 1 then some ⟨b, off, none⟩ else some ⟨b, off + 1, none⟩) (c - 1) W (by
      intro k x hx
      have hkx : k < xs.length := by have := lt_of_get hx; rw [intsN_len] at this; exact this
      have hc1 : ¬ c = 1 := by simp only [List.length_cons] at hc; omega
      rw [if_neg hc1]
      obtain ⟨b', off', e, h1, h2⟩ := hA (k + 1) x (by simpa [intsN] using hx)
      injection e with e; injection e with e1 e2
      subst e1 e2
      have := hW.size
      exact ⟨b, off + 1, rfl, by omega, (hW.cell (p := ⟨b, _, none⟩) hb).trans (by rw [show off + 1 + k = off + (k + 1) by omega]; exact h2)⟩) (by simp at h4; omega) (by simp at hc; omega) h (fun x hx => ha x (by simp [hx])))
    have ha16 := ha a (by simp)
    obtain ⟨o, t, f⟩ := l
    have hall : o + t + f ≤ 16 := hl
    obtain ⟨Wv, hWv⟩ : ∃ Wv, Wv = withN (a :: xs) ⟨o, t, f⟩ := ⟨_, rfl⟩
    rw [← hWv]
    have HW := Lib.hid (show Wv = outS (withN xs) a ⟨o, t, f⟩ (f + 1) from hWv)
    have HPL := Lib.hid (fun f' t' (hf : f' ≤ f) (ht : t' ≤ t + 1) => hpl (f' := f') (t' := t') hf ht)
    have HWL := Lib.hid (fun l' (h : l'.all ≤ 16) => withN_le (xs := xs) (l := l') (by simp at h4; omega) h)
    have hn : (((a :: xs).length : Nat) : Int) = ((xs.length + 1 : Nat) : Int) := rfl
    have hd' : w.cell? ⟨b, off, none⟩ = some (.int .i64 (a : Int)) := hd
    have hxne : ((xs.length : Int) + 1 == 0) = false := beq_eq_false_iff_ne.2 (by omega)
    have hbb : Below w.heap.size w (w.alloc (.cells #[.int .i64 o, .int .i64 t, .int .i64 f] 125)) := below_new _ _
    clear hA ha hWv hpl hd hl
    go_enter Tryd.func90, Tryd.ntmps90
    go_wp2
    go_loopw [5, 16] (fun v i wr => ∃ (f' S0 : Nat), f' ≤ f + 1 ∧ i = .int .i64 f' ∧ v = .int .i64 S0 ∧ Hid (S0 = outS (withN xs) a ⟨o, t, f⟩ f') ∧ Below (w.heap.size + 1) (w.alloc (.cells #[.int .i64 o, .int .i64 t, .int .i64 f] 125)) wr) (fun _ i _ => f + 1 - (intOf i).toNat)
    case atStart => exact ⟨0, 0, Nat.zero_le _, rfl, rfl, Lib.hid rfl, Below.refl _ _⟩
    case round =>
      obtain ⟨f', S0, hf', rfl, rfl, HS, hbr⟩ := hrel
      have HB := Lib.hid (fun (W : World) (hW : Below (w.heap.size + 1) (w.alloc (.cells #[.int .i64 o, .int .i64 t, .int .i64 f] 125)) W) => show (W.cell? ⟨w.heap.size, 0, none⟩ = some (.int .i64 o) ∧ W.cell? ⟨w.heap.size, 1, none⟩ = some (.int .i64 t) ∧ W.cell? ⟨w.heap.size, 2, none⟩ = some (.int .i64 f)) ∧ W.cell? ⟨b, off, none⟩ = some (.int .i64 (a : Int)) from
        ⟨⟨(hW.cell (p := ⟨w.heap.size, 0, none⟩) (by simp)).trans (lp_new3 w _ _ _).1, (hW.cell (p := ⟨w.heap.size, 1, none⟩) (by simp)).trans (lp_new3 w _ _ _).2.1, (hW.cell (p := ⟨w.heap.size, 2, none⟩) (by simp)).trans (lp_new3 w _ _ _).2.2⟩, (hW.cell (p := ⟨b, off, none⟩) (by show b < w.heap.size + 1; omega)).trans ((hbb.cell (p := ⟨b, off, none⟩) hb).trans hd')⟩)
      obtain ⟨⟨p0, p1, p2⟩, p3⟩ := HB.out _ hbr
      by_cases hlt : f' < f + 1
      · have hfi : (f' : Int) < (f : Int) + 1 := by omega
        go_wp2
        clear p0 p1 p2 p3
        go_loopw [5, 22] (fun v i wr => ∃ (t' S0 : Nat), t' ≤ t + 1 ∧ i = .int .i64 t' ∧ v = .int .i64 S0 ∧ Hid (S0 = outS (withN xs) a ⟨o, t, f⟩ f' + inS (withN xs) a ⟨o, t, f⟩ f' t') ∧ Below (w.heap.size + 1) (w.alloc (.cells #[.int .i64 o, .int .i64 t, .int .i64 f] 125)) wr) (fun _ i _ => t + 1 - (intOf i).toNat)
        case atStart => exact ⟨0, S0, Nat.zero_le _, rfl, rfl, Lib.hid (by rw [HS.out]; rfl), hbr⟩
        case round =>
          clear hbr HS
          obtain ⟨t', S0, ht', rfl, rfl, HS, hbr⟩ := hrel
          obtain ⟨⟨p0, p1, p2⟩, p3⟩ := HB.out _ hbr
          have hwz : w.heap.size < wr.heap.size := by have := hbr.size; simp at this; omega
          by_cases hlt2 : t' < t + 1
          · have hti : (t' : Int) < (t : Int) + 1 := by omega
            have HT := Lib.hid (show inS (withN xs) a ⟨o, t, f⟩ f' (t' + 1) = inS (withN xs) a ⟨o, t, f⟩ f' t' + term (withN xs) a ⟨o, t, f⟩ f' t' from rfl)
            by_cases hc1 : 2 * t' + 4 * f' ≤ a
            · obtain ⟨x, hx⟩ : ∃ x : Nat, x = a - 2 * t' - 4 * f' := ⟨_, rfl⟩
              have ea : (a : Int) - 2 * (t' : Int) - 4 * (f' : Int) = (x : Int) := by omega
              by_cases hc2 : x ≤ o
              · have eo : (o : Int) - (x : Int) = ((o - x : Nat) : Int) := by omega
                have et : (t : Int) - (t' : Int) = ((t - t' : Nat) : Int) := by omega
                have ef : (f : Int) - (f' : Int) = ((f - f' : Nat) : Int) := by omega
                have hxo : ¬ (x : Int) > (o : Int) := by omega
                have hx0 : ¬ (x : Int) < 0 := by omega
                have HX := Lib.hid hx
                have hxa : x ≤ 16 := by omega
                clear hx
                obtain ⟨c1, hc1'⟩ : ∃ c1, c1 = ch o x := ⟨_, rfl⟩
                obtain ⟨c2, hc2'⟩ : ∃ c2, c2 = ch t t' := ⟨_, rfl⟩
                obtain ⟨c3, hc3'⟩ : ∃ c3, c3 = ch f f' := ⟨_, rfl⟩
                obtain ⟨Wr, hWr⟩ : ∃ Wr, Wr = withN xs ⟨o - x, t - t', f - f'⟩ := ⟨_, rfl⟩
                have b1 : c1 ≤ 65536 := by rw [hc1']; exact ch16 (by omega) _
                have b2 : c2 ≤ 65536 := by rw [hc2']; exact ch16 (by omega) _
                have b3 : c3 ≤ 65536 := by rw [hc3']; exact ch16 (by omega) _
                have b12 : c1 * c2 * c3 ≤ 65536 := by
                  rw [hc1', hc2', hc3']
                  refine Nat.le_trans (Nat.mul_le_mul (Nat.mul_le_mul (ch_le o x) (ch_le t t')) (ch_le f f')) ?_
                  rw [← Nat.pow_add, ← Nat.pow_add]
                  exact Nat.le_trans (Nat.pow_le_pow_right (by omega) hall) (by decide)
                have b4 : Wr ≤ 152587890625 := by rw [hWr]; exact HWL.out _ (by simp only [Lp.all]; omega)
                have hterm : term (withN xs) a ⟨o, t, f⟩ f' t' = c1 * c2 * c3 * Wr := by
                  unfold term
                  simp only
                  rw [if_pos ⟨hc1, by rw [← HX.out]; exact hc2⟩, ← HX.out, hc1', hc2', hc3', hWr]
                have HC1 := Lib.hid (fun W => choose_any o x W (by omega) hc2)
                have HC2 := Lib.hid (fun W => choose_any t t' W (by omega) (by omega))
                have HC3 := Lib.hid (fun W => choose_any f f' W (by omega) (by omega))
                rw [← hc1'] at HC1
                rw [← hc2'] at HC2
                rw [← hc3'] at HC3
                have HRr := ih.out ⟨o - x, t - t', f - f'⟩
                rw [← hWr] at HRr
                obtain ⟨P1, hP1⟩ : ∃ P1, P1 = c1 * c2 := ⟨_, rfl⟩
                obtain ⟨P2, hP2⟩ : ∃ P2, P2 = c1 * c2 * c3 := ⟨_, rfl⟩
                obtain ⟨P3, hP3⟩ : ∃ P3, P3 = c1 * c2 * c3 * Wr := ⟨_, rfl⟩
                obtain ⟨S1, hS1⟩ : ∃ S1, S1 = S0 + P3 := ⟨_, rfl⟩
                have HS1 := Lib.hid (show S1 = outS (withN xs) a ⟨o, t, f⟩ f' + inS (withN xs) a ⟨o, t, f⟩ f' (t' + 1) by rw [hS1, hP3, HT.out, hterm, HS.out]; omega)
                have b5 : S1 ≤ 152587890625 := by rw [HS1.out]; exact HPL.out f' (t' + 1) (by omega) (by omega)
                have b6 : P1 ≤ 4294967296 := by rw [hP1]; exact Nat.le_trans (Nat.mul_le_mul b1 b2) (by decide)
                have b7 : P2 ≤ 65536 := by rw [hP2]; exact b12
                have b8 : P3 ≤ 10000000000000000 := by rw [hP3]; exact Nat.le_trans (Nat.mul_le_mul b12 b4) (by decide)
                have e1 : IntKind.i64.wrap ((c1 : Int) * (c2 : Int)) = (P1 : Int) := by rw [hP1] at b6 ⊢; rw [← Int.natCast_mul, IntWalk.i64_in _ (by omega)]
                have e2 : IntKind.i64.wrap ((P1 : Int) * (c3 : Int)) = (P2 : Int) := by rw [show P2 = P1 * c3 by rw [hP2, hP1]] at b7 ⊢; rw [← Int.natCast_mul, IntWalk.i64_in _ (by omega)]
                have e3 : IntKind.i64.wrap ((P2 : Int) * (Wr : Int)) = (P3 : Int) := by rw [show P3 = P2 * Wr by rw [hP3, hP2]] at b8 ⊢; rw [← Int.natCast_mul, IntWalk.i64_in _ (by omega)]
                have e4 : (S0 : Int) + (P3 : Int) = (S1 : Int) := by omega
                have hlx : (1 : Int) ≤ (xs.length : Int) + 1 := by omega
                have hcx : (xs.length : Int) + 1 ≤ (c : Int) := by simp only [List.length_cons] at hc; omega
                have hcn : xs.length + 1 ≤ c := by simp only [List.length_cons] at hc; omega
                clear hP1 hP2 hP3 hS1 hterm hc1' hc2' hc3' hWr b12
                go_upto_region 13 with fail
                have hs3 : w.heap.size + 1 ≤ wr.heap.size := by omega
                have hb3 := below_new wr (.cells #[.int .i64 ((o - x : Nat) : Int), .int .i64 ((t - t' : Nat) : Int), .int .i64 ((f - f' : Nat) : Int)] 125)
                have hr3 := lp_new3 wr ((o - x : Nat) : Int) ((t - t' : Nat) : Int) ((f - f' : Nat) : Int)
                have hs4 : w.heap.size + 1 ≤ (wr.alloc (.cells #[.int .i64 ((o - x : Nat) : Int), .int .i64 ((t - t' : Nat) : Int), .int .i64 ((f - f' : Nat) : Int)] 125)).heap.size := by simp; omega
                have hs5 : wr.heap.size < (wr.alloc (.cells #[.int .i64 ((o - x : Nat) : Int), .int .i64 ((t - t' : Nat) : Int), .int .i64 ((f - f' : Nat) : Int)] 125)).heap.size := by simp
                clear p0 p1 p2 p3
                generalize wr.alloc (.cells #[.int .i64 ((o - x : Nat) : Int), .int .i64 ((t - t' : Nat) : Int), .int .i64 ((f - f' : Nat) : Int)] 125) = w3 at *
                have HS0 := Lib.hid (fun (W : World) (hW : Below w3.heap.size w3 W) => show (W.cell? ⟨w.heap.size, 0, none⟩ = some (.int .i64 o) ∧ W.cell? ⟨w.heap.size, 1, none⟩ = some (.int .i64 t) ∧ W.cell? ⟨w.heap.size, 2, none⟩ = some (.int .i64 f)) ∧ W.cell? ⟨wr.heap.size, 0, none⟩ = some (.int .i64 ((o - x : Nat) : Int)) ∧ W.cell? ⟨wr.heap.size, 1, none⟩ = some (.int .i64 ((t - t' : Nat) : Int)) ∧ W.cell? ⟨wr.heap.size, 2, none⟩ = some (.int .i64 ((f - f' : Nat) : Int)) from
                  ⟨(HB.out _ ((hbr.trans (hb3.mono hs3)).trans (hW.mono hs4))).1, (hW.cell (p := ⟨wr.heap.size, 0, none⟩) hs5).trans hr3.1, (hW.cell (p := ⟨wr.heap.size, 1, none⟩) hs5).trans hr3.2.1, (hW.cell (p := ⟨wr.heap.size, 2, none⟩) hs5).trans hr3.2.2⟩)
                have hbd : Below w3.heap.size w3 w3.drew := (Below.refl _ _).drew
                have HR := Lib.hid (fun W (hW : Below w3.heap.size w3 W) => HRr W ((hbb.trans ((hbr.trans (hb3.mono hs3)).mono (by omega))).trans (hW.mono (by omega))) (by simp only [Lp.all]; omega))
                clear HRr hr3
                refine wp_region_held_drew (S := fun W => Below w3.heap.size w3 W) (by kernel_rfl) (hbd) (fun hHeld => ?_)
                refine wpAnyH_take (i := 0) (v := ?_) rfl (by kernel_rfl) (by kernel_rfl) (by kernel_rfl) (fun _ _ _ h => h) (Or.inl ⟨by rfl, ?_⟩) (by assumption) ?_
                rotate_left
                · intro w hSw; obtain ⟨⟨q0, q1, q2⟩, r0, r1, r2⟩ := HS0.out _ hSw; go_simp; try with_reducible rfl
                try simp only [Act.put, List.getElem_toArray, List.getElem_cons_zero, List.setIfInBounds_toArray, List.set_cons_zero, List.set_cons_succ]
                refine wpAnyH_take (i := 1) (v := ?_) rfl (by kernel_rfl) (by kernel_rfl) (by kernel_rfl) (fun _ _ _ h => h) (Or.inl ⟨by rfl, ?_⟩) (by assumption) ?_
                rotate_left
                · intro w hSw; obtain ⟨⟨q0, q1, q2⟩, r0, r1, r2⟩ := HS0.out _ hSw; go_simp; try with_reducible rfl
                try simp only [Act.put, List.getElem_toArray, List.getElem_cons_zero, List.getElem_cons_succ, List.setIfInBounds_toArray, List.set_cons_zero, List.set_cons_succ]
                refine wpAnyH_take (i := 2) (v := ?_) rfl (by kernel_rfl) (by kernel_rfl) (by kernel_rfl) (fun _ _ _ h => h) (Or.inl ⟨by rfl, ?_⟩) (by assumption) ?_
                rotate_left
                · intro w hSw; obtain ⟨⟨q0, q1, q2⟩, r0, r1, r2⟩ := HS0.out _ hSw; go_simp; try with_reducible rfl
                try simp only [Act.put, List.getElem_toArray, List.getElem_cons_zero, List.getElem_cons_succ, List.setIfInBounds_toArray, List.set_cons_zero, List.set_cons_succ]
                refine wpAnyH_take (i := 3) (v := ?_) rfl (by kernel_rfl) (by kernel_rfl) (by kernel_rfl) (fun _ _ _ h => h) (Or.inl ⟨by rfl, ?_⟩) (by assumption) ?_
                rotate_left
                · intro w hSw; obtain ⟨⟨q0, q1, q2⟩, r0, r1, r2⟩ := HS0.out _ hSw; go_simp; try with_reducible rfl
                try simp only [Act.put, List.getElem_toArray, List.getElem_cons_zero, List.getElem_cons_succ, List.setIfInBounds_toArray, List.set_cons_zero, List.set_cons_succ]
                refine wpAnyH_take (i := 5) (v := ?_) rfl (by kernel_rfl) (by kernel_rfl) (by kernel_rfl) (fun _ _ _ h => h) (Or.inl ⟨by rfl, ?_⟩) (by assumption) ?_
                rotate_left
                · intro w hSw; obtain ⟨⟨q0, q1, q2⟩, r0, r1, r2⟩ := HS0.out _ hSw; go_simp; try with_reducible rfl
                try simp only [Act.put, List.getElem_toArray, List.getElem_cons_zero, List.getElem_cons_succ, List.setIfInBounds_toArray, List.set_cons_zero, List.set_cons_succ]
                refine wpAnyH_take (i := 6) (v := ?_) rfl (by kernel_rfl) (by kernel_rfl) (by kernel_rfl) (fun _ _ _ h => h) (Or.inl ⟨by rfl, ?_⟩) (by assumption) ?_
                rotate_left
                · intro w hSw; obtain ⟨⟨q0, q1, q2⟩, r0, r1, r2⟩ := HS0.out _ hSw; go_simp; try with_reducible rfl
                try simp only [Act.put, List.getElem_toArray, List.getElem_cons_zero, List.getElem_cons_succ, List.setIfInBounds_toArray, List.set_cons_zero, List.set_cons_succ]
                refine wpAnyH_take (i := 7) (v := ?_) rfl (by kernel_rfl) (by kernel_rfl) (by kernel_rfl) (fun _ _ _ h => h) (Or.inl ⟨by rfl, ?_⟩) (by assumption) ?_
                rotate_left
                · intro w hSw; obtain ⟨⟨q0, q1, q2⟩, r0, r1, r2⟩ := HS0.out _ hSw; go_simp; try with_reducible rfl
                try simp only [Act.put, List.getElem_toArray, List.getElem_cons_zero, List.getElem_cons_succ, List.setIfInBounds_toArray, List.set_cons_zero, List.set_cons_succ]
                refine wpAnyH_take (i := 10) (v := ?_) rfl (by kernel_rfl) (by kernel_rfl) (by kernel_rfl) (fun _ _ _ h => h) (Or.inl ⟨by rfl, ?_⟩) (by assumption) ?_
                rotate_left
                · intro w hSw; obtain ⟨⟨q0, q1, q2⟩, r0, r1, r2⟩ := HS0.out _ hSw; go_simp; try with_reducible rfl
                try simp only [Act.put, List.getElem_toArray, List.getElem_cons_zero, List.getElem_cons_succ, List.setIfInBounds_toArray, List.set_cons_zero, List.set_cons_succ]
                refine wpAnyH_take (i := 11) (v := ?_) rfl (by kernel_rfl) (by kernel_rfl) (by kernel_rfl) (fun _ _ _ h => h) (Or.inl ⟨by rfl, ?_⟩) (by assumption) ?_
                rotate_left
                · intro w hSw; obtain ⟨⟨q0, q1, q2⟩, r0, r1, r2⟩ := HS0.out _ hSw; go_simp; try with_reducible rfl
                try simp only [Act.put, List.getElem_toArray, List.getElem_cons_zero, List.getElem_cons_succ, List.setIfInBounds_toArray, List.set_cons_zero, List.set_cons_succ]
                refine wpAnyH_take (i := 12) (v := ?_) rfl (by kernel_rfl) (by kernel_rfl) (by kernel_rfl) (fun _ _ _ h => h) (Or.inl ⟨by rfl, ?_⟩) (by assumption) ?_
                rotate_left
                · intro w hSw; obtain ⟨⟨q0, q1, q2⟩, r0, r1, r2⟩ := HS0.out _ hSw; go_simp; try with_reducible rfl
                try simp only [Act.put, List.getElem_toArray, List.getElem_cons_zero, List.getElem_cons_succ, List.setIfInBounds_toArray, List.set_cons_zero, List.set_cons_succ]
                refine wpAnyH_take (i := 15) (v := ?_) rfl (by kernel_rfl) (by kernel_rfl) (by kernel_rfl) (fun _ _ _ h => h) (Or.inl ⟨by rfl, ?_⟩) (by assumption) ?_
                rotate_left
                · intro w hSw; obtain ⟨⟨q0, q1, q2⟩, r0, r1, r2⟩ := HS0.out _ hSw; go_simp; try with_reducible rfl
                try simp only [Act.put, List.getElem_toArray, List.getElem_cons_zero, List.getElem_cons_succ, List.setIfInBounds_toArray, List.set_cons_zero, List.set_cons_succ]
                refine wpAnyH_take (i := 16) (v := ?_) rfl (by kernel_rfl) (by kernel_rfl) (by kernel_rfl) (fun _ _ _ h => h) (Or.inl ⟨by rfl, ?_⟩) (by assumption) ?_
                rotate_left
                · intro w hSw; obtain ⟨⟨q0, q1, q2⟩, r0, r1, r2⟩ := HS0.out _ hSw; go_simp; try with_reducible rfl
                try simp only [Act.put, List.getElem_toArray, List.getElem_cons_zero, List.getElem_cons_succ, List.setIfInBounds_toArray, List.set_cons_zero, List.set_cons_succ]
                refine wpAnyH_take (i := 17) (v := ?_) rfl (by kernel_rfl) (by kernel_rfl) (by kernel_rfl) (fun _ _ _ h => h) (Or.inl ⟨by rfl, ?_⟩) (by assumption) ?_
                rotate_left
                · intro w hSw; obtain ⟨⟨q0, q1, q2⟩, r0, r1, r2⟩ := HS0.out _ hSw; go_simp; try with_reducible rfl
                try simp only [Act.put, List.getElem_toArray, List.getElem_cons_zero, List.getElem_cons_succ, List.setIfInBounds_toArray, List.set_cons_zero, List.set_cons_succ]
                refine wpAnyH_ready (rs := [4]) (by kernel_rfl) (by simp) ?_
                refine AllReadyH.cons rfl (fun K hK => ?_) AllReadyH.nil
                go_simp
                refine (HC1.out _).mono ?_
                rintro e w5 ⟨rfl, rfl⟩
                refine hK.out _ _ (hbd) (fun _ => ?_)
                clear hK K
                try simp only [Act.put, List.getElem_toArray, List.getElem_cons_zero, List.getElem_cons_succ, List.setIfInBounds_toArray, List.set_cons_zero, List.set_cons_succ]
                refine wpAnyH_ready (rs := [8]) (by kernel_rfl) (by simp) ?_
                refine AllReadyH.cons rfl (fun K hK => ?_) AllReadyH.nil
                go_simp
                refine (HC2.out _).mono ?_
                rintro e w5 ⟨rfl, rfl⟩
                refine hK.out _ _ (hbd) (fun _ => ?_)
                clear hK K
                try simp only [Act.put, List.getElem_toArray, List.getElem_cons_zero, List.getElem_cons_succ, List.setIfInBounds_toArray, List.set_cons_zero, List.set_cons_succ]
                refine wpAnyH_take (i := 9) (v := ?_) rfl (by kernel_rfl) (by kernel_rfl) (by kernel_rfl) (fun _ _ _ h => h) (Or.inl ⟨by rfl, ?_⟩) (by assumption) ?_
                rotate_left
                · intro w hSw; obtain ⟨⟨q0, q1, q2⟩, r0, r1, r2⟩ := HS0.out _ hSw; go_simp; try with_reducible rfl
                try simp only [Act.put, List.getElem_toArray, List.getElem_cons_zero, List.getElem_cons_succ, List.setIfInBounds_toArray, List.set_cons_zero, List.set_cons_succ]
                refine wpAnyH_ready (rs := [13]) (by kernel_rfl) (by simp) ?_
                refine AllReadyH.cons rfl (fun K hK => ?_) AllReadyH.nil
                go_simp
                refine (HC3.out _).mono ?_
                rintro e w5 ⟨rfl, rfl⟩
                refine hK.out _ _ (hbd) (fun _ => ?_)
                clear hK K
                try simp only [Act.put, List.getElem_toArray, List.getElem_cons_zero, List.getElem_cons_succ, List.setIfInBounds_toArray, List.set_cons_zero, List.set_cons_succ]
                refine wpAnyH_take (i := 14) (v := ?_) rfl (by kernel_rfl) (by kernel_rfl) (by kernel_rfl) (fun _ _ _ h => h) (Or.inl ⟨by rfl, ?_⟩) (by assumption) ?_
                rotate_left
                · intro w hSw; obtain ⟨⟨q0, q1, q2⟩, r0, r1, r2⟩ := HS0.out _ hSw; go_simp; try with_reducible rfl
                try simp only [Act.put, List.getElem_toArray, List.getElem_cons_zero, List.getElem_cons_succ, List.setIfInBounds_toArray, List.set_cons_zero, List.set_cons_succ]
                refine wpAnyH_ready (rs := [18]) (by kernel_rfl) (by simp) ?_
                refine AllReadyH.cons rfl (fun K hK => ?_) AllReadyH.nil
                go_simp
                refine (HR.out _ hbd).mono ?_
                rintro e w6 ⟨rfl, hb6⟩
                have hb7 := hbd.trans (hb6.mono hbd.size)
                refine hK.out _ _ (hb7) (fun _ => ?_)
                clear hK K
                try simp only [Act.put, List.getElem_toArray, List.getElem_cons_zero, List.getElem_cons_succ, List.setIfInBounds_toArray, List.set_cons_zero, List.set_cons_succ]
                refine wpAnyH_take (i := 19) (v := ?_) rfl (by kernel_rfl) (by kernel_rfl) (by kernel_rfl) (fun _ _ _ h => h) (Or.inl ⟨by rfl, ?_⟩) (by assumption) ?_
                rotate_left
                · intro w hSw; obtain ⟨⟨q0, q1, q2⟩, r0, r1, r2⟩ := HS0.out _ hSw; go_simp; try with_reducible rfl
                try simp only [Act.put, List.getElem_toArray, List.getElem_cons_zero, List.getElem_cons_succ, List.setIfInBounds_toArray, List.set_cons_zero, List.set_cons_succ]
                refine wpAnyH_take (i := 20) (v := ?_) rfl (by kernel_rfl) (by kernel_rfl) (by kernel_rfl) (fun _ _ _ h => h) (Or.inl ⟨by rfl, ?_⟩) (by assumption) ?_
                rotate_left
                · intro w hSw; obtain ⟨⟨q0, q1, q2⟩, r0, r1, r2⟩ := HS0.out _ hSw; go_simp; try with_reducible rfl
                try simp only [Act.put, List.getElem_toArray, List.getElem_cons_zero, List.getElem_cons_succ, List.setIfInBounds_toArray, List.set_cons_zero, List.set_cons_succ]
                refine wpAnyH_take (i := 21) (v := ?_) rfl (by kernel_rfl) (by kernel_rfl) (by kernel_rfl) (fun _ _ _ h => h) (Or.inl ⟨by rfl, ?_⟩) (by assumption) ?_
                rotate_left
                · intro w hSw; obtain ⟨⟨q0, q1, q2⟩, r0, r1, r2⟩ := HS0.out _ hSw; go_simp; try with_reducible rfl
                try simp only [Act.put, List.getElem_toArray, List.getElem_cons_zero, List.getElem_cons_succ, List.setIfInBounds_toArray, List.set_cons_zero, List.set_cons_succ]
                refine wpAnyH_done (by kernel_rfl) ?_ _
                go_wp2
                go_roundw
                case rel => exact ⟨t' + 1, S1, by omega, by go_num, by first | rfl | exact congrArg (Value.int .i64) (IntWalk.i64_in _ (by omega)), HS1, (hbr.trans (hb3.mono hs3)).trans (hb7.mono hs4)⟩
                case measure => simp [intOf]; omega
              · have HN := Lib.hid (show S0 = outS (withN xs) a ⟨o, t, f⟩ f' + inS (withN xs) a ⟨o, t, f⟩ f' (t' + 1) by
                  rw [HT.out, HS.out, show term (withN xs) a ⟨o, t, f⟩ f' t' = 0 from if_neg (fun h => hc2 (by have := h.2; simp only at this; omega))]; omega)
                have hxo : (x : Int) > (o : Int) := by omega
                have hx0 : ¬ (x : Int) < 0 := by omega
                have HX := Lib.hid hx
                have hxa : x ≤ 16 := by omega
                clear hx
                go_wp2
                go_roundw
                case rel => exact ⟨t' + 1, S0, by omega, by go_num, rfl, HN, hbr⟩
                case measure => simp [intOf]; omega
            · have HN := Lib.hid (show S0 = outS (withN xs) a ⟨o, t, f⟩ f' + inS (withN xs) a ⟨o, t, f⟩ f' (t' + 1) by
                rw [HT.out, HS.out, show term (withN xs) a ⟨o, t, f⟩ f' t' = 0 from if_neg (fun h => hc1 h.1)]; omega)
              have hneg : (a : Int) - 2 * (t' : Int) - 4 * (f' : Int) < 0 := by omega
              go_wp2
              go_roundw
              case rel => exact ⟨t' + 1, S0, by omega, by go_num, rfl, HN, hbr⟩
              case measure => simp [intOf]; omega
          · have e : t' = t + 1 := by omega
            have HN := Lib.hid (show S0 = outS (withN xs) a ⟨o, t, f⟩ (f' + 1) by rw [HS.out, e]; rfl)
            have hti : ¬ (t' : Int) < (t : Int) + 1 := by omega
            clear e
            go_wp2
            go_roundw
            case rel => exact ⟨f' + 1, S0, by omega, by go_num, rfl, HN, hbr⟩
            case measure => simp [intOf]; omega
      · have e : f' = f + 1 := by omega
        have HN := Lib.hid (show S0 = Wv by rw [HS.out, HW.out, e])
        have hfi : ¬ (f' : Int) < (f : Int) + 1 := by omega
        clear e
        go_wp2
        go_ret
        exact ⟨by rw [← HN.out]; rfl, hbb.trans (hbr.mono (by omega))⟩
end Go.Proofs.YtbcbaaapogejiaaDoor
