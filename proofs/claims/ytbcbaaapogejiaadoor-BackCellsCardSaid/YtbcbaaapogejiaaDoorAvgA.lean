/-
  The average over all turns.
-/
import Derived.Test.YtbcbaaapogejiaaDoorCntC
import Derived.Test.YtbcbaaapogejiaaDoorCntB
namespace Go.Proofs.YtbcbaaapogejiaaDoor
open Go.RowKit

def sumG (g : Lp → Nat) (F : List (List Int)) : Nat := F.foldl (fun a s => a + g (loopsN s)) 0
theorem sumG_snoc (g : Lp → Nat) (F : List (List Int)) (s : List Int) : sumG g (F ++ [s]) = sumG g F + g (loopsN s) := by simp [sumG]

theorem count87_any (l : Lp) (gb : Nat) (K : Nat) (w : World) (hK : K ≤ 4) (hl : l.all ≤ 16) (hg : gb < w.heap.size) (h2 : w.cell? ⟨gb, 2, none⟩ = some (.int .i64 K)) :
    Calls Tryd.prog 87 #[.agg #[.int .i64 l.o, .int .i64 l.t, .int .i64 l.f], .pointer (some ⟨gb, 0, none⟩)] w fun e w' => e = .returned (.int .i64 (K ^ l.all : Nat)) ∧ Below w.heap.size w w' := by
  have HS := Lib.hid (fun W => staying_any l K W hK hl)
  obtain ⟨P, hP⟩ : ∃ P, P = K ^ l.all := ⟨_, rfl⟩
  rw [← hP] at HS ⊢
  obtain ⟨o, t, f⟩ := l
  have hne : ¬ (gb = w.heap.size) := by omega
  clear hP hl
  go_enter Tryd.func87, Tryd.ntmps87
  go_wp2_with (go_at_call 83; refine (HS.out _).mono ?_; rintro e w1 ⟨rfl, hb1⟩)
  go_ret
  exact ⟨rfl, below_via hb1⟩
theorem with89_any (xs : List Nat) (A : Option Addr) (c : Nat) (l : Lp) (gb : Nat) (w : World) (hA : IntsAt w w.heap.size A (intsN xs)) (h4 : xs.length ≤ 4) (hc : xs.length ≤ c) (hl : l.all ≤ 16) (ha : ∀ a ∈ xs, a ≤ 16) (hg : gb < w.heap.size) (h2 : w.cell? ⟨gb, 0, none⟩ = some (.slice A xs.length c)) :
    Calls Tryd.prog 89 #[.agg #[.int .i64 l.o, .int .i64 l.t, .int .i64 l.f], .pointer (some ⟨gb, 0, none⟩)] w fun e w' => e = .returned (.int .i64 (withN xs l : Nat)) ∧ Below w.heap.size w w' := by
  have HS := Lib.hid (fun W (hW : Below w.heap.size w W) => with_any xs l A c W (hA.up hW) h4 hc hl ha)
  have hne : ¬ (gb = w.heap.size) := by omega
  generalize withN xs l = P at *
  obtain ⟨o, t, f⟩ := l
  clear hl hA ha
  go_enter Tryd.func89, Tryd.ntmps89
  go_wp2_with (go_at_call 90; refine (HS.out _ (below_new _ _)).mono ?_; rintro e w1 ⟨rfl, hb1⟩)
  go_ret
  exact ⟨rfl, below_via hb1⟩

set_option maxRecDepth 100000 in
set_option maxHeartbeats 8000000 in
theorem average87_any (g : Lp → Nat) (gb : Nat) (R C K : Int) (TA FA : Option Addr) (tc fc : Nat) (T : List Nat) (F : List (List Int)) (w : World) (hF : ListsAt w w.heap.size FA F) (hlen : F.length = T.length) (hn : T.length ≤ 8) (hpos : 0 < T.length)
    (hin : ∀ s ∈ F, s.length < 1000 ∧ (∀ i ∈ s, 0 ≤ i ∧ i < (s.length : Nat)) ∧ (loopsN s).all ≤ 16 ∧ g (loopsN s) ≤ 152587890625)
    (hg : ∀ (l : Lp) (W : World), Below w.heap.size w W → l.all ≤ 16 → Calls Tryd.prog 87 #[.agg #[.int .i64 l.o, .int .i64 l.t, .int .i64 l.f], .pointer (some ⟨gb, 0, none⟩)] W fun e w' => e = .returned (.int .i64 (g l : Nat)) ∧ Below W.heap.size W w') :
    Calls Tryd.prog 86 #[.agg #[.int .i64 R, .int .i64 C, .int .i64 K, .slice TA T.length tc, .slice FA T.length fc], .func (.func 87) #[] #[.pointer (some ⟨gb, 0, none⟩)]] w fun e w' => e = .returned (.int .i64 (sumG g F / T.length : Nat)) ∧ Below w.heap.size w w' := by
  have hb1 := below_new w (.cells #[.int .i64 R, .int .i64 C, .int .i64 K, .slice TA T.length tc, .slice FA T.length fc] 115)
  have HG : ∀ (j : Nat) (u : Value), [Value.int .i64 R, .int .i64 C, .int .i64 K, .slice TA T.length tc, .slice FA T.length fc][j]? = some u → (w.alloc (.cells #[.int .i64 R, .int .i64 C, .int .i64 K, .slice TA T.length tc, .slice FA T.length fc] 115)).cell? ⟨w.heap.size, j, none⟩ = some u := by
    intro j u hj
    rw [cell_of_row _ _ _ _ _ _ (heap_new _ _)]
    simpa using hj
  have hs1 : w.heap.size < (w.alloc (.cells #[.int .i64 R, .int .i64 C, .int .i64 K, .slice TA T.length tc, .slice FA T.length fc] 115)).heap.size := by simp
  obtain ⟨V, hV⟩ : ∃ V, V = sumG g F / T.length := ⟨_, rfl⟩
  rw [← hV]
  have HV := Lib.hid hV
  have HF := Lib.hid hF
  have HI := Lib.hid hin
  have HLE := Lib.hid hlen
  have HQ := Lib.hid hg
  clear hF hin hlen hg hV
  go_enter Tryd.func86, Tryd.ntmps86
  go_upto_region 2 with fail
  generalize w.alloc (.cells #[.int .i64 R, .int .i64 C, .int .i64 K, .slice TA T.length tc, .slice FA T.length fc] 115) = w1 at *
  have HH := Lib.hid (fun (W : World) (hW : Below w1.heap.size w1 W) => show W.cell? ⟨w.heap.size, 3, none⟩ = some (.slice TA T.length tc) from (hW.cell (p := ⟨w.heap.size, 3, none⟩) hs1).trans (HG 3 _ rfl))
  have h4 := HG 4 _ rfl
  clear HG
  go_wp2
  clear h4
  go_loopw [5, 11] (fun v i wr => ∃ (k S : Nat), k ≤ T.length ∧ i = .int .i64 k ∧ v = .int .i64 S ∧ Hid (S = sumG g (F.take k)) ∧ S ≤ k * 152587890625 ∧ Below w1.heap.size w1 wr) (fun _ i _ => T.length - (intOf i).toNat)
  case atStart => exact ⟨0, 0, Nat.zero_le _, rfl, rfl, Lib.hid rfl, Nat.zero_le _, Below.refl _ _⟩
  case round =>
    obtain ⟨k, S, hk, rfl, rfl, HS, hSb, hbw⟩ := hrel
    have hbww := hb1.trans (hbw.mono (by omega))
    by_cases hlt : k < T.length
    · obtain ⟨s, hy⟩ : ∃ s, F[k]? = some s := ⟨_, List.getElem?_eq_getElem (by have := HLE.out; omega)⟩
      obtain ⟨i1, i2, i3, i4⟩ := HI.out _ (mem_of_get hy)
      obtain ⟨fb, fo, D, d, rfl, hfb, f1, f2⟩ := (HF.out.up hbww) k _ hy
      have HLo := Lib.hid (loops_any D d s wr f2 i2 i1)
      have HK := Lib.hid (show S + g (loopsN s) = sumG g (F.take (k + 1)) by rw [take_snoc hy, sumG_snoc, HS.out])
      have HQ2 := HQ.out (loopsN s)
      generalize loopsN s = l at *
      generalize g l = y at *
      have HQ3 := Lib.hid (fun W hW => HQ2 W hW i3)
      obtain ⟨o, t, f⟩ := l
      have hki : (k : Int) < (T.length : Int) := by omega
      have hk0 : (0 : Int) ≤ (k : Int) := by omega
      have hsum : (k + 1) * 152587890625 = k * 152587890625 + 152587890625 := by rw [Nat.add_mul, Nat.one_mul]
      have hS2 : S + y ≤ (k + 1) * 152587890625 := by omega
      have hS3 : S + y ≤ 10000000000000 := by
        have : (k + 1) * 152587890625 ≤ 8 * 152587890625 := Nat.mul_le_mul_right _ (by omega)
        omega
      have e4 : IntKind.i64.wrap ((S : Int) + (y : Int)) = ((S + y : Nat) : Int) := (IntWalk.i64_in _ (by omega)).trans (by omega)
      clear HQ2 hy f2 i2
      go_wp2_with (first
        | (go_at_call 82; refine (HLo.out).mono ?_; rintro e w2 ⟨rfl, hb2⟩)
        | (go_at_call 87; refine (HQ3.out _ (hbww.trans (hb2.mono hbww.size))).mono ?_; rintro e w3 ⟨rfl, hb3⟩))
      go_roundw
      case rel => exact ⟨k + 1, S + y, by omega, by go_num, rfl, HK, hS2, hbw.trans ((hb2.trans (hb3.mono hb2.size)).mono hbw.size)⟩
      case measure => simp [intOf]; omega
    · have e : k = T.length := by omega
      have HE := Lib.hid (show S = sumG g F by rw [HS.out, List.take_of_length_le (by have := HLE.out; omega)])
      have p3 := HH.out _ hbw
      have hki : ¬ (k : Int) < (T.length : Int) := by omega
      have hne : ¬ ((T.length : Int) = 0) := by omega
      have hnb : ((T.length : Int) == 0) = false := by simpa using hne
      have hS3 : S ≤ 10000000000000 := by
        have : k * 152587890625 ≤ 8 * 152587890625 := Nat.mul_le_mul_right _ (by omega)
        omega
      obtain ⟨Q, hQ⟩ : ∃ Q, Q = S / T.length := ⟨_, rfl⟩
      have hQb : Q ≤ 10000000000000 := by rw [hQ]; exact Nat.le_trans (Nat.div_le_self _ _) hS3
      have hdiv : (S : Int) / (T.length : Int) = (Q : Int) := by rw [hQ]; rfl
      have HQq := Lib.hid (show V = Q by rw [hQ, HE.out, HV.out])
      clear e hQ
      go_wp2
      go_ret
      exact ⟨by rw [HQq.out]; rfl, hbww⟩

set_option maxRecDepth 100000 in
set_option maxHeartbeats 8000000 in
theorem average89_any (g : Lp → Nat) (gb : Nat) (R C K : Int) (TA FA : Option Addr) (tc fc : Nat) (T : List Nat) (F : List (List Int)) (w : World) (hF : ListsAt w w.heap.size FA F) (hlen : F.length = T.length) (hn : T.length ≤ 8) (hpos : 0 < T.length)
    (hin : ∀ s ∈ F, s.length < 1000 ∧ (∀ i ∈ s, 0 ≤ i ∧ i < (s.length : Nat)) ∧ (loopsN s).all ≤ 16 ∧ g (loopsN s) ≤ 152587890625)
    (hg : ∀ (l : Lp) (W : World), Below w.heap.size w W → l.all ≤ 16 → Calls Tryd.prog 89 #[.agg #[.int .i64 l.o, .int .i64 l.t, .int .i64 l.f], .pointer (some ⟨gb, 0, none⟩)] W fun e w' => e = .returned (.int .i64 (g l : Nat)) ∧ Below W.heap.size W w') :
    Calls Tryd.prog 86 #[.agg #[.int .i64 R, .int .i64 C, .int .i64 K, .slice TA T.length tc, .slice FA T.length fc], .func (.func 89) #[] #[.pointer (some ⟨gb, 0, none⟩)]] w fun e w' => e = .returned (.int .i64 (sumG g F / T.length : Nat)) ∧ Below w.heap.size w w' := by
  have hb1 := below_new w (.cells #[.int .i64 R, .int .i64 C, .int .i64 K, .slice TA T.length tc, .slice FA T.length fc] 115)
  have HG : ∀ (j : Nat) (u : Value), [Value.int .i64 R, .int .i64 C, .int .i64 K, .slice TA T.length tc, .slice FA T.length fc][j]? = some u → (w.alloc (.cells #[.int .i64 R, .int .i64 C, .int .i64 K, .slice TA T.length tc, .slice FA T.length fc] 115)).cell? ⟨w.heap.size, j, none⟩ = some u := by
    intro j u hj
    rw [cell_of_row _ _ _ _ _ _ (heap_new _ _)]
    simpa using hj
  have hs1 : w.heap.size < (w.alloc (.cells #[.int .i64 R, .int .i64 C, .int .i64 K, .slice TA T.length tc, .slice FA T.length fc] 115)).heap.size := by simp
  obtain ⟨V, hV⟩ : ∃ V, V = sumG g F / T.length := ⟨_, rfl⟩
  rw [← hV]
  have HV := Lib.hid hV
  have HF := Lib.hid hF
  have HI := Lib.hid hin
  have HLE := Lib.hid hlen
  have HQ := Lib.hid hg
  clear hF hin hlen hg hV
  go_enter Tryd.func86, Tryd.ntmps86
  go_upto_region 2 with fail
  generalize w.alloc (.cells #[.int .i64 R, .int .i64 C, .int .i64 K, .slice TA T.length tc, .slice FA T.length fc] 115) = w1 at *
  have HH := Lib.hid (fun (W : World) (hW : Below w1.heap.size w1 W) => show W.cell? ⟨w.heap.size, 3, none⟩ = some (.slice TA T.length tc) from (hW.cell (p := ⟨w.heap.size, 3, none⟩) hs1).trans (HG 3 _ rfl))
  have h4 := HG 4 _ rfl
  clear HG
  go_wp2
  clear h4
  go_loopw [5, 11] (fun v i wr => ∃ (k S : Nat), k ≤ T.length ∧ i = .int .i64 k ∧ v = .int .i64 S ∧ Hid (S = sumG g (F.take k)) ∧ S ≤ k * 152587890625 ∧ Below w1.heap.size w1 wr) (fun _ i _ => T.length - (intOf i).toNat)
  case atStart => exact ⟨0, 0, Nat.zero_le _, rfl, rfl, Lib.hid rfl, Nat.zero_le _, Below.refl _ _⟩
  case round =>
    obtain ⟨k, S, hk, rfl, rfl, HS, hSb, hbw⟩ := hrel
    have hbww := hb1.trans (hbw.mono (by omega))
    by_cases hlt : k < T.length
    · obtain ⟨s, hy⟩ : ∃ s, F[k]? = some s := ⟨_, List.getElem?_eq_getElem (by have := HLE.out; omega)⟩
      obtain ⟨i1, i2, i3, i4⟩ := HI.out _ (mem_of_get hy)
      obtain ⟨fb, fo, D, d, rfl, hfb, f1, f2⟩ := (HF.out.up hbww) k _ hy
      have HLo := Lib.hid (loops_any D d s wr f2 i2 i1)
      have HK := Lib.hid (show S + g (loopsN s) = sumG g (F.take (k + 1)) by rw [take_snoc hy, sumG_snoc, HS.out])
      have HQ2 := HQ.out (loopsN s)
      generalize loopsN s = l at *
      generalize g l = y at *
      have HQ3 := Lib.hid (fun W hW => HQ2 W hW i3)
      obtain ⟨o, t, f⟩ := l
      have hki : (k : Int) < (T.length : Int) := by omega
      have hk0 : (0 : Int) ≤ (k : Int) := by omega
      have hsum : (k + 1) * 152587890625 = k * 152587890625 + 152587890625 := by rw [Nat.add_mul, Nat.one_mul]
      have hS2 : S + y ≤ (k + 1) * 152587890625 := by omega
      have hS3 : S + y ≤ 10000000000000 := by
        have : (k + 1) * 152587890625 ≤ 8 * 152587890625 := Nat.mul_le_mul_right _ (by omega)
        omega
      have e4 : IntKind.i64.wrap ((S : Int) + (y : Int)) = ((S + y : Nat) : Int) := (IntWalk.i64_in _ (by omega)).trans (by omega)
      clear HQ2 hy f2 i2
      go_wp2_with (first
        | (go_at_call 82; refine (HLo.out).mono ?_; rintro e w2 ⟨rfl, hb2⟩)
        | (go_at_call 89; refine (HQ3.out _ (hbww.trans (hb2.mono hbww.size))).mono ?_; rintro e w3 ⟨rfl, hb3⟩))
      go_roundw
      case rel => exact ⟨k + 1, S + y, by omega, by go_num, rfl, HK, hS2, hbw.trans ((hb2.trans (hb3.mono hb2.size)).mono hbw.size)⟩
      case measure => simp [intOf]; omega
    · have e : k = T.length := by omega
      have HE := Lib.hid (show S = sumG g F by rw [HS.out, List.take_of_length_le (by have := HLE.out; omega)])
      have p3 := HH.out _ hbw
      have hki : ¬ (k : Int) < (T.length : Int) := by omega
      have hne : ¬ ((T.length : Int) = 0) := by omega
      have hnb : ((T.length : Int) == 0) = false := by simpa using hne
      have hS3 : S ≤ 10000000000000 := by
        have : k * 152587890625 ≤ 8 * 152587890625 := Nat.mul_le_mul_right _ (by omega)
        omega
      obtain ⟨Q, hQ⟩ : ∃ Q, Q = S / T.length := ⟨_, rfl⟩
      have hQb : Q ≤ 10000000000000 := by rw [hQ]; exact Nat.le_trans (Nat.div_le_self _ _) hS3
      have hdiv : (S : Int) / (T.length : Int) = (Q : Int) := by rw [hQ]; rfl
      have HQq := Lib.hid (show V = Q by rw [hQ, HE.out, HV.out])
      clear e hQ
      go_wp2
      go_ret
      exact ⟨by rw [HQq.out]; rfl, hbww⟩
end Go.Proofs.YtbcbaaapogejiaaDoor
