/-
  The walk of the squares under a card.
-/
import Derived.Test.YtlollcabnfncpaaDoorWalkA
namespace Go.Proofs.YtlollcabnfncpaaDoor
open Go.RowKit

theorem number_nat (s : Sh) (a b k : Nat) (va vb : Int) (w : World) (hc : s.c ≤ 6) (h1 : a ≤ 6) (h3 : b ≤ 6) (ha : va = a) (hb : vb = b) (hk : k = a * s.c + b) :
    Calls Tryd.prog 81 #[.agg #[.int .i64 s.r, .int .i64 s.c, .int .i64 s.l, .int .i64 s.w], .int .i64 va, .int .i64 vb] w fun e w' => e = .returned (.int .i64 (k : Nat)) ∧ Below w.heap.size w w' := by
  subst ha hb hk
  refine (number_any s a b w hc (by omega) (by omega) (by omega) (by omega)).mono fun e w' ⟨he, hb⟩ => ⟨?_, hb⟩
  rw [he]
  exact ret_eq (by rw [Int.natCast_add, Int.natCast_mul])

theorem shl_or (k n : Nat) (hk : k ≤ 36) (hn : n < 68719476736) : bits .or .u64 (n : Int) (IntKind.u64.wrap ((2 : Int) ^ k)) = ((n ||| 2 ^ k : Nat) : Int) := by
  rw [shl64 k hk]
  have := two36 hk
  exact u64_or_nat _ _ (by omega) (by generalize 2 ^ k = z at *; omega)

set_option maxHeartbeats 1000000 in
theorem under_any (s : Sh) (x : Cd) (w : World) (hs : s.Ok) (hx : fitP s x) :
    Calls Tryd.prog 82 #[.agg #[.int .i64 s.r, .int .i64 s.c, .int .i64 s.l, .int .i64 s.w], .agg #[.int .i64 x.row, .int .i64 x.col, .bool x.t]] w fun e w' => e = .returned (.int .u64 (und s x : Nat)) ∧ Below w.heap.size w w' := by
  have hr6 := hs.r6
  have hc6 := hs.c6
  have h3 := hiS_le hs x.t
  have h4 := wiS_le hs x.t
  have HP := Lib.hid (fun W => place_any s x W hs hx)
  obtain ⟨h5, h6, h7, h8⟩ := hx
  unfold und
  generalize hiS s x.t = a at HP h3 h6 ⊢
  generalize wiS s x.t = b at HP h4 h8 ⊢
  obtain ⟨row, col, t⟩ := x
  dsimp only at *
  obtain ⟨r0, rfl⟩ : ∃ n : Nat, row = n := ⟨row.toNat, by omega⟩
  obtain ⟨c0, rfl⟩ : ∃ n : Nat, col = n := ⟨col.toNat, by omega⟩
  simp only [Int.toNat_natCast]
  go_enter Tryd.func82, Tryd.ntmps82
  go_wp2_with (go_at_call 113; refine (HP.out _).mono ?_; rintro e w1 ⟨rfl, hb1⟩; obtain ⟨q1, q2, q3⟩ := bcell hb1; simp only [World.size_alloc] at q1 q2 q3)
  have hg : w.heap.size + 2 ≤ w1.heap.size := by omega
  obtain ⟨W0, hW0⟩ : ∃ W0, W0 = w1.alloc (.cells #[.int .i64 r0, .int .i64 (r0 + a), .int .i64 c0, .int .i64 (c0 + b)] 117) := ⟨_, rfl⟩
  have hz0 : W0.heap.size = w1.heap.size + 1 := by rw [hW0]; simp
  have hb0 : Below w.heap.size w W0 := by rw [hW0]; exact ((((Below.refl _ _).alloc (Nat.le_refl _) _).alloc (by simp) _).trans (hb1.mono (by simp; omega))).alloc (by omega) _
  have hd0 : W0.cell? ⟨w1.heap.size, 0, none⟩ = some (.int .i64 r0) := by rw [hW0]; simp [go_sem]
  have hd1 : W0.cell? ⟨w1.heap.size, 1, none⟩ = some (.int .i64 (r0 + a)) := by rw [hW0]; simp [go_sem]
  have hd2 : W0.cell? ⟨w1.heap.size, 2, none⟩ = some (.int .i64 c0) := by rw [hW0]; simp [go_sem]
  have hd3 : W0.cell? ⟨w1.heap.size, 3, none⟩ = some (.int .i64 (c0 + b)) := by rw [hW0]; simp [go_sem]
  have he0 : W0.cell? ⟨w.heap.size, 0, none⟩ = some (.int .i64 s.r) := by rw [hW0, World.cell?_alloc_past _ _ _ (by omega), q1 _ _ (by omega)]; simp [go_sem]
  have he1 : W0.cell? ⟨w.heap.size, 1, none⟩ = some (.int .i64 s.c) := by rw [hW0, World.cell?_alloc_past _ _ _ (by omega), q1 _ _ (by omega)]; simp [go_sem]
  have he2 : W0.cell? ⟨w.heap.size, 2, none⟩ = some (.int .i64 s.l) := by rw [hW0, World.cell?_alloc_past _ _ _ (by omega), q1 _ _ (by omega)]; simp [go_sem]
  have he3 : W0.cell? ⟨w.heap.size, 3, none⟩ = some (.int .i64 s.w) := by rw [hW0, World.cell?_alloc_past _ _ _ (by omega), q1 _ _ (by omega)]; simp [go_sem]
  rw [← hW0]
  obtain ⟨g, hgg⟩ : ∃ g, g = w1.heap.size := ⟨_, rfl⟩
  rw [← hgg] at hd0 hd1 hd2 hd3 hz0 hg ⊢
  clear hW0 hgg hb1 q1 q2 q3
  go_loopw [6, 7] (fun v i wr => ∃ m : Nat, m ≤ a ∧ i = .int .i64 (r0 + m) ∧ v = .int .u64 (blkM s r0 c0 b m : Nat) ∧ Below W0.heap.size W0 wr) (fun _ i _ => r0 + a - (intOf i).toNat)
  case atStart => exact ⟨0, Nat.zero_le _, by simp, rfl, Below.refl _ _⟩
  case round =>
    obtain ⟨m, hm, rfl, rfl, hbw⟩ := hrel
    obtain ⟨wo, rfl⟩ : ∃ wo : World, wo = wr := ⟨_, rfl⟩
    have hk0 := (hbw.cell (p := ⟨g, 0, none⟩) (by simp; omega)).trans hd0
    have hk1 := (hbw.cell (p := ⟨g, 1, none⟩) (by simp; omega)).trans hd1
    have hk2 := (hbw.cell (p := ⟨g, 2, none⟩) (by simp; omega)).trans hd2
    have hk3 := (hbw.cell (p := ⟨g, 3, none⟩) (by simp; omega)).trans hd3
    by_cases hlt : m < a
    · have hlt' : (r0 : Int) + m < r0 + a := by omega
      go_wp2
      go_loopw [6, 8] (fun v j wr => ∃ n : Nat, n ≤ b ∧ j = .int .i64 (c0 + n) ∧ v = .int .u64 (blkM s r0 c0 b m ||| rowM s (r0 + m) c0 n : Nat) ∧ Below wo.heap.size wo wr) (fun _ j _ => c0 + b - (intOf j).toNat)
      case atStart => exact ⟨0, Nat.zero_le _, by simp, by simp [rowM], Below.refl _ _⟩
      case round =>
        obtain ⟨n, hn, rfl, rfl, hbi⟩ := hrel
        have hbb := hbw.trans (hbi.mono hbw.size)
        have hk0 := (hbb.cell (p := ⟨g, 0, none⟩) (by simp; omega)).trans hd0
        have hk1 := (hbb.cell (p := ⟨g, 1, none⟩) (by simp; omega)).trans hd1
        have hk2 := (hbb.cell (p := ⟨g, 2, none⟩) (by simp; omega)).trans hd2
        have hk3 := (hbb.cell (p := ⟨g, 3, none⟩) (by simp; omega)).trans hd3
        have hj0 := (hbb.cell (p := ⟨w.heap.size, 0, none⟩) (by simp; omega)).trans he0
        have hj1 := (hbb.cell (p := ⟨w.heap.size, 1, none⟩) (by simp; omega)).trans he1
        have hj2 := (hbb.cell (p := ⟨w.heap.size, 2, none⟩) (by simp; omega)).trans he2
        have hj3 := (hbb.cell (p := ⟨w.heap.size, 3, none⟩) (by simp; omega)).trans he3
        by_cases hln : n < b
        · have hln' : (c0 : Int) + n < c0 + b := by omega
          have hk36 := sq_lt (R := s.r) (C := s.c) (x := r0 + m) (y := c0 + n) (by omega) (by omega)
          have h36 := (area_le hs).2
          have hB : blkM s r0 c0 b m ||| rowM s (r0 + m) c0 n < 68719476736 :=
            Nat.lt_of_lt_of_le (Nat.or_lt_two_pow (n := 36) (blkM_lt s r0 c0 b (by omega) m 36 (by have := Nat.mul_le_mul_right s.c (show r0 + m ≤ s.r by omega); omega)) (rowM_lt s (r0 + m) c0 n 36 (by omega))) (Nat.le_refl _)
          have HN := Lib.hid (fun W => number_nat s (r0 + m) (c0 + n) _ ((r0 : Int) + m) ((c0 : Int) + n) W hs.c6 (by omega) (by omega) (by simp) (by simp) rfl)
          have HO := shl_or ((r0 + m) * s.c + (c0 + n)) _ (by omega) hB
          have HR : rowM s (r0 + m) c0 (n + 1) = rowM s (r0 + m) c0 n ||| 2 ^ ((r0 + m) * s.c + (c0 + n)) := rfl
          rw [Nat.or_assoc, ← HR] at HO
          clear HR
          generalize (r0 + m) * s.c + (c0 + n) = k at HN HO hk36
          generalize blkM s r0 c0 b m ||| rowM s (r0 + m) c0 n = B at HO hB ⊢
          have HOO := Lib.hid HO
          clear HO
          go_wp2_with (go_at_call 81; refine (HN.out _).mono ?_; rintro e w2 ⟨rfl, hb2⟩; have HO := HOO.out)
          go_roundw
          case rel => exact ⟨n + 1, by omega, by go_num, rfl, hbi.trans (hb2.mono hbi.size)⟩
          case measure => simp [intOf]; omega
        · have : n = b := by omega
          subst this
          go_wp2
          go_roundw
          case rel => exact ⟨m + 1, by omega, by go_num, rfl, hbb⟩
          case measure => simp [intOf]; omega
    · have : m = a := by omega
      subst this
      go_wp2
      go_ret
      exact ⟨rfl, hb0.trans (hbw.mono (by omega))⟩
end Go.Proofs.YtlollcabnfncpaaDoor
