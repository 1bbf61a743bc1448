/-
  The statements' fillings: the walk.
-/
import Derived.Test.YtlollcabnfncpaaDoorFilC
import Derived.Deep.DeepCutAuto
namespace Go.Proofs.YtlollcabnfncpaaDoor
open Go.RowKit

theorem first_free {s : Sh} (hs : s.Ok) {cov p : Nat} (hin : InS s cov) (hb : ∀ i, i < p → cov.testBit i = true) (hp : cov.testBit p = false) : ctzU 64 cov = p := by
  have h64 : cov < 2 ^ 64 := by have := hin.lt36 hs; omega
  have h1 := ctzU_bit 64 cov h64
  rcases Nat.lt_trichotomy (ctzU 64 cov) p with h | h | h
  · rw [hb _ h] at h1; cases h1
  · exact h
  · rw [ctzU_below 64 cov p h] at hp; cases hp

/-- What the fillings leave: the state, and all else as it was if no one said no. -/
def RetFil {σ : Type} (s : Sh) (Z : FP) (F : EachF σ) (w : World) (B : Nat → Prop) (cov : Nat) (v : Value) (pre : List Cd) (r : σ × Bool) (e : Ending) (w' : World) : Prop :=
  e = .returned (.bool r.2) ∧ ∃ B', (F.I r.1 B' w' ∧ ∀ i, B' i → B i ∨ w.heap.size ≤ i) ∧ Chg (fun i => B i ∨ i = Z.gu ∨ i = Z.gl ∨ some i = v.ownBlock) w w' ∧
    (r.2 = true → ∃ v', FilI s Z F w' r.1 B' cov v' pre ∧ NewOr w.heap.size v.ownBlock v'.ownBlock)

def FilSpecL {σ : Type} (s : Sh) (Z : FP) (F : EachF σ) (n : Nat) : Prop := ∀ (cov : Nat) (pre : List Cd) (w : World) (st : σ) (B : Nat → Prop) (v : Value) (at' : Nat), lft s cov < n → InS s cov → (∀ x ∈ pre, fitP s x) → pre.length + lft s cov ≤ 36 →
  (∀ i, i < at' → cov.testBit i = true) → at' ≤ s.r * s.c → FilI s Z F w st B cov v pre →
  Calls Tryd.prog 94 #[.int .i64 at', .pointer (some ⟨Z.gs, 0, none⟩), .pointer (some ⟨Z.gu, 0, none⟩), .pointer (some ⟨Z.ge, 0, none⟩), .pointer (some ⟨Z.gl, 0, none⟩), .pointer (some ⟨Z.gf, 0, none⟩)] w
    (RetFil s Z F w B cov v pre (runF F.f st (filC s cov pre)))

set_option maxRecDepth 100000 in
set_option maxHeartbeats 4000000 in
theorem fil_whole {σ : Type} (s : Sh) (Z : FP) (F : EachF σ) (hs : s.Ok) (hE : EachS s F) (cov : Nat) (pre : List Cd) (w : World) (st : σ) (B : Nat → Prop) (v : Value) (at' : Nat) (hwh : cov = whl s) (hp : ∀ x ∈ pre, fitP s x) (hlen : pre.length ≤ 36) (hatN : at' ≤ s.r * s.c) (hI : FilI s Z F w st B cov v pre) :
  Calls Tryd.prog 94 #[.int .i64 at', .pointer (some ⟨Z.gs, 0, none⟩), .pointer (some ⟨Z.gu, 0, none⟩), .pointer (some ⟨Z.ge, 0, none⟩), .pointer (some ⟨Z.gl, 0, none⟩), .pointer (some ⟨Z.gf, 0, none⟩)] w
    (RetFil s Z F w B cov v pre (runF F.f st (filC s cov pre))) := by
  have hr6 := hs.r6
  have hc6 := hs.c6
  have hc1 := hs.c1
  have hr1 := hs.r1
  have hfl : filC s cov pre = [pre] := by rw [filC_eq hs, if_pos hwh]
  rw [hfl, runF_one]
  have hbits : ∀ i, i < s.r * s.c → cov.testBit i = true := fun i hi => by rw [hwh, whl_bit]; exact decide_eq_true hi
  obtain ⟨N, hN⟩ : ∃ N : Nat, N = s.r * s.c := ⟨_, rfl⟩
  have hN36 : N ≤ 36 := by rw [hN]; exact (area_le hs).2
  have hmul : IntKind.i64.wrap ((s.r : Int) * (s.c : Int)) = (N : Int) := by
    rw [show ((s.r : Int) * (s.c : Int)) = (N : Int) by rw [hN, Int.natCast_mul]]
    exact IntWalk.i64_in _ (by omega)
  rw [← hN] at hatN hbits
  have hk0 : ((s.c : Int) == 0) = false := beq_eq_false_iff_ne.2 (by omega)
  have hknz : ¬ s.c = 0 := by omega
  have HI := Lib.hid hI
  have HNN := Lib.hid hN
  have HP := Lib.hid hp
  have HB := Lib.hid hbits
  have HE := Lib.hid hE
  have HEnt := Lib.hid F.enter
  clear hI hN hp hbits hE hfl hwh
  go_enter Tryd.func94, Tryd.ntmps94
  go_wp2
  go_loopw [0] (fun i wr => ∃ a : Nat, i = .int .i64 a ∧ a ≤ N ∧ Below w.heap.size w wr) (fun i _ => N - (intOf i).toNat)
  case atStart => exact ⟨at', rfl, hatN, Below.refl _ _⟩
  case round =>
    obtain ⟨a, rfl, haN, hbr⟩ := hrel
    have hIr := HI.out.below hbr
    have e0 := hIr.s0
    have e1 := hIr.s1
    have hd1 : (a : Int).tdiv (s.c : Int) = ((a / s.c : Nat) : Int) := rfl
    have hm1 : (a : Int).tmod (s.c : Int) = ((a % s.c : Nat) : Int) := rfl
    by_cases hlt : a < N
    · have hac : a % s.c < s.c := Nat.mod_lt _ hc1
      have har : a / s.c < s.r := by
        rw [Nat.div_lt_iff_lt_mul hc1, ← HNN.out]; exact hlt
      have hcell := hIr.us.1 (a / s.c) (a % s.c) (by omega) (by omega)
      have husb : usB s cov (a / s.c) (a % s.c) = true := by
        unfold usB
        rw [decide_eq_true hac, Bool.true_and, Nat.mul_comm, Nat.div_add_mod]; exact HB.out a hlt
      rw [husb] at hcell
      clear husb
      generalize a / s.c = q at *
      generalize a % s.c = p at *
      have q6 : (q : Int) < 6 := by omega
      have p6 : (p : Int) < 6 := by omega
      have hlt' : (a : Int) < (N : Int) := by omega
      go_wp2
      go_quiet (fail)
      go_wp2
      go_roundw
      case rel => exact ⟨a + 1, by go_num, by omega, below_drewN hbr _⟩
      case measure => simp [intOf]; omega
    · have hN' : a = N := by omega
      have e2 := hIr.fn
      have e3 := hIr.lv
      have hlt' : ¬ (a : Int) < (N : Int) := by omega
      have haE : ((a : Int) == (N : Int)) = true := beq_iff_eq.2 (by omega)
      clear hN'
      obtain ⟨A, c, rfl, hA, _⟩ := own_cards hIr.lo
      go_wp2
      go_quiet (fail)
      go_wp2
      have HS := HE.out st B (wr.drewN nq) A pre c (hIr.below (below_drewN (Below.refl _ _) _)).st (hA.up (below_drewN (Below.refl _ _) _)) HP.out hlen
      have hb0 : Below w.heap.size w (wr.drewN nq) := below_drewN hbr _
      rw [HEnt.out, Oper.upon_enter]
      refine HS.mono ?_
      rintro e w2 ⟨rfl, B', ⟨hF, hBB⟩, hch⟩
      clear HEnt HS
      go_wp2
      go_ret
      refine ⟨rfl, B', ⟨hF, fun i hi => ?_⟩, (Chg.of_below hb0).trans (hch.mono (Q := fun i => B i ∨ i = Z.gu ∨ i = Z.gl ∨ some i = (Value.slice A pre.length c).ownBlock) (fun i _ h => .inl h)) (fun _ _ h => h), fun _ => ⟨_, (HI.out.below hb0).called hch hF hBB, .inl rfl⟩⟩
      rcases hBB i hi with h | h
      · exact .inl h
      · exact .inr (Nat.le_trans hb0.size h)
end Go.Proofs.YtlollcabnfncpaaDoor
