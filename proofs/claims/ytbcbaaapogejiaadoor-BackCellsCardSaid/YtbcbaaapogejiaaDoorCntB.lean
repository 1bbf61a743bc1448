/-
  The loops of a turn.
-/
import Derived.Test.YtbcbaaapogejiaaDoorCntA
namespace Go.Proofs.YtbcbaaapogejiaaDoor
open Go.RowKit

set_option maxHeartbeats 2000000 in
theorem staying_any (l : Lp) (K : Nat) (w : World) (hK : K ≤ 4) (hl : l.all ≤ 16) : Calls Tryd.prog 83 #[.agg #[.int .i64 l.o, .int .i64 l.t, .int .i64 l.f], .int .i64 K] w fun e w' => e = .returned (.int .i64 (K ^ l.all : Nat)) ∧ Below w.heap.size w w' := by
  obtain ⟨o, t, f⟩ := l
  have hl' : o + t + f ≤ 16 := hl
  have HP := Lib.hid (fun W => power_any K (o + t + f) W hK hl')
  obtain ⟨P, hP⟩ : ∃ P, P = K ^ (o + t + f) := ⟨_, rfl⟩
  rw [show (Lp.mk o t f).all = o + t + f from rfl, ← hP]
  rw [← hP] at HP
  clear hP hl
  have e1 : ((o + t + f : Nat) : Int) = (o : Int) + t + f := by simp
  rw [e1] at HP
  clear e1
  go_enter Tryd.func83, Tryd.ntmps83
  go_wp2_with (go_at_call 93; refine (HP.out _).mono ?_; rintro e w1 ⟨rfl, rfl⟩)
  go_ret
  exact ⟨rfl, below_new _ _⟩
end Go.Proofs.YtbcbaaapogejiaaDoor
