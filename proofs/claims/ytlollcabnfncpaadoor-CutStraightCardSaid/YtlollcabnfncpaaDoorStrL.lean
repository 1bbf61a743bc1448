/-
  The walk of CutStraight: both kinds of chosen fillings.
-/
import Derived.Test.YtlollcabnfncpaaDoorStrT
import Derived.Test.YtlollcabnfncpaaDoorStrF
namespace Go.Proofs.YtlollcabnfncpaaDoor
open Go.RowKit

theorem lawStraight_any (x : Bd) (q : Int) (w : World) (hx : okB x) (hq0 : 0 ≤ q ∧ q ≤ 65535) (ht : TabW w) :
    Calls Tryd.prog 9 #[.agg #[.int .u8 x.a, .int .u8 x.b, .int .u8 x.c, .int .u8 x.d], .int .u16 q] w fun e w' => e = .returned (.bool true) ∧ Below w.heap.size w w' := by
  obtain ⟨qn, rfl⟩ : ∃ k : Nat, q = k := ⟨q.toNat, by omega⟩
  rcases hg : (filC (bdS x) 0 [])[qn % (filC (bdS x) 0 []).length]? with _ | y
  · exact lawStraight_true x _ qn w hx rfl (by omega) ht (fun y h => by rw [hg] at h; cases h)
  · rcases hd : (divS (bdS x) y).st with _ | _
    · exact lawStraight_false x _ qn w hx rfl (by omega) ht (fun z h => by rw [hg] at h; cases h; exact hd)
    · exact lawStraight_true x _ qn w hx rfl (by omega) ht (fun z h => by rw [hg] at h; cases h; exact hd)
end Go.Proofs.YtlollcabnfncpaaDoor
