/-
  The statements' fillings: every filling is handed over, in order, until the function says no.
-/
import Derived.Test.YtlollcabnfncpaaDoorFilE
namespace Go.Proofs.YtlollcabnfncpaaDoor
open Go.RowKit

theorem fil_every {σ : Type} (s : Sh) (Z : FP) (F : EachF σ) (hs : s.Ok) (hE : EachS s F) : ∀ n, FilSpecL s Z F n
  | 0 => fun _ _ _ _ _ _ _ hl => absurd hl (Nat.not_lt_zero _)
  | n + 1 => fun cov pre w st B v at' hl hin hp hlen hat hatN hI => by
    by_cases hwh : cov = whl s
    · exact fil_whole s Z F hs hE cov pre w st B v at' hwh hp (by omega) hatN hI
    · exact fil_more s Z F n hs (fil_every s Z F hs hE n) cov pre w st B v at' hwh hl hin hp hlen hat hatN hI
end Go.Proofs.YtlollcabnfncpaaDoor
