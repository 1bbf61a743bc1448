/-
  The values that the chapter's examples ask for.
-/
import Derived.Test.YtlollcabnfncpaaDoorWkA
namespace Go.Proofs.YtlollcabnfncpaaDoor

set_option maxRecDepth 100000
theorem k_cnt : cntS 4 4 2 1 = 36 := by decide +kernel
theorem k_can : canS 5 5 2 1 = false := by decide +kernel
theorem k_aga : agaF 5 5 2 1 = (2, 2, 0) := by decide +kernel
theorem k_aga2 : agaF 6 6 4 1 = (2, 4, 0) := by decide +kernel
theorem k_col : colF 5 5 2 1 2 = [13, 12] := by decide +kernel
theorem k_ver : verF 2 2 2 1 (cdsL [0, 0, 0, 0, 0, 0]) = 7 := by decide +kernel
theorem k_chk : chkS 7 1 1 1 = 1 := by decide +kernel
end Go.Proofs.YtlollcabnfncpaaDoor
