/-
  The values that the examples ask for.
-/
import Derived.Test.YtlollcabnfncpaaDoorWkA
namespace Go.Proofs.YtlollcabnfncpaaDoor

set_option maxRecDepth 100000
theorem v_fill : filS 2 3 2 1 = some (cdsL [0, 0, 0, 0, 1, 0, 0, 2, 0]) := by decide +kernel
theorem v_cnt : cntS 4 5 2 1 = 95 := by decide +kernel
theorem v_up : upS 2 3 2 1 = ⟨1, 3, true⟩ := by decide +kernel
theorem v_upE : upE 2 3 2 1 = 0 := by decide +kernel
theorem v_can : canS 5 6 3 2 = true := by decide +kernel
theorem v_not : canS 6 6 4 1 = false := by decide +kernel
theorem v_aga : agaF 3 6 2 2 = (1, 3, 0) := by decide +kernel
theorem v_aga2 : (agaF 5 6 3 2).2.2 = 13 := by decide +kernel
theorem v_col : colF 6 6 4 1 4 = [9, 10, 9, 8] := by decide +kernel
theorem v_ver : verF 2 3 2 1 (cdsL [0, 0, 0, 0, 1, 1, 1, 1, 1]) = 0 := by decide +kernel
theorem v_cuts : cutsF 2 3 2 1 (cdsL [0, 0, 0, 0, 1, 1, 1, 1, 1]) = ([], [1]) := by decide +kernel
theorem v_str : strF 2 3 2 1 (cdsL [0, 0, 0, 0, 1, 1, 1, 1, 1]) = true := by decide +kernel
theorem v_rou : rouF 2 3 2 1 (cdsL [0, 0, 0, 0, 1, 1, 1, 1, 1]) = 2 := by decide +kernel
theorem v_rouE : rouE 2 3 2 1 (cdsL [0, 0, 0, 0, 1, 1, 1, 1, 1]) = 0 := by decide +kernel
theorem v_sol : solS 1 2 1 2 = some (cdsL [0, 0, 0]) := by decide +kernel
theorem v_sol2 : solS 2 2 2 1 = none := by decide +kernel
theorem v_ver2 : verF 2 2 2 1 (cdsL [0, 0, 0]) = 21 := by decide +kernel
theorem v_ver3 : verF 2 2 2 1 (cdsL [0, 0, 0, 0, 1, 0]) = 0 := by decide +kernel
end Go.Proofs.YtlollcabnfncpaaDoor
