/-
  How four small numbers come in as an argument.
-/
import Derived.Test.YtcebihijnedekaaDoorHouseA
namespace Go.Proofs.YtcebihijnedekaaDoor
open Go.RowKit Go.ChangeShapes Go.WideShapes Go.ChangeAt Go.Deep Go.Joins
variable {H : Type} {enc : TypeId × Value → H} {W : World} {base : Nat} {spare : Nat → Bool} {held : Bool}

set_option maxRecDepth 100000 in
theorem four_of_arg {r : Reach} {b0 : Nat} {v : Value} {d : DataW H} {p : List MemPlace} (hv : Value.okWide Tryd.prog W r b0 76 v) (h : DataW.Trod enc Tryd.prog W base spare held 76 v d p) :
    ∃ x : H4, okH x ∧ v = .agg #[.int .u8 x.a, .int .u8 x.b, .int .u8 x.c, .int .u8 x.d] := by
  unfold Value.okWide at hv
  rw [Tryd.underlying76] at hv
  obtain ⟨cs, rfl, _, _⟩ := hv
  obtain ⟨n, hn⟩ := h
  obtain ⟨x, hx, e⟩ := four_of_trod hn
  refine ⟨x, hx, ?_⟩
  have e2 : cs = #[.int .u8 x.a, .int .u8 x.b, .int .u8 x.c, .int .u8 x.d] := by
    have e3 : cs.toList = [.int .u8 x.a, .int .u8 x.b, .int .u8 x.c, .int .u8 x.d] := e
    rw [← Array.toArray_toList (xs := cs), e3]
  rw [e2]
end Go.Proofs.YtcebihijnedekaaDoor
