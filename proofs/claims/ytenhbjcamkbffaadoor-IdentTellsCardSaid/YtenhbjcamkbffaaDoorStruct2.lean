/-
  A struct of two integers that came in as an argument, opened.
-/
import Derived.Test.YtenhbjcamkbffaaDoorStructs
namespace Go.Law
open Go.ChangeShapes Go.WideShapes Go.RowKit Go.Mem
theorem open_ints2 {H : Type} {enc : TypeId × Value → H} {P : Program} {W : World} {t : TypeId} {k0 k1 : IntKind} {f0 f1 : Field} (hu : P.underlying t = some (.struct #[f0, f1])) (o0 : f0.offset = 0) (o1 : f1.offset = 1) (h0 : P.underlying f0.type = some (.int k0)) (h1 : P.underlying f1.type = some (.int k1)) (c0 : P.cellsOf f0.type = 1) (c1 : P.cellsOf f1.type = 1) (hc : P.cellsOf t = 2)
    {v : Value} {d : DataW H} {ps : List MemPlace} {b0 : Nat} (hv : Value.okWide P W .any b0 t v) (h : DataW.Trod enc P W 0 (fun _ => true) true t v d ps) :
    ∃ a b : Int, v = .agg #[.int k0 a, .int k1 b] ∧ (Lit.int k0 a).wf = true ∧ (Lit.int k1 b).wf = true := by
  obtain ⟨cs, rfl, hsz⟩ := okWide_struct hu hv
  obtain ⟨fuel, hf⟩ := h
  obtain ⟨a, b, hcs, w0, w1⟩ := ints2_of_trod hu o0 o1 h0 h1 c0 c1 hc hf
  refine ⟨a, b, ?_, w0, w1⟩
  have e : cs.toList = [.int k0 a, .int k1 b] := hcs
  obtain ⟨l⟩ := cs
  rw [show l = [.int k0 a, .int k1 b] from e]
end Go.Law
