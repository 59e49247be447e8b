/-
  An array of three numbers that came in as an argument, opened.
-/
import Derived.Test.YtepmnhlfjidhjabStructs
import Derived.Laws.IdiomArrays
namespace Go.Law
open Go.ChangeShapes Go.WideShapes Go.RowKit Go.Mem
theorem open_arr3 {H : Type} {enc : TypeId × Value → H} {P : Program} {W : World} {t e : TypeId} {k0 : IntKind} (hu : P.underlying t = some (.array 3 e)) (he : P.underlying e = some (.int k0)) (hce : P.cellsOf e = 1) (hc : P.cellsOf t = 3)
    {v : Value} {d : DataW H} {ps : List MemPlace} {b0 : Nat} (hv : Value.okWide P W .any b0 t v) (h : DataW.Trod enc P W 0 (fun _ => true) true t v d ps) :
    ∃ a b c : Int, v = .agg #[.int k0 a, .int k0 b, .int k0 c] ∧ (Lit.int k0 a).wf = true ∧ (Lit.int k0 b).wf = true ∧ (Lit.int k0 c).wf = true := by
  simp only [Value.okWide, hu] at hv
  obtain ⟨cs, rfl, hsz, _⟩ := hv
  obtain ⟨fuel, hf⟩ := h
  rw [hc] at hsz
  obtain ⟨l⟩ := cs
  match l, hsz with
  | [v0, v1, v2], _ =>
    have hf' : DataW.trod enc P W 0 (fun _ => true) true fuel t [v0, v1, v2] = some (d, ps) := hf
    obtain ⟨y0, y1, y2, m, _, e0, e1, e2⟩ := trod_array3 hu hce hf'
    obtain ⟨a, g0, _, w0⟩ := DataW.trod_int he e0
    obtain ⟨b, g1, _, w1⟩ := DataW.trod_int he e1
    obtain ⟨c, g2, _, w2⟩ := DataW.trod_int he e2
    injection g0 with g0
    injection g1 with g1
    injection g2 with g2
    subst g0 g1 g2
    exact ⟨a, b, c, rfl, w0, w1, w2⟩
end Go.Law
