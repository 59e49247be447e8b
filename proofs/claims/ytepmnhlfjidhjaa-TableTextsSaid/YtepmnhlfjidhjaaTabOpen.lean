/-
  A row of calls on a table that came in.
-/
import Derived.Test.YtepmnhlfjidhjaaStructs
namespace Go.Proofs.Ytepmnhlfjidhjaa
open Go.ChangeShapes Go.WideShapes Go.RowKit Go.Mem Go.Law
/-- a call -/
structure Ask4 where
  a : Int
  k : Int
  v : Int
def Ask4.cells (a : Ask4) : List Value := [.int .i64 a.a, .int .i64 a.k, .int .i64 a.v]
def Ask4.ok (a : Ask4) : Prop := (-9223372036854775808 ≤ a.a ∧ a.a ≤ 9223372036854775807) ∧ (-9223372036854775808 ≤ a.k ∧ a.k ≤ 9223372036854775807) ∧ -9223372036854775808 ≤ a.v ∧ a.v ≤ 9223372036854775807
set_option maxRecDepth 100000 in
theorem open_asks4 {H : Type} {enc : TypeId × Value → H} {W : World} {v : Value} {d : DataW H} {ps : List MemPlace} {b0 : Nat} (hv : Value.okWide Try.prog W .any b0 94 v) (h : DataW.Trod enc Try.prog W 0 (fun _ => true) true 94 v d ps) :
    ∃ (A : Option Addr) (n c : Nat) (rs : List Ask4), v = .slice A n c ∧ rs.length = n ∧ n ≤ c ∧ c ≤ maxLen ∧ RowsAt W A 3 (rs.map Ask4.cells) ∧ ∀ r ∈ rs, r.ok :=
  open_structs Ask4.cells Ask4.ok Try.underlying94 (by kernel_rfl) (by decide) (fun _ => rfl) (fun fuel cs x hf => by
    obtain ⟨a, b, c, rfl, w0, w1, w2⟩ := ints3_of_trod Try.underlying101 rfl rfl rfl Try.underlying3 Try.underlying3 Try.underlying3 (by kernel_rfl) (by kernel_rfl) (by kernel_rfl) (by kernel_rfl) hf
    exact ⟨⟨a, b, c⟩, rfl, i64_of_wf w0, i64_of_wf w1, i64_of_wf w2⟩) hv h
end Go.Proofs.Ytepmnhlfjidhjaa
