/-
  Items that came in: their slice's capacity.
-/
import Derived.Test.YtjmiejcgahajfaaItems
namespace Go.Proofs.Ytjmiejcgahajfaa
open Go.ChangeShapes Go.WideShapes Go.RowKit Go.Mem

theorem items_cap {H : Type} {enc : TypeId × Value → H} {W : World} {M : Option Addr} {mn mc : Nat} {d : DataW H} {ps : List MemPlace} (h : DataW.Trod enc Try.prog W 0 (fun _ => true) true 38 (.slice M mn mc) d ps) : mc ≤ maxLen := by
  obtain ⟨fuel, hf⟩ := h
  rcases Go.Deep.open_slice Try.underlying38 hf with ⟨hcs, hx⟩ | ⟨a, len', cap', m, n, D, Pl, hcs, _, hl, hm, hmm, hx, hi⟩
  · simp [Value.cells] at hcs
    obtain ⟨rfl, rfl, rfl⟩ := hcs
    exact Nat.zero_le _
  · simp [Value.cells] at hcs
    obtain ⟨rfl, rfl, rfl⟩ := hcs
    exact hm
end Go.Proofs.Ytjmiejcgahajfaa
