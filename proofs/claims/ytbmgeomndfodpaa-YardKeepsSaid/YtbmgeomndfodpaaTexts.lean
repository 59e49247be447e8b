/-
  A slice of strings that came in.
-/
import Derived.Test.YtbmgeomndfodpaaLaw
import Derived.SliceStrings
namespace Go.Law
open Go.ChangeShapes Go.WideShapes Go.RowKit Go.Mem
section
variable {H : Type} {enc : TypeId × Value → H} {P : Program} {W : World}

theorem open_texts {t e : TypeId} {v : Value} {d : DataW H} {ps : List MemPlace} {b0 : Nat} (ht : P.underlying t = some (.slice e)) (he : P.underlying e = some .string) (hc : P.cellsOf e = 1)
    (hv : Value.okWide P W .any b0 t v) (h : DataW.Trod enc P W 0 (fun _ => true) true t v d ps) :
    ∃ (A : Option Addr) (n c : Nat) (ss : List ByteArray), v = .slice A n c ∧ ss.length = n ∧ n ≤ c ∧ c ≤ maxLen ∧ Sl W A (ss.map Value.string) ∧ ∀ s ∈ ss, s.size ≤ maxLen := by
  obtain ⟨a0, len, cap, rfl⟩ := okWide_slice ht hv
  obtain ⟨fuel, hf⟩ := h
  rcases open_strings ht he hc hf with ⟨hcs, _⟩ | ⟨a, len', cap', ss, hcs, _, hl, hm, hz, _, hcell, hss⟩
  · simp [Value.cells] at hcs
    obtain ⟨rfl, rfl, rfl⟩ := hcs
    exact ⟨none, 0, 0, [], rfl, rfl, Nat.le_refl _, by decide, Sl.nil, fun s hs => absurd hs List.not_mem_nil⟩
  · simp [Value.cells] at hcs
    obtain ⟨rfl, rfl, rfl⟩ := hcs
    simp only [if_true] at hz
    refine ⟨some a, len, cap, ss.take len, rfl, by simp; omega, hl, hm, ?_, fun s hs => hss s (List.mem_of_mem_take hs)⟩
    intro k u hu
    have hk : k < len := by
      have := (List.getElem?_eq_some_iff.1 hu).1
      simp at this; omega
    have hkz : k < ss.length := by omega
    have hc1 := hcell k hkz
    have hspot := World.cell?_spot (a := a.add 0) (hcell 0 (by omega))
    have e1 : ss.getD k ByteArray.empty = ss[k] := by simp [List.getD, hkz]
    have e2 : u = .string ss[k] := by
      simp [hk, hkz] at hu
      exact hu.symm
    obtain ⟨b, o, s⟩ := a
    have hs : s = none := by
      simpa [Addr.add] using hspot
    subst hs
    rw [Addr.add_lit, e1] at hc1
    exact ⟨b, o, rfl, by rw [e2]; exact hc1⟩
end
end Go.Law
