/-
  A row of rows of bytes that came in: each row's capacity told as well.
-/
import Derived.Test.YtbmgeomndfodpaaLaw
namespace Go.Law
open Go.ChangeShapes Go.WideShapes Go.ChangeAt Go.RowKit Go.Mem

section
variable {H : Type} {enc : TypeId × Value → H} {P : Program} {W : World}
theorem open_byteRows2 {t e b : TypeId} {v : Value} {d : DataW H} {pl : List MemPlace} {b0 : Nat} (ht : P.underlying t = some (.slice e)) (he : P.underlying e = some (.slice b)) (hb : P.underlying b = some (.int .u8)) (hce : P.cellsOf e = 1) (hcb : P.cellsOf b = 1)
    (hv : Value.okWide P W .any b0 t v) (h : DataW.Trod enc P W 0 (fun _ => true) true t v d pl) :
    ∃ (A : Option Addr) (n cap : Nat) (ps : List Part), v = .slice A n cap ∧ ps.length = n ∧ n ≤ cap ∧ cap ≤ maxLen ∧ Sl W A (ps.map Part.cell) ∧ ∀ p ∈ ps, p.bs.length ≤ maxLen ∧ p.bs.length ≤ p.cap ∧ Sl W p.A (p.bs.map B8) := by
  obtain ⟨a0, len, cap, rfl⟩ := okWide_slice ht hv
  obtain ⟨fuel, hf⟩ := h
  rcases Go.Deep.open_slice ht hf with ⟨hcs, hx⟩ | ⟨a, len', cap', m, n, D, Pl, hcs, _, hl, hm, hmm, hx, hi⟩
  · simp [Value.cells] at hcs
    obtain ⟨rfl, rfl, rfl⟩ := hcs
    exact ⟨none, 0, 0, [], rfl, rfl, Nat.le_refl _, by decide, Sl.nil, by intro p hp; cases hp⟩
  · simp [Value.cells] at hcs
    obtain ⟨rfl, rfl, rfl⟩ := hcs
    simp only [if_true] at hmm
    have hone : ∀ i, i < len → ∃ p : Part, W.cell? (a.add i) = some p.cell ∧ p.bs.length ≤ maxLen ∧ p.bs.length ≤ p.cap ∧ Sl W p.A (p.bs.map B8) := fun i hil => by
      obtain ⟨cs', hcl, htr⟩ := hi i (by omega)
      rw [hce, Nat.mul_one] at hcl
      obtain ⟨A, n1, cap1, bs, el, sp, hcs', h1, h2, h3, h4, _⟩ := bytes_of_trod he hb hcb htr
      exact ⟨⟨A, cap1, bs⟩, by rw [cells_one hcl hcs']; unfold Part.cell; rw [h1], by simp only; omega, by simp only; omega, h4⟩
    let f : Nat → Part := fun i => if hil : i < len then (hone i hil).choose else ⟨none, 0, []⟩
    have hf' : ∀ i, i < len → W.cell? (a.add i) = some (f i).cell ∧ (f i).bs.length ≤ maxLen ∧ (f i).bs.length ≤ (f i).cap ∧ Sl W (f i).A ((f i).bs.map B8) := fun i hil => by
      simp only [f, hil, dif_pos]
      exact (hone i hil).choose_spec
    refine ⟨some a, len, cap, (List.range len).map f, rfl, by simp, hl, hm, ?_, ?_⟩
    · intro k u hu
      have hk : k < len := by
        have := (List.getElem?_eq_some_iff.1 hu).1
        simpa using this
      have hc1 := (hf' k hk).1
      have hspot := World.cell?_spot (a := a.add 0) (hf' 0 (by omega)).1
      have e2 : u = (f k).cell := by
        simp [hk] at hu
        exact hu.symm
      obtain ⟨b, o, s⟩ := a
      have hs : s = none := by
        simpa [Addr.add] using hspot
      subst hs
      rw [Addr.add_lit] at hc1
      exact ⟨b, o, rfl, by rw [e2]; exact hc1⟩
    · intro p hp
      obtain ⟨i, hi, rfl⟩ := List.mem_map.1 hp
      exact (hf' i (List.mem_range.1 hi)).2
end
end Go.Law
