/-
  Items that came in.
-/
import Derived.Test.YtepmnhlfjidhjaaItem2
namespace Go.Proofs.Ytepmnhlfjidhjaa
open Go.ChangeShapes Go.WideShapes Go.RowKit Go.Mem

structure Itm where
  k : Int
  x : Int
  m : Int
  s : ByteArray
  f : Bool
  L : Option Addr
  ln : Nat
  lc : Nat
  zs : List Int
def Itm.cells (i : Itm) : List Value := [.int .i64 i.k, .int .i64 i.x, .int .i64 i.m, .string i.s, .bool i.f, .slice i.L i.ln i.lc]
def Itm.Ok (W : World) (i : Itm) : Prop := ItOk W i.k i.x i.m i.s i.L i.ln i.lc i.zs ∧ i.s.size + i.lc ≤ 1048576
def Its (w : World) (M : Option Addr) (its : List Itm) : Prop := ∀ (j : Nat) (i : Itm), its[j]? = some i → ∃ b o, M = some ⟨b, o, none⟩ ∧ ∀ (q : Nat) (v : Value), i.cells[q]? = some v → w.cell? ⟨b, o + j * 6 + q, none⟩ = some v
theorem Its.below {w w' : World} {M : Option Addr} {its : List Itm} (h : Its w M its) (hb : Below w.heap.size w w') : Its w' M its := by
  intro j i hi
  obtain ⟨b, o, hM, hc⟩ := h j i hi
  exact ⟨b, o, hM, fun q v hv => (hb.cell (p := ⟨b, o + j * 6 + q, none⟩) (lt_of_cell (hc q v hv))).trans (hc q v hv)⟩
set_option maxRecDepth 100000 in
theorem items_of_trod {H : Type} {enc : TypeId × Value → H} {W : World} {v : Value} {d : DataW H} {ps : List MemPlace} {b0 : Nat} (hv : Value.okWide Try.prog W .any b0 42 v) (h : DataW.Trod enc Try.prog W 0 (fun _ => true) true 42 v d ps) (hsm : Rows.uptoBulk d ≤ 1048576) :
    ∃ (M : Option Addr) (mn mc : Nat) (its : List Itm), v = .slice M mn mc ∧ its.length = mn ∧ mn ≤ mc ∧ Its W M its ∧ ∀ i ∈ its, i.Ok W := by
  obtain ⟨a0, len, cap, rfl⟩ := okWide_slice Try.underlying42 hv
  obtain ⟨fuel, hf⟩ := h
  have cT : Try.prog.cellsOf 53 = 6 := by kernel_rfl
  rcases Go.Deep.open_slice Try.underlying42 hf with ⟨hcs, hx⟩ | ⟨a, len', cap', m, n, D, Pl, hcs, _, hl, hm, hmm, hx, hi⟩
  · simp [Value.cells] at hcs
    obtain ⟨rfl, rfl, rfl⟩ := hcs
    exact ⟨none, 0, 0, [], rfl, rfl, Nat.le_refl _, fun j i h => by simp at h, fun i h => absurd h List.not_mem_nil⟩
  · simp [Value.cells] at hcs
    obtain ⟨rfl, rfl, rfl⟩ := hcs
    simp only [if_true] at hmm
    subst hmm
    rw [cT] at hi
    have hd : d = .slice ((List.range len).map D) ((List.range (m - len)).map fun j => D (len + j)) := congrArg Prod.fst hx
    have hD : ∀ j, j < len → Rows.uptoBulk (D j) ≤ 1048576 := fun j hj => by
      have h1 := Small.each ((List.range len).map D) (D j) (List.mem_map.2 ⟨j, List.mem_range.2 hj, rfl⟩)
      rw [hd] at hsm
      simp only [Rows.uptoBulk] at hsm
      omega
    have key : ∀ j, j < len → ∃ i : Itm, i.Ok W ∧ ∃ b o, a = ⟨b, o, none⟩ ∧ ∀ (q : Nat) (v : Value), i.cells[q]? = some v → W.cell? ⟨b, o + j * 6 + q, none⟩ = some v := fun j hj => by
      obtain ⟨cs', hc1, hc2⟩ := hi j (by omega)
      obtain ⟨k, x, m', s, f, L, ln, lc, zs, rfl, hok, hbu⟩ := item_of_trod hc2
      have hb := hD j hj
      obtain ⟨_, hl6, hat⟩ := World.cells?_some hc1
      refine ⟨⟨k, x, m', s, f, L, ln, lc, zs⟩, ⟨hok, Nat.le_trans hbu hb⟩, ?_⟩
      obtain ⟨cz, hz1, hz2⟩ := hi 0 (by omega)
      obtain ⟨_, _, hatz⟩ := World.cells?_some hz1
      obtain ⟨k', x', m'', s', f', L', ln', lc', zs', rfl, _, _⟩ := item_of_trod hz2
      have hspot := World.cell?_spot (a := (a.add (0 * 6)).add 0) (hatz 0 (by omega))
      obtain ⟨b, o, sp⟩ := a
      have hs : sp = none := by simpa [Addr.add] using hspot
      subst hs
      refine ⟨b, o, rfl, fun q v hv => ?_⟩
      have hq : q < 6 := by
        have := (List.getElem?_eq_some_iff.1 hv).1
        simpa [Itm.cells] using this
      have h1 := hat q (by omega)
      rw [Addr.add_lit, Addr.add_lit] at h1
      rw [h1]
      exact hv
    have build : ∀ l, l ≤ len → ∃ its : List Itm, its.length = l ∧ ∀ (j : Nat) (i : Itm), its[j]? = some i → i.Ok W ∧ ∃ b o, a = ⟨b, o, none⟩ ∧ ∀ (q : Nat) (v : Value), i.cells[q]? = some v → W.cell? ⟨b, o + j * 6 + q, none⟩ = some v := by
      intro l
      induction l with
      | zero => intro _; exact ⟨[], rfl, fun j i h => by simp at h⟩
      | succ l ih =>
        intro hle
        obtain ⟨its, h1, h2⟩ := ih (by omega)
        obtain ⟨i, h3⟩ := key l (by omega)
        refine ⟨its ++ [i], by simp [h1], fun j i' hj => ?_⟩
        by_cases hlt : j < its.length
        · rw [List.getElem?_append_left hlt] at hj
          exact h2 j i' hj
        · have hjl : j < (its ++ [i]).length := (List.getElem?_eq_some_iff.1 hj).1
          rw [List.length_append, List.length_singleton] at hjl
          obtain rfl : j = its.length := by omega
          simp at hj
          subst hj
          rw [h1]
          exact h3
    obtain ⟨its, h1, h2⟩ := build len (Nat.le_refl _)
    refine ⟨some a, len, m, its, rfl, h1, hl, ?_, ?_⟩
    · intro j i hji
      obtain ⟨_, b, o, rfl, hc⟩ := h2 j i hji
      exact ⟨b, o, rfl, hc⟩
    · intro i hmem
      obtain ⟨j, hj⟩ := List.mem_iff_getElem?.1 hmem
      exact (h2 j i hj).1
end Go.Proofs.Ytepmnhlfjidhjaa
