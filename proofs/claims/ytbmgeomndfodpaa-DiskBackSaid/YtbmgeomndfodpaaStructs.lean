/-
  A slice of structs of a fixed number of one-cell fields that came in: what each row holds.
-/
import Derived.Test.YtbmgeomndfodpaaLaw
namespace Go.Law
open Go.ChangeShapes Go.WideShapes Go.RowKit Go.Mem

/-- the slice address A leads to rows of f cells each -/
def RowsAt (w : World) (A : Option Addr) (f : Nat) (rs : List (List Value)) : Prop :=
  ∀ k r, rs[k]? = some r → ∃ b o, A = some ⟨b, o, none⟩ ∧ ∀ j v, r[j]? = some v → w.cell? ⟨b, o + k * f + j, none⟩ = some v
theorem RowsAt.keep {w w' : World} {A : Option Addr} {f : Nat} {rs : List (List Value)} (h : RowsAt w A f rs) (hk : ∀ b o, b < w.heap.size → w'.cell? ⟨b, o, none⟩ = w.cell? ⟨b, o, none⟩) : RowsAt w' A f rs := fun k r hr => by
  obtain ⟨b, o, e, hc⟩ := h k r hr
  exact ⟨b, o, e, fun j v hv => (hk _ _ (lt_of_cell (hc j v hv))).trans (hc j v hv)⟩
theorem RowsAt.below {w w' : World} {A : Option Addr} {f : Nat} {rs : List (List Value)} (h : RowsAt w A f rs) (hb : Below w.heap.size w w') : RowsAt w' A f rs := h.keep fun b o hl => hb.cell (p := ⟨b, o, none⟩) hl
/-- a row of two cells -/
theorem RowsAt.two {w : World} {A : Option Addr} {α : Type} {F : α → List Value} {xs : List α} (h : RowsAt w A 2 (xs.map F)) {k : Nat} {x : α} (hk : xs[k]? = some x) {u v : Value} (hF : F x = [u, v]) :
    ∃ b o, A = some ⟨b, o, none⟩ ∧ w.cell? ⟨b, o + k * 2, none⟩ = some u ∧ w.cell? ⟨b, o + k * 2 + 1, none⟩ = some v := by
  obtain ⟨b, o, e, hc⟩ := h k (F x) (by rw [List.getElem?_map, hk]; rfl)
  rw [hF] at hc
  exact ⟨b, o, e, hc 0 u rfl, hc 1 v rfl⟩
/-- a row of three cells -/
theorem RowsAt.three {w : World} {A : Option Addr} {α : Type} {F : α → List Value} {xs : List α} (h : RowsAt w A 3 (xs.map F)) {k : Nat} {x : α} (hk : xs[k]? = some x) {u v z : Value} (hF : F x = [u, v, z]) :
    ∃ b o, A = some ⟨b, o, none⟩ ∧ w.cell? ⟨b, o + k * 3, none⟩ = some u ∧ w.cell? ⟨b, o + k * 3 + 1, none⟩ = some v ∧ w.cell? ⟨b, o + k * 3 + 2, none⟩ = some z := by
  obtain ⟨b, o, e, hc⟩ := h k (F x) (by rw [List.getElem?_map, hk]; rfl)
  rw [hF] at hc
  exact ⟨b, o, e, hc 0 u rfl, hc 1 v rfl, hc 2 z rfl⟩

section
variable {H : Type} {enc : TypeId × Value → H} {P : Program} {W : World}

theorem open_structs {α : Type} {t e : TypeId} {f : Nat} (F : α → List Value) (ok : α → Prop) (ht : P.underlying t = some (.slice e)) (hc : P.cellsOf e = f) (hf : 0 < f) (hF : ∀ x, (F x).length = f)
    (good : ∀ fuel cs (x : DataW H × List MemPlace), DataW.trod enc P W 0 (fun _ => true) true fuel e cs = some x → ∃ a, cs = F a ∧ ok a)
    {v : Value} {d : DataW H} {ps : List MemPlace} {b0 : Nat} (hv : Value.okWide P W .any b0 t v) (h : DataW.Trod enc P W 0 (fun _ => true) true t v d ps) :
    ∃ (A : Option Addr) (n c : Nat) (xs : List α), v = .slice A n c ∧ xs.length = n ∧ n ≤ c ∧ c ≤ maxLen ∧ RowsAt W A f (xs.map F) ∧ ∀ x ∈ xs, ok x := by
  obtain ⟨a0, len, cap, rfl⟩ := okWide_slice ht hv
  obtain ⟨fuel, hfu⟩ := h
  rcases Go.Deep.open_slice ht hfu with ⟨hcs, _⟩ | ⟨a, len', cap', m, n, D, Pl, hcs, _, hl, hm, hmm, hx, hi⟩
  · simp [Value.cells] at hcs
    obtain ⟨rfl, rfl, rfl⟩ := hcs
    exact ⟨none, 0, 0, [], rfl, rfl, Nat.le_refl _, by decide, fun k r hr => by simp at hr, fun x hx => absurd hx List.not_mem_nil⟩
  · simp [Value.cells] at hcs
    obtain ⟨rfl, rfl, rfl⟩ := hcs
    simp only [if_true] at hmm
    subst hmm
    rw [hc] at hi
    have key : ∀ j, j < len → ∃ x : α, ok x ∧ ∃ b o, a = ⟨b, o, none⟩ ∧ ∀ (q : Nat) (u : Value), (F x)[q]? = some u → W.cell? ⟨b, o + j * f + q, none⟩ = some u := fun j hj => by
      obtain ⟨cs', hc1, hc2⟩ := hi j (by omega)
      obtain ⟨x, rfl, hok⟩ := good _ _ _ hc2
      obtain ⟨_, _, hat⟩ := World.cells?_some hc1
      refine ⟨x, hok, ?_⟩
      obtain ⟨cz, hz1, hz2⟩ := hi 0 (by omega)
      obtain ⟨_, hzl, hatz⟩ := World.cells?_some hz1
      obtain ⟨x0, rfl, _⟩ := good _ _ _ hz2
      have h0 := hatz 0 (by omega)
      rw [List.getElem?_eq_getElem (by rw [hF]; exact hf)] at h0
      have hspot := World.cell?_spot (a := (a.add (0 * f)).add 0) h0
      obtain ⟨b, o, sp⟩ := a
      have hs : sp = none := by simpa [Addr.add] using hspot
      subst hs
      refine ⟨b, o, rfl, fun q u hu => ?_⟩
      have hq : q < f := by
        have := (List.getElem?_eq_some_iff.1 hu).1
        rw [hF] at this; exact this
      have h1 := hat q (by omega)
      rw [Addr.add_lit, Addr.add_lit] at h1
      rw [h1]
      exact hu
    have build : ∀ l, l ≤ len → ∃ xs : List α, xs.length = l ∧ ∀ (j : Nat) (x : α), xs[j]? = some x → ok x ∧ ∃ b o, a = ⟨b, o, none⟩ ∧ ∀ (q : Nat) (u : Value), (F x)[q]? = some u → W.cell? ⟨b, o + j * f + q, none⟩ = some u := by
      intro l
      induction l with
      | zero => intro _; exact ⟨[], rfl, fun j i h => by simp at h⟩
      | succ l ih =>
        intro hle
        obtain ⟨xs, h1, h2⟩ := ih (by omega)
        obtain ⟨x, h3⟩ := key l (by omega)
        refine ⟨xs ++ [x], by simp [h1], fun j i' hj => ?_⟩
        by_cases hlt : j < xs.length
        · rw [List.getElem?_append_left hlt] at hj
          exact h2 j i' hj
        · have hjl : j < (xs ++ [x]).length := (List.getElem?_eq_some_iff.1 hj).1
          rw [List.length_append, List.length_singleton] at hjl
          obtain rfl : j = xs.length := by omega
          simp at hj
          subst hj
          rw [h1]
          exact h3
    obtain ⟨xs, h1, h2⟩ := build len (Nat.le_refl _)
    refine ⟨some a, len, m, xs, rfl, h1, hl, hm, ?_, ?_⟩
    · intro k r hr
      rw [List.getElem?_map] at hr
      obtain ⟨x, hx1, rfl⟩ := Option.map_eq_some_iff.1 hr
      obtain ⟨_, b, o, rfl, hcell⟩ := h2 k x hx1
      exact ⟨b, o, rfl, hcell⟩
    · intro x hmem
      obtain ⟨j, hj⟩ := List.mem_iff_getElem?.1 hmem
      exact (h2 j x hj).1

/-- a struct of two integers -/
theorem ints2_of_trod {t : TypeId} {k0 k1 : IntKind} {f0 f1 : Field} (hu : P.underlying t = some (.struct #[f0, f1])) (o0 : f0.offset = 0) (o1 : f1.offset = 1) (h0 : P.underlying f0.type = some (.int k0)) (h1 : P.underlying f1.type = some (.int k1)) (c0 : P.cellsOf f0.type = 1) (c1 : P.cellsOf f1.type = 1) (hc : P.cellsOf t = 2)
    {fuel : Nat} {cs : List Value} {x : DataW H × List MemPlace} (hf : DataW.trod enc P W 0 (fun _ => true) true fuel t cs = some x) :
    ∃ a b : Int, cs = [.int k0 a, .int k1 b] ∧ (Lit.int k0 a).wf = true ∧ (Lit.int k1 b).wf = true := by
  obtain ⟨xs, fu, _, rfl, hl, hlen, hat⟩ := DataW.trod_struct hu hf
  have e0 := hat 0 f0 rfl
  have e1 := hat 1 f1 rfl
  rw [hc] at hl
  match cs, hl, xs, hlen with
  | [v0, v1], _, [y0, y1], _ =>
    rw [o0, c0] at e0
    rw [o1, c1] at e1
    obtain ⟨a, g0, _, w0⟩ := DataW.trod_int h0 e0
    obtain ⟨b, g1, _, w1⟩ := DataW.trod_int h1 e1
    simp only [List.drop_zero, List.drop_succ_cons, List.take_succ_cons, List.take_zero] at g0 g1
    injection g0 with g0
    injection g1 with g1
    subst g0 g1
    exact ⟨a, b, rfl, w0, w1⟩
/-- a struct of three integers -/
theorem ints3_of_trod {t : TypeId} {k0 k1 k2 : IntKind} {f0 f1 f2 : Field} (hu : P.underlying t = some (.struct #[f0, f1, f2])) (o0 : f0.offset = 0) (o1 : f1.offset = 1) (o2 : f2.offset = 2) (h0 : P.underlying f0.type = some (.int k0)) (h1 : P.underlying f1.type = some (.int k1)) (h2 : P.underlying f2.type = some (.int k2))
    (c0 : P.cellsOf f0.type = 1) (c1 : P.cellsOf f1.type = 1) (c2 : P.cellsOf f2.type = 1) (hc : P.cellsOf t = 3)
    {fuel : Nat} {cs : List Value} {x : DataW H × List MemPlace} (hf : DataW.trod enc P W 0 (fun _ => true) true fuel t cs = some x) :
    ∃ a b c : Int, cs = [.int k0 a, .int k1 b, .int k2 c] ∧ (Lit.int k0 a).wf = true ∧ (Lit.int k1 b).wf = true ∧ (Lit.int k2 c).wf = true := by
  obtain ⟨xs, fu, _, rfl, hl, hlen, hat⟩ := DataW.trod_struct hu hf
  have e0 := hat 0 f0 rfl
  have e1 := hat 1 f1 rfl
  have e2 := hat 2 f2 rfl
  rw [hc] at hl
  match cs, hl, xs, hlen with
  | [v0, v1, v2], _, [y0, y1, y2], _ =>
    rw [o0, c0] at e0
    rw [o1, c1] at e1
    rw [o2, c2] at e2
    obtain ⟨a, g0, _, w0⟩ := DataW.trod_int h0 e0
    obtain ⟨b, g1, _, w1⟩ := DataW.trod_int h1 e1
    obtain ⟨c, g2, _, w2⟩ := DataW.trod_int h2 e2
    simp only [List.drop_zero, List.drop_succ_cons, List.take_succ_cons, List.take_zero] at g0 g1 g2
    injection g0 with g0
    injection g1 with g1
    injection g2 with g2
    subst g0 g1 g2
    exact ⟨a, b, c, rfl, w0, w1, w2⟩
theorem u8_of_wf {c : Int} (h : (Lit.int .u8 c).wf = true) : ∃ b : UInt8, c = (b.toNat : Int) := by
  have hr : 0 ≤ c ∧ c ≤ 255 := by simpa [Lit.wf, IntKind.min, IntKind.max, IntKind.signed, IntKind.bits] using h
  exact ⟨UInt8.ofNat c.toNat, by rw [UInt8.toNat_ofNat']; omega⟩
end
end Go.Law
