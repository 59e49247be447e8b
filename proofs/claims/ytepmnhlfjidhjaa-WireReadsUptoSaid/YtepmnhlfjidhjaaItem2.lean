/-
  An item that came in: its fields, what bounds it.
-/
import Derived.Test.YtepmnhlfjidhjaaLaw
import Derived.Test.YtepmnhlfjidhjaaBulk
import Derived.Test.YtepmnhlfjidhjaaWireItems
namespace Go.Proofs.Ytepmnhlfjidhjaa
open Go.ChangeShapes Go.WideShapes Go.RowKit Go.Mem

section
variable {H : Type} {enc : TypeId × Value → H} {W : World}

theorem ints_of_trod {P : Program} {t e : TypeId} {fuel : Nat} {cs : List Value} {x : DataW H × List MemPlace} (ht : P.underlying t = some (.slice e)) (he : P.underlying e = some (.int .i64)) (hc : P.cellsOf e = 1)
    (hf : DataW.trod enc P W 0 (fun _ => true) true fuel t cs = some x) :
    ∃ (A : Option Addr) (n cap : Nat) (zs : List Int), cs = [.slice A n cap] ∧ zs.length = n ∧ n ≤ cap ∧ cap ≤ maxLen ∧ Sl W A (zs.map I64) ∧ (∀ z ∈ zs, inI64 z) ∧ cap ≤ Rows.uptoBulk x.1 := by
  rcases open_ints ht he hc hf with ⟨hcs, hx⟩ | ⟨a, len, cap, zs, hcs, _, hl, hm, hz, hx, hcell, hwz⟩
  · subst hx
    exact ⟨none, 0, 0, ([] : List Int), hcs, rfl, Nat.le_refl _, by decide, Sl.nil, fun z hz => absurd hz List.not_mem_nil, Nat.zero_le _⟩
  · simp only [if_true] at hz
    subst hx
    refine ⟨some a, len, cap, zs.take len, hcs, by simp; omega, hl, hm, ?_, ?_, ?_⟩
    · intro k u hu
      have hk : k < len := by
        have := (List.getElem?_eq_some_iff.1 hu).1
        simp at this; omega
      have hkz : k < zs.length := by omega
      have hc1 := hcell k hkz
      have hspot := World.cell?_spot (a := a.add 0) (hcell 0 (by omega))
      have e1 : zs.getD k 0 = zs[k] := by simp [List.getD, hkz]
      have e2 : u = .int .i64 zs[k] := by
        simp [hk, hkz] at hu
        rw [← hu]; rfl
      obtain ⟨b, o, s⟩ := a
      have hs : s = none := by
        simpa [Addr.add] using hspot
      subst hs
      rw [Addr.add_lit, e1] at hc1
      exact ⟨b, o, rfl, by rw [e2]; exact hc1⟩
    · intro z hz
      exact Law.i64_of_wf (hwz z (List.mem_of_mem_take hz))
    · have h1 := Small.many (lits (H := H) .i64 (zs.take len))
      have h2 := Small.many (lits (H := H) .i64 (zs.drop len))
      simp only [Rows.uptoBulk]
      simp [lits] at h1 h2 ⊢
      omega

/-- what an item is, and what bounds it -/
structure ItOk (W : World) (k n m : Int) (s : ByteArray) (L : Option Addr) (ln lc : Nat) (zs : List Int) : Prop where
  k : inI64 k
  n : inI64 n
  m : inI64 m
  len : zs.length = ln
  le : ln ≤ lc
  cap : lc ≤ maxLen
  sl : Sl W L (zs.map I64)
  ints : ∀ z ∈ zs, inI64 z

set_option maxRecDepth 100000 in
theorem item_of_trod {fuel : Nat} {cs : List Value} {x : DataW H × List MemPlace} (hf : DataW.trod enc Try.prog W 0 (fun _ => true) true fuel 53 cs = some x) :
    ∃ (k n m : Int) (s : ByteArray) (f : Bool) (L : Option Addr) (ln lc : Nat) (zs : List Int), cs = [.int .i64 k, .int .i64 n, .int .i64 m, .string s, .bool f, .slice L ln lc] ∧ ItOk W k n m s L ln lc zs ∧ s.size + lc ≤ Rows.uptoBulk x.1 := by
  obtain ⟨xs, fu, _, rfl, hl, hlen, hat⟩ := DataW.trod_struct Try.underlying53 hf
  have h0 := hat 0 _ rfl
  have h1 := hat 1 _ rfl
  have h2 := hat 2 _ rfl
  have h3 := hat 3 _ rfl
  have h4 := hat 4 _ rfl
  have h5 := hat 5 _ rfl
  clear hat
  have cI : Try.prog.cellsOf 3 = 1 := by kernel_rfl
  have cS : Try.prog.cellsOf 9 = 1 := by kernel_rfl
  have cB : Try.prog.cellsOf 4 = 1 := by kernel_rfl
  have cL : Try.prog.cellsOf 51 = 1 := by kernel_rfl
  have cT : Try.prog.cellsOf 53 = 6 := by kernel_rfl
  rw [cT] at hl
  match cs, hl, xs, hlen with
  | [v0, v1, v2, v3, v4, v5], _, [y0, y1, y2, y3, y4, y5], _ =>
    simp only [List.getElem?_cons_zero, List.getElem?_cons_succ] at h0 h1 h2 h3 h4 h5
    obtain ⟨k, e0, z0, w0⟩ := DataW.trod_int Try.underlying3 h0
    obtain ⟨n, e1, z1, w1⟩ := DataW.trod_int Try.underlying3 h1
    obtain ⟨m, e2, z2, w2⟩ := DataW.trod_int Try.underlying3 h2
    obtain ⟨s, e3, z3, w3⟩ := DataW.trod_string Try.underlying9 h3
    obtain ⟨f, e4, z4⟩ := DataW.trod_bool Try.underlying4 h4
    obtain ⟨L, ln, lc, zs, e5, a1, a2, a3, a4, a5, a6⟩ := ints_of_trod Try.underlying51 Try.underlying3 cI h5
    injection e0 with e0
    injection e1 with e1
    injection e2 with e2
    injection e3 with e3
    injection e4 with e4
    injection e5 with e5
    subst e0 e1 e2 e3 e4 e5 z3
    refine ⟨k, n, m, s, f, L, ln, lc, zs, rfl, ⟨Law.i64_of_wf w0, Law.i64_of_wf w1, Law.i64_of_wf w2, a1, a2, a3, a4, a5⟩, ?_⟩
    have b3 : Rows.uptoBulk (DataW.lit (H := H) (.string s.data.toList)) = s.data.toList.length + 1 := by simp [Rows.uptoBulk]
    have b4 : s.data.toList.length = s.size := by show s.data.toList.length = s.data.size; exact Array.length_toList
    simp only [List.map_cons, List.map_nil, Rows.uptoBulk, Rows.uptoBulkAll] at b3 ⊢
    omega
end
end Go.Proofs.Ytepmnhlfjidhjaa
