/-
  A slice of ranges that came in, opened; its first forty.
-/
import Derived.Test.YtepmnhlfjidhjabStructs
import Derived.Test.YtepmnhlfjidhjabClass
namespace Go.Proofs.Ytepmnhlfjidhjab
open Go.ChangeShapes Go.WideShapes Go.RowKit Go.Mem

def rowR (g : Int × Int) : List Value := [.int .i32 g.1, .int .i32 g.2]
theorem flatR_pick (l : List (Int × Int)) : ∀ (j : Nat) (v : Value), (flatR l)[j]? = some v → ∃ k q r, j = k * 2 + q ∧ (l.map rowR)[k]? = some r ∧ r[q]? = some v := by
  induction l with
  | nil => intro j v h; simp [flatR] at h
  | cons g l ih =>
    intro j v h
    rw [flatR_cons] at h
    match j, h with
    | 0, h => exact ⟨0, 0, rowR g, rfl, rfl, by simpa [rowR] using h⟩
    | 1, h => exact ⟨0, 1, rowR g, rfl, rfl, by simpa [rowR] using h⟩
    | j + 2, h =>
      obtain ⟨k, q, r, h1, h2, h3⟩ := ih j v (by simpa using h)
      exact ⟨k + 1, q, r, by omega, by simpa using h2, h3⟩
theorem rows_sl {w : World} {A : Option Addr} {l : List (Int × Int)} (h : Law.RowsAt w A 2 (l.map rowR)) : Sl w A (flatR l) := by
  intro j v hv
  obtain ⟨k, q, r, rfl, h2, h3⟩ := flatR_pick l j v hv
  obtain ⟨b, o, e, hc⟩ := h k r h2
  exact ⟨b, o, e, by rw [← Nat.add_assoc]; exact hc q v h3⟩
def ok32 (g : Int × Int) : Prop := (-2147483648 ≤ g.1 ∧ g.1 ≤ 2147483647) ∧ -2147483648 ≤ g.2 ∧ g.2 ≤ 2147483647
theorem wf32 {c : Int} (h : (Lit.int .i32 c).wf = true) : -2147483648 ≤ c ∧ c ≤ 2147483647 := by
  simpa [Lit.wf, IntKind.min, IntKind.max, IntKind.signed, IntKind.bits] using h
theorem cellsR2 : Try.prog.cellsOf 61 = 2 := by kernel_rfl
set_option maxRecDepth 100000 in
theorem open_ranges {H : Type} {enc : TypeId × Value → H} {W : World} {v : Value} {d : DataW H} {ps : List MemPlace} {b0 : Nat} (hv : Value.okWide Try.prog W .any b0 58 v) (h : DataW.Trod enc Try.prog W 0 (fun _ => true) true 58 v d ps) :
    ∃ (A : Option Addr) (n c : Nat) (l : List (Int × Int)), v = .slice A n c ∧ l.length = n ∧ n ≤ c ∧ c ≤ maxLen ∧ Sl W A (flatR l) ∧ In32 l := by
  obtain ⟨A, n, c, l, h1, h2, h3, h4, h5, h6⟩ := Law.open_structs (P := Try.prog) (α := Int × Int) (e := 61) (f := 2) rowR ok32 Try.underlying58 cellsR2 (by decide) (fun _ => rfl)
    (fun fuel cs x hf => by
      obtain ⟨a, b, hcs, w0, w1⟩ := Law.ints2_of_trod (k0 := .i32) (k1 := .i32) Try.underlying61 rfl rfl (by kernel_rfl) (by kernel_rfl) (by kernel_rfl) (by kernel_rfl) (by kernel_rfl) hf
      exact ⟨(a, b), hcs, wf32 w0, wf32 w1⟩) hv h
  exact ⟨A, n, c, l, h1, h2, h3, h4, rows_sl h5, h6⟩
theorem flatR_take (l : List (Int × Int)) (k : Nat) : flatR (l.take k) = (flatR l).take (k * 2) := by
  induction l generalizing k with
  | nil => simp [flatR]
  | cons g l ih =>
    cases k with
    | zero => rfl
    | succ k =>
      rw [List.take_succ_cons, flatR_cons, flatR_cons, ih, show (k + 1) * 2 = k * 2 + 1 + 1 by omega]
      rfl
theorem few_sl {w : World} {A : Option Addr} {l : List (Int × Int)} (h : Sl w A (flatR l)) (k : Nat) : Sl w A (flatR (l.take k)) := by
  rw [flatR_take]; exact h.take _
theorem few_in {l : List (Int × Int)} (h : In32 l) (k : Nat) : In32 (l.take k) := fun g hg => h g (List.mem_of_mem_take hg)
theorem few_len (l : List (Int × Int)) : (l.take 40).length = min l.length 40 := by rw [List.length_take, Nat.min_comm]
end Go.Proofs.Ytepmnhlfjidhjab
