/-
  Rows of several cells, one behind the other. Nothing of the program stands in it.
-/
import Derived.Test.YtbmgeomndfodpaaMem
namespace Go.Mem
open Go.RowKit
section
variable {α : Type} {F : α → List Value} {m : Nat}
theorem flat_len (hF : ∀ x, (F x).length = m) (xs : List α) : (xs.flatMap F).length = xs.length * m := by
  induction xs with
  | nil => simp
  | cons x xs ih => rw [List.flatMap_cons, List.length_append, hF, ih, List.length_cons, Nat.add_mul]; omega
theorem flat_at (hF : ∀ x, (F x).length = m) {xs : List α} {k q : Nat} {x : α} (h : xs[k]? = some x) (hq : q < m) : (xs.flatMap F)[k * m + q]? = (F x)[q]? := by
  induction xs generalizing k with
  | nil => simp at h
  | cons y xs ih =>
    rw [List.flatMap_cons]
    cases k with
    | zero =>
      simp at h; subst h
      rw [Nat.zero_mul, Nat.zero_add, List.getElem?_append_left (by rw [hF]; exact hq)]
    | succ k =>
      rw [List.getElem?_append_right (by rw [hF, Nat.add_mul]; omega), hF, show (k + 1) * m + q - m = k * m + q by rw [Nat.add_mul]; omega]
      exact ih (by simpa using h)
theorem flat_set (hF : ∀ x, (F x).length = m) {xs : List α} {k q : Nat} {x y : α} {v : Value} (h : xs[k]? = some x) (hq : q < m) (hy : F y = (F x).set q v) : (xs.flatMap F).set (k * m + q) v = (xs.set k y).flatMap F := by
  induction xs generalizing k with
  | nil => simp at h
  | cons z xs ih =>
    rw [List.flatMap_cons]
    cases k with
    | zero =>
      simp at h; subst h
      rw [Nat.zero_mul, Nat.zero_add, List.set_append_left _ _ (by rw [hF]; exact hq), List.set_cons_zero, List.flatMap_cons, hy]
    | succ k =>
      rw [List.set_append_right _ _ (by rw [hF, Nat.add_mul]; omega), hF, show (k + 1) * m + q - m = k * m + q by rw [Nat.add_mul]; omega, List.set_cons_succ, List.flatMap_cons, ih (by simpa using h)]
end
end Go.Mem
