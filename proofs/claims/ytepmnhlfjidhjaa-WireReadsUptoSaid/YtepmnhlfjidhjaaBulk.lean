/-
  What the bound on the bulk of what is read says of a slice's length.
-/
import Derived.Test.YtepmnhlfjidhjaaRows
namespace Go.Proofs.Ytepmnhlfjidhjaa.Small

theorem one {H : Type} (d : DataW H) : 1 ≤ Rows.uptoBulk d := by
  cases d with
  | lit l => cases l <;> simp [Rows.uptoBulk]
  | nil => simp [Rows.uptoBulk]
  | ptr d => simp [Rows.uptoBulk]
  | slice l r => simp [Rows.uptoBulk]
  | agg l => simp [Rows.uptoBulk]
  | iface t d => simp [Rows.uptoBulk]
  | map l => simp [Rows.uptoBulk]
  | held h => simp [Rows.uptoBulk]
theorem many {H : Type} : ∀ l : List (DataW H), l.length ≤ Rows.uptoBulkAll l
  | [] => Nat.zero_le _
  | d :: r => by
    have h1 := one d
    have h2 := many r
    simp only [Rows.uptoBulkAll, List.length_cons]
    omega
theorem each {H : Type} : ∀ (l : List (DataW H)) (d : DataW H), d ∈ l → Rows.uptoBulk d ≤ Rows.uptoBulkAll l
  | x :: r, d, h => by
    simp only [Rows.uptoBulkAll]
    rcases List.mem_cons.1 h with rfl | h
    · omega
    · have := each r d h
      omega
theorem all {H : Type} {l : List (DataW H)} (h : Rows.uptoSmall H l = true) : Rows.uptoBulkAll l ≤ 1048576 := of_decide_eq_true h
/-- a slice's length and what is spare -/
theorem slice {H : Type} {l : List (DataW H)} (h : Rows.uptoSmall H l = true) {el sp : List (DataW H)} (hm : DataW.slice el sp ∈ l) : el.length + sp.length ≤ 1048576 := by
  have h1 := all h
  have h2 := each l _ hm
  have h3 := many el
  have h4 := many sp
  simp only [Rows.uptoBulk] at h2
  omega
/-- a string's length -/
theorem text {H : Type} {l : List (DataW H)} (h : Rows.uptoSmall H l = true) {b : List UInt8} (hm : DataW.lit (.string b) ∈ l) : b.length ≤ 1048576 := by
  have h1 := all h
  have h2 := each l _ hm
  simp only [Rows.uptoBulk] at h2
  omega
end Go.Proofs.Ytepmnhlfjidhjaa.Small
