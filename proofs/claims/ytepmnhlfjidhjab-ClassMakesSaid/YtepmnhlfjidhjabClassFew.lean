/-
  The contracts of class.runes, spoorlaw9.few and spoorlaw9.valid.
-/
import Derived.Test.YtepmnhlfjidhjabClass
namespace Go.Proofs.Ytepmnhlfjidhjab
open Go.RowKit Go.Mem

def okR (g : Int × Int) : Bool := decide (((0 ≤ g.1 ∧ g.2 ≤ 55295) ∨ (57344 ≤ g.1 ∧ g.2 ≤ 1114111)) ∧ g.1 ≤ g.2)
set_option maxHeartbeats 3200000 in
theorem runes_calls (g1 g2 : Int) (w : World) : Calls Try.prog 49 #[.agg #[.int .i32 g1, .int .i32 g2]] w fun e w' => e = .returned (.bool (okR (g1, g2))) ∧ w' = w.alloc (.cells #[.int .i32 g1, .int .i32 g2] 61) := by
  have hv : Hid (∀ b, okR (g1, g2) = b → okR (g1, g2) = b) := (show ∀ _, _ → _ from fun _ h => h)
  by_cases h1 : 0 ≤ g1 <;> by_cases h2 : g2 ≤ 55295 <;> by_cases h3 : 57344 ≤ g1 <;> by_cases h4 : g2 ≤ 1114111 <;> by_cases h5 : g1 ≤ g2
  all_goals first | omega | skip
  all_goals
    have ho : okR (g1, g2) = decide (((0 ≤ g1 ∧ g2 ≤ 55295) ∨ (57344 ≤ g1 ∧ g2 ≤ 1114111)) ∧ g1 ≤ g2) := rfl
    simp only [h1, h2, h3, h4, h5] at ho
    rw [ho]
    clear ho hv
    go_enter Try.func49, Try.ntmps49
    go_wp2_with fail
    go_ret
    exact ⟨by simp, rfl⟩
set_option maxHeartbeats 1600000 in
theorem few_calls (A : Option Addr) (n c : Nat) (w : World) (hc : n ≤ c) : Calls Try.prog 36 #[.slice A n c] w fun e w' => e = .returned (.slice A (min n 40) c) ∧ w = w' := by
  by_cases h : 40 < n
  · have h1 : (40 : Int) < (n : Int) := by omega
    have h2 : (40 : Int) ≤ (c : Int) := by omega
    have e : min n 40 = 40 := by omega
    rw [e]
    go_enter Try.func36, Try.ntmps36
    go_wp2_with fail
    go_ret
    exact ⟨rfl, rfl⟩
  · have h1 : ¬ (40 : Int) < (n : Int) := by omega
    have e : min n 40 = n := by omega
    rw [e]
    go_enter Try.func36, Try.ntmps36
    go_wp2_with fail
    go_ret
    exact ⟨rfl, rfl⟩
def validR (r : Int) : Bool := decide (0 ≤ r ∧ r ≤ 1114111 ∧ (r < 55296 ∨ 57343 < r))
theorem validR_iff (r : Int) : validR r = true ↔ Cls.Valid r := decide_eq_true_iff
set_option maxHeartbeats 3200000 in
theorem valid_calls (r : Int) (w : World) : Calls Try.prog 42 #[.int .i32 r] w fun e w' => e = .returned (.bool (validR r)) ∧ w = w' := by
  by_cases h1 : 0 ≤ r <;> by_cases h2 : r ≤ 1114111 <;> by_cases h3 : r < 55296 <;> by_cases h4 : 57343 < r
  all_goals first | omega | skip
  all_goals
    have ho : validR r = decide (0 ≤ r ∧ r ≤ 1114111 ∧ (r < 55296 ∨ 57343 < r)) := rfl
    simp only [h1, h2, h3, h4] at ho
    rw [ho]
    clear ho
    go_enter Try.func42, Try.ntmps42
    go_wp2_with fail
    go_ret
    exact ⟨by simp, rfl⟩
end Go.Proofs.Ytepmnhlfjidhjab
