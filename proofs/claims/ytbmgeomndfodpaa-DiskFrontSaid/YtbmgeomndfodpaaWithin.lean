/-
  The contract of spoorbook.Within: a number brought into lo .. hi.
-/
import Derived.Test.YtbmgeomndfodpaaMem
namespace Go.Proofs.Ytbmgeomndfodpaa
open Go.RowKit Go.Mem

def within (n lo hi : Int) : Int := lo + n % (hi - lo + 1)
theorem within_ge (n lo hi : Int) (h : lo ≤ hi) : lo ≤ within n lo hi := by
  have := Int.emod_nonneg n (b := hi - lo + 1) (by omega)
  unfold within; omega
theorem within_le (n lo hi : Int) (h : lo ≤ hi) : within n lo hi ≤ hi := by
  have := Int.emod_lt_of_pos n (b := hi - lo + 1) (by omega)
  unfold within; omega
theorem within_neg (n lo hi : Int) (h : lo ≤ hi) (ht : n.tmod (hi - lo + 1) < 0) : lo + (n.tmod (hi - lo + 1) + hi - lo + 1) = within n lo hi := by
  have hn : n < 0 := by
    rcases Int.lt_or_le n 0 with h1 | h1
    · exact h1
    · have := Int.tmod_nonneg (hi - lo + 1) h1; omega
  obtain ⟨m, rfl⟩ : ∃ m : Int, n = -m := ⟨-n, by omega⟩
  rw [Int.neg_tmod, Int.tmod_eq_emod_of_nonneg (by omega)] at *
  unfold within
  have h2 := Int.emod_nonneg m (b := hi - lo + 1) (by omega)
  have h3 := Int.emod_lt_of_pos m (b := hi - lo + 1) (by omega)
  have : (-m) % (hi - lo + 1) = (hi - lo + 1) - m % (hi - lo + 1) := by
    have e : -m = ((hi - lo + 1) - m % (hi - lo + 1)) + (hi - lo + 1) * (-(m / (hi - lo + 1)) - 1) := by
      have := Int.emod_add_mul_ediv m (hi - lo + 1)
      rw [Int.mul_sub, Int.mul_neg]; omega
    rw [e, Int.add_mul_emod_self_left]
    exact Int.emod_eq_of_lt (by omega) (by omega)
  omega
theorem within_pos (n lo hi : Int) (h : lo ≤ hi) (ht : ¬ n.tmod (hi - lo + 1) < 0) : lo + n.tmod (hi - lo + 1) = within n lo hi := by
  unfold within
  rcases Int.lt_or_le n 0 with h1 | h1
  · obtain ⟨m, rfl⟩ : ∃ m : Int, n = -m := ⟨-n, by omega⟩
    rw [Int.neg_tmod, Int.tmod_eq_emod_of_nonneg (by omega)] at *
    have h2 := Int.emod_nonneg m (b := hi - lo + 1) (by omega)
    have h4 : m % (hi - lo + 1) = 0 := by omega
    have : (-m) % (hi - lo + 1) = 0 := Int.emod_eq_zero_of_dvd (by rw [Int.dvd_neg]; exact Int.dvd_of_emod_eq_zero h4)
    omega
  · rw [Int.tmod_eq_emod_of_nonneg h1]

set_option maxHeartbeats 400000 in
theorem within_calls (n lo hi : Int) (w : World) (h0 : 0 ≤ lo) (h1 : lo ≤ hi) (h2 : hi ≤ 4611686018427387904) (hn : -9223372036854775808 ≤ n ∧ n ≤ 9223372036854775807) :
    Calls Try.prog 30 #[.int .i64 n, .int .i64 lo, .int .i64 hi] w fun e w' => e = .returned (.int .i64 (within n lo hi)) ∧ w = w' := by
  obtain ⟨hn1, hn2⟩ := hn
  have hm : 1 ≤ hi - lo + 1 := by omega
  by_cases ht : n.tmod (hi - lo + 1) < 0
  · have he := Lib.hid (within_neg n lo hi h1 ht)
    have hb : -(hi - lo + 1) < n.tmod (hi - lo + 1) := by
      have := Int.lt_tmod_of_pos n (b := hi - lo + 1) (by omega); omega
    generalize hr : n.tmod (hi - lo + 1) = r at ht he hb
    go_enter Try.func30, Try.ntmps30
    go_wp2
    go_ret
    exact ⟨by rw [← he.out]; rfl, rfl⟩
  · have he := Lib.hid (within_pos n lo hi h1 ht)
    have hb : n.tmod (hi - lo + 1) < hi - lo + 1 := Int.tmod_lt_of_pos n (by omega)
    generalize hr : n.tmod (hi - lo + 1) = r at ht he hb
    go_enter Try.func30, Try.ntmps30
    go_wp2
    go_ret
    exact ⟨by rw [← he.out]; rfl, rfl⟩
end Go.Proofs.Ytbmgeomndfodpaa
