/-
  Plain mathematics: a number's bytes, most significant first, as few as can be, behind their count.
-/
import Derived.Lib.ItoaNum
import Derived.Test.YtepmnhlfjidhjaaRows
namespace Go.Wire

/-- how many bytes a number has -/
def nb (n : Nat) : Nat := (Lib.bitLen n + 7) / 8
/-- its k lowest bytes, the highest first -/
def digs (n k : Nat) : List UInt8 := (List.range k).reverse.map fun i => UInt8.ofNat (n / 256 ^ i)
def num (n : Nat) : List UInt8 := UInt8.ofNat (nb n) :: digs n (nb n)
/-- what bytes tell -/
def val (l : List UInt8) : Nat := l.foldl (fun a x => a * 256 + x.toNat) 0

theorem nb_zero : nb 0 = 0 := by decide
theorem bitLen_bounds (n : Nat) (h : n < 2 ^ 64) (h0 : n ≠ 0) : 1 ≤ Lib.bitLen n ∧ 2 ^ (Lib.bitLen n - 1) ≤ n ∧ n < 2 ^ Lib.bitLen n := Lib.bitLenAux_bounds 64 n h h0
theorem bitLen_le (n : Nat) (h : n < 2 ^ 64) : Lib.bitLen n ≤ 64 := by
  by_cases h0 : n = 0
  · subst h0; decide
  · have hb := bitLen_bounds n h h0
    have : 2 ^ (Lib.bitLen n - 1) < 2 ^ 64 := Nat.lt_of_le_of_lt hb.2.1 h
    have := (Nat.pow_lt_pow_iff_right (a := 2) (by omega)).1 this
    omega
theorem bitLen_lt (n : Nat) (m : Nat) (hm : m ≤ 64) (h : n < 2 ^ m) : Lib.bitLen n ≤ m := by
  by_cases h0 : n = 0
  · subst h0; exact Nat.le_trans (by decide : Lib.bitLen 0 ≤ 0) (Nat.zero_le _)
  · have hb := bitLen_bounds n (Nat.lt_of_lt_of_le h (Nat.pow_le_pow_right (by omega) hm)) h0
    have : 2 ^ (Lib.bitLen n - 1) < 2 ^ m := Nat.lt_of_le_of_lt hb.2.1 h
    have := (Nat.pow_lt_pow_iff_right (a := 2) (by omega)).1 this
    omega
theorem nb_le (n : Nat) (h : n < 2 ^ 63) : nb n ≤ 8 := by
  have := bitLen_lt n 63 (by omega) h
  unfold nb; omega
theorem nb_succ (n : Nat) (h : n < 2 ^ 64) (h0 : n ≠ 0) : nb n = nb (n / 256) + 1 := by
  by_cases hn : 256 ≤ n
  · have := Lib.bitLen_shift8 n hn h
    unfold nb; rw [this]; omega
  · have h1 : n / 256 = 0 := by omega
    have h2 := bitLen_lt n 8 (by omega) (by omega)
    have h3 := (bitLen_bounds n h h0).1
    rw [h1, nb_zero]
    unfold nb; omega
theorem nb_pow (n : Nat) (h : n < 2 ^ 64) : n < 256 ^ nb n := by
  by_cases h0 : n = 0
  · subst h0; decide
  · have hb := (bitLen_bounds n h h0).2.2
    have e : 256 ^ nb n = 2 ^ (8 * nb n) := by rw [Nat.pow_mul]
    rw [e]
    exact Nat.lt_of_lt_of_le hb (Nat.pow_le_pow_right (by omega) (by unfold nb; omega))
theorem nb_low (n : Nat) (h : n < 2 ^ 64) (h0 : n ≠ 0) : 256 ^ (nb n - 1) ≤ n := by
  have hb := bitLen_bounds n h h0
  have e : 256 ^ (nb n - 1) = 2 ^ (8 * (nb n - 1)) := by rw [Nat.pow_mul]
  rw [e]
  exact Nat.le_trans (Nat.pow_le_pow_right (by omega) (by unfold nb; omega)) hb.2.1

theorem digs_length (n k : Nat) : (digs n k).length = k := by simp [digs]
theorem digs_succ (n k : Nat) : digs n (k + 1) = UInt8.ofNat (n / 256 ^ k) :: digs n k := by
  unfold digs
  rw [List.range_succ, List.reverse_append]
  rfl
theorem num_length (n : Nat) : (num n).length = nb n + 1 := by simp [num, digs_length]

theorem val_acc (l : List UInt8) : ∀ a, l.foldl (fun a x => a * 256 + x.toNat) a = a * 256 ^ l.length + val l := by
  induction l with
  | nil => intro a; simp [val]
  | cons x l ih =>
    intro a
    have h1 : val (x :: l) = (0 * 256 + x.toNat) * 256 ^ l.length + val l := ih (0 * 256 + x.toNat)
    have h2 : (x :: l).foldl (fun a x => a * 256 + x.toNat) a = (a * 256 + x.toNat) * 256 ^ l.length + val l := ih (a * 256 + x.toNat)
    rw [h1, h2, List.length_cons, Nat.pow_succ', Nat.add_mul, Nat.add_mul, Nat.zero_mul, Nat.zero_add, Nat.mul_assoc]
    omega
theorem val_cons (x : UInt8) (l : List UInt8) : val (x :: l) = x.toNat * 256 ^ l.length + val l := by
  show List.foldl _ (0 * 256 + x.toNat) l = _
  rw [val_acc]; simp
theorem val_digs (n k : Nat) : val (digs n k) = n % 256 ^ k := by
  induction k with
  | zero => simp [digs, val, Nat.mod_one]
  | succ k ih =>
    rw [digs_succ, val_cons, ih, digs_length, UInt8.toNat_ofNat']
    have e : 256 ^ (k + 1) = 256 ^ k * 256 := Nat.pow_succ ..
    rw [e, Nat.mod_mul, Nat.mul_comm, Nat.add_comm]
theorem val_lt (l : List UInt8) : val l < 256 ^ l.length := by
  induction l with
  | nil => simp [val]
  | cons x l ih =>
    rw [val_cons, List.length_cons, Nat.pow_succ]
    have hx : x.toNat ≤ 255 := by have := x.toNat_lt; omega
    have : x.toNat * 256 ^ l.length ≤ 255 * 256 ^ l.length := Nat.mul_le_mul_right _ hx
    omega
/-- bytes are those of what they tell -/
theorem digs_val (l : List UInt8) : digs (val l) l.length = l := by
  induction l with
  | nil => rfl
  | cons x l ih =>
    rw [List.length_cons, digs_succ, val_cons]
    have hv := val_lt l
    have h1 : (x.toNat * 256 ^ l.length + val l) / 256 ^ l.length = x.toNat := by
      rw [Nat.mul_comm, Nat.mul_add_div (by exact Nat.pow_pos (by omega)), Nat.div_eq_of_lt hv, Nat.add_zero]
    have h2 : ∀ k ≤ l.length, ∀ m, digs (m * 256 ^ l.length + val l) k = digs (val l) k := by
      intro k hk m
      induction k with
      | zero => rfl
      | succ k ihk =>
        rw [digs_succ, digs_succ, ihk (by omega)]
        congr 1
        apply UInt8.toNat.inj
        rw [UInt8.toNat_ofNat', UInt8.toNat_ofNat']
        have e : 256 ^ l.length = 256 ^ k * (256 * 256 ^ (l.length - k - 1)) := by
          rw [← Nat.pow_succ', ← Nat.pow_add]; congr 1; omega
        rw [e, Nat.mul_comm m, Nat.mul_assoc, Nat.mul_add_div (Nat.pow_pos (by omega))]
        rw [Nat.mul_assoc, Nat.mul_add_mod]
    rw [h1, h2 _ (Nat.le_refl _), ih]
    congr 1
    exact UInt8.toNat.inj (by rw [UInt8.toNat_ofNat']; exact Nat.mod_eq_of_lt x.toNat_lt)
end Go.Wire
