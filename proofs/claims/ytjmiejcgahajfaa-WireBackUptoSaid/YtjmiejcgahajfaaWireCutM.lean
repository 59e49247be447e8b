/-
  Plain mathematics: what is written and cut off ends too early.
-/
import Derived.Test.YtjmiejcgahajfaaWireMethods
import Derived.Test.YtjmiejcgahajfaaWireM
namespace Go.Wire

theorem nb_byte (n : Nat) (h : n < 2 ^ 63) : (UInt8.ofNat (nb n)).toNat = nb n := by
  have := nb_le n h
  rw [UInt8.toNat_ofNat']; omega
/-- a number that is written is read -/
theorem dec_num (n : Nat) (r : List UInt8) (h : n < 2 ^ 63) : dec (num n ++ r) 0 = (n, nb n + 1, 0) := by
  have h64 : n < 2 ^ 64 := Nat.lt_trans h (by decide)
  have h8 := nb_le n h
  have hb := nb_byte n h
  have hl : (num n ++ r).length = nb n + 1 + r.length := by rw [List.length_append, num_length]
  have h0 : (num n ++ r).getD 0 0 = UInt8.ofNat (nb n) := rfl
  have ht : ((num n ++ r).drop (0 + 1)).take (nb n) = digs n (nb n) := by
    show (digs n (nb n) ++ r).take (nb n) = _
    rw [List.take_append_of_le_length (by rw [digs_length]; exact Nat.le_refl _), List.take_of_length_le (by rw [digs_length]; exact Nat.le_refl _)]
  have hv : val (digs n (nb n)) = n := by rw [val_digs, Nat.mod_eq_of_lt (nb_pow n h64)]
  unfold dec
  rw [h0, hb, if_neg (by omega), if_neg (by omega), if_neg (by omega), ht, hv, if_neg]
  · rw [Nat.zero_add, Nat.add_comm 1]
  · rintro (⟨hp, he⟩ | he)
    · have hn0 : n ≠ 0 := by
        rintro rfl
        rw [nb_zero] at hp; omega
      obtain ⟨k, hk⟩ : ∃ k, nb n = k + 1 := ⟨nb n - 1, by omega⟩
      have h1 : (num n ++ r).getD (0 + 1) 0 = UInt8.ofNat (n / 256 ^ k) := by
        show (digs n (nb n) ++ r).getD 0 0 = _
        rw [hk, digs_succ]; rfl
      rw [h1] at he
      have h2 := nb_low n h64 hn0
      have h3 := nb_pow n h64
      rw [hk] at h2 h3
      simp only [Nat.add_sub_cancel] at h2
      have hpos : 0 < 256 ^ k := Nat.pow_pos (by omega)
      have h4 : 1 ≤ n / 256 ^ k := (Nat.le_div_iff_mul_le hpos).2 (by omega)
      have h5 : n / 256 ^ k < 256 := (Nat.div_lt_iff_lt_mul hpos).2 (by rw [Nat.pow_succ] at h3; omega)
      have h6 := congrArg UInt8.toNat he
      rw [UInt8.toNat_ofNat'] at h6
      have h7 : (0 : UInt8).toNat = 0 := rfl
      omega
    · omega
theorem dec_cut (n m : Nat) (r : List UInt8) (h : n < 2 ^ 63) (hm : m < nb n + 1) : dec ((num n ++ r).take m) 0 = (0, 0, 3) := by
  have h8 := nb_le n h
  have hb := nb_byte n h
  have hl : ((num n ++ r).take m).length = m := by rw [List.length_take, List.length_append, num_length]; omega
  unfold dec
  by_cases h0 : m = 0
  · rw [if_pos (by omega)]
  · have h1 : ((num n ++ r).take m).getD 0 0 = UInt8.ofNat (nb n) := by
      obtain ⟨k, rfl⟩ : ∃ k, m = k + 1 := ⟨m - 1, by omega⟩
      rfl
    rw [h1, hb, if_neg (by omega), if_neg (by omega), if_pos (by omega)]
end Go.Wire
namespace Go.Proofs.Ytjmiejcgahajfaa
open Go.RowKit Go.Mem

theorem up_cut (n m : Nat) (r : List UInt8) (most : Int) (h : n < 2 ^ 63) (hm : m < Wire.nb n + 1) : up ((Wire.num n ++ r).take m) 0 0 most = (0, 0, 3) := by
  have hd : Wire.decU ((Wire.num n ++ r).take m) 0 most = (0, 0, 3) := by
    unfold Wire.decU
    rw [Wire.dec_cut n m r h hm]
    rfl
  unfold up
  rw [hd]
  rfl
theorem nu_cut (n m : Nat) (h : n < 2 ^ 63) (hm : m < (Wire.num n).length) : nu ((Wire.num n).take m) 0 0 = (0, 0, 3) := by
  have := up_cut n m [] 9223372036854775807 h (by rw [Wire.num_length] at hm; exact hm)
  rw [List.append_nil] at this
  exact this
theorem upto_cut (n m : Nat) (most : Int) (h : n < 2 ^ 63) (hm : m < (Wire.num n).length) : up ((Wire.num n).take m) 0 0 most = (0, 0, 3) := by
  have := up_cut n m [] most h (by rw [Wire.num_length] at hm; exact hm)
  rw [List.append_nil] at this
  exact this
theorem fl_cut (n m : Nat) (h : n < 2 ^ 63) (hm : m < (Wire.num n).length) : fl ((Wire.num n).take m) 0 0 = (false, 0, 3) := by
  unfold fl
  rw [nu_cut n m h hm]
  rfl
theorem up_num (n : Nat) (r : List UInt8) (h : n < 2 ^ 63) : up (Wire.num n ++ r) 0 0 (n : Int) = (n, Wire.nb n + 1, 0) := by
  have hd : Wire.decU (Wire.num n ++ r) 0 (n : Int) = (n, Wire.nb n + 1, 0) := by
    unfold Wire.decU
    rw [Wire.dec_num n r h, if_neg (by simp), if_neg (by simp)]
  unfold up
  rw [hd]
  rfl
theorem tx_cut (t : List UInt8) (m : Nat) (h : t.length < 2 ^ 63) (hm : m < (Wire.num t.length ++ t).length) : tx ((Wire.num t.length ++ t).take m) 0 0 (t.length : Int) = ([], 0, 3) := by
  by_cases hs : m < Wire.nb t.length + 1
  · unfold tx
    rw [up_cut _ m t _ h hs]
    rfl
  · have e : (Wire.num t.length ++ t).take m = Wire.num t.length ++ t.take (m - (Wire.nb t.length + 1)) := by
      rw [List.take_append, List.take_of_length_le (by rw [Wire.num_length]; omega), Wire.num_length]
    have hl : (Wire.num t.length ++ t.take (m - (Wire.nb t.length + 1))).length = m := by
      rw [← e, List.length_take]; omega
    rw [List.length_append, Wire.num_length] at hm
    rw [e]
    unfold tx
    rw [up_num _ _ h, if_neg (by simp), if_pos (by rw [hl]; show m < Wire.nb t.length + 1 + t.length; omega)]
end Go.Proofs.Ytjmiejcgahajfaa
