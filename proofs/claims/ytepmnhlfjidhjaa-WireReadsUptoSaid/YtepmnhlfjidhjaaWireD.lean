/-
  Plain mathematics: a number read from bytes.
-/
import Derived.Test.YtepmnhlfjidhjaaWireM
namespace Go.Wire

/-- the number at place a: its value, where it ends, what is wrong -/
def dec (bs : List UInt8) (a : Nat) : Nat × Nat × Nat :=
  if bs.length ≤ a then (0, 0, 3)
  else if 8 < (bs.getD a 0).toNat then (0, 0, 4)
  else if bs.length < a + 1 + (bs.getD a 0).toNat then (0, 0, 3)
  else if (0 < (bs.getD a 0).toNat ∧ (bs.getD (a + 1) 0) = 0) ∨ 2 ^ 63 ≤ val ((bs.drop (a + 1)).take (bs.getD a 0).toNat) then (0, 0, 4)
  else (val ((bs.drop (a + 1)).take (bs.getD a 0).toNat), a + 1 + (bs.getD a 0).toNat, 0)
/-- a number that is at most 'most' -/
def decU (bs : List UInt8) (a : Nat) (most : Int) : Nat × Nat × Nat :=
  if (dec bs a).2.2 ≠ 0 then dec bs a else if most < ((dec bs a).1 : Int) then (0, 0, 2) else dec bs a

theorem dec_lt (bs : List UInt8) (a : Nat) : (dec bs a).1 < 2 ^ 63 := by
  unfold dec
  split
  · decide
  split
  · decide
  split
  · decide
  split
  · decide
  · rename_i h; omega
theorem dec_next (bs : List UInt8) (a : Nat) : (dec bs a).2.1 ≤ bs.length := by
  unfold dec
  split
  · exact Nat.zero_le _
  split
  · exact Nat.zero_le _
  split
  · exact Nat.zero_le _
  split
  · exact Nat.zero_le _
  · show a + 1 + (bs.getD a 0).toNat ≤ bs.length; omega
theorem dec_err (bs : List UInt8) (a : Nat) : (dec bs a).2.2 ≠ 0 → (dec bs a).1 = 0 ∧ (dec bs a).2.1 = 0 := by
  unfold dec
  split
  · intro _; exact ⟨rfl, rfl⟩
  split
  · intro _; exact ⟨rfl, rfl⟩
  split
  · intro _; exact ⟨rfl, rfl⟩
  split
  · intro _; exact ⟨rfl, rfl⟩
  · intro h; exact absurd rfl h
theorem dec_next_gt (bs : List UInt8) (a : Nat) (h : (dec bs a).2.2 = 0) : a < (dec bs a).2.1 := by
  unfold dec at *
  split at h
  · cases h
  split at h
  · cases h
  split at h
  · cases h
  split at h
  · cases h
  · simp only [*, if_false]; omega
theorem decU_max (bs : List UInt8) (a : Nat) : decU bs a 9223372036854775807 = dec bs a := by
  unfold decU
  have := dec_lt bs a
  split
  · rfl
  · rw [if_neg (by omega)]
theorem decU_err (bs : List UInt8) (a : Nat) (m : Int) : (decU bs a m).2.2 ≠ 0 → (decU bs a m).1 = 0 ∧ (decU bs a m).2.1 = 0 := by
  unfold decU
  split
  · exact dec_err bs a
  · split
    · intro _; exact ⟨rfl, rfl⟩
    · intro h; contradiction
theorem decU_lt (bs : List UInt8) (a : Nat) (m : Int) : (decU bs a m).1 < 2 ^ 63 := by
  unfold decU
  split
  · exact dec_lt _ _
  · split
    · decide
    · exact dec_lt _ _
theorem decU_next (bs : List UInt8) (a : Nat) (m : Int) : (decU bs a m).2.1 ≤ bs.length := by
  unfold decU
  split
  · exact dec_next _ _
  · split
    · exact Nat.zero_le _
    · exact dec_next _ _
theorem decU_le (bs : List UInt8) (a : Nat) (m : Int) (h : (decU bs a m).2.2 = 0) : ((decU bs a m).1 : Int) ≤ m := by
  unfold decU at *
  split at h
  · contradiction
  · split at h
    · cases h
    · rename_i h1 h2; rw [if_neg h1, if_neg h2]; omega
end Go.Wire
