/-
  A burst of bits: which are turned.
-/
import Derived.Test.YtenhbjcamkbffaaDoorOn
namespace Go.Proofs.YtenhbjcamkbffaaDoor
open Go.RowKit Go.Mem

theorem bandk (a : BitVec 32) (k : Nat) : bits .and .u32 ((a.toNat : Int) / 2 ^ k) 1 = if a.getLsbD k then 1 else 0 := by
  have e : ((a.toNat : Int) / 2 ^ k) = ((a.toNat / 2 ^ k : Nat) : Int) := by simp
  have h1 : bits .and .u32 ((a.toNat / 2 ^ k : Nat) : Int) 1 = ((a.toNat / 2 ^ k &&& 1 : Nat) : Int) := u32_and_nat _ 1 (Nat.lt_of_le_of_lt (Nat.div_le_self _ _) a.isLt) (by decide)
  rw [e, h1, nat_mask1, BitVec.getLsbD, Nat.testBit_eq_decide_div_mod_eq]
  rcases Nat.mod_two_eq_zero_or_one (a.toNat / 2 ^ k) with h | h <;> simp [h]
def nz (M : BitVec 32) : Bool := decide (M ≠ 0#32)
theorem bflip (x : UInt8) (r : Nat) (hr : r < 8) : bits .xor .u8 (x.toNat : Int) (2 ^ r % 256) = ((x ^^^ UInt8.ofNat (2 ^ r)).toNat : Int) := by
  have hp : (UInt8.ofNat (2 ^ r)).toNat = 2 ^ r := by
    rw [UInt8.toNat_ofNat']
    have : ∀ j : Fin 8, 2 ^ j.val % 2 ^ 8 = 2 ^ j.val := by decide
    exact this ⟨r, hr⟩
  have h2 : ((2 : Int) ^ r % 256) = ((2 ^ r : Nat) : Int) := by
    have : ∀ j : Fin 8, ((2 : Int) ^ j.val % 256) = ((2 ^ j.val : Nat) : Int) := by decide
    exact this ⟨r, hr⟩
  have h3 : 2 ^ r < 256 := by
    have : ∀ j : Fin 8, 2 ^ j.val < 256 := by decide
    exact this ⟨r, hr⟩
  rw [h2, u8_xor_nat _ _ x.toNat_lt h3, UInt8.toNat_xor, hp]
theorem pow_step {M : BitVec 32} {k : Nat} (hM : M.toNat < 2 ^ k) (hk : k < 32) : (M ^^^ (1#32 <<< k)).toNat < 2 ^ (k + 1) := by
  have hs : (1#32 <<< k).toNat = 2 ^ k := by
    have : ∀ j : Fin 32, (1#32 <<< j.val).toNat = 2 ^ j.val := by decide
    exact this ⟨k, hk⟩
  rw [BitVec.toNat_xor, hs]
  exact Nat.xor_lt_two_pow (Nat.lt_of_lt_of_le hM (Nat.pow_le_pow_right (by omega) (by omega))) (Nat.pow_lt_pow_right (by omega) (by omega))
theorem nz_step {M : BitVec 32} {k : Nat} (hM : M.toNat < 2 ^ k) (hk : k < 32) : nz (M ^^^ (1#32 <<< k)) = true := by
  refine decide_eq_true fun h => ?_
  have h1 : (M ^^^ (1#32 <<< k)).getLsbD k = false := by rw [h]; simp
  rw [BitVec.getLsbD_xor, BitVec.getLsbD, Nat.testBit_lt_two_pow hM, BitVec.getLsbD_shiftLeft] at h1
  simp [hk] at h1
theorem nz_of {a b M : BitVec 32} (h : a = b ↔ M = 0#32) : ((a.toNat : Int) != (b.toNat : Int)) = nz M := by
  unfold nz
  by_cases e : a = b
  · rw [decide_eq_false (fun hn => hn (h.1 e)), e]; simp
  · have h3 : M ≠ 0#32 := fun hn => e (h.2 hn)
    rw [decide_eq_true h3, bne_iff_ne]
    intro h2
    exact e (BitVec.eq_of_toNat_eq (by omega))
end Go.Proofs.YtenhbjcamkbffaaDoor
