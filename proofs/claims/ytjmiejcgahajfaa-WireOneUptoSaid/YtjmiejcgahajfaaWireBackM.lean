/-
  Plain mathematics: bytes that are read as numbers are those that write them.
-/
import Derived.Test.YtjmiejcgahajfaaWireItems
namespace Go.Wire

theorem nb_val (l : List UInt8) (h8 : l.length ≤ 8) (h0 : l = [] ∨ l.getD 0 0 ≠ 0) : nb (val l) = l.length := by
  rcases h0 with rfl | h0
  · decide
  · match l, h0 with
    | x :: r, h0 =>
      have hx : 1 ≤ x.toNat := by
        have : x.toNat ≠ 0 := fun e => h0 (UInt8.toNat.inj e)
        omega
      have h1 := val_lt (x :: r)
      have h2 : 256 ^ r.length ≤ val (x :: r) := by
        rw [val_cons]
        have := Nat.mul_le_mul_right (256 ^ r.length) hx
        omega
      have h64 : val (x :: r) < 2 ^ 64 := Nat.lt_of_lt_of_le h1 (by
        have := Nat.pow_le_pow_right (n := 256) (by omega) h8
        exact Nat.le_trans this (by decide))
      have hp : 0 < 256 ^ r.length := Nat.pow_pos (by omega)
      have h3 := nb_low _ h64 (by omega)
      have h4 := nb_pow _ h64
      have h5 := (Nat.pow_lt_pow_iff_right (a := 256) (by omega)).1 (Nat.lt_of_le_of_lt h2 h4)
      have h6 := (Nat.pow_lt_pow_iff_right (a := 256) (by omega)).1 (Nat.lt_of_le_of_lt h3 h1)
      simp only [List.length_cons] at h6 ⊢
      omega
theorem num_val (l : List UInt8) (h8 : l.length ≤ 8) (h0 : l = [] ∨ l.getD 0 0 ≠ 0) : num (val l) = UInt8.ofNat l.length :: l := by
  unfold num
  rw [nb_val l h8 h0, digs_val]
theorem dec_bytes (bs : List UInt8) (a : Nat) (h : (dec bs a).2.2 = 0) : bs.drop a = num (dec bs a).1 ++ bs.drop (dec bs a).2.1 := by
  unfold dec at h ⊢
  split at h
  · cases h
  split at h
  · cases h
  split at h
  · cases h
  split at h
  · cases h
  rename_i h1 h2 h3 h4
  rw [if_neg h1, if_neg h2, if_neg h3, if_neg h4]
  have hlt : a < bs.length := by omega
  have hx : bs.getD a 0 = bs[a] := by simp [List.getD, hlt]
  rw [hx] at h2 h3 h4 ⊢
  have hl : ((bs.drop (a + 1)).take bs[a].toNat).length = bs[a].toNat := by rw [List.length_take, List.length_drop]; omega
  have hv := num_val ((bs.drop (a + 1)).take bs[a].toNat) (by omega) (by
    by_cases hk : bs[a].toNat = 0
    · left; rw [hk]; rfl
    · right
      intro e
      apply h4
      left
      refine ⟨by omega, ?_⟩
      have : ((bs.drop (a + 1)).take bs[a].toNat).getD 0 0 = bs.getD (a + 1) 0 := by
        simp [List.getD, show 0 < bs[a].toNat by omega]
      rw [← this]; exact e)
  show bs.drop a = num (val ((bs.drop (a + 1)).take bs[a].toNat)) ++ bs.drop (a + 1 + bs[a].toNat)
  have e : bs.drop (a + 1 + bs[a].toNat) = (bs.drop (a + 1)).drop bs[a].toNat := by rw [List.drop_drop]
  rw [hv, hl, List.cons_append, e, List.take_append_drop, List.drop_eq_getElem_cons hlt]
  congr 1
  exact (UInt8.ofNat_toNat (x := bs[a])).symm
end Go.Wire
namespace Go.Proofs.Ytjmiejcgahajfaa
open Go.RowKit Go.Mem

theorem up_bytes (bs : List UInt8) (a er : Nat) (most : Int) (h : (up bs a er most).2.2 = 0) : er = 0 ∧ bs.drop a = Wire.num (up bs a er most).1 ++ bs.drop (up bs a er most).2.1 ∧ (up bs a er most).1 < 2 ^ 63 ∧ (up bs a er most).2.1 ≤ bs.length ∧ ((up bs a er most).1 : Int) ≤ most := by
  have hlt := Wire.decU_lt bs a most
  have hnx := Wire.decU_next bs a most
  have hle := Wire.decU_le bs a most
  unfold up at h ⊢
  split at h
  · contradiction
  split at h
  · contradiction
  rename_i h1 h2
  rw [if_neg h1, if_neg h2]
  have h3 : (Wire.decU bs a most).2.2 = 0 := by omega
  refine ⟨by omega, ?_, hlt, hnx, hle h3⟩
  show bs.drop a = Wire.num (Wire.decU bs a most).1 ++ bs.drop (Wire.decU bs a most).2.1
  unfold Wire.decU at h3 ⊢
  split at h3
  · contradiction
  split at h3
  · cases h3
  rename_i h4 h5
  rw [if_neg h4, if_neg h5]
  exact Wire.dec_bytes bs a h3
theorem steps_bytes (bs : List UInt8) (a : Nat) : ∀ j, (steps bs a j).2.2 = 0 → (steps bs a j).1.length = j ∧ (∀ z ∈ (steps bs a j).1, inI64 z) ∧ bs.drop a = encs (steps bs a j).1 ++ bs.drop (steps bs a j).2.1
  | 0, _ => by
    refine ⟨rfl, ?_, rfl⟩
    intro z hz
    simp [steps] at hz
  | j + 1, h => by
    by_cases h0 : (steps bs a j).2.2 = 0
    · obtain ⟨h1, h2, h3⟩ := steps_bytes bs a j h0
      have e : steps bs a (j + 1) = ((steps bs a j).1 ++ [((nu bs (steps bs a j).2.1 0).1 : Int)], (nu bs (steps bs a j).2.1 0).2.1, (nu bs (steps bs a j).2.1 0).2.2) := by
        show (if (steps bs a j).2.2 ≠ 0 then steps bs a j else _) = _
        rw [if_neg (by omega)]
      rw [e] at h ⊢
      obtain ⟨_, h4, h5, _, _⟩ := up_bytes bs (steps bs a j).2.1 0 9223372036854775807 h
      refine ⟨by simp [h1], ?_, ?_⟩
      · intro z hz
        rcases List.mem_append.1 hz with hz | hz
        · exact h2 z hz
        · obtain rfl := List.mem_singleton.1 hz
          have h6 : (nu bs (steps bs a j).2.1 0).1 < 2 ^ 63 := h5
          unfold inI64; omega
      · rw [h3, encs_snoc, Int.toNat_natCast, List.append_assoc]
        exact congrArg _ h4
    · have e : steps bs a (j + 1) = steps bs a j := by
        show (if (steps bs a j).2.2 ≠ 0 then steps bs a j else _) = _
        rw [if_pos h0]
      rw [e] at h
      exact absurd h h0
/-- bytes that are read to the end without fault -/
theorem it_bytes (bs : List UInt8) (a er : Nat) (most : Int) (h : (it bs a er most).2.2 = 0) : (∀ z ∈ (it bs a er most).1, inI64 z) ∧ bs.drop a = Wire.num (it bs a er most).1.length ++ (encs (it bs a er most).1 ++ bs.drop (it bs a er most).2.1) ∧ (it bs a er most).1.length ≤ bs.length := by
  unfold it at h ⊢
  split at h
  · contradiction
  split at h
  · cases h
  split at h
  · contradiction
  rename_i h1 h2 h3
  rw [if_neg h1, if_neg h2, if_neg h3]
  obtain ⟨_, h4, h5, h6, _⟩ := up_bytes bs a er most (by omega)
  obtain ⟨h7, h8, h9⟩ := steps_bytes bs (up bs a er most).2.1 (up bs a er most).1 (by omega)
  refine ⟨h8, ?_, by rw [h7]; omega⟩
  rw [h7, ← h9]
  exact h4
end Go.Proofs.Ytjmiejcgahajfaa
