/-
  What Go reads of a string's bytes is what utf.front reads: the mathematics.
-/
import Derived.Test.YtepmnhlfjidhjaaUtfValue
import Derived.Laws.RangeAny
namespace Go.Proofs.Ytepmnhlfjidhjaa
open Go.RowKit Go.Mem

def byteL (l : List UInt8) (k : Nat) : Nat := (l[k]?.getD 0).toNat
def contL (l : List UInt8) (k : Nat) : Bool := decide (k < l.length) && byteL l k / 64 == 2
def decL (l : List UInt8) : Nat × Nat :=
  if byteL l 0 < 0x80 then (byteL l 0, 1)
  else if (byteL l 0 / 32 == 6 && contL l 1) = true then
    if (byteL l 0 % 32) * 64 + byteL l 1 % 64 ≥ 0x80 then ((byteL l 0 % 32) * 64 + byteL l 1 % 64, 2) else (65533, 1)
  else if (byteL l 0 / 16 == 14 && contL l 1 && contL l 2) = true then
    if ((byteL l 0 % 16) * 4096 + (byteL l 1 % 64) * 64 + byteL l 2 % 64 ≥ 0x800 && Utf8.valid (((byteL l 0 % 16) * 4096 + (byteL l 1 % 64) * 64 + byteL l 2 % 64 : Nat) : Int)) = true then ((byteL l 0 % 16) * 4096 + (byteL l 1 % 64) * 64 + byteL l 2 % 64, 3) else (65533, 1)
  else if (byteL l 0 / 8 == 30 && contL l 1 && contL l 2 && contL l 3) = true then
    if ((byteL l 0 % 8) * 262144 + (byteL l 1 % 64) * 4096 + (byteL l 2 % 64) * 64 + byteL l 3 % 64 ≥ 0x10000 && Utf8.valid (((byteL l 0 % 8) * 262144 + (byteL l 1 % 64) * 4096 + (byteL l 2 % 64) * 64 + byteL l 3 % 64 : Nat) : Int)) = true then ((byteL l 0 % 8) * 262144 + (byteL l 1 % 64) * 4096 + (byteL l 2 % 64) * 64 + byteL l 3 % 64, 4) else (65533, 1)
  else (65533, 1)
theorem get_drop (s : ByteArray) (i k : Nat) : (s.get! (i + k)).toNat = byteL (s.data.toList.drop i) k := by
  unfold byteL
  rw [List.getElem?_drop, Array.getElem?_toList]
  congr 1
  by_cases h : i + k < s.data.size
  · rw [Array.getElem?_eq_getElem h]
    show s.get! (i + k) = _
    simp only [ByteArray.get!]
    exact getElem!_pos s.data _ h
  · rw [Array.getElem?_eq_none (by omega)]
    simp only [ByteArray.get!, Option.getD_none]
    exact getElem!_neg s.data _ h
theorem cont_drop (s : ByteArray) (i k : Nat) : decide (i + k < s.size) = decide (k < (s.data.toList.drop i).length) := by
  rw [List.length_drop, Array.length_toList]
  show decide (i + k < s.data.size) = _
  exact decide_eq_decide.2 (by omega)
theorem decode_decL (s : ByteArray) (i : Nat) : Utf8.decode s i = decL (s.data.toList.drop i) := by
  unfold Utf8.decode decL contL
  simp only [get_drop, cont_drop, Utf8.runeError]
theorem valid_iff (r : Nat) : Utf8.valid (r : Int) = decide (r < 55296 ∨ (57344 ≤ r ∧ r ≤ 1114111)) := by
  unfold Utf8.valid
  rw [Bool.eq_iff_iff]
  simp
  omega
theorem decL_frontU (a : UInt8) (t : List UInt8) : decL (a :: t) = frontU (a :: t) := by
  have ha := a.toNat_lt
  unfold frontU startU
  simp only [List.getElem?_cons_zero]
  by_cases h1 : a.toNat ≤ 127
  · have e : shapeU a.toNat = (1, 0, 0) := by unfold shapeU; rw [if_pos h1]
    rw [e]
    simp [tailU, valN, decL, byteL]
    omega
  by_cases h2 : a.toNat < 194
  · have e : shapeU a.toNat = (0, 0, 0) := by unfold shapeU; rw [if_neg h1, if_pos h2]
    rw [e]
    have hA : byteL (a :: t) 0 = a.toNat := rfl
    simp only [if_true]
    unfold decL
    rw [hA, if_neg (by omega)]
    have n1 : (a.toNat / 16 == 14) = false := beq_eq_false_iff_ne.2 (by omega)
    have n2 : (a.toNat / 8 == 30) = false := beq_eq_false_iff_ne.2 (by omega)
    rw [n1, n2]
    have hb : byteL (a :: t) 1 % 64 < 64 := Nat.mod_lt _ (by decide)
    simp
    omega
  have hA : byteL (a :: t) 0 = a.toNat := rfl
  have hd : ¬ a.toNat < 128 := by omega
  by_cases h3 : a.toNat ≤ 223
  · have e : shapeU a.toNat = (2, 128, 191) := by unfold shapeU; rw [if_neg h1, if_neg h2, if_pos h3]
    rw [e]
    have n1 : (a.toNat / 32 == 6) = true := beq_iff_eq.2 (by omega)
    have n2 : (a.toNat / 16 == 14) = false := beq_eq_false_iff_ne.2 (by omega)
    have n3 : (a.toNat / 8 == 30) = false := beq_eq_false_iff_ne.2 (by omega)
    unfold decL
    rw [hA, if_neg hd, n1, n2, n3]
    cases t with
    | nil => simp [tailU, contL]
    | cons b t =>
      have hb := b.toNat_lt
      have hB : byteL (a :: b :: t) 1 = b.toNat := rfl
      by_cases k1 : b.toNat < 128 ∨ 191 < b.toNat
      · have c1 : (b.toNat / 64 == 2) = false := beq_eq_false_iff_ne.2 (by omega)
        simp [tailU, contL, hB, c1, k1]
      · have c1 : (b.toNat / 64 == 2) = true := beq_iff_eq.2 (by omega)
        have c2 : 128 ≤ a.toNat % 32 * 64 + b.toNat % 64 := by omega
        simp [tailU, contL, hB, c1, k1, c2, valN]
  have n0 : (a.toNat / 32 == 6) = false := beq_eq_false_iff_ne.2 (by omega)
  by_cases h4 : a.toNat ≤ 239
  · obtain ⟨lo, hi, e, hlh⟩ : ∃ lo hi, shapeU a.toNat = (3, lo, hi) ∧ ((a.toNat = 224 ∧ lo = 160 ∧ hi = 191) ∨ (a.toNat = 237 ∧ lo = 128 ∧ hi = 159) ∨ (a.toNat ≠ 224 ∧ a.toNat ≠ 237 ∧ lo = 128 ∧ hi = 191)) := by
      unfold shapeU
      rw [if_neg h1, if_neg h2, if_neg h3]
      by_cases q1 : a.toNat = 224
      · exact ⟨160, 191, by rw [if_pos q1], .inl ⟨q1, rfl, rfl⟩⟩
      · by_cases q2 : a.toNat = 237
        · exact ⟨128, 159, by rw [if_neg q1, if_pos q2], .inr (.inl ⟨q2, rfl, rfl⟩)⟩
        · exact ⟨128, 191, by rw [if_neg q1, if_neg q2, if_pos h4], .inr (.inr ⟨q1, q2, rfl, rfl⟩)⟩
    rw [e]
    have n2 : (a.toNat / 16 == 14) = true := beq_iff_eq.2 (by omega)
    have n3 : (a.toNat / 8 == 30) = false := beq_eq_false_iff_ne.2 (by omega)
    unfold decL
    rw [hA, if_neg hd, n0, n2, n3]
    match t with
    | [] => simp [tailU, contL]
    | [b] =>
      simp [tailU, contL]
      split <;> (intro h; omega)
    | b :: c :: t =>
      have hb := b.toNat_lt
      have hc := c.toNat_lt
      have hB : byteL (a :: b :: c :: t) 1 = b.toNat := rfl
      have hC : byteL (a :: b :: c :: t) 2 = c.toNat := rfl
      have hcB : contL (a :: b :: c :: t) 1 = (b.toNat / 64 == 2) := by simp [contL, hB]
      have hcC : contL (a :: b :: c :: t) 2 = (c.toNat / 64 == 2) := by simp [contL, hC]
      rw [hcB, hcC, hB, hC, valid_iff]
      by_cases k1 : b.toNat < lo ∨ hi < b.toNat
      · simp [tailU, k1]
        intros
        omega
      · by_cases k2 : c.toNat < 128 ∨ 191 < c.toNat
        · have c2 : (c.toNat / 64 == 2) = false := beq_eq_false_iff_ne.2 (by omega)
          simp [tailU, k1, k2, c2]
        · have c1 : (b.toNat / 64 == 2) = true := beq_iff_eq.2 (by omega)
          have c2 : (c.toNat / 64 == 2) = true := beq_iff_eq.2 (by omega)
          have c3 : 2048 ≤ a.toNat % 16 * 4096 + b.toNat % 64 * 64 + c.toNat % 64 := by omega
          have c4 : (a.toNat % 16 * 4096 + b.toNat % 64 * 64 + c.toNat % 64 < 55296 ∨ (57344 ≤ a.toNat % 16 * 4096 + b.toNat % 64 * 64 + c.toNat % 64 ∧ a.toNat % 16 * 4096 + b.toNat % 64 * 64 + c.toNat % 64 ≤ 1114111)) := by omega
          simp [tailU, k1, k2, c1, c2, c3, c4, valN]
          omega
  have m0 : (a.toNat / 16 == 14) = false := beq_eq_false_iff_ne.2 (by omega)
  by_cases h5 : a.toNat ≤ 244
  · obtain ⟨lo, hi, e, hlh⟩ : ∃ lo hi, shapeU a.toNat = (4, lo, hi) ∧ ((a.toNat = 240 ∧ lo = 144 ∧ hi = 191) ∨ (a.toNat = 244 ∧ lo = 128 ∧ hi = 143) ∨ (a.toNat ≠ 240 ∧ a.toNat ≠ 244 ∧ lo = 128 ∧ hi = 191)) := by
      unfold shapeU
      rw [if_neg h1, if_neg h2, if_neg h3, if_neg (by omega), if_neg (by omega), if_neg h4]
      by_cases q1 : a.toNat = 240
      · exact ⟨144, 191, by rw [if_pos q1], .inl ⟨q1, rfl, rfl⟩⟩
      · by_cases q2 : a.toNat = 244
        · exact ⟨128, 143, by rw [if_neg q1, if_neg (by omega), if_pos q2], .inr (.inl ⟨q2, rfl, rfl⟩)⟩
        · exact ⟨128, 191, by rw [if_neg q1, if_pos (by omega)], .inr (.inr ⟨q1, q2, rfl, rfl⟩)⟩
    rw [e]
    have n3 : (a.toNat / 8 == 30) = true := beq_iff_eq.2 (by omega)
    unfold decL
    rw [hA, if_neg hd, n0, m0, n3]
    match t with
    | [] => simp [tailU, contL]
    | [b] =>
      simp [tailU, contL]
      split <;> (intro h; omega)
    | [b, c] =>
      simp [tailU, contL]
      repeat' split
      all_goals (intro h; omega)
    | b :: c :: d :: t =>
      have hb := b.toNat_lt
      have hc := c.toNat_lt
      have hd2 := d.toNat_lt
      have hB : byteL (a :: b :: c :: d :: t) 1 = b.toNat := rfl
      have hC : byteL (a :: b :: c :: d :: t) 2 = c.toNat := rfl
      have hD : byteL (a :: b :: c :: d :: t) 3 = d.toNat := rfl
      have hcB : contL (a :: b :: c :: d :: t) 1 = (b.toNat / 64 == 2) := by simp [contL, hB]
      have hcC : contL (a :: b :: c :: d :: t) 2 = (c.toNat / 64 == 2) := by simp [contL, hC]
      have hcD : contL (a :: b :: c :: d :: t) 3 = (d.toNat / 64 == 2) := by simp [contL, hD]
      rw [hcB, hcC, hcD, hB, hC, hD]
      rw [valid_iff (a.toNat % 8 * 262144 + b.toNat % 64 * 4096 + c.toNat % 64 * 64 + d.toNat % 64)]
      by_cases k1 : b.toNat < lo ∨ hi < b.toNat
      · simp [tailU, k1]
        intros
        omega
      · by_cases k2 : c.toNat < 128 ∨ 191 < c.toNat
        · have c2 : (c.toNat / 64 == 2) = false := beq_eq_false_iff_ne.2 (by omega)
          simp [tailU, k1, k2, c2]
        · by_cases k3 : d.toNat < 128 ∨ 191 < d.toNat
          · have c2 : (d.toNat / 64 == 2) = false := beq_eq_false_iff_ne.2 (by omega)
            simp [tailU, k1, k2, k3, c2]
          · have c1 : (b.toNat / 64 == 2) = true := beq_iff_eq.2 (by omega)
            have c2 : (c.toNat / 64 == 2) = true := beq_iff_eq.2 (by omega)
            have c5 : (d.toNat / 64 == 2) = true := beq_iff_eq.2 (by omega)
            have c3 : 65536 ≤ a.toNat % 8 * 262144 + b.toNat % 64 * 4096 + c.toNat % 64 * 64 + d.toNat % 64 := by omega
            have c4 : (a.toNat % 8 * 262144 + b.toNat % 64 * 4096 + c.toNat % 64 * 64 + d.toNat % 64 < 55296 ∨ (57344 ≤ a.toNat % 8 * 262144 + b.toNat % 64 * 4096 + c.toNat % 64 * 64 + d.toNat % 64 ∧ a.toNat % 8 * 262144 + b.toNat % 64 * 4096 + c.toNat % 64 * 64 + d.toNat % 64 ≤ 1114111)) := by omega
            simp [tailU, k1, k2, k3, c1, c2, c5, c3, c4, valN]
            omega
  have e : shapeU a.toNat = (0, 0, 0) := by
    unfold shapeU
    rw [if_neg h1, if_neg h2, if_neg h3, if_neg (by omega), if_neg (by omega), if_neg h4, if_neg (by omega), if_neg (by omega), if_neg (by omega)]
  rw [e]
  unfold decL
  rw [hA, if_neg hd, n0, m0]
  by_cases q : a.toNat / 8 = 30
  · have hv : Utf8.valid (((a.toNat % 8 * 262144 + byteL (a :: t) 1 % 64 * 4096 + byteL (a :: t) 2 % 64 * 64 + byteL (a :: t) 3 % 64 : Nat) : Int)) = false := by
      rw [valid_iff]
      exact decide_eq_false (by omega)
    rw [hv]
    simp
  · have n3 : (a.toNat / 8 == 30) = false := beq_eq_false_iff_ne.2 q
    rw [n3]
    simp
/-- what Go reads of a string at i -/
theorem decode_front (s : ByteArray) (i : Nat) (h : i < s.size) : Utf8.decode s i = frontU (s.data.toList.drop i) := by
  rw [decode_decL]
  have hl : i < s.data.toList.length := by rw [Array.length_toList]; exact h
  rw [List.drop_eq_getElem_cons hl]
  exact decL_frontU _ _
end Go.Proofs.Ytepmnhlfjidhjaa
