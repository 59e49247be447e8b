/-
  What fits: the cases; values of one to four bytes.
-/
import Derived.Test.YtepmnhlfjidhjaaUtfRef
import Derived.Test.YtepmnhlfjidhjaaUtfAll
namespace Go.Proofs.Ytepmnhlfjidhjaa
open Go.RowKit Go.Mem

theorem fitsU_broken {bs : List UInt8} (hb : 0 < bs.length) (h : startU bs = -1) : fitsU bs = (0, 0) := by
  unfold fitsU
  rw [List.getElem?_eq_getElem hb]
  exact if_pos h
theorem fitsU_begun {bs : List UInt8} (hb : 0 < bs.length) (h : startU bs = 0) : fitsU bs = (bs.length, (shapeU (bs[0]'hb).toNat).1) := by
  unfold fitsU
  rw [List.getElem?_eq_getElem hb]
  simp only
  rw [if_neg (by omega), if_pos h]
theorem fitsU_whole {bs : List UInt8} (hb : 0 < bs.length) {n : Nat} (h : startU bs = (n : Int)) (h1 : 1 ≤ n) (h2 : n = (shapeU (bs[0]'hb).toNat).1) : fitsU bs = (n, n) := by
  unfold fitsU
  rw [List.getElem?_eq_getElem hb]
  simp only
  rw [if_neg (by omega), if_neg (by omega), ← h2]
theorem begun_lt {bs : List UInt8} (hb : 0 < bs.length) (h : startU bs = 0) : bs.length < (shapeU (bs[0]'hb).toNat).1 := by
  unfold startU at h
  rw [List.getElem?_eq_getElem hb] at h
  simp only at h
  by_cases h0 : (shapeU (bs[0]'hb).toNat).1 = 0
  · rw [if_pos h0] at h; omega
  · rw [if_neg h0] at h
    rcases tailU_cases bs (shapeU (bs[0]'hb).toNat).1 ((shapeU (bs[0]'hb).toNat).1 - 1) 1 (shapeU (bs[0]'hb).toNat).2.1 (shapeU (bs[0]'hb).toNat).2.2 (by omega) (by omega) with h2 | ⟨_, h3⟩ | ⟨h2, _⟩ <;> omega

theorem val1 : ∀ (bs : List UInt8) (_h : 1 ≤ bs.length), valN (bs.take 1) = (bs[0]'(by omega)).toNat
  | _ :: _, _ => by simp [valN]
theorem val2 : ∀ (bs : List UInt8) (_h : 2 ≤ bs.length), valN (bs.take 2) = ((bs[0]'(by omega)).toNat % 32) * 64 + (bs[1]'(by omega)).toNat % 64
  | _ :: _ :: _, _ => by simp [valN]
theorem val3 : ∀ (bs : List UInt8) (_h : 3 ≤ bs.length), valN (bs.take 3) = (((bs[0]'(by omega)).toNat % 16) * 64 + (bs[1]'(by omega)).toNat % 64) * 64 + (bs[2]'(by omega)).toNat % 64
  | _ :: _ :: _ :: _, _ => by simp [valN]
theorem val4 : ∀ (bs : List UInt8) (_h : 4 ≤ bs.length), valN (bs.take 4) = ((((bs[0]'(by omega)).toNat % 8) * 64 + (bs[1]'(by omega)).toNat % 64) * 64 + (bs[2]'(by omega)).toNat % 64) * 64 + (bs[3]'(by omega)).toNat % 64
  | _ :: _ :: _ :: _ :: _, _ => by simp [valN]
end Go.Proofs.Ytepmnhlfjidhjaa
