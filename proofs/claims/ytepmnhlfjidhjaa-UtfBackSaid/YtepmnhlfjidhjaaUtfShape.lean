/-
  The model of chapter 7; the contract of utf.shape (written by gen/mkutf.py).
-/
import Derived.Test.YtepmnhlfjidhjaaApp
import Derived.IntWalk
import Derived.BigQuiet
namespace Go.Proofs.Ytepmnhlfjidhjaa
open Go.RowKit Go.Mem

/-- of how many bytes a rune is that begins with x, and between which bounds its second byte is -/
def shapeU (x : Nat) : Nat × Nat × Nat :=
  if x ≤ 127 then (1, 0, 0) else if x < 194 then (0, 0, 0) else if x ≤ 223 then (2, 128, 191) else if x = 224 then (3, 160, 191) else if x = 237 then (3, 128, 159) else if x ≤ 239 then (3, 128, 191) else if x = 240 then (4, 144, 191) else if x ≤ 243 then (4, 128, 191) else if x = 244 then (4, 128, 143) else (0, 0, 0)
/-- what bytes start with, from the i-th on, f more to come -/
def tailU (bs : List UInt8) (n : Nat) : (f i lo hi : Nat) → Int
  | 0, _, _, _ => (n : Int)
  | f + 1, i, lo, hi => match bs[i]? with
    | none => 0
    | some b => if b.toNat < lo ∨ hi < b.toNat then -1 else tailU bs n f (i + 1) 128 191
/-- what bytes start with: a rune of so many bytes; 0: begun; -1: broken -/
def startU (bs : List UInt8) : Int := match bs[0]? with
  | none => 0
  | some b => if (shapeU b.toNat).1 = 0 then -1 else tailU bs (shapeU b.toNat).1 ((shapeU b.toNat).1 - 1) 1 (shapeU b.toNat).2.1 (shapeU b.toNat).2.2
theorem shapeU_le (x : Nat) : (shapeU x).1 ≤ 4 := by
  unfold shapeU
  repeat' split
  all_goals decide
theorem shapeU_hi (x : Nat) : (shapeU x).2.1 ≤ 255 ∧ (shapeU x).2.2 ≤ 255 := by
  unfold shapeU
  repeat' split
  all_goals decide
theorem tailU_cases (bs : List UInt8) (n : Nat) : ∀ (f i lo hi : Nat), i + f = n → i ≤ bs.length → tailU bs n f i lo hi = -1 ∨ (tailU bs n f i lo hi = 0 ∧ bs.length < n) ∨ (tailU bs n f i lo hi = (n : Int) ∧ n ≤ bs.length) := by
  intro f
  induction f with
  | zero => intro i lo hi h1 h2; exact .inr (.inr ⟨rfl, by omega⟩)
  | succ f ih =>
    intro i lo hi h1 h2
    unfold tailU
    cases hb : bs[i]? with
    | none => exact .inr (.inl ⟨rfl, by have := List.getElem?_eq_none_iff.1 hb; omega⟩)
    | some b =>
      have hlt := (List.getElem?_eq_some_iff.1 hb).1
      simp only
      split
      · exact .inl rfl
      · exact ih (i + 1) 128 191 (by omega) (by omega)
/-- what startU tells -/
theorem startU_cases (bs : List UInt8) (hb : 0 < bs.length) : startU bs = -1 ∨ (startU bs = 0 ∧ bs.length ≤ 3) ∨ ∃ n : Nat, startU bs = (n : Int) ∧ 1 ≤ n ∧ n ≤ 4 ∧ n ≤ bs.length ∧ n = (shapeU (bs[0]'hb).toNat).1 := by
  unfold startU
  rw [List.getElem?_eq_getElem hb]
  have h4 := shapeU_le (bs[0]'hb).toNat
  simp only
  by_cases h0 : (shapeU (bs[0]'hb).toNat).1 = 0
  · rw [if_pos h0]; exact .inl rfl
  · rw [if_neg h0]
    rcases tailU_cases bs (shapeU (bs[0]'hb).toNat).1 ((shapeU (bs[0]'hb).toNat).1 - 1) 1 (shapeU (bs[0]'hb).toNat).2.1 (shapeU (bs[0]'hb).toNat).2.2 (by omega) (by omega) with h | ⟨h, h2⟩ | ⟨h, h2⟩
    · exact .inl h
    · exact .inr (.inl ⟨h, by omega⟩)
    · exact .inr (.inr ⟨_, h, by omega, h4, h2, rfl⟩)

set_option maxHeartbeats 1600000 in
theorem shape_calls (x : Nat) (w : World) : Calls Try.prog 126 #[.int .u8 (x : Int)] w fun e w' => e = .returned (.tuple #[.int .i64 ((shapeU x).1 : Int), .int .u8 ((shapeU x).2.1 : Int), .int .u8 ((shapeU x).2.2 : Int)]) ∧ w = w' := by
  by_cases h0 : x ≤ 127
  · have hs : shapeU x = (1, 0, 0) := by unfold shapeU; exact if_pos h0
    rw [hs]
    have d0 : decide ((x : Int) ≤ 127) = true := decide_eq_true (by omega)
    clear hs h0
    go_enter Try.func126, Try.ntmps126
    go_wp2_with fail
    go_ret3
    exact ⟨rfl, rfl⟩
  by_cases h1 : x < 194
  · have hs : shapeU x = (0, 0, 0) := by unfold shapeU; rw [if_neg h0]; exact if_pos h1
    rw [hs]
    have d0 : decide ((x : Int) ≤ 127) = false := decide_eq_false (by omega)
    have d1 : decide ((x : Int) < 194) = true := decide_eq_true (by omega)
    clear hs h0 h1
    go_enter Try.func126, Try.ntmps126
    go_wp2_with fail
    go_ret3
    exact ⟨rfl, rfl⟩
  by_cases h2 : x ≤ 223
  · have hs : shapeU x = (2, 128, 191) := by unfold shapeU; rw [if_neg h0]; rw [if_neg h1]; exact if_pos h2
    rw [hs]
    have d0 : decide ((x : Int) ≤ 127) = false := decide_eq_false (by omega)
    have d1 : decide ((x : Int) < 194) = false := decide_eq_false (by omega)
    have d2 : decide ((x : Int) ≤ 223) = true := decide_eq_true (by omega)
    clear hs h0 h1 h2
    go_enter Try.func126, Try.ntmps126
    go_wp2_with fail
    go_ret3
    exact ⟨rfl, rfl⟩
  by_cases h3 : x = 224
  · have hs : shapeU x = (3, 160, 191) := by unfold shapeU; rw [if_neg h0]; rw [if_neg h1]; rw [if_neg h2]; exact if_pos h3
    rw [hs]
    have d0 : decide ((x : Int) ≤ 127) = false := decide_eq_false (by omega)
    have d1 : decide ((x : Int) < 194) = false := decide_eq_false (by omega)
    have d2 : decide ((x : Int) ≤ 223) = false := decide_eq_false (by omega)
    have d3 : ((x : Int) == 224) = true := beq_iff_eq.2 (by omega)
    clear hs h0 h1 h2 h3
    go_enter Try.func126, Try.ntmps126
    go_wp2_with fail
    go_ret3
    exact ⟨rfl, rfl⟩
  by_cases h4 : x = 237
  · have hs : shapeU x = (3, 128, 159) := by unfold shapeU; rw [if_neg h0]; rw [if_neg h1]; rw [if_neg h2]; rw [if_neg h3]; exact if_pos h4
    rw [hs]
    have d0 : decide ((x : Int) ≤ 127) = false := decide_eq_false (by omega)
    have d1 : decide ((x : Int) < 194) = false := decide_eq_false (by omega)
    have d2 : decide ((x : Int) ≤ 223) = false := decide_eq_false (by omega)
    have d3 : ((x : Int) == 224) = false := beq_eq_false_iff_ne.2 (by omega)
    have d4 : ((x : Int) == 237) = true := beq_iff_eq.2 (by omega)
    clear hs h0 h1 h2 h3 h4
    go_enter Try.func126, Try.ntmps126
    go_wp2_with fail
    go_ret3
    exact ⟨rfl, rfl⟩
  by_cases h5 : x ≤ 239
  · have hs : shapeU x = (3, 128, 191) := by unfold shapeU; rw [if_neg h0]; rw [if_neg h1]; rw [if_neg h2]; rw [if_neg h3]; rw [if_neg h4]; exact if_pos h5
    rw [hs]
    have d0 : decide ((x : Int) ≤ 127) = false := decide_eq_false (by omega)
    have d1 : decide ((x : Int) < 194) = false := decide_eq_false (by omega)
    have d2 : decide ((x : Int) ≤ 223) = false := decide_eq_false (by omega)
    have d3 : ((x : Int) == 224) = false := beq_eq_false_iff_ne.2 (by omega)
    have d4 : ((x : Int) == 237) = false := beq_eq_false_iff_ne.2 (by omega)
    have d5 : decide ((x : Int) ≤ 239) = true := decide_eq_true (by omega)
    clear hs h0 h1 h2 h3 h4 h5
    go_enter Try.func126, Try.ntmps126
    go_wp2_with fail
    go_ret3
    exact ⟨rfl, rfl⟩
  by_cases h6 : x = 240
  · have hs : shapeU x = (4, 144, 191) := by unfold shapeU; rw [if_neg h0]; rw [if_neg h1]; rw [if_neg h2]; rw [if_neg h3]; rw [if_neg h4]; rw [if_neg h5]; exact if_pos h6
    rw [hs]
    have d0 : decide ((x : Int) ≤ 127) = false := decide_eq_false (by omega)
    have d1 : decide ((x : Int) < 194) = false := decide_eq_false (by omega)
    have d2 : decide ((x : Int) ≤ 223) = false := decide_eq_false (by omega)
    have d3 : ((x : Int) == 224) = false := beq_eq_false_iff_ne.2 (by omega)
    have d4 : ((x : Int) == 237) = false := beq_eq_false_iff_ne.2 (by omega)
    have d5 : decide ((x : Int) ≤ 239) = false := decide_eq_false (by omega)
    have d6 : ((x : Int) == 240) = true := beq_iff_eq.2 (by omega)
    clear hs h0 h1 h2 h3 h4 h5 h6
    go_enter Try.func126, Try.ntmps126
    go_wp2_with fail
    go_ret3
    exact ⟨rfl, rfl⟩
  by_cases h7 : x ≤ 243
  · have hs : shapeU x = (4, 128, 191) := by unfold shapeU; rw [if_neg h0]; rw [if_neg h1]; rw [if_neg h2]; rw [if_neg h3]; rw [if_neg h4]; rw [if_neg h5]; rw [if_neg h6]; exact if_pos h7
    rw [hs]
    have d0 : decide ((x : Int) ≤ 127) = false := decide_eq_false (by omega)
    have d1 : decide ((x : Int) < 194) = false := decide_eq_false (by omega)
    have d2 : decide ((x : Int) ≤ 223) = false := decide_eq_false (by omega)
    have d3 : ((x : Int) == 224) = false := beq_eq_false_iff_ne.2 (by omega)
    have d4 : ((x : Int) == 237) = false := beq_eq_false_iff_ne.2 (by omega)
    have d5 : decide ((x : Int) ≤ 239) = false := decide_eq_false (by omega)
    have d6 : ((x : Int) == 240) = false := beq_eq_false_iff_ne.2 (by omega)
    have d7 : decide ((x : Int) ≤ 243) = true := decide_eq_true (by omega)
    clear hs h0 h1 h2 h3 h4 h5 h6 h7
    go_enter Try.func126, Try.ntmps126
    go_wp2_with fail
    go_ret3
    exact ⟨rfl, rfl⟩
  by_cases h8 : x = 244
  · have hs : shapeU x = (4, 128, 143) := by unfold shapeU; rw [if_neg h0]; rw [if_neg h1]; rw [if_neg h2]; rw [if_neg h3]; rw [if_neg h4]; rw [if_neg h5]; rw [if_neg h6]; rw [if_neg h7]; exact if_pos h8
    rw [hs]
    have d0 : decide ((x : Int) ≤ 127) = false := decide_eq_false (by omega)
    have d1 : decide ((x : Int) < 194) = false := decide_eq_false (by omega)
    have d2 : decide ((x : Int) ≤ 223) = false := decide_eq_false (by omega)
    have d3 : ((x : Int) == 224) = false := beq_eq_false_iff_ne.2 (by omega)
    have d4 : ((x : Int) == 237) = false := beq_eq_false_iff_ne.2 (by omega)
    have d5 : decide ((x : Int) ≤ 239) = false := decide_eq_false (by omega)
    have d6 : ((x : Int) == 240) = false := beq_eq_false_iff_ne.2 (by omega)
    have d7 : decide ((x : Int) ≤ 243) = false := decide_eq_false (by omega)
    have d8 : ((x : Int) == 244) = true := beq_iff_eq.2 (by omega)
    clear hs h0 h1 h2 h3 h4 h5 h6 h7 h8
    go_enter Try.func126, Try.ntmps126
    go_wp2_with fail
    go_ret3
    exact ⟨rfl, rfl⟩
  have hs : shapeU x = (0, 0, 0) := by unfold shapeU; rw [if_neg h0]; rw [if_neg h1]; rw [if_neg h2]; rw [if_neg h3]; rw [if_neg h4]; rw [if_neg h5]; rw [if_neg h6]; rw [if_neg h7]; exact if_neg h8
  rw [hs]
  have d0 : decide ((x : Int) ≤ 127) = false := decide_eq_false (by omega)
  have d1 : decide ((x : Int) < 194) = false := decide_eq_false (by omega)
  have d2 : decide ((x : Int) ≤ 223) = false := decide_eq_false (by omega)
  have d3 : ((x : Int) == 224) = false := beq_eq_false_iff_ne.2 (by omega)
  have d4 : ((x : Int) == 237) = false := beq_eq_false_iff_ne.2 (by omega)
  have d5 : decide ((x : Int) ≤ 239) = false := decide_eq_false (by omega)
  have d6 : ((x : Int) == 240) = false := beq_eq_false_iff_ne.2 (by omega)
  have d7 : decide ((x : Int) ≤ 243) = false := decide_eq_false (by omega)
  have d8 : ((x : Int) == 244) = false := beq_eq_false_iff_ne.2 (by omega)
  clear hs h0 h1 h2 h3 h4 h5 h6 h7 h8
  go_enter Try.func126, Try.ntmps126
  go_wp2_with fail
  go_ret3
  exact ⟨rfl, rfl⟩
end Go.Proofs.Ytepmnhlfjidhjaa
