/-
  A rune written as Go writes it, and read again: the mathematics.
-/
import Derived.Test.YtepmnhlfjidhjaaUtfGoM
import Derived.Test.YtepmnhlfjidhjaaUtfAll
namespace Go.Proofs.Ytepmnhlfjidhjaa
open Go.RowKit Go.Mem

theorem encode_is (r : Int) (n : Nat) (h : (if Utf8.valid r = true then r.toNat else Utf8.runeError) = n) : Utf8.encode r = if n < 128 then ⟨#[UInt8.ofNat n]⟩ else if n < 2048 then ⟨#[UInt8.ofNat (192 + n / 64), UInt8.ofNat (128 + n % 64)]⟩ else if n < 65536 then ⟨#[UInt8.ofNat (224 + n / 4096), UInt8.ofNat (128 + n / 64 % 64), UInt8.ofNat (128 + n % 64)]⟩ else ⟨#[UInt8.ofNat (240 + n / 262144), UInt8.ofNat (128 + n / 4096 % 64), UInt8.ofNat (128 + n / 64 % 64), UInt8.ofNat (128 + n % 64)]⟩ := by
  unfold Utf8.encode
  simp only [h]
theorem list1 (a : UInt8) : (ByteArray.mk #[a]).data.toList = [a] := rfl
theorem list2 (a b : UInt8) : (ByteArray.mk #[a, b]).data.toList = [a, b] := rfl
theorem list3 (a b c : UInt8) : (ByteArray.mk #[a, b, c]).data.toList = [a, b, c] := rfl
theorem list4 (a b c d : UInt8) : (ByteArray.mk #[a, b, c, d]).data.toList = [a, b, c, d] := rfl
theorem enc_he (c : Nat) (hv : Utf8.valid (c : Int) = true) : (if Utf8.valid (c : Int) = true then (c : Int).toNat else Utf8.runeError) = c := (if_pos hv).trans (Int.toNat_natCast c)
/-- the bytes in which Go writes a rune -/
def encN (c : Nat) : List UInt8 := if c < 128 then [UInt8.ofNat c] else if c < 2048 then [UInt8.ofNat (192 + c / 64), UInt8.ofNat (128 + c % 64)] else if c < 65536 then [UInt8.ofNat (224 + c / 4096), UInt8.ofNat (128 + c / 64 % 64), UInt8.ofNat (128 + c % 64)] else [UInt8.ofNat (240 + c / 262144), UInt8.ofNat (128 + c / 4096 % 64), UInt8.ofNat (128 + c / 64 % 64), UInt8.ofNat (128 + c % 64)]
theorem encN_W (c : Nat) (x : ByteArray) (h : x = if c < 128 then ⟨#[UInt8.ofNat c]⟩ else if c < 2048 then ⟨#[UInt8.ofNat (192 + c / 64), UInt8.ofNat (128 + c % 64)]⟩ else if c < 65536 then ⟨#[UInt8.ofNat (224 + c / 4096), UInt8.ofNat (128 + c / 64 % 64), UInt8.ofNat (128 + c % 64)]⟩ else ⟨#[UInt8.ofNat (240 + c / 262144), UInt8.ofNat (128 + c / 4096 % 64), UInt8.ofNat (128 + c / 64 % 64), UInt8.ofNat (128 + c % 64)]⟩) : x.data.toList = encN c := by
  subst h
  unfold encN
  by_cases h1 : c < 128
  · rw [if_pos h1, if_pos h1, list1]
  · rw [if_neg h1, if_neg h1]
    by_cases h2 : c < 2048
    · rw [if_pos h2, if_pos h2, list2]
    · rw [if_neg h2, if_neg h2]
      by_cases h3 : c < 65536
      · rw [if_pos h3, if_pos h3, list3]
      · rw [if_neg h3, if_neg h3, list4]
theorem encode_list (c : Nat) (hv : Utf8.valid (c : Int) = true) : (Utf8.encode (c : Int)).data.toList = encN c := encN_W c _ (encode_is (c : Int) c (enc_he c hv))
theorem valid_lt {c : Nat} (hv : Utf8.valid (c : Int) = true) : (c < 55296 ∨ (57344 ≤ c ∧ c ≤ 1114111)) := by
  rw [valid_iff] at hv
  exact of_decide_eq_true hv
theorem encN_length (c : Nat) (_hv : Utf8.valid (c : Int) = true) : (encN c).length = if c < 128 then 1 else if c < 2048 then 2 else if c < 65536 then 3 else 4 := by
  unfold encN
  repeat' split
  all_goals rfl
set_option maxRecDepth 100000 in
theorem front_enc (c : Nat) (hv : Utf8.valid (c : Int) = true) (t : List UInt8) : frontU (encN c ++ t) = (c, (encN c).length) := by
  have hlt := valid_lt hv
  rw [encN_length c hv]
  unfold encN
  by_cases h1 : c < 128
  · rw [if_pos h1, if_pos h1, List.cons_append, ← decL_frontU]
    have e0 : byteL (UInt8.ofNat c :: ([] ++ t)) 0 = c := by show (UInt8.ofNat c).toNat = c; rw [UInt8.toNat_ofNat']; omega
    unfold decL
    rw [e0, if_pos h1]
  · rw [if_neg h1, if_neg h1]
    by_cases h2 : c < 2048
    · rw [if_pos h2, if_pos h2, List.cons_append, ← decL_frontU]
      generalize hl : UInt8.ofNat (192 + c / 64) :: ([UInt8.ofNat (128 + c % 64)] ++ t) = l
      have e0 : byteL l 0 = 192 + c / 64 := by rw [← hl]; show (UInt8.ofNat (192 + c / 64)).toNat = _; rw [UInt8.toNat_ofNat']; omega
      have e1 : byteL l 1 = 128 + c % 64 := by rw [← hl]; show (UInt8.ofNat (128 + c % 64)).toNat = _; rw [UInt8.toNat_ofNat']; omega
      have hln : 1 < l.length := by rw [← hl]; simp
      have c1 : contL l 1 = true := by unfold contL; rw [e1, decide_eq_true hln]; simp; omega
      have n1 : ((192 + c / 64) / 32 == 6) = true := beq_iff_eq.2 (by omega)
      have hV : (192 + c / 64) % 32 * 64 + (128 + c % 64) % 64 = c := by omega
      unfold decL
      rw [e0, e1, c1, n1, hV, if_neg (by omega), if_pos (by simp), if_pos (by omega)]
    · rw [if_neg h2, if_neg h2]
      by_cases h3 : c < 65536
      · rw [if_pos h3, if_pos h3, List.cons_append, ← decL_frontU]
        generalize hl : UInt8.ofNat (224 + c / 4096) :: ([UInt8.ofNat (128 + c / 64 % 64), UInt8.ofNat (128 + c % 64)] ++ t) = l
        have e0 : byteL l 0 = 224 + c / 4096 := by rw [← hl]; show (UInt8.ofNat (224 + c / 4096)).toNat = _; rw [UInt8.toNat_ofNat']; omega
        have e1 : byteL l 1 = 128 + c / 64 % 64 := by rw [← hl]; show (UInt8.ofNat (128 + c / 64 % 64)).toNat = _; rw [UInt8.toNat_ofNat']; omega
        have e2 : byteL l 2 = 128 + c % 64 := by rw [← hl]; show (UInt8.ofNat (128 + c % 64)).toNat = _; rw [UInt8.toNat_ofNat']; omega
        have hln : 2 < l.length := by rw [← hl]; simp
        have c1 : contL l 1 = true := by unfold contL; rw [e1, decide_eq_true (show 1 < l.length by omega)]; simp; omega
        have c2 : contL l 2 = true := by unfold contL; rw [e2, decide_eq_true hln]; simp; omega
        have n1 : ((224 + c / 4096) / 32 == 6) = false := beq_eq_false_iff_ne.2 (by omega)
        have n2 : ((224 + c / 4096) / 16 == 14) = true := beq_iff_eq.2 (by omega)
        have hV : (224 + c / 4096) % 16 * 4096 + (128 + c / 64 % 64) % 64 * 64 + (128 + c % 64) % 64 = c := by omega
        unfold decL
        rw [e0, e1, e2, c1, c2, n1, n2, hV, hv, if_neg (by omega), if_neg (by simp), if_pos (by simp), if_pos (by simp; omega)]
      · rw [if_neg h3, if_neg h3, List.cons_append, ← decL_frontU]
        generalize hl : UInt8.ofNat (240 + c / 262144) :: ([UInt8.ofNat (128 + c / 4096 % 64), UInt8.ofNat (128 + c / 64 % 64), UInt8.ofNat (128 + c % 64)] ++ t) = l
        have e0 : byteL l 0 = 240 + c / 262144 := by rw [← hl]; show (UInt8.ofNat (240 + c / 262144)).toNat = _; rw [UInt8.toNat_ofNat']; omega
        have e1 : byteL l 1 = 128 + c / 4096 % 64 := by rw [← hl]; show (UInt8.ofNat (128 + c / 4096 % 64)).toNat = _; rw [UInt8.toNat_ofNat']; omega
        have e2 : byteL l 2 = 128 + c / 64 % 64 := by rw [← hl]; show (UInt8.ofNat (128 + c / 64 % 64)).toNat = _; rw [UInt8.toNat_ofNat']; omega
        have e3 : byteL l 3 = 128 + c % 64 := by rw [← hl]; show (UInt8.ofNat (128 + c % 64)).toNat = _; rw [UInt8.toNat_ofNat']; omega
        have hln : 3 < l.length := by rw [← hl]; simp
        have c1 : contL l 1 = true := by unfold contL; rw [e1, decide_eq_true (show 1 < l.length by omega)]; simp; omega
        have c2 : contL l 2 = true := by unfold contL; rw [e2, decide_eq_true (show 2 < l.length by omega)]; simp; omega
        have c3 : contL l 3 = true := by unfold contL; rw [e3, decide_eq_true hln]; simp; omega
        have n1 : ((240 + c / 262144) / 32 == 6) = false := beq_eq_false_iff_ne.2 (by omega)
        have n2 : ((240 + c / 262144) / 16 == 14) = false := beq_eq_false_iff_ne.2 (by omega)
        have n3 : ((240 + c / 262144) / 8 == 30) = true := beq_iff_eq.2 (by omega)
        have hV : (240 + c / 262144) % 8 * 262144 + (128 + c / 4096 % 64) % 64 * 4096 + (128 + c / 64 % 64) % 64 * 64 + (128 + c % 64) % 64 = c := by omega
        unfold decL
        rw [e0, e1, e2, e3, c1, c2, c3, n1, n2, n3, hV, hv, if_neg (by omega), if_neg (by simp), if_neg (by simp), if_pos (by simp), if_pos (by simp; omega)]
/-- what is read is a rune, and as many bytes as Go writes it in, or a byte that belongs to none -/
def GoodG (g : Nat × Nat) : Prop := Utf8.valid (g.1 : Int) = true ∧ (g.2 = (encN g.1).length ∨ (g.1 = 65533 ∧ g.2 = 1))
theorem good_bad : GoodG (65533, 1) := ⟨by decide, .inr ⟨rfl, rfl⟩⟩
theorem front_good (a : UInt8) (t : List UInt8) : GoodG (frontU (a :: t)) := by
  rw [← decL_frontU]
  unfold decL
  generalize a :: t = l
  split
  · rename_i h
    have hv : Utf8.valid ((byteL l 0 : Nat) : Int) = true := by rw [valid_iff]; exact decide_eq_true (by omega)
    exact ⟨hv, .inl (by rw [encN_length _ hv, if_pos h])⟩
  · split
    · split
      · have hv : Utf8.valid (((byteL l 0 % 32) * 64 + byteL l 1 % 64 : Nat) : Int) = true := by rw [valid_iff]; exact decide_eq_true (by omega)
        exact ⟨hv, .inl (by rw [encN_length _ hv, if_neg (by omega), if_pos (by omega)])⟩
      · exact good_bad
    · split
      · split
        · rename_i h
          simp only [Bool.and_eq_true, decide_eq_true_eq] at h
          exact ⟨h.2, .inl (by rw [encN_length _ h.2, if_neg (by omega), if_neg (by omega), if_pos (by omega)])⟩
        · exact good_bad
      · split
        · split
          · rename_i h
            simp only [Bool.and_eq_true, decide_eq_true_eq] at h
            exact ⟨h.2, .inl (by rw [encN_length _ h.2, if_neg (by omega), if_neg (by omega), if_neg (by omega)])⟩
          · exact good_bad
        · exact good_bad
theorem all_good (bs : List UInt8) : ∀ g ∈ allU bs, GoodG g := by
  generalize hn : bs.length = n
  induction n using Nat.strongRecOn generalizing bs with
  | _ n ih =>
    cases bs with
    | nil => intro g hg; rw [allU_nil] at hg; cases hg
    | cons a t =>
      have hp := frontU_pos (a :: t)
      intro g hg
      rw [allU_cons (by simp)] at hg
      rcases List.mem_cons.1 hg with rfl | hg
      · exact front_good a t
      · exact ih _ (by rw [List.length_drop]; simp at hn ⊢; omega) _ rfl g hg
def encsU (l : List (Nat × Nat)) : List UInt8 := (l.map fun g => encN g.1).flatten
theorem encsU_snoc (l : List (Nat × Nat)) (g : Nat × Nat) : encsU (l ++ [g]) = encsU l ++ encN g.1 := by simp [encsU]
theorem all_encs (l : List (Nat × Nat)) (h : ∀ g ∈ l, GoodG g) : allU (encsU l) = l.map fun g => (g.1, (encN g.1).length) := by
  induction l with
  | nil => exact allU_nil
  | cons g l ih =>
    have hg := h g List.mem_cons_self
    have e : encsU (g :: l) = encN g.1 ++ encsU l := by simp [encsU]
    have hf := front_enc g.1 hg.1 (encsU l)
    have hpos : 0 < (encN g.1 ++ encsU l).length := by
      rw [List.length_append, encN_length _ hg.1]
      repeat' split
      all_goals omega
    rw [e, allU_cons hpos, hf]
    simp only
    rw [List.drop_left' rfl, ih (fun x hx => h x (List.mem_cons_of_mem _ hx))]
    rfl
end Go.Proofs.Ytepmnhlfjidhjaa
