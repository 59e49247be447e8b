/-
  Plain mathematics: a greater number's bytes stand behind a lesser one's.
-/
import Derived.Test.YtjmiejcgahajfaaWireM
import Derived.Laws.Strings
namespace Go.Wire

theorem less_same (xs : List UInt8) : ∀ ys : List UInt8, xs.length = ys.length → Op.bytesLess xs ys = decide (val xs < val ys) := by
  induction xs with
  | nil =>
    intro ys h
    obtain rfl := List.eq_nil_of_length_eq_zero h.symm
    rfl
  | cons x xs ih =>
    intro ys h
    match ys, h with
    | y :: ys, h =>
      have hl : xs.length = ys.length := by simpa using h
      show (decide (x < y) || (x == y && Op.bytesLess xs ys)) = _
      rw [ih ys hl, val_cons, val_cons, hl]
      have h1 := val_lt xs
      have h2 := val_lt ys
      rw [hl] at h1
      generalize 256 ^ ys.length = P at h1 h2
      generalize val xs = a at h1
      generalize val ys = b at h2
      by_cases hxy : x < y
      · have hn : x.toNat + 1 ≤ y.toNat := hxy
        have hm := Nat.mul_le_mul_right P hn
        rw [Nat.add_mul] at hm
        simp only [hxy, decide_true, Bool.true_or]
        symm; exact decide_eq_true (by omega)
      · by_cases he : x = y
        · subst he
          simp [hxy]
        · have hn : y.toNat + 1 ≤ x.toNat := by
            have h3 : ¬ x.toNat < y.toNat := hxy
            have h4 : x.toNat ≠ y.toNat := fun e => he (UInt8.toNat.inj e)
            omega
          have hm := Nat.mul_le_mul_right P hn
          rw [Nat.add_mul] at hm
          have hb : (x == y) = false := beq_eq_false_iff_ne.2 he
          simp only [hxy, decide_false, hb, Bool.false_and, Bool.or_false]
          symm; exact decide_eq_false (by omega)
theorem nb_mono {a b : Nat} (hb : b < 2 ^ 63) (h : a ≤ b) : nb a ≤ nb b := by
  have hb4 : b < 2 ^ 64 := Nat.lt_trans hb (by decide)
  by_cases ha0 : a = 0
  · subst ha0; rw [nb_zero]; exact Nat.zero_le _
  · have h1 := nb_low a (Nat.lt_of_le_of_lt h hb4) ha0
    have h2 := nb_pow b hb4
    have h3 : 256 ^ (nb a - 1) < 256 ^ nb b := Nat.lt_of_le_of_lt (Nat.le_trans h1 h) h2
    have h4 := (Nat.pow_lt_pow_iff_right (a := 256) (by omega)).1 h3
    omega
theorem num_less (a b : Nat) (ha : a < 2 ^ 63) (hb : b < 2 ^ 63) : Op.bytesLess (num a) (num b) = decide (a < b) := by
  have la := nb_le a ha
  have lb := nb_le b hb
  have va : val (digs a (nb a)) = a := by rw [val_digs, Nat.mod_eq_of_lt (nb_pow a (Nat.lt_trans ha (by decide)))]
  have vb : val (digs b (nb b)) = b := by rw [val_digs, Nat.mod_eq_of_lt (nb_pow b (Nat.lt_trans hb (by decide)))]
  show (decide (UInt8.ofNat (nb a) < UInt8.ofNat (nb b)) || (UInt8.ofNat (nb a) == UInt8.ofNat (nb b) && Op.bytesLess (digs a (nb a)) (digs b (nb b)))) = _
  have ta : (UInt8.ofNat (nb a)).toNat = nb a := by rw [UInt8.toNat_ofNat']; omega
  have tb : (UInt8.ofNat (nb b)).toNat = nb b := by rw [UInt8.toNat_ofNat']; omega
  rcases Nat.lt_trichotomy (nb a) (nb b) with h | h | h
  · have h1 : UInt8.ofNat (nb a) < UInt8.ofNat (nb b) := by show (UInt8.ofNat (nb a)).toNat < (UInt8.ofNat (nb b)).toNat; omega
    have hab : a < b := by
      rcases Nat.lt_or_ge a b with h2 | h2
      · exact h2
      · have := nb_mono ha h2; omega
    simp [h1, hab]
  · rw [h]
    rw [h] at va
    rw [less_same _ _ (by rw [digs_length, digs_length]), va, vb]
    have h1 : ¬ UInt8.ofNat (nb b) < UInt8.ofNat (nb b) := Nat.lt_irrefl _
    simp [h1]
  · have h1 : ¬ UInt8.ofNat (nb a) < UInt8.ofNat (nb b) := by show ¬ (UInt8.ofNat (nb a)).toNat < (UInt8.ofNat (nb b)).toNat; omega
    have h2 : (UInt8.ofNat (nb a) == UInt8.ofNat (nb b)) = false := beq_eq_false_iff_ne.2 (fun e => by have := congrArg UInt8.toNat e; omega)
    have hab : ¬ a < b := fun h3 => by have := nb_mono hb (Nat.le_of_lt h3); omega
    simp [h1, h2, hab]
theorem num_inj (a b : Nat) (ha : a < 2 ^ 63) (hb : b < 2 ^ 63) (h : num a = num b) : a = b := by
  have h1 := num_less a b ha hb
  have h2 := num_less b a hb ha
  rw [h] at h1 h2
  rcases Nat.lt_trichotomy a b with h3 | h3 | h3
  · rw [decide_eq_true h3] at h1; rw [decide_eq_false (by omega)] at h2; rw [h1] at h2; cases h2
  · exact h3
  · rw [decide_eq_true h3] at h2; rw [decide_eq_false (by omega)] at h1; rw [h1] at h2; cases h2
end Go.Wire
