/-
  Plain mathematics: CRC-32C by bits, as two tables of sixteen, and what it keeps.
-/
import Derived.Test.YtenhbjcamkbffaaDoorRows
namespace Go.Crc

def cf (s : BitVec 32) : BitVec 32 := (s >>> 1) ^^^ (if s.getLsbD 0 then 0x82f63b78#32 else 0#32)

theorem cf_xor (a b : BitVec 32) : cf (a ^^^ b) = cf a ^^^ cf b := by
  unfold cf
  rw [BitVec.ushiftRight_xor_distrib, BitVec.getLsbD_xor]
  cases a.getLsbD 0 <;> cases b.getLsbD 0 <;> simp
  · rw [BitVec.xor_assoc]
  · rw [BitVec.xor_assoc, BitVec.xor_assoc]; congr 1; rw [BitVec.xor_comm]
  · rw [BitVec.xor_assoc]; congr 1
    rw [BitVec.xor_comm (b >>> 1), ← BitVec.xor_assoc, BitVec.xor_self, BitVec.zero_xor]

theorem cf_zero : cf 0#32 = 0#32 := by decide

/-- n steps -/
def cfn : Nat → BitVec 32 → BitVec 32
  | 0, s => s
  | n + 1, s => cfn n (cf s)

theorem cfn_xor (n : Nat) : ∀ a b, cfn n (a ^^^ b) = cfn n a ^^^ cfn n b := by
  induction n with
  | zero => intro a b; rfl
  | succ n ih => intro a b; simp only [cfn, cf_xor, ih]

theorem cfn_add (m : Nat) : ∀ n s, cfn (m + n) s = cfn n (cfn m s) := by
  induction m with
  | zero => intro n s; rw [Nat.zero_add]; rfl
  | succ m ih => intro n s; rw [Nat.add_right_comm]; simp only [cfn, ih]

theorem cfn_succ' (n : Nat) (s : BitVec 32) : cfn (n + 1) s = cf (cfn n s) := cfn_add n 1 s

/-- low bits that are 0 are shifted out -/
theorem cfn_high (n : Nat) : ∀ s : BitVec 32, (∀ i, i < n → s.getLsbD i = false) → cfn n s = s >>> n := by
  induction n with
  | zero => intro s _; simp [cfn]
  | succ n ih =>
    intro s h
    have h0 := h 0 (by omega)
    have hc : cf s = s >>> 1 := by unfold cf; rw [h0]; simp
    simp only [cfn, hc]
    rw [ih (s >>> 1) (fun i hi => by rw [BitVec.getLsbD_ushiftRight]; have := h (1 + i) (by omega); exact this), ← BitVec.shiftRight_add, Nat.add_comm]

theorem split8 (s : BitVec 32) : s = (s &&& 0xFFFFFF00#32) ^^^ ((s &&& 0xF0#32) ^^^ (s &&& 0xF#32)) := by
  ext i hi
  have h : ∀ j : Fin 32, (0xFFFFFF00#32 ^^^ (0xF0#32 ^^^ 0xF#32)).getLsbD j = true := by decide
  simp only [BitVec.getElem_xor, BitVec.getElem_and]
  have h1 := h ⟨i, hi⟩
  simp only [BitVec.getLsbD_xor] at h1
  simp only [← BitVec.getLsbD_eq_getElem]
  cases s.getLsbD i
  · simp
  · simp only [Bool.true_and]; exact h1.symm

def low (j : Nat) : BitVec 32 := cfn 8 (BitVec.ofNat 32 j)
def high (j : Nat) : BitVec 32 := cfn 8 (BitVec.ofNat 32 (16 * j))

theorem cf8_eq (s : BitVec 32) : cfn 8 s = ((s >>> 8) ^^^ low (s.toNat &&& 15)) ^^^ high (s.toNat / 16 &&& 15) := by
  have e1 : cfn 8 (s &&& 0xFFFFFF00#32) = s >>> 8 := by
    rw [cfn_high 8 _ (fun i hi => by
      have h : ∀ j : Fin 8, (0xFFFFFF00#32).getLsbD j = false := by decide
      rw [BitVec.getLsbD_and, h ⟨i, hi⟩, Bool.and_false])]
    ext i hi
    simp only [BitVec.getElem_ushiftRight, BitVec.getLsbD_and]
    have h : ∀ j : Fin 32, (0xFFFFFF00#32).getLsbD (8 + j) = decide (8 + j.val < 32) := by decide
    have := h ⟨i, hi⟩
    simp only at this
    rw [this]
    by_cases hlt : 8 + i < 32
    · simp [hlt]
    · simp [hlt]; exact BitVec.getLsbD_of_ge s _ (by omega)
  have e2 : s &&& 0xF#32 = BitVec.ofNat 32 (s.toNat &&& 15) := by
    apply BitVec.eq_of_toNat_eq
    have : s.toNat &&& 15 < 2 ^ 4 := Nat.and_lt_two_pow _ (by decide)
    have h2 : (BitVec.ofNat 32 (s.toNat &&& 15)).toNat = s.toNat &&& 15 := by rw [BitVec.toNat_ofNat]; exact Nat.mod_eq_of_lt (Nat.lt_of_lt_of_le this (by decide))
    rw [BitVec.toNat_and, h2]; rfl
  have e3 : s &&& 0xF0#32 = BitVec.ofNat 32 (16 * (s.toNat / 16 &&& 15)) := by
    apply BitVec.eq_of_toNat_eq
    have : s.toNat / 16 &&& 15 < 2 ^ 4 := Nat.and_lt_two_pow _ (by decide)
    have h2 : (BitVec.ofNat 32 (16 * (s.toNat / 16 &&& 15))).toNat = 16 * (s.toNat / 16 &&& 15) := by
      rw [BitVec.toNat_ofNat]; exact Nat.mod_eq_of_lt (Nat.lt_of_lt_of_le (Nat.mul_lt_mul_of_pos_left this (by decide)) (by decide))
    rw [BitVec.toNat_and, h2]
    have e : s.toNat &&& 240 = 2 ^ 4 * ((s.toNat >>> 4) &&& 15) := by
      rw [Nat.mul_comm, ← Nat.shiftLeft_eq]
      apply Nat.eq_of_testBit_eq
      intro i
      rw [Nat.testBit_and, Nat.testBit_shiftLeft, Nat.testBit_and, Nat.testBit_shiftRight]
      by_cases hi : 4 ≤ i
      · have : 4 + (i - 4) = i := by omega
        rw [this]
        have h2 : Nat.testBit 240 i = Nat.testBit 15 (i - 4) := by
          have : (240 : Nat) = 15 <<< 4 := rfl
          rw [this, Nat.testBit_shiftLeft]; simp [hi]
        simp [hi, h2]
      · have h2 : Nat.testBit 240 i = false := by
          have : (240 : Nat) = 15 <<< 4 := rfl
          rw [this, Nat.testBit_shiftLeft]; simp [hi]
        simp [hi, h2]
    rw [Nat.shiftRight_eq_div_pow] at e
    exact e
  have hs := congrArg (cfn 8) (split8 s)
  rw [cfn_xor, cfn_xor, e1, e2, e3] at hs
  rw [hs, BitVec.xor_assoc]
  congr 1
  exact BitVec.xor_comm _ _

/-- a byte -/
def byte (s : BitVec 32) (x : UInt8) : BitVec 32 := cfn 8 (s ^^^ BitVec.ofNat 32 x.toNat)
def run (s : BitVec 32) (l : List UInt8) : BitVec 32 := l.foldl byte s
def crc (c : BitVec 32) (l : List UInt8) : BitVec 32 := ~~~ run (~~~ c) l

theorem run_append (s : BitVec 32) (a b : List UInt8) : run s (a ++ b) = run (run s a) b := List.foldl_append
theorem crc_nil (c : BitVec 32) : crc c [] = c := by simp [crc, run]
theorem crc_append (c : BitVec 32) (a b : List UInt8) : crc c (a ++ b) = crc (crc c a) b := by
  simp [crc, run_append]
def crcs (c : BitVec 32) (ls : List (List UInt8)) : BitVec 32 := ls.foldl crc c
theorem crcs_flat (ls : List (List UInt8)) : ∀ c, crcs c ls = crc c ls.flatten := by
  induction ls with
  | nil => intro c; simp [crcs, crc_nil]
  | cons x r ih => intro c; simp only [crcs, List.foldl_cons, List.flatten_cons, crc_append] at *; exact ih _

theorem cfn_zero (n : Nat) : cfn n 0#32 = 0#32 := by
  induction n with
  | zero => rfl
  | succ n ih => simp only [cfn, cf_zero, ih]
theorem cf_eq_zero {s : BitVec 32} (h : cf s = 0#32) : s = 0#32 := by
  have h31 : (cf s).getLsbD 31 = false := by rw [h]; rfl
  unfold cf at h h31
  rw [BitVec.getLsbD_xor, BitVec.getLsbD_ushiftRight, BitVec.getLsbD_of_ge s _ (by omega)] at h31
  have h0 : s.getLsbD 0 = false := by
    cases hb : s.getLsbD 0
    · rfl
    · rw [hb] at h31
      exact absurd h31 (by decide)
  rw [h0] at h
  simp only [Bool.false_eq_true, if_false, BitVec.xor_zero] at h
  apply BitVec.eq_of_toNat_eq
  have h1 := congrArg BitVec.toNat h
  rw [BitVec.toNat_ushiftRight, Nat.shiftRight_eq_div_pow] at h1
  have h2 : s.toNat % 2 = 0 := by
    rw [BitVec.getLsbD, Nat.testBit_zero] at h0
    have := of_decide_eq_false h0
    omega
  have h3 : (0#32).toNat = 0 := rfl
  rw [h3] at h1 ⊢
  omega
theorem cfn_eq_zero (n : Nat) : ∀ {s : BitVec 32}, cfn n s = 0#32 → s = 0#32 := by
  induction n with
  | zero => intro s h; exact h
  | succ n ih => intro s h; exact cf_eq_zero (ih h)

theorem cfn_pow_self (j : Nat) (hj : j < 32) : cfn j (1#32 <<< j) = 1#32 := by
  rw [cfn_high j _ (fun i hi => by rw [BitVec.getLsbD_shiftLeft]; simp [hi])]
  ext i hi
  rw [BitVec.getElem_ushiftRight, BitVec.getLsbD_shiftLeft]
  by_cases h : j + i < 32
  · have e : j + i - j = i := by omega
    simp only [h, decide_true, Bool.true_and, e]
    rw [show decide (j + i < j) = false from decide_eq_false (by omega), BitVec.getLsbD_eq_getElem hi]; rfl
  · have : (1#32)[i] = false := by
      rw [← BitVec.getLsbD_eq_getElem hi]
      have : i ≠ 0 := by omega
      simp [BitVec.getLsbD_one, this]
    rw [this]
    simp [h]
theorem cfn_pow (L j : Nat) (hj : j < 32) (hL : j ≤ L) : cfn L (1#32 <<< j) = cfn (L - j) 1#32 := by
  have e : L = j + (L - j) := by omega
  conv => lhs; rw [e]
  rw [cfn_add, cfn_pow_self j hj]

theorem run_xor (l : List UInt8) : ∀ s d : BitVec 32, run (s ^^^ d) l = run s l ^^^ cfn (8 * l.length) d := by
  induction l with
  | nil => intro s d; rfl
  | cons x l ih =>
    intro s d
    have e : byte (s ^^^ d) x = byte s x ^^^ cfn 8 d := by
      unfold byte
      rw [← cfn_xor]
      congr 1
      rw [BitVec.xor_assoc, BitVec.xor_comm d, ← BitVec.xor_assoc]
    show run (byte (s ^^^ d) x) l = run (byte s x) l ^^^ _
    rw [e, ih, ← cfn_add, List.length_cons, Nat.mul_succ, Nat.add_comm]

theorem byte_flip (s : BitVec 32) (x : UInt8) (r : Nat) (hr : r < 8) : byte s (x ^^^ UInt8.ofNat (2 ^ r)) = byte s x ^^^ cfn (8 - r) 1#32 := by
  unfold byte
  have e : BitVec.ofNat 32 (x ^^^ UInt8.ofNat (2 ^ r)).toNat = BitVec.ofNat 32 x.toNat ^^^ (1#32 <<< r) := by
    apply BitVec.eq_of_toNat_eq
    have hp : (UInt8.ofNat (2 ^ r)).toNat = 2 ^ r := by
      rw [UInt8.toNat_ofNat']
      have : ∀ j : Fin 8, 2 ^ j.val % 2 ^ 8 = 2 ^ j.val := by decide
      exact this ⟨r, hr⟩
    have hs : (1#32 <<< r).toNat = 2 ^ r := by
      have : ∀ j : Fin 8, (1#32 <<< j.val).toNat = 2 ^ j.val := by decide
      exact this ⟨r, hr⟩
    have hx : x.toNat < 256 := x.toNat_lt
    have hy : (x ^^^ UInt8.ofNat (2 ^ r)).toNat < 256 := UInt8.toNat_lt _
    rw [BitVec.toNat_ofNat, Nat.mod_eq_of_lt (by omega), BitVec.toNat_xor, hs, BitVec.toNat_ofNat, Nat.mod_eq_of_lt (by omega), UInt8.toNat_xor, hp]
  rw [e, ← BitVec.xor_assoc, cfn_xor, cfn_pow 8 r (by omega) (by omega)]

theorem run_flip (s : BitVec 32) (l : List UInt8) (q r : Nat) (hq : q < l.length) (hr : r < 8) :
    run s (l.set q (l[q] ^^^ UInt8.ofNat (2 ^ r))) = run s l ^^^ cfn (8 * l.length - (8 * q + r)) 1#32 := by
  have e1 : l = l.take q ++ (l[q] :: l.drop (q + 1)) := by rw [← List.drop_eq_getElem_cons hq, List.take_append_drop]
  have e2 : l.set q (l[q] ^^^ UInt8.ofNat (2 ^ r)) = l.take q ++ ((l[q] ^^^ UInt8.ofNat (2 ^ r)) :: l.drop (q + 1)) := by
    rw [List.set_eq_take_append_cons_drop, if_pos hq]
  rw [e2]
  conv => rhs; rw [e1]
  rw [run_append, run_append]
  show run (byte _ _) _ = run (byte _ _) _ ^^^ _
  rw [byte_flip _ _ r hr, run_xor, ← cfn_add]
  congr 2
  have h3 : (l.drop (q + 1)).length = l.length - (q + 1) := List.length_drop
  have h4 : (l.take q ++ (l[q] :: l.drop (q + 1))).length = l.length := by rw [← e1]
  rw [h3]
  simp only [← e1]
  omega

/-- the sums differ just where the burst is none -/
theorem crc_burst (c : BitVec 32) (a b : List UInt8) (L : Nat) (M : BitVec 32) (h : run (~~~ c) a = run (~~~ c) b ^^^ cfn L M) : (crc c a = crc c b) ↔ M = 0#32 := by
  unfold crc
  constructor
  · intro e
    have e2 : run (~~~ c) a = run (~~~ c) b := by
      have := congrArg (fun z => ~~~ z) e
      simpa using this
    rw [e2] at h
    have h3 : cfn L M = 0#32 := by
      have := congrArg (fun z => run (~~~ c) b ^^^ z) h
      simp only [← BitVec.xor_assoc, BitVec.xor_self, BitVec.zero_xor] at this
      exact this.symm
    exact cfn_eq_zero L h3
  · intro e
    subst e
    rw [cfn_zero, BitVec.xor_zero] at h
    rw [h]
end Go.Crc
