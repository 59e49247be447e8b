/-
  spoorlaw4.text: a number as eight bytes in the order of numbers.
-/
import Derived.Test.YtepmnhlfjidhjaaTabW
import Derived.Test.YtepmnhlfjidhjaaTabLib2
import Derived.Test.YtepmnhlfjidhjaaConv
import Derived.Test.YtepmnhlfjidhjaaMakeB
namespace Go.Tab
/-- k bytes of a number, the greatest first -/
def beB : Nat → Nat → List UInt8
  | 0, _ => []
  | k + 1, N => UInt8.ofNat (N / 256 ^ k) :: beB k N
theorem beB_length (k N : Nat) : (beB k N).length = k := by
  induction k with
  | zero => rfl
  | succ k ih => simp [beB, ih]
theorem beB_lt : ∀ (k N M : Nat), N % 256 ^ k < M % 256 ^ k → beB k N < beB k M := by
  intro k
  induction k with
  | zero => intro N M h; simp [Nat.mod_one] at h
  | succ k ih =>
    intro N M h
    have hp : 0 < 256 ^ k := Nat.pow_pos (by decide)
    have hx : ∀ X : Nat, X % 256 ^ (k + 1) = 256 ^ k * (X / 256 ^ k % 256) + X % 256 ^ k := fun X => by
      rw [Nat.pow_succ, Nat.mod_mul]; omega
    rw [hx, hx] at h
    have hN := Nat.mod_lt N hp
    have hM := Nat.mod_lt M hp
    rw [beB, beB, List.cons_lt_cons_iff]
    rcases Nat.lt_trichotomy (N / 256 ^ k % 256) (M / 256 ^ k % 256) with h1 | h1 | h1
    · exact .inl (by rw [UInt8.lt_iff_toNat_lt]; simpa using h1)
    · refine .inr ⟨UInt8.toNat.inj (by simpa using h1), ih N M ?_⟩
      rw [h1] at h; omega
    · exfalso
      have := Nat.mul_le_mul_left (256 ^ k) (Nat.succ_le_of_lt h1)
      rw [Nat.mul_succ] at this
      omega
/-- the number behind the turned sign -/
def up (n : Int) : Nat := (n + 9223372036854775808).toNat
def txt (n : Int) : ByteArray := ⟨(beB 8 (up n)).toArray⟩
end Go.Tab
namespace Go.Proofs.Ytepmnhlfjidhjaa
open Go.RowKit Go.Mem Go.Proofs Go.Tab

theorem txt_lt {a b : Int} (ha : -9223372036854775808 ≤ a) (hb : b ≤ 9223372036854775807) (h : a < b) : ltS (txt a) (txt b) = true := by
  rw [ltS_eq, decide_eq_true_iff]
  show (beB 8 (up a)) < (beB 8 (up b))
  refine beB_lt 8 _ _ ?_
  rw [Nat.mod_eq_of_lt (by unfold up; omega), Nat.mod_eq_of_lt (by unfold up; omega)]
  unfold up
  omega
theorem txt_le {a b : Int} (ha : -9223372036854775808 ≤ a) (ha2 : a ≤ 9223372036854775807) (hb1 : -9223372036854775808 ≤ b) (hb : b ≤ 9223372036854775807) : ltS (txt a) (txt b) = ltI a b := by
  unfold ltI
  rcases Int.lt_trichotomy a b with h | h | h
  · rw [txt_lt ha hb h, decide_eq_true h]
  · subst h; rw [ordS.irr, decide_eq_false (by omega)]
  · rw [decide_eq_false (by omega)]
    cases hx : ltS (txt a) (txt b) with
    | false => rfl
    | true => have := ordS.tr _ _ _ hx (txt_lt hb1 ha2 h); rw [ordS.irr] at this; cases this

theorem xor63 (a : Nat) (h : a < 18446744073709551616) : a ^^^ 9223372036854775808 = (a + 9223372036854775808) % 18446744073709551616 := by
  have e : (9223372036854775808 : Nat) = 2 ^ 63 := by decide
  rcases Nat.lt_or_ge a 9223372036854775808 with h1 | h1
  · rw [Nat.mod_eq_of_lt (by omega), e, Nat.add_comm]
    apply Nat.eq_of_testBit_eq
    intro i
    rw [Nat.testBit_xor, Nat.testBit_two_pow]
    rcases Nat.lt_trichotomy i 63 with h2 | h2 | h2
    · rw [Nat.testBit_two_pow_add_gt h2, decide_eq_false (by omega), Bool.xor_false]
    · subst h2; rw [Nat.testBit_two_pow_add_eq, decide_eq_true rfl, Bool.xor_true]
    · have hb : ∀ x : Nat, x < 2 ^ 64 → x.testBit i = false := fun x hx => Nat.testBit_lt_two_pow (Nat.lt_of_lt_of_le hx (Nat.pow_le_pow_right (by decide) (by omega)))
      rw [hb a (by omega), hb (2 ^ 63 + a) (by omega), decide_eq_false (by omega)]; rfl
  · obtain ⟨b, rfl⟩ : ∃ b, a = 9223372036854775808 + b := ⟨a - 9223372036854775808, by omega⟩
    have : (9223372036854775808 + b + 9223372036854775808) % 18446744073709551616 = b := by omega
    rw [this, e]
    apply Nat.eq_of_testBit_eq
    intro i
    rw [Nat.testBit_xor, Nat.testBit_two_pow]
    rcases Nat.lt_trichotomy i 63 with h2 | h2 | h2
    · rw [Nat.testBit_two_pow_add_gt h2, decide_eq_false (by omega), Bool.xor_false]
    · subst h2; rw [Nat.testBit_two_pow_add_eq, decide_eq_true rfl, Bool.xor_true, Bool.not_not]
    · have hb : ∀ x : Nat, x < 2 ^ 64 → x.testBit i = false := fun x hx => Nat.testBit_lt_two_pow (Nat.lt_of_lt_of_le hx (Nat.pow_le_pow_right (by decide) (by omega)))
      rw [hb b (by omega), hb (2 ^ 63 + b) (by omega), decide_eq_false (by omega)]; rfl
theorem turned {n : Int} (h1 : -9223372036854775808 ≤ n) (h2 : n ≤ 9223372036854775807) : bits .xor .u64 (IntKind.u64.wrap n) 9223372036854775808 = (up n : Int) := by
  show IntKind.u64.wrap ((BitVec.ofInt 64 (IntKind.u64.wrap n) ^^^ BitVec.ofInt 64 9223372036854775808).toNat : Int) = _
  rw [BitVec.toNat_xor, BitVec.toNat_ofInt, BitVec.toNat_ofInt]
  have e : IntKind.u64.wrap n = n % 18446744073709551616 := rfl
  rw [e]
  have ha : ((n % 18446744073709551616) % ((2 ^ 64 : Nat) : Int)).toNat < 18446744073709551616 := by omega
  rw [show ((9223372036854775808 : Int) % ((2 ^ 64 : Nat) : Int)).toNat = 9223372036854775808 by decide, xor63 _ ha]
  show ((_ : Nat) : Int) % 18446744073709551616 = _
  unfold up
  omega

theorem byteV (N K : Nat) : Value.int .u8 ((N : Int) / (K : Int) % 256) = B8 (UInt8.ofNat (N / K)) := by
  have : ((UInt8.ofNat (N / K)).toNat : Int) = (N : Int) / (K : Int) % 256 := by simp
  unfold B8
  rw [this]
theorem put_be {w : World} {g N j : Nat} {v : Value} (hj : j < 8) (h : Blk w g 5 (((beB 8 N).take j).map B8 ++ List.replicate (8 - j) (.int .u8 0))) (hv : v = B8 ((beB 8 N)[j]'(by rw [beB_length]; exact hj))) :
    Blk (w.setCell ⟨g, j, none⟩ v) g 5 (((beB 8 N).take (j + 1)).map B8 ++ List.replicate (8 - (j + 1)) (.int .u8 0)) := by
  have hl : j < (beB 8 N).length := by rw [beB_length]; exact hj
  subst hv
  have h2 := h.set_ j (B8 ((beB 8 N)[j]'hl))
  have e : 8 - j = (8 - (j + 1)) + 1 := by omega
  rw [List.set_append_right _ _ (by simp; omega), e, List.replicate_succ] at h2
  have e2 : j - (((beB 8 N).take j).map B8).length = 0 := by simp; omega
  rw [e2, List.set_cons_zero] at h2
  rw [List.take_succ_eq_append_getElem hl, List.map_append, List.append_assoc]
  exact h2

set_option maxRecDepth 100000 in
set_option maxHeartbeats 3200000 in
theorem text_calls (n : Int) (h1 : -9223372036854775808 ≤ n) (h2 : n ≤ 9223372036854775807) (w : World) :
    Calls Try.prog 72 #[.int .i64 n] w fun e w' => e = .returned (.string (txt n)) ∧ Below w.heap.size w w' := by
  have hmk : ∀ u : World, (Instr.makeSlice 24 (.int .i64 8) (.int .i64 8)).run Try.prog u = .ok (.slice (some ⟨u.heap.size, 0, none⟩) 8 8) (u.alloc (.cells (zerosB 8) 5)) := mkB 8 8 (by decide) (by decide)
  have ht := turned h1 h2
  have HN : Hid (up n < 18446744073709551616) := (show _ < _ by unfold up; omega)
  have HB : Hid (Blk (w.alloc (.cells (zerosB 8) 5)) w.heap.size 5 (((beB 8 (up n)).take 0).map B8 ++ List.replicate (8 - 0) (.int .u8 0))) := (show Blk _ _ _ _ from Blk.new w 5 (zerosB 8))
  have HT : Hid ((⟨(beB 8 (up n)).toArray⟩ : ByteArray) = txt n) := (show _ = _ from rfl)
  have hB0 := (Below.refl w.heap.size w).alloc (Nat.le_refl _) (.cells (zerosB 8) 5)
  generalize hN : up n = N at ht HB HN HT
  go_enter Try.func72, Try.ntmps72
  go_wp2_with fail
  clear hN ht h1 h2 hmk
  generalize w.alloc (.cells (zerosB 8) 5) = w1 at HB hB0 ⊢
  go_loopw [5] (fun s5 wr => ∃ (j : Nat), j ≤ 8 ∧ s5 = .int .i64 j ∧ Hid (Blk wr w.heap.size 5 (((beB 8 N).take j).map B8 ++ List.replicate (8 - j) (.int .u8 0))) ∧ Below w.heap.size w wr) (fun s _ => 8 - (intOf s).toNat)
  case atStart => exact ⟨0, Nat.zero_le _, rfl, HB, hB0⟩
  case round =>
    clear HB hB0
    obtain ⟨j, hj, rfl, HB, B⟩ := hrel
    by_cases hlt : j < 8
    · have hcl := HB.out.cell j
      have hfr := HB.out.frozen j
      rw [List.getElem?_append_right (by simp [beB_length]; omega), List.getElem?_replicate, if_pos (by simp [beB_length]; omega)] at hcl
      have hj8 : j = 0 ∨ j = 1 ∨ j = 2 ∨ j = 3 ∨ j = 4 ∨ j = 5 ∨ j = 6 ∨ j = 7 := by omega
      rcases hj8 with rfl | rfl | rfl | rfl | rfl | rfl | rfl | rfl
      all_goals
        go_wp2_with fail
        go_roundw
        case rel => exact ⟨_, by decide, rfl, (show Blk _ _ _ _ from put_be (by decide) HB.out (by first | exact byteV N 72057594037927936 | exact byteV N 281474976710656 | exact byteV N 1099511627776 | exact byteV N 4294967296 | exact byteV N 16777216 | exact byteV N 65536 | exact byteV N 256 | (have h := byteV N 1; rw [show ((1 : Nat) : Int) = 1 from rfl, Int.ediv_one] at h; exact h))), B.setCell (Nat.le_refl _) _⟩
        case measure => simp [intOf]
    · obtain rfl : j = 8 := by omega
      have hS : Sl wr (some ⟨w.heap.size, 0, none⟩) ((beB 8 N).map B8) := by
        intro k v hv
        refine ⟨w.heap.size, 0, rfl, ?_⟩
        rw [Nat.zero_add, HB.out.cell, List.take_of_length_le (by rw [beB_length]; exact Nat.le_refl _)]
        simpa using hv
      have kc := conv_str (P := Try.prog) wr 24 9 5 Try.underlying24 Try.underlying5 Try.underlying9 _ 8 8 (beB 8 N) (beB_length 8 N) hS
      unfold S8 at kc
      rw [HT.out] at kc
      clear hS HT HB
      go_wp2_with fail
      go_ret
      exact ⟨rfl, B⟩
end Go.Proofs.Ytepmnhlfjidhjaa
