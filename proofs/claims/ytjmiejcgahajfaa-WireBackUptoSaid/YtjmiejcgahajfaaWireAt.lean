/-
  Plain mathematics: what is written is read back, wherever it stands.
-/
import Derived.Test.YtjmiejcgahajfaaWireCutM
import Derived.Test.YtjmiejcgahajfaaWireItems
namespace Go.Wire

theorem dec_drop (bs : List UInt8) (a : Nat) (h : a ≤ bs.length) : dec bs a = if (dec (bs.drop a) 0).2.2 = 0 then ((dec (bs.drop a) 0).1, a + (dec (bs.drop a) 0).2.1, 0) else dec (bs.drop a) 0 := by
  have hl : (bs.drop a).length = bs.length - a := List.length_drop
  have h0 : (bs.drop a).getD 0 0 = bs.getD a 0 := by simp [List.getD]
  have h1 : (bs.drop a).getD (0 + 1) 0 = bs.getD (a + 1) 0 := by simp [List.getD]
  have h2 : (bs.drop a).drop (0 + 1) = bs.drop (a + 1) := by rw [List.drop_drop]
  unfold dec
  rw [h0, h1, h2, hl]
  by_cases c1 : bs.length ≤ a
  · rw [if_pos c1, if_pos (show bs.length - a ≤ 0 by omega)]; rfl
  rw [if_neg c1, if_neg (show ¬ bs.length - a ≤ 0 by omega)]
  by_cases c2 : 8 < (bs.getD a 0).toNat
  · simp only [if_pos c2]; rfl
  simp only [if_neg c2]
  by_cases c3 : bs.length < a + 1 + (bs.getD a 0).toNat
  · simp only [if_pos c3, if_pos (show bs.length - a < 0 + 1 + (bs.getD a 0).toNat by omega)]; rfl
  simp only [if_neg c3, if_neg (show ¬ bs.length - a < 0 + 1 + (bs.getD a 0).toNat by omega)]
  by_cases c4 : (0 < (bs.getD a 0).toNat ∧ bs.getD (a + 1) 0 = 0) ∨ 2 ^ 63 ≤ val ((bs.drop (a + 1)).take (bs.getD a 0).toNat)
  · simp only [if_pos c4]; rfl
  · simp only [if_neg c4, if_true]
    congr 2
    omega
/-- a number that is written there is read there -/
theorem dec_at (bs r : List UInt8) (a n : Nat) (ha : a ≤ bs.length) (hn : n < 2 ^ 63) (h : bs.drop a = num n ++ r) : dec bs a = (n, a + (nb n + 1), 0) := by
  rw [dec_drop bs a ha, h, dec_num n r hn, if_pos rfl]
end Go.Wire
namespace Go.Proofs.Ytjmiejcgahajfaa
open Go.RowKit Go.Mem

theorem up_at (bs r : List UInt8) (a n : Nat) (most : Int) (ha : a ≤ bs.length) (hn : n < 2 ^ 63) (hm : (n : Int) ≤ most) (h : bs.drop a = Wire.num n ++ r) : up bs a 0 most = (n, a + (Wire.nb n + 1), 0) := by
  have hd : Wire.decU bs a most = (n, a + (Wire.nb n + 1), 0) := by
    unfold Wire.decU
    rw [Wire.dec_at bs r a n ha hn h, if_neg (by simp), if_neg (by simp only; omega)]
  unfold up
  rw [hd]
  rfl
theorem nu_at (bs r : List UInt8) (a n : Nat) (ha : a ≤ bs.length) (hn : n < 2 ^ 63) (h : bs.drop a = Wire.num n ++ r) : nu bs a 0 = (n, a + (Wire.nb n + 1), 0) := up_at bs r a n _ ha hn (by omega) h
theorem len_at {bs l r : List UInt8} {a : Nat} (h : bs.drop a = l ++ r) (hl : 0 < l.length) : a + l.length ≤ bs.length := by
  have := congrArg List.length h
  rw [List.length_drop, List.length_append] at this
  omega
theorem drop_at {bs l r : List UInt8} {a : Nat} (h : bs.drop a = l ++ r) : bs.drop (a + l.length) = r := by
  rw [← List.drop_drop, h, List.drop_left]
theorem fl_at (bs r : List UInt8) (a : Nat) (f : Bool) (ha : a ≤ bs.length) (h : bs.drop a = Wire.num (if f then 1 else 0) ++ r) : fl bs a 0 = (f, a + (Wire.nb (if f then 1 else 0) + 1), 0) := by
  unfold fl
  rw [nu_at bs r a _ ha (by cases f <;> decide) h]
  cases f <;> rfl
theorem tx_at (bs t r : List UInt8) (a : Nat) (ha : a ≤ bs.length) (ht : t.length < 2 ^ 63) (h : bs.drop a = (Wire.num t.length ++ t) ++ r) : tx bs a 0 (t.length : Int) = (t, a + (Wire.num t.length ++ t).length, 0) := by
  have h' : bs.drop a = Wire.num t.length ++ (t ++ r) := by rw [h, List.append_assoc]
  have hl := len_at h (by rw [List.length_append, Wire.num_length]; omega)
  have hd := drop_at h'
  rw [List.length_append, Wire.num_length] at hl
  rw [Wire.num_length] at hd
  unfold tx
  rw [up_at bs _ a _ _ ha ht (Int.le_refl _) h', if_neg (by simp), if_neg (show ¬ bs.length < a + (Wire.nb t.length + 1) + t.length by omega)]
  show ((bs.drop (a + (Wire.nb t.length + 1))).take t.length, a + (Wire.nb t.length + 1) + t.length, 0) = _
  rw [hd, List.take_left, List.length_append, Wire.num_length, Nat.add_assoc]
theorem steps_at (bs : List UInt8) : ∀ (zs : List Int) (a : Nat) (r : List UInt8), a ≤ bs.length → (∀ z ∈ zs, inI64 z) → bs.drop a = encs zs ++ r → ∀ j ≤ zs.length, steps bs a j = ((zs.take j).map (fun z => (z.toNat : Int)), a + (encs (zs.take j)).length, 0) := by
  intro zs a r ha hz h j
  induction j with
  | zero => intro _; simp [steps, encs]
  | succ j ih =>
    intro hj
    have hlt : j < zs.length := by omega
    have hzj := hz _ (List.getElem_mem hlt)
    unfold inI64 at hzj
    have e1 : zs.take (j + 1) = zs.take j ++ [zs[j]] := List.take_succ_eq_append_getElem hlt
    have e2 : encs zs = encs (zs.take j) ++ (Wire.num zs[j].toNat ++ encs (zs.drop (j + 1))) := by
      have e3 : zs = zs.take j ++ zs[j] :: zs.drop (j + 1) := by
        rw [← List.drop_eq_getElem_cons hlt, List.take_append_drop]
      calc encs zs = encs (zs.take j ++ zs[j] :: zs.drop (j + 1)) := by rw [← e3]
        _ = _ := by unfold encs; rw [List.flatMap_append, List.flatMap_cons]
    have hd : bs.drop a = encs (zs.take j) ++ (Wire.num zs[j].toNat ++ (encs (zs.drop (j + 1)) ++ r)) := by
      rw [h, e2]; simp
    have hd2 := drop_at hd
    have hle : a + (encs (zs.take j)).length ≤ bs.length := by
      have := congrArg List.length hd
      rw [List.length_drop, List.length_append] at this
      omega
    have hn := nu_at bs _ _ _ hle (by omega) hd2
    show (if (steps bs a j).2.2 ≠ 0 then steps bs a j else ((steps bs a j).1 ++ [((nu bs (steps bs a j).2.1 0).1 : Int)], (nu bs (steps bs a j).2.1 0).2.1, (nu bs (steps bs a j).2.1 0).2.2)) = _
    rw [ih (by omega), if_neg (by simp)]
    simp only [hn]
    rw [e1, List.map_append, encs_snoc, List.length_append, Wire.num_length, Nat.add_assoc]
    rfl
end Go.Proofs.Ytjmiejcgahajfaa
