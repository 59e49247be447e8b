/-
  Frames: a record's bytes, and how they are read. Nothing of the program stands in it.
-/
import Derived.Test.YtenhbjcamkbffaaDoorCrc
namespace Go.Frm
/-- four bytes of a number, the most significant one first -/
def word4 (x : Nat) : List UInt8 := [UInt8.ofNat (x / 16777216), UInt8.ofNat (x / 65536), UInt8.ofNat (x / 256), UInt8.ofNat x]
theorem word4_length (x : Nat) : (word4 x).length = 4 := rfl
def unword : List UInt8 → Nat
  | a :: b :: c :: d :: _ => a.toNat * 16777216 + b.toNat * 65536 + c.toNat * 256 + d.toNat
  | _ => 0
theorem unword_lt (l : List UInt8) : unword l < 4294967296 := by
  match l with
  | [] => exact (show 0 < 4294967296 by decide)
  | [_] => exact (show 0 < 4294967296 by decide)
  | [_, _] => exact (show 0 < 4294967296 by decide)
  | [_, _, _] => exact (show 0 < 4294967296 by decide)
  | a :: b :: c :: d :: _ =>
    have := a.toNat_lt; have := b.toNat_lt; have := c.toNat_lt; have := d.toNat_lt
    show a.toNat * 16777216 + b.toNat * 65536 + c.toNat * 256 + d.toNat < 4294967296
    omega
theorem unword_word4 (x : Nat) (hx : x < 4294967296) (r : List UInt8) : unword (word4 x ++ r) = x := by
  show (UInt8.ofNat (x / 16777216)).toNat * 16777216 + (UInt8.ofNat (x / 65536)).toNat * 65536 + (UInt8.ofNat (x / 256)).toNat * 256 + (UInt8.ofNat x).toNat = x
  simp only [UInt8.toNat_ofNat']
  omega
/-- a payload's frame; nothing where it can't be -/
def frm (p : List UInt8) : List UInt8 := if p.length = 0 ∨ 262144 < p.length then [] else word4 p.length ++ (word4 (Crc.crc 0#32 (word4 p.length ++ p)).toNat ++ p)
theorem frm_no {p : List UInt8} (h : p.length = 0 ∨ 262144 < p.length) : frm p = [] := if_pos h
theorem frm_yes {p : List UInt8} (h : ¬ (p.length = 0 ∨ 262144 < p.length)) : frm p = word4 p.length ++ (word4 (Crc.crc 0#32 (word4 p.length ++ p)).toNat ++ p) := if_neg h
theorem frm_length {p : List UInt8} (h : ¬ (p.length = 0 ∨ 262144 < p.length)) : (frm p).length = 8 + p.length := by
  rw [frm_yes h]; simp [word4_length]; omega
/-- what stands at the front of bytes: its payload, how many bytes it takes, or why there is none -/
def front (r : List UInt8) : List UInt8 × Nat × Nat :=
  if r.length < 8 then ([], 0, 3)
  else if unword r = 0 ∨ 262144 < unword r then ([], 0, 4)
  else if r.length - 8 < unword r then ([], 0, 3)
  else if (Crc.crc 0#32 (r.take 4 ++ (r.drop 8).take (unword r))).toNat = unword (r.drop 4) then ((r.drop 8).take (unword r), 8 + unword r, 0)
  else ([], 0, 6)
theorem front_short {r : List UInt8} (h : r.length < 8) : front r = ([], 0, 3) := if_pos h
theorem front_form {r : List UInt8} (h : ¬ r.length < 8) (h2 : unword r = 0 ∨ 262144 < unword r) : front r = ([], 0, 4) := by unfold front; rw [if_neg h, if_pos h2]
theorem front_cut {r : List UInt8} (h : ¬ r.length < 8) (h2 : ¬ (unword r = 0 ∨ 262144 < unword r)) (h3 : r.length - 8 < unword r) : front r = ([], 0, 3) := by unfold front; rw [if_neg h, if_neg h2, if_pos h3]
theorem front_sum {r : List UInt8} (h : ¬ r.length < 8) (h2 : ¬ (unword r = 0 ∨ 262144 < unword r)) (h3 : ¬ r.length - 8 < unword r) (h4 : (Crc.crc 0#32 (r.take 4 ++ (r.drop 8).take (unword r))).toNat ≠ unword (r.drop 4)) : front r = ([], 0, 6) := by unfold front; rw [if_neg h, if_neg h2, if_neg h3, if_neg h4]
theorem front_ok {r : List UInt8} (h : ¬ r.length < 8) (h2 : ¬ (unword r = 0 ∨ 262144 < unword r)) (h3 : ¬ r.length - 8 < unword r) (h4 : (Crc.crc 0#32 (r.take 4 ++ (r.drop 8).take (unword r))).toNat = unword (r.drop 4)) : front r = ((r.drop 8).take (unword r), 8 + unword r, 0) := by unfold front; rw [if_neg h, if_neg h2, if_neg h3, if_pos h4]
/-- where a front holds it takes bytes, and lies in them -/
theorem front_le (r : List UInt8) (h : (front r).2.2 = 0) : 8 < (front r).2.1 ∧ (front r).2.1 ≤ r.length ∧ (front r).1.length + 8 = (front r).2.1 ∧ (front r).1.length ≤ 262144 := by
  unfold front at h ⊢
  split
  · rename_i h1; rw [if_pos h1] at h; simp at h
  · rename_i h1
    rw [if_neg h1] at h
    split
    · rename_i h2; rw [if_pos h2] at h; simp at h
    · rename_i h2
      rw [if_neg h2] at h
      split
      · rename_i h3; rw [if_pos h3] at h; simp at h
      · rename_i h3
        rw [if_neg h3] at h
        split
        · simp only [List.length_take, List.length_drop]
          omega
        · rename_i h4; rw [if_neg h4] at h; simp at h
/-- of a frame, whatever stands behind it -/
theorem front_frm {p : List UInt8} (h : ¬ (p.length = 0 ∨ 262144 < p.length)) (r : List UInt8) : front (frm p ++ r) = (p, 8 + p.length, 0) := by
  have hl : p.length < 4294967296 := by omega
  have hu : unword (frm p ++ r) = p.length := by rw [frm_yes h, List.append_assoc]; exact unword_word4 _ hl _
  have hlen : (frm p ++ r).length = 8 + p.length + r.length := by rw [List.length_append, frm_length h]
  have h4 : (frm p ++ r).take 4 = word4 p.length := by rw [frm_yes h, List.append_assoc]; exact List.take_left' rfl
  have h5 : (frm p ++ r).drop 4 = word4 (Crc.crc 0#32 (word4 p.length ++ p)).toNat ++ (p ++ r) := by rw [frm_yes h, List.append_assoc, List.append_assoc]; exact List.drop_left' rfl
  have h8 : (frm p ++ r).drop 8 = p ++ r := by
    have : (frm p ++ r).drop 8 = ((frm p ++ r).drop 4).drop 4 := by rw [List.drop_drop]
    rw [this, h5]; exact List.drop_left' rfl
  have hp : ((frm p ++ r).drop 8).take (unword (frm p ++ r)) = p := by rw [h8, hu]; exact List.take_left' rfl
  rw [front_ok (by omega) (by rw [hu]; exact h) (by rw [hu, hlen]; omega) (by rw [hp, h4, h5, unword_word4 _ (by exact BitVec.isLt _)]), hp, hu]
/-- of a frame that is cut off -/
theorem front_frm_cut {p : List UInt8} (h : ¬ (p.length = 0 ∨ 262144 < p.length)) (m : Nat) (hm : m < 8 + p.length) : front ((frm p).take m) = ([], 0, 3) := by
  have hlen : ((frm p).take m).length = m := by rw [List.length_take, frm_length h]; omega
  by_cases h8 : m < 8
  · exact front_short (by omega)
  · have hu : unword ((frm p).take m) = p.length := by
      have : (frm p).take m = word4 p.length ++ ((word4 (Crc.crc 0#32 (word4 p.length ++ p)).toNat ++ p).take (m - 4)) := by
        rw [frm_yes h, List.take_append, List.take_of_length_le (by rw [word4_length]; omega), word4_length]
      rw [this]; exact unword_word4 _ (by omega) _
    exact front_cut (by omega) (by rw [hu]; exact h) (by rw [hu, hlen]; omega)
/-- all frames from the front on, and how many bytes they take -/
def scan (r : List UInt8) : List (List UInt8) × Nat :=
  if _h : (front r).2.2 = 0 then ((front r).1 :: (scan (r.drop (front r).2.1)).1, (front r).2.1 + (scan (r.drop (front r).2.1)).2) else ([], 0)
termination_by r.length
decreasing_by
  all_goals
    have := front_le r _h
    rw [List.length_drop]; omega
theorem scan_more {r : List UInt8} (h : (front r).2.2 = 0) : scan r = ((front r).1 :: (scan (r.drop (front r).2.1)).1, (front r).2.1 + (scan (r.drop (front r).2.1)).2) := by rw [scan]; exact dif_pos h
theorem scan_stop {r : List UInt8} (h : (front r).2.2 ≠ 0) : scan r = ([], 0) := by rw [scan]; exact dif_neg h
theorem scan_le (r : List UInt8) : (scan r).2 ≤ r.length ∧ (scan r).1.length * 9 ≤ (scan r).2 ∧ ∀ p ∈ (scan r).1, p.length ≤ 262144 := by
  generalize hn : r.length = n
  induction n using Nat.strongRecOn generalizing r with
  | _ n ih =>
    by_cases h : (front r).2.2 = 0
    · have h1 := front_le r h
      obtain ⟨i1, i2, i3⟩ := ih (r.drop (front r).2.1).length (by rw [List.length_drop]; omega) _ rfl
      rw [List.length_drop] at i1
      rw [scan_more h]
      refine ⟨by simp only; omega, by simp only [List.length_cons]; omega, fun p hp => ?_⟩
      rcases List.mem_cons.1 hp with rfl | hp
      · exact h1.2.2.2
      · exact i3 p hp
    · rw [scan_stop h]; simp
/-- frames one behind the other, the last one cut off -/
theorem scan_frms : ∀ (ps : List (List UInt8)) (r : List UInt8), (∀ p ∈ ps, ¬ (p.length = 0 ∨ 262144 < p.length)) → (front r).2.2 ≠ 0 → scan ((ps.map frm).flatten ++ r) = (ps, ((ps.map frm).flatten).length) := by
  intro ps
  induction ps with
  | nil => intro r _ hr; exact scan_stop hr
  | cons p ps ih =>
    intro r hp hr
    have h1 := hp p List.mem_cons_self
    have hf := front_frm h1 ((ps.map frm).flatten ++ r)
    have e : ((p :: ps).map frm).flatten ++ r = frm p ++ ((ps.map frm).flatten ++ r) := by simp
    rw [e, scan_more (by rw [hf]), hf]
    have hd : (frm p ++ ((ps.map frm).flatten ++ r)).drop (8 + p.length) = (ps.map frm).flatten ++ r := List.drop_left' (frm_length h1)
    simp only
    rw [hd, ih r (fun q hq => hp q (List.mem_cons_of_mem _ hq)) hr]
    simp [frm_length h1]
theorem front_nil : (front []).2.2 ≠ 0 := by decide
end Go.Frm
