/-
  Lines of lines, each with a line feed behind it, plain.
-/
import Derived.Test.YtepfmmphajdlfabLineCut
namespace Go.Line
def noLf (l : List UInt8) : Bool := l.all (· != 10)
theorem noLf_app (a b : List UInt8) : noLf (a ++ b) = (noLf a && noLf b) := by simp [noLf]
theorem cuts_app (bs ys : List UInt8) : ∀ i, i ≤ bs.length → cuts (bs ++ ys) i = cuts bs i
  | 0, _ => rfl
  | i + 1, h => by
    have ih := cuts_app bs ys i (by omega)
    obtain ⟨_, hb, _⟩ := cuts_ok bs i
    have e1 : (bs ++ ys).getD i 0 = bs.getD i 0 := by simp [List.getD, List.getElem?_append_left (show i < bs.length by omega)]
    have e2 : ((bs ++ ys).drop (cuts bs i).b).take (i - (cuts bs i).b) = (bs.drop (cuts bs i).b).take (i - (cuts bs i).b) := by
      rw [List.drop_append_of_le_length (by omega), List.take_append_of_le_length (by rw [List.length_drop]; omega)]
    show cutStep (bs ++ ys) i (cuts (bs ++ ys) i) = cutStep bs i (cuts bs i)
    rw [ih]
    unfold cutStep
    rw [e1, e2]
theorem cuts_line (bs s : List UInt8) (ws : List (List UInt8)) (h : cuts bs bs.length = ⟨0, false, bs.length, ws⟩) (hs : noLf s = true) :
    ∀ k, k ≤ s.length → cuts (bs ++ s) (bs.length + k) = if k ≤ 200 then ⟨k, false, bs.length, ws⟩ else ⟨0, true, bs.length, ws⟩
  | 0, _ => by rw [Nat.add_zero, cuts_app _ _ _ (Nat.le_refl _), h]; rfl
  | k + 1, hk => by
    have ih := cuts_line bs s ws h hs k (by omega)
    have hc : (bs ++ s).getD (bs.length + k) 0 = s[k] := by
      simp only [List.getD]
      rw [List.getElem?_append_right (by omega), Nat.add_sub_cancel_left, List.getElem?_eq_getElem (by omega)]
      rfl
    have hne : s[k] ≠ 10 := by
      have := List.all_eq_true.1 hs s[k] (List.getElem_mem _)
      simpa using this
    show cutStep (bs ++ s) (bs.length + k) (cuts (bs ++ s) (bs.length + k)) = _
    rw [ih]
    unfold cutStep
    rw [hc]
    by_cases h1 : k + 1 ≤ 200
    · rw [if_pos (show k ≤ 200 by omega), if_pos h1]
      have e : step k false s[k] = (k + 1, false, 1) := by unfold step; rw [if_neg hne, if_neg (by decide), if_neg (by omega)]
      simp [e]
    · by_cases h2 : k ≤ 200
      · obtain rfl : k = 200 := by omega
        rw [if_pos h2, if_neg h1]
        have e : step 200 false s[200] = (0, true, 3) := by unfold step; rw [if_neg hne]; rfl
        simp [e]
      · rw [if_neg h2, if_neg h1]
        have e : step 0 true s[k] = (0, true, 4) := by unfold step; rw [if_neg hne]; rfl
        simp [e]
theorem cuts_full (bs s : List UInt8) (ws : List (List UInt8)) (h : cuts bs bs.length = ⟨0, false, bs.length, ws⟩) (hs : noLf s = true) :
    cuts (bs ++ s ++ [10]) (bs ++ s ++ [10]).length = ⟨0, false, (bs ++ s ++ [10]).length, if s.length ≤ 200 then ws ++ [s] else ws⟩ := by
  have hl : (bs ++ s ++ [10]).length = bs.length + s.length + 1 := by simp [Nat.add_assoc]
  have h1 := cuts_line bs s ws h hs s.length (Nat.le_refl _)
  rw [hl]
  have e1 : (bs ++ s ++ [10]).getD (bs.length + s.length) 0 = 10 := by
    simp only [List.getD]
    rw [List.getElem?_append_right (by simp)]
    simp
  have e2 : ((bs ++ s ++ [10]).drop bs.length).take (bs.length + s.length - bs.length) = s := by
    rw [List.append_assoc, List.drop_left, Nat.add_sub_cancel_left, List.take_left]
  show cutStep (bs ++ s ++ [10]) (bs.length + s.length) (cuts (bs ++ s ++ [10]) (bs.length + s.length)) = _
  rw [cuts_app (bs ++ s) [10] _ (by simp), h1]
  unfold cutStep
  rw [e1]
  by_cases h2 : s.length ≤ 200
  · have e : step s.length false 10 = (0, false, 2) := rfl
    simp only [h2, if_true, e, e2]
  · have e : step 0 true 10 = (0, false, 5) := rfl
    simp only [h2, if_false, e]
    simp
theorem cuts_tail (bs s : List UInt8) (ws : List (List UInt8)) (h : cuts bs bs.length = ⟨0, false, bs.length, ws⟩) (hs : noLf s = true) : (cuts (bs ++ s) (bs ++ s).length).out = ws := by
  rw [List.length_append, cuts_line bs s ws h hs s.length (Nat.le_refl _)]
  split <;> rfl
end Go.Line
