/-
  A file that keeps its number and its bytes while others come and go.
-/
import Derived.Test.YtbmgeomndfodpaaYardRuns
import Derived.Test.YtbmgeomndfodpaaYardAsk
namespace Go.Proofs.Ytbmgeomndfodpaa
open Go.Mem Go.Tab

def Hold (data : List UInt8) (s : ByteArray) (m : List MF) : Prop := ∃ i : Nat, m[i]? = some ⟨1, s, data⟩
section
variable {data : List UInt8} {s t : ByteArray} {m : List MF}
theorem Hold.find (h : Hold data s m) (hg : Gd m) : findV s m = .agg #[.int .i64 1, .string s, .int .i64 (data.length : Int)] ∧ (findM s m).isSome = true := by
  obtain ⟨i, hx⟩ := h
  have hf := hg.find hx
  simp only at hf
  refine ⟨?_, by rw [hf]; rfl⟩
  unfold findV
  rw [hf]
  simp only [getD_some hx]
  rfl
theorem Hold.create (h : Hold data s m) : Hold data s (createM t m) := by
  obtain ⟨i, hx⟩ := h
  have hi := (List.getElem?_eq_some_iff.1 hx).1
  unfold createM
  split
  · rcases Nat.lt_or_ge i (leadM 1 m) with h2 | h2
    · exact ⟨i, by rw [ins_get _ _ _ _ (leadM_le 1 m), if_pos h2]; exact hx⟩
    · exact ⟨i + 1, by rw [ins_get _ _ _ _ (leadM_le 1 m), if_neg (by omega), if_neg (by omega), Nat.add_sub_cancel]; exact hx⟩
  · exact ⟨i, hx⟩
theorem Hold.ne {i j : Nat} (hx : m[i]? = some ⟨1, s, data⟩) (hne : t ≠ s) (hf : findM t m = some j) : j ≠ i := by
  rintro rfl
  obtain ⟨z, hz, hzn, _⟩ := findM_some hf
  rw [hx] at hz; injection hz with hz; subst hz
  exact hne hzn.symm
theorem Hold.append (h : Hold data s m) (hne : t ≠ s) (p : List UInt8) : Hold data s (appendM t p m) := by
  obtain ⟨i, hx⟩ := h
  unfold appendM
  cases hf : findM t m with
  | none => exact ⟨i, hx⟩
  | some j =>
    have := Hold.ne hx hne hf
    simp only
    split
    · exact ⟨i, hx⟩
    · exact ⟨i, by rw [List.getElem?_set, if_neg this]; exact hx⟩
theorem Hold.remove (h : Hold data s m) (hne : t ≠ s) : Hold data s (removeM t m) := by
  obtain ⟨i, hx⟩ := h
  unfold removeM
  cases hf : findM t m with
  | none => exact ⟨i, hx⟩
  | some j =>
    have := Hold.ne hx hne hf
    simp only
    rcases Nat.lt_or_ge i j with h2 | h2
    · exact ⟨i, by rw [del_get, if_pos h2]; exact hx⟩
    · exact ⟨i - 1, by rw [del_get, if_neg (by omega), show i - 1 + 1 = i by omega]; exact hx⟩
theorem Hold.rename (h : Hold data s m) (hg : Gd m) : (renameNo s t m = 0 ∧ Hold data t (renameM s t m)) ∨ (renameNo s t m ≠ 0 ∧ renameM s t m = m) := by
  obtain ⟨i, hx⟩ := h
  cases hr : rightB t with
  | false =>
    obtain ⟨e1, e2⟩ := renameM_bad (s := s) (m := m) hr
    exact .inr ⟨by rw [e1]; decide, e2⟩
  | true =>
    have hf := hg.find hx
    simp only at hf
    obtain ⟨e1, _, j, hj, e2⟩ := renameM_ok hg hr hf hx rfl
    refine .inl ⟨e1, j, ?_⟩
    rw [e2, List.getElem?_set, if_pos rfl, if_pos (List.getElem?_eq_some_iff.1 hj).1]
theorem Hold.read (h : Hold data s m) (hg : Gd m) (hd : data.length ≤ 65536) (tk : List (Int × Int)) : readB 1 0 65536 m = data ∧ readNo 1 0 65536 m = 0 ∧ readT 1 0 65536 m tk = setTk 1 (takenM 1 tk + (data.length : Int)) tk := by
  obtain ⟨i, hx⟩ := h
  have hw := hg.who hx
  simp only at hw
  obtain ⟨a, b, c⟩ := read_ok (a := 0) (n := 65536) (tk := tk) hw (by omega)
  have e : (data.drop (0 : Int).toNat).take (65536 : Int).toNat = data := by
    rw [show (0 : Int).toNat = 0 from rfl, show (65536 : Int).toNat = 65536 from rfl, List.drop_zero, List.take_of_length_le hd]
  simp only [e] at b c
  exact ⟨b, a, c⟩
end
end Go.Proofs.Ytbmgeomndfodpaa
