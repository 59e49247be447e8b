/-
  Files by their names: the model of a table at texts and bytes. Nothing of the program stands in it.
-/
import Derived.Test.YtbmgeomndfodpaaTabOrd
namespace Go.Proofs.Ytbmgeomndfodpaa
open Go.Mem Go.Tab

abbrev FS := List (ByteArray × List UInt8)
def getF (k : ByteArray) : FS → Option (List UInt8)
  | [] => none
  | x :: l => if x.1 = k then some x.2 else getF k l
def setF (k : ByteArray) (v : List UInt8) : FS → FS
  | [] => [(k, v)]
  | x :: l => if ltS x.1 k = true then x :: setF k v l else if x.1 = k then (k, v) :: l else (k, v) :: x :: l
def delF (k : ByteArray) : FS → FS
  | [] => []
  | x :: l => if x.1 = k then l else x :: delF k l
def totF : FS → Nat
  | [] => 0
  | x :: l => x.2.length + totF l
theorem at_tail {x : ByteArray × List UInt8} {l : FS} {k : ByteArray} {i : Nat} (hat : At ltS ((x :: l).map Prod.fst) k (i + 1)) : At ltS (l.map Prod.fst) k i :=
  ⟨by have := hat.1; simp at this ⊢; omega, fun t z ht hz => hat.2.1 (t + 1) z (by omega) (by simpa using hz), fun t z ht hz => hat.2.2 (t + 1) z (by omega) (by simpa using hz)⟩
theorem setF_at {k : ByteArray} (v : List UInt8) {l : FS} {i : Nat} (hat : At ltS (l.map Prod.fst) k i) : setF k v l = if (l.map Prod.fst)[i]? = some k then l.set i (k, v) else l.take i ++ (k, v) :: l.drop i := by
  induction l generalizing i with
  | nil => obtain rfl : i = 0 := by have := hat.1; simpa using this
           simp [setF]
  | cons x l ih =>
    cases i with
    | zero =>
      have h1 : ltS x.1 k = false := hat.2.2 0 x.1 (Nat.le_refl _) (by simp)
      unfold setF
      rw [if_neg (by rw [h1]; decide)]
      by_cases h2 : x.1 = k
      · rw [if_pos h2, if_pos (by simp [h2])]; rfl
      · rw [if_neg h2, if_neg (by simpa using h2)]; rfl
    | succ i =>
      have h1 : ltS x.1 k = true := hat.2.1 0 x.1 (by omega) (by simp)
      unfold setF
      rw [if_pos h1, ih (at_tail hat), List.map_cons, List.getElem?_cons_succ]
      split <;> rfl
theorem getF_none {k : ByteArray} {l : FS} (h : k ∉ l.map Prod.fst) : getF k l = none := by
  induction l with
  | nil => rfl
  | cons x l ih =>
    simp only [List.map_cons, List.mem_cons, not_or] at h
    unfold getF
    rw [if_neg (fun e => h.1 e.symm)]
    exact ih h.2
theorem delF_none {k : ByteArray} {l : FS} (h : k ∉ l.map Prod.fst) : delF k l = l := by
  induction l with
  | nil => rfl
  | cons x l ih =>
    simp only [List.map_cons, List.mem_cons, not_or] at h
    unfold delF
    rw [if_neg (fun e => h.1 e.symm), ih h.2]
theorem Rising.tail {x : ByteArray} {l : List ByteArray} (h : Rising ltS (x :: l)) : Rising ltS l ∧ x ∉ l := by
  obtain ⟨h1, h2⟩ := List.pairwise_cons.1 h
  exact ⟨h2, fun hm => by have := h1 x hm; rw [ordS.irr] at this; cases this⟩
theorem getF_get {k : ByteArray} {v : List UInt8} {l : FS} {i : Nat} (hr : Rising ltS (l.map Prod.fst)) (h : l[i]? = some (k, v)) : getF k l = some v := by
  induction l generalizing i with
  | nil => simp at h
  | cons x l ih =>
    obtain ⟨h1, h2⟩ := Rising.tail hr
    unfold getF
    cases i with
    | zero => simp at h; subst h; rw [if_pos rfl]
    | succ i =>
      have hm : k ∈ l.map Prod.fst := List.mem_map.2 ⟨(k, v), List.mem_of_getElem? (by simpa using h), rfl⟩
      rw [if_neg (fun e => h2 (by rw [e]; exact hm))]
      exact ih h1 (by simpa using h)
theorem delF_get {k : ByteArray} {v : List UInt8} {l : FS} {i : Nat} (hr : Rising ltS (l.map Prod.fst)) (h : l[i]? = some (k, v)) : delF k l = l.take i ++ l.drop (i + 1) := by
  induction l generalizing i with
  | nil => simp at h
  | cons x l ih =>
    obtain ⟨h1, h2⟩ := Rising.tail hr
    unfold delF
    cases i with
    | zero => simp at h; subst h; rw [if_pos rfl]; rfl
    | succ i =>
      have hm : k ∈ l.map Prod.fst := List.mem_map.2 ⟨(k, v), List.mem_of_getElem? (by simpa using h), rfl⟩
      rw [if_neg (fun e => h2 (by rw [e]; exact hm)), ih h1 (by simpa using h)]; rfl
theorem map_ins {l : FS} {i : Nat} (k : ByteArray) (v : List UInt8) : (l.take i ++ (k, v) :: l.drop i).map Prod.fst = (l.map Prod.fst).take i ++ k :: (l.map Prod.fst).drop i := by
  rw [List.map_append, List.map_cons, List.map_take, List.map_drop]
theorem map_del {l : FS} {i : Nat} : (l.take i ++ l.drop (i + 1)).map Prod.fst = (l.map Prod.fst).take i ++ (l.map Prod.fst).drop (i + 1) := by
  rw [List.map_append, List.map_take, List.map_drop]
theorem map_set {l : FS} {i : Nat} {k : ByteArray} (v : List UInt8) (h : (l.map Prod.fst)[i]? = some k) : (l.set i (k, v)).map Prod.fst = l.map Prod.fst := by
  rw [List.map_set]
  apply List.ext_getElem?
  intro j
  rw [List.getElem?_set]
  split
  · next e => subst e; split
              · exact h.symm
              · next hh => rw [List.getElem?_eq_none (by omega)]
  · rfl
theorem get_names {l : FS} {i : Nat} {k : ByteArray} (h : (l.map Prod.fst)[i]? = some k) : ∃ v, l[i]? = some (k, v) := by
  rw [List.getElem?_map] at h
  cases hx : l[i]? with
  | none => rw [hx] at h; cases h
  | some x => rw [hx] at h; injection h with h; exact ⟨x.2, by rw [← h]⟩
theorem rise_set {k : ByteArray} {v : List UInt8} {l : FS} (hr : Rising ltS (l.map Prod.fst)) : Rising ltS ((setF k v l).map Prod.fst) := by
  obtain ⟨i, hat⟩ := At.ex ordS _ hr k
  rw [setF_at v hat]
  split
  · next h => rw [map_set v h]; exact hr
  · next h => rw [map_ins]; exact hr.ins ordS hat h
theorem rise_del {k : ByteArray} {l : FS} (hr : Rising ltS (l.map Prod.fst)) : Rising ltS ((delF k l).map Prod.fst) := by
  by_cases h : k ∈ l.map Prod.fst
  · obtain ⟨i, hi⟩ := List.mem_iff_getElem?.1 h
    obtain ⟨v, hv⟩ := get_names hi
    rw [delF_get hr hv, map_del]; exact hr.del i
  · rw [delF_none h]; exact hr
theorem setF_len (k : ByteArray) (v : List UInt8) (l : FS) : (setF k v l).length ≤ l.length + 1 := by
  induction l with
  | nil => simp [setF]
  | cons x l ih =>
    unfold setF
    split
    · simp; omega
    · split <;> simp
theorem delF_len (k : ByteArray) (l : FS) : (delF k l).length ≤ l.length := by
  induction l with
  | nil => simp [delF]
  | cons x l ih =>
    unfold delF
    split
    · simp
    · simp; exact ih
theorem mem_setF {k : ByteArray} {v : List UInt8} {l : FS} {x : ByteArray × List UInt8} (h : x ∈ setF k v l) : x = (k, v) ∨ x ∈ l := by
  induction l with
  | nil => simp [setF] at h; exact .inl h
  | cons y l ih =>
    unfold setF at h
    split at h
    · rcases List.mem_cons.1 h with h | h
      · exact .inr (by rw [h]; simp)
      · rcases ih h with h | h
        · exact .inl h
        · exact .inr (by simp [h])
    · split at h
      · rcases List.mem_cons.1 h with h | h
        · exact .inl h
        · exact .inr (by simp [h])
      · rcases List.mem_cons.1 h with h | h
        · exact .inl h
        · exact .inr h
theorem mem_delF {k : ByteArray} {l : FS} {x : ByteArray × List UInt8} (h : x ∈ delF k l) : x ∈ l := by
  induction l with
  | nil => simp [delF] at h
  | cons y l ih =>
    unfold delF at h
    split at h
    · simp [h]
    · rcases List.mem_cons.1 h with h | h
      · simp [h]
      · simp [ih h]
theorem getF_mem {k : ByteArray} {v : List UInt8} {l : FS} (h : getF k l = some v) : (k, v) ∈ l := by
  induction l with
  | nil => simp [getF] at h
  | cons y l ih =>
    unfold getF at h
    split at h
    · next e => injection h with h; subst e; subst h; simp
    · simp [ih h]
theorem totF_set (k : ByteArray) (v : List UInt8) (l : FS) (hr : Rising ltS (l.map Prod.fst)) : totF (setF k v l) + ((getF k l).getD []).length = totF l + v.length := by
  induction l with
  | nil => simp [setF, getF, totF]
  | cons x l ih =>
    obtain ⟨h1, h2⟩ := Rising.tail hr
    have ih := ih h1
    unfold setF getF
    by_cases hl : ltS x.1 k = true
    · have hne : x.1 ≠ k := fun e => by rw [e, ordS.irr] at hl; cases hl
      rw [if_pos hl, if_neg hne]
      unfold totF
      omega
    · rw [if_neg hl]
      by_cases he : x.1 = k
      · rw [if_pos he, if_pos he]
        simp [totF]; omega
      · rw [if_neg he, if_neg he]
        have hn : k ∉ l.map Prod.fst := fun hm => by
          have h3 := (List.pairwise_cons.1 hr).1 k hm
          exact hl h3
        rw [getF_none hn]
        simp [totF]; omega
theorem totF_del (k : ByteArray) (l : FS) : totF (delF k l) + ((getF k l).getD []).length = totF l := by
  induction l with
  | nil => simp [delF, getF, totF]
  | cons x l ih =>
    unfold delF getF
    by_cases he : x.1 = k
    · rw [if_pos he, if_pos he]; simp [totF]; omega
    · rw [if_neg he, if_neg he]; unfold totF; omega
theorem getF_len {k : ByteArray} {v : List UInt8} {l : FS} (h : getF k l = some v) : v.length ≤ totF l := by
  have := totF_del k l
  rw [h] at this
  simp at this; omega
end Go.Proofs.Ytbmgeomndfodpaa
