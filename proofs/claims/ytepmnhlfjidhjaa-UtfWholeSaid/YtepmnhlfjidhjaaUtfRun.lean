/-
  What is told byte by byte is what is told of all at once: bytes alone.
-/
import Derived.Test.YtepmnhlfjidhjaaUtfDec
namespace Go.Proofs.Ytepmnhlfjidhjaa
open Go.RowKit Go.Mem

theorem tailU_app (bs r : List UInt8) (n : Nat) : ∀ (f i lo hi : Nat), tailU bs n f i lo hi ≠ 0 → tailU (bs ++ r) n f i lo hi = tailU bs n f i lo hi := by
  intro f
  induction f with
  | zero => intro i lo hi _; rfl
  | succ f ih =>
    intro i lo hi h
    unfold tailU at h ⊢
    cases hb : bs[i]? with
    | none => rw [hb] at h; exact absurd rfl h
    | some b =>
      have hlt := (List.getElem?_eq_some_iff.1 hb).1
      rw [List.getElem?_append_left hlt, hb]
      rw [hb] at h
      simp only at h ⊢
      split
      · rfl
      · rename_i hc
        rw [if_neg hc] at h
        exact ih _ _ _ h
theorem startU_app {h : List UInt8} (r : List UInt8) (hh : ¬ (h = [] ∨ startU h = 0)) : startU (h ++ r) = startU h := by
  rw [not_or] at hh
  obtain ⟨h1, h2⟩ := hh
  have hp : 0 < h.length := List.length_pos_iff.2 h1
  unfold startU at h2 ⊢
  rw [List.getElem?_append_left hp]
  rw [List.getElem?_eq_getElem hp] at h2 ⊢
  simp only at h2 ⊢
  split
  · rfl
  · rename_i hc
    rw [if_neg hc] at h2
    exact tailU_app h r _ _ _ _ _ h2
theorem frontU_app {h : List UInt8} (r : List UInt8) (hh : ¬ (h = [] ∨ startU h = 0)) : frontU (h ++ r) = frontU h := by
  unfold frontU
  rw [startU_app r hh]
  split
  · rfl
  · rename_i hc
    have hp : 0 < h.length := List.length_pos_iff.2 (fun e => hh (.inl e))
    rcases startU_cases h hp with e | ⟨e, _⟩ | ⟨k, e, e1, e2, e3, _⟩
    · omega
    · omega
    · rw [e, Int.toNat_natCast, List.take_append_of_le_length e3]
/-- all at once: first what comes of a beginning -/
theorem allU_loop (h : List UInt8) (r : List UInt8) : allU (h ++ r) = (loopU h).2 ++ allU ((loopU h).1 ++ r) := by
  generalize hn : h.length = n
  induction n using Nat.strongRecOn generalizing h with
  | _ n ih =>
    by_cases hh : h = [] ∨ startU h = 0
    · rw [loopU_stop hh]; rfl
    · have hp : 0 < h.length := List.length_pos_iff.2 (fun e => hh (.inl e))
      have h1 := frontU_pos h
      have h2 := (frontU_le h hp).1
      rw [loopU_more hh, allU_cons (by rw [List.length_append]; omega), frontU_app r hh, List.drop_append_of_le_length h2, ih (h.drop (frontU h).2).length (by rw [List.length_drop]; omega) _ rfl]
      rfl
def szU (l : List (Nat × Nat)) : Nat := (l.map (·.2)).sum
theorem szU_app (l k : List (Nat × Nat)) : szU (l ++ k) = szU l + szU k := by simp [szU]
theorem loopU_size (h : List UInt8) : szU (loopU h).2 + (loopU h).1.length = h.length ∧ (loopU h).1 = h.drop (szU (loopU h).2) ∧ (loopU h).2.length ≤ szU (loopU h).2 := by
  generalize hn : h.length = n
  induction n using Nat.strongRecOn generalizing h with
  | _ n ih =>
    by_cases hh : h = [] ∨ startU h = 0
    · rw [loopU_stop hh]; simp [szU]; exact hn
    · have hp : 0 < h.length := List.length_pos_iff.2 (fun e => hh (.inl e))
      have h1 := frontU_pos h
      have h2 := (frontU_le h hp).1
      obtain ⟨i1, i2, i3⟩ := ih (h.drop (frontU h).2).length (by rw [List.length_drop]; omega) _ rfl
      rw [loopU_more hh]
      simp only
      have e : szU (frontU h :: (loopU (h.drop (frontU h).2)).2) = (frontU h).2 + szU (loopU (h.drop (frontU h).2)).2 := by simp [szU]
      rw [e, List.length_cons]
      rw [List.length_drop] at i1
      refine ⟨by omega, ?_, by omega⟩
      rw [i2, List.drop_drop]
theorem tailU_zero (bs : List UInt8) (n : Nat) (hn : 0 < n) : ∀ (f i lo hi : Nat), 128 ≤ lo → hi ≤ 191 → tailU bs n f i lo hi = 0 → ∀ j b, i ≤ j → bs[j]? = some b → 128 ≤ b.toNat ∧ b.toNat ≤ 191 := by
  intro f
  induction f with
  | zero => intro i lo hi _ _ h; unfold tailU at h; omega
  | succ f ih =>
    intro i lo hi hlo hhi h j b hij hb
    unfold tailU at h
    cases hi' : bs[i]? with
    | none =>
      have := List.getElem?_eq_none_iff.1 hi'
      have := (List.getElem?_eq_some_iff.1 hb).1
      omega
    | some c =>
      rw [hi'] at h
      simp only at h
      split at h
      · omega
      · rename_i hc
        rcases Nat.eq_or_lt_of_le hij with e | e
        · subst e
          rw [hi'] at hb
          injection hb with hb
          subst hb
          omega
        · exact ih (i + 1) 128 191 (by omega) (by omega) h j b e hb
theorem shapeU_mid (x : Nat) (h1 : 128 ≤ x) (h2 : x ≤ 191) : (shapeU x).1 = 0 := by
  unfold shapeU
  rw [if_neg (by omega), if_pos (by omega)]
theorem shapeU_lohi (x : Nat) (h : (shapeU x).1 ≠ 0) (h1 : (shapeU x).1 ≠ 1) : 128 ≤ (shapeU x).2.1 ∧ (shapeU x).2.2 ≤ 191 := by
  unfold shapeU at h h1 ⊢
  repeat' split
  all_goals simp_all
theorem allU_mid : ∀ (h : List UInt8), (∀ b ∈ h, 128 ≤ b.toNat ∧ b.toNat ≤ 191) → allU h = List.replicate h.length (65533, 1) := by
  intro h
  induction h with
  | nil => intro _; rw [allU_nil]; rfl
  | cons x h ih =>
    intro hb
    have h0 := hb x List.mem_cons_self
    have hs : startU (x :: h) = -1 := startU_none (by simp) (shapeU_mid _ h0.1 h0.2)
    have hf : frontU (x :: h) = (65533, 1) := by unfold frontU; rw [hs]; rfl
    rw [allU_cons (by simp), hf, List.length_cons, List.replicate_succ]
    congr 1
    exact ih fun b hb2 => hb b (List.mem_cons_of_mem _ hb2)
/-- what is held at the end: each byte a broken one -/
theorem allU_held (h : List UInt8) (hh : h = [] ∨ startU h = 0) : allU h = List.replicate h.length (65533, 1) := by
  cases h with
  | nil => rw [allU_nil]; rfl
  | cons x h =>
    have h0 : startU (x :: h) = 0 := by rcases hh with e | e; · cases e
                                        · exact e
    have hf : frontU (x :: h) = (65533, 1) := by unfold frontU; rw [h0]; rfl
    rw [allU_cons (by simp), hf, List.length_cons, List.replicate_succ]
    congr 1
    refine allU_mid h fun b hb => ?_
    obtain ⟨j, hj⟩ := List.mem_iff_getElem?.1 hb
    by_cases hz : (shapeU x.toNat).1 = 0
    · have := startU_none (bs := x :: h) (by simp) hz
      omega
    · have hs := startU_some (bs := x :: h) (by simp) hz
      rw [h0] at hs
      by_cases h1 : (shapeU x.toNat).1 = 1
      · simp only [List.getElem_cons_zero] at hs
        rw [h1] at hs
        simp [tailU] at hs
      · have hlh := shapeU_lohi _ hz h1
        exact tailU_zero (x :: h) _ (by simp only [List.getElem_cons_zero]; omega) _ 1 _ _ hlh.1 hlh.2 hs (j + 1) b (by omega) (by simpa using hj)
end Go.Proofs.Ytepmnhlfjidhjaa
