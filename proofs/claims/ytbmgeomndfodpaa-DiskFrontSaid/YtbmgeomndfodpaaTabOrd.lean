/-
  A rising list with one more, and with one less. Nothing of the program stands in it.
-/
import Derived.Test.YtbmgeomndfodpaaTabLib2
namespace Go.Tab
variable {α : Type} {lt : α → α → Bool}
theorem Rising.ins (ho : Ord lt) {ks : List α} (hr : Rising lt ks) {x : α} {i : Nat} (hat : At lt ks x i) (hf : ks[i]? ≠ some x) : Rising lt (ks.take i ++ x :: ks.drop i) := by
  have h1 : (ks.take i).Pairwise fun a b => lt a b = true := hr.sublist (List.take_sublist _ _)
  have h2 : (ks.drop i).Pairwise fun a b => lt a b = true := hr.sublist (List.drop_sublist _ _)
  have hlo : ∀ a ∈ ks.take i, lt a x = true := fun a ha => by
    obtain ⟨t, ht⟩ := List.mem_iff_getElem?.1 ha
    have hti : t < i := by have := (List.getElem?_eq_some_iff.1 ht).1; simp at this; omega
    rw [List.getElem?_take, if_pos hti] at ht
    exact hat.2.1 t a hti ht
  have hhi : ∀ b ∈ ks.drop i, lt x b = true := fun b hb => by
    obtain ⟨t, ht⟩ := List.mem_iff_getElem?.1 hb
    rw [List.getElem?_drop] at ht
    have h3 := hat.2.2 (i + t) b (by omega) ht
    cases hx : lt x b with
    | true => rfl
    | false =>
      exfalso
      have he := ho.tot _ _ h3 hx
      subst he
      have hm : b ∈ ks := List.mem_of_getElem? ht
      exact hf ((hat.mem ho hr).1 hm)
  refine List.pairwise_append.2 ⟨h1, List.pairwise_cons.2 ⟨hhi, h2⟩, fun a ha b hb => ?_⟩
  rcases List.mem_cons.1 hb with rfl | hb
  · exact hlo a ha
  · exact ho.tr _ _ _ (hlo a ha) (hhi b hb)
theorem Rising.del {ks : List α} (hr : Rising lt ks) (i : Nat) : Rising lt (ks.take i ++ ks.drop (i + 1)) := by
  refine hr.sublist ?_
  have : (ks.take i ++ ks.drop (i + 1)).Sublist (ks.take i ++ ks.drop i) := List.Sublist.append (List.Sublist.refl _) (by
    have h : ks.drop (i + 1) = (ks.drop i).drop 1 := by rw [List.drop_drop]
    rw [h]; exact List.drop_sublist _ _)
  rwa [List.take_append_drop] at this
end Go.Tab
