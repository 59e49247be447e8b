/-
  Set and Del on a table of numbers, whatever it holds: the keys still rise.
-/
import Derived.Test.YtepmnhlfjidhjaaTabII
namespace Go.Tab
variable {α : Type} {lt : α → α → Bool}
theorem Rising.ins (ho : Ord lt) {ks : List α} (hr : Rising lt ks) {x : α} {i : Nat} (hat : At lt ks x i) (hf : ks[i]? ≠ some x) : Rising lt (ks.take i ++ x :: ks.drop i) := by
  have h1 : (ks.take i).Pairwise fun a b => lt a b = true := hr.sublist (List.take_sublist _ _)
  have h2 : (ks.drop i).Pairwise fun a b => lt a b = true := hr.sublist (List.drop_sublist _ _)
  have hlo : ∀ a ∈ ks.take i, lt a x = true := fun a ha => by
    obtain ⟨t, ht⟩ := List.mem_iff_getElem?.1 ha
    have hti : t < i := by have := (List.getElem?_eq_some_iff.1 ht).1; simp at this; omega
    rw [List.getElem?_take, if_pos hti] at ht
    exact hat.2.1 t a hti ht
  have hhi : ∀ b ∈ ks.drop i, lt x b = true := fun b hb => by
    obtain ⟨t, ht⟩ := List.mem_iff_getElem?.1 hb
    rw [List.getElem?_drop] at ht
    have h3 := hat.2.2 (i + t) b (by omega) ht
    cases hx : lt x b with
    | true => rfl
    | false =>
      exfalso
      have he := ho.tot _ _ h3 hx
      subst he
      have hm : b ∈ ks := List.mem_of_getElem? ht
      exact hf ((hat.mem ho hr).1 hm)
  refine List.pairwise_append.2 ⟨h1, List.pairwise_cons.2 ⟨hhi, h2⟩, fun a ha b hb => ?_⟩
  rcases List.mem_cons.1 hb with rfl | hb
  · exact hlo a ha
  · exact ho.tr _ _ _ (hlo a ha) (hhi b hb)
theorem Rising.del {ks : List α} (hr : Rising lt ks) (i : Nat) : Rising lt (ks.take i ++ ks.drop (i + 1)) := by
  refine hr.sublist ?_
  have : (ks.take i ++ ks.drop (i + 1)).Sublist (ks.take i ++ ks.drop i) := List.Sublist.append (List.Sublist.refl _) (by
    have h : ks.drop (i + 1) = (ks.drop i).drop 1 := by rw [List.drop_drop]
    rw [h]; exact List.drop_sublist _ _)
  rwa [List.take_append_drop] at this
theorem At.self (ho : Ord lt) {ks : List α} (hr : Rising lt ks) {x : α} {i : Nat} (h : ks[i]? = some x) : At lt ks x i := by
  refine ⟨Nat.le_of_lt (List.getElem?_eq_some_iff.1 h).1, fun t k ht hk => hr.get ht hk h, fun t k ht hk => ?_⟩
  rcases Nat.lt_or_ge i t with h1 | h1
  · have h2 := hr.get h1 h hk
    cases h3 : lt k x with
    | false => rfl
    | true => have := ho.tr _ _ _ h2 h3; rw [ho.irr] at this; cases this
  · have : t = i := by omega
    subst this
    rw [h] at hk; injection hk with hk; subst hk
    exact ho.irr _
theorem At.count {ks : List α} {x : α} {i : Nat} (hat : At lt ks x i) : ks.countP (fun k => lt k x) = i := by
  have e : ks.countP (fun k => lt k x) = (ks.take i).countP (fun k => lt k x) + (ks.drop i).countP (fun k => lt k x) := by rw [← List.countP_append, List.take_append_drop]
  have e1 : (ks.take i).countP (fun k => lt k x) = i := by
    have : (ks.take i).countP (fun k => lt k x) = (ks.take i).length := by
      rw [List.countP_eq_length]
      intro a ha
      obtain ⟨t, htt⟩ := List.mem_iff_getElem?.1 ha
      have hti : t < i := by have := (List.getElem?_eq_some_iff.1 htt).1; simp at this; omega
      rw [List.getElem?_take, if_pos hti] at htt
      exact hat.2.1 t a hti htt
    rw [this, List.length_take]; have := hat.1; omega
  have e2 : (ks.drop i).countP (fun k => lt k x) = 0 := by
    rw [List.countP_eq_zero]
    intro a ha
    obtain ⟨t, htt⟩ := List.mem_iff_getElem?.1 ha
    rw [List.getElem?_drop] at htt
    rw [hat.2.2 (i + t) a (by omega) htt]; simp
  omega
end Go.Tab
namespace Go.Proofs.Ytepmnhlfjidhjaa
open Go.RowKit Go.Mem Go.Proofs

/-- a table of numbers whose keys rise -/
def Ri (w : World) (B p n : Nat) (ks : List Int) (vs : List Int) : Prop := ∃ DK DV, TbII w B p DK DV ks vs ∧ Tab.Rising ltI ks ∧ ks.length ≤ n ∧ ks.length = vs.length
theorem Ri.below {w w' : World} {B p n : Nat} {ks vs : List Int} (h : Ri w B p n ks vs) (hb : Below w.heap.size w w') : Ri w' B p n ks vs := by
  obtain ⟨a, b, h1, h2⟩ := h; exact ⟨a, b, h1.below hb, h2⟩
theorem Ri.drewN {w : World} {B p n : Nat} {ks vs : List Int} (h : Ri w B p n ks vs) (q : Nat) : Ri (w.drewN q) B p n ks vs := by
  obtain ⟨a, b, h1, h2⟩ := h; exact ⟨a, b, h1.drewN q, h2⟩
def RiEnds (w : World) (B p n : Nat) (e : Ending) (w' : World) : Prop := ∃ b ks vs, e = .returned (.bool b) ∧ Ri w' B p n ks vs ∧ Below B w w'
theorem set_ri (B p n : Nat) (ks vs : List Int) (k v : Int) (w : World) (h : Ri w B p n ks vs) (hn : n ≤ 100000) (hB : B ≤ w.heap.size) : Calls Try.prog 67 #[.pointer (some ⟨p, 0, none⟩), .int .i64 k, .int .i64 v] w (RiEnds w B p (n + 1)) := by
  obtain ⟨DK, DV, h1, h2, h3, h4⟩ := h
  obtain ⟨i, hat⟩ := Tab.At.ex ordI ks h2 k
  by_cases hf : ks[i]? = some k
  · refine (setII_old B p DK DV ks vs k v i w h1 h2 hat (by omega) hf).mono ?_
    unfold TEndsII
    rintro e w' ⟨rfl, D', V', t, _, _, _, b⟩
    exact ⟨_, _, _, rfl, ⟨D', V', t, h2, by omega, by rw [List.length_set]; exact h4⟩, b⟩
  · refine (setII_new B p DK DV ks vs k v i w h1 h2 hat (by omega) hf hB).mono ?_
    unfold TEndsII
    rintro e w' ⟨rfl, D', V', t, _, _, _, b⟩
    have := hat.1
    exact ⟨_, _, _, rfl, ⟨D', V', t, h2.ins ordI hat hf, by simp; omega, by simp; omega⟩, b⟩
theorem del_ri (B p n : Nat) (ks vs : List Int) (k : Int) (w : World) (h : Ri w B p n ks vs) (hn : n ≤ 100000) (hB : B ≤ w.heap.size) : Calls Try.prog 66 #[.pointer (some ⟨p, 0, none⟩), .int .i64 k] w (RiEnds w B p (n + 1)) := by
  obtain ⟨DK, DV, h1, h2, h3, h4⟩ := h
  obtain ⟨i, hat⟩ := Tab.At.ex ordI ks h2 k
  by_cases hf : ks[i]? = some k
  · refine (delII_yes B p DK DV ks vs k i w h1 h2 hat (by omega) hf hB).mono ?_
    unfold TEndsII
    rintro e w' ⟨rfl, D', V', t, _, _, _, b⟩
    have := (List.getElem?_eq_some_iff.1 hf).1
    exact ⟨_, _, _, rfl, ⟨D', V', t, h2.del i, by simp; omega, by simp; omega⟩, b⟩
  · refine (delII_no B p DK DV ks vs k i w h1 h2 hat (by omega) hf).mono ?_
    rintro e w' ⟨rfl, q, rfl⟩
    exact ⟨_, _, _, rfl, ⟨DK, DV, h1.drewN q, h2, by omega, h4⟩, below_drewN (Below.refl _ _) q⟩
end Go.Proofs.Ytepmnhlfjidhjaa
