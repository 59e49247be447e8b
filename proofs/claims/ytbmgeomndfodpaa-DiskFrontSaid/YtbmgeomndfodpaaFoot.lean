/-
  Words: what a call leaves as it was (a footprint); a place in rising keys.
-/
import Derived.Test.YtbmgeomndfodpaaTabLib2
import Derived.Test.YtbmgeomndfodpaaFr
import Derived.Test.YtbmgeomndfodpaaTabW
import Derived.Test.YtbmgeomndfodpaaTabW2
namespace Go.Tab
theorem At.of_get {α : Type} {lt : α → α → Bool} (ho : Ord lt) {ks : List α} (hr : Rising lt ks) {i : Nat} {k : α} (h : ks[i]? = some k) : At lt ks k i := by
  refine ⟨Nat.le_of_lt (List.getElem?_eq_some_iff.1 h).1, fun t x ht hx => hr.get ht hx h, fun t x ht hx => ?_⟩
  rcases Nat.lt_or_eq_of_le ht with h1 | rfl
  · cases hc : lt x k with
    | false => rfl
    | true => have := ho.tr _ _ _ (hr.get h1 h hx) hc; rw [ho.irr] at this; cases this
  · rw [h] at hx; injection hx with hx; subst hx; exact ho.irr _
end Go.Tab
namespace Go.Proofs.Ytbmgeomndfodpaa
open Go.RowKit Go.Mem Go.Proofs
/-- what is not of S is as it was; what S' has more is new -/
structure Fp (w w' : World) (S S' : Nat → Prop) : Prop where
  sz : w.heap.size ≤ w'.heap.size
  k : ∀ g, g < w.heap.size → ¬ S g → w'.heap[g]? = w.heap[g]?
  n : ∀ g, g < w.heap.size → S' g → S g
theorem Fp.refl (w : World) (S : Nat → Prop) : Fp w w S S := ⟨Nat.le_refl _, fun _ _ _ => rfl, fun _ _ h => h⟩
theorem Fp.of_below {w w' : World} (h : Below w.heap.size w w') (S : Nat → Prop) : Fp w w' S S := ⟨h.size, fun g hg _ => h.block g hg, fun _ _ h => h⟩
theorem Fp.trans {w w' w'' : World} {S S' S'' : Nat → Prop} (h : Fp w w' S S') (k : Fp w' w'' S' S'') : Fp w w'' S S'' :=
  ⟨Nat.le_trans h.sz k.sz, fun g hg hs => (k.k g (Nat.lt_of_lt_of_le hg h.sz) (fun e => hs (h.n g hg e))).trans (h.k g hg hs), fun g hg hs => h.n g hg (k.n g (Nat.lt_of_lt_of_le hg h.sz) hs)⟩
theorem own_blkN {w : World} {B sz : Nat} {e : TypeId} {g n c : Nat} {xs : List Value} (h : OwnB w B e sz (some ⟨g, 0, none⟩) n c xs) : ∃ cs, Blk w g e cs := by
  rcases h.2.2 with ⟨h4, _⟩ | ⟨g', sp, hd, _, hb, _⟩
  · cases h4
  · injection hd with hd; injection hd with hd; subst hd; exact ⟨_, hb⟩
theorem own_keepN {w w' : World} {B sz : Nat} {e : TypeId} {D : Option Addr} {n c : Nat} {xs : List Value} (h : OwnB w B e sz D n c xs) (hk : ∀ g, D = some ⟨g, 0, none⟩ → w'.heap[g]? = w.heap[g]?) : OwnB w' B e sz D n c xs := by
  obtain ⟨h1, h2, h3⟩ := h
  refine ⟨h1, h2, ?_⟩
  rcases h3 with h3 | ⟨g, sp, hd, hg, hb, hc⟩
  · exact .inl h3
  · exact .inr ⟨g, sp, hd, hg, (hk g hd).trans hb, hc⟩
end Go.Proofs.Ytbmgeomndfodpaa
