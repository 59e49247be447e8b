/-
  What a decoder's method leaves of other lists.
-/
import Derived.Test.YtepmnhlfjidhjaaUtfRuns
import Derived.Test.YtepmnhlfjidhjaaUtfMore
namespace Go.Proofs.Ytepmnhlfjidhjaa
open Go.RowKit Go.Mem

theorem OwnB.dfr {w w' : World} {B B2 p n c k cap sz : Nat} {L L' D : Option Addr} {h : List UInt8} {pre : List Value} (o : OwnB w B2 26 sz D k cap pre) (d : Dec w B p L n c h) (f : DFr p L L' w w') : OwnB w' B2 26 sz D k cap pre := by
  obtain ⟨h1, h2, h3⟩ := o
  refine ⟨h1, h2, ?_⟩
  rcases h3 with h3 | ⟨b, sp, hd, hg, hb, hc⟩
  · exact .inl h3
  · refine .inr ⟨b, sp, hd, hg, (f.block b hb.lt (hb.ne_ d.obj (by decide)) (fun e => ?_)).trans hb, hc⟩
    rcases d.own.2.2 with ⟨e2, _⟩ | ⟨g, sp2, e2, _, hb2, _⟩
    · rw [e] at e2; cases e2
    · rw [e] at e2; injection e2 with e2; injection e2 with e3; subst e3; exact (hb.ne_ hb2 (by decide)) rfl
theorem Sl.dfr {w w' : World} {p : Nat} {L L' A : Option Addr} {xs : List Value} (h : Sl w A xs) (f : DFr p L L' w w') (ha : ∀ b o s, A = some ⟨b, o, s⟩ → b < w.heap.size ∧ b ≠ p ∧ L ≠ some ⟨b, 0, none⟩) : Sl w' A xs := fun k v hv => by
  obtain ⟨b, o, e, hc⟩ := h k v hv
  obtain ⟨h1, h2, h3⟩ := ha b o none e
  exact ⟨b, o, e, (World.cell?_of_block (a := ⟨b, o + k, none⟩) (f.block b h1 h2 h3)).trans hc⟩

end Go.Proofs.Ytepmnhlfjidhjaa
