/-
  Two decoders beside each other.
-/
import Derived.Test.YtepmnhlfjidhjaaUtfDfr
namespace Go.Proofs.Ytepmnhlfjidhjaa
open Go.RowKit Go.Mem

theorem loopU_end (h : List UInt8) : (loopU h).1 = [] ∨ startU (loopU h).1 = 0 := by
  generalize hn : h.length = n
  induction n using Nat.strongRecOn generalizing h with
  | _ n ih =>
    by_cases hh : h = [] ∨ startU h = 0
    · rw [loopU_stop hh]; exact hh
    · rw [loopU_more hh]
      have h1 := frontU_pos h
      have h2 : 0 < h.length := List.length_pos_iff.2 (fun e => hh (.inl e))
      exact ih (h.drop (frontU h).2).length (by rw [List.length_drop]; omega) _ rfl
/-- two lists in blocks of their own -/
def ApsU (D E : Option Addr) : Prop := ∀ g, D = some ⟨g, 0, none⟩ → E ≠ some ⟨g, 0, none⟩
theorem ApsU.symm {D E : Option Addr} (h : ApsU D E) : ApsU E D := fun g h1 h2 => h g h2 h1
theorem ApsU.turn {p : Nat} {L L' L2 : Option Addr} {w w' : World} (ha : ApsU L L2) (f : DFr p L L' w w') (h2 : ∀ g, L2 = some ⟨g, 0, none⟩ → g < w.heap.size) : ApsU L' L2 := fun g h1 h3 => by
  rcases f.lies with e | ⟨k, e, hk⟩
  · rw [e] at h1; exact ha g h1 h3
  · rw [e] at h1
    injection h1 with h1
    injection h1 with h4
    have := h2 g h3
    omega
theorem Dec.other2 {w w' : World} {B B2 p p2 n c n2 c2 : Nat} {L L' L2 : Option Addr} {h h2 : List UInt8} (d2 : Dec w B2 p2 L2 n2 c2 h2) (d : Dec w B p L n c h) (f : DFr p L L' w w') (hne : p2 ≠ p) (ha : ApsU L L2) : Dec w' B2 p2 L2 n2 c2 h2 :=
  ⟨(f.block p2 d2.obj.lt hne (fun e => by
    rcases d.own.2.2 with ⟨e2, _⟩ | ⟨g, sp, e2, _, hb, _⟩
    · rw [e] at e2; cases e2
    · rw [e] at e2; injection e2 with e2; injection e2 with e3 _; subst e3; exact (hb.ne_ d2.obj (by decide)) rfl)).trans d2.obj, by
    obtain ⟨h1, h2, h3⟩ := d2.own
    refine ⟨h1, h2, ?_⟩
    rcases h3 with h3 | ⟨g, sp, hd, hg, hb, hc⟩
    · exact .inl h3
    · exact .inr ⟨g, sp, hd, hg, (f.block g hb.lt (hb.ne_ d.obj (by decide)) (fun e => ha g e hd)).trans hb, hc⟩, d2.len, d2.low⟩
end Go.Proofs.Ytepmnhlfjidhjaa
