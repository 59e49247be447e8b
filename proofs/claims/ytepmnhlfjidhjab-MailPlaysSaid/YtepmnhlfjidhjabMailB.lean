/-
  Words for a box: a struct of a channel and a flag, and the channel's own block.
-/
import Derived.Test.YtepmnhlfjidhjabFr
import Derived.Conc.LoneSelect
import Derived.Conc.LoneSelectN
import Derived.KernelRfl
import Derived.Laws.Rows
namespace Go.Mem
open Go.RowKit Go.Conc

/-- box p over the channel c: so many places, what it holds, is it closed? -/
def BoxAt (w : World) (t : TypeId) (p c cap : Nat) (buf : List Value) (cl : Bool) : Prop :=
  Blk w p t [.chan (some c), .bool cl] ∧ (∃ s r, w.heap[c]? = some (.chan cap buf.toArray false s r false)) ∧ buf.length ≤ cap
section
variable {w w' : World} {t : TypeId} {p c cap : Nat} {buf : List Value} {cl : Bool} {bs : List Nat}
theorem chan_lt {o : Obj} (h : w.heap[c]? = some o) : c < w.heap.size := by
  rcases Nat.lt_or_ge c w.heap.size with hlt | hge
  · exact hlt
  · rw [Array.getElem?_eq_none hge] at h; cases h
theorem BoxAt.plt (h : BoxAt w t p c cap buf cl) : p < w.heap.size := h.1.lt
theorem BoxAt.clt (h : BoxAt w t p c cap buf cl) : c < w.heap.size := by obtain ⟨_, ⟨s, r, h2⟩, _⟩ := h; exact chan_lt h2
theorem BoxAt.ne (h : BoxAt w t p c cap buf cl) : p ≠ c := by
  intro e
  obtain ⟨h1, ⟨s, r, h2⟩, _⟩ := h
  subst e
  unfold Blk at h1
  rw [h1] at h2
  injection h2 with h2
  cases h2
theorem BoxAt.fr (h : BoxAt w t p c cap buf cl) (f : Fr bs w w') (hp : p ∉ bs) (hc : c ∉ bs) : BoxAt w' t p c cap buf cl := by
  have hcl := h.clt
  obtain ⟨h1, ⟨s, r, h2⟩, h3⟩ := h
  exact ⟨h1.fr f hp, ⟨s, r, (f.block c hcl hc).trans h2⟩, h3⟩
theorem BoxAt.below (h : BoxAt w t p c cap buf cl) (f : Below w.heap.size w w') : BoxAt w' t p c cap buf cl := h.fr (bs := []) (Fr.of_below f) (by simp) (by simp)
theorem fr_setChan (w : World) (c cap : Nat) (b : Array Value) (s r : Nat) : Fr [c] w (w.setChan c cap b false s r false) :=
  ⟨rfl, rfl, rfl, by simp [World.setChan], fun k hk hn => by simp only [World.setChan]; rw [Array.getElem?_setIfInBounds_ne (fun e => hn (by rw [e]; exact List.mem_singleton.2 rfl))]⟩
theorem BoxAt.chan (h : BoxAt w t p c cap buf cl) {s r : Nat} {b : List Value} (hb : b.length ≤ cap) {a : Array Value} (ha : a = b.toArray) : BoxAt (w.setChan c cap a false s r false) t p c cap b cl := by
  have hcl := h.clt
  have hne := h.ne
  subst ha
  refine ⟨h.1.fr (fr_setChan _ _ _ _ _ _) (by simpa using hne), ⟨s, r, heap_setChan _ _ _ _ _ _ _ _ hcl⟩, hb⟩
theorem BoxAt.cell0 (h : BoxAt w t p c cap buf cl) : w.cell? ⟨p, 0, none⟩ = some (.chan (some c)) := h.1.cell 0
theorem BoxAt.cell1 (h : BoxAt w t p c cap buf cl) : w.cell? ⟨p, 1, none⟩ = some (.bool cl) := h.1.cell 1
end
end Go.Mem
