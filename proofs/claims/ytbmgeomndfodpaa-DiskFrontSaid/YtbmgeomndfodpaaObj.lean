/-
  More words for memory: a call that turns one block alone, and what is new.
-/
import Derived.Test.YtbmgeomndfodpaaApp
namespace Go.Mem
open Go.RowKit
section
variable {a b c w w' : World} {p g : Nat} {t t' e : TypeId} {cs cs' : List Value}
theorem only_refl (w : World) (p : Nat) : w.grownBy w (some p) := World.grownBy.refl _ _
theorem only_trans (h : a.grownBy b (some p)) (k : b.grownBy c (some p)) : a.grownBy c (some p) :=
  ⟨k.os.trans h.os, k.tape.trans h.tape, k.output.trans h.output, Nat.le_trans h.size k.size, fun i hi hne => (k.block i (Nat.lt_of_lt_of_le hi h.size) hne).trans (h.block i hi hne)⟩
theorem only_drewN (h : a.grownBy w (some p)) (n : Nat) : a.grownBy (w.drewN n) (some p) := ⟨h.os, h.tape, h.output, h.size, h.block⟩
theorem only_drew (h : a.grownBy w (some p)) : a.grownBy w.drew (some p) := ⟨h.os, h.tape, h.output, h.size, h.block⟩
theorem only_alloc (h : a.grownBy w (some p)) (o : Obj) : a.grownBy (w.alloc o) (some p) :=
  ⟨h.os, h.tape, h.output, Nat.le_trans h.size (by simp), fun i hi hne => (Below.heap_alloc w o i (Nat.lt_of_lt_of_le hi h.size)).trans (h.block i hi hne)⟩
theorem only_set (h : a.grownBy w (some p)) (o : Nat) (v : Value) : a.grownBy (w.setCell ⟨p, o, none⟩ v) (some p) := only_trans h (grown_setCell w p o v 0)
theorem only_q (h : Q a b) : a.grownBy b (some p) := ⟨h.os, h.tape, h.output, by rw [h.size]; exact Nat.le_refl _, fun _ _ _ => by rw [h.heap]⟩
theorem only_below (h : a.grownBy b (some p)) (k : Below a.heap.size b c) : a.grownBy c (some p) :=
  ⟨k.os.trans h.os, k.tape.trans h.tape, k.output.trans h.output, Nat.le_trans h.size k.size, fun i hi hne => (k.block i hi).trans (h.block i hi hne)⟩
theorem Blk.only (h : Blk w g t cs) (o : w.grownBy w' (some p)) (hne : g ≠ p) : Blk w' g t cs := (o.block g h.lt (fun e => hne (by injection e))).trans h
theorem Blk.ne_ (h : Blk w g t cs) (h' : Blk w p t' cs') (hne : t ≠ t') : g ≠ p := by
  rintro rfl
  unfold Blk at h h'
  rw [h] at h'
  injection h' with h'
  injection h' with _ ht
  exact hne ht
theorem below_only {B : Nat} (h : Below B a w) (hg : w.grownBy w' (some p)) (hB : B ≤ w.heap.size) (hb : B ≤ p) : Below B a w' := below_grown h hg hB hb
/-- a slice of the call's own lies in no block of another element type -/
theorem OwnB.only {B sz : Nat} {D : Option Addr} {k cap : Nat} {pre : List Value} (h : OwnB w B e sz D k cap pre) (hp : Blk w p t cs) (hne : e ≠ t) (o : w.grownBy w' (some p)) : OwnB w' B e sz D k cap pre := by
  obtain ⟨h1, h2, h3⟩ := h
  refine ⟨h1, h2, ?_⟩
  rcases h3 with h3 | ⟨g, sp, hd, hg, hb, hc⟩
  · exact .inl h3
  · exact .inr ⟨g, sp, hd, hg, hb.only o (hb.ne_ hp hne), hc⟩
/-- what came in stays, whatever the call's own blocks become -/
theorem Sl.of_below {A : Option Addr} {xs : List Value} (h : Sl a A xs) (hb : Below a.heap.size a w) : Sl w A xs := h.below hb
end
end Go.Mem
