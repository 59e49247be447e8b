/-
  The contract of yard.New.
-/
import Derived.Test.YtbmgeomndfodpaaYardTold
namespace Go.Proofs.Ytbmgeomndfodpaa
open Go.RowKit Go.Mem Go.Proofs

/-- what New ends in: a block of two tables, without keys -/
def NewEndsY (w : World) (e : Ending) (w' : World) : Prop := ∃ y pF pT, e = .returned (.pointer (some ⟨y, 0, none⟩)) ∧ w.heap.size ≤ pF ∧ pF < pT ∧ pT < y ∧ Blk w' y 95 [.pointer (some ⟨pF, 0, none⟩), .pointer (some ⟨pT, 0, none⟩)] ∧ TbIF w' w.heap.size pF none none [] [] ∧ TbII w' w.heap.size pT none none [] [] ∧ Below w.heap.size w w'
set_option maxRecDepth 100000 in
theorem newY_calls (w : World) : Calls Try.prog 14 #[] w (NewEndsY w) := by
  have HA := Lib.hid (newIF_calls w)
  unfold NewEndsY
  go_enter Try.func14, Try.ntmps14
  go_wp2_with fail
  refine HA.out.mono ?_
  rintro e w1 ⟨rfl, t1, b1⟩
  have HI := Lib.hid (newII_calls w1)
  have hs1 : w.heap.size < w1.heap.size := by obtain ⟨_, _, h, _⟩ := t1; exact h.b.lt
  have HT := Lib.hid t1
  have HB := Lib.hid b1
  have HS := Lib.hid hs1
  clear t1 b1 HA hs1
  go_wp2_with fail
  refine HI.out.mono ?_
  rintro e w2 ⟨rfl, t2, b2⟩
  have hs2 : w1.heap.size < w2.heap.size := by obtain ⟨_, _, h, _⟩ := t2; exact h.b.lt
  have b3 : Below w.heap.size w w2 := HB.out.trans (b2.mono HB.out.size)
  have HFin : Hid (∃ y pF pT, (.returned (.pointer (some ⟨w2.heap.size, 0, none⟩)) : Ending) = .returned (.pointer (some ⟨y, 0, none⟩)) ∧ w.heap.size ≤ pF ∧ pF < pT ∧ pT < y ∧ Blk (w2.alloc (.cells #[.pointer (some ⟨w.heap.size, 0, none⟩), .pointer (some ⟨w1.heap.size, 0, none⟩)] 95)) y 95 [.pointer (some ⟨pF, 0, none⟩), .pointer (some ⟨pT, 0, none⟩)] ∧ TbIF (w2.alloc (.cells #[.pointer (some ⟨w.heap.size, 0, none⟩), .pointer (some ⟨w1.heap.size, 0, none⟩)] 95)) w.heap.size pF none none [] [] ∧ TbII (w2.alloc (.cells #[.pointer (some ⟨w.heap.size, 0, none⟩), .pointer (some ⟨w1.heap.size, 0, none⟩)] 95)) w.heap.size pT none none [] [] ∧ Below w.heap.size w (w2.alloc (.cells #[.pointer (some ⟨w.heap.size, 0, none⟩), .pointer (some ⟨w1.heap.size, 0, none⟩)] 95))) := (show _ from
    ⟨w2.heap.size, w.heap.size, w1.heap.size, rfl, Nat.le_refl _, HS.out, hs2, Blk.new w2 _ #[_, _], (HT.out.below b2).below ((Below.refl _ _).alloc (Nat.le_refl _) _), (t2.mono HB.out.size).below ((Below.refl _ _).alloc (Nat.le_refl _) _), b3.alloc b3.size _⟩)
  clear HI HT HB HS t2 b2 hs2 b3
  go_wp2_with fail
  go_ret
  exact HFin.out
end Go.Proofs.Ytbmgeomndfodpaa
