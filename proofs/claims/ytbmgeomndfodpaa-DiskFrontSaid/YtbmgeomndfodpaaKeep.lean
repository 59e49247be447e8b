/-
  A cell's fact kept over a call, a store, a new block.
-/
import Derived.Test.YtbmgeomndfodpaaObj
namespace Go.Mem
open Go.RowKit
section
variable {a b c w w' : World} {p g : Nat} {t t' e : TypeId} {cs cs' : List Value}
theorem keep_below {x : Addr} {v : Value} (hb : Below w.heap.size w w') (h : w.cell? x = some v) : w'.cell? x = some v := (hb.cell (p := x) (World.block_lt_of_cell? w x h)).trans h
theorem keep_set1 {x : Addr} {v u : Value} {g o : Nat} (h : w.cell? x = some v) (hne : x.block ≠ g) : (w.setCell ⟨g, o, none⟩ u).cell? x = some v := by
  rw [World.cell?_setCell_other _ _ _ _ (fun e => hne (by rw [← e]))]
  exact h
theorem keep_set2 {x : Addr} {v u u' : Value} {g o o' : Nat} (h : w.cell? x = some v) (hne : x.block ≠ g) : ((w.setCell ⟨g, o, none⟩ u).setCell ⟨g, o', none⟩ u').cell? x = some v := by
  rw [World.cell?_setCell_other _ _ _ _ (fun e => hne (by rw [← e])), World.cell?_setCell_other _ _ _ _ (fun e => hne (by rw [← e]))]
  exact h
theorem blk_after {C : Array Value} (hb : Below (w.alloc (.cells C t)).drew.heap.size (w.alloc (.cells C t)).drew w') : Blk w' w.heap.size t C.toList := ((Blk.new w t C).drew).below hb (by simp)
theorem keep_only {x : Addr} {v : Value} (o : w.grownBy w' (some p)) (h : w.cell? x = some v) (hne : x.block ≠ p) : w'.cell? x = some v :=
  (World.cell?_of_block (a := x) (o.block x.block (World.block_lt_of_cell? w x h) (fun e => hne (by injection e)))).trans h
theorem OwnB.ne_ {B sz b o : Nat} {k cap : Nat} {pre : List Value} (h : OwnB w B e sz (some ⟨b, o, none⟩) k cap pre) (hp : Blk w p t cs) (hne : e ≠ t) : b ≠ p := by
  rcases h.2.2 with ⟨h3, _⟩ | ⟨g, sp, hd, _, hb, _⟩
  · cases h3
  · obtain ⟨rfl, rfl⟩ : b = g ∧ o = 0 := by injection hd with e; injection e with e1 e2; exact ⟨e1, e2⟩
    exact hb.ne_ hp hne
end
end Go.Mem
