/-
  A call that turns some blocks, and makes new ones.
-/
import Derived.Test.YtbmgeomndfodpaaKeep
import Derived.Test.YtbmgeomndfodpaaApp2
namespace Go.Mem
open Go.RowKit

/-- but for the blocks bs, and what is new, nothing has turned -/
structure Fr (bs : List Nat) (w w' : World) : Prop where
  os : w'.os = w.os
  tape : w'.tape = w.tape
  output : w'.output = w.output
  size : w.heap.size ≤ w'.heap.size
  block : ∀ k, k < w.heap.size → k ∉ bs → w'.heap[k]? = w.heap[k]?
section
variable {bs bs' : List Nat} {a b c w w' : World} {p g : Nat} {t t' e : TypeId} {cs cs' : List Value}
theorem Fr.refl (bs : List Nat) (w : World) : Fr bs w w := ⟨rfl, rfl, rfl, Nat.le_refl _, fun _ _ _ => rfl⟩
theorem Fr.trans (h : Fr bs a b) (k : Fr bs b c) : Fr bs a c := ⟨k.os.trans h.os, k.tape.trans h.tape, k.output.trans h.output, Nat.le_trans h.size k.size, fun i hi hn => (k.block i (Nat.lt_of_lt_of_le hi h.size) hn).trans (h.block i hi hn)⟩
theorem Fr.more (h : Fr bs a b) (hs : ∀ k, k ∈ bs → k ∈ bs') : Fr bs' a b := ⟨h.os, h.tape, h.output, h.size, fun i hi hn => h.block i hi (fun hm => hn (hs i hm))⟩
theorem Fr.of_below (h : Below w.heap.size w w') : Fr bs w w' := ⟨h.os, h.tape, h.output, h.size, fun i hi _ => h.block i hi⟩
theorem Fr.of_only (h : w.grownBy w' (some p)) (hp : p ∈ bs) : Fr bs w w' := ⟨h.os, h.tape, h.output, h.size, fun i hi hn => h.block i hi (fun e => hn (by injection e with e; rw [e]; exact hp))⟩
theorem Fr.drewN (h : Fr bs a w) (n : Nat) : Fr bs a (w.drewN n) := ⟨h.os, h.tape, h.output, h.size, h.block⟩
theorem Fr.drew (h : Fr bs a w) : Fr bs a w.drew := ⟨h.os, h.tape, h.output, h.size, h.block⟩
theorem Fr.undrew {n : Nat} (h : Fr bs (a.drewN n) w) : Fr bs a w := ⟨h.os, h.tape, h.output, h.size, h.block⟩
theorem Fr.set (h : Fr bs a w) {p o : Nat} (hp : p ∈ bs) (v : Value) : Fr bs a (w.setCell ⟨p, o, none⟩ v) := h.trans (Fr.of_only (grown_setCell w p o v 0) hp)
theorem Fr.alloc (h : Fr bs a w) (o : Obj) : Fr bs a (w.alloc o) := h.trans (Fr.of_below ((Below.refl _ _).alloc (Nat.le_refl _) o))
theorem Fr.below {B : Nat} (h : Fr bs w w') (hB : B ≤ w.heap.size) (hb : ∀ k, k ∈ bs → B ≤ k) : Below B w w' := ⟨h.os, h.tape, h.output, h.size, fun i hi => h.block i (Nat.lt_of_lt_of_le hi hB) (fun hm => Nat.lt_irrefl _ (Nat.lt_of_lt_of_le hi (hb i hm)))⟩
theorem below_fr {B : Nat} (h : Below B a w) (k : Fr bs w w') (hB : B ≤ w.heap.size) (hb : ∀ k, k ∈ bs → B ≤ k) : Below B a w' := h.trans (k.below hB hb)
theorem Blk.fr (h : Blk w g t cs) (k : Fr bs w w') (hg : g ∉ bs) : Blk w' g t cs := (k.block g h.lt hg).trans h
theorem OwnB.fr {B sz : Nat} {D : Option Addr} {k cap : Nat} {pre : List Value} (h : OwnB w B e sz D k cap pre) (f : Fr bs w w') (hg : ∀ g, D = some ⟨g, 0, none⟩ → g ∉ bs) : OwnB w' B e sz D k cap pre := by
  obtain ⟨h1, h2, h3⟩ := h
  refine ⟨h1, h2, ?_⟩
  rcases h3 with h3 | ⟨g, sp, hd, hgB, hb, hc⟩
  · exact .inl h3
  · exact .inr ⟨g, sp, hd, hgB, hb.fr f (hg g hd), hc⟩
theorem only_fr (h : Fr [p] w w') : w.grownBy w' (some p) := ⟨h.os, h.tape, h.output, h.size, fun i hi hne => h.block i hi (fun hm => hne (by rw [List.mem_singleton.1 hm]))⟩
/-- an append's frame -/
theorem Kept.fr {D D' : Option Addr} (h : Kept w w' D D') (hb : Below 0 w w') (hD : ∀ g, D = some ⟨g, 0, none⟩ → g ∈ bs) (hs : w.heap.size ≤ w'.heap.size) : Fr bs w w' := ⟨hb.os, hb.tape, hb.output, hs, fun i hi hn => h.1 i hi (fun e => hn (hD i e))⟩
theorem keep_fr {x : Addr} {v : Value} (f : Fr bs w w') (h : w.cell? x = some v) (hn : x.block ∉ bs) : w'.cell? x = some v := (World.cell?_of_block (a := x) (f.block x.block (World.block_lt_of_cell? w x h) hn)).trans h
theorem mod_ne {f a b r : Nat} (h : a < b) (hb : b < a + r) : (f + a) % r ≠ (f + b) % r := fun e => by
  have h1 := Nat.sub_mod_eq_zero_of_mod_eq e.symm
  rw [Nat.add_sub_add_left, Nat.mod_eq_of_lt (by omega)] at h1
  omega
end
end Go.Mem
