/-
  Words for memory: a slice value that reads as a list of cells; a byte's cell. Nothing of the program stands in it.
-/
import Derived.Test.YtbmgeomndfodpaaRows
import Derived.WalkKit
import Derived.Deep.Draws
import Derived.Lib.Hide
import Derived.Lib.SlBytesConst
namespace Go.Mem
open Go.RowKit

/-- a byte as a cell -/
def B8 (x : UInt8) : Value := .int .u8 (x.toNat : Int)
theorem B8_eq (x : UInt8) : B8 x = .int .u8 (x.toNat : Int) := rfl

/-- the slice address A leads to the cells xs -/
def Sl (w : World) (A : Option Addr) (xs : List Value) : Prop :=
  ∀ k v, xs[k]? = some v → ∃ b o, A = some ⟨b, o, none⟩ ∧ w.cell? ⟨b, o + k, none⟩ = some v

theorem lt_of_cell {w : World} {a : Addr} {v : Value} (h : w.cell? a = some v) : a.block < w.heap.size := by
  rcases Nat.lt_or_ge a.block w.heap.size with hlt | hge
  · exact hlt
  · have : w.heap[a.block]? = none := Array.getElem?_eq_none hge
    simp [World.cell?, this] at h

section
variable {w w' : World} {A : Option Addr} {xs ys : List Value}
theorem Sl.nil : Sl w A [] := fun k v h => by simp at h
theorem Sl.at_ (h : Sl w A xs) {k : Nat} (hk : k < xs.length) : ∃ b o, A = some ⟨b, o, none⟩ ∧ w.cell? ⟨b, o + k, none⟩ = some xs[k] :=
  h k _ (List.getElem?_eq_getElem hk)
theorem Sl.keep (h : Sl w A xs) (hk : ∀ b o, b < w.heap.size → w'.cell? ⟨b, o, none⟩ = w.cell? ⟨b, o, none⟩) : Sl w' A xs := fun k v hv => by
  obtain ⟨b, o, e, hc⟩ := h k v hv
  exact ⟨b, o, e, (hk _ _ (lt_of_cell hc)).trans hc⟩
theorem Sl.below (h : Sl w A xs) (hb : Below w.heap.size w w') : Sl w' A xs := h.keep fun b o hl => hb.cell (p := ⟨b, o, none⟩) hl
theorem Sl.drewN (h : Sl w A xs) (n : Nat) : Sl (w.drewN n) A xs := h
theorem Sl.drew (h : Sl w A xs) : Sl w.drew A xs := h
theorem Sl.alloc (h : Sl w A xs) (o : Obj) : Sl (w.alloc o) A xs := h.keep fun b o' hl => World.cell?_alloc_lt w o ⟨b, o', none⟩ hl
theorem Sl.take (h : Sl w A xs) (n : Nat) : Sl w A (xs.take n) := fun k v hv => by
  rw [List.getElem?_take] at hv
  split at hv
  · exact h k v hv
  · cases hv
/-- 's[k:]': the model's address keeps its if -/
theorem Sl.cut (h : Sl w A xs) {k cap : Nat} (hl : xs.length ≤ cap) : Sl w (if cap = k then A else A.map (·.add k)) (xs.drop k) := fun j v hv => by
  rw [List.getElem?_drop] at hv
  have hlt := (List.getElem?_eq_some_iff.1 hv).1
  obtain ⟨b, o, e, hc⟩ := h _ v hv
  rw [if_neg (by omega), e]
  exact ⟨b, o + k, by simp [Addr.add], by rw [Nat.add_assoc]; exact hc⟩
/-- the end of a row of cells known whole -/
theorem Sl.of_cells {g : Nat} {cs : Array Value} (h : ∀ k, w.cell? ⟨g, k, none⟩ = cs[k]?) (hx : cs.toList.take xs.length = xs) : Sl w (some ⟨g, 0, none⟩) xs := fun k v hv => by
  refine ⟨g, 0, rfl, ?_⟩
  rw [Nat.zero_add, h]
  have hlt := (List.getElem?_eq_some_iff.1 hv).1
  rw [← hx, List.getElem?_take, if_pos hlt] at hv
  simpa using hv
theorem Sl.of_own {base : Nat} {e : TypeId} {size n c : Nat} (h : w.ownsRow base e size (.slice A n c) n xs) : Sl w A xs := fun k v hv => by
  have hlt := (List.getElem?_eq_some_iff.1 hv).1
  obtain ⟨hl, h2⟩ := h
  rcases h2 with ⟨_, rfl⟩ | ⟨g, cap, cur, hv', _, hh, _, _, _, ht⟩
  · simp at hl; subst hl; simp at hlt
  · have hA : A = some ⟨g, 0, none⟩ := by injection hv'
    subst hA
    refine ⟨g, 0, rfl, ?_⟩
    rw [← ht, List.getElem?_take] at hv
    split at hv
    · simp [World.cell?, hh]; simpa using hv
    · cases hv
end

theorem getElem_B8 {bs : List UInt8} {k : Nat} (hk : k < bs.length) : (bs.map B8)[k]'(by simpa using hk) = B8 bs[k] := by simp
theorem Sl.byte {w : World} {A : Option Addr} {bs : List UInt8} (h : Sl w A (bs.map B8)) {k : Nat} (hk : k < bs.length) :
    ∃ b o, A = some ⟨b, o, none⟩ ∧ w.cell? ⟨b, o + k, none⟩ = some (.int .u8 (bs[k].toNat : Int)) := by
  obtain ⟨b, o, e, hc⟩ := h.at_ (k := k) (by simpa using hk)
  rw [getElem_B8 hk] at hc
  exact ⟨b, o, e, hc⟩

/-- block g is just the cells cs of element type t, none frozen -/
def Blk (w : World) (g : Nat) (t : TypeId) (cs : List Value) : Prop := w.heap[g]? = some (.cells cs.toArray t (0, 0))
section
variable {w w' : World} {g : Nat} {t : TypeId} {cs : List Value}
theorem Blk.lt (h : Blk w g t cs) : g < w.heap.size := by
  rcases Nat.lt_or_ge g w.heap.size with hlt | hge
  · exact hlt
  · unfold Blk at h; rw [Array.getElem?_eq_none hge] at h; cases h
theorem Blk.cell (h : Blk w g t cs) (i : Nat) : w.cell? ⟨g, i, none⟩ = cs[i]? := by
  unfold Blk at h
  simp [World.cell?, h]
theorem Blk.frozen (h : Blk w g t cs) (i : Nat) : w.frozen? ⟨g, i, none⟩ = false := by
  unfold Blk at h
  simp [World.frozen?, h]
theorem Blk.new (w : World) (t : TypeId) (cs : Array Value) : Blk (w.alloc (.cells cs t)) w.heap.size t cs.toList := by
  unfold Blk
  show (w.heap.push _)[w.heap.size]? = _
  simp
theorem Blk.drewN (h : Blk w g t cs) (n : Nat) : Blk (w.drewN n) g t cs := h
theorem Blk.drew (h : Blk w g t cs) : Blk w.drew g t cs := h
theorem Blk.alloc (h : Blk w g t cs) (o : Obj) : Blk (w.alloc o) g t cs := (Below.heap_alloc w o g h.lt).trans h
theorem Blk.set_ (h : Blk w g t cs) (i : Nat) (u : Value) : Blk (w.setCell ⟨g, i, none⟩ u) g t (cs.set i u) := by
  unfold Blk at h ⊢
  simp [World.setCell, Array.getElem?_modify, h]
theorem Blk.far (h : Blk w g t cs) {p : Addr} (hp : g ≠ p.block) (u : Value) : Blk (w.setCell p u) g t cs := (Below.heap_setCell w p u g hp).trans h
theorem Blk.below {B : Nat} (h : Blk w g t cs) (hb : Below B w w') (hg : g < B) : Blk w' g t cs := (hb.block g hg).trans h
theorem Blk.sl (h : Blk w g t cs) : Sl w (some ⟨g, 0, none⟩) cs := fun k v hv => ⟨g, 0, rfl, by rw [Nat.zero_add, h.cell]; exact hv⟩
end
theorem Sl.new {W : World} {k : Nat} {C : Array Value} {t : TypeId} {fr : Nat × Nat} {xs : List Value} (hk : k = W.heap.size) (hx : xs = C.toList) : Sl (W.alloc (.cells C t fr)) (some ⟨k, 0, none⟩) xs := fun j v hv => by
  subst hk hx
  exact ⟨_, 0, rfl, by rw [Nat.zero_add, World.cell?_alloc_mark]; simpa using hv⟩
/-- '[]byte("constant")', whatever stands below the new block -/
theorem conv_bytes {P : Program} (t e : TypeId) (ht : P.underlying t = some (.slice e)) (he : P.underlying e = some (.int .u8)) (W : World) (C : Array Value) (k n c : Nat) (hk : k = W.heap.size) :
    (convert t t (.slice (some ⟨k, 0, none⟩) n c)).run P (W.alloc (.cells C e)) = .ok (.slice (some ⟨k, 0, none⟩) n c) (W.alloc (.cells C e (C.size, C.size + 1))) := by
  subst hk; exact Lib.run_convert_bytes_const W t e C n c ht he
theorem conv_bytesD {P : Program} (t e : TypeId) (ht : P.underlying t = some (.slice e)) (he : P.underlying e = some (.int .u8)) (W : World) (C : Array Value) (k n c m : Nat) (hk : k = W.heap.size) :
    (convert t t (.slice (some ⟨k, 0, none⟩) n c)).run P ((W.alloc (.cells C e)).drewN m) = .ok (.slice (some ⟨k, 0, none⟩) n c) ((W.alloc (.cells C e (C.size, C.size + 1))).drewN m) := by
  subst hk; exact Lib.run_convert_bytes_const (W.drewN m) t e C n c ht he
theorem grown_setCell (w : World) (b o : Nat) (v : Value) (m : Nat) : w.grownBy ((w.setCell ⟨b, o, none⟩ v).drewN m) (some b) :=
  ⟨rfl, rfl, rfl, by simp [World.setCell], fun k hk hne => Below.heap_setCell w ⟨b, o, none⟩ v k (fun e => hne (by rw [e]))⟩
theorem grown_cell {w w' : World} {b b2 o : Nat} (h : w.grownBy w' (some b)) (h2 : b2 < w.heap.size) (hne : b2 ≠ b) : w'.cell? ⟨b2, o, none⟩ = w.cell? ⟨b2, o, none⟩ :=
  World.cell?_of_block (a := ⟨b2, o, none⟩) (h.block b2 h2 (fun e => hne (by injection e)))
theorem grown_frozen {w w' : World} {b b2 o : Nat} (h : w.grownBy w' (some b)) (h2 : b2 < w.heap.size) (hne : b2 ≠ b) : w'.frozen? ⟨b2, o, none⟩ = w.frozen? ⟨b2, o, none⟩ :=
  World.frozen?_of_block (a := ⟨b2, o, none⟩) (h.block b2 h2 (fun e => hne (by injection e)))
theorem below_grown {B b : Nat} {a w w' : World} (h : Below B a w) (hg : w.grownBy w' (some b)) (hB : B ≤ w.heap.size) (hb : B ≤ b) : Below B a w' :=
  h.grown hg hB (fun k e => by injection e with e; omega)
theorem below_drewN {B : Nat} {a w : World} (h : Below B a w) (n : Nat) : Below B a (w.drewN n) := ⟨h.os, h.tape, h.output, h.size, h.block⟩

/-- nothing has turned but the count of draws -/
structure Q (w w' : World) : Prop where
  heap : w'.heap = w.heap
  os : w'.os = w.os
  tape : w'.tape = w.tape
  output : w'.output = w.output
section
variable {w w' : World}
theorem Q.refl (w : World) : Q w w := ⟨rfl, rfl, rfl, rfl⟩
theorem Q.drewN (w : World) (m : Nat) : Q w (w.drewN m) := ⟨rfl, rfl, rfl, rfl⟩
theorem Q.cell (h : Q w w') (a : Addr) : w'.cell? a = w.cell? a := by unfold World.cell?; rw [h.heap]
theorem Q.frozen (h : Q w w') (a : Addr) : w'.frozen? a = w.frozen? a := by unfold World.frozen?; rw [h.heap]
theorem Q.size (h : Q w w') : w'.heap.size = w.heap.size := by rw [h.heap]
theorem Q.below (h : Q w w') (B : Nat) : Below B w w' := ⟨h.os, h.tape, h.output, by rw [h.heap]; exact Nat.le_refl _, fun _ _ => by rw [h.heap]⟩
theorem toQ {P : Program} {f : FuncId} {args : Array Value} {v : Value} (h : Calls P f args w fun e w' => e = .returned v ∧ ∃ m, w' = w.drewN m) : Calls P f args w fun e w' => e = .returned v ∧ Q w w' :=
  h.mono fun _ _ ⟨he, m, hw⟩ => ⟨he, by subst hw; exact Q.drewN w m⟩
end
theorem cell_alloc {w : World} {b o : Nat} {v : Value} (h : w.cell? ⟨b, o, none⟩ = some v) (x : Obj) : (w.alloc x).cell? ⟨b, o, none⟩ = some v := (World.cell?_alloc_lt w x _ (lt_of_cell h)).trans h
theorem Blk.q {w w' : World} {g : Nat} {t : TypeId} {cs : List Value} (h : Blk w g t cs) (hq : Q w w') : Blk w' g t cs := by unfold Blk; rw [hq.heap]; exact h
theorem Sl.q {w w' : World} {A : Option Addr} {xs : List Value} (h : Sl w A xs) (hq : Q w w') : Sl w' A xs := h.keep fun _ _ _ => hq.cell _
/-- a part: its address, its capacity, its bytes -/
structure Part where
  A : Option Addr
  cap : Nat
  bs : List UInt8
def Part.cell (p : Part) : Value := .slice p.A p.bs.length p.cap
end Go.Mem
